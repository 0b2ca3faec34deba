/-
  ring.Len, Seen, At, walked.
-/
import Derived.Test.YtbdpdfdcenidkaaRgW
set_option linter.unusedSimpArgs false
set_option linter.unusedVariables false
namespace Go.Proofs.Ytbdpdfdcenidkaa
open Go.RowKit

theorem IsRing.facts {w : World} {base b size : Nat} {s : List UInt8} (h : IsRing w base b size s) : ∃ (room : List UInt8) (next : Nat) (a : Option Addr) (cap : Nat), RingM size s room next ∧
    w.cell? ⟨b, 0, none⟩ = some (.int .i64 size) ∧ w.cell? ⟨b, 1, none⟩ = some (.slice a room.length cap) ∧ w.cell? ⟨b, 2, none⟩ = some (.int .i64 next) ∧ w.cell? ⟨b, 3, none⟩ = some (.int .i64 s.length) ∧
    (0 < room.length → ∃ g, a = some ⟨g, 0, none⟩ ∧ room.length ≤ cap ∧ ∀ j (hj : j < room.length), w.cell? ⟨g, j, none⟩ = some (.int .u8 ((room[j]'hj).toNat : Int))) := by
  obtain ⟨hb, hB, room, next, v, hm, hh, hown⟩ := h
  obtain ⟨a, cap, rfl⟩ := owns_slice hown
  refine ⟨room, next, a, cap, hm, by rw [Lib.cell_of_heap hh]; rfl, by rw [Lib.cell_of_heap hh]; rfl, by rw [Lib.cell_of_heap hh]; rfl, by rw [Lib.cell_of_heap hh]; rfl, fun hp => ?_⟩
  obtain ⟨g, cap', hg, hc, e⟩ := owns_some hown hp
  cases e
  refine ⟨g, rfl, hc, fun j hj => ?_⟩
  rw [hown.cellAt j (by omega)]
  simp [Lib.byteCells, List.getElem?_eq_getElem hj]

set_option maxHeartbeats 400000 in
theorem rglen_nil (w : World) : Calls Try.prog 15 #[.pointer none] w fun e w' => e = .returned (.int .i64 0) ∧ w = w' := by
  go_enter Try.func15, Try.ntmps15
  go_wp2
  go_ret
  exact ⟨rfl, rfl⟩

set_option maxHeartbeats 400000 in
theorem rgseen_nil (w : World) : Calls Try.prog 16 #[.pointer none] w fun e w' => e = .returned (.int .i64 0) ∧ w = w' := by
  go_enter Try.func16, Try.ntmps16
  go_wp2
  go_ret
  exact ⟨rfl, rfl⟩

set_option maxHeartbeats 400000 in
theorem len_cells (b n cap : Nat) (a : Option Addr) (w : World) (c1 : w.cell? ⟨b, 1, none⟩ = some (.slice a n cap)) : Calls Try.prog 15 #[.pointer (some ⟨b, 0, none⟩)] w fun e w' => e = .returned (.int .i64 n) ∧ w = w' := by
  go_enter Try.func15, Try.ntmps15
  go_wp2
  go_ret
  exact ⟨rfl, rfl⟩

theorem rglen_any {w : World} {base b size : Nat} {s : List UInt8} (h : IsRing w base b size s) : Calls Try.prog 15 #[.pointer (some ⟨b, 0, none⟩)] w fun e w' => e = .returned (.int .i64 (lastL s size).length) ∧ w = w' := by
  obtain ⟨room, next, a, cap, hm, _, c1, _⟩ := h.facts
  rw [← hm.kept]
  exact len_cells b _ _ _ w c1

set_option maxHeartbeats 400000 in
theorem rgseen_any {w : World} {base b size : Nat} {s : List UInt8} (h : IsRing w base b size s) : Calls Try.prog 16 #[.pointer (some ⟨b, 0, none⟩)] w fun e w' => e = .returned (.int .i64 s.length) ∧ w = w' := by
  obtain ⟨room, next, a, cap, hm, _, _, _, c3, _⟩ := h.facts
  go_enter Try.func16, Try.ntmps16
  go_wp2
  go_ret
  exact ⟨rfl, rfl⟩

set_option maxHeartbeats 400000 in
theorem rgat_nil (d : Int) (w : World) : Calls Try.prog 12 #[.pointer none, .int .i64 d] w fun e w' => e = .returned (.tuple #[.int .u8 0, .bool false]) ∧ w = w' := by
  by_cases h0 : d < 0
  · go_enter Try.func12, Try.ntmps12
    go_wp2
    go_ret2
    exact ⟨rfl, rfl⟩
  · have h0' : 0 ≤ d := by omega
    go_enter Try.func12, Try.ntmps12
    go_wp2_with fail
    refine (rglen_nil w).mono ?_
    rintro e w' ⟨rfl, rfl⟩
    go_wp2
    go_ret2
    exact ⟨rfl, rfl⟩

set_option maxHeartbeats 400000 in
theorem at_out {w : World} {base b size : Nat} {s : List UInt8} (h : IsRing w base b size s) (d : Int) (hd : d < 0 ∨ (lastL s size).length ≤ d) :
    Calls Try.prog 12 #[.pointer (some ⟨b, 0, none⟩), .int .i64 d] w fun e w' => e = .returned (.tuple #[.int .u8 0, .bool false]) ∧ w = w' := by
  have HL := Lib.hid (rglen_any h)
  clear h
  by_cases h0 : d < 0
  · go_enter Try.func12, Try.ntmps12
    go_wp2
    go_ret2
    exact ⟨rfl, rfl⟩
  · have h1 : ((lastL s size).length : Int) ≤ d := by omega
    generalize (lastL s size).length = m at HL h1
    clear hd
    go_enter Try.func12, Try.ntmps12
    go_wp2_with fail
    refine HL.out.mono ?_
    rintro e w' ⟨rfl, rfl⟩
    go_wp2
    go_ret2
    exact ⟨rfl, rfl⟩

set_option maxHeartbeats 1000000 in
theorem at_in {w : World} {base b size : Nat} {s : List UInt8} (h : IsRing w base b size s) (d : Nat) (hs : s.length ≤ 1000000000) (x : UInt8) (hd : d < (lastL s size).length) (hx : (lastL s size)[(lastL s size).length - 1 - d]? = some x) :
    Calls Try.prog 12 #[.pointer (some ⟨b, 0, none⟩), .int .i64 d] w fun e w' => e = .returned (.tuple #[.int .u8 (x.toNat : Int), .bool true]) ∧ w = w' := by
  have HL := Lib.hid (rglen_any h)
  obtain ⟨room, next, a, cap, hm, _, c1, c2, _, hr⟩ := h.facts
  have hk := hm.kept
  rw [← hk] at hd HL
  have hxs : s[s.length - 1 - d]? = some x := by
    rw [← hx, ← hk]
    have hlen := hm.len
    unfold lastL
    rw [List.getElem?_drop]
    congr 1
    omega
  obtain ⟨b1, b2⟩ := hm.back d hd
  obtain ⟨g, rfl, hcap, hc⟩ := hr (by omega)
  have hin := hm.inside
  have hrl : room.length ≤ s.length := by have := hm.len; omega
  clear hm hr hx hk h
  rw [hxs] at b1 b2
  by_cases hn : d + 1 ≤ next
  · have h1 := b1 hn
    obtain ⟨hj, h1⟩ := List.getElem?_eq_some_iff.1 h1
    have hcell := hc _ hj
    rw [h1] at hcell
    clear hc b1 b2 h1 hxs
    generalize room.length = m at *
    obtain ⟨p, rfl⟩ : ∃ p, next = p + 1 + d := ⟨next - 1 - d, by omega⟩
    have h3 : ((p + 1 + d : Nat) : Int) - 1 - (d : Int) = (p : Int) := by omega
    rw [show p + 1 + d - 1 - d = p by omega] at hcell hj
    go_enter Try.func12, Try.ntmps12
    go_wp2_with fail
    refine HL.out.mono ?_
    rintro e w' ⟨rfl, rfl⟩
    go_wp2
    go_ret2
    exact ⟨rfl, rfl⟩
  · obtain ⟨hlt, h1⟩ := b2 (by omega)
    obtain ⟨hj, h1⟩ := List.getElem?_eq_some_iff.1 h1
    have hcell := hc _ hj
    rw [h1] at hcell
    clear hc b1 b2 h1 hxs
    generalize room.length = m at *
    have h3 : ((next : Int) - 1 - (d : Int) + (m : Int)).toNat = next + m - 1 - d := by omega
    rw [← h3] at hcell
    clear h3
    go_enter Try.func12, Try.ntmps12
    go_wp2_with fail
    refine HL.out.mono ?_
    rintro e w' ⟨rfl, rfl⟩
    go_wp2
    go_ret2
    exact ⟨rfl, rfl⟩
end Go.Proofs.Ytbdpdfdcenidkaa
