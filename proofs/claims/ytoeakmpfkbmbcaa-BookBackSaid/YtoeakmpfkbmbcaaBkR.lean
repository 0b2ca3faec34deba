/-
  book: what is read, in memory; reader's number, ahead, fault: walked.
-/
import Derived.Test.YtoeakmpfkbmbcaaBkM
import Derived.Test.YtoeakmpfkbmbcaaVarT
import Derived.Test.YtoeakmpfkbmbcaaStr
import Derived.Outline
import Derived.IntWalk
set_option linter.unusedSimpArgs false
set_option linter.unusedVariables false
namespace Go.Proofs.Ytoeakmpfkbmbcaa
open Go.RowKit

/-- In block b lies what is read, these patterns, and what is left. -/
def IsReader (w : World) (B b : Nat) (L : List (List UInt8)) (s : List UInt8) : Prop :=
  B ≤ b ∧ ∃ v, w.heap[b]? = some (.cells #[v, .int .i64 (totalL L : Int), .string ⟨s.toArray⟩] 62 (0, 0)) ∧ w.ownsRow B 9 1 v L.length (txCells L)

theorem IsReader.drewN {w : World} {B b : Nat} {L : List (List UInt8)} {s : List UInt8} (h : IsReader w B b L s) (q : Nat) : IsReader (w.drewN q) B b L s := h

/-- What is read of it. -/
theorem IsReader.reads {w : World} {B b : Nat} {L : List (List UInt8)} {s : List UInt8} (h : IsReader w B b L s) : ∃ ao cap, w.cell? ⟨b, 0, none⟩ = some (.slice ao L.length cap) ∧ w.cell? ⟨b, 1, none⟩ = some (.int .i64 (totalL L : Int)) ∧ w.cell? ⟨b, 2, none⟩ = some (.string ⟨s.toArray⟩) ∧
    w.frozen? ⟨b, 0, none⟩ = false ∧ w.frozen? ⟨b, 1, none⟩ = false ∧ w.frozen? ⟨b, 2, none⟩ = false ∧ IsStrs w ao L.length L := by
  obtain ⟨_, v, h1, h2⟩ := h
  obtain ⟨ao, cap, rfl, hs⟩ := owns_strs h2
  refine ⟨ao, cap, ?_, ?_, ?_, Lib.frozen_of_heap h1 0, Lib.frozen_of_heap h1 1, Lib.frozen_of_heap h1 2, hs⟩ <;> rw [Lib.cell_of_heap h1] <;> rfl

theorem IsReader.left {w : World} {B b : Nat} {L : List (List UInt8)} {s : List UInt8} (h : IsReader w B b L s) (r : List UInt8) : IsReader (w.setCell ⟨b, 2, none⟩ (.string ⟨r.toArray⟩)) B b L r := by
  obtain ⟨hB, v, h1, h2⟩ := h
  exact ⟨hB, v, by rw [set_put h1]; rfl, ownsRow_setCell_other h2 (Lib.ownBlock_ne h2 h1 (by decide)) _⟩

set_option maxHeartbeats 1000000 in
theorem number_bad {w : World} {B b : Nat} {L : List (List UInt8)} {s : List UInt8} (h : IsReader w B b L s) (hs : s.length ≤ 1000000000) (he : ¬ tE s = 0) :
    Calls Try.prog 49 #[.pointer (some ⟨b, 0, none⟩)] w fun e w' => e = .returned (.tuple #[.int .i64 0, .int .i64 (tE s)]) ∧ w' = w := by
  obtain ⟨ao, cap, c0, c1, c2, f0, f1, f2, _⟩ := h.reads
  have HT := Lib.hid (take_any s w (by omega))
  have hs0 : tS s = 0 := by unfold tS; rw [if_neg he]
  have hn : tN s = 0 := by unfold tN; rw [if_neg he]
  rw [hs0, hn] at HT
  generalize tE s = x at HT he ⊢
  clear h hs0 hn
  go_enter Try.func49, Try.ntmps49
  go_wp2_with fail
  refine HT.out.mono ?_
  rintro e w' ⟨rfl, rfl⟩
  go_wp2
  go_ret2
  exact ⟨rfl, rfl⟩

set_option maxHeartbeats 1000000 in
theorem number_good {w : World} {B b : Nat} {L : List (List UInt8)} {s : List UInt8} (h : IsReader w B b L s) (hs : s.length ≤ 1000000000) (he : tE s = 0) :
    Calls Try.prog 49 #[.pointer (some ⟨b, 0, none⟩)] w fun e w' => e = .returned (.tuple #[.int .i64 (tN s), .int .i64 0]) ∧ IsReader w' B b L (pastB s) ∧ Below B w w' := by
  obtain ⟨ao, cap, c0, c1, c2, f0, f1, f2, _⟩ := h.reads
  have HT := Lib.hid (take_any s w (by omega))
  obtain ⟨p1, p2, _⟩ := put_take s he
  have HL := Lib.hid h.left
  have HB := Lib.hid h.1
  unfold pastB
  rw [he] at HT
  obtain ⟨k, hk⟩ : ∃ k : Nat, tS s = (k : Int) := ⟨(tS s).toNat, by omega⟩
  rw [hk] at HT p2 ⊢
  rw [Int.toNat_natCast]
  have hks : k ≤ s.length := by omega
  have x1 := ext_rest s k
  generalize tN s = n at HT ⊢
  clear h p1 p2 hk he
  go_enter Try.func49, Try.ntmps49
  go_wp2_with fail
  refine HT.out.mono ?_
  rintro e w' ⟨rfl, hw⟩
  obtain rfl := hw.symm
  go_wp2
  go_ret2
  exact ⟨rfl, HL.out _, (Below.refl _ _).setCell (p := ⟨b, 2, none⟩) HB.out _⟩

theorem last_at {L : List (List UInt8)} {n : Nat} {t : List UInt8} (h : L.length = n + 1) (ht : L[n]? = some t) : lastP L = t := by
  unfold lastP
  rw [List.getLastD_eq_getLast?, List.getLast?_eq_getElem?, show L.length - 1 = n by omega, ht]; rfl

set_option maxHeartbeats 1000000 in
theorem ahead_any {w : World} {B b : Nat} {L : List (List UInt8)} {s : List UInt8} (h : IsReader w B b L s) (hl : L.length ≤ 1000000) :
    Calls Try.prog 50 #[.pointer (some ⟨b, 0, none⟩)] w fun e w' => e = .returned (.string ⟨(lastP L).toArray⟩) ∧ ∃ q, w' = w.drewN q := by
  obtain ⟨ao, cap, c0, c1, c2, f0, f1, f2, hs⟩ := h.reads
  by_cases h0 : L.length = 0
  · obtain rfl := List.eq_nil_of_length_eq_zero h0
    clear h hs
    go_enter Try.func50, Try.ntmps50
    go_wp2
    go_ret
    exact ⟨rfl, 0, rfl⟩
  · obtain ⟨n, hn⟩ : ∃ n, L.length = n + 1 := ⟨L.length - 1, by omega⟩
    obtain ⟨g, off, rfl, t, ht, hc⟩ := str_at hs (Below.refl _ _) n (by omega)
    have HE := Lib.hid (last_at hn ht)
    rw [hn] at c0
    have e1 : ((n + 1 : Nat) : Int) = (n : Int) + 1 := by omega
    have hw1 : IntKind.i64.wrap (n : Int) = (n : Int) := by rw [IntKind.wrap_i64]; omega
    have hw2 : IntKind.i64.wrap ((n : Int) + 1 - 1) = (n : Int) := by rw [IntKind.wrap_i64]; omega
    have g1 : (0 : Int) ≤ (n : Int) := by omega
    have g2 : (n : Int) < (n : Int) + 1 := by omega
    have g3 : ((n : Int)).toNat = n := by omega
    have g4 : ((n : Int) + 1 == 0) = false := by simp; omega
    have g5 : ¬ ((n : Int) + 1 = 0) := by omega
    clear h hs h0 ht hn
    go_enter Try.func50, Try.ntmps50
    go_wp2_with fail
    go_quiet (fail)
    go_wp2
    go_ret
    exact ⟨by rw [HE.out]; rfl, _, rfl⟩
end Go.Proofs.Ytoeakmpfkbmbcaa
