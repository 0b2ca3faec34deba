/-
  ring.last, walked: the last bytes, in two pieces of the room.
-/
import Derived.Test.YtbdpdfdcenidkaaRgR
import Derived.Laws.IdiomStrings
set_option linter.unusedSimpArgs false
set_option linter.unusedVariables false
namespace Go.Proofs.Ytbdpdfdcenidkaa
open Go.RowKit

/-- A slice of bytes, as a string says it. -/
def Bts (w : World) (v : Value) (l : List UInt8) : Prop :=
  ∃ (a : Option Addr) (cap : Nat), v = .slice a l.length cap ∧ ∀ W : World, W.heap = w.heap → (convert 40 9 v).run Try.prog W = .ok (.string ⟨l.toArray⟩) W

theorem bts_nil (w : World) : Bts w (.slice none 0 0) [] := by
  refine ⟨none, 0, rfl, fun W _ => ?_⟩
  rw [run_convert_bytes_string W 40 9 5 none 0 0 Try.underlying40 Try.underlying5 Try.underlying9]
  rfl

theorem bts_some (w : World) (g off n cap : Nat) (l : List UInt8) (hn : n = l.length) (hc : ∀ j (hj : j < l.length), w.cell? ⟨g, off + j, none⟩ = some (.int .u8 ((l[j]'hj).toNat : Int))) : Bts w (.slice (some ⟨g, off, none⟩) n cap) l := by
  subst hn
  refine ⟨_, cap, rfl, fun W hW => run_convert_bytes_back W 40 9 5 _ _ l Try.underlying40 Try.underlying5 Try.underlying9 (fun j hj => ?_)⟩
  rw [addPlain, World.cell?_of_block (w := w) (by rw [hW])]
  exact hc j hj

/-- The last n bytes, as an answer. -/
def RetLast (w : World) (s : List UInt8) (n : Nat) (e : Ending) (w' : World) : Prop :=
  ∃ (u v : Value) (A B : List UInt8), e = .returned (.tuple #[u, v]) ∧ A ++ B = lastL s n ∧ Bts w u A ∧ Bts w v B ∧ ∃ k, w' = w.drewN k

set_option maxHeartbeats 400000 in
theorem last_zero (r : Value) (s : List UInt8) (w : World) :
    Calls Try.prog 21 #[r, .int .i64 0] w (RetLast w s 0) := by
  go_enter Try.func21, Try.ntmps21
  go_wp2
  go_ret2
  exact ⟨_, _, [], [], rfl, (lastL_zero s).symm, bts_nil w, bts_nil w, 0, rfl⟩

set_option maxHeartbeats 1000000 in
theorem last_one {w : World} {base b size : Nat} {s : List UInt8} (h : IsRing w base b size s) (n : Nat) (hs : s.length ≤ 1000000000) (h0 : 0 < n) (hn : n ≤ (lastL s size).length) :
    Calls Try.prog 21 #[.pointer (some ⟨b, 0, none⟩), .int .i64 n] w (RetLast w s n) := by
  obtain ⟨room, next, a, cap, hm, _, c1, c2, _, hr⟩ := h.facts
  rw [← hm.kept] at hn
  obtain ⟨g, rfl, hcap, hc⟩ := hr (by omega)
  have hin := hm.inside
  have hrl : room.length ≤ s.length := by have := hm.len; omega
  clear hr h
  by_cases h1 : n ≤ next
  · have HP := Lib.hid (hm.piece n hn h1)
    have HC := Lib.hid hc
    have hz : ((n : Int) == 0) = false := by simp; omega
    have k1 : (n : Int) ≤ (next : Int) := by omega
    have k2 : (0 : Int) ≤ (next : Int) - (n : Int) := by omega
    have k3 : (next : Int) ≤ (cap : Int) := by omega
    clear hm hc
    go_enter Try.func21, Try.ntmps21
    go_wp2_with fail
    go_quiet (fail)
    go_wp2
    go_ret2
    refine ⟨_, _, [], (room.take next).drop (next - n), rfl, HP.out, bts_nil w, bts_some w g (next - n) _ _ _ ?_ fun j hj => ?_, _, rfl⟩
    · rw [List.length_drop, List.length_take]; omega
    · rw [List.length_drop, List.length_take] at hj
      rw [HC.out _ (by omega)]
      simp
  · have hz : ((n : Int) == 0) = false := by simp; omega
    have k1 : ¬ (n : Int) ≤ (next : Int) := by omega
    have k2 : (0 : Int) ≤ (room.length : Int) - (n : Int) + next := by omega
    obtain ⟨hsz, hp⟩ := hm.pieces n hn (by omega)
    have HP := Lib.hid hp
    have HC := Lib.hid hc
    have k4 : (room.length : Int) - (n : Int) + next ≤ (room.length : Int) := by omega
    have k3 : (next : Int) ≤ (cap : Int) := by omega
    clear hm hc hsz hp
    go_enter Try.func21, Try.ntmps21
    go_wp2_with fail
    go_quiet (fail)
    go_wp2
    go_ret2
    refine ⟨_, _, room.drop (room.length - n + next), room.take next, rfl, HP.out, bts_some w g _ _ _ _ ?_ fun j hj => ?_, bts_some w g 0 _ _ _ ?_ fun j hj => ?_, _, rfl⟩
    · rw [List.length_drop]
    · rw [List.length_drop] at hj
      rw [HC.out _ (by omega)]
      simp
    · rw [List.length_take]; omega
    · rw [List.length_take] at hj
      rw [HC.out _ (by omega)]
      simp

theorem last_any {w : World} {base b size : Nat} {s : List UInt8} (h : IsRing w base b size s) (n : Nat) (hs : s.length ≤ 1000000000) (hn : n ≤ (lastL s size).length) :
    Calls Try.prog 21 #[.pointer (some ⟨b, 0, none⟩), .int .i64 n] w (RetLast w s n) := by
  rcases Nat.eq_zero_or_pos n with rfl | h0
  · exact last_zero _ s w
  · exact last_one h n hs h0 hn
end Go.Proofs.Ytbdpdfdcenidkaa
