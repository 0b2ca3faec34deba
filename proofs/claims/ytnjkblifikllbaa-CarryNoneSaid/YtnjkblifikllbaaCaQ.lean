/-
  carry.Pass: walked.
-/
import Derived.Test.YtnjkblifikllbaaCaP
set_option linter.unusedSimpArgs false
set_option linter.unusedVariables false
namespace Go.Proofs.Ytnjkblifikllbaa
open Go.RowKit

set_option maxHeartbeats 400000 in
theorem capass_nil (e : Int) (w : World) : Calls Try.prog 8 #[.pointer none, .int .i64 e] w fun e w' => e = .returned (.int .i64 1) ∧ w' = w := by
  go_enter Try.func8, Try.ntmps8
  go_wp2
  go_ret
  exact ⟨rfl, rfl⟩
set_option maxHeartbeats 1000000 in
theorem capass_bad {w : World} {base b keep done : Nat} {s : List UInt8} (h : IsCarry w base b keep s done) (e : Int) (he : e < (done : Int) ∨ (s.length : Int) < e) :
    Calls Try.prog 8 #[.pointer (some ⟨b, 0, none⟩), .int .i64 e] w fun x w' => x = .returned (.int .i64 11) ∧ w' = w := by
  obtain ⟨_, _, h3, h4, h5, gone, v, h6, hh, hown⟩ := h
  obtain ⟨⟨c0, c1, c2, c3⟩, _⟩ := carry_reads hh
  clear h6 hh hown
  by_cases h1 : e < (done : Int)
  · go_enter Try.func8, Try.ntmps8
    go_wp2
    go_ret
    exact ⟨rfl, rfl⟩
  · have h2 : (s.length : Int) < e := by omega
    go_enter Try.func8, Try.ntmps8
    go_wp2
    go_ret
    exact ⟨rfl, rfl⟩
set_option maxHeartbeats 1000000 in
theorem capass_any {w : World} {base b keep done : Nat} {s : List UInt8} (h : IsCarry w base b keep s done) (hs : s.length ≤ 1000000000) (e : Nat) (h1 : done ≤ e) (h2 : e ≤ s.length) :
    Calls Try.prog 8 #[.pointer (some ⟨b, 0, none⟩), .int .i64 (e : Int)] w fun x w' => x = .returned (.int .i64 0) ∧ IsCarry w' base b keep s e ∧ But w.heap.size b w w' := by
  obtain ⟨hb, hB, h3, h4, h5, gone, v, h6, hh, hown⟩ := h
  have HI : Hid (IsCarry (w.setCell ⟨b, 3, none⟩ (.int .i64 (e : Int))) base b keep s e) := Lib.hid ⟨hb, by simpa [World.setCell] using hB, h3, h4, h2, gone, v, by omega, (put_heap hh _).trans (by simp), ((Into.refl b w).set 3 _).owns hb hown⟩
  have HG := Lib.hid (cagive_any HI.out hs)
  have HN : Hid (But w.heap.size b w (w.setCell ⟨b, 3, none⟩ (.int .i64 (e : Int)))) := Lib.hid ⟨rfl, rfl, rfl, by simp [World.setCell], fun k _ hk => put_other hk _⟩
  have HZ : Hid ((w.setCell ⟨b, 3, none⟩ (.int .i64 (e : Int))).heap.size = w.heap.size) := Lib.hid (by simp [World.setCell])
  obtain ⟨⟨c0, c1, c2, c3⟩, f1, f2, f3⟩ := carry_reads hh
  have k1 : ¬ (e : Int) < (done : Int) := by omega
  have k2 : ¬ (s.length : Int) < (e : Int) := by omega
  clear h6 hh hown h1 h2 h5
  go_enter Try.func8, Try.ntmps8
  go_wp2_with fail
  refine HG.out.mono ?_
  rintro e' w3 ⟨rfl, hi, hbt⟩
  have K1 := Lib.hid hi
  have K2 := Lib.hid (HN.out.trans (by rw [HZ.out] at hbt; exact hbt))
  clear hi hbt HG HI HN HZ c0 c1 c2 c3 f1 f2 f3
  go_wp2
  go_ret
  exact ⟨rfl, K1.out, K2.out⟩
end Go.Proofs.Ytnjkblifikllbaa
