/-
  ring.Tail and Ends, walked.
-/
import Derived.Test.YtbdpdfdcenidkaaRgL
import Derived.Lib.MinMax
set_option linter.unusedSimpArgs false
set_option linter.unusedVariables false
namespace Go.Proofs.Ytbdpdfdcenidkaa
open Go.RowKit

theorem lastL_congr (l : List UInt8) {n m : Nat} (h : min l.length n = min l.length m) : lastL l n = lastL l m := by
  unfold lastL; congr 1; omega

/-- What a tail is. -/
def tailL (k : List UInt8) (n : Int) : List UInt8 := lastL k n.toNat
/-- Does it end with a text? -/
def endsB (k t : List UInt8) : Bool := decide (t.length ≤ k.length) && (lastL k t.length == t)

theorem ends_parts {k t A B : List UInt8} (h : t.length ≤ k.length) (e : A ++ B = lastL k t.length) : endsB k t = ((A == t.take A.length) && (B == t.drop A.length)) := by
  have hl : A.length + B.length = t.length := by
    have := congrArg List.length e
    rw [List.length_append, lastL_length] at this
    omega
  rw [endsB, ← e, Bool.eq_iff_iff]
  simp only [h, decide_true, Bool.true_and, beq_iff_eq, Bool.and_eq_true]
  constructor
  · intro h1; subst h1; simp
  · rintro ⟨h1, h2⟩
    have h3 := List.take_append_drop A.length t
    rw [← h1, ← h2] at h3
    exact h3

set_option maxHeartbeats 1000000 in
theorem tail_any {w : World} {base b size : Nat} {s : List UInt8} (h : IsRing w base b size s) (n : Int) (hs : s.length ≤ 1000000000) :
    Calls Try.prog 14 #[.pointer (some ⟨b, 0, none⟩), .int .i64 n] w fun e w' => e = .returned (.string ⟨(tailL (lastL s size) n).toArray⟩) ∧ ∃ k, w' = w.drewN k := by
  have HL := Lib.hid (rglen_any h)
  have hk := lastL_length s size
  obtain ⟨q, hq⟩ : ∃ q : Nat, min (max n 0) ((lastL s size).length : Int) = q := ⟨(min (max n 0) ((lastL s size).length : Int)).toNat, by omega⟩
  have hqn : q = min n.toNat (lastL s size).length := by omega
  have HA := Lib.hid (last_any h q hs (by omega))
  have HE : Hid (lastL s q = tailL (lastL s size) n) := Lib.hid (by
    unfold tailL
    rw [lastL_lastL]
    exact lastL_congr s (by omega))
  have HQ := Lib.hid hq
  have hms : (lastL s size).length ≤ 1000000000 := by omega
  generalize (lastL s size).length = m at HL HQ hms
  clear hq hk hqn h
  go_enter Try.func14, Try.ntmps14
  go_wp2_with fail
  refine HL.out.mono ?_
  rintro e w' ⟨rfl, rfl⟩
  go_wp2_with fail
  rw [HQ.out]
  refine HA.out.mono ?_
  rintro e w' ⟨u, v, A, B, rfl, hAB, ⟨a1, cap1, rfl, hA⟩, ⟨a2, cap2, rfl, hB⟩, k, rfl⟩
  have cA := hA (w.drewN k) rfl
  have cB := hB (w.drewN k) rfl
  have hab : A.length + B.length ≤ 1000000000 := by
    have := congrArg List.length hAB
    rw [List.length_append, lastL_length] at this
    omega
  have HAB := Lib.hid hAB
  clear hA hB hAB
  go_wp2
  go_ret
  refine ⟨?_, k, rfl⟩
  rw [← HE.out, ← HAB.out]
  simp [ByteArray.mk_append_mk]

set_option maxHeartbeats 1000000 in
theorem ends_long {w : World} {base b size : Nat} {s : List UInt8} (h : IsRing w base b size s) (t : List UInt8) (ht : t.length ≤ 1000000000) (hl : (lastL s size).length < t.length) :
    Calls Try.prog 13 #[.pointer (some ⟨b, 0, none⟩), .string ⟨t.toArray⟩] w fun e w' => e = .returned (.bool false) ∧ w = w' := by
  have HL := Lib.hid (rglen_any h)
  have HS := Lib.hid (bsize t)
  generalize (lastL s size).length = m at HL hl
  have hz : (m : Int) < ((⟨t.toArray⟩ : ByteArray).size : Int) := by rw [bsize]; omega
  clear h
  go_enter Try.func13, Try.ntmps13
  go_wp2_with fail
  refine HL.out.mono ?_
  rintro e w' ⟨rfl, rfl⟩
  go_wp2
  go_ret
  exact ⟨rfl, rfl⟩

set_option maxHeartbeats 1000000 in
theorem ends_short {w : World} {base b size : Nat} {s : List UInt8} (h : IsRing w base b size s) (t : List UInt8) (hs : s.length ≤ 1000000000) (hl : t.length ≤ (lastL s size).length) :
    Calls Try.prog 13 #[.pointer (some ⟨b, 0, none⟩), .string ⟨t.toArray⟩] w fun e w' => e = .returned (.bool (endsB (lastL s size) t)) ∧ ∃ k, w' = w.drewN k := by
  have HL := Lib.hid (rglen_any h)
  have HA := Lib.hid (last_any h t.length hs hl)
  have hk := lastL_length s size
  have HE : Hid (∀ A B : List UInt8, A ++ B = lastL s t.length → endsB (lastL s size) t = ((A == t.take A.length) && (B == t.drop A.length)) ∧ A.length ≤ t.length) := Lib.hid (fun A B e => by
    refine ⟨ends_parts hl ?_, ?_⟩
    · rw [e, lastL_lastL]; exact lastL_congr s (by omega)
    · have := congrArg List.length e
      rw [List.length_append, lastL_length] at this
      omega)
  have hms : (lastL s size).length ≤ 1000000000 := by omega
  generalize (lastL s size).length = m at HL hl hms
  generalize endsB (lastL s size) t = β at HE
  clear h hk
  go_enter Try.func13, Try.ntmps13
  go_wp2_with fail
  refine HL.out.mono ?_
  rintro e w' ⟨rfl, rfl⟩
  go_wp2_with fail
  refine HA.out.mono ?_
  rintro e w' ⟨u, v, A, B, rfl, hAB, ⟨a1, cap1, rfl, hA⟩, ⟨a2, cap2, rfl, hB⟩, k, rfl⟩
  obtain ⟨h1, h2⟩ := HE.out A B hAB
  have cA : ∀ q, (convert 40 9 (.slice a1 A.length cap1)).run Try.prog ((w.drewN k).drewN q) = .ok (.string ⟨A.toArray⟩) ((w.drewN k).drewN q) := fun q => hA _ rfl
  have cB : ∀ q, (convert 40 9 (.slice a2 B.length cap2)).run Try.prog ((w.drewN k).drewN q) = .ok (.string ⟨B.toArray⟩) ((w.drewN k).drewN q) := fun q => hB _ rfl
  obtain ⟨w1, HW⟩ : ∃ w1, Hid (w.drewN k = w1) := ⟨_, Lib.hid rfl⟩
  rw [HW.out] at cA cB ⊢
  clear HL HA HE hAB hA hB
  have x1 : (⟨t.toArray⟩ : ByteArray).extract 0 A.length = ⟨(t.take A.length).toArray⟩ := by rw [Lib.extract_eq]; simp
  have x2 : (⟨t.toArray⟩ : ByteArray).extract A.length t.length = ⟨(t.drop A.length).toArray⟩ := by rw [Lib.extract_eq]; simp [← List.drop_take]
  have H1 := Lib.hid h1
  clear h1
  cases h3 : (A == t.take A.length) with
  | true =>
    go_wp2_with fail
    go_quiet (fail)
    go_wp2
    go_ret
    refine ⟨?_, k + nq, by rw [← HW.out, World.drewN_drewN]⟩
    rw [H1.out, h3]
    rfl
  | false =>
    go_wp2_with fail
    go_quiet (fail)
    go_wp2
    go_ret
    refine ⟨?_, k + nq, by rw [← HW.out, World.drewN_drewN]⟩
    rw [H1.out, h3]
    rfl

theorem ends_any {w : World} {base b size : Nat} {s : List UInt8} (h : IsRing w base b size s) (t : List UInt8) (hs : s.length ≤ 1000000000) (ht : t.length ≤ 1000000000) :
    Calls Try.prog 13 #[.pointer (some ⟨b, 0, none⟩), .string ⟨t.toArray⟩] w fun e w' => e = .returned (.bool (endsB (lastL s size) t)) ∧ ∃ k, w' = w.drewN k := by
  rcases Nat.lt_or_ge (lastL s size).length t.length with hl | hl
  · refine (ends_long h t ht hl).mono ?_
    rintro e w' ⟨rfl, rfl⟩
    exact ⟨by rw [endsB, decide_eq_false (by omega)]; rfl, 0, rfl⟩
  · exact ends_short h t hs hl
end Go.Proofs.Ytbdpdfdcenidkaa
