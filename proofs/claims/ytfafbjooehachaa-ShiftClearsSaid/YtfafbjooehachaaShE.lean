/-
  The ends that a table of shifts tells: Ends: walked.
-/
import Derived.Test.YtfafbjooehachaaShW
import Derived.Test.YtfafbjooehachaaInts
import Derived.Test.YtfafbjooehachaaOwnBe
set_option linter.unusedSimpArgs false
set_option linter.unusedVariables false
namespace Go.Proofs.Ytfafbjooehachaa
open Go.RowKit

theorem end_step {F : Nat → Nat} {s : List UInt8} {e f n : Nat} (h : e ≤ s.length) (hn : F (byN s (e - 1)) = n) : endG F s (f + 1) e = (if n = 0 then [(e : Int)] else []) ++ endG F s f (e + max n 1) := by
  rw [endG, if_pos h, hn]

set_option maxRecDepth 100000 in
set_option maxHeartbeats 4000000 in
theorem shends_any {w : World} {p : Option Addr} {F : Nat → Nat} {m : Nat} (h : HasTab w p F m) (s : List UInt8) (hs : s.length ≤ 1000000) (hm : m ≤ 1000000) (hF : ∀ c, F c ≤ m) :
    Calls Try.prog 16 #[.pointer p, .string ⟨s.toArray⟩] w (RetN (endL F m s) w) := by
  have HT := Lib.hid h
  have HL0 := Lib.hid (shleast_any h)
  have HFl := Lib.hid hF
  have S1 := Lib.hid (bsize s)
  clear h hF
  obtain ⟨i0, hi, hz0, hz1, hz2⟩ := info_parts int_info
  by_cases h0 : m = 0
  · subst h0
    rw [endL_none]
    go_enter Try.func16, Try.ntmps16
    go_wp2_with fail
    refine HL0.out.mono ?_
    rintro e w' ⟨rfl, rfl⟩
    go_wp2
    go_ret
    exact ⟨_, rfl, World.ownsRow_nil _ _ _ _, Below.refl _ _⟩
  · have HE := Lib.hid (endL_some (F := F) (s := s) (show 0 < m by omega))
    have q0 : ((m : Int) == 0) = false := by simp [h0]
    have hm0 : 0 < m := by omega
    clear h0
    go_enter Try.func16, Try.ntmps16
    go_wp2_with fail
    refine HL0.out.mono ?_
    rintro e w' ⟨rfl, hw⟩
    obtain rfl := hw.symm
    clear hw
    go_wp2_with fail
    refine HL0.out.mono ?_
    rintro e w' ⟨rfl, hw⟩
    obtain rfl := hw.symm
    clear hw
    go_wp2
    go_loopw [5, 6] (fun v x wr => ∃ (e f : Nat) (acc : List Int), 0 < e ∧ e ≤ s.length + 1 + m ∧ x = .int .i64 e ∧ s.length + 1 ≤ e + f ∧ Hid (acc ++ endG F s f e = endL F m s) ∧ acc.length ≤ e ∧ Hid (wr.ownsRow w.heap.size 3 1 v acc.length (inCells acc)) ∧ Below w.heap.size w wr) (fun _ x _ => s.length + 1 - (RowKit.intOf x).toNat)
    case atStart => exact ⟨m, s.length + 1, [], hm0, by omega, rfl, by omega, Lib.hid (by rw [HE.out]; rfl), Nat.zero_le _, Lib.hid (World.ownsRow_nil _ _ _ _), Below.refl _ _⟩
    case round =>
      obtain ⟨e, f, acc, he, he2, rfl, hef, HA, hac, HO, hbe⟩ := hrel
      obtain ⟨a2, cap2, rfl⟩ := owns_slice HO.out
      by_cases hlt : e ≤ s.length
      · obtain ⟨f, rfl⟩ : ∃ g, f = g + 1 := ⟨f - 1, by omega⟩
        obtain ⟨j, hj⟩ : ∃ j, j + 1 = e := ⟨e - 1, by omega⟩
        have hjl : j < s.length := by omega
        have hjz : j < (⟨s.toArray⟩ : ByteArray).size := by rw [bsize]; omega
        have w1 : IntKind.i64.wrap ((e : Int) - 1) = (j : Int) := by rw [IntKind.wrap_i64]; omega
        obtain ⟨c, hcc⟩ : ∃ c, (s[j]).toNat = c := ⟨_, rfl⟩
        have hc : c < 256 := by rw [← hcc]; exact UInt8.toNat_lt _
        have hq : ((⟨s.toArray⟩ : ByteArray)[j]'hjz).toNat = c := by rw [byteAt s j hjl hjz, hcc]
        have hby : byN s (e - 1) = c := by
          unfold byN
          rw [show e - 1 = j by omega]
          simp only [List.getD, List.getElem?_eq_getElem hjl, Option.getD_some, hcc]
        have HFi := Lib.hid (shfirst_any (HT.out.below hbe) c hc)
        have hst := end_step (F := F) (s := s) (e := e) (f := f) (n := F c) hlt (by rw [hby])
        have hle := HFl.out c
        rw [hst] at HA
        generalize F c = n at HFi HA hle
        have g2 : (e : Int) ≤ (s.length : Int) := by omega
        have HJ := Lib.hid hj
        clear hst hby hcc hj
        by_cases hn0 : n = 0
        · subst hn0
          have HA2 : Hid ((acc ++ [(e : Int)]) ++ endG F s f (e + 1) = endL F m s) := Lib.hid (by rw [← HA.out, List.append_assoc]; rfl)
          clear HA
          go_wp2_with fail
          refine HFi.out.mono ?_
          rintro e' w' ⟨rfl, hw⟩
          obtain rfl := hw.symm
          clear hw
          have hown := HO.out
          have hsz := hbe.size
          go_wp2_with (at_builtin; refine wpList_append_own _ rfl _ _ 39 rfl w.heap.size 3 i0 (.int .i64 0) 1 8 Try.underlying39 hi hz0 hz1 hz2 rfl (by decide) _ _ _ rfl (hown.alloc _) ⟨wr.heap.size, 0, none⟩ 1 1 [.int .i64 (e : Int)] rfl rfl (int_news (heap_alloc_new wr _)) int_one (by unfold maxLen; omega) (by omega) (by simp; omega) ?_)
          intro v' w3 hown3 hgrow _
          obtain ⟨a3, cap3, rfl⟩ := owns_slice hown3
          have HW := Lib.hid (show w3.ownsRow w.heap.size 3 1 (.slice a3 (acc.length + 1) cap3) (acc ++ [(e : Int)]).length (inCells (acc ++ [(e : Int)])) by rw [inCells_snoc, List.length_append]; exact hown3)
          have B3 : Below w.heap.size w w3 := own_below (w := wr) hbe hown (Nat.le_refl _) hgrow
          have w4 : IntKind.i64.wrap ((e : Int) + 1) = ((e + 1 : Nat) : Int) := by rw [IntKind.wrap_i64]; omega
          clear hown hown3 hgrow
          go_wp2
          exact ⟨⟨e + 1, f, acc ++ [(e : Int)], by omega, by omega, rfl, by omega, HA2, by rw [List.length_append, List.length_singleton]; omega, HW, B3⟩, by simp [RowKit.intOf]; omega⟩
        · have hn1 : (1 : Int) ≤ (n : Int) := by omega
          have q1 : ((n : Int) == 0) = false := by simp [hn0]
          have HA2 : Hid (acc ++ endG F s f (e + n) = endL F m s) := Lib.hid (by rw [← HA.out, if_neg hn0, List.nil_append, Nat.max_eq_left (by omega)])
          clear HA
          have mx1 : max (n : Int) 1 = (n : Int) := by omega
          have w4 : IntKind.i64.wrap ((e : Int) + (n : Int)) = ((e + n : Nat) : Int) := by rw [IntKind.wrap_i64]; omega
          go_wp2_with fail
          refine HFi.out.mono ?_
          rintro e' w' ⟨rfl, hw⟩
          obtain rfl := hw.symm
          clear hw
          go_wp2
          exact ⟨⟨e + n, f, acc, by omega, by omega, rfl, by omega, HA2, by omega, HO, hbe⟩, by simp [RowKit.intOf]; omega⟩
      · have g2 : ¬ (e : Int) ≤ (s.length : Int) := by omega
        have HR : Hid (endL F m s = acc) := Lib.hid (by rw [← HA.out, end_over (by omega), List.append_nil])
        clear HA
        go_wp2
        go_ret
        exact ⟨_, rfl, by rw [HR.out]; exact HO.out, hbe⟩
end Go.Proofs.Ytfafbjooehachaa
