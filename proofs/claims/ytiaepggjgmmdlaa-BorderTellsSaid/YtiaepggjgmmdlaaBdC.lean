/-
  border.All, Period, Whole: walked.
-/
import Derived.Test.YtiaepggjgmmdlaaBdW
set_option linter.unusedSimpArgs false
set_option linter.unusedVariables false
namespace Go.Proofs.Ytiaepggjgmmdlaa
open Go.RowKit

set_option maxHeartbeats 1000000 in
theorem ball_any (l : List UInt8) (w : World) (h : l.length ≤ 100000000) :
    Calls Try.prog 10 #[.string ⟨l.toArray⟩] w (RetI (dn (bd l) (l.length - 1)) w) := by
  have HS := Lib.hid (bsize l)
  obtain ⟨i0, hi, hz0, hz1, hz2⟩ := info_parts int_info
  have HT := Lib.hid (table_use l w h)
  go_enter Try.func10, Try.ntmps10
  go_wp2_with fail
  refine HT.out.mono ?_
  rintro e w1 ⟨a, cap, rfl, HR, hb1⟩
  have hs1 := hb1.size
  obtain ⟨b, off, rfl, hcell⟩ := tab_at HR.out (Below.refl _ _) l.length (Nat.le_refl _)
  rw [List.take_length] at hcell
  have hle := lon_le l
  have HD : Hid (dn (bd l) (l.length - 1) = [] ++ dn (bd l) (lonB l)) := Lib.hid (by rw [List.nil_append]; exact dn_mx _ _)
  have HO := Lib.hid (lon_or l)
  clear HT
  generalize lonB l = m at hcell hle HD HO
  have g0 : (0 : Int) ≤ (l.length : Int) := by omega
  have g1 : (l.length : Int) < (l.length : Int) + 1 := by omega
  go_wp2
  clear hcell g0 g1
  go_loopw [3, 5] (fun v i wr => ∃ (n : Nat) (acc : List Int), i = .int .i64 n ∧ Hid (n = 0 ∨ bd l n = true) ∧ Hid (dn (bd l) (l.length - 1) = acc ++ dn (bd l) n) ∧ acc.length + n ≤ l.length ∧ wr.ownsRow w1.heap.size 3 1 v acc.length (inCells acc) ∧ Below w1.heap.size w1 wr) (fun _ i _ => (RowKit.intOf i).toNat)
  case atStart => exact ⟨m, [], rfl, HO, HD, by simp; omega, World.ownsRow_nil _ _ _ _, Below.refl _ _⟩
  case round =>
    clear HD HO hle
    obtain ⟨n, acc, rfl, HO, HD, hac, hown, hbe⟩ := hrel
    have hsz := hbe.size
    by_cases h0 : 0 < n
    · have hbd : bd l n = true := by
        rcases HO.out with h | h
        · omega
        · exact h
      have HD2 : Hid (dn (bd l) (l.length - 1) = (acc ++ [(n : Int)]) ++ dn (bd l) (lonB (l.take n))) := Lib.hid (by rw [HD.out, bds_next hbd, List.append_assoc]; rfl)
      have hle := lon_le (l.take n)
      rw [len_take l (by omega)] at hle
      have HO2 : Hid (lonB (l.take n) = 0 ∨ bd l (lonB (l.take n)) = true) := Lib.hid (by
        rcases lon_or (l.take n) with h | h
        · exact .inl h
        · rw [bd_take hbd (by omega)] at h; exact .inr h)
      have HC : Hid (∀ w3, Below w1.heap.size w1 w3 → w3.cell? ⟨b, off + n, none⟩ = some (.int .i64 (lonB (l.take n) : Int))) := Lib.hid (fun w3 hb3 => by
        obtain ⟨b', off', ha, hc⟩ := tab_at HR.out hb3 n (by omega)
        cases ha
        exact hc)
      clear HD HO hbd
      generalize lonB (l.take n) = m at HD2 hle HO2 HC
      go_wp2_with (at_builtin; refine wpList_append_own _ rfl _ _ 24 rfl w1.heap.size 3 i0 (.int .i64 0) 1 8 Try.underlying24 hi hz0 hz1 hz2 rfl (by decide) _ _ _ rfl (hown.alloc _) ⟨wr.heap.size, 0, none⟩ 1 1 [.int .i64 (n : Int)] rfl rfl (int_news (heap_alloc_new wr _)) int_one (by unfold maxLen; omega) (by omega) (by simp; omega) ?_)
      intro v' w3 hown3 hgrow _
      have h3 : Below w1.heap.size w1 w3 := (hbe.alloc (by omega) _).grown hgrow (by simp; omega) (fun k hk => (hown.lt k hk).1)
      have hcell := HC.out w3 h3
      clear hgrow HC
      have g0 : (0 : Int) ≤ (n : Int) := by omega
      have g1 : (n : Int) < (l.length : Int) + 1 := by omega
      go_wp2
      refine ⟨⟨m, acc ++ [(n : Int)], rfl, HO2, HD2, by rw [List.length_append, List.length_singleton]; omega, ?_, h3⟩, by simp [RowKit.intOf]; omega⟩
      rw [inCells_snoc, List.length_append]
      exact hown3
    · obtain rfl : n = 0 := by omega
      have HD2 : Hid (dn (bd l) (l.length - 1) = acc) := Lib.hid (by rw [HD.out, show dn (bd l) 0 = [] from rfl, List.append_nil])
      obtain ⟨ao, cap', rfl, hR⟩ := RetI.of (w := w) HD2.out hown (by unfold maxLen; omega) (hb1.trans (hbe.mono hs1))
      have HV := Lib.hid hR
      clear hown HD HD2 hR
      go_wp2
      go_ret
      exact HV.out

set_option maxHeartbeats 1000000 in
theorem period_any (l : List UInt8) (w : World) (h : l.length ≤ 100000000) :
    Calls Try.prog 12 #[.string ⟨l.toArray⟩] w fun e w' => e = .returned (.int .i64 (per l : Int)) ∧ Below w.heap.size w w' := by
  have HS := Lib.hid (bsize l)
  have HT := Lib.hid (table_use l w h)
  go_enter Try.func12, Try.ntmps12
  go_wp2_with fail
  refine HT.out.mono ?_
  rintro e w1 ⟨a, cap, rfl, HR, hb1⟩
  obtain ⟨b, off, rfl, hcell⟩ := tab_at HR.out (Below.refl _ _) l.length (Nat.le_refl _)
  rw [List.take_length] at hcell
  have hle := lon_le l
  have HP : Hid ((per l : Int) = (l.length : Int) - (lonB l : Int)) := Lib.hid (by unfold per; omega)
  clear HT HR
  generalize lonB l = m at hcell hle HP
  have g0 : (0 : Int) ≤ (l.length : Int) := by omega
  have g1 : (l.length : Int) < (l.length : Int) + 1 := by omega
  go_wp2
  go_ret
  exact ⟨by rw [HP.out]; rfl, hb1⟩

set_option maxHeartbeats 1000000 in
theorem whole_any (l : List UInt8) (w : World) (h : l.length ≤ 100000000) :
    Calls Try.prog 14 #[.string ⟨l.toArray⟩] w fun e w' => e = .returned (.bool (wholeB l)) ∧ Below w.heap.size w w' := by
  have HS := Lib.hid (bsize l)
  have HT := Lib.hid (period_any l w h)
  have hpp : l.length = 0 ∨ 1 ≤ per l := by
    rcases Nat.eq_zero_or_pos l.length with h | h
    · exact .inl h
    · exact .inr (per_pos h)
  have HW : Hid (wholeB l = (decide (per l < l.length) && decide (l.length % per l = 0))) := Lib.hid (by unfold wholeB; rw [Bool.decide_and])
  generalize per l = p at HT hpp HW
  go_enter Try.func14, Try.ntmps14
  go_wp2_with fail
  refine HT.out.mono ?_
  rintro e w1 ⟨rfl, hb1⟩
  by_cases hp : p < l.length
  · have hn : ¬ (p : Int) = 0 := by omega
    go_wp2
    go_ret
    refine ⟨?_, hb1⟩
    show Ending.returned (.bool (((l.length : Int) % (p : Int)) == 0)) = _
    rw [HW.out, decide_eq_true hp, Bool.true_and, ← Int.natCast_emod]
    congr 2
    rw [Bool.eq_iff_iff, beq_iff_eq, decide_eq_true_iff]
    omega
  · go_wp2
    go_ret
    exact ⟨by rw [HW.out, decide_eq_false hp]; rfl, hb1⟩
end Go.Proofs.Ytiaepggjgmmdlaa
