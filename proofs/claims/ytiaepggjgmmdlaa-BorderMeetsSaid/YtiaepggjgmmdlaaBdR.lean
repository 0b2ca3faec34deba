/-
  The document's own answers for layer 8: Border, Longest, Table, All, Period: walked.
-/
import Derived.Test.YtiaepggjgmmdlaaBdM
import Derived.Test.YtiaepggjgmmdlaaInts
set_option linter.unusedSimpArgs false
set_option linter.unusedVariables false
namespace Go.Proofs.Ytiaepggjgmmdlaa
open Go.RowKit

theorem ext_front (l : List UInt8) (k : Nat) : (⟨l.toArray⟩ : ByteArray).extract 0 k = ⟨(l.take k).toArray⟩ := by rw [ext_cut, List.drop_zero]

set_option maxHeartbeats 1000000 in
theorem rborder_draws (l : List UInt8) (n : Nat) (w : World) (h : l.length ≤ 100000000) (h0 : 0 < n) (hn : n < l.length) :
    Calls Try.prog 20 #[.string ⟨l.toArray⟩, .int .i64 n] w fun e w' => e = .returned (.bool (bd l n)) ∧ ∃ q, w' = w.drewN q := by
  have HS := Lib.hid (bsize l)
  have HB : Hid (bd l n = (l.take n == l.drop (l.length - n))) := Lib.hid (by unfold bd; rw [decide_eq_true ⟨h0, hn⟩, Bool.true_and])
  have x1 := ext_front l n
  have x2 := ext_rest l (l.length - n)
  have g0 : (0 : Int) < (n : Int) := by omega
  have g1 : (n : Int) < (l.length : Int) := by omega
  have g2 : ((l.length : Int) - (n : Int)).toNat = l.length - n := by omega
  cases hq : (l.take n == l.drop (l.length - n)) with
  | true =>
    go_enter Try.func20, Try.ntmps20
    go_wp2_with fail
    go_quiet (fail)
    go_wp2
    go_ret
    exact ⟨by rw [HB.out, hq]; rfl, _, rfl⟩
  | false =>
    go_enter Try.func20, Try.ntmps20
    go_wp2_with fail
    go_quiet (fail)
    go_wp2
    go_ret
    exact ⟨by rw [HB.out, hq]; rfl, _, rfl⟩

theorem rborder_any (l : List UInt8) (n : Nat) (w : World) (h : l.length ≤ 100000000) (h0 : 0 < n) (hn : n < l.length) :
    Calls Try.prog 20 #[.string ⟨l.toArray⟩, .int .i64 n] w fun e w' => e = .returned (.bool (bd l n)) ∧ Below w.heap.size w w' := by
  refine (rborder_draws l n w h h0 hn).mono ?_
  rintro e w' ⟨rfl, q, rfl⟩
  exact ⟨rfl, below_drewS (Below.refl _ _) _⟩

set_option maxHeartbeats 1000000 in
theorem rlon_any (l : List UInt8) (w : World) (h : l.length ≤ 100000000) :
    Calls Try.prog 22 #[.string ⟨l.toArray⟩] w fun e w' => e = .returned (.int .i64 (lonB l : Int)) ∧ Below w.heap.size w w' := by
  have HS := Lib.hid (bsize l)
  go_enter Try.func22, Try.ntmps22
  go_wp2
  go_loopw [3] (fun i wr => ∃ n : Int, -1 ≤ n ∧ n ≤ (l.length : Int) - 1 ∧ i = .int .i64 n ∧ Hid (lonB l = mx (bd l) n.toNat) ∧ Below w.heap.size w wr) (fun i _ => (RowKit.intOf i).toNat)
  case atStart => exact ⟨(l.length : Int) - 1, by omega, by omega, rfl, Lib.hid (by unfold lonB; congr 1; omega), Below.refl _ _⟩
  case round =>
    obtain ⟨n, hn1, hn2, rfl, HW, hbe⟩ := hrel
    by_cases h0 : 0 < n
    · obtain ⟨m, rfl⟩ : ∃ m : Nat, n = ((m + 1 : Nat) : Int) := ⟨n.toNat - 1, by omega⟩
      have HB := Lib.hid (rborder_any l (m + 1) wr h (by omega) (by omega))
      rw [Int.toNat_natCast, mx_next] at HW
      have hsz := hbe.size
      cases hq : bd l (m + 1) with
      | true =>
        rw [hq] at HB
        have HR : Hid (lonB l = m + 1) := Lib.hid (by rw [HW.out, if_pos hq])
        clear HW hq
        have hm : ((m + 1 : Nat) : Int) = (m : Int) + 1 := by omega
        rw [hm] at HB ⊢
        go_wp2_with fail
        refine HB.out.mono ?_
        rintro e w2 ⟨rfl, hb2⟩
        go_wp2
        go_ret
        exact ⟨by rw [HR.out]; rfl, hbe.trans (hb2.mono hsz)⟩
      | false =>
        rw [hq] at HB
        have HR : Hid (lonB l = mx (bd l) m) := Lib.hid (by rw [HW.out, if_neg (by rw [hq]; decide)])
        clear HW hq
        have hm : ((m + 1 : Nat) : Int) = (m : Int) + 1 := by omega
        rw [hm] at HB ⊢
        go_wp2_with fail
        refine HB.out.mono ?_
        rintro e w2 ⟨rfl, hb2⟩
        go_wp2
        exact ⟨⟨(m : Int), by omega, by omega, by go_num, by rw [Int.toNat_natCast]; exact HR, hbe.trans (hb2.mono hsz)⟩, by simp [RowKit.intOf]⟩
    · have HR : Hid (lonB l = 0) := Lib.hid (by rw [HW.out, show n.toNat = 0 by omega]; rfl)
      clear HW
      go_wp2
      go_ret
      exact ⟨by rw [HR.out]; rfl, hbe⟩

set_option maxHeartbeats 2000000 in
theorem rtable_any (l : List UInt8) (w : World) (h : l.length ≤ 100000000) :
    Calls Try.prog 9 #[.string ⟨l.toArray⟩] w (RetI (tabQ l (l.length + 1)) w) := by
  have HS := Lib.hid (bsize l)
  obtain ⟨i0, hi, hz0, hz1, hz2⟩ := info_parts int_info
  go_enter Try.func9, Try.ntmps9
  go_wp2
  go_loopw [3, 4] (fun v i wr => ∃ (n : Nat), n ≤ l.length + 1 ∧ i = .int .i64 n ∧ wr.ownsRow w.heap.size 3 1 v n (inCells (tabQ l n)) ∧ Below w.heap.size w wr) (fun _ i _ => l.length + 1 - (RowKit.intOf i).toNat)
  case atStart => exact ⟨0, Nat.zero_le _, rfl, World.ownsRow_made w #[] 0 (Nat.le_refl _) (by unfold maxLen; omega) rfl, (Below.refl _ _).alloc (Nat.le_refl _) _⟩
  case round =>
    obtain ⟨n, hn, rfl, hown, hbe⟩ := hrel
    have hsz := hbe.size
    by_cases hlt : n ≤ l.length
    · have x1 := ext_front l n
      have HL := Lib.hid (rlon_any (l.take n) wr (by rw [List.length_take]; omega))
      have HN := Lib.hid (tabQ_next l n)
      generalize lonB (l.take n) = m at HL HN
      go_wp2_with fail
      refine HL.out.mono ?_
      rintro e w2 ⟨rfl, hb2⟩
      have hown2 := tx_below hown hb2
      have hbe2 := hbe.trans (hb2.mono hsz)
      have hsz2 := hbe2.size
      go_wp2_with (at_builtin; refine wpList_append_own _ rfl _ _ 24 rfl w.heap.size 3 i0 (.int .i64 0) 1 8 Try.underlying24 hi hz0 hz1 hz2 rfl (by decide) _ _ _ rfl (hown2.alloc _) ⟨w2.heap.size, 0, none⟩ 1 1 [.int .i64 (m : Int)] rfl rfl (int_news (heap_alloc_new w2 _)) int_one (by unfold maxLen; omega) (by omega) (by simp; omega) ?_)
      intro v' w3 hown3 hgrow _
      have h3 : Below w.heap.size w w3 := (hbe2.alloc (by omega) _).grown hgrow (by simp; omega) (fun k hk => (hown.lt k hk).1)
      clear hgrow
      go_wp2
      refine ⟨⟨n + 1, by omega, by go_num, ?_, h3⟩, by simp [RowKit.intOf]; omega⟩
      rw [HN.out, inCells_snoc]
      exact hown3
    · obtain rfl : n = l.length + 1 := by omega
      have hown2 : wr.ownsRow w.heap.size 3 1 u3 (tabQ l (l.length + 1)).length (inCells (tabQ l (l.length + 1))) := by rw [tabQ_length]; exact hown
      obtain ⟨ao, cap', rfl, hR⟩ := RetI.of (w := w) rfl hown2 (by rw [tabQ_length]; unfold maxLen; omega) hbe
      have HV := Lib.hid hR
      clear hown hown2 hR
      go_wp2
      go_ret
      exact HV.out

set_option maxHeartbeats 2000000 in
theorem rall_any (l : List UInt8) (w : World) (h : l.length ≤ 100000000) :
    Calls Try.prog 11 #[.string ⟨l.toArray⟩] w (RetI (dn (bd l) (l.length - 1)) w) := by
  have HS := Lib.hid (bsize l)
  obtain ⟨i0, hi, hz0, hz1, hz2⟩ := info_parts int_info
  go_enter Try.func11, Try.ntmps11
  go_wp2
  go_loopw [3, 4] (fun v i wr => ∃ (n : Int) (acc : List Int), -1 ≤ n ∧ n ≤ (l.length : Int) - 1 ∧ i = .int .i64 n ∧ (acc.length : Int) + n ≤ (l.length : Int) - 1 ∧ acc.length ≤ l.length ∧ Hid (dn (bd l) (l.length - 1) = acc ++ dn (bd l) n.toNat) ∧ wr.ownsRow w.heap.size 3 1 v acc.length (inCells acc) ∧ Below w.heap.size w wr) (fun _ i _ => (RowKit.intOf i).toNat)
  case atStart => exact ⟨(l.length : Int) - 1, [], by omega, by omega, rfl, by simp, by simp, Lib.hid (by rw [List.nil_append]; congr 1; omega), World.ownsRow_made w #[] 0 (Nat.le_refl _) (by unfold maxLen; omega) rfl, (Below.refl _ _).alloc (Nat.le_refl _) _⟩
  case round =>
    obtain ⟨n, acc, hn1, hn2, rfl, ha1, ha2, HW, hown, hbe⟩ := hrel
    have hsz := hbe.size
    by_cases h0 : 0 < n
    · obtain ⟨m, rfl⟩ : ∃ m : Nat, n = ((m + 1 : Nat) : Int) := ⟨n.toNat - 1, by omega⟩
      have HB := Lib.hid (rborder_any l (m + 1) wr h (by omega) (by omega))
      rw [Int.toNat_natCast, dn_next] at HW
      have hm : ((m + 1 : Nat) : Int) = (m : Int) + 1 := by omega
      cases hq : bd l (m + 1) with
      | true =>
        rw [hq] at HB
        have HR : Hid (dn (bd l) (l.length - 1) = (acc ++ [(m : Int) + 1]) ++ dn (bd l) m) := Lib.hid (by rw [HW.out, if_pos hq, hm, List.append_assoc]; rfl)
        clear HW hq
        rw [hm] at HB ⊢
        rw [hm] at ha1 hn1 hn2
        go_wp2_with fail
        refine HB.out.mono ?_
        rintro e w2 ⟨rfl, hb2⟩
        have hown2 := tx_below hown hb2
        have hbe2 := hbe.trans (hb2.mono hsz)
        have hsz2 := hbe2.size
        go_wp2_with (at_builtin; refine wpList_append_own _ rfl _ _ 24 rfl w.heap.size 3 i0 (.int .i64 0) 1 8 Try.underlying24 hi hz0 hz1 hz2 rfl (by decide) _ _ _ rfl (hown2.alloc _) ⟨w2.heap.size, 0, none⟩ 1 1 [.int .i64 ((m : Int) + 1)] rfl rfl (int_news (heap_alloc_new w2 _)) int_one (by unfold maxLen; omega) (by omega) (by simp; omega) ?_)
        intro v' w3 hown3 hgrow _
        have h3 : Below w.heap.size w w3 := (hbe2.alloc (by omega) _).grown hgrow (by simp; omega) (fun k hk => (hown.lt k hk).1)
        clear hgrow
        go_wp2
        refine ⟨⟨(m : Int), acc ++ [(m : Int) + 1], by omega, by omega, by go_num, by rw [List.length_append, List.length_singleton]; omega, by rw [List.length_append, List.length_singleton]; omega, by rw [Int.toNat_natCast]; exact HR, ?_, h3⟩, by simp [RowKit.intOf]⟩
        rw [inCells_snoc, List.length_append]
        exact hown3
      | false =>
        rw [hq] at HB
        have HR : Hid (dn (bd l) (l.length - 1) = acc ++ dn (bd l) m) := Lib.hid (by rw [HW.out, if_neg (by rw [hq]; decide)])
        clear HW hq
        rw [hm] at HB ⊢
        rw [hm] at ha1 hn1 hn2
        go_wp2_with fail
        refine HB.out.mono ?_
        rintro e w2 ⟨rfl, hb2⟩
        have hown2 := tx_below hown hb2
        have hbe2 := hbe.trans (hb2.mono hsz)
        clear hown
        go_wp2
        exact ⟨⟨(m : Int), acc, by omega, by omega, by go_num, by omega, ha2, by rw [Int.toNat_natCast]; exact HR, hown2, hbe2⟩, by simp [RowKit.intOf]⟩
    · have HR : Hid (dn (bd l) (l.length - 1) = acc) := Lib.hid (by rw [HW.out, show n.toNat = 0 by omega, show dn (bd l) 0 = [] from rfl, List.append_nil])
      obtain ⟨ao, cap', rfl, hR⟩ := RetI.of (w := w) HR.out hown (by unfold maxLen; omega) hbe
      have HV := Lib.hid hR
      clear hown HW hR
      go_wp2
      go_ret
      exact HV.out
end Go.Proofs.Ytiaepggjgmmdlaa
