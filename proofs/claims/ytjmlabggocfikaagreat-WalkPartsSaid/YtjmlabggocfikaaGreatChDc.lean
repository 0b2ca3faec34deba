/-
  The document's Cut: walked.
-/
import Derived.Test.YtjmlabggocfikaaGreatBn14
import Derived.Test.YtjmlabggocfikaaGreatBn2
set_option linter.unusedSimpArgs false
set_option linter.unusedVariables false
namespace Go.Proofs.YtjmlabggocfikaaGreat
open Go.RowKit


theorem part_cut (l : List UInt8) (a n : Nat) : (l.drop a).take n = (l.take (a + n)).drop a := by
  rw [List.drop_take, Nat.add_sub_cancel_left]

set_option maxHeartbeats 2000000 in
set_option maxRecDepth 100000 in
theorem rcut_any (l : List UInt8) (a : Option Addr) (len cap : Nat) (zs : List Int) (w : World) (h : l.length ≤ 1000000000) (hlen : len ≤ 1000000000) (hr : IsRow .i64 w a len cap zs) :
    Calls Tryz.prog 18 #[.string ⟨l.toArray⟩, .slice a len cap] w (RetL (cutL l (zs.take len)) w) := by
  have HS := Lib.hid (bsize l)
  obtain ⟨i0, hi, hz0, hz1, hz2⟩ := info_parts string_info
  go_enter Tryz.func18, Tryz.ntmps18
  go_wp2
  go_loopw [5, 6, 7] (fun v s i wr => ∃ (k at_ : Nat) (acc : List (List UInt8)), k ≤ len ∧ at_ ≤ l.length ∧ i = .int .i64 k ∧ s = .int .i64 at_ ∧ Hid (cutL l (zs.take len) = acc ++ cutL (l.drop at_) ((zs.take len).drop k)) ∧ acc.length = k ∧ wr.ownsRow w.heap.size 9 1 v acc.length (txCells acc) ∧ Below w.heap.size w wr) (fun _ _ i _ => len - (RowKit.intOf i).toNat)
  case atStart => exact ⟨0, 0, [], Nat.zero_le _, Nat.zero_le _, rfl, rfl, Lib.hid rfl, rfl, World.ownsRow_made w #[] 0 (Nat.le_refl _) (by unfold maxLen; omega) rfl, (Below.refl _ _).alloc (Nat.le_refl _) _⟩
  case round =>
    obtain ⟨k, at_, acc, hk, hat, rfl, rfl, HW, hac, hown, hbe⟩ := hrel
    have hsz := hbe.size
    by_cases hlt : k < len
    · obtain h0 | ⟨b, off, rfl, hcap, hm, hz, hc⟩ := hr.below hbe
      · omega
      have hcell := hc k (by omega)
      have HX := Lib.hid (drop_get zs len k hlt (by omega))
      clear hc
      generalize zs.getD k 0 = x at hcell HX
      have HW1 : Hid (cutL l (zs.take len) = (acc ++ [(l.drop at_).take x.toNat]) ++ cutL ((l.drop at_).drop x.toNat) ((zs.take len).drop (k + 1))) := Lib.hid (by
        rw [HW.out, HX.out, cutL_cons, List.append_assoc, List.singleton_append])
      clear HW HX
      have go : ∀ (M : Nat), at_ + M ≤ l.length → Hid ((l.drop at_).take x.toNat = (l.drop at_).take M ∧ (l.drop at_).drop x.toNat = l.drop (at_ + M)) → Hid (cutL l (zs.take len) = (acc ++ [(l.take (at_ + M)).drop at_]) ++ cutL (l.drop (at_ + M)) ((zs.take len).drop (k + 1))) := fun M hM H => Lib.hid (by
        rw [HW1.out, H.out.1, H.out.2, part_cut])
      clear HW1
      by_cases hx0 : x < 0
      · have HW2 := go 0 (by omega) (Lib.hid ⟨by rw [Int.toNat_of_nonpos (by omega)], by rw [Int.toNat_of_nonpos (by omega)]; simp⟩)
        clear go
        rw [Nat.add_zero, cut_none] at HW2
        go_wp2_with (at_builtin; refine wpList_append_own _ rfl _ _ 22 rfl w.heap.size 9 i0 (.string ByteArray.empty) 1 16 Tryz.underlying22 hi hz0 hz1 hz2 rfl (by decide) _ _ _ rfl (hown.alloc _) ⟨wr.heap.size, 0, none⟩ 1 1 [.string ByteArray.empty] rfl rfl (one_news (heap_alloc_new wr _)) str_one (by unfold maxLen; omega) (by omega) (by simp; omega) ?_)
        intro v' w3 hown3 hgrow _
        have h3 : Below w.heap.size w w3 := (hbe.alloc (by omega) _).grown hgrow (by simp; omega) (fun k hk => (hown.lt k hk).1)
        clear hgrow
        go_wp2
        refine ⟨⟨k + 1, at_, acc ++ [[]], by omega, by omega, by go_num, by go_num, HW2, by rw [List.length_append, List.length_singleton]; omega, ?_, h3⟩, by simp [RowKit.intOf]; omega⟩
        rw [txCells_snoc, List.length_append, hac]
        exact hown3
      · by_cases hx1 : (l.length : Int) - (at_ : Int) < x
        · have HW2 := go (l.length - at_) (by omega) (Lib.hid ⟨by rw [List.take_of_length_le (by rw [List.length_drop]; omega), List.take_of_length_le (by rw [List.length_drop]; omega)], by rw [List.drop_eq_nil_of_le (by rw [List.length_drop]; omega), List.drop_eq_nil_of_le (by omega)]⟩)
          have HE := Lib.hid (ext_cut l at_ l.length)
          clear go
          have hadd : at_ + (l.length - at_) = l.length := by omega
          rw [hadd] at HW2
          have hsum : (at_ : Int) + ((l.length : Int) - (at_ : Int)) = (l.length : Int) := by omega
          go_wp2_with (at_builtin; refine wpList_append_own _ rfl _ _ 22 rfl w.heap.size 9 i0 (.string ByteArray.empty) 1 16 Tryz.underlying22 hi hz0 hz1 hz2 rfl (by decide) _ _ _ rfl (hown.alloc _) ⟨wr.heap.size, 0, none⟩ 1 1 [.string ((⟨l.toArray⟩ : ByteArray).extract at_ l.length)] rfl rfl (one_news (heap_alloc_new wr _)) str_one (by unfold maxLen; omega) (by omega) (by simp; omega) ?_)
          intro v' w3 hown3 hgrow _
          rw [HE.out] at hown3
          have h3 : Below w.heap.size w w3 := (hbe.alloc (by omega) _).grown hgrow (by simp; omega) (fun k hk => (hown.lt k hk).1)
          clear hgrow
          go_wp2
          refine ⟨⟨k + 1, l.length, acc ++ [(l.take l.length).drop at_], by omega, by omega, by go_num, by go_num, HW2, by rw [List.length_append, List.length_singleton]; omega, ?_, h3⟩, by simp [RowKit.intOf]; omega⟩
          rw [txCells_snoc, List.length_append, hac]
          exact hown3
        · obtain ⟨M, rfl⟩ : ∃ M : Nat, x = (M : Int) := ⟨x.toNat, by omega⟩
          have g1 : (at_ : Int) + (M : Int) ≤ (l.length : Int) := by omega
          have g2 : at_ + M ≤ l.length := by omega
          have HW2 := go M (by omega) (Lib.hid ⟨by rw [Int.toNat_natCast], by rw [Int.toNat_natCast, List.drop_drop]⟩)
          have HE := Lib.hid (ext_cut l at_ (at_ + M))
          clear go
          go_wp2_with (at_builtin; refine wpList_append_own _ rfl _ _ 22 rfl w.heap.size 9 i0 (.string ByteArray.empty) 1 16 Tryz.underlying22 hi hz0 hz1 hz2 rfl (by decide) _ _ _ rfl (hown.alloc _) ⟨wr.heap.size, 0, none⟩ 1 1 [.string ((⟨l.toArray⟩ : ByteArray).extract at_ (at_ + M))] rfl rfl (one_news (heap_alloc_new wr _)) str_one (by unfold maxLen; omega) (by omega) (by simp; omega) ?_)
          intro v' w3 hown3 hgrow _
          rw [HE.out] at hown3
          have h3 : Below w.heap.size w w3 := (hbe.alloc (by omega) _).grown hgrow (by simp; omega) (fun k hk => (hown.lt k hk).1)
          clear hgrow
          go_wp2
          refine ⟨⟨k + 1, at_ + M, acc ++ [(l.take (at_ + M)).drop at_], by omega, by omega, by go_num, by go_num, HW2, by rw [List.length_append, List.length_singleton]; omega, ?_, h3⟩, by simp [RowKit.intOf]; omega⟩
          rw [txCells_snoc, List.length_append, hac]
          exact hown3
    · obtain rfl : k = len := by omega
      have HW2 : Hid (cutL l (zs.take k) = acc ++ cutL (l.drop at_) []) := Lib.hid (by
        have := HW.out
        rwa [List.drop_eq_nil_of_le (List.length_take_le _ _)] at this)
      clear HW
      by_cases h0 : at_ = l.length
      · subst h0
        have HW3 : Hid (cutL l (zs.take k) = acc) := Lib.hid (by rw [HW2.out, List.drop_length, cutL_nil, List.append_nil])
        obtain ⟨ao, cap', rfl, hfr⟩ := owns_strs hown
        clear hown HW2
        go_wp2
        go_ret
        exact RetL.mk (a := ao) (cap := cap') HW3.out rfl hfr hbe
      · have HW3 : Hid (cutL l (zs.take k) = acc ++ [l.drop at_]) := Lib.hid (by
          rw [HW2.out, cutL_rest (fun e => by have := congrArg List.length e; rw [List.length_drop, List.length_nil] at this; omega)])
        have HE := Lib.hid (ext_rest l at_)
        have hlt2 : at_ < l.length := by omega
        clear h0 HW2
        go_wp2_with (at_builtin; refine wpList_append_own _ rfl _ _ 22 rfl w.heap.size 9 i0 (.string ByteArray.empty) 1 16 Tryz.underlying22 hi hz0 hz1 hz2 rfl (by decide) _ _ _ rfl (hown.alloc _) ⟨wr.heap.size, 0, none⟩ 1 1 [.string ((⟨l.toArray⟩ : ByteArray).extract at_ l.length)] rfl rfl (one_news (heap_alloc_new wr _)) str_one (by unfold maxLen; omega) (by omega) (by simp; omega) ?_)
        intro v' w3 hown3 hgrow _
        rw [HE.out] at hown3
        have h3 : Below w.heap.size w w3 := (hbe.alloc (by omega) _).grown hgrow (by simp; omega) (fun k hk => (hown.lt k hk).1)
        clear hgrow
        obtain ⟨ao, cap', rfl, hfr⟩ := owns_strs (ws := acc ++ [l.drop at_]) (by rw [txCells_snoc, List.length_append, hac]; exact hown3)
        clear hown hown3
        go_wp2
        go_ret
        exact RetL.mk (a := ao) (cap := cap') HW3.out rfl hfr h3

end Go.Proofs.YtjmlabggocfikaaGreat
