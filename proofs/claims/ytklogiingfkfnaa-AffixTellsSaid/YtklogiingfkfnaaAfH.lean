/-
  affix: Shared, and the document's Shared, walked.
-/
import Derived.Test.YtklogiingfkfnaaAfF
import Derived.Test.YtklogiingfkfnaaInts
import Derived.Deep.RegionHeld3
import Derived.Deep.AppendLies
set_option linter.unusedSimpArgs false
set_option linter.unusedVariables false
namespace Go.Proofs.Ytklogiingfkfnaa
open Go.RowKit

theorem shrS_snoc : ∀ (a : List UInt8) (ws : List (List UInt8)) (k : Nat) {b c : List UInt8}, (a :: ws)[k]? = some b → ws[k]? = some c → shrS a (ws.take (k + 1)) = shrS a (ws.take k) ++ [(preL b c : Int)]
  | a, t :: r, 0, b, c, h1, h2 => by simp at h1 h2; subst h1; subst h2; simp [shrS]
  | a, t :: r, k + 1, b, c, h1, h2 => by
    rw [List.getElem?_cons_succ] at h1 h2
    have := shrS_snoc t r k h1 h2
    rw [List.take_succ_cons, List.take_succ_cons, shrS, shrS, this]; rfl
theorem shr_snoc {ws : List (List UInt8)} {k : Nat} {b c : List UInt8} (h1 : ([] :: ws)[k]? = some b) (h2 : ws[k]? = some c) : shr (ws.take (k + 1)) = shr (ws.take k) ++ [(preL b c : Int)] := shrS_snoc _ _ _ h1 h2
theorem shr_all (ws : List (List UInt8)) {k : Nat} (h : ws.length = k) : shr (ws.take k) = shr ws := by rw [List.take_of_length_le (by omega)]

set_option maxHeartbeats 1000000 in
theorem shared_any (a : Option Addr) (len cap : Nat) (ws : List (List UInt8)) (w : World) (hlen : len ≤ 1000000) (hr : IsStrs w a len ws) (ht : ∀ t ∈ ws, t.length ≤ 1000000000) :
    Calls Try.prog 24 #[.slice a len cap] w (RetI (shr ws) w) := by
  have hwl := hr.1
  have HI := Lib.hid hr
  have HT := Lib.hid ht
  obtain ⟨i0, hi, hz0, hz1, hz2⟩ := info_parts int_info
  clear hr ht
  go_enter Try.func24, Try.ntmps24
  go_wp2
  go_loopw [3, 4, 9] (fun v x i wr => ∃ (k : Nat) (acc : List Int) (b : List UInt8), k ≤ len ∧ i = .int .i64 k ∧ acc.length = k ∧ x = .string ⟨b.toArray⟩ ∧ b.length ≤ 1000000000 ∧ Hid (([] :: ws)[k]? = some b) ∧ Hid (shr (ws.take k) = acc) ∧ wr.ownsRow w.heap.size 3 1 v k (inCells acc) ∧ Below w.heap.size w wr) (fun _ _ i _ => len - (RowKit.intOf i).toNat)
  case atStart => exact ⟨0, [], [], Nat.zero_le _, rfl, rfl, rfl, by simp, Lib.hid rfl, Lib.hid rfl, World.ownsRow_nil _ _ _ _, Below.refl _ _⟩
  case round =>
    obtain ⟨k, acc, b, hk, rfl, hacc, rfl, hbl, HB, HK, hown, hbe⟩ := hrel
    have hsz := hbe.size
    by_cases hlt : k < len
    · obtain ⟨g, off, rfl, t, hf, hc⟩ := str_at HI.out hbe k hlt
      have htl := HT.out t (List.mem_of_getElem? hf)
      have HB2 : Hid (([] :: ws)[k + 1]? = some t) := Lib.hid (by rw [List.getElem?_cons_succ]; exact hf)
      have HK2 : Hid (shr (ws.take (k + 1)) = acc ++ [(preL b t : Int)]) := Lib.hid (by rw [shr_snoc HB.out hf, HK.out])
      have HP := Lib.hid (prefix_any b t wr hbl htl)
      clear hf HB HK
      generalize preL b t = x at HP HK2
      go_wp2_with fail
      refine HP.out.mono ?_
      rintro e w2 ⟨rfl, hb2⟩
      have hown2 := tx_below hown hb2
      have hbe2 := hbe.trans (hb2.mono hsz)
      have hsz2 := hbe2.size
      clear HP hb2 hown hbe hc
      go_wp2_with (at_builtin; refine wpList_append_own _ rfl _ _ 33 rfl w.heap.size 3 i0 (.int .i64 0) 1 8 Try.underlying33 hi hz0 hz1 hz2 rfl (by decide) _ _ _ rfl (hown2.alloc _) ⟨w2.heap.size, 0, none⟩ 1 1 [.int .i64 (x : Int)] rfl rfl (int_news (heap_alloc_new w2 _)) int_one (by unfold maxLen; omega) (by omega) (by simp; omega) ?_)
      intro v3 w3 hown3 hgrow _
      have h3 : Below w.heap.size w w3 := (hbe2.alloc hsz2 _).grown hgrow (by simp; omega) (fun k hk => (hown2.lt k hk).1)
      clear hgrow
      go_wp2
      exact ⟨⟨k + 1, acc ++ [(x : Int)], t, by omega, by go_num, by simp [hacc], rfl, htl, HB2, HK2, by rw [inCells_snoc]; exact hown3, h3⟩, by simp [RowKit.intOf]; omega⟩
    · obtain rfl : k = len := by omega
      have HR : Hid (shr ws = acc) := Lib.hid (by rw [← HK.out, shr_all ws hwl])
      rw [← hacc] at hown
      obtain ⟨ao, cap', rfl, hR⟩ := RetI.of (w := w) HR.out hown (by unfold maxLen; omega) hbe
      rw [hacc] at hR
      have HV := Lib.hid hR
      clear hown HK hR
      go_wp2
      go_ret
      have := HV.out
      rw [← hacc] at this ⊢
      exact this

set_option maxHeartbeats 2000000 in
theorem rshared_any (a : Option Addr) (len cap : Nat) (ws : List (List UInt8)) (w : World) (hlen : len ≤ 1000000) (hr : IsStrs w a len ws) (ht : ∀ t ∈ ws, t.length ≤ 1000000000) :
    Calls Try.prog 25 #[.slice a len cap] w (RetI (shr ws) w) := by
  have hwl := hr.1
  have HI := Lib.hid hr
  have HT := Lib.hid ht
  obtain ⟨i0, hi, hz0, hz1, hz2⟩ := info_parts int_info
  clear hr ht
  go_enter Try.func25, Try.ntmps25
  go_wp2
  go_loopw [3, 4] (fun v i wr => ∃ (k : Nat) (acc : List Int), k ≤ len ∧ i = .int .i64 k ∧ acc.length = k ∧ Hid (shr (ws.take k) = acc) ∧ wr.ownsRow w.heap.size 3 1 v k (inCells acc) ∧ Below w.heap.size w wr) (fun _ i _ => len - (RowKit.intOf i).toNat)
  case atStart => exact ⟨0, [], Nat.zero_le _, rfl, rfl, Lib.hid rfl, World.ownsRow_made w #[] 0 (Nat.le_refl _) (by unfold maxLen; omega) rfl, (Below.refl _ _).alloc (Nat.le_refl _) _⟩
  case round =>
    obtain ⟨k, acc, hk, rfl, hacc, HK, hown, hbe⟩ := hrel
    have hsz := hbe.size
    by_cases hlt : k < len
    · obtain ⟨g, off, rfl, t, hf, hc⟩ := str_at HI.out hbe k hlt
      have htl := HT.out t (List.mem_of_getElem? hf)
      by_cases h0 : k = 0
      · subst h0
        have HK2 : Hid (shr (ws.take (0 + 1)) = acc ++ [(0 : Int)]) := Lib.hid (by
          have := shr_snoc (ws := ws) (k := 0) (b := []) rfl hf
          rw [preL_nil] at this
          rw [this, HK.out]; rfl)
        clear hf HK
        go_wp2_with (at_builtin; refine wpList_append_own _ rfl _ _ 33 rfl w.heap.size 3 i0 (.int .i64 0) 1 8 Try.underlying33 hi hz0 hz1 hz2 rfl (by decide) _ _ _ rfl (hown.alloc _) ⟨wr.heap.size, 0, none⟩ 1 1 [.int .i64 0] rfl rfl (int_news (heap_alloc_new wr _)) int_one (by unfold maxLen; omega) (by omega) (by simp; omega) ?_)
        intro v3 w3 hown3 hgrow _
        have h3 : Below w.heap.size w w3 := (hbe.alloc hsz _).grown hgrow (by simp; omega) (fun k hk => (hown.lt k hk).1)
        clear hgrow
        go_wp2
        exact ⟨⟨1, acc ++ [(0 : Int)], by omega, by go_num, by simp [hacc], HK2, by rw [inCells_snoc]; exact hown3, h3⟩, by simp [RowKit.intOf]; omega⟩
      · obtain ⟨n, rfl⟩ : ∃ n, k = n + 1 := ⟨k - 1, by omega⟩
        obtain ⟨g2, off2, e2, b, hf2, hc2⟩ := str_at HI.out hbe n (by omega)
        cases e2
        have hbl := HT.out b (List.mem_of_getElem? hf2)
        have HK2 : Hid (shr (ws.take (n + 1 + 1)) = acc ++ [(preL b t : Int)]) := Lib.hid (by rw [shr_snoc (b := b) (by rw [List.getElem?_cons_succ]; exact hf2) hf, HK.out])
        have HP := Lib.hid (fun w => rprefix_draws b t w hbl htl)
        have hgl := World.block_lt_of_cell? wr _ hc
        have ag : u3.ownBlock ≠ some g := fun h => by
          have := (hown.lt g h).1
          have h5 := HI.out
          obtain ⟨b5, off5, e5, t5, hf5, hc5⟩ := str_at h5 (Below.refl _ _) n (by omega)
          cases e5
          have h6 : g < w.heap.size := World.block_lt_of_cell? w _ hc5
          omega
        clear hf hf2 HK
        generalize preL b t = x at HP HK2
        have e1 : ((n + 1 : Nat) : Int) = (n : Int) + 1 := by omega
        have hw1 : IntKind.i64.wrap (n : Int) = (n : Int) := by rw [IntKind.wrap_i64]; omega
        have hw2 : IntKind.i64.wrap ((n : Int) + 1 - 1) = (n : Int) := by rw [IntKind.wrap_i64]; omega
        have hw3 : ((n : Int)).toNat = n := by omega
        have g1 : (0 : Int) ≤ (n : Int) := by omega
        have g3 : (n : Int) + 1 < (len : Int) := by omega
        have g4 : (n : Int) < (len : Int) := by omega
        have g5 : ((n : Int) + 1).toNat = n + 1 := by omega
        have g6 : (0 : Int) ≤ (n : Int) + 1 := by omega
        have g7 : ¬ (n : Int) + 1 = 0 := by omega
        rw [e1]
        go_wp2_with fail
        go_region_held3 (fun w' => w'.cell? ⟨g, off + n, none⟩ = some (.string ⟨b.toArray⟩) ∧ w'.cell? ⟨g, off + (n + 1), none⟩ = some (.string ⟨t.toArray⟩))
          (first
            | go_keep
            | (go_split_ands
               refine ⟨?_, ?_⟩
               · (rw [hgrow.cell_far _ (by simp; omega) (Ne.symm ag)]; assumption)
               · (rw [hgrow.cell_far _ (by simp; omega) (Ne.symm ag)]; assumption)))
          (first
            | (go_at_call 7; refine (HP.out _).mono ?_; rintro e w2 ⟨rfl, nq, rfl⟩)
            | (refine step_append_lies _ (by rfl) _ _ _ (by rfl) w.heap.size 3 i0 _ 1 8 Try.underlying33 hi hz0 hz1 hz2 rfl (by omega) u3 (n + 1) (inCells acc) (by rfl) ((hown.alloc _).drew) ⟨wr.heap.size, 0, none⟩ 1 1 [.int .i64 (x : Int)] (by rfl) (by rfl) (int_news (heap_alloc_new wr _)) int_one (by omega) (by unfold maxLen; omega) (by omega) (by simp; omega) (wr.heap.size + 1) (by simp) ?_; intro gg cap' w1 hown1 hgrow hat hlt'))
        have hb1 : Below w.heap.size w w1 := ((below_drewS hbe (1 + nq)).alloc hsz _).grown hgrow (by simp; omega) (fun k hk => (hown.lt k hk).1)
        clear hgrow hat ag hlt'
        go_wp2
        exact ⟨⟨n + 1 + 1, acc ++ [(x : Int)], by omega, by go_num, by simp [hacc], HK2, by rw [inCells_snoc]; exact hown1, hb1⟩, by simp [RowKit.intOf]; omega⟩
    · obtain rfl : k = len := by omega
      have HR : Hid (shr ws = acc) := Lib.hid (by rw [← HK.out, shr_all ws hwl])
      rw [← hacc] at hown
      obtain ⟨ao, cap', rfl, hR⟩ := RetI.of (w := w) HR.out hown (by unfold maxLen; omega) hbe
      rw [hacc] at hR
      have HV := Lib.hid hR
      clear hown HK hR
      go_wp2
      go_ret
      have := HV.out
      rw [← hacc] at this ⊢
      exact this
end Go.Proofs.Ytklogiingfkfnaa
