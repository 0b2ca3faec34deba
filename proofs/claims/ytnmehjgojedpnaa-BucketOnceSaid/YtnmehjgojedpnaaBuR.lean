/-
  The document's own answers for layer 12: Of, Least, Bytes: walked.
-/
import Derived.Test.YtnmehjgojedpnaaBuB
set_option linter.unusedSimpArgs false
set_option linter.unusedVariables false
namespace Go.Proofs.Ytnmehjgojedpnaa
open Go.RowKit

theorem own_below {base : Nat} {e : TypeId} {v : Value} {n : Nat} {xs : List Value} {w0 w w' : World} {o : Obj} (hb : Below w0.heap.size w0 w) (hown : w.ownsRow base e 1 v n xs) (hbase : w0.heap.size ≤ base) (hg : (w.alloc o).grownBy w' v.ownBlock) : Below w0.heap.size w0 w' :=
  hb.trans ⟨hg.os, hg.tape, hg.output, Nat.le_trans (by simp) hg.size, fun i hi => by
    rw [hg.block i (by have := hb.size; simp; omega) (fun e => by have := (hown.lt i e.symm).1; omega), Lib.alloc_old _ _ i (by have := hb.size; omega)]⟩

theorem last_eq {t : List UInt8} {c m : Nat} (hm : m + 1 = t.length) (h : m < (⟨t.toArray⟩ : ByteArray).size) : (((((⟨t.toArray⟩ : ByteArray)[m]'h).toNat : Int)) == ((c : Nat) : Int)) = (lastN t == some c) := by
  have hlt : m < t.length := by omega
  rw [byteAt t m hlt h]
  have h2 := lastN_at (t := t) (c := c) (by omega)
  have e : t[t.length - 1]'(by omega) = t[m] := by congr 1; omega
  rw [e] at h2
  by_cases hq : (t[m]).toNat = c
  · rw [h2.2 hq, hq]; simp
  · have h3 : ¬ lastN t = some c := fun h => hq (h2.1 h)
    rw [beq_eq_false_iff_ne.2 h3, beq_eq_false_iff_ne]
    omega

set_option maxRecDepth 100000 in
set_option maxHeartbeats 4000000 in
theorem rbuof_any (a : Option Addr) (len cap c : Nat) (ws : List (List UInt8)) (w : World) (hlen : len ≤ 1000000) (hr : IsStrs w a len ws) (ht : ∀ t ∈ ws, t.length ≤ 1000000) (hc : c < 256) :
    Calls Try.prog 12 #[.slice a len cap, .int .u8 (c : Int)] w (RetN (idsL ws c) w) := by
  obtain ⟨i0, hi, hz0, hz1, hz2⟩ := info_parts int_info
  have hwl := hr.1
  have HT := Lib.hid ht
  have HR := Lib.hid hr
  clear ht hr
  go_enter Try.func12, Try.ntmps12
  go_wp2
  go_loopw [5, 6] (fun v i wr => ∃ k : Nat, k ≤ len ∧ i = .int .i64 k ∧ Hid (wr.ownsRow w.heap.size 3 1 v (idsK ws c k).length (inCells (idsK ws c k))) ∧ Below w.heap.size w wr) (fun _ i _ => len - (RowKit.intOf i).toNat)
  case atStart => exact ⟨0, Nat.zero_le _, rfl, Lib.hid (World.ownsRow_made w #[] 0 (Nat.le_refl _) (Nat.zero_le _) rfl), (Below.refl _ _).alloc (Nat.le_refl _) _⟩
  case round =>
    obtain ⟨k, hk, rfl, HO, hbe⟩ := hrel
    obtain ⟨a2, cap2, rfl⟩ := owns_slice HO.out
    by_cases hlt : k < len
    · obtain ⟨b, off, rfl, t, hf, hcell⟩ := str_at HR.out hbe k hlt
      have htl := HT.out t (List.mem_of_getElem? hf)
      have S1 := Lib.hid (bsize t)
      have hl := ids_length ws c k
      have hlt2 : (k : Int) < (len : Int) := by omega
      have hlt3 : (0 : Int) ≤ (k : Int) := by omega
      by_cases h0 : t.length = 0
      · have HB := Lib.hid (ids_miss (ws := ws) (c := c) (k := k) (by rw [ends_of hf, List.length_eq_zero_iff.1 h0]; simp [lastN_nil]))
        have he : t.isEmpty = true := by rw [List.length_eq_zero_iff.1 h0]; rfl
        clear hf h0
        go_wp2_with fail
        go_quiet (fail)
        go_wp2
        exact ⟨⟨k + 1, by omega, by go_num, by rw [HB.out]; exact HO, below_drewS hbe _⟩, by simp [RowKit.intOf]; omega⟩
      · obtain ⟨m, hm⟩ : ∃ m, m + 1 = t.length := ⟨t.length - 1, by omega⟩
        have he : t.isEmpty = false := by cases t with | nil => simp at h0 | cons _ _ => rfl
        have hml : m < t.length := by omega
        have hmz : m < (⟨t.toArray⟩ : ByteArray).size := by rw [bsize]; omega
        have w1 : IntKind.i64.wrap ((t.length : Int) - 1) = (m : Int) := by rw [IntKind.wrap_i64]; omega
        have hq := last_eq (c := c) hm hmz
        have HM := Lib.hid hm
        clear hm h0
        by_cases he2 : endsN ws c k = true
        · have HB := Lib.hid (ids_hit he2)
          rw [(show (lastN t == some c) = true by rw [← he2]; unfold endsN; rw [getD_of hf])] at hq
          clear hf he2
          go_wp2_with fail
          go_quiet (fail)
          have hown := HO.out
          have hs := hbe.size
          go_wp2_with (at_builtin; refine wpList_append_own _ rfl _ _ 34 rfl w.heap.size 3 i0 (.int .i64 0) 1 8 Try.underlying34 hi hz0 hz1 hz2 rfl (by decide) _ _ _ rfl ((show (wr.drewN nq).ownsRow w.heap.size 3 1 _ _ _ from hown).alloc _) ⟨wr.heap.size, 0, none⟩ 1 1 [.int .i64 (k : Int)] rfl rfl (int_news (heap_alloc_new _ _)) int_one (by unfold maxLen; omega) (by omega) (by simp; omega) ?_)
          intro v' w3 hown3 hgrow _
          obtain ⟨a3, cap3, rfl⟩ := owns_slice hown3
          have HW := Lib.hid (show w3.ownsRow w.heap.size 3 1 (.slice a3 ((idsK ws c k).length + 1) cap3) (idsK ws c (k + 1)).length (inCells (idsK ws c (k + 1))) by rw [HB.out, inCells_snoc, List.length_append]; exact hown3)
          have B3 : Below w.heap.size w w3 := own_below (w := wr.drewN nq) (below_drewS hbe _) hown (Nat.le_refl _) hgrow
          clear hown hown3 hgrow
          go_wp2
          exact ⟨⟨k + 1, by omega, by go_num, HW, B3⟩, by simp [RowKit.intOf]; omega⟩
        · have HB := Lib.hid (ids_miss he2)
          rw [(show (lastN t == some c) = false by rw [Bool.not_eq_true] at he2; rw [← he2]; unfold endsN; rw [getD_of hf])] at hq
          clear hf he2
          go_wp2_with fail
          go_quiet (fail)
          go_wp2
          exact ⟨⟨k + 1, by omega, by go_num, by rw [HB.out]; exact HO, below_drewS hbe _⟩, by simp [RowKit.intOf]; omega⟩
    · obtain rfl : k = len := by omega
      have hz : ¬ (k : Int) < (k : Int) := by omega
      go_wp2
      go_ret
      exact ⟨_, rfl, by unfold idsL; rw [hwl]; exact HO.out, hbe⟩

set_option maxRecDepth 100000 in
set_option maxHeartbeats 4000000 in
theorem rbuleast_any (a : Option Addr) (len cap c : Nat) (ws : List (List UInt8)) (w : World) (hlen : len ≤ 1000000) (hr : IsStrs w a len ws) (ht : ∀ t ∈ ws, t.length ≤ 1000000) (hc : c < 256) :
    Calls Try.prog 14 #[.slice a len cap, .int .u8 (c : Int)] w fun e w' => e = .returned (.int .i64 (lstL ws c : Int)) ∧ Below w.heap.size w w' := by
  have HC := Lib.hid (rbuof_any a len cap c ws w hlen hr ht hc)
  have hwl := hr.1
  have HT := Lib.hid ht
  have HR := Lib.hid hr
  have HA := Lib.hid (fun j (h : j < (idsL ws c).length) => ids_at h)
  have hil := ids_length ws c ws.length
  have HL := Lib.hid (show lstL ws c = lstK ws (idsL ws c) (idsL ws c).length from rfl)
  have HLE := Lib.hid (fun j => lst_le ht (idsL ws c) j)
  clear ht hr
  unfold idsL at hil
  change (idsL ws c).length ≤ _ at hil
  generalize idsL ws c = ids at HC HA HL HLE hil
  go_enter Try.func14, Try.ntmps14
  go_wp2_with fail
  refine HC.out.mono ?_
  rintro e w1 ⟨v, rfl, hown, hb1⟩
  obtain ⟨a2, cap2, rfl, hrow⟩ := row_of_ints hown (by unfold maxLen; omega)
  have HI := Lib.hid hrow
  clear hown hrow HC
  have hb1z := hb1.size
  go_wp2
  go_loopw [5, 7] (fun v i wr => ∃ k : Nat, k ≤ ids.length ∧ i = .int .i64 k ∧ v = .int .i64 (lstK ws ids k : Int) ∧ Below w1.heap.size w1 wr) (fun _ i _ => ids.length - (RowKit.intOf i).toNat)
  case atStart => exact ⟨0, Nat.zero_le _, rfl, rfl, Below.refl _ _⟩
  case round =>
    obtain ⟨k, hk, rfl, rfl, hbe⟩ := hrel
    by_cases hlt : k < ids.length
    · obtain ⟨m, t, hx, hf, _, _⟩ := HA.out k hlt
      have hml : m < len := by have := (List.getElem?_eq_some_iff.1 hf).1; omega
      obtain ⟨b, off, rfl, t', hf', hcell⟩ := str_at HR.out (hb1.trans (hbe.mono hb1z)) m hml
      obtain rfl : t' = t := Option.some.inj (hf'.symm.trans hf)
      obtain h0 | ⟨b2, off2, rfl, _, _, _, hci⟩ := HI.out.below hbe
      · omega
      have hc2 := hci k hlt
      rw [hx] at hc2
      have S1 := Lib.hid (bsize t')
      have htl := HT.out t' (List.mem_of_getElem? hf)
      have HN : Hid (lstK ws ids (k + 1) = if k = 0 ∨ t'.length < lstK ws ids k then t'.length else lstK ws ids k) := Lib.hid (by rw [lstK, hx, lenAt_of hf])
      have hle := HLE.out k
      generalize lstK ws ids k = M at HN hle
      clear hf hf' hx hci
      have g0 : (0 : Int) ≤ (k : Int) := by omega
      have g1 : (k : Int) < (ids.length : Int) := by omega
      have g2 : (0 : Int) ≤ (m : Int) := by omega
      have g3 : (m : Int) < (len : Int) := by omega
      by_cases hk0 : k = 0
      · subst hk0
        rw [if_pos (.inl rfl)] at HN
        rw [Nat.add_zero] at hc2
        go_wp2
        exact ⟨⟨1, by omega, by go_num, by rw [HN.out], hbe⟩, by simp [RowKit.intOf]; omega⟩
      · have q0 : ((k : Int) == 0) = false := by simp [hk0]
        by_cases hlt2 : t'.length < M
        · rw [if_pos (.inr hlt2)] at HN
          have q1 : (t'.length : Int) < (M : Int) := by omega
          go_wp2
          exact ⟨⟨k + 1, by omega, by go_num, by rw [HN.out], hbe⟩, by simp [RowKit.intOf]; omega⟩
        · rw [if_neg (fun h => h.elim hk0 hlt2)] at HN
          have q1 : ¬ (t'.length : Int) < (M : Int) := by omega
          go_wp2
          exact ⟨⟨k + 1, by omega, by go_num, by rw [HN.out], hbe⟩, by simp [RowKit.intOf]; omega⟩
    · obtain rfl : k = ids.length := by omega
      have hz : ¬ (ids.length : Int) < (ids.length : Int) := by omega
      go_wp2
      go_ret
      exact ⟨by rw [HL.out]; rfl, hb1.trans (hbe.mono hb1z)⟩

set_option maxRecDepth 100000 in
set_option maxHeartbeats 4000000 in
theorem rbubytes_any (a : Option Addr) (len cap : Nat) (ws : List (List UInt8)) (w : World) (hlen : len ≤ 1000000) (hr : IsStrs w a len ws) (ht : ∀ t ∈ ws, t.length ≤ 1000000) :
    Calls Try.prog 16 #[.slice a len cap] w fun e w' => e = .returned (.string ⟨(bytL ws).toArray⟩) ∧ Below w.heap.size w w' := by
  obtain ⟨i0, hi, hz0, hz1, hz2⟩ := info_parts bubyte_info
  have HC := Lib.hid (fun (wr : World) (hb : Below w.heap.size w wr) (k : Nat) (hk : k < 256) => rbuof_any a len cap k ws wr hlen (hr.below hb) ht hk)
  clear hr ht
  go_enter Try.func16, Try.ntmps16
  go_wp2
  go_loopw [3, 4] (fun v i wr => ∃ k : Nat, k ≤ 256 ∧ i = .int .i64 k ∧ Hid (wr.ownsRow w.heap.size 5 1 v (bytK ws k).length (Lib.byteCells (bytK ws k))) ∧ Below w.heap.size w wr) (fun _ i _ => 256 - (RowKit.intOf i).toNat)
  case atStart => exact ⟨0, Nat.zero_le _, rfl, Lib.hid (World.ownsRow_made w #[] 0 (Nat.le_refl _) (Nat.zero_le _) rfl), (Below.refl _ _).alloc (Nat.le_refl _) _⟩
  case round =>
    obtain ⟨k, hk, rfl, HO, hbe⟩ := hrel
    obtain ⟨a2, cap2, rfl⟩ := owns_slice HO.out
    by_cases hlt : k < 256
    · have HC2 := Lib.hid (HC.out wr hbe k hlt)
      have hl := byt_length ws k
      have hlt2 : (k : Int) < 256 := by omega
      have hw8 : IntKind.u8.wrap (k : Int) = (k : Int) := u8_wrap k hlt
      go_wp2_with fail
      refine HC2.out.mono ?_
      rintro e w2 ⟨v2, rfl, hown2, hb2⟩
      obtain ⟨a4, cap4, rfl⟩ := owns_slice hown2
      have hb3 := hbe.trans (hb2.mono hbe.size)
      have HO2 := Lib.hid (tx_below HO.out hb2)
      clear HO HC2 hown2
      by_cases h0 : (idsL ws k).length = 0
      · have HB := Lib.hid (byt_miss h0)
        have hg : ¬ ((0 : Int) < ((idsL ws k).length : Int)) := by omega
        go_wp2
        exact ⟨⟨k + 1, by omega, by go_num, by rw [HB.out]; exact HO2, hb3⟩, by simp [RowKit.intOf]; omega⟩
      · have HB := Lib.hid (byt_hit h0)
        have hg : (0 : Int) < ((idsL ws k).length : Int) := by omega
        have hown := HO2.out
        have hs2 := hb3.size
        go_wp2_with (at_builtin; refine wpList_append_own _ rfl _ _ 62 rfl w.heap.size 5 i0 (.int .u8 0) 1 1 Try.underlying62 hi hz0 hz1 hz2 rfl (by decide) _ _ _ rfl (hown.alloc _) ⟨w2.heap.size, 0, none⟩ 1 1 [.int .u8 (k : Int)] rfl rfl (int_news (heap_alloc_new _ _)) bubyte_one (by unfold maxLen; omega) (by omega) (by simp; omega) ?_)
        intro v' w3 hown3 hgrow _
        obtain ⟨a3, cap3, rfl⟩ := owns_slice hown3
        have HW := Lib.hid (show w3.ownsRow w.heap.size 5 1 (.slice a3 ((bytK ws k).length + 1) cap3) (bytK ws (k + 1)).length (Lib.byteCells (bytK ws (k + 1))) by rw [HB.out, bucells_snoc _ _ hlt, List.length_append]; exact hown3)
        have B3 : Below w.heap.size w w3 := own_below hb3 hown (Nat.le_refl _) hgrow
        clear hown hown3 hgrow
        go_wp2
        exact ⟨⟨k + 1, by omega, by go_num, HW, B3⟩, by simp [RowKit.intOf]; omega⟩
    · obtain rfl : k = 256 := by omega
      have hct := own_text HO.out
      have hz : ¬ ((256 : Nat) : Int) < 256 := by omega
      go_wp2
      go_ret
      exact ⟨rfl, hbe⟩
end Go.Proofs.Ytnmehjgojedpnaa
