/-
  The document's own answers for layer 13: Has, First, Ends: walked.
-/
import Derived.Test.YtfafbjooehachaaShM
import Derived.Test.YtfafbjooehachaaInts
import Derived.Test.YtfafbjooehachaaOwnBe
import Derived.Test.YtfafbjooehachaaPtRl
set_option linter.unusedSimpArgs false
set_option linter.unusedVariables false
namespace Go.Proofs.Ytfafbjooehachaa
open Go.RowKit

theorem has_next {ws : List (List UInt8)} {k c d : Nat} {t : List UInt8} (h : ws[k]? = some t) (hk : hasD (ws.take k) c d = false) : hasD (ws.take (k + 1)) c d = atD t c d := by
  have hlt := (List.getElem?_eq_some_iff.1 h).1
  have ht := (List.getElem?_eq_some_iff.1 h).2
  unfold hasD at *
  rw [List.take_succ_eq_append_getElem hlt, List.any_append, ht, hk]
  simp
theorem has_hit {ws : List (List UInt8)} {k c d : Nat} {t : List UInt8} (h : ws[k]? = some t) (ha : atD t c d = true) : hasD ws c d = true := List.any_eq_true.2 ⟨t, List.mem_of_getElem? h, ha⟩

set_option maxRecDepth 100000 in
set_option maxHeartbeats 4000000 in
theorem rhas_any (a : Option Addr) (len cap c d : Nat) (ws : List (List UInt8)) (w : World) (hlen : len ≤ 1000000) (hr : IsStrs w a len ws) (ht : ∀ t ∈ ws, t.length ≤ 1000000) (hd : d ≤ 1000000) :
    Calls Try.prog 29 #[.slice a len cap, .int .u8 (c : Int), .int .i64 (d : Int)] w fun e w' => e = .returned (.bool (hasD ws c d)) ∧ Below w.heap.size w w' := by
  have hwl := hr.1
  have HT := Lib.hid ht
  have HR := Lib.hid hr
  clear ht hr
  obtain ⟨R, hR⟩ : ∃ R, hasD ws c d = R := ⟨_, rfl⟩
  rw [hR]
  have HRR := Lib.hid hR
  clear hR
  go_enter Try.func29, Try.ntmps29
  go_wp2
  go_loopw [7] (fun i wr => ∃ k : Nat, k ≤ len ∧ i = .int .i64 k ∧ Hid (hasD (ws.take k) c d = false) ∧ Below w.heap.size w wr) (fun i _ => len - (RowKit.intOf i).toNat)
  case atStart => exact ⟨0, Nat.zero_le _, rfl, Lib.hid rfl, Below.refl _ _⟩
  case round =>
    obtain ⟨k, hk, rfl, HK, hbe⟩ := hrel
    by_cases hlt : k < len
    · obtain ⟨b, off, rfl, t, hf, hcell⟩ := str_at HR.out hbe k hlt
      have htl := HT.out t (List.mem_of_getElem? hf)
      have S1 := Lib.hid (bsize t)
      have HN := Lib.hid (has_next (c := c) (d := d) hf HK.out)
      have HH := Lib.hid (fun h => has_hit (c := c) (d := d) hf h)
      have hlt2 : (k : Int) < (len : Int) := by omega
      have hlt3 : (0 : Int) ≤ (k : Int) := by omega
      clear hf HK
      by_cases hdl : d < t.length
      · obtain ⟨q, hq1⟩ : ∃ q, q + 1 = t.length := ⟨t.length - 1, by omega⟩
        obtain ⟨j, hj⟩ : ∃ j, j + 1 + d = t.length := ⟨t.length - 1 - d, by omega⟩
        have w1 : IntKind.i64.wrap ((t.length : Int) - 1) = (q : Int) := by rw [IntKind.wrap_i64]; omega
        have w2 : IntKind.i64.wrap ((q : Int) - (d : Int)) = (j : Int) := by rw [IntKind.wrap_i64]; omega
        have hjl : j < t.length := by omega
        have hjz : j < (⟨t.toArray⟩ : ByteArray).size := by rw [bsize]; omega
        have gd : (d : Int) < (t.length : Int) := by omega
        have hat : atD t c d = ((((⟨t.toArray⟩ : ByteArray)[j]'hjz).toNat : Int) == (c : Int)) := by
          rw [byteAt t j hjl hjz]
          unfold atD
          rw [decide_eq_true hdl, Bool.true_and, show t.length - 1 - d = j by omega]
          simp only [List.getD, List.getElem?_eq_getElem hjl, Option.getD_some]
          by_cases e : (t[j]).toNat = c
          · rw [e]; simp
          · rw [beq_eq_false_iff_ne.2 e, eq_comm, beq_eq_false_iff_ne]; omega
        have HAT := Lib.hid hat
        have HQ := Lib.hid hq1
        have HJ := Lib.hid hj
        cases hq : ((((⟨t.toArray⟩ : ByteArray)[j]'hjz).toNat : Int) == (c : Int)) with
        | true =>
          have HE : Hid (R = true) := Lib.hid (by rw [← HRR.out]; exact HH.out (by rw [HAT.out]; exact hq))
          clear hat hq1 hj HAT
          go_wp2_with fail
          go_quiet (fail)
          go_wp2
          go_ret
          exact ⟨by rw [HE.out]; rfl, below_drewS hbe _⟩
        | false =>
          have HE : Hid (hasD (ws.take (k + 1)) c d = false) := Lib.hid (by rw [HN.out, HAT.out]; exact hq)
          clear hat hq1 hj HAT
          go_wp2_with fail
          go_quiet (fail)
          go_wp2
          exact ⟨⟨k + 1, by omega, by go_num, HE, below_drewS hbe _⟩, by simp [RowKit.intOf]; omega⟩
      · have gd : ¬ (d : Int) < (t.length : Int) := by omega
        have gd2 : decide ((d : Int) < (t.length : Int)) = false := decide_eq_false gd
        have HE : Hid (hasD (ws.take (k + 1)) c d = false) := Lib.hid (by rw [HN.out]; unfold atD; rw [decide_eq_false hdl]; rfl)
        go_wp2_with fail
        go_quiet (fail)
        go_wp2
        exact ⟨⟨k + 1, by omega, by go_num, HE, below_drewS hbe _⟩, by simp [RowKit.intOf]; omega⟩
    · obtain rfl : k = len := by omega
      have hz : ¬ (k : Int) < (k : Int) := by omega
      have HE : Hid (R = false) := Lib.hid (by rw [← HRR.out, ← HK.out, List.take_of_length_le (by omega)])
      clear HK
      go_wp2
      go_ret
      exact ⟨by rw [HE.out]; rfl, hbe⟩

set_option maxRecDepth 100000 in
set_option maxHeartbeats 4000000 in
theorem rshfirst_any (a : Option Addr) (len cap c : Nat) (ws : List (List UInt8)) (w : World) (hlen : len ≤ 1000000) (hr : IsStrs w a len ws) (ht : ∀ t ∈ ws, t.length ≤ 65535) :
    Calls Try.prog 11 #[.slice a len cap, .int .u8 (c : Int)] w fun e w' => e = .returned (.int .i64 (fstL ws c : Int)) ∧ Below w.heap.size w w' := by
  have HLe := Lib.hid (rptleast_any a len cap ws w hlen hr ht)
  have HHas := Lib.hid (fun (d : Nat) (W : World) (hW : Below w.heap.size w W) (hd : d ≤ 1000000) => rhas_any a len cap c d ws W hlen (hr.below hW) (fun t h => by have := ht t h; omega) hd)
  have hml : leastR ws ≤ 65535 := by
    unfold leastR
    split
    · omega
    · exact least_le ws
  have HF : Hid (∀ n, n ≤ leastR ws → (∀ d, d < n → hasD ws c d = false) → (n < leastR ws → hasD ws c n = true) → fstL ws c = n) := Lib.hid (fun n h1 h2 h3 => mn_is h1 h2 h3)
  generalize leastR ws = m at HLe HF hml
  obtain ⟨R, hR⟩ : ∃ R, fstL ws c = R := ⟨_, rfl⟩
  rw [hR] at HF ⊢
  clear hR hr ht
  go_enter Try.func11, Try.ntmps11
  go_wp2_with fail
  refine HLe.out.mono ?_
  rintro e w' ⟨rfl, hw⟩
  obtain rfl := hw.symm
  clear hw HLe
  go_wp2
  go_loopw [6] (fun i wr => ∃ k : Nat, k ≤ m ∧ i = .int .i64 k ∧ Hid (∀ d, d < k → hasD ws c d = false) ∧ Below w.heap.size w wr) (fun i _ => m - (RowKit.intOf i).toNat)
  case atStart => exact ⟨0, Nat.zero_le _, rfl, Lib.hid (fun d h => by omega), Below.refl _ _⟩
  case round =>
    obtain ⟨k, hk, rfl, HK, hbe⟩ := hrel
    by_cases hlt : k < m
    · have HC := Lib.hid (HHas.out k wr hbe (by omega))
      have hsz := hbe.size
      cases hq : hasD ws c k with
      | true =>
        have HE : Hid (R = k) := Lib.hid (HF.out k hk HK.out (fun _ => hq))
        rw [hq] at HC
        clear HK hq
        go_wp2_with fail
        refine HC.out.mono ?_
        rintro e w3 ⟨rfl, hb3⟩
        have d3 := hbe.trans (hb3.mono hsz)
        clear HC hb3
        go_wp2
        go_ret
        exact ⟨by rw [HE.out]; rfl, d3⟩
      | false =>
        have HE : Hid (∀ d, d < k + 1 → hasD ws c d = false) := Lib.hid (fun d hd => by
          rcases Nat.lt_or_ge d k with h | h
          · exact HK.out d h
          · rw [show d = k by omega]; exact hq)
        rw [hq] at HC
        clear HK hq
        go_wp2_with fail
        refine HC.out.mono ?_
        rintro e w3 ⟨rfl, hb3⟩
        have d3 := hbe.trans (hb3.mono hsz)
        clear HC hb3
        go_wp2
        exact ⟨⟨k + 1, by omega, by go_num, HE, d3⟩, by simp [RowKit.intOf]; omega⟩
    · obtain rfl : k = m := by omega
      have hz : ¬ (k : Int) < (k : Int) := by omega
      have HE : Hid (R = k) := Lib.hid (HF.out k hk HK.out (fun h => by omega))
      clear HK
      go_wp2
      go_ret
      exact ⟨by rw [HE.out]; rfl, hbe⟩

theorem end_step2 {F : Nat → Nat} {s : List UInt8} {e f n : Nat} (h : e ≤ s.length) (hn : F (byN s (e - 1)) = n) : endG F s (f + 1) e = (if n = 0 then [(e : Int)] else []) ++ endG F s f (e + max n 1) := by
  rw [endG, if_pos h, hn]

set_option maxRecDepth 100000 in
set_option maxHeartbeats 4000000 in
theorem rshends_any (a : Option Addr) (len cap : Nat) (ws : List (List UInt8)) (s : List UInt8) (w : World) (hlen : len ≤ 1000000) (hr : IsStrs w a len ws) (ht : ∀ t ∈ ws, t.length ≤ 65535) (hs : s.length ≤ 1000000) :
    Calls Try.prog 18 #[.slice a len cap, .string ⟨s.toArray⟩] w (RetN (endL (fstL ws) (leastR ws) s) w) := by
  have HLe := Lib.hid (fun (W : World) (hW : Below w.heap.size w W) => rptleast_any a len cap ws W hlen (hr.below hW) ht)
  have HFi0 := Lib.hid (fun (c : Nat) (W : World) (hW : Below w.heap.size w W) => rshfirst_any a len cap c ws W hlen (hr.below hW) ht)
  have hml : leastR ws ≤ 65535 := by
    unfold leastR
    split
    · omega
    · exact least_le ws
  have HFl := Lib.hid (fst_le ws)
  have S1 := Lib.hid (bsize s)
  generalize leastR ws = m at HLe HFl hml ⊢
  generalize fstL ws = F at HFi0 HFl ⊢
  clear hr ht
  obtain ⟨i0, hi, hz0, hz1, hz2⟩ := info_parts int_info
  have HL1 := Lib.hid (HLe.out _ ((Below.refl _ w).alloc (Nat.le_refl _) (.cells #[] 3)))
  clear HLe
  go_enter Try.func18, Try.ntmps18
  go_wp2_with fail
  refine HL1.out.mono ?_
  rintro e w' ⟨rfl, hw⟩
  obtain rfl := hw.symm
  clear hw HL1
  go_wp2
  go_loopw [5, 6] (fun v x wr => ∃ (e f : Nat) (acc : List Int), (e = 0 → m = 0) ∧ (m = 0 → e = 0 ∧ acc = []) ∧ e ≤ s.length + 1 + m ∧ x = .int .i64 e ∧ s.length + 1 ≤ e + f ∧ (0 < m → Hid (acc ++ endG F s f e = endL F m s)) ∧ acc.length ≤ e ∧ Hid (wr.ownsRow w.heap.size 3 1 v acc.length (inCells acc)) ∧ Below w.heap.size w wr) (fun _ x _ => s.length + 1 - (RowKit.intOf x).toNat)
  case atStart => exact ⟨m, s.length + 1, [], fun h => h, fun h => ⟨h, rfl⟩, by omega, rfl, by omega, fun h => Lib.hid (by rw [endL_some h]; rfl), Nat.zero_le _, Lib.hid (World.ownsRow_made w #[] 0 (Nat.le_refl _) (Nat.zero_le _) rfl), (Below.refl _ _).alloc (Nat.le_refl _) _⟩
  case round =>
    obtain ⟨e, f, acc, he, hm0, he2, rfl, hef, HA, hac, HO, hbe⟩ := hrel
    obtain ⟨a2, cap2, rfl⟩ := owns_slice HO.out
    by_cases hz : e = 0
    · have hm := he hz
      subst hz
      obtain ⟨_, hacc⟩ := hm0 hm
      have HR : Hid (endL F m s = acc) := Lib.hid (by rw [hm, hacc]; exact endL_none F s)
      have gd2 : decide ((0 : Int) < ((0 : Nat) : Int)) = false := rfl
      clear HA hacc he hm0 hm
      go_wp2
      go_ret
      exact ⟨_, rfl, by rw [HR.out]; exact HO.out, hbe⟩
    · have hmp : 0 < m := Nat.pos_of_ne_zero (fun h => hz (hm0 h).1)
      have HA := HA hmp
      have g0 : (0 : Int) < (e : Int) := by omega
      have g1 : decide ((0 : Int) < (e : Int)) = true := decide_eq_true g0
      by_cases hlt : e ≤ s.length
      · obtain ⟨f, rfl⟩ : ∃ g, f = g + 1 := ⟨f - 1, by omega⟩
        obtain ⟨j, hj⟩ : ∃ j, j + 1 = e := ⟨e - 1, by omega⟩
        have hjl : j < s.length := by omega
        have hjz : j < (⟨s.toArray⟩ : ByteArray).size := by rw [bsize]; omega
        have w1 : IntKind.i64.wrap ((e : Int) - 1) = (j : Int) := by rw [IntKind.wrap_i64]; omega
        obtain ⟨c, hcc⟩ : ∃ c, (s[j]).toNat = c := ⟨_, rfl⟩
        have hq : ((⟨s.toArray⟩ : ByteArray)[j]'hjz).toNat = c := by rw [byteAt s j hjl hjz, hcc]
        have hby : byN s (e - 1) = c := by
          unfold byN
          rw [show e - 1 = j by omega]
          simp only [List.getD, List.getElem?_eq_getElem hjl, Option.getD_some, hcc]
        have HFi := Lib.hid (HFi0.out c wr hbe)
        have hst := end_step2 (F := F) (s := s) (e := e) (f := f) (n := F c) hlt (by rw [hby])
        have hle := HFl.out c
        rw [hst] at HA
        generalize F c = n at HFi HA hle
        have g2 : (e : Int) ≤ (s.length : Int) := by omega
        have hsz := hbe.size
        have HJ := Lib.hid hj
        clear hst hby hcc hj he hm0
        by_cases hn0 : n = 0
        · subst hn0
          have HA2 : Hid ((acc ++ [(e : Int)]) ++ endG F s f (e + 1) = endL F m s) := Lib.hid (by rw [← HA.out, List.append_assoc]; rfl)
          clear HA
          go_wp2_with fail
          refine HFi.out.mono ?_
          rintro e' w4 ⟨rfl, hb4⟩
          have hown := tx_below HO.out hb4
          have hbe4 := hbe.trans (hb4.mono hsz)
          have hsz4 := hbe4.size
          clear HO hb4 HFi
          go_wp2_with (at_builtin; refine wpList_append_own _ rfl _ _ 39 rfl w.heap.size 3 i0 (.int .i64 0) 1 8 Try.underlying39 hi hz0 hz1 hz2 rfl (by decide) _ _ _ rfl (hown.alloc _) ⟨w4.heap.size, 0, none⟩ 1 1 [.int .i64 (e : Int)] rfl rfl (int_news (heap_alloc_new w4 _)) int_one (by unfold maxLen; omega) (by omega) (by simp; omega) ?_)
          intro v' w3 hown3 hgrow _
          obtain ⟨a3, cap3, rfl⟩ := owns_slice hown3
          have HW := Lib.hid (show w3.ownsRow w.heap.size 3 1 (.slice a3 (acc.length + 1) cap3) (acc ++ [(e : Int)]).length (inCells (acc ++ [(e : Int)])) by rw [inCells_snoc, List.length_append]; exact hown3)
          have B3 : Below w.heap.size w w3 := own_below (w := w4) hbe4 hown (Nat.le_refl _) hgrow
          have w5 : IntKind.i64.wrap ((e : Int) + 1) = ((e + 1 : Nat) : Int) := by rw [IntKind.wrap_i64]; omega
          clear hown hown3 hgrow
          go_wp2
          exact ⟨⟨e + 1, f, acc ++ [(e : Int)], by omega, by omega, by omega, rfl, by omega, fun _ => HA2, by rw [List.length_append, List.length_singleton]; omega, HW, B3⟩, by simp [RowKit.intOf]; omega⟩
        · have q1 : ((n : Int) == 0) = false := by simp [hn0]
          have HA2 : Hid (acc ++ endG F s f (e + n) = endL F m s) := Lib.hid (by rw [← HA.out, if_neg hn0, List.nil_append, Nat.max_eq_left (by omega)])
          clear HA
          have w4 : IntKind.i64.wrap ((e : Int) + (n : Int)) = ((e + n : Nat) : Int) := by rw [IntKind.wrap_i64]; omega
          go_wp2_with fail
          refine HFi.out.mono ?_
          rintro e' w5 ⟨rfl, hb5⟩
          have HO5 := Lib.hid (tx_below HO.out hb5)
          have hbe5 := hbe.trans (hb5.mono hsz)
          clear HO hb5 HFi
          go_wp2
          exact ⟨⟨e + n, f, acc, by omega, by omega, by omega, rfl, by omega, fun _ => HA2, by omega, HO5, hbe5⟩, by simp [RowKit.intOf]; omega⟩
      · have g2 : ¬ (e : Int) ≤ (s.length : Int) := by omega
        have g3 : decide ((e : Int) ≤ (s.length : Int)) = false := decide_eq_false g2
        have HR : Hid (endL F m s = acc) := Lib.hid (by rw [← HA.out, end_over (by omega), List.append_nil])
        clear HA
        go_wp2
        go_ret
        exact ⟨_, rfl, by rw [HR.out]; exact HO.out, hbe⟩
end Go.Proofs.Ytfafbjooehachaa
