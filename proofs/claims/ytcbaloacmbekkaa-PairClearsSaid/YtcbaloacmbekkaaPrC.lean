/-
  The law PairClears: walked.
-/
import Derived.Test.YtcbaloacmbekkaaPrA
import Derived.Test.YtcbaloacmbekkaaFnd
import Derived.Test.YtcbaloacmbekkaaShRf
set_option linter.unusedSimpArgs false
set_option linter.unusedVariables false
namespace Go.Proofs.Ytcbaloacmbekkaa
open Go.RowKit

set_option maxHeartbeats 1000000 in
theorem prclears_many (a : Option Addr) (len cap : Nat) (n : Int) (ws : List (List UInt8)) (s : List UInt8) (w : World) (hlen : len ≤ 9223372036854775807) (hr : IsStrs w a len ws) (ht : ∀ t ∈ ws, t.length ≤ 9223372036854775807) (hq : fewB ws 12 20 = false) :
    Calls Try.prog 4 #[.slice a len cap, .string ⟨s.toArray⟩, .int .i64 n] w fun e w' => e = .returned (.bool true) ∧ Below w.heap.size w w' := by
  have HF := Lib.hid (few_noN a len cap ws w hlen hr ht _ hq)
  clear hr ht hq
  go_enter Try.func4, Try.ntmps4
  go_wp2_with fail
  refine HF.out.mono ?_
  rintro e w' ⟨rfl, rfl⟩
  go_wp2_with fail
  refine (prawake_any _).mono ?_
  rintro e w' ⟨rfl, hb⟩
  go_wp2
  go_ret
  exact ⟨rfl, hb⟩
set_option maxHeartbeats 1000000 in
theorem prclears_long (a : Option Addr) (len cap : Nat) (n : Int) (ws : List (List UInt8)) (s : List UInt8) (w : World) (hlen : len ≤ 9223372036854775807) (hr : IsStrs w a len ws) (ht : ∀ t ∈ ws, t.length ≤ 9223372036854775807) (hq : fewB ws 12 20 = true) (hs : 100 < s.length) :
    Calls Try.prog 4 #[.slice a len cap, .string ⟨s.toArray⟩, .int .i64 n] w fun e w' => e = .returned (.bool true) ∧ Below w.heap.size w w' := by
  have HF := Lib.hid (few_noN a len cap ws w hlen hr ht _ hq)
  have S1 := Lib.hid (bsize s)
  have g1 : (100 : Int) < (s.length : Int) := by omega
  have g2 : decide ((100 : Int) < (s.length : Int)) = true := decide_eq_true g1
  clear hr ht hq
  go_enter Try.func4, Try.ntmps4
  go_wp2_with fail
  refine HF.out.mono ?_
  rintro e w' ⟨rfl, rfl⟩
  go_wp2_with fail
  refine (prawake_any _).mono ?_
  rintro e w' ⟨rfl, hb⟩
  go_wp2
  go_ret
  exact ⟨rfl, hb⟩
set_option maxHeartbeats 1000000 in
theorem prclears_low (a : Option Addr) (len cap : Nat) (n : Int) (ws : List (List UInt8)) (s : List UInt8) (w : World) (hlen : len ≤ 9223372036854775807) (hr : IsStrs w a len ws) (ht : ∀ t ∈ ws, t.length ≤ 9223372036854775807) (hq : fewB ws 12 20 = true) (hs : s.length ≤ 100) (hn : n < 2) :
    Calls Try.prog 4 #[.slice a len cap, .string ⟨s.toArray⟩, .int .i64 n] w fun e w' => e = .returned (.bool true) ∧ Below w.heap.size w w' := by
  have HF := Lib.hid (few_noN a len cap ws w hlen hr ht _ hq)
  have S1 := Lib.hid (bsize s)
  have g1 : ¬ (100 : Int) < (s.length : Int) := by omega
  have g2 : decide ((100 : Int) < (s.length : Int)) = false := decide_eq_false g1
  have g3 : decide (n < 2) = true := decide_eq_true hn
  clear hr ht hq
  go_enter Try.func4, Try.ntmps4
  go_wp2_with fail
  refine HF.out.mono ?_
  rintro e w' ⟨rfl, rfl⟩
  go_wp2_with fail
  refine (prawake_any _).mono ?_
  rintro e w' ⟨rfl, hb⟩
  go_wp2
  go_ret
  exact ⟨rfl, hb⟩
set_option maxHeartbeats 1000000 in
theorem prclears_high (a : Option Addr) (len cap : Nat) (n : Int) (ws : List (List UInt8)) (s : List UInt8) (w : World) (hlen : len ≤ 9223372036854775807) (hr : IsStrs w a len ws) (ht : ∀ t ∈ ws, t.length ≤ 9223372036854775807) (hq : fewB ws 12 20 = true) (hs : s.length ≤ 100) (hn : ¬ n < 2) (hn2 : (s.length : Int) < n) :
    Calls Try.prog 4 #[.slice a len cap, .string ⟨s.toArray⟩, .int .i64 n] w fun e w' => e = .returned (.bool true) ∧ Below w.heap.size w w' := by
  have HF := Lib.hid (few_noN a len cap ws w hlen hr ht _ hq)
  have S1 := Lib.hid (bsize s)
  have g1 : ¬ (100 : Int) < (s.length : Int) := by omega
  have g2 : decide ((100 : Int) < (s.length : Int)) = false := decide_eq_false g1
  have g3 : decide (n < 2) = false := decide_eq_false hn
  have g4 : decide ((s.length : Int) < n) = true := decide_eq_true hn2
  clear hr ht hq
  go_enter Try.func4, Try.ntmps4
  go_wp2_with fail
  refine HF.out.mono ?_
  rintro e w' ⟨rfl, rfl⟩
  go_wp2_with fail
  refine (prawake_any _).mono ?_
  rintro e w' ⟨rfl, hb⟩
  go_wp2
  go_ret
  exact ⟨rfl, hb⟩

set_option maxRecDepth 100000 in
set_option maxHeartbeats 8000000 in
theorem prclears_few (a : Option Addr) (len cap z : Nat) (ws : List (List UInt8)) (s : List UInt8) (w : World) (hr : IsStrs w a len ws) (hq : fewB ws 12 20 = true) (hs : s.length ≤ 100) (hz0 : 2 ≤ z) (hz1 : z ≤ s.length) :
    Calls Try.prog 4 #[.slice a len cap, .string ⟨s.toArray⟩, .int .i64 (z : Int)] w fun e w' => e = .returned (.bool true) ∧ Below w.heap.size w w' := by
  have hwl := hr.1
  have hfw := (few_iff ws 12 20).1 hq
  have hlen : len ≤ 12 := by omega
  have HF := Lib.hid (few_noN a len cap ws w (by omega) hr (fun t ht => by have := hfw.2 t ht; omega) _ hq)
  have HN := Lib.hid (ptnew_all a len cap ws w (by omega) hr (fun t ht => by have := hfw.2 t ht; omega))
  have HN2 := Lib.hid (fun (w2 : World) (hb : Below w.heap.size w w2) => rptnew_all a len cap ws w2 (by omega) (hr.below hb) (fun t ht => by have := hfw.2 t ht; omega))
  obtain ⟨hs1, hs2⟩ := few_setN hq
  have hs3 : ∀ t ∈ setL ws, 0 < t.length := fun t h => (set_mem h).2.1
  generalize setL ws = us at HN HN2 hs1 hs2 hs3
  generalize faultL ws = f at HN HN2
  have hml : farL us ≤ 20 := by
    cases us with
    | nil => rw [far_nil]; omega
    | cons t r =>
      have h1 := leastR_le (ws := t :: r) List.mem_cons_self
      have h2 := hs2 t List.mem_cons_self
      unfold farL; omega
  obtain ⟨i, j, u, c, hi, hj, hu, hc, hp2, hqu, hqv⟩ := clr_bytes (s := s) (z := z) (by omega) (by omega)
  have hjl : j < s.length := by omega
  have hjz : j < (⟨s.toArray⟩ : ByteArray).size := by rw [bsize]; omega
  have hqb := hqv hjz
  have w1 : IntKind.i64.wrap ((z : Int) - 1) = (j : Int) := by rw [IntKind.wrap_i64]; omega
  have hcl : clrP (nearL us) s (z : Int) = nearL us (two u c) := by
    unfold clrP
    rw [if_pos (by omega), Int.toNat_natCast, hp2]
  have HCl := Lib.hid (fun (w2 : World) (b : Option Addr) (l : Nat) (h : HasPt w2 b (nearL us) (farL us) l) => prclear_any h s (by omega) (z : Int))
  have HFr := Lib.hid (fun (w2 : World) (b : Option Addr) (l : Nat) (h : HasPt w2 b (nearL us) (farL us) l) => prfar_any h)
  have HRf := Lib.hid (fun (w2 : World) (a2 : Option Addr) (cap2 : Nat) (h : IsStrs w2 a2 us.length us) => rfar_any a2 us.length cap2 us w2 (by omega) h (fun t ht => by have := hs2 t ht; omega))
  have HFi := Lib.hid (fun (w2 : World) (a2 : Option Addr) (cap2 : Nat) (h : IsStrs w2 a2 us.length us) => rshfirst_any a2 us.length cap2 c us w2 (by omega) h (fun t ht => by have := hs2 t ht; omega))
  have HNew := Lib.hid (fun (w2 : World) (p : Option Addr) (h : IsPats w2 p us) => prnew_all h)
  have hle := near_le us (two u c)
  have hsec : nearL us (two u c) < farL us → fstL us c ≤ nearL us (two u c) := near_second hc
  have HIn : Hid (∀ t ∈ us, ∀ p : Nat, p + t.length ≤ s.length → t <:+ s.take (p + t.length) → ¬ (z ≤ p + t.length ∧ p + t.length < z + nearL us (two u c))) := Lib.hid (fun t ht p h1 h2 h3 => near_clears ht h1 h2 hz0 h3.1 (by rw [hp2]; exact h3.2))
  rw [hcl] at HCl
  obtain ⟨F, hFF⟩ : ∃ F, nearL us = F := ⟨_, rfl⟩
  obtain ⟨m, hmm⟩ : ∃ m, farL us = m := ⟨_, rfl⟩
  have HNewC : Hid (∀ (w2 : World) (p : Option Addr), IsPats w2 p us → Calls Try.prog 9 #[.pointer p] w2 fun e w' => ∃ b l, e = .returned (.pointer (some ⟨b, 0, none⟩)) ∧ HasPt w' (some ⟨b, 0, none⟩) F m l ∧ Below w2.heap.size w2 w') := Lib.hid (fun w2 p h => by
    refine (HNew.out w2 p h).mono ?_
    rintro e w' ⟨⟨b, l, h1, _, h3, h4⟩, h5⟩
    rw [hFF, hmm] at h3
    exact ⟨b, l, h1, h3, h5⟩)
  rw [hFF, hmm] at HCl HFr hle hsec
  rw [hFF] at HIn
  rw [hmm] at HRf hml
  generalize F (two u c) = n at HCl hle hsec HIn
  generalize fstL us c = fv at HFi hsec
  have HS2 := Lib.hid hs2
  have HS3 := Lib.hid hs3
  have S1 := Lib.hid (bsize s)
  have g1 : ¬ (100 : Int) < (s.length : Int) := by omega
  have g2 : decide ((100 : Int) < (s.length : Int)) = false := decide_eq_false g1
  have g3 : decide ((z : Int) < 2) = false := decide_eq_false (by omega)
  have g4 : decide ((s.length : Int) < (z : Int)) = false := decide_eq_false (by omega)
  have g5 : ¬ (z : Int) < 2 := by omega
  have g6 : ¬ (s.length : Int) < (z : Int) := by omega
  have HJ := Lib.hid hj
  have HI := Lib.hid hi
  clear hr hq hfw hwl hs2 hs3 hFF hmm hp2 hcl hqu hqv hj hi HNew
  go_enter Try.func4, Try.ntmps4
  go_wp2_with fail
  refine HF.out.mono ?_
  rintro e w' ⟨rfl, hw⟩
  obtain rfl := hw.symm
  clear HF hw
  go_wp2_with fail
  refine HN.out.mono ?_
  rintro e w1 ⟨p, rfl, hp, d1⟩
  have e1 := d1.size
  have HN3 := Lib.hid (HN2.out w1 d1)
  have HP1 := Lib.hid hp
  clear HN HN2 hp
  go_wp2_with fail
  refine HN3.out.mono ?_
  rintro e w2 ⟨a2, cap2, rfl, hstr, hb2⟩
  have d2 := d1.trans (hb2.mono e1)
  have e2 := d2.size
  have T2 := Lib.hid hstr
  have HB2 := Lib.hid (HNewC.out w2 p (HP1.out.below hb2))
  clear HN3 hb2 d1 e1 hstr HP1 HNewC
  go_wp2_with fail
  refine HB2.out.mono ?_
  rintro e w3 ⟨b, l, rfl, hB, hb3⟩
  have d3a := d2.trans (hb3.mono e2)
  have T3a := Lib.hid (T2.out.below hb3)
  have C3 := Lib.hid (HCl.out w3 _ l hB)
  have HB3 := Lib.hid hB
  clear HB2 T2 hB hb3 d2 e2 HCl
  go_wp2_with fail
  refine C3.out.mono ?_
  rintro e w' ⟨rfl, nq3, rfl⟩
  have d3b := below_drewS d3a nq3
  have T3b : Hid (IsStrs (w3.drewN nq3) a2 us.length us) := Lib.hid (strs_heap_of T3a.out rfl)
  have C4 : Hid (Calls Try.prog 12 #[.pointer (some ⟨b, 0, none⟩)] (w3.drewN nq3) fun e w' => e = .returned (.int .i64 (m : Int)) ∧ w' = w3.drewN nq3) := Lib.hid (HFr.out _ _ l (HB3.out.heap rfl))
  generalize w3.drewN nq3 = w3b at d3b T3b C4 ⊢
  have e3b := d3b.size
  have C5 := Lib.hid (HFi.out w3b a2 cap2 T3b.out)
  clear C3 d3a T3a HB3 HFr HFi
  go_wp2_with fail
  refine C4.out.mono ?_
  rintro e w' ⟨rfl, hw⟩
  obtain rfl := hw.symm
  clear hw C4
  have hle2 : ¬ (m : Int) < (n : Int) := by omega
  have hle3 : decide ((m : Int) < (n : Int)) = false := decide_eq_false hle2
  go_wp2_with fail
  refine C5.out.mono ?_
  rintro e w4 ⟨rfl, hb4⟩
  have d3 := d3b.trans (hb4.mono e3b)
  have e3 := d3.size
  have T3 := Lib.hid (T3b.out.below hb4)
  have C6 := Lib.hid (HRf.out w4 a2 cap2 T3.out)
  clear C5 T3b hb4 d3b e3b HRf
  by_cases hnf : n < fv
  · obtain rfl : n = m := by omega
    have k1 : (n : Int) < (fv : Int) := by omega
    have k2 : decide ((n : Int) < (fv : Int)) = true := decide_eq_true k1
    clear hsec
    go_wp2_with fail
    refine C6.out.mono ?_
    rintro e w' ⟨rfl, hw⟩
    obtain rfl := hw.symm
    clear hw C6
    go_wp2
    go_loopw [13] (fun i wr => ∃ k : Nat, k ≤ us.length ∧ i = .int .i64 k ∧ Below w4.heap.size w4 wr) (fun i _ => us.length - (RowKit.intOf i).toNat)
    case atStart => exact ⟨0, Nat.zero_le _, rfl, Below.refl _ _⟩
    case round =>
      obtain ⟨i, hi, rfl, hbe⟩ := hrel
      obtain ⟨W1, hW1⟩ : ∃ W1, W1 = wr := ⟨_, rfl⟩
      subst hW1
      by_cases hlt : i < us.length
      · obtain ⟨b7, off7, rfl, t, hf, hcell⟩ := str_at T3.out hbe i hlt
        have htm := List.mem_of_getElem? hf
        have htl := HS2.out t htm
        have htp := HS3.out t htm
        have HC := Lib.hid (rfind_any s t W1 (by omega) (by omega))
        have HPl : Hid (∀ k, k < (fndB s t).length → ∃ p : Nat, (fndB s t).getD k 0 = (p : Int) ∧ p + t.length ≤ s.length ∧ ¬ (z ≤ p + t.length ∧ p + t.length < z + n)) := Lib.hid (fun k hk => by
          obtain ⟨p, h1, h2, h3⟩ := place_at htp hk
          exact ⟨p, h1, h2, HIn.out t htm p h2 h3⟩)
        have hfl := place_few s t
        generalize fndB s t = L at HC HPl hfl
        have S7 := Lib.hid (bsize t)
        have hsz := hbe.size
        have i0 : (0 : Int) ≤ (i : Int) := by omega
        have i1 : (i : Int) < (us.length : Int) := by omega
        clear hf htm
        go_wp2_with fail
        refine HC.out.mono ?_
        rintro e w8 ⟨a8, cap8, rfl, hrow8, hb8⟩
        have d8 := hbe.trans (hb8.mono hsz)
        have c8 : ∀ W, Below w8.heap.size w8 W → W.cell? ⟨b7, off7 + i, none⟩ = some (.string ⟨t.toArray⟩) := fun W hW => by
          have hb := hb8.trans (hW.mono hb8.size)
          rw [hb.cell (p := ⟨b7, off7 + i, none⟩) (World.block_lt_of_cell? _ _ hcell)]
          exact hcell
        have HC8 := Lib.hid c8
        have HR8 := Lib.hid hrow8
        clear HC hb8 hbe hcell c8 hrow8 hsz
        go_wp2
        go_loopw [15] (fun x wr => ∃ k : Nat, k ≤ L.length ∧ x = .int .i64 k ∧ Below w8.heap.size w8 wr) (fun x _ => L.length - (RowKit.intOf x).toNat)
        case atStart => exact ⟨0, Nat.zero_le _, rfl, Below.refl _ _⟩
        case round =>
          obtain ⟨k, hk, rfl, hbk⟩ := hrel
          by_cases hlk : k < L.length
          · obtain ⟨p, hp1, hp2, hp3⟩ := HPl.out k hlk
            have hkp : (0 : Int) ≤ (k : Int) := by omega
            have hkl : (k : Int) < (L.length : Int) := by omega
            obtain h0 | ⟨b9, off9, rfl, _, _, _, hall⟩ := HR8.out.below hbk
            · omega
            have hc9 := hall k hlk
            rw [hp1] at hc9
            have k2 := HC8.out wr hbk
            obtain ⟨X, hX⟩ : ∃ X, p + t.length = X := ⟨_, rfl⟩
            rw [hX] at hp2 hp3
            obtain ⟨N, hNN⟩ : ∃ N, z + n = N := ⟨_, rfl⟩
            rw [hNN] at hp3
            have w11 : IntKind.i64.wrap ((p : Int) + (t.length : Int)) = (X : Int) := by rw [IntKind.wrap_i64]; omega
            have w12 : IntKind.i64.wrap ((z : Int) + (n : Int)) = (N : Int) := by rw [IntKind.wrap_i64]; omega
            have HX := Lib.hid hX
            have HNN := Lib.hid hNN
            clear hp1 hX hNN hall
            by_cases hzx : z ≤ X
            · have q1 : (z : Int) ≤ (X : Int) := by omega
              have q2 : decide ((z : Int) ≤ (X : Int)) = true := decide_eq_true q1
              have q3 : ¬ (X : Int) < (N : Int) := by omega
              have q4 : decide ((X : Int) < (N : Int)) = false := decide_eq_false q3
              clear hp3
              go_wp2_with fail
              go_quiet (fail)
              go_wp2
              exact ⟨⟨k + 1, by omega, by go_num, below_drewS hbk _⟩, by simp [RowKit.intOf]; omega⟩
            · have q1 : ¬ (z : Int) ≤ (X : Int) := by omega
              have q2 : decide ((z : Int) ≤ (X : Int)) = false := decide_eq_false q1
              clear hp3
              go_wp2_with fail
              go_quiet (fail)
              go_wp2
              exact ⟨⟨k + 1, by omega, by go_num, below_drewS hbk _⟩, by simp [RowKit.intOf]; omega⟩
          · obtain rfl : k = L.length := by omega
            have hz : ¬ (L.length : Int) < (L.length : Int) := by omega
            have d9 := Lib.hid (d8.trans (hbk.mono d8.size))
            clear d8
            go_wp2
            exact ⟨⟨i + 1, by omega, by go_num, d9.out⟩, by simp [RowKit.intOf]; omega⟩
      · obtain rfl : i = us.length := by omega
        have hz : ¬ (us.length : Int) < (us.length : Int) := by omega
        have d7 := d3.trans (hbe.mono e3)
        have e7 := d7.size
        go_wp2_with fail
        refine (prawake_any _).mono ?_
        rintro e w14 ⟨rfl, hb14⟩
        have d14 := d7.trans (hb14.mono e7)
        go_wp2
        go_ret
        exact ⟨rfl, d14⟩
  · have k1 : ¬ (n : Int) < (fv : Int) := by omega
    have k2 : decide ((n : Int) < (fv : Int)) = false := decide_eq_false k1
    clear hsec C6
    go_wp2
    go_loopw [13] (fun i wr => ∃ k : Nat, k ≤ us.length ∧ i = .int .i64 k ∧ Below w4.heap.size w4 wr) (fun i _ => us.length - (RowKit.intOf i).toNat)
    case atStart => exact ⟨0, Nat.zero_le _, rfl, Below.refl _ _⟩
    case round =>
      obtain ⟨i, hi, rfl, hbe⟩ := hrel
      obtain ⟨W1, hW1⟩ : ∃ W1, W1 = wr := ⟨_, rfl⟩
      subst hW1
      by_cases hlt : i < us.length
      · obtain ⟨b7, off7, rfl, t, hf, hcell⟩ := str_at T3.out hbe i hlt
        have htm := List.mem_of_getElem? hf
        have htl := HS2.out t htm
        have htp := HS3.out t htm
        have HC := Lib.hid (rfind_any s t W1 (by omega) (by omega))
        have HPl : Hid (∀ k, k < (fndB s t).length → ∃ p : Nat, (fndB s t).getD k 0 = (p : Int) ∧ p + t.length ≤ s.length ∧ ¬ (z ≤ p + t.length ∧ p + t.length < z + n)) := Lib.hid (fun k hk => by
          obtain ⟨p, h1, h2, h3⟩ := place_at htp hk
          exact ⟨p, h1, h2, HIn.out t htm p h2 h3⟩)
        have hfl := place_few s t
        generalize fndB s t = L at HC HPl hfl
        have S7 := Lib.hid (bsize t)
        have hsz := hbe.size
        have i0 : (0 : Int) ≤ (i : Int) := by omega
        have i1 : (i : Int) < (us.length : Int) := by omega
        clear hf htm
        go_wp2_with fail
        refine HC.out.mono ?_
        rintro e w8 ⟨a8, cap8, rfl, hrow8, hb8⟩
        have d8 := hbe.trans (hb8.mono hsz)
        have c8 : ∀ W, Below w8.heap.size w8 W → W.cell? ⟨b7, off7 + i, none⟩ = some (.string ⟨t.toArray⟩) := fun W hW => by
          have hb := hb8.trans (hW.mono hb8.size)
          rw [hb.cell (p := ⟨b7, off7 + i, none⟩) (World.block_lt_of_cell? _ _ hcell)]
          exact hcell
        have HC8 := Lib.hid c8
        have HR8 := Lib.hid hrow8
        clear HC hb8 hbe hcell c8 hrow8 hsz
        go_wp2
        go_loopw [15] (fun x wr => ∃ k : Nat, k ≤ L.length ∧ x = .int .i64 k ∧ Below w8.heap.size w8 wr) (fun x _ => L.length - (RowKit.intOf x).toNat)
        case atStart => exact ⟨0, Nat.zero_le _, rfl, Below.refl _ _⟩
        case round =>
          obtain ⟨k, hk, rfl, hbk⟩ := hrel
          by_cases hlk : k < L.length
          · obtain ⟨p, hp1, hp2, hp3⟩ := HPl.out k hlk
            have hkp : (0 : Int) ≤ (k : Int) := by omega
            have hkl : (k : Int) < (L.length : Int) := by omega
            obtain h0 | ⟨b9, off9, rfl, _, _, _, hall⟩ := HR8.out.below hbk
            · omega
            have hc9 := hall k hlk
            rw [hp1] at hc9
            have k2 := HC8.out wr hbk
            obtain ⟨X, hX⟩ : ∃ X, p + t.length = X := ⟨_, rfl⟩
            rw [hX] at hp2 hp3
            obtain ⟨N, hNN⟩ : ∃ N, z + n = N := ⟨_, rfl⟩
            rw [hNN] at hp3
            have w11 : IntKind.i64.wrap ((p : Int) + (t.length : Int)) = (X : Int) := by rw [IntKind.wrap_i64]; omega
            have w12 : IntKind.i64.wrap ((z : Int) + (n : Int)) = (N : Int) := by rw [IntKind.wrap_i64]; omega
            have HX := Lib.hid hX
            have HNN := Lib.hid hNN
            clear hp1 hX hNN hall
            by_cases hzx : z ≤ X
            · have q1 : (z : Int) ≤ (X : Int) := by omega
              have q2 : decide ((z : Int) ≤ (X : Int)) = true := decide_eq_true q1
              have q3 : ¬ (X : Int) < (N : Int) := by omega
              have q4 : decide ((X : Int) < (N : Int)) = false := decide_eq_false q3
              clear hp3
              go_wp2_with fail
              go_quiet (fail)
              go_wp2
              exact ⟨⟨k + 1, by omega, by go_num, below_drewS hbk _⟩, by simp [RowKit.intOf]; omega⟩
            · have q1 : ¬ (z : Int) ≤ (X : Int) := by omega
              have q2 : decide ((z : Int) ≤ (X : Int)) = false := decide_eq_false q1
              clear hp3
              go_wp2_with fail
              go_quiet (fail)
              go_wp2
              exact ⟨⟨k + 1, by omega, by go_num, below_drewS hbk _⟩, by simp [RowKit.intOf]; omega⟩
          · obtain rfl : k = L.length := by omega
            have hz : ¬ (L.length : Int) < (L.length : Int) := by omega
            have d9 := Lib.hid (d8.trans (hbk.mono d8.size))
            clear d8
            go_wp2
            exact ⟨⟨i + 1, by omega, by go_num, d9.out⟩, by simp [RowKit.intOf]; omega⟩
      · obtain rfl : i = us.length := by omega
        have hz : ¬ (us.length : Int) < (us.length : Int) := by omega
        have d7 := d3.trans (hbe.mono e3)
        have e7 := d7.size
        go_wp2_with fail
        refine (prawake_any _).mono ?_
        rintro e w14 ⟨rfl, hb14⟩
        have d14 := d7.trans (hb14.mono e7)
        go_wp2
        go_ret
        exact ⟨rfl, d14⟩
end Go.Proofs.Ytcbaloacmbekkaa
