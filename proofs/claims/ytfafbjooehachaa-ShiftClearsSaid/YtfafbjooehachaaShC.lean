/-
  The law ShiftClears: walked.
-/
import Derived.Test.YtfafbjooehachaaShA
import Derived.Test.YtfafbjooehachaaBdF
set_option linter.unusedSimpArgs false
set_option linter.unusedVariables false
namespace Go.Proofs.Ytfafbjooehachaa
open Go.RowKit

/-- What a place tells: where the text stands. -/
theorem find_at2 {s t : List UInt8} {k : Nat} (ht : 0 < t.length) (hk : k < (fndB s t).length) : ∃ p : Nat, (fndB s t).getD k 0 = (p : Int) ∧ p + t.length ≤ s.length ∧ t <:+ s.take (p + t.length) := by
  have e : fndB s t = fnd s t s.length := fndB_full (by cases t with | nil => simp at ht | cons _ _ => rfl)
  rw [e] at hk ⊢
  obtain ⟨j, h1, h2⟩ := fnd_mem s.length _ (getD_in _ k hk)
  obtain ⟨h3, h4⟩ := h2 (Nat.le_refl _)
  exact ⟨j, h1, h3, h4⟩
theorem find_few2 (s t : List UInt8) : (fndB s t).length ≤ s.length := by
  unfold fndB
  split
  · exact Nat.zero_le _
  · exact fnd_length s t _

set_option maxHeartbeats 1000000 in
theorem shclears_many (a : Option Addr) (len cap : Nat) (n : Int) (ws : List (List UInt8)) (s : List UInt8) (w : World) (hlen : len ≤ 9223372036854775807) (hr : IsStrs w a len ws) (ht : ∀ t ∈ ws, t.length ≤ 9223372036854775807) (hq : fewB ws 20 50 = false) :
    Calls Try.prog 5 #[.slice a len cap, .string ⟨s.toArray⟩, .int .i64 n] w fun e w' => e = .returned (.bool true) ∧ Below w.heap.size w w' := by
  have HF := Lib.hid (few_not a len cap ws w hlen hr ht hq)
  clear hr ht hq
  go_enter Try.func5, Try.ntmps5
  go_wp2_with fail
  refine HF.out.mono ?_
  rintro e w' ⟨rfl, rfl⟩
  go_wp2_with fail
  refine (shawake_any _).mono ?_
  rintro e w' ⟨rfl, hb⟩
  go_wp2
  go_ret
  exact ⟨rfl, hb⟩
set_option maxHeartbeats 1000000 in
theorem shclears_long (a : Option Addr) (len cap : Nat) (n : Int) (ws : List (List UInt8)) (s : List UInt8) (w : World) (hlen : len ≤ 9223372036854775807) (hr : IsStrs w a len ws) (ht : ∀ t ∈ ws, t.length ≤ 9223372036854775807) (hq : fewB ws 20 50 = true) (hs : 100 < s.length) :
    Calls Try.prog 5 #[.slice a len cap, .string ⟨s.toArray⟩, .int .i64 n] w fun e w' => e = .returned (.bool true) ∧ Below w.heap.size w w' := by
  have HF := Lib.hid (few_yes a len cap ws w hlen hr ht hq)
  have S1 := Lib.hid (bsize s)
  have g1 : (100 : Int) < (s.length : Int) := by omega
  have g2 : decide ((100 : Int) < (s.length : Int)) = true := decide_eq_true g1
  clear hr ht hq
  go_enter Try.func5, Try.ntmps5
  go_wp2_with fail
  refine HF.out.mono ?_
  rintro e w' ⟨rfl, rfl⟩
  go_wp2_with fail
  refine (shawake_any _).mono ?_
  rintro e w' ⟨rfl, hb⟩
  go_wp2
  go_ret
  exact ⟨rfl, hb⟩
set_option maxHeartbeats 1000000 in
theorem shclears_low (a : Option Addr) (len cap : Nat) (n : Int) (ws : List (List UInt8)) (s : List UInt8) (w : World) (hlen : len ≤ 9223372036854775807) (hr : IsStrs w a len ws) (ht : ∀ t ∈ ws, t.length ≤ 9223372036854775807) (hq : fewB ws 20 50 = true) (hs : s.length ≤ 100) (hn : n < 1) :
    Calls Try.prog 5 #[.slice a len cap, .string ⟨s.toArray⟩, .int .i64 n] w fun e w' => e = .returned (.bool true) ∧ Below w.heap.size w w' := by
  have HF := Lib.hid (few_yes a len cap ws w hlen hr ht hq)
  have S1 := Lib.hid (bsize s)
  have g1 : ¬ (100 : Int) < (s.length : Int) := by omega
  have g2 : decide ((100 : Int) < (s.length : Int)) = false := decide_eq_false g1
  have g3 : decide (n < 1) = true := decide_eq_true hn
  clear hr ht hq
  go_enter Try.func5, Try.ntmps5
  go_wp2_with fail
  refine HF.out.mono ?_
  rintro e w' ⟨rfl, rfl⟩
  go_wp2_with fail
  refine (shawake_any _).mono ?_
  rintro e w' ⟨rfl, hb⟩
  go_wp2
  go_ret
  exact ⟨rfl, hb⟩
set_option maxHeartbeats 1000000 in
theorem shclears_high (a : Option Addr) (len cap : Nat) (n : Int) (ws : List (List UInt8)) (s : List UInt8) (w : World) (hlen : len ≤ 9223372036854775807) (hr : IsStrs w a len ws) (ht : ∀ t ∈ ws, t.length ≤ 9223372036854775807) (hq : fewB ws 20 50 = true) (hs : s.length ≤ 100) (hn : ¬ n < 1) (hn2 : (s.length : Int) < n) :
    Calls Try.prog 5 #[.slice a len cap, .string ⟨s.toArray⟩, .int .i64 n] w fun e w' => e = .returned (.bool true) ∧ Below w.heap.size w w' := by
  have HF := Lib.hid (few_yes a len cap ws w hlen hr ht hq)
  have S1 := Lib.hid (bsize s)
  have g1 : ¬ (100 : Int) < (s.length : Int) := by omega
  have g2 : decide ((100 : Int) < (s.length : Int)) = false := decide_eq_false g1
  have g3 : decide (n < 1) = false := decide_eq_false hn
  have g4 : decide ((s.length : Int) < n) = true := decide_eq_true hn2
  clear hr ht hq
  go_enter Try.func5, Try.ntmps5
  go_wp2_with fail
  refine HF.out.mono ?_
  rintro e w' ⟨rfl, rfl⟩
  go_wp2_with fail
  refine (shawake_any _).mono ?_
  rintro e w' ⟨rfl, hb⟩
  go_wp2
  go_ret
  exact ⟨rfl, hb⟩

set_option maxRecDepth 100000 in
set_option maxHeartbeats 8000000 in
theorem shclears_few (a : Option Addr) (len cap z : Nat) (ws : List (List UInt8)) (s : List UInt8) (w : World) (hr : IsStrs w a len ws) (hq : fewB ws 20 50 = true) (hs : s.length ≤ 100) (hz0 : 0 < z) (hz1 : z ≤ s.length) :
    Calls Try.prog 5 #[.slice a len cap, .string ⟨s.toArray⟩, .int .i64 (z : Int)] w fun e w' => e = .returned (.bool true) ∧ Below w.heap.size w w' := by
  have hwl := hr.1
  have hfw := (few_iff ws 20 50).1 hq
  have hlen : len ≤ 20 := by omega
  have HF := Lib.hid (few_yes a len cap ws w (by omega) hr (fun t ht => by have := hfw.2 t ht; omega) hq)
  have HN := Lib.hid (ptnew_all a len cap ws w (by omega) hr (fun t ht => by have := hfw.2 t ht; omega))
  have HN2 := Lib.hid (fun (w2 : World) (hb : Below w.heap.size w w2) => rptnew_all a len cap ws w2 (by omega) (hr.below hb) (fun t ht => by have := hfw.2 t ht; omega))
  obtain ⟨hs1, hs2⟩ := few_set hq
  have hs3 : ∀ t ∈ setL ws, 0 < t.length := fun t h => (set_mem h).2.1
  generalize setL ws = us at HN HN2 hs1 hs2 hs3
  generalize faultL ws = f at HN HN2
  have hml := least_few hs2
  obtain ⟨j, hj⟩ : ∃ j, j + 1 = z := ⟨z - 1, by omega⟩
  have hjl : j < s.length := by omega
  have hjz : j < (⟨s.toArray⟩ : ByteArray).size := by rw [bsize]; omega
  have w1 : IntKind.i64.wrap ((z : Int) - 1) = (j : Int) := by rw [IntKind.wrap_i64]; omega
  obtain ⟨c, hcc⟩ : ∃ c, (s[j]).toNat = c := ⟨_, rfl⟩
  have hc : c < 256 := by rw [← hcc]; exact UInt8.toNat_lt _
  have hqb : ((⟨s.toArray⟩ : ByteArray)[j]'hjz).toNat = c := by rw [byteAt s j hjl hjz, hcc]
  have hby : byN s (z - 1) = c := by
    unfold byN
    rw [show z - 1 = j by omega]
    simp only [List.getD, List.getElem?_eq_getElem hjl, Option.getD_some, hcc]
  have HFi := Lib.hid (fun (w2 : World) (b : Option Addr) (h : HasTab w2 b (fstL us) (leastR us)) => shfirst_any h c hc)
  have HRLe := Lib.hid (fun (w2 : World) (a2 : Option Addr) (cap2 : Nat) (h : IsStrs w2 a2 us.length us) => rptleast_any a2 us.length cap2 us w2 (by omega) h (fun t ht => by have := hs2 t ht; omega))
  have HNew := Lib.hid (fun (w2 : World) (p : Option Addr) (h : IsPats w2 p us) => shnew_all h)
  have hle := fst_le us c
  have HIn : Hid (∀ t ∈ us, ∀ p : Nat, p + t.length ≤ s.length → t <:+ s.take (p + t.length) → ¬ (z ≤ p + t.length ∧ p + t.length < z + fstL us c)) := Lib.hid (fun t ht p h1 h2 h3 => fst_clears ht h1 h2 hz0 h3.1 (by rw [hby]; exact h3.2))
  obtain ⟨F, hFF⟩ : ∃ F, fstL us = F := ⟨_, rfl⟩
  obtain ⟨m, hmm⟩ : ∃ m, leastR us = m := ⟨_, rfl⟩
  rw [hmm] at HFi HRLe HNew hle hml
  rw [hFF] at HFi HNew hle HIn
  generalize F c = n at HFi hle HIn
  have HS2 := Lib.hid hs2
  have HS3 := Lib.hid hs3
  have S1 := Lib.hid (bsize s)
  have g1 : ¬ (100 : Int) < (s.length : Int) := by omega
  have g2 : decide ((100 : Int) < (s.length : Int)) = false := decide_eq_false g1
  have g3 : decide ((z : Int) < 1) = false := decide_eq_false (by omega)
  have g4 : decide ((s.length : Int) < (z : Int)) = false := decide_eq_false (by omega)
  have g5 : ¬ (z : Int) < 1 := by omega
  have g6 : ¬ (s.length : Int) < (z : Int) := by omega
  have HJ := Lib.hid hj
  clear hr hq hfw hwl hs2 hs3 hFF hmm hby hcc hj
  go_enter Try.func5, Try.ntmps5
  go_wp2_with fail
  refine HF.out.mono ?_
  rintro e w' ⟨rfl, hw⟩
  obtain rfl := hw.symm
  clear HF hw
  go_wp2_with fail
  refine HN.out.mono ?_
  rintro e w1 ⟨p, rfl, hp, d1⟩
  have e1 := d1.size
  have HN3 := Lib.hid (HN2.out w1 d1)
  have HP1 := Lib.hid hp
  clear HN HN2 hp
  go_wp2_with fail
  refine HN3.out.mono ?_
  rintro e w2 ⟨a2, cap2, rfl, hstr, hb2⟩
  have d2 := d1.trans (hb2.mono e1)
  have e2 := d2.size
  have T2 := Lib.hid hstr
  have HP2 := Lib.hid (HP1.out.below hb2)
  clear HN3 hb2 d1 e1 hstr HP1
  have HNewC : Hid (∀ W, W.heap = w2.heap → Calls Try.prog 10 #[.pointer p] W fun e w' => ∃ b, e = .returned (.pointer (some ⟨b, 0, none⟩)) ∧ HasTab w' (some ⟨b, 0, none⟩) F m ∧ Below w2.heap.size W w') := Lib.hid (fun W hW => by
    have h := HNew.out W p (HP2.out.heap hW)
    rw [hW] at h
    refine h.mono ?_
    rintro e w' ⟨b, h1, _, h2, h3⟩
    exact ⟨b, h1, h2, h3⟩)
  have HFiC : Hid (∀ (w3 : World) (b : Nat), HasTab w3 (some ⟨b, 0, none⟩) F m → ∀ W, W.heap = w3.heap → Calls Try.prog 13 #[.pointer (some ⟨b, 0, none⟩), .int .u8 (c : Int)] W fun e w' => e = .returned (.int .i64 (n : Int)) ∧ w' = W) := Lib.hid (fun w3 b h W hW => HFi.out W _ (h.heap hW))
  clear HNew HFi HP2
  go_wp2_with fail
  go_region_with (first
    | (go_at_call 10; refine (HNewC.out _ (by rfl)).mono ?_; rintro e w3 ⟨b, rfl, hT3, hb3⟩; have HF3 := Lib.hid (HFiC.out w3 b hT3); clear hT3)
    | (go_at_call 13; refine (HF3.out _ (by rfl)).mono ?_; rintro e w4 ⟨rfl, rfl⟩))
  all_goals
    have b3 := (Below.refl w2.heap.size w2).drew.trans hb3
    have d3 := d2.trans (b3.mono e2)
    have e3 := d3.size
    have T3 := Lib.hid (T2.out.below b3)
    have C3 := Lib.hid (HRLe.out w4 a2 cap2 T3.out)
    have hle2 : ¬ (m : Int) < (n : Int) := by omega
    clear T2 b3 hb3 HF3 HRLe d2 e2
    go_wp2_with fail
    refine C3.out.mono ?_
    rintro e w' ⟨rfl, hw⟩
    obtain rfl := hw.symm
    clear hw C3
    go_wp2
    go_loopw [12] (fun i wr => ∃ k : Nat, k ≤ us.length ∧ i = .int .i64 k ∧ Below w4.heap.size w4 wr) (fun i _ => us.length - (RowKit.intOf i).toNat)
    case atStart => exact ⟨0, Nat.zero_le _, rfl, Below.refl _ _⟩
    case round =>
      obtain ⟨i, hi, rfl, hbe⟩ := hrel
      obtain ⟨W1, hW1⟩ : ∃ W1, W1 = wr := ⟨_, rfl⟩
      subst hW1
      by_cases hlt : i < us.length
      · obtain ⟨b7, off7, rfl, t, hf, hcell⟩ := str_at T3.out hbe i hlt
        have htm := List.mem_of_getElem? hf
        have htl := HS2.out t htm
        have htp := HS3.out t htm
        have HC := Lib.hid (rfind_any s t W1 (by omega) (by omega))
        have HPl : Hid (∀ k, k < (fndB s t).length → ∃ p : Nat, (fndB s t).getD k 0 = (p : Int) ∧ p + t.length ≤ s.length ∧ ¬ (z ≤ p + t.length ∧ p + t.length < z + n)) := Lib.hid (fun k hk => by
          obtain ⟨p, h1, h2, h3⟩ := find_at2 htp hk
          exact ⟨p, h1, h2, HIn.out t htm p h2 h3⟩)
        have hfl := find_few2 s t
        generalize fndB s t = L at HC HPl hfl
        have S7 := Lib.hid (bsize t)
        have hsz := hbe.size
        have i0 : (0 : Int) ≤ (i : Int) := by omega
        have i1 : (i : Int) < (us.length : Int) := by omega
        clear hf htm
        go_wp2_with fail
        refine HC.out.mono ?_
        rintro e w8 ⟨a8, cap8, rfl, hrow8, hb8⟩
        have d8 := hbe.trans (hb8.mono hsz)
        have c8 : ∀ W, Below w8.heap.size w8 W → W.cell? ⟨b7, off7 + i, none⟩ = some (.string ⟨t.toArray⟩) := fun W hW => by
          have hb := hb8.trans (hW.mono hb8.size)
          rw [hb.cell (p := ⟨b7, off7 + i, none⟩) (World.block_lt_of_cell? _ _ hcell)]
          exact hcell
        have HC8 := Lib.hid c8
        have HR8 := Lib.hid hrow8
        clear HC hb8 hbe hcell c8 hrow8 hsz
        go_wp2
        go_loopw [14] (fun x wr => ∃ k : Nat, k ≤ L.length ∧ x = .int .i64 k ∧ Below w8.heap.size w8 wr) (fun x _ => L.length - (RowKit.intOf x).toNat)
        case atStart => exact ⟨0, Nat.zero_le _, rfl, Below.refl _ _⟩
        case round =>
          obtain ⟨k, hk, rfl, hbk⟩ := hrel
          by_cases hlk : k < L.length
          · obtain ⟨p, hp1, hp2, hp3⟩ := HPl.out k hlk
            have hkp : (0 : Int) ≤ (k : Int) := by omega
            have hkl : (k : Int) < (L.length : Int) := by omega
            obtain h0 | ⟨b9, off9, rfl, _, _, _, hall⟩ := HR8.out.below hbk
            · omega
            have hc9 := hall k hlk
            rw [hp1] at hc9
            have k2 := HC8.out wr hbk
            obtain ⟨X, hX⟩ : ∃ X, p + t.length = X := ⟨_, rfl⟩
            rw [hX] at hp2 hp3
            obtain ⟨N, hNN⟩ : ∃ N, z + n = N := ⟨_, rfl⟩
            rw [hNN] at hp3
            have w11 : IntKind.i64.wrap ((p : Int) + (t.length : Int)) = (X : Int) := by rw [IntKind.wrap_i64]; omega
            have w12 : IntKind.i64.wrap ((z : Int) + (n : Int)) = (N : Int) := by rw [IntKind.wrap_i64]; omega
            have HX := Lib.hid hX
            have HNN := Lib.hid hNN
            clear hp1 hX hNN hall
            by_cases hzx : z ≤ X
            · have q1 : (z : Int) ≤ (X : Int) := by omega
              have q2 : decide ((z : Int) ≤ (X : Int)) = true := decide_eq_true q1
              have q3 : ¬ (X : Int) < (N : Int) := by omega
              have q4 : decide ((X : Int) < (N : Int)) = false := decide_eq_false q3
              clear hp3
              go_wp2_with fail
              go_quiet (fail)
              go_wp2
              exact ⟨⟨k + 1, by omega, by go_num, below_drewS hbk _⟩, by simp [RowKit.intOf]; omega⟩
            · have q1 : ¬ (z : Int) ≤ (X : Int) := by omega
              have q2 : decide ((z : Int) ≤ (X : Int)) = false := decide_eq_false q1
              clear hp3
              go_wp2_with fail
              go_quiet (fail)
              go_wp2
              exact ⟨⟨k + 1, by omega, by go_num, below_drewS hbk _⟩, by simp [RowKit.intOf]; omega⟩
          · obtain rfl : k = L.length := by omega
            have hz : ¬ (L.length : Int) < (L.length : Int) := by omega
            have d9 := Lib.hid (d8.trans (hbk.mono d8.size))
            clear d8
            go_wp2
            exact ⟨⟨i + 1, by omega, by go_num, d9.out⟩, by simp [RowKit.intOf]; omega⟩
      · obtain rfl : i = us.length := by omega
        have hz : ¬ (us.length : Int) < (us.length : Int) := by omega
        have d7 := d3.trans (hbe.mono e3)
        have e7 := d7.size
        go_wp2_with fail
        refine (shawake_any _).mono ?_
        rintro e w14 ⟨rfl, hb14⟩
        have d14 := d7.trans (hb14.mono e7)
        go_wp2
        go_ret
        exact ⟨rfl, d14⟩
end Go.Proofs.Ytfafbjooehachaa
