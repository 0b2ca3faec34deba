/-
  The law ShiftEnds: walked.
-/
import Derived.Test.YtfafbjooehachaaShA
import Derived.Test.YtfafbjooehachaaBdF
set_option linter.unusedSimpArgs false
set_option linter.unusedVariables false
namespace Go.Proofs.Ytfafbjooehachaa
open Go.RowKit

/-- What a place tells: where the text stands. -/
theorem find_at {s t : List UInt8} {k : Nat} (ht : 0 < t.length) (hk : k < (fndB s t).length) : ∃ p : Nat, (fndB s t).getD k 0 = (p : Int) ∧ p + t.length ≤ s.length ∧ t <:+ s.take (p + t.length) := by
  have e : fndB s t = fnd s t s.length := fndB_full (by cases t with | nil => simp at ht | cons _ _ => rfl)
  rw [e] at hk ⊢
  obtain ⟨j, h1, h2⟩ := fnd_mem s.length _ (getD_in _ k hk)
  obtain ⟨h3, h4⟩ := h2 (Nat.le_refl _)
  exact ⟨j, h1, h3, h4⟩
theorem find_few (s t : List UInt8) : (fndB s t).length ≤ s.length := by
  unfold fndB
  split
  · exact Nat.zero_le _
  · exact fnd_length s t _

/-- Is a number one of the first j? -/
def toldK (E : List Int) (x : Int) (j : Nat) : Bool := (E.take j).any (· == x)
theorem told_zero (E : List Int) (x : Int) : toldK E x 0 = false := rfl
theorem told_next {E : List Int} {x : Int} {j : Nat} (h : j < E.length) : toldK E x (j + 1) = (toldK E x j || E.getD j 0 == x) := by
  unfold toldK
  rw [take_snoc E j h, List.any_append]
  simp
theorem told_all {E : List Int} {x : Int} {j : Nat} (h : x ∈ E) (hj : E.length ≤ j) : toldK E x j = true := by
  unfold toldK
  rw [List.take_of_length_le hj]
  exact List.any_eq_true.2 ⟨x, h, by simp⟩

set_option maxHeartbeats 1000000 in
theorem shends_many (a : Option Addr) (len cap : Nat) (ws : List (List UInt8)) (s : List UInt8) (w : World) (hlen : len ≤ 9223372036854775807) (hr : IsStrs w a len ws) (ht : ∀ t ∈ ws, t.length ≤ 9223372036854775807) (hq : fewB ws 20 50 = false) :
    Calls Try.prog 4 #[.slice a len cap, .string ⟨s.toArray⟩] w fun e w' => e = .returned (.bool true) ∧ Below w.heap.size w w' := by
  have HF := Lib.hid (few_not a len cap ws w hlen hr ht hq)
  clear hr ht hq
  go_enter Try.func4, Try.ntmps4
  go_wp2_with fail
  refine HF.out.mono ?_
  rintro e w' ⟨rfl, rfl⟩
  go_wp2_with fail
  refine (shawake_any _).mono ?_
  rintro e w' ⟨rfl, hb⟩
  go_wp2
  go_ret
  exact ⟨rfl, hb⟩
set_option maxHeartbeats 1000000 in
theorem shends_long (a : Option Addr) (len cap : Nat) (ws : List (List UInt8)) (s : List UInt8) (w : World) (hlen : len ≤ 9223372036854775807) (hr : IsStrs w a len ws) (ht : ∀ t ∈ ws, t.length ≤ 9223372036854775807) (hq : fewB ws 20 50 = true) (hs : 100 < s.length) :
    Calls Try.prog 4 #[.slice a len cap, .string ⟨s.toArray⟩] w fun e w' => e = .returned (.bool true) ∧ Below w.heap.size w w' := by
  have HF := Lib.hid (few_yes a len cap ws w hlen hr ht hq)
  have S1 := Lib.hid (bsize s)
  have g1 : (100 : Int) < (s.length : Int) := by omega
  have g2 : decide ((100 : Int) < (s.length : Int)) = true := decide_eq_true g1
  clear hr ht hq
  go_enter Try.func4, Try.ntmps4
  go_wp2_with fail
  refine HF.out.mono ?_
  rintro e w' ⟨rfl, rfl⟩
  go_wp2_with fail
  refine (shawake_any _).mono ?_
  rintro e w' ⟨rfl, hb⟩
  go_wp2
  go_ret
  exact ⟨rfl, hb⟩

set_option maxRecDepth 100000 in
set_option maxHeartbeats 8000000 in
theorem shends_few (a : Option Addr) (len cap : Nat) (ws : List (List UInt8)) (s : List UInt8) (w : World) (hr : IsStrs w a len ws) (hq : fewB ws 20 50 = true) (hs : s.length ≤ 100) :
    Calls Try.prog 4 #[.slice a len cap, .string ⟨s.toArray⟩] w fun e w' => e = .returned (.bool true) ∧ Below w.heap.size w w' := by
  have hwl := hr.1
  have hfw := (few_iff ws 20 50).1 hq
  have hlen : len ≤ 20 := by omega
  have HF := Lib.hid (few_yes a len cap ws w (by omega) hr (fun t ht => by have := hfw.2 t ht; omega) hq)
  have HN := Lib.hid (ptnew_all a len cap ws w (by omega) hr (fun t ht => by have := hfw.2 t ht; omega))
  have HN2 := Lib.hid (fun (w2 : World) (hb : Below w.heap.size w w2) => rptnew_all a len cap ws w2 (by omega) (hr.below hb) (fun t ht => by have := hfw.2 t ht; omega))
  obtain ⟨hs1, hs2⟩ := few_set hq
  have hs3 : ∀ t ∈ setL ws, 0 < t.length := fun t h => (set_mem h).2.1
  generalize setL ws = us at HN HN2 hs1 hs2 hs3
  generalize faultL ws = f at HN HN2
  have hml := least_few hs2
  have HEn := Lib.hid (fun (w2 : World) (b : Option Addr) (h : HasTab w2 b (fstL us) (leastR us)) => shends_any h s (by omega) (by omega) (fst_le us))
  have HREn := Lib.hid (fun (w2 : World) (a2 : Option Addr) (cap2 : Nat) (h : IsStrs w2 a2 us.length us) => rshends_any a2 us.length cap2 us s w2 (by omega) h (fun t ht => by have := hs2 t ht; omega) (by omega))
  have HNew := Lib.hid (fun (w2 : World) (p : Option Addr) (h : IsPats w2 p us) => shnew_all h)
  have HIn : Hid (∀ t ∈ us, ∀ p : Nat, p + t.length ≤ s.length → t <:+ s.take (p + t.length) → ((p + t.length : Nat) : Int) ∈ endL (fstL us) (leastR us) s) := Lib.hid (fun t ht p h1 h2 => endL_has (leastR_pos ht hs3) ht h1 h2 (by omega))
  have hEl := endL_length (fstL us) (leastR us) s
  generalize endL (fstL us) (leastR us) s = E at HEn HREn HIn hEl
  have HS2 := Lib.hid hs2
  have HS3 := Lib.hid hs3
  have S1 := Lib.hid (bsize s)
  have g1 : ¬ (100 : Int) < (s.length : Int) := by omega
  have g2 : decide ((100 : Int) < (s.length : Int)) = false := decide_eq_false g1
  clear hr hq hfw hwl hs2 hs3 hml
  go_enter Try.func4, Try.ntmps4
  go_wp2_with fail
  refine HF.out.mono ?_
  rintro e w' ⟨rfl, hw⟩
  obtain rfl := hw.symm
  clear HF hw
  go_wp2_with fail
  refine HN.out.mono ?_
  rintro e w1 ⟨p, rfl, hp, d1⟩
  have e1 := d1.size
  have HN3 := Lib.hid (HN2.out w1 d1)
  have HP1 := Lib.hid hp
  clear HN HN2 hp
  go_wp2_with fail
  refine HN3.out.mono ?_
  rintro e w2 ⟨a2, cap2, rfl, hstr, hb2⟩
  have d2 := d1.trans (hb2.mono e1)
  have e2 := d2.size
  have HB2 := Lib.hid (HNew.out w2 p (HP1.out.below hb2))
  have T2 := Lib.hid hstr
  clear HN3 hb2 d1 e1 hstr HP1 HNew
  go_wp2_with fail
  refine HB2.out.mono ?_
  rintro e w3 ⟨b, rfl, _, hB, hb3⟩
  have d3 := d2.trans (hb3.mono e2)
  have e3 := d3.size
  have T3 := Lib.hid (T2.out.below hb3)
  have C3 := Lib.hid (HEn.out w3 _ hB)
  clear HB2 T2 hB hb3 d2 e2 HEn
  go_wp2_with fail
  refine C3.out.mono ?_
  rintro e w4 ⟨v4, rfl, hown4, hb4⟩
  have d4 := d3.trans (hb4.mono e3)
  have e4 := d4.size
  obtain ⟨a4, cap4, rfl, hrow4⟩ := row_of_ints hown4 (by unfold maxLen; omega)
  have T4 := Lib.hid (T3.out.below hb4)
  have R4 := Lib.hid hrow4
  have C4 := Lib.hid (HREn.out w4 a2 cap2 T4.out)
  clear C3 T3 hb4 d3 e3 HREn hown4 hrow4
  go_wp2_with fail
  refine C4.out.mono ?_
  rintro e w5 ⟨v5, rfl, hown5, hb5⟩
  have d5 := d4.trans (hb5.mono e4)
  have e5 := d5.size
  obtain ⟨a5, cap5, rfl, hrow5⟩ := row_of_ints hown5 (by unfold maxLen; omega)
  have C5 := Lib.hid (isame_any a4 a5 _ cap4 cap5 _ _ _ w5 (by omega) (R4.out.below hb5) hrow5)
  have T5 := Lib.hid (T4.out.below hb5)
  have R5 := Lib.hid (R4.out.below hb5)
  clear C4 T4 R4 hown5 hrow5 hb5 d4 e4
  go_wp2_with fail
  refine C5.out.mono ?_
  rintro e w6 ⟨rfl, hb6⟩
  have d6 := d5.trans (hb6.mono e5)
  have e6 := d6.size
  have T6 := Lib.hid (T5.out.below hb6)
  have R6 := Lib.hid (R5.out.below hb6)
  clear C5 T5 R5 hb6 d5 e5
  go_wp2
  go_loopw [11] (fun i wr => ∃ k : Nat, k ≤ us.length ∧ i = .int .i64 k ∧ Below w6.heap.size w6 wr) (fun i _ => us.length - (RowKit.intOf i).toNat)
  case atStart => exact ⟨0, Nat.zero_le _, rfl, Below.refl _ _⟩
  case round =>
    obtain ⟨i, hi, rfl, hbe⟩ := hrel
    obtain ⟨W1, hW1⟩ : ∃ W1, W1 = wr := ⟨_, rfl⟩
    subst hW1
    by_cases hlt : i < us.length
    · obtain ⟨b7, off7, rfl, t, hf, hcell⟩ := str_at T6.out hbe i hlt
      have htm := List.mem_of_getElem? hf
      have htl := HS2.out t htm
      have htp := HS3.out t htm
      have HC := Lib.hid (rfind_any s t W1 (by omega) (by omega))
      have HPl : Hid (∀ k, k < (fndB s t).length → ∃ p : Nat, (fndB s t).getD k 0 = (p : Int) ∧ p + t.length ≤ s.length ∧ ((p + t.length : Nat) : Int) ∈ E) := Lib.hid (fun k hk => by
        obtain ⟨p, h1, h2, h3⟩ := find_at htp hk
        exact ⟨p, h1, h2, HIn.out t htm p h2 h3⟩)
      have hfl := find_few s t
      generalize fndB s t = L at HC HPl hfl
      have S7 := Lib.hid (bsize t)
      have hsz := hbe.size
      have i0 : (0 : Int) ≤ (i : Int) := by omega
      have i1 : (i : Int) < (us.length : Int) := by omega
      clear hf htm
      go_wp2_with fail
      refine HC.out.mono ?_
      rintro e w8 ⟨a8, cap8, rfl, hrow8, hb8⟩
      have d8 := hbe.trans (hb8.mono hsz)
      have R8 := Lib.hid (R6.out.below d8)
      have c8 : ∀ W, Below w8.heap.size w8 W → W.cell? ⟨b7, off7 + i, none⟩ = some (.string ⟨t.toArray⟩) := fun W hW => by
        have hb := hb8.trans (hW.mono hb8.size)
        rw [hb.cell (p := ⟨b7, off7 + i, none⟩) (World.block_lt_of_cell? _ _ hcell)]
        exact hcell
      have HC8 := Lib.hid c8
      have HR8 := Lib.hid hrow8
      clear HC hb8 hbe hcell c8 hrow8 hsz
      go_wp2
      go_loopw [13] (fun x wr => ∃ k : Nat, k ≤ L.length ∧ x = .int .i64 k ∧ Below w8.heap.size w8 wr) (fun x _ => L.length - (RowKit.intOf x).toNat)
      case atStart => exact ⟨0, Nat.zero_le _, rfl, Below.refl _ _⟩
      case round =>
        obtain ⟨k, hk, rfl, hbk⟩ := hrel
        obtain ⟨W2, hW2⟩ : ∃ W2, W2 = wr := ⟨_, rfl⟩
        subst hW2
        by_cases hlk : k < L.length
        · obtain ⟨p, hp1, hp2, hp3⟩ := HPl.out k hlk
          have hkp : (0 : Int) ≤ (k : Int) := by omega
          have hkl : (k : Int) < (L.length : Int) := by omega
          obtain h0 | ⟨b9, off9, rfl, _, _, _, hc9⟩ := HR8.out
          · omega
          have hc9 := hc9 k hlk
          rw [hp1] at hc9
          have HC9 : Hid (∀ W, Below w8.heap.size w8 W → W.cell? ⟨b9, off9 + k, none⟩ = some (.int .i64 (p : Int))) := Lib.hid (fun W hW => by
            rw [hW.cell (p := ⟨b9, off9 + k, none⟩) (World.block_lt_of_cell? _ _ hc9)]
            exact hc9)
          obtain ⟨X, hX⟩ : ∃ X, p + t.length = X := ⟨_, rfl⟩
          rw [hX] at hp2 hp3
          have w1 : IntKind.i64.wrap ((p : Int) + (t.length : Int)) = (X : Int) := by rw [IntKind.wrap_i64]; omega
          have HTA : Hid (∀ j, E.length ≤ j → toldK E (X : Int) j = true) := Lib.hid (fun j hj => told_all hp3 hj)
          have HTN : Hid (∀ j, j < E.length → toldK E (X : Int) (j + 1) = (toldK E (X : Int) j || E.getD j 0 == (X : Int))) := Lib.hid (fun j hj => told_next hj)
          have HX := Lib.hid hX
          clear hp1 hp3 hc9 hX
          go_wp2
          go_loopw [14, 15] (fun b x wr => ∃ j : Nat, j ≤ E.length ∧ x = .int .i64 j ∧ b = .bool (toldK E (X : Int) j) ∧ Below w8.heap.size w8 wr) (fun _ x _ => E.length - (RowKit.intOf x).toNat)
          case atStart => exact ⟨0, Nat.zero_le _, rfl, rfl, hbk⟩
          case round =>
            obtain ⟨j, hj, rfl, rfl, hbj⟩ := hrel
            by_cases hlj : j < E.length
            · have hn := HTN.out j hlj
              have hjp : (0 : Int) ≤ (j : Int) := by omega
              have hjl : (j : Int) < (E.length : Int) := by omega
              have k1 := HC9.out wr hbj
              have k2 := HC8.out wr hbj
              obtain h0 | ⟨b10, off10, rfl, _, _, _, hc10⟩ := R8.out.below (hbj.mono (Nat.le_refl _))
              · omega
              have k3 := hc10 j hlj
              clear hc10
              cases hto : toldK E (X : Int) j with
              | true =>
                have HNX : Hid (toldK E (X : Int) (j + 1) = true) := Lib.hid (by rw [hn, hto]; rfl)
                clear hn
                go_wp2_with fail
                go_quiet (fail)
                go_wp2
                exact ⟨⟨j + 1, by omega, by go_num, by rw [HNX.out], below_drewS hbj _⟩, by simp [RowKit.intOf]; omega⟩
              | false =>
                rw [hto, Bool.false_or] at hn
                generalize E.getD j 0 = y at k3 hn
                cases hy : (y == (X : Int)) with
                | true =>
                  have HNX : Hid (toldK E (X : Int) (j + 1) = true) := Lib.hid (by rw [hn, hy])
                  clear hn
                  go_wp2_with fail
                  go_quiet (fail)
                  go_wp2
                  exact ⟨⟨j + 1, by omega, by go_num, by rw [HNX.out], below_drewS hbj _⟩, by simp [RowKit.intOf]; omega⟩
                | false =>
                  have HNX : Hid (toldK E (X : Int) (j + 1) = false) := Lib.hid (by rw [hn, hy])
                  clear hn
                  go_wp2_with fail
                  go_quiet (fail)
                  go_wp2
                  exact ⟨⟨j + 1, by omega, by go_num, by rw [HNX.out], below_drewS hbj _⟩, by simp [RowKit.intOf]; omega⟩
            · obtain rfl : j = E.length := by omega
              have hz : ¬ (E.length : Int) < (E.length : Int) := by omega
              have hto := HTA.out E.length (Nat.le_refl _)
              go_wp2
              exact ⟨⟨k + 1, by omega, by go_num, hbj⟩, by simp [RowKit.intOf]; omega⟩
        · obtain rfl : k = L.length := by omega
          have hz : ¬ (L.length : Int) < (L.length : Int) := by omega
          have d9 := d8.trans (hbk.mono d8.size)
          go_wp2
          exact ⟨⟨i + 1, by omega, by go_num, d9⟩, by simp [RowKit.intOf]; omega⟩
    · obtain rfl : i = us.length := by omega
      have hz : ¬ (us.length : Int) < (us.length : Int) := by omega
      have d7 := d6.trans (hbe.mono e6)
      have e7 := d7.size
      go_wp2_with fail
      refine (shawake_any _).mono ?_
      rintro e w14 ⟨rfl, hb14⟩
      have d14 := d7.trans (hb14.mono e7)
      go_wp2
      go_ret
      exact ⟨rfl, d14⟩
end Go.Proofs.Ytfafbjooehachaa
