/-
  The document's Take of layer 11: walked.
-/
import Derived.Test.YtoeakmpfkbmbcaaBkL
import Derived.Test.YtoeakmpfkbmbcaaBkT
import Derived.Test.YtoeakmpfkbmbcaaAfP
import Derived.Test.YtoeakmpfkbmbcaaVarRef
set_option linter.unusedSimpArgs false
set_option linter.unusedVariables false
namespace Go.Proofs.Ytoeakmpfkbmbcaa
open Go.RowKit

/-- What the document's Take answers. -/
def RetR (R : Int × List (List UInt8)) (w : World) (e : Ending) (w' : World) : Prop :=
  ∃ (ao : Option Addr) (cap : Nat) (L : List (List UInt8)), e = .returned (.tuple #[.slice ao L.length cap, .int .i64 R.1]) ∧ (R.1 = 0 → L = R.2) ∧ (¬ R.1 = 0 → L = [] ∧ ao = none ∧ cap = 0) ∧ IsStrs w' ao L.length L ∧ Below w.heap.size w w'
theorem RetR.bad {R : Int × List (List UInt8)} {w w' : World} {k : Int} {L : List (List UInt8)} (he : (k, L) = R) (hk : ¬ k = 0) (hb : Below w.heap.size w w') : RetR R w (.returned (.tuple #[.slice none 0 0, .int .i64 k])) w' := by
  subst he
  exact ⟨none, 0, [], rfl, fun h => absurd h hk, fun _ => ⟨rfl, rfl, rfl⟩, ⟨rfl, .inl rfl⟩, hb⟩

/-- The loop: so many bytes are read, these patterns. -/
def Loop (s : List UInt8) (N : Nat) (R : Int × List (List UInt8)) (w : World) (p v x t : Value) (wr : World) : Prop :=
  ∃ (k P : Nat) (L : List (List UInt8)) (a : List UInt8) (T : Nat), k ≤ N ∧ p = .int .i64 (P : Int) ∧ x = .string ⟨a.toArray⟩ ∧ t = .int .i64 (T : Int) ∧ P ≤ s.length ∧ a.length ≤ 65535 ∧ T ≤ 16777216 ∧
    Hid (L.length = k ∧ Grow L ∧ rdB (N - k) L (s.drop P) = R ∧ lastP L = a ∧ totalL L = T) ∧ wr.ownsRow w.heap.size 9 1 v k (txCells L) ∧ Below w.heap.size w wr

theorem own_slc {w : World} {base : Nat} {e : TypeId} {v : Value} {k : Nat} {L : List (List UInt8)} (h : w.ownsRow base e 1 v k (txCells L)) (hL : L.length = k) : ∃ ao cap, v = .slice ao k cap ∧ IsStrs w ao k L := by
  subst hL; exact owns_strs h

set_option maxHeartbeats 8000000 in
set_option maxRecDepth 100000 in
theorem rbktake_body (s : List UInt8) (w : World) (hs : s.length ≤ 1000000000) (hp : s.take 6 = hdB) (hc : cntE (s.drop 6) = 0) :
    Calls Try.prog 13 #[.string ⟨s.toArray⟩] w (RetR (rdB (tN (s.drop 6)).toNat [] (pastB (s.drop 6))) w) := by
  obtain ⟨hE0, n1, hn, hn2⟩ := cnt_ok hc
  have hl6 : 6 ≤ s.length := by have := congrArg List.length hp; rw [List.length_take] at this; simp [hdB] at this; omega
  have S1 := Lib.hid (bsize s)
  obtain ⟨i0, hi, hz0, hz1, hz2⟩ := info_parts string_info
  obtain ⟨N, hN⟩ : ∃ N, n1 + 1 = N := ⟨_, rfl⟩
  rw [hN] at hn hn2
  have x0 : (⟨s.toArray⟩ : ByteArray).extract 0 6 = ⟨hdB.toArray⟩ := by rw [ext_cut, hp]; rfl
  have x1 := ext_rest s 6
  have HT := Lib.hid (fun w => reftake_any (s.drop 6) w (by rw [List.length_drop]; omega))
  obtain ⟨p1, p2, _⟩ := put_take (s.drop 6) hE0
  rw [List.length_drop] at p2
  rw [hE0, hn] at HT
  rw [hn, Int.toNat_natCast]
  unfold pastB
  obtain ⟨P0, hP0⟩ : ∃ P0 : Nat, tS (s.drop 6) = (P0 : Int) := ⟨(tS (s.drop 6)).toNat, by omega⟩
  rw [hP0] at HT p1 p2 ⊢
  rw [Int.toNat_natCast, List.drop_drop]
  generalize hR : rdB N [] (s.drop (6 + P0)) = R
  have HK0 : Hid (([] : List (List UInt8)).length = 0 ∧ Grow [] ∧ rdB (N - 0) [] (s.drop (6 + P0)) = R ∧ lastP [] = [] ∧ totalL [] = 0) := Lib.hid ⟨rfl, Grow.nil, hR, rfl, rfl⟩
  have hP1 : 6 + P0 ≤ s.length := by omega
  clear hR hP0 hE0 hn hc hp p1 p2
  generalize s.drop 6 = t0 at x1 HT
  have gN : ((N : Int) == 0) = false := by simp; omega
  have gN2 : (N : Int) ≤ 65535 := by omega
  have hd6 : (hdB == [106, 117, 114, 97, 116, 1]) = true := by decide
  have g6 : (6 : Int) ≤ (s.length : Int) := by omega
  go_enter Try.func13, Try.ntmps13
  go_wp2_with fail
  refine (HT.out _).mono ?_
  rintro e w' ⟨rfl, rfl⟩
  clear HT x0 x1 hd6 g6
  go_wp2_with fail
  go_loopw [5, 7, 8, 9] (fun p v x t wr => Loop s N R w p v x t wr) (fun p _ _ _ _ => s.length - (RowKit.intOf p).toNat)
  case atStart => exact ⟨0, 6 + P0, [], [], 0, Nat.zero_le _, by go_num, rfl, rfl, hP1, by simp, by omega, HK0, World.ownsRow_made w #[] 0 (Nat.le_refl _) (by unfold maxLen; omega) rfl, (Below.refl _ _).alloc (Nat.le_refl _) _⟩
  case round =>
    obtain ⟨k, P, L, a, T, hk, rfl, rfl, rfl, hP, hal, hT, HK, hown, hbe⟩ := hrel
    obtain ⟨hL, hG, hK, hla, htl⟩ := HK.out
    have hsz := hbe.size
    obtain ⟨ao, cap, rfl, hst⟩ := own_slc hown hL
    by_cases hlt : k < N
    · obtain ⟨d, hd⟩ : ∃ d, N - k = d + 1 := ⟨N - k - 1, by omega⟩
      rw [hd, rdB_succ, hla, htl] at hK
      have x1 := ext_rest s P
      have hdl : (s.drop P).length = s.length - P := List.length_drop
      have H1 := Lib.hid (fun w => reftake_any (s.drop P) w (by omega))
      by_cases h1 : tE (s.drop P) = 0
      · obtain ⟨p1, p2, _⟩ := put_take (s.drop P) h1
        obtain ⟨i, hi1⟩ : ∃ i : Nat, tS (s.drop P) = (i : Int) := ⟨(tS (s.drop P)).toNat, by omega⟩
        have hpast : pastB (s.drop P) = s.drop (P + i) := by unfold pastB; rw [hi1, Int.toNat_natCast, List.drop_drop]
        rw [h1, hi1] at H1
        rw [hi1] at p1 p2
        have hPi : P + i ≤ s.length := by omega
        have x2 := ext_rest s (P + i)
        have hdl2 : (s.drop (P + i)).length = s.length - (P + i) := List.length_drop
        have H2 := Lib.hid (fun w => reftake_any (s.drop (P + i)) w (by omega))
        have b1 := tN_bounds (s.drop P)
        obtain ⟨A, hA⟩ := Int.eq_ofNat_of_zero_le b1.1
        rw [hA] at H1 b1
        by_cases h2 : tE (s.drop (P + i)) = 0
        · obtain ⟨q1, q2, _⟩ := put_take (s.drop (P + i)) h2
          obtain ⟨j, hj⟩ : ∃ j : Nat, tS (s.drop (P + i)) = (j : Int) := ⟨(tS (s.drop (P + i))).toNat, by omega⟩
          have hpast2 : pastB (s.drop (P + i)) = s.drop (P + i + j) := by unfold pastB; rw [hj, Int.toNat_natCast, List.drop_drop]
          rw [h2, hj] at H2
          rw [hj] at q1 q2
          have b2 := tN_bounds (s.drop (P + i))
          obtain ⟨B, hB⟩ := Int.eq_ofNat_of_zero_le b2.1
          rw [hB] at H2 b2
          obtain ⟨M, hM⟩ : ∃ M, P + i + j = M := ⟨_, rfl⟩
          have hMs : M ≤ s.length := by omega
          have hMi : (P : Int) + (i : Int) + (j : Int) = (M : Int) := by omega
          obtain ⟨r, hr⟩ : ∃ r, s.length - M = r := ⟨_, rfl⟩
          have hri : (s.length : Int) - (M : Int) = (r : Int) := by omega
          have hsM : (s.drop M).length = r := by rw [List.length_drop]; exact hr
          have HX : Hid (entE T a (s.drop P) = patE a (A : Int) (B : Int) T (s.drop M) ∧ entP a (s.drop P) = a.take A ++ (s.drop M).take B ∧ entR (s.drop P) = (s.drop M).drop B) := Lib.hid (by
            unfold entE entP entR
            rw [if_pos h1, hpast, if_pos h2, hpast2, hM, hA, hB, Int.toNat_natCast, Int.toNat_natCast]
            exact ⟨rfl, rfl, rfl⟩)
          have H3 := Lib.hid (fun w => rlen_any a (A : Int) (B : Int) T r w hal hT (by omega) (by omega) (by omega) (by omega) (by omega))
          have hPM : P < M := by omega
          clear hpast hpast2 hA hB hj hi1 h1 h2 hdl hdl2 hM b1 b2
          generalize s.drop (P + i) = t2 at x2 H2 q2
          by_cases h3 : lenE (A : Int) (B : Int) a.length (T : Int) (r : Int) = 0
          · obtain ⟨g1, g2, g3, g4, g5⟩ := len_ok h3
            rw [h3] at H3
            have e5 : ((M : Int) + (B : Int)).toNat = M + B := by omega
            have e6 : IntKind.i64.wrap ((M : Int) + (B : Int)) = (M : Int) + (B : Int) := by rw [IntKind.wrap_i64]; omega
            have e7 : (M : Int) + (B : Int) ≤ (s.length : Int) := by omega
            have e8 : (M : Int) ≤ (M : Int) + (B : Int) := by omega
            have e9 : (A : Int) ≤ (a.length : Int) := by omega
            have S2 := Lib.hid (bsize a)
            by_cases hA : A = a.length
            · have hnx : nxtE a A (s.drop M) = 0 := by unfold nxtE; rw [if_neg (by omega)]
              have d1 : decide (A < a.length) = false := decide_eq_false (by omega)
              have lp : (a.take A ++ (s.drop M).take B).length = A + B := by rw [List.length_append, List.length_take, List.length_take, List.length_drop]; omega
              have lq : ¬ 9223372036854775807 < (a.take A).length + ((s.drop M).take B).length := by rw [← List.length_append, lp]; omega
              have x5 : (⟨a.toArray⟩ : ByteArray).extract 0 A = ⟨(a.take A).toArray⟩ := by rw [ext_cut]; rfl
              have x6 : (⟨s.toArray⟩ : ByteArray).extract M (M + B) = ⟨((s.drop M).take B).toArray⟩ := by rw [ext_cut, List.drop_take, Nat.add_sub_cancel_left]
              have x7 : (⟨(a.take A).toArray⟩ : ByteArray) ++ ⟨((s.drop M).take B).toArray⟩ = ⟨(a.take A ++ (s.drop M).take B).toArray⟩ := by simp [ByteArray.mk_append_mk]
              have HN2 : Hid ((L ++ [a.take A ++ (s.drop M).take B]).length = k + 1 ∧ Grow (L ++ [a.take A ++ (s.drop M).take B]) ∧ rdB (N - (k + 1)) (L ++ [a.take A ++ (s.drop M).take B]) (s.drop (M + B)) = R ∧ lastP (L ++ [a.take A ++ (s.drop M).take B]) = a.take A ++ (s.drop M).take B ∧ totalL (L ++ [a.take A ++ (s.drop M).take B]) = T + (a.take A ++ (s.drop M).take B).length) := Lib.hid (by
                have hx : entE T a (s.drop P) = 0 := by rw [HX.out.1]; unfold patE; rw [if_pos (by rw [hsM]; exact h3), Int.toNat_natCast]; exact hnx
                rw [if_pos hx, HX.out.2.1, HX.out.2.2, List.drop_drop] at hK
                obtain ⟨a1, a2, a3, a4, _⟩ := ent_take _ _ _ hx
                rw [HX.out.2.1] at a1 a2 a3 a4
                refine ⟨by rw [List.length_append, hL]; rfl, hG.snoc a2 a3 (by rw [htl]; exact a4) (by rw [hla]; exact a1), by rw [show N - (k + 1) = d by omega]; exact hK, last_snoc _ _, ?_⟩
                rw [total_append, total_cons, htl]; simp [totalL])
              clear hK HK hL hG hla htl hd hst HX hnx
              generalize a.take A = a1 at x5 x7 lp lq HN2
              generalize (s.drop M).take B = a2 at x6 x7 lp lq HN2
              generalize a1 ++ a2 = p at x7 lp HN2
              have SP := Lib.hid (bsize p)
              clear hA
              generalize s.drop P = t1 at x1 H1
              go_wp2_with fail
              refine (H1.out _).mono ?_
              rintro e w' ⟨rfl, rfl⟩
              go_wp2_with fail
              refine (H2.out _).mono ?_
              rintro e w' ⟨rfl, rfl⟩
              go_wp2_with fail
              refine (H3.out _).mono ?_
              rintro e w' ⟨rfl, hw⟩
              obtain rfl := hw.symm
              go_wp2_with fail
              go_quiet (fail)
              go_wp2_with fail
              go_quiet (fail)
              go_wp2_with fail
              go_quiet (fail)
              go_wp2_with (at_builtin; refine wpList_append_own _ rfl _ _ 22 rfl w.heap.size 9 i0 (.string ByteArray.empty) 1 16 Try.underlying22 hi hz0 hz1 hz2 rfl (by decide) _ _ _ rfl (hown.alloc _) ⟨wr.heap.size, 0, none⟩ 1 1 [.string ⟨p.toArray⟩] rfl rfl ?c1 ?c2 ?c3 ?c4 ?c5 ?_)
              case c1 => exact one_news (heap_alloc_new _ _)
              case c2 => exact str_one
              case c3 => unfold maxLen; omega
              case c4 => omega
              case c5 => simp; omega
              intro v' w3 hown3 hgrow _
              have B3 : Below w.heap.size w w3 := (below_drewS hbe _).alloc (by simp; omega) _ |>.grown hgrow (by simp; omega) (fun k hk => (hown.lt k hk).1)
              clear hgrow
              go_wp2
              refine ⟨⟨k + 1, M + B, L ++ [p], p, T + p.length, by omega, by go_num, rfl, by go_num, by omega, by omega, by omega, HN2, ?_, B3⟩, by simp [RowKit.intOf]; omega⟩
              rw [txCells_snoc]
              exact hown3
            · have hA2 : A < a.length := by omega
              have d1 : decide (A < a.length) = true := decide_eq_true hA2
              have hM2 : M < s.length := by omega
              have z1 : A < (⟨a.toArray⟩ : ByteArray).size := by rw [bsize]; omega
              have z2 : M < (⟨s.toArray⟩ : ByteArray).size := by rw [bsize]; omega
              have HA := byte_head a A (by omega) z1
              have HB := byte_head s M (by omega) z2
              have HN : Hid (nxtE a A (s.drop M) = if s.getD M 0 = a.getD A 0 then 3 else if s.getD M 0 < a.getD A 0 then 9 else 0) := Lib.hid (by
                unfold nxtE
                rw [if_pos hA2]
                have : (s.drop M).getD 0 0 = s.getD M 0 := by simp [List.getD]
                rw [this])
              generalize s.getD M 0 = c at HB HN
              generalize a.getD A 0 = d' at HA HN
              by_cases r1 : c = d'
              · have HE : Hid ((3, []) = R) := Lib.hid (by
                  have hx : entE T a (s.drop P) = 3 := by rw [HX.out.1]; unfold patE; rw [if_pos (by rw [hsM]; exact h3), Int.toNat_natCast, HN.out, if_pos r1]
                  rw [hx] at hK
                  exact hK)
                have hq : (((((⟨s.toArray⟩ : ByteArray)[M]'z2).toNat : Int)) == ((((⟨a.toArray⟩ : ByteArray)[A]'z1).toNat : Int))) = true := by rw [HA, HB, r1]; simp
                clear HA HB HN r1 hK HK hL hG hla htl hd hst HX hA
                generalize s.drop P = t1 at x1 H1
                go_wp2_with fail
                refine (H1.out _).mono ?_
                rintro e w' ⟨rfl, rfl⟩
                go_wp2_with fail
                refine (H2.out _).mono ?_
                rintro e w' ⟨rfl, rfl⟩
                go_wp2_with fail
                refine (H3.out _).mono ?_
                rintro e w' ⟨rfl, hw⟩
                obtain rfl := hw.symm
                go_wp2_with fail
                go_quiet (fail)
                go_wp2
                go_ret2
                exact RetR.bad HE.out (by decide) (below_drewS hbe _)
              · have hq : (((((⟨s.toArray⟩ : ByteArray)[M]'z2).toNat : Int)) == ((((⟨a.toArray⟩ : ByteArray)[A]'z1).toNat : Int))) = false := by
                  rw [HA, HB]
                  simp only [beq_eq_false_iff_ne, ne_eq]
                  exact fun e => r1 (UInt8.toNat_inj.1 (by omega))
                by_cases r2 : c < d'
                · have HE : Hid ((9, []) = R) := Lib.hid (by
                    have hx : entE T a (s.drop P) = 9 := by rw [HX.out.1]; unfold patE; rw [if_pos (by rw [hsM]; exact h3), Int.toNat_natCast, HN.out, if_neg r1, if_pos r2]
                    rw [hx] at hK
                    exact hK)
                  have hr2 : (((⟨s.toArray⟩ : ByteArray)[M]'z2).toNat : Int) < (((⟨a.toArray⟩ : ByteArray)[A]'z1).toNat : Int) := by
                    rw [HA, HB]; have := UInt8.lt_iff_toNat_lt.1 r2; omega
                  clear HA HB HN r1 r2 hK HK hL hG hla htl hd hst HX hA
                  generalize s.drop P = t1 at x1 H1
                  go_wp2_with fail
                  refine (H1.out _).mono ?_
                  rintro e w' ⟨rfl, rfl⟩
                  go_wp2_with fail
                  refine (H2.out _).mono ?_
                  rintro e w' ⟨rfl, rfl⟩
                  go_wp2_with fail
                  refine (H3.out _).mono ?_
                  rintro e w' ⟨rfl, hw⟩
                  obtain rfl := hw.symm
                  go_wp2_with fail
                  go_quiet (fail)
                  go_wp2_with fail
                  go_quiet (fail)
                  go_wp2
                  go_ret2
                  exact RetR.bad HE.out (by decide) (below_drewS (below_drewS hbe _) _)
                · have hnx : nxtE a A (s.drop M) = 0 := by rw [HN.out, if_neg r1, if_neg r2]
                  have hr2 : ¬ (((⟨s.toArray⟩ : ByteArray)[M]'z2).toNat : Int) < (((⟨a.toArray⟩ : ByteArray)[A]'z1).toNat : Int) := by
                    rw [HA, HB]; have := UInt8.not_lt.1 r2; have := UInt8.le_iff_toNat_le.1 this; omega
                  have lp : (a.take A ++ (s.drop M).take B).length = A + B := by rw [List.length_append, List.length_take, List.length_take, List.length_drop]; omega
                  have lq : ¬ 9223372036854775807 < (a.take A).length + ((s.drop M).take B).length := by rw [← List.length_append, lp]; omega
                  have x5 : (⟨a.toArray⟩ : ByteArray).extract 0 A = ⟨(a.take A).toArray⟩ := by rw [ext_cut]; rfl
                  have x6 : (⟨s.toArray⟩ : ByteArray).extract M (M + B) = ⟨((s.drop M).take B).toArray⟩ := by rw [ext_cut, List.drop_take, Nat.add_sub_cancel_left]
                  have x7 : (⟨(a.take A).toArray⟩ : ByteArray) ++ ⟨((s.drop M).take B).toArray⟩ = ⟨(a.take A ++ (s.drop M).take B).toArray⟩ := by simp [ByteArray.mk_append_mk]
                  have HN2 : Hid ((L ++ [a.take A ++ (s.drop M).take B]).length = k + 1 ∧ Grow (L ++ [a.take A ++ (s.drop M).take B]) ∧ rdB (N - (k + 1)) (L ++ [a.take A ++ (s.drop M).take B]) (s.drop (M + B)) = R ∧ lastP (L ++ [a.take A ++ (s.drop M).take B]) = a.take A ++ (s.drop M).take B ∧ totalL (L ++ [a.take A ++ (s.drop M).take B]) = T + (a.take A ++ (s.drop M).take B).length) := Lib.hid (by
                    have hx : entE T a (s.drop P) = 0 := by rw [HX.out.1]; unfold patE; rw [if_pos (by rw [hsM]; exact h3), Int.toNat_natCast]; exact hnx
                    rw [if_pos hx, HX.out.2.1, HX.out.2.2, List.drop_drop] at hK
                    obtain ⟨a1, a2, a3, a4, _⟩ := ent_take _ _ _ hx
                    rw [HX.out.2.1] at a1 a2 a3 a4
                    refine ⟨by rw [List.length_append, hL]; rfl, hG.snoc a2 a3 (by rw [htl]; exact a4) (by rw [hla]; exact a1), by rw [show N - (k + 1) = d by omega]; exact hK, last_snoc _ _, ?_⟩
                    rw [total_append, total_cons, htl]; simp [totalL])
                  clear hK HK hL hG hla htl hd hst HX hnx
                  generalize a.take A = a1 at x5 x7 lp lq HN2
                  generalize (s.drop M).take B = a2 at x6 x7 lp lq HN2
                  generalize a1 ++ a2 = p at x7 lp HN2
                  have SP := Lib.hid (bsize p)
                  clear hA HA HB HN r1 r2
                  generalize s.drop P = t1 at x1 H1
                  go_wp2_with fail
                  refine (H1.out _).mono ?_
                  rintro e w' ⟨rfl, rfl⟩
                  go_wp2_with fail
                  refine (H2.out _).mono ?_
                  rintro e w' ⟨rfl, rfl⟩
                  go_wp2_with fail
                  refine (H3.out _).mono ?_
                  rintro e w' ⟨rfl, hw⟩
                  obtain rfl := hw.symm
                  go_wp2_with fail
                  go_quiet (fail)
                  go_wp2_with fail
                  go_quiet (fail)
                  go_wp2_with fail
                  go_quiet (fail)
                  go_wp2_with (at_builtin; refine wpList_append_own _ rfl _ _ 22 rfl w.heap.size 9 i0 (.string ByteArray.empty) 1 16 Try.underlying22 hi hz0 hz1 hz2 rfl (by decide) _ _ _ rfl (hown.alloc _) ⟨wr.heap.size, 0, none⟩ 1 1 [.string ⟨p.toArray⟩] rfl rfl ?c1 ?c2 ?c3 ?c4 ?c5 ?_)
                  case c1 => exact one_news (heap_alloc_new _ _)
                  case c2 => exact str_one
                  case c3 => unfold maxLen; omega
                  case c4 => omega
                  case c5 => simp; omega
                  intro v' w3 hown3 hgrow _
                  have B3 : Below w.heap.size w w3 := (below_drewS hbe _).alloc (by simp; omega) _ |>.grown hgrow (by simp; omega) (fun k hk => (hown.lt k hk).1)
                  clear hgrow
                  go_wp2
                  refine ⟨⟨k + 1, M + B, L ++ [p], p, T + p.length, by omega, by go_num, rfl, by go_num, by omega, by omega, by omega, HN2, ?_, B3⟩, by simp [RowKit.intOf]; omega⟩
                  rw [txCells_snoc]
                  exact hown3
          · have HE : Hid ((lenE (A : Int) (B : Int) a.length (T : Int) (r : Int), []) = R) := Lib.hid (by
              have hx : entE T a (s.drop P) = lenE (A : Int) (B : Int) a.length (T : Int) (r : Int) := by rw [HX.out.1]; unfold patE; rw [hsM, if_neg h3]
              rw [hx, if_neg h3] at hK
              exact hK)
            generalize lenE (A : Int) (B : Int) a.length (T : Int) (r : Int) = x at H3 HE h3
            have g2 : (x == 0) = false := by simpa using h3
            clear hK HK hL hG hla htl hd hst HX
            generalize s.drop P = t1 at x1 H1
            go_wp2_with fail
            refine (H1.out _).mono ?_
            rintro e w' ⟨rfl, rfl⟩
            go_wp2_with fail
            refine (H2.out _).mono ?_
            rintro e w' ⟨rfl, rfl⟩
            go_wp2_with fail
            refine (H3.out _).mono ?_
            rintro e w' ⟨rfl, hw⟩
            obtain rfl := hw.symm
            go_wp2
            go_ret2
            exact RetR.bad HE.out h3 hbe
        · have HF : Hid ((tE (s.drop (P + i)), []) = R) := Lib.hid (by
            have hx : entE T a (s.drop P) = tE (s.drop (P + i)) := by unfold entE; rw [if_pos h1, hpast, if_neg h2]
            rw [hx, if_neg h2] at hK
            exact hK)
          have hs0 : tS (s.drop (P + i)) = 0 := by unfold tS; rw [if_neg h2]
          have hn0 : tN (s.drop (P + i)) = 0 := by unfold tN; rw [if_neg h2]
          rw [hs0, hn0] at H2
          generalize tE (s.drop (P + i)) = x at H2 HF h2
          have g2 : (x == 0) = false := by simpa using h2
          clear hK hdl hdl2 hpast hs0 hn0 hA h1 hi1 HK hL hG hla htl hd
          generalize s.drop (P + i) = t2 at x2 H2
          generalize s.drop P = t1 at x1 H1
          go_wp2_with fail
          refine (H1.out _).mono ?_
          rintro e w' ⟨rfl, rfl⟩
          go_wp2_with fail
          refine (H2.out _).mono ?_
          rintro e w' ⟨rfl, rfl⟩
          go_wp2
          go_ret2
          exact RetR.bad HF.out h2 hbe
      · have HF : Hid ((tE (s.drop P), []) = R) := Lib.hid (by
          have hx : entE T a (s.drop P) = tE (s.drop P) := by unfold entE; rw [if_neg h1]
          rw [hx, if_neg h1] at hK
          exact hK)
        have hs0 : tS (s.drop P) = 0 := by unfold tS; rw [if_neg h1]
        have hn0 : tN (s.drop P) = 0 := by unfold tN; rw [if_neg h1]
        rw [hs0, hn0] at H1
        generalize tE (s.drop P) = x at H1 HF h1
        have g2 : (x == 0) = false := by simpa using h1
        clear hK hdl hs0 hn0 HK hL hG hla htl hd
        generalize s.drop P = t1 at x1 H1
        go_wp2_with fail
        refine (H1.out _).mono ?_
        rintro e w' ⟨rfl, rfl⟩
        go_wp2
        go_ret2
        exact RetR.bad HF.out h1 hbe
    · obtain rfl : k = N := by omega
      rw [Nat.sub_self] at hK
      by_cases h0 : P = s.length
      · have HF : Hid ((0, L) = R) := Lib.hid (by rw [← hK, h0, List.drop_length]; rfl)
        have HI := Lib.hid hst
        have HLn := Lib.hid hL
        have g1 : ¬ (P : Int) < (s.length : Int) := by omega
        clear hK HK hL hG hla htl hst h0
        go_wp2
        go_ret2
        refine ⟨ao, cap, L, ?_, fun _ => by rw [← HF.out], fun h => absurd (by rw [← HF.out]) h, by rw [HLn.out]; exact HI.out, hbe⟩
        rw [← HF.out, HLn.out]; rfl
      · have HF : Hid ((20, L) = R) := Lib.hid (by
          rw [← hK]
          show _ = (if (s.drop P).length = 0 then 0 else 20, L)
          rw [if_neg (by rw [List.length_drop]; omega)])
        have g1 : (P : Int) < (s.length : Int) := by omega
        clear hK HK hL hG hla htl hst h0
        go_wp2
        go_ret2
        exact RetR.bad HF.out (by decide) hbe
end Go.Proofs.Ytoeakmpfkbmbcaa
