/-
  The document's ids of layer 28: walked.
-/
import Derived.Test.YtjmaccflnfaiiaaBn9
import Derived.Test.YtjmaccflnfaiiaaRcI
import Derived.Test.YtjmaccflnfaiiaaBn5
import Derived.Deep.RegionWith
set_option linter.unusedSimpArgs false
set_option linter.unusedVariables false
namespace Go.Proofs.Ytjmaccflnfaiiaa
open Go.RowKit

/-- What the document's ids answers. -/
def RetRi (S : Int × List Int × List UInt8) (l : Nat) (w : World) (e : Ending) (w' : World) : Prop :=
  ((¬ S.1 = 0 ∧ e = .returned (.tuple #[.slice none 0 0, .int .i64 0, .int .i64 S.1])) ∨ (S.1 = 0 ∧ ∃ ao cap, e = .returned (.tuple #[.slice ao S.2.1.length cap, .int .i64 ((l : Int) - (S.2.2.length : Int)), .int .i64 0]) ∧ w'.ownsRow w.heap.size 3 1 (.slice ao S.2.1.length cap) S.2.1.length (inCells S.2.1))) ∧ Below w.heap.size w w'

set_option maxHeartbeats 1000000 in
theorem rids_form (c : UInt8) (t : List UInt8) (w : World) (hs : t.length ≤ 1000000000) (he : ¬ tE t = 0) :
    Calls Try.prog 41 #[.string ⟨(c :: t).toArray⟩] w (RetRi (idsR t) (c :: t).length w) := by
  have HS : Hid (idsR t = (tE t, [], t)) := Lib.hid (by unfold idsR; rw [if_neg he])
  rw [HS.out]
  have HT := Lib.hid (reftake_any t w (by omega))
  have hs0 : tS t = 0 := by unfold tS; rw [if_neg he]
  have hn : tN t = 0 := by unfold tN; rw [if_neg he]
  rw [hs0, hn] at HT
  have HN : Hid (¬ (tE t, ([] : List Int), t).1 = 0) := Lib.hid he
  have Z1 := bsize (c :: t)
  have x1 := ext_rest (c :: t) 1
  rw [show (c :: t).drop 1 = t from rfl, List.length_cons] at x1
  generalize tE t = y at *
  have g1 : (y != 0) = true := by simpa using he
  clear he HS hs0 hn
  go_enter Try.func41, Try.ntmps41
  go_wp2_with fail
  try rw [x1]
  refine HT.out.mono ?_
  rintro e w' ⟨rfl, hw⟩
  obtain rfl := hw.symm
  go_wp2
  go_ret3
  exact ⟨.inl ⟨HN.out, rfl⟩, Below.refl _ _⟩

set_option maxHeartbeats 1000000 in
theorem rids_many (c : UInt8) (t : List UInt8) (w : World) (hs : t.length ≤ 1000000000) (he : tE t = 0) (hm : 65535 < tN t) :
    Calls Try.prog 41 #[.string ⟨(c :: t).toArray⟩] w (RetRi (idsR t) (c :: t).length w) := by
  have HS : Hid (idsR t = (6, [], t)) := Lib.hid (by unfold idsR; rw [if_pos he, if_pos hm])
  rw [HS.out]
  have HT := Lib.hid (reftake_any t w (by omega))
  rw [he] at HT
  have Z1 := bsize (c :: t)
  have x1 := ext_rest (c :: t) 1
  rw [show (c :: t).drop 1 = t from rfl, List.length_cons] at x1
  generalize tN t = n at *
  generalize tS t = z at *
  clear he HS
  go_enter Try.func41, Try.ntmps41
  go_wp2_with fail
  try rw [x1]
  refine HT.out.mono ?_
  rintro e w' ⟨rfl, hw⟩
  obtain rfl := hw.symm
  go_wp2
  go_ret3
  exact ⟨.inl ⟨by simp, rfl⟩, Below.refl _ _⟩

/-- The last one that was read, or 0. -/
def lastI (L : List Int) : Int := L.getLastD 0
theorem last_snocI (L : List Int) (x : Int) : lastI (L ++ [x]) = x := by simp [lastI]

set_option maxRecDepth 100000 in
set_option maxHeartbeats 4000000 in
theorem rids_read (c : UInt8) (t : List UInt8) (w : World) (hs : t.length ≤ 1000000000) (he : tE t = 0) (hm : ¬ 65535 < tN t) :
    Calls Try.prog 41 #[.string ⟨(c :: t).toArray⟩] w (RetRi (idsR t) (c :: t).length w) := by
  have hn0 := tN_bounds t
  have HS : Hid (idsR t = idT (tN t).toNat true 0 (psv t)) := Lib.hid (by unfold idsR; rw [if_pos he, if_neg hm])
  rw [HS.out]
  have HT := Lib.hid (reftake_any t w (by omega))
  rw [he] at HT
  obtain ⟨p1, p2, _⟩ := put_take t he
  obtain ⟨k, hk⟩ : ∃ k : Nat, tS t = (k : Int) := ⟨(tS t).toNat, by omega⟩
  have hp : psv t = (c :: t).drop (1 + k) := by unfold psv; rw [hk, Int.toNat_natCast, Nat.add_comm]; rfl
  obtain ⟨N, hN⟩ : ∃ N : Nat, tN t = (N : Int) := ⟨(tN t).toNat, by omega⟩
  have hN2 : N ≤ 65535 := by omega
  rw [hN, hk] at HT
  rw [hN, Int.toNat_natCast, hp]
  have Z1 := bsize (c :: t)
  have x1 := ext_rest (c :: t) 1
  rw [show (c :: t).drop 1 = t from rfl, List.length_cons] at x1
  have hkl : 1 + k ≤ (c :: t).length := by rw [List.length_cons]; omega
  have hsl : (c :: t).length ≤ 1000000001 := by rw [List.length_cons]; omega
  have hE : (c :: t).length = t.length + 1 := List.length_cons
  obtain ⟨S, hS⟩ : ∃ S, idT N true 0 ((c :: t).drop (1 + k)) = S := ⟨_, rfl⟩
  have HR0 : Hid (RelI N S [] 0 ((c :: t).drop (1 + k)) 0) := Lib.hid (.inl ⟨rfl, by omega, by omega, S.2.1, hS, rfl⟩)
  rw [hS]
  have H0 : Hid ((w.alloc (.cells #[] 3)).ownsRow w.heap.size 3 1 (.slice (some ⟨w.heap.size, 0, none⟩) 0 0) ([] : List Int).length (inCells [])) := Lib.hid (World.ownsRow_made w #[] 0 (Nat.le_refl _) (by unfold maxLen; omega) rfl)
  have HB0 : Hid (Below w.heap.size w (w.alloc (.cells #[] 3))) := Lib.hid ((Below.refl _ _).alloc (Nat.le_refl _) _)
  obtain ⟨i0, hi, hz0, hz1, hz2⟩ := info_parts int_info
  have hkt : k ≤ t.length := by omega
  have g8 : ¬ (65535 : Int) < (N : Int) := by omega
  clear he hm HS hS hN hn0 hs p1 p2 hk hp
  generalize hsx : c :: t = s at *
  clear hsx
  go_enter Try.func41, Try.ntmps41
  go_wp2_with fail
  try rw [hE, x1]
  refine HT.out.mono ?_
  rintro e w' ⟨rfl, hw⟩
  subst hw
  clear HT x1 hkt hE
  go_wp2_with fail
  go_loopw [8, 9] (fun v p wr => ∃ (L : List Int) (at' : Nat), p = .int .i64 at' ∧ at' ≤ s.length ∧ L.length ≤ N ∧ Hid (wr.ownsRow w.heap.size 3 1 v L.length (inCells L)) ∧ Hid (RelI N S L (lastI L) (s.drop at') 0) ∧ Hid (Below w.heap.size w wr)) (fun v _ _ => N - vlen v)
  case atStart => exact ⟨[], 1 + k, by go_num, hkl, Nat.zero_le _, H0, HR0, HB0⟩
  case round =>
    rename_i wr
    clear H0 HR0 HB0 hkl
    obtain ⟨L, at', rfl, hat, hL, HO, HR, HB⟩ := hrel
    obtain ⟨ao, cv, rfl⟩ := owns_slice HO.out
    by_cases hlt : L.length < N
    · have g0 : (L.length : Int) < (N : Int) := by omega
      have x2 := ext_rest s at'
      have hdl : (s.drop at').length = s.length - at' := List.length_drop
      have HT := Lib.hid (reftake_any (s.drop at') wr (by omega))
      by_cases he : tE (s.drop at') = 0
      · obtain ⟨p1, p2, _⟩ := put_take _ he
        obtain ⟨j, hj⟩ : ∃ j : Nat, tS (s.drop at') = (j : Int) := ⟨(tS (s.drop at')).toNat, by omega⟩
        have hpv : psv (s.drop at') = s.drop (at' + j) := by unfold psv; rw [hj, Int.toNat_natCast, List.drop_drop]
        have hA := tN_bounds (s.drop at')
        obtain ⟨A, hAe⟩ : ∃ A, tN (s.drop at') = A := ⟨_, rfl⟩
        rw [he, hj, hAe] at HT
        rw [hAe] at hA
        have ha : 0 ≤ lastI L ∧ lastI L ≤ 65534 := by
          rcases HR.out with ⟨_, h0, h1, _⟩ | ⟨h, _⟩
          · exact ⟨h0, h1⟩
          · exact absurd rfl h
        have hstep := fun q1 q2 y2 y3 h1 e2 h2 e3 => ri_step (t := s.drop at') (t1 := s.drop (at' + j)) (y1 := 0) (y2 := y2) (y3 := y3) (A := A) (q1 := q1) (q2 := q2) HR.out hlt he (by rw [if_pos rfl]; exact hAe) (by rw [if_pos rfl]; exact hpv) h1 e2 h2 e3 (lastI L + A) (fun _ => rfl)
        have hjl : at' + j ≤ s.length := by omega
        have hwp : IntKind.i64.wrap ((at' : Int) + (j : Int)) = ((at' + j : Nat) : Int) := by rw [IntKind.wrap_i64]; omega
        have HSt := Lib.hid hstep
        clear hstep p1 p2 hj hpv hAe he hdl
        by_cases hz : L.length = 0
        · have hl0 : lastI L = 0 := by rw [List.eq_nil_of_length_eq_zero hz]; rfl
          have H1 : true = true ↔ (0 < A ∨ L.length = 0) := ⟨fun _ => .inr hz, fun _ => rfl⟩
          have gz : ¬ (0 : Int) < (L.length : Int) := by omega
          by_cases hr : 65534 < A
          · have H2 : false = true ↔ A ≤ 65534 - lastI L := ⟨fun h => (by cases h), fun h => absurd h (by omega)⟩
            have HE := Lib.hid (HSt.out true false 0 11 H1 (by rw [ask_true]) H2 rfl)
            have HE2 : Hid (S.1 = 11) := Lib.hid (by
              rcases HE.out with ⟨h, _⟩ | ⟨_, h⟩
              · exact absurd h (by decide)
              · exact h)
            clear HSt HE HR HO
            have hr' : (65534 : Int) < A := hr
            clear ha hl0 hz H1 H2
            go_wp2_with fail
            try rw [x2]
            refine HT.out.mono ?_
            rintro e w' ⟨rfl, hw⟩
            subst hw
            go_wp2
            go_ret3
            exact ⟨.inl ⟨by rw [HE2.out]; decide, by rw [HE2.out]; rfl⟩, HB.out⟩
          · have H2 : true = true ↔ A ≤ 65534 - lastI L := ⟨fun _ => by omega, fun _ => rfl⟩
            have hx : IntKind.i64.wrap A = A := by rw [IntKind.wrap_i64]; omega
            have HX := Lib.hid (show lastI L + A = A by omega)
            have HN := Lib.hid (HSt.out true true 0 0 H1 (by rw [ask_true]) H2 (by rw [ask_true]))
            clear ha hl0 hz H1 H2
            go_wp2_with fail
            try rw [x2]
            refine HT.out.mono ?_
            rintro e w' ⟨rfl, hw⟩
            subst hw
            have hBs : w.heap.size ≤ wr.heap.size := HB.out.size
            have hown := HO.out
            clear HT HSt HO HR
            go_wp2_with (first
              | (at_builtin; refine wpList_append_own _ rfl _ _ 23 rfl w.heap.size 3 i0 (.int .i64 0) 1 8 Try.underlying23 hi hz0 hz1 hz2 rfl (by decide) _ _ _ rfl (hown.alloc _) ⟨wr.heap.size, 0, none⟩ 1 1 [.int .i64 A] rfl rfl (one_news (heap_alloc_new _ _)) int_one (by unfold maxLen; omega) (by omega) (by simp; omega) ?_))
            intro v' w12 hown12 hgrow _
            have HB12 := Lib.hid (own_below HB.out hown (Nat.le_refl _) hgrow)
            have HO12 : Hid (w12.ownsRow w.heap.size 3 1 v' (L ++ [lastI L + A]).length (inCells (L ++ [lastI L + A]))) := Lib.hid (by rw [inCells_snoc, List.length_append, HX.out]; exact hown12)
            have hv' : vlen v' = L.length + 1 := by
              obtain ⟨a9, c9, rfl⟩ := owns_slice hown12
              rfl
            have hL12 : (L ++ [lastI L + A]).length ≤ N := by simp; omega
            have HN2 : Hid (RelI N S (L ++ [lastI L + A]) (lastI (L ++ [lastI L + A])) (s.drop (at' + j)) 0) := Lib.hid (by rw [last_snocI]; exact HN.out)
            generalize L ++ [lastI L + A] = L1 at HN2 HO12 hL12
            clear HN hown hown12 hgrow hBs
            go_wp2
            exact ⟨⟨L1, at' + j, by go_num, hjl, hL12, HO12, HN2, HB12⟩, by rw [hv']; show _ < N - L.length; omega⟩
        · obtain ⟨n, hn⟩ : ∃ n, L.length = n + 1 := ⟨L.length - 1, by omega⟩
          have gz : (0 : Int) < (L.length : Int) := by omega
          by_cases hA0 : A = 0
          · have H1 : false = true ↔ (0 < A ∨ L.length = 0) := ⟨fun h => (by cases h), fun h => absurd h (by omega)⟩
            have HE := Lib.hid (HSt.out false (decide (A ≤ 65534 - lastI L)) 9 9 H1 rfl (by simp) (ask_stuck2 (by decide) _ _))
            have HE2 : Hid (S.1 = 9) := Lib.hid (by
              rcases HE.out with ⟨h, _⟩ | ⟨_, h⟩
              · exact absurd h (by decide)
              · exact h)
            clear HSt HE HR HO
            subst hA0
            clear ha hn hz H1
            go_wp2_with fail
            try rw [x2]
            refine HT.out.mono ?_
            rintro e w' ⟨rfl, hw⟩
            subst hw
            go_wp2
            go_ret3
            exact ⟨.inl ⟨by rw [HE2.out]; decide, by rw [HE2.out]; rfl⟩, HB.out⟩
          · have H1 : true = true ↔ (0 < A ∨ L.length = 0) := ⟨fun _ => .inl (by omega), fun _ => rfl⟩
            have gA : (A == 0) = false := by simpa using hA0
            obtain ⟨g, off, rfl, x, hx, hcell⟩ := int_at HO.out rfl (j := n) (by omega)
            have hxl : x = lastI L := by
              unfold lastI
              rw [List.getLastD_eq_getLast?, List.getLast?_eq_getElem?, hn, Nat.add_sub_cancel, hx]; rfl
            subst hxl
            have w1 : IntKind.i64.wrap ((L.length : Int) - 1) = (n : Int) := by rw [IntKind.wrap_i64]; omega
            have g1 : (0 : Int) ≤ (n : Int) := by omega
            have g2 : (n : Int) < (L.length : Int) := by omega
            have g3 : ((n : Int)).toNat = n := by omega
            have w2 : IntKind.i64.wrap (65534 - lastI L) = 65534 - lastI L := by rw [IntKind.wrap_i64]; omega
            obtain ⟨a, hla⟩ : ∃ a, lastI L = a := ⟨_, rfl⟩
            by_cases hr : 65534 - lastI L < A
            · have H2 : false = true ↔ A ≤ 65534 - lastI L := ⟨fun h => (by cases h), fun h => absurd h (by omega)⟩
              have HE := Lib.hid (HSt.out true false 0 11 H1 (by rw [ask_true]) H2 rfl)
              have HE2 : Hid (S.1 = 11) := Lib.hid (by
                rcases HE.out with ⟨h, _⟩ | ⟨_, h⟩
                · exact absurd h (by decide)
                · exact h)
              clear HSt HE HR HO
              clear hn hx hz hla H1 H2
              go_wp2_with fail
              try rw [x2]
              refine HT.out.mono ?_
              rintro e w' ⟨rfl, hw⟩
              subst hw
              go_wp2
              go_ret3
              exact ⟨.inl ⟨by rw [HE2.out]; decide, by rw [HE2.out]; rfl⟩, HB.out⟩
            · have H2 : true = true ↔ A ≤ 65534 - lastI L := ⟨fun _ => by omega, fun _ => rfl⟩
              have hX : IntKind.i64.wrap (lastI L + A) = lastI L + A := by rw [IntKind.wrap_i64]; omega
              have HN := Lib.hid (HSt.out true true 0 0 H1 (by rw [ask_true]) H2 (by rw [ask_true]))
              clear hn hx hz hla H1 H2
              go_wp2_with fail
              try rw [x2]
              refine HT.out.mono ?_
              rintro e w' ⟨rfl, hw⟩
              subst hw
              have hBs : w.heap.size ≤ wr.heap.size := HB.out.size
              have hown := HO.out
              clear HT HSt HO HR
              go_wp2_with (first
                | (at_builtin; refine wpList_append_own _ rfl _ _ 23 rfl w.heap.size 3 i0 (.int .i64 0) 1 8 Try.underlying23 hi hz0 hz1 hz2 rfl (by decide) _ _ _ rfl (hown.alloc _) ⟨wr.heap.size, 0, none⟩ 1 1 [.int .i64 (lastI L + A)] rfl rfl (one_news (heap_alloc_new _ _)) int_one (by unfold maxLen; omega) (by omega) (by simp; omega) ?_))

              intro v' w12 hown12 hgrow _
              have HB12 := Lib.hid (own_below HB.out hown (Nat.le_refl _) hgrow)
              have HO12 : Hid (w12.ownsRow w.heap.size 3 1 v' (L ++ [lastI L + A]).length (inCells (L ++ [lastI L + A]))) := Lib.hid (by rw [inCells_snoc, List.length_append, show lastI L + A = lastI L + A from rfl]; exact hown12)
              have hv' : vlen v' = L.length + 1 := by
                obtain ⟨a9, c9, rfl⟩ := owns_slice hown12
                rfl
              have hL12 : (L ++ [lastI L + A]).length ≤ N := by simp; omega
              have HN2 : Hid (RelI N S (L ++ [lastI L + A]) (lastI (L ++ [lastI L + A])) (s.drop (at' + j)) 0) := Lib.hid (by rw [last_snocI]; exact HN.out)
              generalize L ++ [lastI L + A] = L1 at HN2 HO12 hL12
              clear HN hown hown12 hgrow hBs
              go_wp2
              exact ⟨⟨L1, at' + j, by go_num, hjl, hL12, HO12, HN2, HB12⟩, by rw [hv']; show _ < N - L.length; omega⟩
      · have HE : Hid (S.1 = tE (s.drop at')) := Lib.hid (by
          rcases HR.out with ⟨_, _, _, G, hG, _⟩ | ⟨h, _⟩
          · obtain ⟨m, hm⟩ : ∃ m, N - L.length = m + 1 := ⟨N - L.length - 1, by omega⟩
            rw [hm, id_form he] at hG
            exact (congrArg Prod.fst hG).symm
          · exact absurd rfl h)
        have hs0 : tS (s.drop at') = 0 := by unfold tS; rw [if_neg he]
        have hn : tN (s.drop at') = 0 := by unfold tN; rw [if_neg he]
        rw [hs0, hn] at HT
        have HN : Hid (¬ tE (s.drop at') = 0) := Lib.hid he
        generalize tE (s.drop at') = y at *
        have g1 : (y != 0) = true := by simpa using he
        clear he HR HO hs0 hn hdl
        go_wp2_with fail
        try rw [x2]
        refine HT.out.mono ?_
        rintro e w' ⟨rfl, hw⟩
        subst hw
        go_wp2
        go_ret3
        exact ⟨.inl ⟨by rw [HE.out]; exact HN.out, by rw [HE.out]; rfl⟩, HB.out⟩
    · have g0 : ¬ (L.length : Int) < (N : Int) := by omega
      have HE := Lib.hid (ri_end HR.out (by omega))
      have hdl : (s.drop at').length = s.length - at' := List.length_drop
      clear HR
      go_wp2
      go_ret3
      obtain ⟨e1, e2⟩ := HE.out
      obtain ⟨e2, e3⟩ := e2 (by first | rfl | trivial)
      refine ⟨.inr ⟨e1, ao, cv, ?_, by rw [e2]; exact HO.out⟩, HB.out⟩
      rw [e2, e3, hdl, show (s.length : Int) - ((s.length - at' : Nat) : Int) = (at' : Int) by omega]
      rfl

theorem rids_any (c : UInt8) (t : List UInt8) (w : World) (hs : t.length ≤ 1000000000) :
    Calls Try.prog 41 #[.string ⟨(c :: t).toArray⟩] w (RetRi (idsR t) (c :: t).length w) := by
  by_cases he : tE t = 0
  · by_cases hm : 65535 < tN t
    · exact rids_many c t w hs he hm
    · exact rids_read c t w hs he hm
  · exact rids_form c t w hs he
end Go.Proofs.Ytjmaccflnfaiiaa
