/-
  The document's Take of layer 22: walked.
-/
import Derived.Test.YtpblllpgmibkoaaGreatBn10
set_option linter.unusedSimpArgs false
set_option linter.unusedVariables false
namespace Go.Proofs.YtpblllpgmibkoaaGreat
open Go.RowKit

/-- The first number of a row. -/
def hdI (r : List Int) : Int := r.headD 0
/-- What the document's Take answers. -/
def RetRf (s : List UInt8) (w : World) (e : Ending) (w' : World) : Prop :=
  ∃ v own R, e = .returned (.tuple #[v, .int .i64 (tbT s).1]) ∧ IsRef w' v own (R.map hdI) (R.map List.tail) ∧ ((tbT s).1 = 0 → own = hdO s ∧ R = (tbT s).2) ∧ (¬ (tbT s).1 = 0 → own = [] ∧ R = []) ∧ Below w.heap.size w w'
theorem RetRf.bad {s : List UInt8} {w w' : World} {x : Int} (hx : (tbT s).1 = x) (h0 : ¬ x = 0) (hb : Below w.heap.size w w') : RetRf s w (.returned (.tuple #[.agg #[.string ⟨#[]⟩, .slice none 0 0, .slice none 0 0], .int .i64 x])) w' :=
  ⟨_, [], [], by rw [hx], IsRef.none w', fun h => absurd (hx.symm.trans h) h0, fun _ => ⟨rfl, rfl⟩, hb⟩

/-- The cells of the result's block. -/
theorem res_cells {w : World} {r : Nat} {own : List UInt8} {dv nv : Value} (h : w.heap[r]? = some (.cells #[.string ⟨own.toArray⟩, dv, nv] 40 (0, 0))) : w.cell? ⟨r, 0, none⟩ = some (.string ⟨own.toArray⟩) ∧ w.cell? ⟨r, 1, none⟩ = some dv ∧ w.cell? ⟨r, 2, none⟩ = some nv ∧ w.frozen? ⟨r, 0, none⟩ = false ∧ w.frozen? ⟨r, 1, none⟩ = false ∧ w.frozen? ⟨r, 2, none⟩ = false := by
  refine ⟨?_, ?_, ?_, Lib.frozen_of_heap h 0, Lib.frozen_of_heap h 1, Lib.frozen_of_heap h 2⟩ <;> rw [Lib.cell_of_heap h] <;> rfl

/-- A struct is stored into the result's block. -/
theorem res_store {w w0 : World} {r B : Nat} {x0 x1 x2 : Value} (own dv nv : Value) (h : w.heap[r]? = some (.cells #[x0, x1, x2] 40 (0, 0))) (hb : Below B w0 w) (hB : B ≤ r) :
    (((w.setCell ⟨r, 0, none⟩ own).setCell ⟨r, 1, none⟩ dv).setCell ⟨r, 2, none⟩ nv).heap[r]? = some (.cells #[own, dv, nv] 40 (0, 0)) ∧
    Below B w0 (((w.setCell ⟨r, 0, none⟩ own).setCell ⟨r, 1, none⟩ dv).setCell ⟨r, 2, none⟩ nv) ∧
    Into r w (((w.setCell ⟨r, 0, none⟩ own).setCell ⟨r, 1, none⟩ dv).setCell ⟨r, 2, none⟩ nv) :=
  ⟨by rw [put_heap (put_heap (put_heap h _) _)]; rfl, ((hb.setCell (p := ⟨r, 0, none⟩) hB _).setCell (p := ⟨r, 1, none⟩) hB _).setCell (p := ⟨r, 2, none⟩) hB _, (((Into.refl _ _).set 0 _).set 1 _).set 2 _⟩
theorem row_heads (R : List (List Int)) (d : Int) (l : List Int) : (R ++ [d :: l]).map hdI = R.map hdI ++ [d] := by rw [List.map_append]; rfl
theorem row_tails (R : List (List Int)) (d : Int) (l : List Int) : (R ++ [d :: l]).map List.tail = R.map List.tail ++ [l] := by simp
theorem lsl_one {v : Value} {a : Option Addr} {n c : Nat} (h : v = .slice a n c) : ∀ u ∈ [v], u.oneCell' = true := by
  intro u hu
  simp at hu
  subst hu h; rfl
/-- A slice that the call has made keeps its cells where all other blocks are left alone. -/
theorem RefG.into {w w' : World} {c B r : Nat} {own : List UInt8} {D : List Int} {Q : List (List Int)} {dv nv : Value} {N : List Value} (h : RefG w c B own D Q dv nv N) (hi : Into r w w') {cs : Array Value} (hr : w.heap[r]? = some (.cells cs 40 (0, 0))) (hc : c ≠ r) : RefG w' c B own D Q dv nv N := by
  have ho : Other 40 w w' := fun k ds U m hU hk => by
    have hne : k ≠ r := fun e => by
      subst e
      rw [hr] at hk
      injection hk with hk
      injection hk with _ h2 _
      exact hU h2.symm
    rw [hi.block k hne]; exact hk
  refine ⟨(hi.block c hc).trans h.head, ho.owns (by decide) h.dep, ho.owns (by decide) h.nxt, fun j q hq => ?_⟩
  obtain ⟨v, h1, h2, h3⟩ := h.row j q hq
  exact ⟨v, h1, ho.owns (by decide) h2, h3⟩

set_option maxRecDepth 100000 in
set_option maxHeartbeats 8000000 in
theorem rttake_any (s : List UInt8) (w : World) (hs : s.length ≤ 1000000) : Calls Tryz.prog 17 #[.string ⟨s.toArray⟩] w (RetRf s w) := by
  have HZ := Lib.hid (bsize s)
  have HH := Lib.hid (fun w => rthead_any s w hs)
  have hr1 := heap_alloc_new w (.cells #[.string ⟨#[]⟩, .slice none 0 0, .slice none 0 0] 40)
  have d1 : Below w.heap.size w (w.alloc (.cells #[.string ⟨#[]⟩, .slice none 0 0, .slice none 0 0] 40)) := (Below.refl _ _).alloc (Nat.le_refl _) _
  have s1 : (w.alloc (.cells #[.string ⟨#[]⟩, .slice none 0 0, .slice none 0 0] 40)).heap.size = w.heap.size + 1 := by simp
  go_enter Tryz.func17, Tryz.ntmps17
  go_wp2_with fail
  generalize w.alloc (.cells #[.string ⟨#[]⟩, .slice none 0 0, .slice none 0 0] 40) = w1 at *
  refine (HH.out w1).mono ?_
  rintro e w2 ⟨⟨q, rfl⟩, hcase⟩
  rcases hcase with ⟨h0, rfl⟩ | ⟨h0, P, hP, hR, rfl⟩
  · have HE : Hid ((tbT s).1 = hdE s) := Lib.hid (by unfold tbT; rw [if_neg h0])
    have H0 := Lib.hid h0
    generalize hdE s = x at *
    have g0 : (x == 0) = false := by simpa using h0
    have hr2 : (w1.drewN q).heap[w.heap.size]? = some (.cells #[.string ⟨#[]⟩, .slice none 0 0, .slice none 0 0] 40 (0, 0)) := hr1
    obtain ⟨r0, r1, r2, z0, z1, z2⟩ := res_cells (own := []) hr2
    have d2 := below_drewS d1 q
    generalize w1.drewN q = w2 at *
    have HR2 := Lib.hid hr2
    have HD2 := Lib.hid d2
    clear hr2 d2 hr1 d1 s1 h0
    go_wp2
    obtain ⟨hs1, hs2, hs3⟩ := res_store (.string ⟨#[]⟩) (.slice none 0 0) (.slice none 0 0) HR2.out HD2.out (Nat.le_refl _)
    generalize (((w2.setCell ⟨w.heap.size, 0, none⟩ (.string ⟨#[]⟩)).setCell ⟨w.heap.size, 1, none⟩ (.slice none 0 0)).setCell ⟨w.heap.size, 2, none⟩ (.slice none 0 0)) = wq at *
    obtain ⟨j0, j1, j2, _, _, _⟩ := res_cells (own := []) hs1
    refine bodyPost_ret (v := .tuple #[.agg #[.string ⟨#[]⟩, .slice none 0 0, .slice none 0 0], .int .i64 x]) (by simp [results, Tryz.results17, go_sem, j0, j1, j2]) rfl ?_
    exact RetRf.bad HE.out H0.out hs2
  · obtain ⟨S, hS⟩ : ∃ S, tbT s = S := ⟨_, rfl⟩
    have HS := Lib.hid hS
    have HG : Hid (S.1 = 0 → GoodT (hdO s) S.2) := Lib.hid (fun h => by rw [← hS] at h ⊢; exact (tb_take h).2.1)
    obtain ⟨N, hN⟩ : ∃ N, hdN s = N := ⟨_, rfl⟩
    obtain ⟨K, hK⟩ : ∃ K, hdK s = K := ⟨_, rfl⟩
    have hNK : N ≤ 16777217 ∧ K ≤ 256 ∧ (hdO s).length = K := by
      have hE := h0
      unfold hdE at hE
      by_cases c0 : s.take 4 = hdT
      · rw [if_pos c0] at hE
        by_cases c1 : nmE 16777217 (s.drop 4) = 0
        · rw [if_pos c1] at hE
          by_cases c2 : tN (s.drop 4) = 0
          · rw [if_pos c2] at hE; exact absurd hE (by decide)
          · rw [if_neg c2] at hE
            by_cases c3 : nmE 256 (pasT (s.drop 4)) = 0
            · rw [if_pos c3] at hE
              by_cases c4 : (pasT (pasT (s.drop 4))).length < (tN (pasT (s.drop 4))).toNat
              · rw [if_pos c4] at hE; exact absurd hE (by decide)
              · have n1 := nm_ok c1
                have n2 := nm_ok c3
                refine ⟨by rw [← hN]; unfold hdN; omega, by rw [← hK]; unfold hdK; omega, ?_⟩
                rw [← hK]
                unfold hdO
                rw [List.length_take]
                unfold hdK
                omega
            · rw [if_neg c3] at hE; exact absurd hE c3
        · rw [if_neg c1] at hE; exact absurd hE c1
      · rw [if_neg c0] at hE; exact absurd hE (by decide)
    have HRd : Hid (rdS ((N : Int) - 1) K (N - ([] : List (List Int)).length) [] (s.drop P) = S) := Lib.hid (by
      rw [← hS, hR, ← hN, ← hK]
      unfold tbT
      rw [if_pos h0]
      rfl)
    obtain ⟨own, hown⟩ : ∃ o, hdO s = o := ⟨_, rfl⟩
    rw [hown] at hNK HG
    rw [hN, hown]
    have HOw := Lib.hid hown
    obtain ⟨hNl, hKl, hol⟩ := hNK
    have HOl := Lib.hid hol
    have SO := Lib.hid (bsize own)
    have hr2 : (w1.drewN q).heap[w.heap.size]? = some (.cells #[.string ⟨#[]⟩, .slice none 0 0, .slice none 0 0] 40 (0, 0)) := hr1
    have d2 := below_drewS d1 q
    have s2 : (w1.drewN q).heap.size = w.heap.size + 1 := s1
    generalize w1.drewN q = w2 at *
    obtain ⟨c, hc⟩ : ∃ c, w2.heap.size = c := ⟨_, rfl⟩
    have hrc : w.heap.size < c := by omega
    have hG3 : RefG (w2.alloc (.cells #[.string ⟨own.toArray⟩, .slice none 0 0, .slice none 0 0] 40)) c w.heap.size own (([] : List (List Int)).map hdI) (([] : List (List Int)).map List.tail) (.slice none 0 0) (.slice none 0 0) [] :=
      ⟨by rw [← hc]; exact heap_alloc_new w2 _, World.ownsRow_nil _ _ _ _, World.ownsRow_nil _ _ _ _, fun j q h => by simp at h⟩
    have HG3 : Hid (∃ dv nv X, RefG (w2.alloc (.cells #[.string ⟨own.toArray⟩, .slice none 0 0, .slice none 0 0] 40)) c w.heap.size own (([] : List (List Int)).map hdI) (([] : List (List Int)).map List.tail) dv nv X) := Lib.hid ⟨_, _, _, hG3⟩
    have HR3 : Hid ((w2.alloc (.cells #[.string ⟨own.toArray⟩, .slice none 0 0, .slice none 0 0] 40)).heap[w.heap.size]? = some (.cells #[.string ⟨#[]⟩, .slice none 0 0, .slice none 0 0] 40 (0, 0))) := Lib.hid ((Below.heap_alloc _ _ _ (by omega)).trans hr2)
    have HD3 : Hid (Below w.heap.size w (w2.alloc (.cells #[.string ⟨own.toArray⟩, .slice none 0 0, .slice none 0 0] 40))) := Lib.hid (d2.alloc (by omega) _)
    have HP := Lib.hid hP
    clear hS hN hK h0 hR hown hol hr2 hr1 d2 d1 s1 s2 hG3 HH
    go_wp2_with fail
    generalize w2.alloc (.cells #[.string ⟨own.toArray⟩, .slice none 0 0, .slice none 0 0] 40) = w3 at *
    clear hc
    obtain ⟨i0, hi, hz0, hz1, hz2⟩ := info_parts int_info
    obtain ⟨i1, ki, kz0, kz1, kz2⟩ := info_parts lsl_info
    go_loopw [6] (fun p wr => ∃ (P : Nat) (R : List (List Int)), P ≤ s.length ∧ R.length ≤ N ∧ p = .int .i64 P ∧ Hid (rdS ((N : Int) - 1) K (N - R.length) R (s.drop P) = S) ∧ Hid (∃ dv nv X, RefG wr c w.heap.size own (R.map hdI) (R.map List.tail) dv nv X) ∧ Hid (wr.heap[w.heap.size]? = some (.cells #[.string ⟨#[]⟩, .slice none 0 0, .slice none 0 0] 40 (0, 0))) ∧ Hid (Below w.heap.size w wr)) (fun p _ => s.length - (RowKit.intOf p).toNat)
    case atStart => exact ⟨P, [], HP.out, Nat.zero_le _, rfl, HRd, HG3, HR3, HD3⟩
    case round =>
      clear HRd HG3 HR3 HD3 HP hP
      obtain ⟨P, R, hP, hRN, rfl, HRd, HGr, HRr, HDd⟩ := hrel
      obtain ⟨dv, nv, X, hG⟩ := HGr.out
      obtain ⟨da, dc, rfl⟩ := owns_slice hG.dep
      obtain ⟨na, nc, rfl⟩ := owns_slice hG.nxt
      have HGG := Lib.hid hG
      obtain ⟨x0, x1, x2, y0, y1, y2⟩ := res_cells hG.head
      obtain ⟨r0, r1, r2, z0, z1, z2⟩ := res_cells (own := []) HRr.out
      obtain ⟨j, hj⟩ : ∃ j, R.length = j := ⟨_, rfl⟩
      have HJ := Lib.hid hj
      rw [List.length_map, hj] at x1 x2
      rw [hj] at HRd hRN
      clear hG HGr hj
      by_cases hlt : j < N
      · obtain ⟨t, ht⟩ : ∃ t, s.drop P = t := ⟨_, rfl⟩
        have H1 := Lib.hid (rtnum_any s P 65535 wr (by omega) hP)
        have htl : t.length = s.length - P := by rw [← ht, List.length_drop]
        rw [ht] at HRd H1
        have hRd := HRd.out
        rw [show N - j = (N - (j + 1)) + 1 by omega, rdS] at hRd
        have gj : (j : Int) < (N : Int) := by omega
        by_cases h1 : nmE 65535 t = 0
        · rw [if_pos h1, HJ.out] at hRd
          rw [h1] at H1
          obtain ⟨_, hd0, hd1⟩ := nm_ok h1
          obtain ⟨p1, p2, p3⟩ := nm_pos h1
          obtain ⟨k1, hk1⟩ : ∃ k : Nat, tS t = (k : Int) := ⟨(tS t).toNat, by omega⟩
          have hp1 : pasT t = s.drop (P + k1) := by unfold pasT; rw [hk1, Int.toNat_natCast, ← ht, List.drop_drop]
          rw [hk1, show (P : Int) + (k1 : Int) = ((P + k1 : Nat) : Int) by omega] at H1
          rw [hp1] at hRd
          rw [hk1] at p1 p2
          obtain ⟨d, hdd⟩ : ∃ d, tN t = d := ⟨_, rfl⟩
          rw [hdd] at H1 hRd hd0 hd1
          obtain ⟨P1, hP1⟩ : ∃ P1, P + k1 = P1 := ⟨_, rfl⟩
          rw [hP1] at H1 hRd
          have hP1s : P < P1 ∧ P1 ≤ s.length := by omega
          obtain ⟨hP1a, hP1b⟩ := hP1s
          by_cases h2 : (d = 0) ↔ (j = 0)
          · rw [if_pos h2] at hRd
            have gd : ((d == 0) == ((j : Int) == 0)) = true := by
              have a1 : (d == 0) = decide (d = 0) := by by_cases h : d = 0 <;> simp [h]
              have a2 : ((j : Int) == 0) = decide (j = 0) := by by_cases h : j = 0 <;> simp [h]
              rw [a1, a2]
              by_cases q1 : d = 0 <;> by_cases q2 : j = 0 <;> simp_all
            obtain ⟨RN, hRN2⟩ : ∃ RN, rdN ((N : Int) - 1) K [d] (s.drop P1) = RN := ⟨_, rfl⟩
            rw [hRN2] at hRd
            have HRN : Hid (rdN ((N : Int) - 1) (K - 0) ([d] ++ []) (s.drop P1) = RN) := Lib.hid (by rw [Nat.sub_zero]; exact hRN2)
            have HRS := Lib.hid hRd
            obtain ⟨wo, hwo⟩ : ∃ wo, wo = wr := ⟨_, rfl⟩
            subst hwo
            obtain ⟨B2, hB2⟩ : ∃ B2, wo.heap.size = B2 := ⟨_, rfl⟩
            have hBB : w.heap.size ≤ B2 := by have := HDd.out.size; omega
            have HO5 : Hid ((wo.alloc (.cells #[] 3)).ownsRow B2 3 1 (.slice (some ⟨wo.heap.size, 0, none⟩) 0 0) 0 (inCells [])) := Lib.hid (World.ownsRow_made wo #[] 0 (by omega) (Nat.zero_le _) rfl)
            have HD5 : Hid (Below B2 wo (wo.alloc (.cells #[] 3))) := Lib.hid ((Below.refl _ _).alloc (by omega) _)
            have HBe := Lib.hid hB2
            rw [hB2] at HO5
            have gN : IntKind.i64.wrap ((N : Int) - 1) = (N : Int) - 1 := by rw [IntKind.wrap_i64]; omega
            clear hRd HRd h1 h2 p1 p2 p3 hk1 hp1 ht htl hdd hP1 hRN2
            go_wp2_with fail
            refine H1.out.mono ?_
            rintro e w' ⟨rfl, hw⟩
            obtain rfl := hw.symm
            clear hw H1
            go_wp2_with fail
            clear hB2
            go_loopw [6, 12, 13] (fun p v i wi => ∃ (P2 i2 : Nat) (acc : List Int), P1 ≤ P2 ∧ P2 ≤ s.length ∧ i2 ≤ K ∧ p = .int .i64 P2 ∧ i = .int .i64 i2 ∧ Hid (acc.length = i2) ∧ Hid (wi.ownsRow B2 3 1 v acc.length (inCells acc)) ∧ Hid (rdN ((N : Int) - 1) (K - i2) ([d] ++ acc) (s.drop P2) = RN) ∧ Hid (Below B2 wo wi)) (fun _ _ i _ => K - (RowKit.intOf i).toNat)
            case atStart => exact ⟨P1, 0, [], Nat.le_refl _, hP1b, Nat.zero_le _, rfl, rfl, Lib.hid rfl, HO5, HRN, HD5⟩
            case round =>
              clear HO5 HRN HD5
              obtain ⟨P2, i2, acc, hPP, hP2, hi2, rfl, rfl, HAl, HO, HRn, HDi⟩ := hrel
              by_cases hli : i2 < K
              · obtain ⟨t2, ht2⟩ : ∃ t, s.drop P2 = t := ⟨_, rfl⟩
                have H2 := Lib.hid (rtnum_any s P2 ((N : Int) - 1) wr (by omega) hP2)
                have htl : t2.length = s.length - P2 := by rw [← ht2, List.length_drop]
                rw [ht2] at HRn H2
                have hRn := HRn.out
                rw [show K - i2 = (K - (i2 + 1)) + 1 by omega, rdN] at hRn
                have gi : (i2 : Int) < (own.length : Int) := by have := HOl.out; omega
                have gi2 : i2 < own.length := by have := HOl.out; omega
                by_cases k1 : nmE ((N : Int) - 1) t2 = 0
                · rw [if_pos k1] at hRn
                  rw [k1] at H2
                  obtain ⟨_, hx0, hx1⟩ := nm_ok k1
                  obtain ⟨q1, q2, q3⟩ := nm_pos k1
                  obtain ⟨k2, hk2⟩ : ∃ k : Nat, tS t2 = (k : Int) := ⟨(tS t2).toNat, by omega⟩
                  have hp2 : pasT t2 = s.drop (P2 + k2) := by unfold pasT; rw [hk2, Int.toNat_natCast, ← ht2, List.drop_drop]
                  rw [hk2, show (P2 : Int) + (k2 : Int) = ((P2 + k2 : Nat) : Int) by omega] at H2
                  rw [hp2] at hRn
                  rw [hk2] at q1 q2
                  obtain ⟨x, hxx⟩ : ∃ x, tN t2 = x := ⟨_, rfl⟩
                  rw [hxx] at H2 hRn hx0 hx1
                  have HN2 : Hid (rdN ((N : Int) - 1) (K - (i2 + 1)) ([d] ++ (acc ++ [x])) (s.drop (P2 + k2)) = RN) := Lib.hid (by rw [← List.append_assoc]; exact hRn)
                  obtain ⟨P3, hP3⟩ : ∃ P3, P2 + k2 = P3 := ⟨_, rfl⟩
                  rw [hP3] at H2 HN2
                  have hP3s : P1 ≤ P3 := by omega
                  have hP3l : P3 ≤ s.length := by omega
                  have hAb : acc.length + 1 ≤ 257 := by have := HAl.out; omega
                  have hown := HO.out
                  have hBi : B2 ≤ wr.heap.size := by have := HDi.out.size; have := HBe.out; omega
                  obtain ⟨ra, rc, rfl⟩ := owns_slice hown
                  clear hRn HRn k1 q1 q2 q3 hk2 hp2 ht2 htl hxx hP3 HO
                  go_wp2_with fail
                  refine H2.out.mono ?_
                  rintro e w' ⟨rfl, hw⟩
                  obtain rfl := hw.symm
                  clear hw H2
                  go_wp2_with (at_builtin; refine wpList_append_own _ rfl _ _ 37 rfl B2 3 i0 (.int .i64 0) 1 8 Tryz.underlying37 hi hz0 hz1 hz2 rfl (by decide) _ _ _ rfl (hown.alloc _) ⟨wr.heap.size, 0, none⟩ 1 1 [.int .i64 x] rfl rfl (int_news (heap_alloc_new _ _)) int_one (by unfold maxLen; omega) (by omega) (by simp; omega) ?_)
                  intro v' w6 hown6 hgrow _
                  obtain ⟨hb6, _, hs6⟩ := tb_grow HDi.out (Nat.le_refl _) hBi hown hgrow
                  have HD6 := Lib.hid hb6
                  have HO6 : Hid (w6.ownsRow B2 3 1 v' (acc ++ [x]).length (inCells (acc ++ [x]))) := Lib.hid (by rw [inCells_snoc, List.length_append]; exact hown6)
                  have HA6 : Hid ((acc ++ [x]).length = i2 + 1) := Lib.hid (by rw [List.length_append, HAl.out]; rfl)
                  generalize acc ++ [x] = acc2 at *
                  clear hown hown6 hgrow hb6 hs6 hAb HAl HDi
                  go_wp2
                  exact ⟨⟨P3, i2 + 1, acc2, hP3s, hP3l, by omega, rfl, by go_num, HA6, HO6, HN2, HD6⟩, by simp [RowKit.intOf]; omega⟩
                · rw [if_neg k1] at hRn
                  have HE : Hid ((tbT s).1 = nmE ((N : Int) - 1) t2) := Lib.hid (by
                    rw [HS.out, ← HRS.out, ← hRn]
                    simp only [if_neg k1])
                  have H0 := Lib.hid k1
                  have HRi : Hid (wr.heap[w.heap.size]? = some (.cells #[.string ⟨#[]⟩, .slice none 0 0, .slice none 0 0] 40 (0, 0))) := Lib.hid ((HDi.out.block _ (by have := heap_lt HRr.out; have := HBe.out; omega)).trans HRr.out)
                  have HDj := Lib.hid (HDd.out.trans (HDi.out.mono hBB))
                  obtain ⟨r0, r1, r2, z0, z1, z2⟩ := res_cells (own := []) HRi.out
                  generalize nmE ((N : Int) - 1) t2 = x at *
                  have g0 : (x == 0) = false := by simpa using k1
                  clear hRn HRn k1 ht2 htl
                  go_wp2_with fail
                  refine H2.out.mono ?_
                  rintro e w' ⟨rfl, hw⟩
                  obtain rfl := hw.symm
                  clear hw H2
                  go_wp2
                  obtain ⟨hs1, hs2, hs3⟩ := res_store (.string ⟨#[]⟩) (.slice none 0 0) (.slice none 0 0) HRi.out HDj.out (Nat.le_refl _)
                  generalize (((wr.setCell ⟨w.heap.size, 0, none⟩ (.string ⟨#[]⟩)).setCell ⟨w.heap.size, 1, none⟩ (.slice none 0 0)).setCell ⟨w.heap.size, 2, none⟩ (.slice none 0 0)) = wq at *
                  obtain ⟨j0, j1, j2, _, _, _⟩ := res_cells (own := []) hs1
                  refine bodyPost_ret (v := .tuple #[.agg #[.string ⟨#[]⟩, .slice none 0 0, .slice none 0 0], .int .i64 x]) (by simp [results, Tryz.results17, go_sem, j0, j1, j2]) rfl ?_
                  exact RetRf.bad HE.out H0.out hs2
              · have hiK : i2 = K := by omega
                subst hiK
                have gi : ¬ (i2 : Int) < (own.length : Int) := by have := HOl.out; omega
                have gi2 : ¬ i2 < own.length := by have := HOl.out; omega
                have hRn := HRn.out
                rw [Nat.sub_self, rdN] at hRn
                have HRS2 : Hid (rdS ((N : Int) - 1) i2 (N - (j + 1)) (R ++ [d :: acc]) (s.drop P2) = S) := Lib.hid (by
                  have := HRS.out
                  rw [← hRn, if_pos rfl] at this
                  exact this)
                have hGi := HGG.out.below (by rw [HBe.out]; exact HDi.out)
                simp only [List.length_map, HJ.out] at hGi
                have hown := HO.out
                have hBwr : w.heap.size ≤ wr.heap.size := by have := HDi.out.size; have := HBe.out; omega
                have hBBr : B2 ≤ wr.heap.size := by have := HDi.out.size; have := HBe.out; omega
                have HDj := Lib.hid (HDd.out.trans (HDi.out.mono hBB))
                have HRi : Hid (wr.heap[w.heap.size]? = some (.cells #[.string ⟨#[]⟩, .slice none 0 0, .slice none 0 0] 40 (0, 0))) := Lib.hid ((HDi.out.block _ (by have := heap_lt HRr.out; have := HBe.out; omega)).trans HRr.out)
                have hne : u12.ownBlock ≠ (Value.slice da j dc).ownBlock ∨ u12.ownBlock = none := by
                  rcases own_none hGi.dep with h5 | ⟨g5, cs5, h5, h6⟩
                  · rcases own_none hown with h7 | ⟨g7, _, h7, _⟩
                    · exact .inr h7
                    · exact .inl (by rw [h5, h7]; simp)
                  · refine .inl fun e => ?_
                    rw [h5] at e
                    have h8 := (hown.lt g5 e).1
                    have h9 : g5 < wo.heap.size := by
                      rcases own_none HGG.out.dep with h10 | ⟨g10, _, h10, h11⟩
                      · simp only [List.length_map, HJ.out] at h10; rw [h5] at h10; cases h10
                      · simp only [List.length_map, HJ.out] at h10
                        rw [h5] at h10
                        cases h10
                        exact heap_lt h11
                    have := HBe.out
                    omega
                obtain ⟨ra, rc, rfl⟩ := owns_slice hown
                obtain ⟨x0, x1, x2, y0, y1, y2⟩ := res_cells hGi.head
                have hDl : (R.map hdI).length = j := by rw [List.length_map, HJ.out]
                have hQl : (R.map List.tail).length = j := by rw [List.length_map, HJ.out]
                have hdep := hGi.dep
                have hnxt := hGi.nxt
                rw [hDl] at hdep
                rw [hQl] at hnxt
                have hjb : j + 1 ≤ 16777217 := by omega
                clear hRn HRn HO HDi HGG HRr HDd
                go_wp2_with (at_builtin; refine wpList_append_to _ rfl _ _ 37 rfl w.heap.size 3 i0 (.int .i64 0) 1 8 Tryz.underlying37 hi hz0 hz1 hz2 rfl (by decide) _ _ _ rfl (hdep.alloc _) ⟨wr.heap.size, 0, none⟩ 1 1 [.int .i64 d] rfl rfl (int_news (heap_alloc_new _ _)) int_one (by unfold maxLen; omega) (by omega) (by simp; omega) (by omega) ?_)
                intro dv2 w6 hdv2 hgrow hto
                have hn5 : dv2.ownBlock = (Value.slice da j dc).ownBlock ∨ dv2.ownBlock = some (wr.alloc (.cells #[.int .i64 d] 3)).heap.size := by rw [show (wr.alloc (.cells #[.int .i64 d] 3)).heap.size = wr.heap.size + 1 by simp]; exact hto
                have hG6 := hGi.depth (by rw [hDl]; exact hdv2) hgrow hn5
                obtain ⟨hown6, hne6⟩ := own_depth hGi hown hne hgrow hn5
                have hc6 := heap_grown hGi.head hgrow (Lib.ownBlock_ne hGi.dep hGi.head (by decide))
                obtain ⟨_, c1, _, _, f1, _⟩ := res_cells hc6
                obtain ⟨da2, dc2, rfl⟩ := owns_slice hdv2
                have hB6 := (tb_grow HDj.out (Nat.le_refl _) hBwr hdep hgrow).1.setCell (p := ⟨c, 1, none⟩) (by show w.heap.size ≤ c; omega) (.slice da2 (j + 1) dc2)
                have hR6 : (w6.setCell ⟨c, 1, none⟩ (.slice da2 (j + 1) dc2)).heap[w.heap.size]? = some (.cells #[.string ⟨#[]⟩, .slice none 0 0, .slice none 0 0] 40 (0, 0)) := by
                  rw [put_other (by omega)]
                  exact heap_grown HRi.out hgrow (Lib.ownBlock_ne hdep HRi.out (by decide))
                have hs6 : B2 ≤ (w6.setCell ⟨c, 1, none⟩ (.slice da2 (j + 1) dc2)).heap.size := by
                  have := (tb_grow HDj.out (Nat.le_refl _) hBwr hdep hgrow).2.2
                  simp [World.setCell]
                  omega
                have HG6 := Lib.hid hG6
                have HB6 := Lib.hid hB6
                have HR6 := Lib.hid hR6
                have HO6 := Lib.hid hown6
                have HNe6 := Lib.hid hne6
                clear hGi hown hne hgrow hto hn5 hdv2 hG6 hown6 hne6 hc6 hB6 hR6 hdep hnxt x0 x1 x2 y0 y1 y2 HDj HRi
                have hAl : acc.length = i2 := HAl.out
                obtain ⟨x0, x1, x2, y0, y1, y2⟩ := res_cells HG6.out.head
                have hnxt := HG6.out.nxt
                rw [hQl] at hnxt
                have hs7 : w.heap.size ≤ (w6.setCell ⟨c, 1, none⟩ (.slice da2 (j + 1) dc2)).heap.size := HB6.out.size
                have hnw : ∀ o, ((w6.setCell ⟨c, 1, none⟩ (.slice da2 (j + 1) dc2)).alloc o).heap[w6.heap.size]? = some o := fun o => by
                  rw [show w6.heap.size = (w6.setCell ⟨c, 1, none⟩ (.slice da2 (j + 1) dc2)).heap.size by simp [World.setCell]]
                  exact heap_alloc_new _ _
                have hs8 : w.heap.size ≤ w6.heap.size := by rw [show w6.heap.size = (w6.setCell ⟨c, 1, none⟩ (.slice da2 (j + 1) dc2)).heap.size by simp [World.setCell]]; exact hs7
                clear hAl
                go_wp2_with (at_builtin; refine wpList_append_own _ rfl _ _ 38 rfl w.heap.size 37 i1 (.slice none 0 0) 1 24 Tryz.underlying38 ki kz0 kz1 kz2 rfl (by decide) _ _ _ rfl (hnxt.alloc _) ⟨w6.heap.size, 0, none⟩ 1 1 [.slice ra acc.length rc] rfl rfl (one_news (hnw _)) (lsl_one rfl) (by unfold maxLen; omega) (by omega) (by simp [World.setCell]; omega) ?_)
                intro nv2 w8 hnv2 hgrow _
                have hG8 := HG6.out.next hBB HO6.out HNe6.out (by rw [hQl]; exact hnv2) hgrow
                have hc8 := heap_grown HG6.out.head hgrow (Lib.ownBlock_ne HG6.out.nxt HG6.out.head (by decide))
                obtain ⟨_, _, c2, _, _, f2⟩ := res_cells hc8
                obtain ⟨na2, nc2, rfl⟩ := owns_slice hnv2
                have hB8 := (tb_grow HB6.out (Nat.le_refl _) hs7 hnxt hgrow).1.setCell (p := ⟨c, 2, none⟩) (by show w.heap.size ≤ c; omega) (.slice na2 (j + 1) nc2)
                have hR8 : (w8.setCell ⟨c, 2, none⟩ (.slice na2 (j + 1) nc2)).heap[w.heap.size]? = some (.cells #[.string ⟨#[]⟩, .slice none 0 0, .slice none 0 0] 40 (0, 0)) := by
                  rw [put_other (by omega)]
                  exact heap_grown HR6.out hgrow (Lib.ownBlock_ne hnxt HR6.out (by decide))
                have HG8 : Hid (∃ dv nv X, RefG (w8.setCell ⟨c, 2, none⟩ (.slice na2 (j + 1) nc2)) c w.heap.size own ((R ++ [d :: acc]).map hdI) ((R ++ [d :: acc]).map List.tail) dv nv X) := Lib.hid ⟨_, _, _, by rw [row_heads, row_tails]; exact hG8⟩
                have HB8 := Lib.hid hB8
                have HR8 := Lib.hid hR8
                have HL8 : Hid ((R ++ [d :: acc]).length = j + 1) := Lib.hid (by rw [List.length_append, HJ.out]; rfl)
                have HRS3 : Hid (rdS ((N : Int) - 1) i2 (N - (R ++ [d :: acc]).length) (R ++ [d :: acc]) (s.drop P2) = S) := Lib.hid (by rw [HL8.out]; exact HRS2.out)
                clear hG8 hc8 hB8 hR8 hnv2 hgrow hnxt x0 x1 x2 y0 y1 y2 HG6 HB6 HR6 HO6 HNe6 hDl hQl hnw HRS2
                generalize R ++ [d :: acc] = R2 at *
                go_wp2
                exact ⟨⟨P2, R2, hP2, by have := HL8.out; omega, rfl, HRS3, HG8, HR8, HB8⟩, by simp [RowKit.intOf]; omega⟩
          · rw [if_neg h2] at hRd
            have HE : Hid ((tbT s).1 = 3) := Lib.hid (by rw [HS.out, ← hRd])
            have gd : ((d == 0) == ((j : Int) == 0)) = false := by
              have a1 : (d == 0) = decide (d = 0) := by by_cases h : d = 0 <;> simp [h]
              have a2 : ((j : Int) == 0) = decide (j = 0) := by by_cases h : j = 0 <;> simp [h]
              rw [a1, a2]
              by_cases q1 : d = 0 <;> by_cases q2 : j = 0 <;> simp_all
            clear hRd HRd h1 h2 p1 p2 p3 hk1 hp1 ht htl hdd hP1
            go_wp2_with fail
            refine H1.out.mono ?_
            rintro e w' ⟨rfl, hw⟩
            obtain rfl := hw.symm
            clear hw H1
            go_wp2
            obtain ⟨hs1, hs2, hs3⟩ := res_store (.string ⟨#[]⟩) (.slice none 0 0) (.slice none 0 0) HRr.out HDd.out (Nat.le_refl _)
            generalize (((wr.setCell ⟨w.heap.size, 0, none⟩ (.string ⟨#[]⟩)).setCell ⟨w.heap.size, 1, none⟩ (.slice none 0 0)).setCell ⟨w.heap.size, 2, none⟩ (.slice none 0 0)) = wq at *
            obtain ⟨j0, j1, j2, _, _, _⟩ := res_cells (own := []) hs1
            refine bodyPost_ret (v := .tuple #[.agg #[.string ⟨#[]⟩, .slice none 0 0, .slice none 0 0], .int .i64 3]) (by simp [results, Tryz.results17, go_sem, j0, j1, j2]) rfl ?_
            exact RetRf.bad HE.out (by decide) hs2
        · rw [if_neg h1] at hRd
          have HE : Hid ((tbT s).1 = nmE 65535 t) := Lib.hid (by rw [HS.out, ← hRd])
          have H0 := Lib.hid h1
          generalize nmE 65535 t = x at *
          have g0 : (x == 0) = false := by simpa using h1
          clear hRd HRd h1 ht htl
          go_wp2_with fail
          refine H1.out.mono ?_
          rintro e w' ⟨rfl, hw⟩
          obtain rfl := hw.symm
          clear hw H1
          go_wp2
          obtain ⟨hs1, hs2, hs3⟩ := res_store (.string ⟨#[]⟩) (.slice none 0 0) (.slice none 0 0) HRr.out HDd.out (Nat.le_refl _)
          generalize (((wr.setCell ⟨w.heap.size, 0, none⟩ (.string ⟨#[]⟩)).setCell ⟨w.heap.size, 1, none⟩ (.slice none 0 0)).setCell ⟨w.heap.size, 2, none⟩ (.slice none 0 0)) = wq at *
          obtain ⟨j0, j1, j2, _, _, _⟩ := res_cells (own := []) hs1
          refine bodyPost_ret (v := .tuple #[.agg #[.string ⟨#[]⟩, .slice none 0 0, .slice none 0 0], .int .i64 x]) (by simp [results, Tryz.results17, go_sem, j0, j1, j2]) rfl ?_
          exact RetRf.bad HE.out H0.out hs2
      · have hjN : j = N := by omega
        subst hjN
        have hz : ¬ (j : Int) < (j : Int) := by omega
        have hRd := HRd.out
        rw [Nat.sub_self, rdS, List.length_drop] at hRd
        by_cases hend : P < s.length
        · have HE : Hid ((tbT s).1 = 20) := Lib.hid (by rw [HS.out, ← hRd, if_neg (by omega)])
          have g0 : (P : Int) < (s.length : Int) := by omega
          clear hRd HRd
          go_wp2
          obtain ⟨hs1, hs2, hs3⟩ := res_store (.string ⟨#[]⟩) (.slice none 0 0) (.slice none 0 0) HRr.out HDd.out (Nat.le_refl _)
          generalize (((wr.setCell ⟨w.heap.size, 0, none⟩ (.string ⟨#[]⟩)).setCell ⟨w.heap.size, 1, none⟩ (.slice none 0 0)).setCell ⟨w.heap.size, 2, none⟩ (.slice none 0 0)) = wq at *
          obtain ⟨j0, j1, j2, _, _, _⟩ := res_cells (own := []) hs1
          refine bodyPost_ret (v := .tuple #[.agg #[.string ⟨#[]⟩, .slice none 0 0, .slice none 0 0], .int .i64 20]) (by simp [results, Tryz.results17, go_sem, j0, j1, j2]) rfl ?_
          exact RetRf.bad HE.out (by decide) hs2
        · have HE : Hid (S = (0, R)) := Lib.hid (by rw [← hRd, if_pos (by omega)])
          have g0 : ¬ (P : Int) < (s.length : Int) := by omega
          have hgood := HG.out (by rw [HE.out])
          rw [HE.out] at hgood
          have HGd := Lib.hid hgood
          clear hRd HRd hgood
          go_wp2
          obtain ⟨hs1, hs2, hs3⟩ := res_store (.string ⟨own.toArray⟩) (.slice da j dc) (.slice na j nc) HRr.out HDd.out (Nat.le_refl _)
          have hG9 := HGG.out.into hs3 HRr.out (by omega)
          simp only [List.length_map, HJ.out] at hG9
          generalize (((wr.setCell ⟨w.heap.size, 0, none⟩ (.string ⟨own.toArray⟩)).setCell ⟨w.heap.size, 1, none⟩ (.slice da j dc)).setCell ⟨w.heap.size, 2, none⟩ (.slice na j nc)) = wq at *
          obtain ⟨j0, j1, j2, _, _, _⟩ := res_cells hs1
          refine bodyPost_ret (v := .tuple #[.agg #[.string ⟨own.toArray⟩, .slice da j dc, .slice na j nc], .int .i64 0]) (by simp [results, Tryz.results17, go_sem, j0, j1, j2]) rfl ?_
          refine ⟨_, own, R, by rw [HS.out, HE.out], hG9.val (by rw [List.length_map, HJ.out]; unfold maxLen; omega) (fun q hq => ?_), fun _ => ⟨HOw.out.symm, by rw [HS.out, HE.out]⟩, fun h => absurd (by rw [HS.out, HE.out]) h, hs2⟩
          obtain ⟨r, hr, rfl⟩ := List.mem_map.1 hq
          have := HGd.out.len r hr
          have := HOl.out
          rw [List.length_tail]
          unfold maxLen
          omega
end Go.Proofs.YtpblllpgmibkoaaGreat
