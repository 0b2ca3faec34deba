/-
  occ.All: its closure walked.
-/
import Derived.Test.YtkpmbappddlcmaaOcT
import Derived.Test.YtkpmbappddlcmaaBdE
set_option linter.unusedSimpArgs false
set_option linter.unusedVariables false
namespace Go.Proofs.Ytkpmbappddlcmaa
open Go.RowKit

/-- Hits that grow in a variable. -/
def GrowsH (w0 : World) (bl : Nat) (hs : List Ht) (W : World) : Prop :=
  ∃ v, Var1 W bl v 31 ∧ W.ownsRow (bl + 1) 44 2 v hs.length (hiCells hs) ∧ Below bl w0 W

theorem into_owns {b base : Nat} {w w' : World} {e : TypeId} {size : Nat} {v : Value} {n : Nat} {xs : List Value} (h : Into b w w') (hb : b < base) (hown : w.ownsRow base e size v n xs) : w'.ownsRow base e size v n xs := by
  obtain ⟨hl, hx⟩ := hown
  refine ⟨hl, ?_⟩
  rcases hx with hx | ⟨g, cap, cur, hv, hg, hh, r⟩
  · exact .inl hx
  · exact .inr ⟨g, cap, cur, hv, hg, (h.block g (by omega)).trans hh, r⟩
theorem GrowsH.put {w0 W1 : World} {bl : Nat} {zs' : List Ht} {v v' : Value} (hb : Below bl w0 W1) (hv : Var1 W1 bl v 31) (hown : W1.ownsRow (bl + 1) 44 2 v' zs'.length (hiCells zs')) :
    GrowsH w0 bl zs' (W1.setCell ⟨bl, 0, none⟩ v') := by
  refine ⟨v', hv.set v', into_owns ((Into.refl bl W1).set 0 v') (by omega) hown, ?_⟩
  exact hb.setCell (Nat.le_refl _) _

/-- Of two rows of unlike elements neither lies where the other one does. -/
theorem own_apart {w : World} {b1 b2 s1 s2 : Nat} {e1 e2 : TypeId} {v1 v2 : Value} {n1 n2 : Nat} {x1 x2 : List Value} (h1 : w.ownsRow b1 e1 s1 v1 n1 x1) (h2 : w.ownsRow b2 e2 s2 v2 n2 x2) (hne : e1 ≠ e2) : v1.ownBlock = none ∨ v1.ownBlock ≠ v2.ownBlock := by
  rcases h1.2 with ⟨rfl, _⟩ | ⟨g, cap, cur, rfl, _, hg, _⟩
  · exact .inl rfl
  · right
    rcases h2.2 with ⟨rfl, _⟩ | ⟨g2, cap2, cur2, rfl, _, hg2, _⟩
    · simp [Value.ownBlock]
    · intro h
      simp only [Value.ownBlock, Option.some.injEq] at h
      subst h
      rw [hg] at hg2
      simp only [Option.some.injEq, Obj.cells.injEq] at hg2
      exact hne hg2.2.1

/-- The hits of the first j places. -/
def placeH (L : List Int) (m k j : Nat) : List Ht := (L.take j).map fun p => (p + (m : Int), (k : Int))
theorem placeH_next {L : List Int} {m k j : Nat} (h : j < L.length) : placeH L m k (j + 1) = placeH L m k j ++ [(L.getD j 0 + (m : Int), (k : Int))] := by
  unfold placeH
  rw [take_snoc L j h, List.map_append]; rfl

set_option maxRecDepth 100000 in
set_option maxHeartbeats 2000000 in
theorem ocall_one (s t : List UInt8) (k bs bl : Nat) (hs : List Ht) (w0 W : World) (hsl : s.length ≤ 1000000) (ht : t.length ≤ 1000000) (ht0 : 0 < t.length) (hz : hs.length ≤ 1000000000000) (hk : k ≤ 1000000) (T1 : TypeId) (hbs : bs < bl)
    (v1 : Var1 w0 bs (.string ⟨s.toArray⟩) T1) (hg : GrowsH w0 bl hs W) :
    Calls Try.prog 33 #[.int .i64 (k : Int), .string ⟨t.toArray⟩, .pointer (some ⟨bs, 0, none⟩), .pointer (some ⟨bl, 0, none⟩)] W fun en w' =>
      en = .returned (.tuple #[]) ∧ GrowsH w0 bl (hs ++ (fndB s t).map fun p => (p + (t.length : Int), (k : Int))) w' := by
  obtain ⟨v, hv, hown, hb⟩ := hg
  have c1 : W.cell? ⟨bs, 0, none⟩ = some (.string ⟨s.toArray⟩) := Var1.cell (T := T1) (by unfold Var1; rw [hb.block bs hbs]; exact v1)
  have HF := Lib.hid (find_own s t W (by omega) (by omega))
  have hfl : (fndB s t).length ≤ 1000000 := by
    unfold fndB
    split
    · exact Nat.zero_le _
    · have := fnd_length s t s.length; omega
  have HX : Hid (∀ j, j < (fndB s t).length → ∃ e : Nat, (fndB s t).getD j 0 + (t.length : Int) = (e : Int) ∧ e ≤ 1000000) := Lib.hid (fun j hj => by
    have e : fndB s t = fnd s t s.length := fndB_full (by cases t with | nil => simp at ht0 | cons _ _ => rfl)
    rw [e] at hj ⊢
    obtain ⟨i, h1, h2⟩ := fnd_mem s.length _ (getD_in _ j hj)
    obtain ⟨h3, _⟩ := h2 (Nat.le_refl _)
    exact ⟨i + t.length, by rw [h1]; omega, by omega⟩)
  have S2 := Lib.hid (bsize t)
  obtain ⟨i0, hi, hz0, hz1, hz2⟩ := info_parts hit_info
  have HG : Hid (GrowsH w0 bl hs W) := Lib.hid ⟨v, hv, hown, hb⟩
  have hbl := hv.lt
  clear v1 hv hb hown
  have HR : Hid (placeH (fndB s t) t.length k (fndB s t).length = (fndB s t).map fun p => (p + (t.length : Int), (k : Int))) := Lib.hid (by unfold placeH; rw [List.take_length])
  generalize (fndB s t).map (fun p => (p + (t.length : Int), (k : Int))) = R at HR ⊢
  generalize fndB s t = L at HF hfl HX HR
  go_enter Try.func33, Try.ntmps33
  go_wp2_with fail
  refine HF.out.mono ?_
  rintro en w2 ⟨v2, rfl, hrow2, hb2⟩
  obtain ⟨a2, cap2, rfl⟩ := fnd_slice hrow2
  have HR2 : Hid (w2.ownsRow (bl + 1) 3 1 (.slice a2 L.length cap2) L.length (inCells L)) := Lib.hid (fnd_mono hrow2 (by omega))
  have hwb : bl < w2.heap.size := by have := hb2.size; omega
  have G2 : Hid (GrowsH w0 bl hs w2) := Lib.hid (by
    obtain ⟨v, hv, hown, hb⟩ := HG.out
    exact ⟨v, by unfold Var1; rw [hb2.block bl hbl]; exact hv, tx_below hown hb2, hb.trans (hb2.mono (by omega))⟩)
  clear HF hrow2 hb2 HG c1 hbl
  go_wp2
  go_loopw [12] (fun i wr => ∃ j : Nat, j ≤ L.length ∧ i = .int .i64 j ∧ Hid (GrowsH w2 bl (hs ++ placeH L t.length k j) wr) ∧ Hid (wr.ownsRow (bl + 1) 3 1 (.slice a2 L.length cap2) L.length (inCells L))) (fun i _ => L.length - (RowKit.intOf i).toNat)
  case atStart =>
    refine ⟨0, Nat.zero_le _, rfl, Lib.hid ?_, HR2⟩
    obtain ⟨v, hv, hown, hb⟩ := G2.out
    exact ⟨v, hv, by simpa [placeH] using hown, Below.refl _ _⟩
  case round =>
    obtain ⟨j, hj, rfl, HK, HRow⟩ := hrel
    by_cases hlt : j < L.length
    · obtain ⟨e, he1, he2⟩ := HX.out j hlt
      obtain ⟨v, hv, hown, hb⟩ := HK.out
      obtain ⟨a1, cap1, rfl⟩ := fnd_slice hown
      have hbl := hv.lt
      have HP : Hid (hs ++ placeH L t.length k (j + 1) = (hs ++ placeH L t.length k j) ++ [((e : Int), (k : Int))]) := Lib.hid (by rw [placeH_next hlt, he1, List.append_assoc])
      obtain ⟨ps, hps⟩ : ∃ ps, hs ++ placeH L t.length k j = ps := ⟨_, rfl⟩
      have hpl : ps.length ≤ 1000002000000 := by
        rw [← hps, List.length_append]
        unfold placeH
        rw [List.length_map, List.length_take]
        omega
      rw [hps] at hown hv HP
      obtain ⟨ao, cp, hva, h0 | ⟨g, rfl, hg1, hg2, hcell⟩⟩ := owns_ints HRow.out
      · omega
      cases hva
      have hc := hcell j hlt
      rw [Nat.zero_add] at hc
      have hx : L.getD j 0 = (e : Int) - (t.length : Int) := by omega
      rw [hx] at hc
      have hap := own_apart HRow.out hown (by decide)
      have HA := Lib.hid hap
      have c4 := hv.cell
      have g0 : (0 : Int) ≤ (j : Int) := by omega
      have g1 : (j : Int) < (L.length : Int) := by omega
      have we : IntKind.i64.wrap ((e : Int) - (t.length : Int) + (t.length : Int)) = (e : Int) := by rw [IntKind.wrap_i64]; omega
      have HV := Lib.hid hv
      have HB := Lib.hid hb
      clear he1 hx hcell hps hap hv hb
      go_wp2_with (at_builtin; refine wpList_append_own _ rfl _ _ 31 rfl (bl + 1) 44 i0 (.agg #[.int .i64 0, .int .i64 0]) 2 16 Try.underlying31 hi hz0 hz1 hz2 rfl (by decide) _ _ _ rfl (hown.alloc _) ⟨wr.heap.size, 0, none⟩ 1 1 [.int .i64 (e : Int), .int .i64 (k : Int)] rfl rfl (hit_news (heap_alloc_new wr _)) hit_one (by unfold maxLen; omega) (by omega) (by simp; omega) ?_)
      intro v' w3 hown3 hgrow _
      obtain ⟨a3, cap3, rfl⟩ := fnd_slice hown3
      have h3 : Below bl w2 w3 := ((HB.out.alloc (by omega) _).grown hgrow (by simp; omega) (fun i hi => by have := (hown.lt i hi).1; omega))
      have hv3 : Var1 w3 bl (.slice a1 ps.length cap1) 31 := by
        unfold Var1
        rw [hgrow.block bl (by simp; omega) (fun ee => by have := (hown.lt bl ee.symm).1; omega), Lib.alloc_old _ _ bl (by omega)]
        exact HV.out
      have hf3 := hv3.frozen
      have hc3 := hv3.cell
      have HG := Lib.hid (GrowsH.put (zs' := ps ++ [((e : Int), (k : Int))]) h3 hv3 (by rw [hiCells_snoc, List.length_append]; exact hown3))
      have HRow2 := Lib.hid (into_owns ((Into.refl bl w3).set 0 (.slice a3 (ps.length + 1) cap3)) (by omega) ((HRow.out.alloc _).kept hgrow HA.out))
      clear hgrow hown hown3 c4 hc HV HB h3 hv3 HK HRow HA
      go_wp2
      exact ⟨⟨j + 1, by omega, by go_num, by rw [HP.out]; exact HG, HRow2⟩, by simp [RowKit.intOf]; omega⟩
    · obtain rfl : j = L.length := by omega
      have hz : ¬ (L.length : Int) < (L.length : Int) := by omega
      have HE : Hid (GrowsH w0 bl (hs ++ R) wr) := Lib.hid (by
        obtain ⟨v, hv, hown, hb⟩ := HK.out
        obtain ⟨_, _, _, hb0⟩ := G2.out
        rw [HR.out] at hown
        exact ⟨v, hv, hown, hb0.trans (hb.mono (Nat.le_refl _))⟩)
      clear HK HRow G2 HR2
      go_wp2
      go_end0
      exact ⟨rfl, HE.out⟩
end Go.Proofs.Ytkpmbappddlcmaa
