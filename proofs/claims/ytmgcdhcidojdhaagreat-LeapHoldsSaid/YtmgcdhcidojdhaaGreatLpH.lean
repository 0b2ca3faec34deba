/-
  The document's hits of records: walked.
-/
import Derived.Test.YtmgcdhcidojdhaaGreatBn4
import Derived.Test.YtmgcdhcidojdhaaGreatPbS
import Derived.Test.YtmgcdhcidojdhaaGreatBn19
set_option linter.unusedSimpArgs false
set_option linter.unusedVariables false
namespace Go.Proofs.YtmgcdhcidojdhaaGreat
open Go.RowKit

/-- How far the first j records go. -/
def covS (rs : List Rc) (j : Nat) : Nat := (((evs rs).take j).map covN).sum
theorem covS_next {rs : List Rc} {j : Nat} {x : Rc} (h : rs[j]? = some x) : covS rs (j + 1) = covS rs j + covN x.R := by
  unfold covS
  rw [List.take_add_one, evs_at h]
  simp
theorem hitsR_next {rs : List Rc} {j : Nat} {x : Rc} (h : rs[j]? = some x) : hitsR 0 ((evs rs).take (j + 1)) = hitsR 0 ((evs rs).take j) ++ x.R.ids.map fun i => (((covS rs (j + 1) : Nat) : Int), i) := by
  rw [covS_next h, List.take_add_one, evs_at h, hitsR_app]
  unfold covS
  simp [hitsR]

set_option maxRecDepth 100000 in
set_option maxHeartbeats 8000000 in
theorem rlphits_any (a : Option Addr) (n ca : Nat) (rs : List Rc) (w : World) (hn : rs.length = n) (hl : n ≤ 1000) (hi : ∀ x ∈ rs, x.R.ids.length ≤ 1000) (hc : ∀ x ∈ rs, covN x.R ≤ 1000000) (ha : IsRecs w a rs) :
    Calls Tryz.prog 18 #[.slice a n ca] w (RetH (hitsR 0 (evs rs)) w) := by
  have HI := Lib.hid hi
  have HC := Lib.hid hc
  have HA := Lib.hid ha
  obtain ⟨i0, hi0, hz0, hz1, hz2⟩ := info_parts hit_info
  clear hi hc ha
  go_enter Tryz.func18, Tryz.ntmps18
  go_wp2
  go_loopw [3, 4, 5] (fun v t i wr => ∃ (k : Nat), k ≤ n ∧ i = .int .i64 (k : Int) ∧ covS rs k ≤ k * 1000000 ∧ (hitsR 0 ((evs rs).take k)).length ≤ k * 1000 ∧ t = .int .i64 (covS rs k : Int) ∧ Hid (wr.ownsRow w.heap.size 78 2 v (hitsR 0 ((evs rs).take k)).length (hiCells (hitsR 0 ((evs rs).take k))) ∧ Below w.heap.size w wr)) (fun _ _ i _ => n - (RowKit.intOf i).toNat)
  case atStart => exact ⟨0, Nat.zero_le _, rfl, by simp [covS], by simp [hitsR], rfl, Lib.hid ⟨World.ownsRow_made w #[] 0 (Nat.le_refl _) (by unfold maxLen; omega) rfl, (Below.refl _ _).alloc (Nat.le_refl _) _⟩⟩
  case round =>
    obtain ⟨k, hk, rfl, hcl, hhl, rfl, HR⟩ := hrel
    by_cases hlt : k < n
    · obtain ⟨b1, x, rfl, hx, hix, c0, c1, c2, c3⟩ := (HA.out.below HR.out.2).get (i := k) (by omega)
      have hx2 := HI.out x (List.mem_of_getElem? hx)
      have hx3 := HC.out x (List.mem_of_getElem? hx)
      have HNX := Lib.hid (hitsR_next hx)
      have hcn := covS_next hx
      obtain ⟨acc, hacc⟩ : ∃ acc, hitsR 0 ((evs rs).take k) = acc := ⟨_, rfl⟩
      rw [hacc] at HR hhl HNX
      obtain ⟨T, hT⟩ : ∃ T, covS rs (k + 1) = T := ⟨_, rfl⟩
      rw [hT] at HNX hcn
      have HTT := Lib.hid hT
      obtain ⟨T0, hT0⟩ : ∃ T0, covS rs k = T0 := ⟨_, rfl⟩
      rw [hT0] at hcl hcn ⊢
      have hz := cov_z x.R
      have HX := Lib.hid (And.intro hx hix)
      obtain ⟨⟨kk, nn, rr, ids⟩, xa, xc⟩ := x
      dsimp only at hx2 hx3 c0 c1 c2 c3 hz HNX hcn
      obtain ⟨cv, hcv⟩ : ∃ cv, covN ⟨kk, nn, rr, ids⟩ = cv := ⟨_, rfl⟩
      rw [hcv] at hx3 hz hcn
      have hZ : (T : Int) = (T0 : Int) + (cv : Int) := by omega
      rw [hZ] at HNX
      have wA : IntKind.i64.wrap ((T0 : Int) + (cv : Int)) = (T0 : Int) + (cv : Int) := by rw [IntKind.wrap_i64]; omega
      have HZ := Lib.hid hZ
      have hcn9 := hcn
      clear hZ
      clear hcv
      have HCV := Lib.hid (fun W => rcov_any kk nn rr (.slice xa ids.length xc) ⟨_, _, _, rfl⟩ W)
      rw [hz] at HCV
      have HIT := Lib.hid hix
      have HRW := Lib.hid (hix.row (by unfold maxLen; dsimp only; omega))
      have u0 : (0 : Int) ≤ (k : Int) := by omega
      have u1 : (k : Int) < (n : Int) := by omega
      have HC3 := Lib.hid c3
      clear hx hix hacc hT hT0 hz
      go_wp2_with fail
      refine (HCV.out _).mono ?_
      rintro E w2 ⟨rfl, hb2⟩
      have HR2 : Hid (w2.ownsRow w.heap.size 78 2 u3 acc.length (hiCells acc) ∧ Below w.heap.size w w2 ∧ Below wr.heap.size wr w2) := Lib.hid ⟨(Keep.below hb2).owns HR.out.1, HR.out.2.trans (hb2.mono HR.out.2.size), hb2⟩
      clear hb2 HCV c0 c1 c2 c3
      have hac : acc.length ≤ 1000000 := by omega
      go_wp2
      go_loopw [3, 6] (fun v i wq => ∃ (j : Nat), j ≤ ids.length ∧ i = .int .i64 (j : Int) ∧ Hid (wq.ownsRow w.heap.size 78 2 v (acc ++ (ids.take j).map fun i => ((T0 : Int) + (cv : Int), i)).length (hiCells (acc ++ (ids.take j).map fun i => ((T0 : Int) + (cv : Int), i))) ∧ Below w.heap.size w wq)) (fun _ i _ => ids.length - (RowKit.intOf i).toNat)
      case atStart => exact ⟨0, Nat.zero_le _, rfl, Lib.hid ⟨by rw [List.take_zero, List.map_nil, List.append_nil]; exact HR2.out.1, HR2.out.2.1⟩⟩
      case round =>
        obtain ⟨j, hj, rfl, HQ⟩ := hrel
        obtain ⟨b9, x9, hb9, hx9, hix9, _, _, _, c9⟩ := (HA.out.below HQ.out.2).get (i := k) (by omega)
        cases hb9
        rw [HX.out.1] at hx9
        cases hx9
        dsimp only at c9
        by_cases hlt2 : j < ids.length
        · have u2 : (j : Int) < (ids.length : Int) := by omega
          have z3 : (0 : Int) ≤ (j : Int) := by omega
          obtain h0 | ⟨b2, off2, rfl, hl1, _, _, cc1⟩ := hix9.row (by unfold maxLen; dsimp only; omega)
          · dsimp only at h0
            omega
          have d1 := cc1 j hlt2
          obtain ⟨z, hz9⟩ : ∃ z, ids.getD j 0 = z := ⟨_, rfl⟩
          dsimp only at d1
          rw [hz9] at d1
          have hzz : ids[j]? = some z := by rw [← hz9, List.getD_eq_getElem?_getD, List.getElem?_eq_getElem hlt2]; rfl
          have hnext : acc ++ (ids.take (j + 1)).map (fun i => ((T0 : Int) + (cv : Int), i)) = (acc ++ (ids.take j).map (fun i => ((T0 : Int) + (cv : Int), i))) ++ [((T0 : Int) + (cv : Int), z)] := by rw [List.take_add_one, hzz]; simp
          have HNN := Lib.hid hnext
          have hal : (acc ++ (ids.take j).map (fun i => ((T0 : Int) + (cv : Int), i))).length ≤ 2000000 := by rw [List.length_append, List.length_map, List.length_take]; omega
          generalize acc ++ (ids.take j).map (fun i => ((T0 : Int) + (cv : Int), i)) = bcc at *
          have hown := HQ.out.1
          have hsz := HQ.out.2.size
          clear cc1 hix9 hnext hl1 hz9 hzz HRW HIT HC3
          go_wp2_with (at_builtin; refine wpList_append_own _ rfl _ _ 48 rfl w.heap.size 78 i0 (.agg #[.int .i64 0, .int .i64 0]) 2 16 Tryz.underlying48 hi0 hz0 hz1 hz2 rfl (by decide) _ _ _ rfl (hown.alloc _) ⟨wr.heap.size, 0, none⟩ 1 1 [.int .i64 ((T0 : Int) + (cv : Int)), .int .i64 z] rfl rfl (hit_news (heap_alloc_new wr _)) hit_one (by unfold maxLen; omega) (by omega) (by simp; omega) ?_)
          intro v' w3 hown3 hgrow _
          have HR3 : Hid (w3.ownsRow w.heap.size 78 2 v' (bcc ++ [((T0 : Int) + (cv : Int), z)]).length (hiCells (bcc ++ [((T0 : Int) + (cv : Int), z)])) ∧ Below w.heap.size w w3) := Lib.hid ⟨by rw [hiCells_snoc, List.length_append]; exact hown3, (HQ.out.2.alloc hsz _).grown hgrow (by simp; omega) (fun j hj => (hown.lt j hj).1)⟩
          rw [← HNN.out] at HR3
          clear hgrow hown hown3 HQ
          go_wp2
          exact ⟨⟨j + 1, by omega, by go_num, HR3⟩, by simp [RowKit.intOf]; omega⟩
        · obtain rfl : j = ids.length := by omega
          have u2 : ¬ (ids.length : Int) < (ids.length : Int) := by omega
          have htk : ids.take ids.length = ids := List.take_length
          rw [htk] at HQ
          have HR3 : Hid (wr.ownsRow w.heap.size 78 2 u3 (hitsR 0 ((evs rs).take (k + 1))).length (hiCells (hitsR 0 ((evs rs).take (k + 1)))) ∧ Below w.heap.size w wr) := Lib.hid (by rw [HNX.out]; exact HQ.out)
          have HL9 : Hid ((hitsR 0 ((evs rs).take (k + 1))).length ≤ (k + 1) * 1000) := Lib.hid (by rw [HNX.out, List.length_append, List.length_map]; omega)
          clear hix9 HQ HRW HIT HC3
          go_wp2
          exact ⟨⟨k + 1, by omega, by go_num, by rw [HTT.out]; omega, HL9.out, by rw [HTT.out, HZ.out], HR3⟩, by simp [RowKit.intOf]; omega⟩
    · obtain rfl : k = n := by omega
      have u1 : ¬ (k : Int) < (k : Int) := by omega
      have ht : (evs rs).take k = evs rs := List.take_of_length_le (by rw [evs_length]; omega)
      rw [ht] at HR
      go_wp2
      go_ret
      exact ⟨_, rfl, HR.out.1, HR.out.2⟩
end Go.Proofs.YtmgcdhcidojdhaaGreat
