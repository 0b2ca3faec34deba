/-
  The document's Of of layer 22: walked.
-/
import Derived.Test.YtpblllpgmibkoaaGreatTbU
import Derived.Test.YtpblllpgmibkoaaGreatBn9
import Derived.Test.YtpblllpgmibkoaaGreatBn15
import Derived.Deep.RegionLaw
set_option linter.unusedSimpArgs false
set_option linter.unusedVariables false
namespace Go.Proofs.YtpblllpgmibkoaaGreat
open Go.RowKit

/-- What the document's Of answers. -/
def RetOf2 (us : List (List UInt8)) (w : World) (e : Ending) (w' : World) : Prop :=
  ∃ v S, e = .returned v ∧ IsSt us S ∧ IsRef w' v (bcK us 256) ((ofT us S).map hdI) ((ofT us S).map List.tail) ∧ Below w.heap.size w w'

set_option maxRecDepth 100000 in
set_option maxHeartbeats 8000000 in
theorem rtof_any (a : Option Addr) (cap : Nat) (us : List (List UInt8)) (w : World) (hul : us.length ≤ 1000000) (hr : IsStrs w a us.length us) (ha : Asc us) (ht : ∀ t ∈ us, t.length ≤ 65535) (htot : totalL us ≤ 16777216) :
    Calls Tryz.prog 14 #[.slice a us.length cap] w (RetOf2 us w) := by
  have HI := Lib.hid hr
  have HStt := Lib.hid (fun (W : World) (h : IsStrs W a us.length us) => rstates_any a us.length cap us W hul h ha ht htot)
  have HByt := Lib.hid (fun (W : World) (h : IsStrs W a us.length us) => rclbytes_any a us.length cap us W hul h (fun t h => by have := ht t h; omega))
  have HLen := Lib.hid ht
  have HTot := Lib.hid htot
  have hbl := bc_length us 256
  have hr1 := heap_alloc_new w (.cells #[.string ⟨#[]⟩, .slice none 0 0, .slice none 0 0] 40)
  have d1 : Below w.heap.size w (w.alloc (.cells #[.string ⟨#[]⟩, .slice none 0 0, .slice none 0 0] 40)) := (Below.refl _ _).alloc (Nat.le_refl _) _
  have s1 : (w.alloc (.cells #[.string ⟨#[]⟩, .slice none 0 0, .slice none 0 0] 40)).heap.size = w.heap.size + 1 := by simp
  clear hr ha ht htot
  go_enter Tryz.func14, Tryz.ntmps14
  go_wp2_with fail
  generalize w.alloc (.cells #[.string ⟨#[]⟩, .slice none 0 0, .slice none 0 0] 40) = w1 at *
  refine (HStt.out w1 (HI.out.below d1)).mono ?_
  rintro e w2 ⟨S, a2, cap2, rfl, hst, hstr, hb2⟩
  have d2 := d1.trans (hb2.mono (by omega))
  have hr2 := (hb2.block _ (heap_lt hr1)).trans hr1
  have s2 := hb2.size
  have HS2 := Lib.hid hstr
  have HSt := Lib.hid hst
  have HB3 := Lib.hid (HByt.out w2 (HI.out.below d2))
  have HMe := Lib.hid (st_root hst)
  have HNd := Lib.hid (slx_nodup hst.1)
  have HSf : Hid (S.length ≤ 16777217) := Lib.hid (by
    have := states_few (slx_nodup hst.1) (us := us) fun q hq => (hst.2 q).1 hq
    have := HTot.out
    omega)
  have HSl := Lib.hid (st_len hst HLen.out)
  clear HStt HByt hstr hst hb2 hr1 d1
  obtain ⟨own, hown⟩ : ∃ o, bcK us 256 = o := ⟨_, rfl⟩
  rw [hown] at HB3 hbl
  have HOw := Lib.hid hown
  have SO := Lib.hid (bsize own)
  clear hown
  go_wp2_with fail
  refine HB3.out.mono ?_
  rintro e w3 ⟨rfl, hb3⟩
  have d3 := d2.trans (hb3.mono (by omega))
  have hr3 := (hb3.block _ (heap_lt hr2)).trans hr2
  have s3 := hb3.size
  have HS3 := Lib.hid (HS2.out.below hb3)
  obtain ⟨c, hc⟩ : ∃ c, w3.heap.size = c := ⟨_, rfl⟩
  have hrc : w.heap.size < c := by omega
  have b4 : Below c w3 (w3.alloc (.cells #[.string ⟨own.toArray⟩, .slice none 0 0, .slice none 0 0] 40)) := (Below.refl _ _).alloc (by omega) _
  have hG4 : RefG (w3.alloc (.cells #[.string ⟨own.toArray⟩, .slice none 0 0, .slice none 0 0] 40)) c c own (((ofT us S).take 0).map hdI) (((ofT us S).take 0).map List.tail) (.slice none 0 0) (.slice none 0 0) [] :=
    ⟨by rw [← hc]; exact heap_alloc_new w3 _, World.ownsRow_nil _ _ _ _, World.ownsRow_nil _ _ _ _, fun j q h => by simp at h⟩
  have HG4 : Hid (∃ dv nv X, RefG (w3.alloc (.cells #[.string ⟨own.toArray⟩, .slice none 0 0, .slice none 0 0] 40)) c c own (((ofT us S).take 0).map hdI) (((ofT us S).take 0).map List.tail) dv nv X) := Lib.hid ⟨_, _, _, hG4⟩
  have HD4 := Lib.hid b4
  have HR3 := Lib.hid hr3
  have HD3 := Lib.hid d3
  have HCe := Lib.hid hc
  clear HB3 hb3 hr2 d2 hr3 d3 s3 s2 s1 HS2 hG4 b4
  obtain ⟨n, hn⟩ : ∃ n, S.length = n := ⟨_, rfl⟩
  have HN := Lib.hid hn
  have hnl : n ≤ 16777217 := by rw [← hn]; exact HSf.out
  obtain ⟨K, hK⟩ : ∃ K, own.length = K := ⟨_, rfl⟩
  have HK := Lib.hid hK
  rw [hn] at HS3
  have hKl : K ≤ 256 := by omega
  go_wp2_with fail
  clear hK hn
  generalize w3.alloc (.cells #[.string ⟨own.toArray⟩, .slice none 0 0, .slice none 0 0] 40) = w4 at *
  clear hc
  obtain ⟨i0, hi, hz0, hz1, hz2⟩ := info_parts int_info
  obtain ⟨i1, ki, kz0, kz1, kz2⟩ := info_parts lsl_info
  go_loopw [5] (fun i wr => ∃ j : Nat, j ≤ n ∧ i = .int .i64 j ∧ Hid (∃ dv nv X, RefG wr c c own (((ofT us S).take j).map hdI) (((ofT us S).take j).map List.tail) dv nv X) ∧ Hid (Below c w3 wr)) (fun i _ => n - (RowKit.intOf i).toNat)
  case atStart => exact ⟨0, Nat.zero_le _, rfl, HG4, HD4⟩
  case round =>
    clear HG4 HD4
    obtain ⟨j, hj, rfl, HGr, HDr⟩ := hrel
    obtain ⟨dv, nv, X, hG⟩ := HGr.out
    obtain ⟨da, dc, rfl⟩ := owns_slice hG.dep
    obtain ⟨na, nc, rfl⟩ := owns_slice hG.nxt
    have hTl : ((ofT us S).take j).length = j := by rw [List.length_take, ofT_length, HN.out]; omega
    simp only [List.length_map, hTl] at hG
    have HGG := Lib.hid hG
    have HTl := Lib.hid hTl
    have hcw := hG.lt
    clear hG HGr hTl
    by_cases hlt : j < n
    · obtain ⟨s, hs⟩ : ∃ s, S[j]? = some s := ⟨_, List.getElem?_eq_getElem (by have := HN.out; omega)⟩
      have HS := Lib.hid hs
      have hsl := HSl.out s (List.mem_of_getElem? hs)
      have hgj : (j : Int) < (n : Int) := by omega
      obtain ⟨x0, x1, x2, y0, y1, y2⟩ := res_cells HGG.out.head
      obtain ⟨wo, hwo⟩ : ∃ wo, wo = wr := ⟨_, rfl⟩
      subst hwo
      obtain ⟨B2, hB2⟩ : ∃ B2, wo.heap.size = B2 := ⟨_, rfl⟩
      have hBB : c ≤ B2 := by omega
      have HO5 : Hid ((wo.alloc (.cells #[] 3)).ownsRow B2 3 1 (.slice (some ⟨wo.heap.size, 0, none⟩) 0 0) 0 (inCells ((own.take 0).map fun c => (dnS S s c : Int)))) := Lib.hid (World.ownsRow_made wo #[] 0 (by omega) (Nat.zero_le _) rfl)
      have HD5 : Hid (Below B2 wo (wo.alloc (.cells #[] 3))) := Lib.hid ((Below.refl _ _).alloc (by omega) _)
      have HBe := Lib.hid hB2
      rw [hB2] at HO5
      clear hs
      go_wp2_with fail
      clear hB2
      go_loopw [6, 7] (fun v i wi => ∃ i2 : Nat, i2 ≤ K ∧ i = .int .i64 i2 ∧ Hid (wi.ownsRow B2 3 1 v i2 (inCells ((own.take i2).map fun c => (dnS S s c : Int)))) ∧ Hid (Below B2 wo wi)) (fun _ i _ => K - (RowKit.intOf i).toNat)
      case atStart => exact ⟨0, Nat.zero_le _, rfl, HO5, HD5⟩
      case round =>
        clear HO5 HD5
        obtain ⟨i2, hi2, rfl, HO, HDi⟩ := hrel
        have hGi := HGG.out.below (by rw [HBe.out]; exact HDi.out)
        obtain ⟨x0, x1, x2, y0, y1, y2⟩ := res_cells hGi.head
        have HDc := Lib.hid (HDr.out.trans (HDi.out.mono hBB))
        by_cases hli : i2 < K
        · obtain ⟨cb, hcb⟩ : ∃ cb, own[i2]? = some cb := ⟨_, List.getElem?_eq_getElem (by have := HK.out; omega)⟩
          have hzb : i2 < (⟨own.toArray⟩ : ByteArray).size := by rw [SO.out, HK.out]; exact hli
          have hab := byteAt own i2 (by rw [HK.out]; exact hli) hzb
          have hae : own[i2]'(by rw [HK.out]; exact hli) = cb := by
            have := List.getElem?_eq_getElem (l := own) (i := i2) (by rw [HK.out]; exact hli)
            rw [hcb] at this
            exact (Option.some.inj this).symm
          rw [hae] at hab
          have HSt2 := Lib.hid (rlkstep_any a2 n cap2 S wr (by omega) (HS3.out.below (by rw [HCe.out]; exact HDc.out)) HMe.out (fun t ht => by have := HSl.out t ht; omega) j HS.out cb)
          rw [dn_ix HMe.out] at HSt2
          have HTk : Hid ((own.take (i2 + 1)).map (fun c => (dnS S s c : Int)) = (own.take i2).map (fun c => (dnS S s c : Int)) ++ [(dnS S s cb : Int)]) := Lib.hid (by rw [List.take_add_one, hcb, Option.toList_some, List.map_append]; rfl)
          generalize dnS S s cb = dd at *
          have gi : (i2 : Int) < (K : Int) := by omega
          have gio : (i2 : Int) < (own.length : Int) := by have := HK.out; omega
          have gi0 : (0 : Int) ≤ (i2 : Int) := by omega
          have hwr := HDi.out.size
          have hBi : B2 ≤ wr.heap.size := by have := HBe.out; omega
          clear hcb hae
          go_wp2_with fail
          refine HSt2.out.mono ?_
          rintro e w6 ⟨rfl, hb6⟩
          have hown := tx_below HO.out hb6
          have HD6 := Lib.hid (HDi.out.trans (hb6.mono hBi))
          have hs6 : B2 ≤ w6.heap.size := by have := hb6.size; omega
          obtain ⟨ra, rc, rfl⟩ := owns_slice hown
          clear HSt2 hb6 HO HDi hGi x0 x1 x2 y0 y1 y2 HDc
          go_wp2_with (at_builtin; refine wpList_append_own _ rfl _ _ 37 rfl B2 3 i0 (.int .i64 0) 1 8 Tryz.underlying37 hi hz0 hz1 hz2 rfl (by decide) _ _ _ rfl (hown.alloc _) ⟨w6.heap.size, 0, none⟩ 1 1 [.int .i64 (dd : Int)] rfl rfl (int_news (heap_alloc_new _ _)) int_one (by unfold maxLen; omega) (by omega) (by simp; omega) ?_)
          intro v' w7 hown7 hgrow _
          have HD7 := Lib.hid (tb_grow HD6.out (Nat.le_refl _) hs6 hown hgrow).1
          have HO7 : Hid (w7.ownsRow B2 3 1 v' (i2 + 1) (inCells ((own.take (i2 + 1)).map fun c => (dnS S s c : Int)))) := Lib.hid (by rw [HTk.out, inCells_snoc, List.map_take]; exact hown7)
          clear hown hown7 hgrow HD6 HTk hs6
          go_wp2
          exact ⟨⟨i2 + 1, by omega, by go_num, HO7, HD7⟩, by simp [RowKit.intOf]; omega⟩
        · have hiK : i2 = K := by omega
          subst hiK
          have gi : ¬ (i2 : Int) < (own.length : Int) := by have := HK.out; omega
          have gi3 : ¬ i2 < own.length := by have := HK.out; omega
          have hown := HO.out
          rw [List.take_of_length_le (by rw [HK.out]; exact Nat.le_refl _)] at hown
          have hcB : c ≤ wr.heap.size := by have := HDi.out.size; have := HBe.out; omega
          have hBBr : B2 ≤ wr.heap.size := by have := HDi.out.size; have := HBe.out; omega
          have hne : u6.ownBlock ≠ (Value.slice da j dc).ownBlock ∨ u6.ownBlock = none := by
            rcases own_none hGi.dep with h5 | ⟨g5, cs5, h5, h6⟩
            · rcases own_none hown with h7 | ⟨g7, _, h7, _⟩
              · exact .inr h7
              · exact .inl (by rw [h5, h7]; simp)
            · refine .inl fun e => ?_
              rw [h5] at e
              have h8 := (hown.lt g5 e).1
              have h9 : g5 < wo.heap.size := by
                rcases own_none HGG.out.dep with h10 | ⟨g10, _, h10, h11⟩
                · rw [h5] at h10; cases h10
                · rw [h5] at h10
                  cases h10
                  exact heap_lt h11
              have := HBe.out
              omega
          obtain ⟨ra, rc, rfl⟩ := owns_slice hown
          have hDl : (((ofT us S).take j).map hdI).length = j := by rw [List.length_map, HTl.out]
          have hQl : (((ofT us S).take j).map List.tail).length = j := by rw [List.length_map, HTl.out]
          have hdep := hGi.dep
          rw [hDl] at hdep
          have HDep := Lib.hid hdep
          obtain ⟨bS, oS, haS, t, hft, hcS⟩ := str_at HS3.out (by rw [HCe.out]; exact HDc.out) j hlt
          obtain rfl : t = s := Option.some.inj (hft.symm.trans HS.out)
          have HZt := Lib.hid (bsize t)
          subst haS
          have hbS := World.block_lt_of_cell? wr _ hcS
          have hcS1 : wr.drew.cell? ⟨bS, oS + j, none⟩ = some (.string ⟨t.toArray⟩) := hcS
          have x1d : wr.drew.cell? ⟨c, 1, none⟩ = some (.slice da j dc) := x1
          have x1a : ∀ o, (wr.drew.alloc o).cell? ⟨c, 1, none⟩ = some (.slice da j dc) := fun o => by rw [World.cell?_alloc_lt _ _ _ (show c < wr.drew.heap.size from hGi.lt)]; exact x1
          have x1b : ∀ o, (wr.alloc o).cell? ⟨c, 1, none⟩ = some (.slice da j dc) := fun o => by rw [World.cell?_alloc_lt _ _ _ hGi.lt]; exact x1
          have gj0 : (0 : Int) ≤ (j : Int) := by omega
          have hjb : j + 1 ≤ 16777217 := by omega
          have HGi := Lib.hid hGi
          have HOwn := Lib.hid hown
          have HNe := Lib.hid hne
          clear HO HDi hdep hft hown hne hGi hcS
          go_wp2_with fail
          go_region_law (first
            | (refine step_append_to rfl (.tmp 38) (.tmp 44) _ rfl c 3 i0 (.int .i64 0) 1 8 Tryz.underlying37 hi hz0 hz1 hz2 rfl (by omega) (.slice da j dc) j (inCells (((ofT us S).take j).map hdI)) (by simp [Act.eval, Act.put]) (HDep.out.alloc _) ⟨wr.heap.size, 0, none⟩ 1 1 [.int .i64 (t.length : Int)] (by simp [Act.eval, Act.put]) rfl (int_news (heap_alloc_new wr _)) int_one (by unfold maxLen; omega) (by omega) (by simp; omega) (by omega) ?_
               intro dv2 w6 hdv2 hgrow hto
               have hn5 : dv2.ownBlock = (Value.slice da j dc).ownBlock ∨ dv2.ownBlock = some (wr.alloc (.cells #[.int .i64 (t.length : Int)] 3)).heap.size := hto
               have hgr : (wr.alloc (.cells #[.int .i64 (t.length : Int)] 3)).grownBy w6 (Value.slice da j dc).ownBlock := ⟨hgrow.os, hgrow.tape, hgrow.output, hgrow.size, hgrow.block⟩
               have hc6 := heap_grown HGi.out.head hgr (Lib.ownBlock_ne HGi.out.dep HGi.out.head (by decide))
               have C6 : w6.cell? ⟨c, 1, none⟩ = some (.slice da j dc) := (res_cells hc6).2.1
               have F6 : w6.frozen? ⟨c, 1, none⟩ = false := Lib.frozen_of_heap hc6 1
               obtain ⟨da2, dc2, rfl⟩ := owns_slice hdv2))
          all_goals
            have hG6 := HGi.out.depth (by rw [hDl]; exact hdv2) hgr hn5
            obtain ⟨hown6, hne6⟩ := own_depth HGi.out HOwn.out HNe.out hgr hn5
            obtain ⟨hB6a, _, hB6s⟩ := tb_grow HDc.out (Nat.le_refl _) hcB HDep.out hgr
            have hB6 := hB6a.setCell (p := ⟨c, 1, none⟩) (Nat.le_refl _) (.slice da2 (j + 1) dc2)
            have hs6 : B2 ≤ (w6.setCell ⟨c, 1, none⟩ (.slice da2 (j + 1) dc2)).heap.size := by
              simp [World.setCell]
              omega
            have HG6 := Lib.hid hG6
            have HB6 := Lib.hid hB6
            have HO6 := Lib.hid hown6
            have HNe6 := Lib.hid hne6
            obtain ⟨x0, x1, x2, y0, y1, y2⟩ := res_cells hG6.head
            have hnxt := hG6.nxt
            rw [hQl] at hnxt
            have hs7 : c ≤ (w6.setCell ⟨c, 1, none⟩ (.slice da2 (j + 1) dc2)).heap.size := Nat.le_trans hBB hs6
            have hnw : ∀ o, ((w6.setCell ⟨c, 1, none⟩ (.slice da2 (j + 1) dc2)).alloc o).heap[w6.heap.size]? = some o := fun o => by
              rw [show w6.heap.size = (w6.setCell ⟨c, 1, none⟩ (.slice da2 (j + 1) dc2)).heap.size by simp [World.setCell]]
              exact heap_alloc_new _ _
            have hs8 : c ≤ w6.heap.size := by rw [show w6.heap.size = (w6.setCell ⟨c, 1, none⟩ (.slice da2 (j + 1) dc2)).heap.size by simp [World.setCell]]; exact hs7
            clear hG6 hown6 hne6 hB6a hB6s hB6 hgr hgrow hto hn5 hdv2 hc6 C6 F6 x1d x1a x1b hcS1
            go_wp2_with (at_builtin; refine wpList_append_own _ rfl _ _ 38 rfl c 37 i1 (.slice none 0 0) 1 24 Tryz.underlying38 ki kz0 kz1 kz2 rfl (by decide) _ _ _ rfl (hnxt.alloc _) ⟨w6.heap.size, 0, none⟩ 1 1 [.slice ra i2 rc] rfl rfl (one_news (hnw _)) (lsl_one rfl) (by unfold maxLen; omega) (by omega) (by simp [World.setCell]; omega) ?_)
            intro nv2 w8 hnv2 hgrow _
            have hql : (own.map fun c => (dnS S t c : Int)).length = i2 := by rw [List.length_map, HK.out]
            have hG8 := HG6.out.next (q := own.map fun c => (dnS S t c : Int)) hBB (by rw [hql]; exact HO6.out) HNe6.out (by rw [hQl]; exact hnv2) hgrow
            have hc8 := heap_grown HG6.out.head hgrow (Lib.ownBlock_ne HG6.out.nxt HG6.out.head (by decide))
            have C8 : w8.cell? ⟨c, 2, none⟩ = some (.slice na j nc) := (res_cells hc8).2.2.1
            have F8 : w8.frozen? ⟨c, 2, none⟩ = false := Lib.frozen_of_heap hc8 2
            obtain ⟨na2, nc2, rfl⟩ := owns_slice hnv2
            have HB8 := Lib.hid ((tb_grow HB6.out (Nat.le_refl _) hs7 hnxt hgrow).1.setCell (p := ⟨c, 2, none⟩) (Nat.le_refl _) (.slice na2 (j + 1) nc2))
            have hsn : (ofT us S).take (j + 1) = (ofT us S).take j ++ [(t.length : Int) :: (own.map fun c => (dnS S t c : Int))] := by
              rw [List.take_add_one, ofT_at HS.out, Option.toList_some]
              unfold rowT
              rw [HOw.out]
            have HG8 : Hid (∃ dv nv X, RefG (w8.setCell ⟨c, 2, none⟩ (.slice na2 (j + 1) nc2)) c c own (((ofT us S).take (j + 1)).map hdI) (((ofT us S).take (j + 1)).map List.tail) dv nv X) := Lib.hid ⟨_, _, _, by rw [hsn, row_heads, row_tails]; exact hG8⟩
            clear hG8 hc8 hnv2 hgrow hnxt x0 x1 x2 y0 y1 y2 HG6 HB6 HO6 HNe6 hDl hQl hnw hsn hql
            go_wp2
            exact ⟨⟨j + 1, by omega, by go_num, HG8, HB8⟩, by simp [RowKit.intOf]; omega⟩
    · have hjn : j = n := by omega
      subst hjn
      have hz : ¬ (j : Int) < (j : Int) := by omega
      have HRr : Hid (wr.heap[w.heap.size]? = some (.cells #[.string ⟨#[]⟩, .slice none 0 0, .slice none 0 0] 40 (0, 0))) := Lib.hid ((HDr.out.block _ hrc).trans HR3.out)
      have HDw := Lib.hid (HD3.out.trans (HDr.out.mono (by omega)))
      obtain ⟨x0, x1, x2, y0, y1, y2⟩ := res_cells HGG.out.head
      obtain ⟨r0, r1, r2, z0, z1, z2⟩ := res_cells (own := []) HRr.out
      go_wp2
      obtain ⟨hs1, hs2, hs3⟩ := res_store (.string ⟨own.toArray⟩) (.slice da j dc) (.slice na j nc) HRr.out HDw.out (Nat.le_refl _)
      have hG9 := HGG.out.into hs3 HRr.out (by omega)
      generalize (((wr.setCell ⟨w.heap.size, 0, none⟩ (.string ⟨own.toArray⟩)).setCell ⟨w.heap.size, 1, none⟩ (.slice da j dc)).setCell ⟨w.heap.size, 2, none⟩ (.slice na j nc)) = wq at *
      obtain ⟨j0, j1, j2, _, _, _⟩ := res_cells hs1
      refine bodyPost_ret (v := .agg #[.string ⟨own.toArray⟩, .slice da j dc, .slice na j nc]) (by simp [results, Tryz.results14, go_sem, j0, j1, j2]) rfl ?_
      rw [List.take_of_length_le (by rw [ofT_length, HN.out]; exact Nat.le_refl _)] at hG9
      have hval := hG9.val (by rw [List.length_map, ofT_length, HN.out]; unfold maxLen; omega) (fun q hq => by
        obtain ⟨r, hr, rfl⟩ := List.mem_map.1 hq
        obtain ⟨t, _, rfl⟩ := List.mem_map.1 hr
        unfold rowT
        rw [HOw.out, List.tail_cons, List.length_map, HK.out]
        unfold maxLen
        omega)
      exact ⟨_, S, rfl, HSt.out, by rw [HOw.out]; exact hval, hs2⟩
end Go.Proofs.YtpblllpgmibkoaaGreat
