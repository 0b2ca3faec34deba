/-
  tab: Put: walked.
-/
import Derived.Test.YtpblllpgmibkoaaGreatBn5
import Derived.Test.YtpblllpgmibkoaaGreatBn12
import Derived.Test.YtpblllpgmibkoaaGreatBn10
import Derived.Test.YtpblllpgmibkoaaGreatBn2
import Derived.Deep.RegionWith
import Derived.BigQuiet
set_option linter.unusedSimpArgs false
set_option linter.unusedVariables false
namespace Go.Proofs.YtpblllpgmibkoaaGreat
open Go.RowKit

theorem tbput_nil (w : World) : Calls Tryz.prog 11 #[.pointer none] w fun e w' => e = .returned (.string ⟨#[]⟩) ∧ w' = w := by
  go_enter Tryz.func11, Tryz.ntmps11
  go_wp2
  go_ret
  exact ⟨rfl, rfl⟩

/-- A builder is left alone by stores into blocks of another type. -/
theorem builder_other {T e U : TypeId} {B b : Nat} {bs : List Value} {w w' : World} (h : Lib.IsBuilder T e B b bs w) (ho : Other U w w') (hT : T ≠ U) (he : e ≠ U) : Lib.IsBuilder T e B b bs w' := by
  have key : ∀ p, Lib.BuilderAt T e B b p bs w → Lib.BuilderAt T e B b p bs w' := fun p ⟨hB, v, hv, hown, hne⟩ => ⟨hB, v, ho b _ _ _ hT hv, ho.owns he hown, hne⟩
  exact h.elim (fun x => .inl (key _ x)) (fun x => .inr (key _ x))

/-- The bytes of rows, up to some state. -/
def tbU (own : List UInt8) (n : Nat) (R : List (List Int)) : List UInt8 := hdT ++ (vput (n : Int) ++ vput (own.length : Int)) ++ own ++ vall R.flatten
theorem tbU_all (own : List UInt8) (R : List (List Int)) : tbU own R.length R = tbB own R := by simp [tbU, tbB]
theorem tbU_snoc (own : List UInt8) (n : Nat) (R : List (List Int)) (r : List Int) : tbU own n (R ++ [r]) = tbU own n R ++ vall r := by simp [tbU, vall_append]
theorem tbU_le (own : List UInt8) (n : Nat) (R : List (List Int)) (j : Nat) : (tbU own n (R.take j)).length ≤ (tbU own n R).length := by
  have e : R.flatten = (R.take j).flatten ++ (R.drop j).flatten := by rw [← List.flatten_append, List.take_append_drop]
  have : tbU own n R = tbU own n (R.take j) ++ vall (R.drop j).flatten := by
    unfold tbU
    rw [e, vall_append]
    simp
  rw [this, List.length_append]; omega
theorem tbU_nil (own : List UInt8) (n : Nat) : tbU own n [] = hdT ++ (vput (n : Int) ++ vput (own.length : Int)) ++ own := by simp [tbU, vall]

/-- A row of numbers of four bytes lies in another block than one of numbers of eight. -/
theorem row_apart {w : World} {a : Addr} {n g : Nat} {r zs : List Int} {T : TypeId} (h : IsRow .i32 w (some a) n n r) (hn : 0 < n) (hg : w.heap[g]? = some (.cells (inCells zs).toArray T (0, 0))) : a.block ≠ g := by
  obtain h0 | ⟨b, off, ha, _, _, _, hc⟩ := h
  · omega
  · cases ha
    intro e
    have h1 := hc 0 hn
    rw [show (⟨b, off, none⟩ : Addr).block = b from rfl] at e
    subst e
    rw [Lib.cell_of_heap hg] at h1
    simp only [inCells, List.size_toArray, List.getElem?_toArray, List.getElem?_map, Nat.add_zero] at h1
    cases hz : zs[off]? with
    | none => rw [hz] at h1; cases h1
    | some z => rw [hz] at h1; cases h1
theorem row_kept {k : IntKind} {w w' : World} {a : Addr} {n m : Nat} {r : List Int} (h : IsRow k w (some a) n m r) (hh : w'.heap[a.block]? = w.heap[a.block]?) : IsRow k w' (some a) n m r := by
  obtain h0 | ⟨b, off, ha, h1, h2, h3, hc⟩ := h
  · exact .inl h0
  · cases ha
    refine .inr ⟨b, off, rfl, h1, h2, h3, fun i hi => ?_⟩
    rw [World.cell?_of_block (w := w) (a := ⟨b, off + i, none⟩) hh]
    exact hc i hi

/-- One number more is copied. -/
theorem cells_copied {r zs : List Int} {i : Nat} (hz : zs.length = r.length) (hi : i < r.length) : (inCells (r.take i ++ zs.drop i)).toArray.setIfInBounds i (.int .i64 (r.getD i 0)) = (inCells (r.take (i + 1) ++ zs.drop (i + 1))).toArray := by
  have h1 : (r.take i).length = i := by rw [List.length_take]; omega
  apply Array.ext'
  rw [Array.toList_setIfInBounds]
  simp only [inCells, List.map_append, List.toList_toArray]
  have e : zs.drop i = zs.getD i 0 :: zs.drop (i + 1) := by
    rw [List.drop_eq_getElem_cons (by omega)]
    simp [List.getD, List.getElem?_eq_getElem (show i < zs.length by omega)]
  rw [e, List.map_cons, List.set_append_right _ _ (by simp; omega)]
  rw [show i - (List.map (Value.int .i64) (r.take i)).length = 0 by simp; omega, List.set_cons_zero, take_snoc r i hi]
  simp

set_option maxRecDepth 100000 in
set_option maxHeartbeats 8000000 in
theorem tbput_any {w : World} {b : Nat} {own : List UInt8} {R : List (List Int)} (h : IsTab w b own R) (hlen : (tbB own R).length ≤ 1000000) :
    Calls Tryz.prog 11 #[.pointer (some ⟨b, 0, none⟩)] w fun e w' => e = .returned (.string ⟨(tbB own R).toArray⟩) ∧ Below w.heap.size w w' := by
  obtain ⟨hm, hf, hs, hl⟩ := h.most
  have HT := Lib.hid h
  have HG := Lib.hid h.good
  obtain ⟨n, hn⟩ : ∃ n, R.length = n := ⟨_, rfl⟩
  obtain ⟨k, hk⟩ : ∃ k, own.length = k := ⟨_, rfl⟩
  have HN := Lib.hid hn
  have HK := Lib.hid hk
  have HU : Hid (tbU own n R = tbB own R) := Lib.hid (by rw [← hn]; exact tbU_all own R)
  have HL : Hid (∀ j, (tbU own n (R.take j)).length ≤ 1000000) := Lib.hid (fun j => by have := tbU_le own n R j; rw [HU.out] at this; omega)
  have HLen := Lib.hid (fun (W : World) (hW : Below w.heap.size w W) => tblen_any (h.below hW))
  rw [hn] at HLen
  have HAll := Lib.hid (fun (W : World) (g : Nat) (hg : W.heap[g]? = some (.cells #[.int .i64 (n : Int), .int .i64 (k : Int)] 3 (0, 0))) => all_any (some ⟨g, 0, none⟩) 2 2 [(n : Int), (k : Int)] W (by omega) (row_heap (zs := [(n : Int), (k : Int)]) (T := 3) hg rfl (by unfold maxLen; omega)) (by intro x hx; simp at hx; omega))
  rw [show vall (([(n : Int), (k : Int)]).take 2) = vput (n : Int) ++ vput (k : Int) by simp [vall]] at HAll
  have v1 := vput_length (n : Int) (by omega)
  have v2 := vput_length (k : Int) (by omega)
  have HE : Hid (hdT ++ (vput (n : Int) ++ vput (k : Int)) ++ own = tbU own n (R.take 0)) := Lib.hid (by rw [List.take_zero, tbU_nil, hk])
  generalize vput (n : Int) = vn at *
  generalize vput (k : Int) = vk at *
  have SO := Lib.hid (bsize own)
  go_enter Tryz.func11, Tryz.ntmps11
  go_wp2_with fail
  have hbu := Lib.fresh_isBuilder 73 5 w
  have d2 : Below w.heap.size w (w.alloc (.cells #[.pointer none, .slice none 0 0] 73)) := (Below.refl _ w).alloc (Nat.le_refl _) _
  have s2 : w.heap.size + 1 ≤ (w.alloc (.cells #[.pointer none, .slice none 0 0] 73)).heap.size := by simp
  generalize w.alloc (.cells #[.pointer none, .slice none 0 0] 73) = w2 at hbu d2 s2 ⊢
  have H2 := Lib.hid (wstr _ _ [] hdT w2 hbu (by simp [hdT]) (by omega))
  refine H2.out.mono ?_
  rintro e w3 ⟨⟨m3, rfl⟩, hbu3, d3, _⟩
  have d3' := d2.trans d3
  have s3 := d3.size
  have HB3 : Hid (Lib.IsBuilder 73 5 w.heap.size w.heap.size (Lib.byteCells hdT) w3) := Lib.hid hbu3
  have HT3 := HT.out.below d3'
  obtain ⟨g0, off0, cap0, hh0, _⟩ := HT3.head
  have c0 : w3.cell? ⟨b, 0, none⟩ = some (.string ⟨own.toArray⟩) := by rw [Lib.cell_of_heap hh0]; rfl
  have HLen3 := Lib.hid (fun (W : World) (hW : W.heap = w3.heap) => tblen_any (HT3.heap hW))
  rw [hn] at HLen3
  have hcx : ∀ q, (w3.drewN q).cell? ⟨b, 0, none⟩ = some (.string ⟨own.toArray⟩) := fun q => c0
  clear H2 hbu d2 d3 hbu3 h hh0
  go_wp2_with fail
  go_region_with (first
    | (go_at_call 16; refine (HLen3.out _ (by rfl)).mono ?_; rintro e w4 ⟨rfl, q4, rfl⟩)
    | (go_at_call 37; refine (HAll.out _ _ (by exact heap_alloc_new _ _)).mono ?_; rintro e w5 ⟨rfl, b5⟩)
    | (go_at_call 36; have d5 := ((below_drewS (Below.refl w3.heap.size w3) _).alloc (Nat.le_refl _) _).trans (b5.mono (by simp)); refine (wstr _ _ hdT (vn ++ vk) w5 (IsBuilder.below HB3.out d5) (by simp [hdT]; omega) (by have := d5.size; omega)).mono ?_; rintro e w6 ⟨⟨m6, rfl⟩, hbu6, d6, _⟩))
  all_goals
    have D6 : Below w.heap.size w w6 := d3'.trans ((d5.mono (by omega)).trans d6)
    have s6 := D6.size
    have s5 : w3.heap.size ≤ w6.heap.size := Nat.le_trans d5.size d6.size
    have HB6 := Lib.hid hbu6
    have HT6 := HT.out.below D6
    have HD6 := Lib.hid D6
    obtain ⟨g1, off1, cap1, hh1, _⟩ := HT6.head
    have c6 : w6.cell? ⟨b, 0, none⟩ = some (.string ⟨own.toArray⟩) := by rw [Lib.cell_of_heap hh1]; rfl
    clear hbu6 d6 d5 b5 hh1 HB3 d3' c0 HLen3 hcx D6 HT3
    have hl0 := HL.out 0
    rw [← HE.out] at hl0
    have H7 := Lib.hid (wstr _ _ _ own w6 HB6.out (by rw [← List.length_append]; omega) s6)
    go_wp2_with fail
    refine H7.out.mono ?_
    rintro e w7 ⟨⟨m7, rfl⟩, hbu7, d7, k7⟩
    have HB7 := Lib.hid hbu7
    have D7 := HD6.out.trans d7
    have HD7 := Lib.hid D7
    have s7 := D7.size
    have s67 := d7.size
    have HGw : Hid (w.heap.size < w7.heap.size) := Lib.hid (by omega)
    have HT7 := HT.out.below D7
    have HW7 := Lib.hid (tbwid_any HT7)
    rw [hk] at HW7
    obtain ⟨W, hW⟩ : ∃ W, k + 1 = W := ⟨_, rfl⟩
    rw [hW] at HW7
    have hWl : W ≤ 257 := by omega
    have hWp : 0 < W := by omega
    have HWk := Lib.hid hW
    have hmake := make_row W w7 (by omega)
    clear hbu7 d7 k7 H7 HB6 HT6 HD6 c6 D7 s67 hW
    go_wp2_with fail
    refine HW7.out.mono ?_
    rintro e w' ⟨rfl, hw⟩
    obtain rfl := hw.symm
    clear hw HW7
    go_wp2_with fail
    have hg8 := heap_alloc_new w7 (.cells (inCells (List.replicate W 0)).toArray 3)
    have d8 : Below w7.heap.size w7 (w7.alloc (.cells (inCells (List.replicate W 0)).toArray 3)) := (Below.refl _ _).alloc (Nat.le_refl _) _
    have z8 : (w7.alloc (.cells (inCells (List.replicate W 0)).toArray 3)).heap.size = w7.heap.size + 1 := by simp
    generalize w7.alloc (.cells (inCells (List.replicate W 0)).toArray 3) = w8 at *
    have HG8 := Lib.hid hg8
    have HB8 := Lib.hid (IsBuilder.below HB7.out d8)
    have HD8 := Lib.hid (HD7.out.trans (d8.mono s7))
    have HZ8 : Hid (w7.heap.size < w8.heap.size) := Lib.hid (by omega)
    have hgw := s7
    generalize w7.heap.size = g at *
    clear hg8 d8 z8 HB7 HD7 hmake HT7
    have HLen8 := Lib.hid (HLen.out w8 HD8.out)
    refine HLen8.out.mono ?_
    rintro e w9 ⟨rfl, q9, rfl⟩
    have HB9 : Hid (Lib.IsBuilder 73 5 w.heap.size w.heap.size (Lib.byteCells (tbU own n (R.take 0))) (w8.drewN q9)) := Lib.hid (by rw [← HE.out]; exact HB8.out)
    have HG9 : Hid ((w8.drewN q9).heap[g]? = some (.cells (inCells (List.replicate W 0)).toArray 3 (0, 0))) := Lib.hid HG8.out
    have HD9 := Lib.hid (below_drewS HD8.out q9)
    have HZ9 : Hid (g < (w8.drewN q9).heap.size) := Lib.hid HZ8.out
    clear HB8 HG8 HD8 HZ8 HLen8
    generalize w8.drewN q9 = w9 at *
    go_wp2_with fail
    go_loopw [31] (fun i wr => ∃ (j : Nat) (Z : List Int), j ≤ n ∧ i = .int .i64 j ∧ Hid (Lib.IsBuilder 73 5 w.heap.size w.heap.size (Lib.byteCells (tbU own n (R.take j))) wr) ∧ Hid (wr.heap[g]? = some (.cells (inCells Z).toArray 3 (0, 0))) ∧ Hid (Z.length = W) ∧ Hid (Below w.heap.size w wr)) (fun i _ => n - (RowKit.intOf i).toNat)
    case atStart => exact ⟨0, List.replicate W 0, Nat.zero_le _, rfl, HB9, HG9, Lib.hid List.length_replicate, HD9⟩
    case round =>
      clear HB9 HG9 HD9
      obtain ⟨j, Z, hj, rfl, HB, HG2, HZ, HD⟩ := hrel
      by_cases hlt : j < n
      · obtain ⟨r, hr⟩ : ∃ r, R[j]? = some r := ⟨_, List.getElem?_eq_getElem (by have := HN.out; omega)⟩
        have HRow := Lib.hid (tbrow_in (HT.out.below HD.out) j hr)
        rw [hk, HWk.out] at HRow
        have hrl : r.length = W := by have := HG.out.len r (List.mem_of_getElem? hr); have := HWk.out; have := HK.out; omega
        have HRl := Lib.hid hrl
        have HCell := Lib.hid (fun i hi => HG.out.cell hr i hi)
        have HS : Hid (tbU own n (R.take (j + 1)) = tbU own n (R.take j) ++ vall r) := Lib.hid (by rw [List.take_add_one, hr]; exact tbU_snoc own n _ r)
        have hlj := HL.out (j + 1)
        rw [HS.out, List.length_append] at hlj
        have hgj : (j : Int) < (n : Int) := by omega
        have HLj := Lib.hid hlj
        clear hr hrl hlj
        go_wp2_with fail
        refine HRow.out.mono ?_
        rintro e wx ⟨⟨a, ca, rfl, hrow⟩, qx, rfl⟩
        have HBx : Hid (Lib.IsBuilder 73 5 w.heap.size w.heap.size (Lib.byteCells (tbU own n (R.take j))) (wr.drewN qx)) := Lib.hid HB.out
        have HGx : Hid ((wr.drewN qx).heap[g]? = some (.cells (inCells Z).toArray 3 (0, 0))) := Lib.hid HG2.out
        have HDx := Lib.hid (below_drewS HD.out qx)
        have hap := row_apart hrow hWp HGx.out
        have HRw := Lib.hid hrow
        clear HRow hrow HB HG2 HD
        generalize wr.drewN qx = wx at *
        go_wp2_with fail
        go_loopw [38] (fun i wy => ∃ (i0 : Nat), i0 ≤ W ∧ i = .int .i64 i0 ∧ Hid (wy.heap[g]? = some (.cells (inCells (r.take i0 ++ Z.drop i0)).toArray 3 (0, 0))) ∧ Hid (Into g wx wy)) (fun i _ => W - (RowKit.intOf i).toNat)
        case atStart => exact ⟨0, Nat.zero_le _, rfl, Lib.hid (by simpa using HGx.out), Lib.hid (Into.refl _ _)⟩
        case round =>
          obtain ⟨i, hi, rfl, HGy, HIy⟩ := hrel
          by_cases hli : i < W
          · obtain h0 | ⟨gb, off, ha, _, _, _, hc⟩ := row_kept HRw.out (HIy.out.block _ hap)
            · omega
            cases ha
            have cx := hc i hli
            obtain ⟨x0, x1⟩ := HCell.out i (by have := HWk.out; have := HK.out; omega)
            have HCp := Lib.hid (cells_copied (r := r) (zs := Z) (i := i) (by rw [HZ.out, HRl.out]) (by rw [HRl.out]; exact hli))
            generalize r.getD i 0 = x at *
            have fg : wr.frozen? ⟨g, i, none⟩ = false := Lib.frozen_of_heap HGy.out i
            have w0 : IntKind.i64.wrap x = x := by rw [IntKind.wrap_i64]; omega
            have g0 : (0 : Int) ≤ (i : Int) := by omega
            have g1 : (i : Int) < (W : Int) := by omega
            obtain ⟨y, hy⟩ : ∃ y, (r.take i ++ Z.drop i)[i]? = some y := ⟨_, List.getElem?_eq_getElem (by rw [List.length_append, List.length_take, List.length_drop, HZ.out, HRl.out]; omega)⟩
            have cg : wr.cell? ⟨g, i, none⟩ = some (.int .i64 y) := by
              rw [Lib.cell_of_heap HGy.out]
              show (inCells _).toArray[i]? = _
              rw [List.getElem?_toArray]
              unfold inCells
              rw [List.getElem?_map, hy]
              rfl
            have HG3 : Hid ((wr.setCell ⟨g, i, none⟩ (.int .i64 x)).heap[g]? = some (.cells (inCells (r.take (i + 1) ++ Z.drop (i + 1))).toArray 3 (0, 0))) := Lib.hid (by rw [put_heap HGy.out, HCp.out])
            have HI3 := Lib.hid (HIy.out.set i (.int .i64 x))
            clear hc hy HGy HIy
            go_wp2
            exact ⟨⟨i + 1, by omega, by go_num, HG3, HI3⟩, by simp [RowKit.intOf]; omega⟩
          · have hiW : i = W := by omega
            subst hiW
            have hz : ¬ (i : Int) < (i : Int) := by omega
            have HGz : Hid (wr.heap[g]? = some (.cells (inCells r).toArray 3 (0, 0))) := Lib.hid (by
              have := HGy.out
              rw [List.take_of_length_le (by rw [HRl.out]; exact Nat.le_refl _), List.drop_of_length_le (by rw [HZ.out]; exact Nat.le_refl _), List.append_nil] at this
              exact this)
            have hrow : IsRow .i64 wr (some ⟨g, 0, none⟩) i i r := row_heap HGz.out HRl.out (by unfold maxLen; omega)
            have HA := Lib.hid (all_any (some ⟨g, 0, none⟩) i i r wr (by omega) hrow (fun x hx => by
              obtain ⟨q, hq⟩ := List.mem_iff_getElem?.1 hx
              have hql := (List.getElem?_eq_some_iff.1 hq).1
              have := HCell.out q (by have := HRl.out; have := HWk.out; have := HK.out; omega)
              rw [List.getD_eq_getElem?_getD, hq] at this
              simp only [Option.getD_some] at this
              omega))
            rw [List.take_of_length_le (by rw [HRl.out]; exact Nat.le_refl _)] at HA
            have ho : Other 3 wx wr := fun kk cs U m hU hh => by
              have hne : kk ≠ g := fun e => by
                subst e
                rw [HGx.out] at hh
                injection hh with hh
                injection hh with _ h2 _
                exact hU h2.symm
              rw [HIy.out.block kk hne]; exact hh
            have HBy := Lib.hid (builder_other HBx.out ho (by decide) (by decide))
            have HDy := Lib.hid (HDx.out.trans (HIy.out.belowTo (Nat.le_refl _) |>.mono hgw))
            clear HGy HIy ho hrow HRw HBx HGx HDx hap
            go_wp2_with fail
            refine HA.out.mono ?_
            rintro e wz ⟨rfl, hbz⟩
            have HBz := Lib.hid (IsBuilder.below HBy.out hbz)
            have HGzz : Hid (wz.heap[g]? = some (.cells (inCells r).toArray 3 (0, 0))) := Lib.hid ((hbz.block g (heap_lt HGz.out)).trans HGz.out)
            have HDz := Lib.hid (HDy.out.trans (hbz.mono HDy.out.size))
            have HWr := Lib.hid (wstr _ _ _ (vall r) wz HBz.out (by have := HLj.out; omega) HDz.out.size)
            clear HA HBy HGz HDy hbz
            go_wp2_with fail
            refine HWr.out.mono ?_
            rintro e wv ⟨⟨mv, rfl⟩, hbv, dv, kv⟩
            have HBv : Hid (Lib.IsBuilder 73 5 w.heap.size w.heap.size (Lib.byteCells (tbU own n (R.take (j + 1)))) wv) := Lib.hid (by rw [HS.out]; exact hbv)
            have HGv : Hid (wv.heap[g]? = some (.cells (inCells r).toArray 3 (0, 0))) := Lib.hid (kv g _ _ _ (by have := HGw.out; omega) (by decide) HGzz.out)
            have HDv := Lib.hid (HDz.out.trans dv)
            clear hbv dv kv HWr HBz HGzz HDz
            go_wp2
            exact ⟨⟨j + 1, r, by omega, by go_num, HBv, HGv, HRl, HDv⟩, by simp [RowKit.intOf]; omega⟩
      · have hjn : j = n := by omega
        subst hjn
        have hz : ¬ (j : Int) < (j : Int) := by omega
        have hbb := HB.out
        rw [show R.take j = R from List.take_of_length_le (by rw [HN.out]; exact Nat.le_refl _), HU.out] at hbb
        go_wp2_with (go_at_call 40; refine (Tryz.Builder_String_any _ _ _ _ hbb (by have := HD.out.size; omega)).mono ?_; rintro e wq ⟨rfl, bq⟩)
        go_ret
        exact ⟨rfl, HD.out.trans bq⟩
end Go.Proofs.YtpblllpgmibkoaaGreat
