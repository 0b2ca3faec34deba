/-
  tab.Of: walked.
-/
import Derived.Test.YtpblllpgmibkoaaGreatBn9
import Derived.Test.YtpblllpgmibkoaaGreatBn11
import Derived.Test.YtpblllpgmibkoaaGreatBn6
import Derived.Deep.RegionLaw
import Derived.Deep.CutRange
set_option linter.unusedSimpArgs false
set_option linter.unusedVariables false
namespace Go.Proofs.YtpblllpgmibkoaaGreat
open Go.RowKit

/-- Rows in the making: behind block b, the bytes, and so many numbers. -/
def IsGrow (w : World) (b B : Nat) (own : List UInt8) (L : List Int) : Prop := ∃ v, w.heap[b]? = some (.cells #[.string ⟨own.toArray⟩, v] 67 (0, 0)) ∧ w.ownsRow B 21 1 v L.length (c32 L)

/-- What Of answers: the rows of a set, whose states these are. -/
def RetTb (us : List (List UInt8)) (w : World) (e : Ending) (w' : World) : Prop :=
  ∃ b S, e = .returned (.pointer (some ⟨b, 0, none⟩)) ∧ IsSt us S ∧ S[0]? = some [] ∧ S.length ≤ 16777217 ∧ IsTab w' b (bcK us 256) (ofT us S) ∧ Below w.heap.size w w'

set_option maxRecDepth 100000 in
set_option maxHeartbeats 8000000 in
theorem tbof_any {w : World} {p : Option Addr} {us : List (List UInt8)} (hp : IsPats w p us) (ha : Asc us) (hn : us.Nodup) :
    Calls Tryz.prog 10 #[.pointer p] w (RetTb us w) := by
  have HD := Lib.hid (dnnew_any hp ha hn)
  have HK := Lib.hid (fun (W : World) (h : Below w.heap.size w W) => lknew_any (hp.below h) ha hn)
  have HLe := Lib.hid (pats_each hp).1
  have hcb := bc_length us 256
  clear hp ha hn
  go_enter Tryz.func10, Tryz.ntmps10
  go_wp2_with fail
  refine HD.out.mono ?_
  rintro e w1 ⟨b1, g1, pc, S, T, rfl, hT, hb1⟩
  have HK1 := Lib.hid (HK.out w1 hb1)
  have s1 := hb1.size
  have HT1 := Lib.hid hT
  have HB1 := Lib.hid hb1
  clear HD HK hT hb1
  go_wp2_with fail
  refine HK1.out.mono ?_
  rintro e w2 ⟨k, q, S2, F, rfl, hL, hb2⟩
  have hst := HT1.out.st
  obtain rfl : S2 = S := hL.tr.st.unique hst
  have HT2 := Lib.hid (HT1.out.below hb2)
  have HL2 := Lib.hid hL
  have HB2 := Lib.hid (HB1.out.trans (hb2.mono s1))
  have hfew := hL.tr.few
  have h0 := HT2.out.root
  have HG := Lib.hid (of_good hst h0 HLe.out hfew.2.2)
  have HSt := Lib.hid hst
  have HR0 := Lib.hid h0
  have HSl := Lib.hid (st_len hst HLe.out)
  have HNd := Lib.hid HT2.out.nodup
  have HMe := Lib.hid HT2.out.mem
  have hfn := hfew.2.2
  clear HK1 HT1 HB1 hL hb2 hst h0 hfew s1
  obtain ⟨n, hnS⟩ : ∃ n, S2.length = n := ⟨_, rfl⟩
  have HN := Lib.hid hnS
  have HCls := Lib.hid (dncls_any HT2.out.dn.tb)
  have HBy := Lib.hid (clbytes_any HT2.out.dn.cl)
  have HLen := Lib.hid (ds_len HT2.out)
  rw [hnS] at HLen hfn
  obtain ⟨own, hown⟩ : ∃ o, bcK us 256 = o := ⟨_, rfl⟩
  rw [hown] at HBy hcb HG
  have HOw := Lib.hid hown
  have SO := Lib.hid (bsize own)
  obtain ⟨K, hK⟩ : ∃ K, own.length = K := ⟨_, rfl⟩
  have HK := Lib.hid hK
  rw [hK] at hcb
  have hmost : n * (K + 1) ≤ 4311744769 := by
    have := Nat.mul_le_mul hfn (show K + 1 ≤ 257 by omega)
    omega
  have hmul := mul_wrap n K hmost
  obtain ⟨m, hm⟩ : ∃ m, n * (K + 1) = m := ⟨_, rfl⟩
  rw [hm] at hmul hmost
  have HM := Lib.hid hm
  obtain ⟨w3, hmake, hown3, hb3, hz3⟩ := make_cells m w2 hmost
  have HO3 := Lib.hid hown3
  have HB3 := Lib.hid hb3
  have HZ3 := Lib.hid hz3
  clear hown3 hb3 hz3 hm hown hnS
  go_wp2_with fail
  refine HCls.out.mono ?_
  rintro e w' ⟨rfl, hw⟩
  obtain rfl := hw.symm
  clear hw HCls
  go_wp2_with fail
  refine HBy.out.mono ?_
  rintro e w' ⟨rfl, hw⟩
  obtain rfl := hw.symm
  clear hw HBy
  go_wp2_with fail
  refine HLen.out.mono ?_
  rintro e w' ⟨rfl, hw⟩
  obtain rfl := hw.symm
  clear hw
  go_wp2_with fail
  have d4 : Below w2.heap.size w2 (w3.alloc (.cells #[.string ⟨own.toArray⟩, .slice (some ⟨w2.heap.size, 0, none⟩) 0 m] 67)) := HB3.out.alloc HB3.out.size _
  have HG4 : Hid (IsGrow (w3.alloc (.cells #[.string ⟨own.toArray⟩, .slice (some ⟨w2.heap.size, 0, none⟩) 0 m] 67)) w3.heap.size w2.heap.size own []) := Lib.hid ⟨_, heap_alloc_new w3 _, HO3.out.alloc _⟩
  have HB4 := Lib.hid d4
  have HLen4 := Lib.hid (ds_len (HT2.out.below d4))
  rw [HN.out] at HLen4
  obtain ⟨i0, hi, hz0, hz1, hz2⟩ := info_parts dn32_all
  have hbB : w2.heap.size < w3.heap.size := by have := HZ3.out; omega
  have HW2 := Lib.hid HB2.out.size
  clear d4 HLen HO3 HB3 HZ3 hmake
  generalize w3.alloc (.cells #[.string ⟨own.toArray⟩, .slice (some ⟨w2.heap.size, 0, none⟩) 0 m] 67) = w4 at *
  generalize w3.heap.size = b at *
  obtain ⟨B, hB⟩ : ∃ B, w2.heap.size = B := ⟨_, rfl⟩
  rw [hB] at HG4 HB4 hbB HW2 ⊢
  have HBe := Lib.hid hB
  clear hB
  refine HLen4.out.mono ?_
  rintro e w' ⟨rfl, hw⟩
  obtain rfl := hw.symm
  clear hw HLen4
  go_wp2_with fail
  go_loopw [29] (fun i wr => ∃ j : Nat, j ≤ n ∧ i = .int .i64 j ∧ Hid (IsGrow wr b B own ((ofT us S2).take j).flatten) ∧ Hid (Below B w2 wr)) (fun i _ => n - (RowKit.intOf i).toNat)
  case atStart => exact ⟨0, Nat.zero_le _, rfl, HG4, HB4⟩
  case round =>
    clear HG4 HB4
    obtain ⟨j, hj, rfl, HGr, HBr⟩ := hrel
    by_cases hlt : j < n
    · obtain ⟨s, hs⟩ : ∃ s, S2[j]? = some s := ⟨_, List.getElem?_eq_getElem (by have := HN.out; omega)⟩
      have HS := Lib.hid hs
      have hsl := HSl.out s (List.mem_of_getElem? hs)
      have hLl : ((ofT us S2).take j).flatten.length = j * (K + 1) := by
        rw [flat_len (W := K + 1) (fun r hr => by rw [HG.out.len r (List.mem_of_mem_take hr), HK.out]), List.length_take, ofT_length, HN.out, Nat.min_eq_left (by omega)]
      have hLb : ((ofT us S2).take j).flatten.length + K + 1 ≤ 4311744769 := by
        have := seg_in (W := K + 1) hlt
        have := HM.out
        omega
      have HRow : Hid (((ofT us S2).take (j + 1)).flatten = ((ofT us S2).take j).flatten ++ rowT us S2 s) := Lib.hid (by rw [List.take_add_one, ofT_at hs, Option.toList_some, List.flatten_append]; simp)
      generalize ((ofT us S2).take j).flatten = L at *
      obtain ⟨v, hh, hown⟩ := HGr.out
      have hblt := heap_lt hh
      have hne := Lib.ownBlock_ne hown hh (by decide)
      obtain ⟨a0, cap0, rfl⟩ := owns_slice hown
      have c1 : wr.cell? ⟨b, 1, none⟩ = some (.slice a0 L.length cap0) := by rw [Lib.cell_of_heap hh]; rfl
      have f1 : wr.frozen? ⟨b, 1, none⟩ = false := Lib.frozen_of_heap hh 1
      have HO := Lib.hid hown
      have HH := Lib.hid hh
      have HTri := Lib.hid (fun (W : World) (h : Below B w2 W) => lktrie_any (HL2.out.below (by rw [HBe.out]; exact h)).has)
      have HDep := Lib.hid (fun (W : World) (h : Below B w2 W) => ts_depth (HL2.out.below (by rw [HBe.out]; exact h)).tr j HS.out)
      have w0 : IntKind.i32.wrap (s.length : Int) = (s.length : Int) := by rw [IntKind.wrap_i32]; omega
      have hsB := HBr.out.size
      have hBwr : B ≤ wr.heap.size := by have := HBe.out; omega
      clear hh hown HGr hs hLl
      go_upto_region 7 with fail
      go_cut [29] from 29 to 68 (fun i wx => i = .int .i64 j ∧ Hid (IsGrow wx b B own (L ++ [(s.length : Int)])) ∧ Hid (Below B w2 wx))
      case first =>
        go_region_law (first
          | (rw [if_pos (by simp [Region.wanted])]
             go_simp
             go_at_call 33
             refine (HTri.out _ (by first | exact HBr.out | exact HBr.out.drew | exact below_drewS HBr.out _)).mono ?_
             rintro e1 w1' ⟨rfl, rfl⟩)
          | (rw [if_pos (by simp [Region.wanted])]
             go_simp
             go_at_call 34
             refine (HDep.out _ (by first | exact HBr.out | exact HBr.out.drew | exact below_drewS HBr.out _)).mono ?_
             rintro e2 wd ⟨rfl, hbd⟩
             have HOd := tx_below HO.out.drew hbd
             have hVd : wd.heap[b]? = some (.cells #[.string ⟨own.toArray⟩, .slice a0 L.length cap0] 67 (0, 0)) := (hbd.block b hblt).trans HH.out
             have hszd : wr.heap.size ≤ wd.heap.size := hbd.size
             have cd : wd.cell? ⟨b, 1, none⟩ = some (.slice a0 L.length cap0) := by rw [Lib.cell_of_heap hVd]; rfl
             have ad : ∀ o, (wd.alloc o).cell? ⟨b, 1, none⟩ = some (.slice a0 L.length cap0) := fun o => by rw [World.cell?_alloc_lt _ _ _ (Nat.lt_of_lt_of_le hblt hszd)]; exact cd)
          | (refine step_append_any rfl (.tmp 36) (.tmp 42) _ rfl B 21 i0 (.int .i32 0) 1 4 Tryz.underlying65 hi hz0 hz1 hz2 rfl (by omega) (.slice a0 L.length cap0) L.length (c32 L) (by simp [Act.eval, Act.put]) (HOd.alloc _) ⟨wd.heap.size, 0, none⟩ 1 1 [.int .i32 (s.length : Int)] (by simp [Act.eval, Act.put]) rfl (one_news (heap_alloc_new wd _)) c32_one (by unfold maxLen; omega) (by omega) (by simp; omega) ?_
             intro v3 w3' own3 grow3
             obtain ⟨a3, cap3, rfl⟩ := owns_slice own3
             have hV3 : w3'.heap[b]? = some (.cells #[.string ⟨own.toArray⟩, .slice a0 L.length cap0] 67 (0, 0)) := by
               rw [grow3.block b (by simp; omega) (fun ee => hne ee.symm), Lib.alloc_old _ _ b (by omega)]
               exact hVd
             have C3 : w3'.cell? ⟨b, 1, none⟩ = some (.slice a0 L.length cap0) := by rw [Lib.cell_of_heap hV3]; rfl
             have F3 : w3'.frozen? ⟨b, 1, none⟩ = false := Lib.frozen_of_heap hV3 1))
        all_goals
          have HGx : Hid (IsGrow (w3'.setCell ⟨b, 1, none⟩ (.slice a3 (L.length + 1) cap3)) b B own (L ++ [(s.length : Int)])) := Lib.hid ⟨_, by rw [put_heap hV3]; rfl, by
            rw [c32_snoc, List.length_append]
            exact ownsRow_setCell_other own3 (Lib.ownBlock_ne own3 hV3 (by decide)) _⟩
          have HBx : Hid (Below B w2 (w3'.setCell ⟨b, 1, none⟩ (.slice a3 (L.length + 1) cap3))) := Lib.hid ((tb_grow (HBr.out.drew.trans (hbd.mono (by simpa using hBwr))) (Nat.le_refl _) (by omega) HOd grow3).1.setCell (p := ⟨b, 1, none⟩) (Nat.le_of_lt hbB) _)
          clear own3 grow3 hV3 C3 F3 HOd hVd cd ad hbd
          go_wp2_with fail
          go_meet
          exact ⟨rfl, HGx, HBx⟩
      case rest =>
        obtain ⟨rfl, HGx, HBx⟩ := hcut
        obtain ⟨X, hX⟩ : ∃ X, wc.heap.size = X := ⟨_, rfl⟩
        have hcv := run_bytes_of_string (P := Tryz.prog) wc 9 70 5 ⟨own.toArray⟩ Tryz.underlying9 Tryz.underlying70 Tryz.underlying5
        rw [bsize, HK.out] at hcv
        obtain ⟨cp, hcp⟩ : ∃ cp, grownCap wc K 0 5 = cp := ⟨_, rfl⟩
        rw [hcp] at hcv
        have HKC : Hid (∀ j (c : UInt8), own[j]? = some c → (bytesRow ⟨own.toArray⟩ cp)[j]? = some (Value.int .u8 (c.toNat : Int))) := Lib.hid (fun j c hj => by
          obtain ⟨h1, h2⟩ := List.getElem?_eq_some_iff.1 hj
          have := bytesRow_at ⟨own.toArray⟩ cp j (by simpa using h1)
          rw [this]
          simp [h2])
        generalize bytesRow ⟨own.toArray⟩ cp = cells at *
        have HX : Hid ((wc.alloc (.cells cells 5 (cells.size, cells.size + 1))).drew.heap[wc.heap.size]? = some (.cells cells 5 (cells.size, cells.size + 1))) := Lib.hid (heap_alloc_new wc _)
        have hsc := HBx.out.size
        have HB5 : Hid (Below B w2 (wc.alloc (.cells cells 5 (cells.size, cells.size + 1))).drew) := Lib.hid ((HBx.out.alloc (by have := HBe.out; omega) _).drew)
        have HG5 : Hid (IsGrow (wc.alloc (.cells cells 5 (cells.size, cells.size + 1))).drew b B own (L ++ [(s.length : Int)] ++ (own.take 0).map fun c => (dnS S2 s c : Int))) := Lib.hid (by
          obtain ⟨v, h1, h2⟩ := HGx.out
          rw [List.take_zero, List.map_nil, List.append_nil]
          refine ⟨v, ?_, h2.alloc _⟩
          show (wc.alloc _).heap[b]? = _
          rw [Lib.alloc_old _ _ b (heap_lt h1)]
          exact h1)
        have HXb : Hid (X ≠ b) := Lib.hid (fun e => by
          obtain ⟨v, h1, _⟩ := HGx.out
          have := heap_lt h1
          omega)
        rw [hX] at HX hcv
        clear HGx HBx hcp hsc
        go_wp2_with fail
        generalize (wc.alloc (.cells cells 5 (cells.size, cells.size + 1))).drew = w5 at *
        go_loopw [49] (fun i wr => ∃ i1 : Nat, i1 ≤ K ∧ i = .int .i64 i1 ∧ Hid (IsGrow wr b B own (L ++ [(s.length : Int)] ++ (own.take i1).map fun c => (dnS S2 s c : Int))) ∧ Hid (wr.heap[X]? = some (.cells cells 5 (cells.size, cells.size + 1))) ∧ Hid (Below B w2 wr)) (fun i _ => K - (RowKit.intOf i).toNat)
        case atStart => exact ⟨0, Nat.zero_le _, rfl, HG5, HX, HB5⟩
        case round =>
          clear HG5 HX HB5
          obtain ⟨i, hi9, rfl, HGy, HXy, HBy⟩ := hrel
          by_cases hli : i < K
          · obtain ⟨c, hc⟩ : ∃ c, own[i]? = some c := ⟨_, List.getElem?_eq_getElem (by have := HK.out; omega)⟩
            have cx : wr.cell? ⟨X, i, none⟩ = some (.int .u8 (c.toNat : Int)) := by
              rw [Lib.cell_of_heap HXy.out]
              exact HKC.out i c hc
            have HT9 : Hid (L ++ [(s.length : Int)] ++ ((own.take (i + 1)).map fun c => (dnS S2 s c : Int)) = (L ++ [(s.length : Int)] ++ (own.take i).map fun c => (dnS S2 s c : Int)) ++ [(dnS S2 s c : Int)]) := Lib.hid (by rw [List.take_add_one, hc, Option.toList_some, List.map_append]; simp)
            have hLb2 : (L ++ [(s.length : Int)] ++ (own.take i).map fun c => (dnS S2 s c : Int)).length + 1 ≤ 4311744769 := by
              rw [List.length_append, List.length_append, List.length_map, List.length_take, List.length_singleton]
              omega
            have HSt9 := Lib.hid (fun (W : World) (h : Below B w2 W) => ds_step (HT2.out.below (by rw [HBe.out]; exact h)) j HS.out c)
            have hdl := dn_lt HNd.out HMe.out s c
            rw [HN.out] at hdl
            generalize dnS S2 s c = d at *
            generalize (L ++ [(s.length : Int)] ++ (own.take i).map fun c => (dnS S2 s c : Int)) = L1 at *
            have w1 : IntKind.i32.wrap (d : Int) = (d : Int) := by rw [IntKind.wrap_i32]; omega
            obtain ⟨v, hh, hown⟩ := HGy.out
            have hblt := heap_lt hh
            have hXlt := heap_lt HXy.out
            have hne := Lib.ownBlock_ne hown hh (by decide)
            have hneX := Lib.ownBlock_ne hown HXy.out (by decide)
            obtain ⟨a0, cap0, rfl⟩ := owns_slice hown
            have c1 : wr.cell? ⟨b, 1, none⟩ = some (.slice a0 L1.length cap0) := by rw [Lib.cell_of_heap hh]; rfl
            have f1 : wr.frozen? ⟨b, 1, none⟩ = false := Lib.frozen_of_heap hh 1
            have HO := Lib.hid hown
            have HH := Lib.hid hh
            have g0 : (0 : Int) ≤ (i : Int) := by omega
            have g1 : (i : Int) < (K : Int) := by omega
            have hsB := HBy.out.size
            have hBwr : B ≤ wr.heap.size := by have := HBe.out; omega
            have ad : ∀ o, (wr.drew.alloc o).cell? ⟨b, 1, none⟩ = some (.slice a0 L1.length cap0) := fun o => by
              rw [World.cell?_alloc_lt _ _ _ (show b < wr.drew.heap.size from hblt)]; exact c1
            clear hh hown HGy hc
            go_wp2_with fail
            go_region_law (first
              | (rw [if_pos (by simp [Region.wanted])]
                 go_simp
                 go_at_call 35
                 refine (HSt9.out _ (by first | exact HBy.out | exact HBy.out.drew | exact below_drewS HBy.out _)).mono ?_
                 rintro e1 w1' ⟨rfl, rfl⟩)
              | (refine step_append_any rfl (.tmp 57) (.tmp 63) _ rfl B 21 i0 (.int .i32 0) 1 4 Tryz.underlying65 hi hz0 hz1 hz2 rfl (by omega) (.slice a0 L1.length cap0) L1.length (c32 L1) (by simp [Act.eval, Act.put]) (HO.out.drew.alloc _) ⟨wr.heap.size, 0, none⟩ 1 1 [.int .i32 (d : Int)] (by simp [Act.eval, Act.put]) rfl (one_news (heap_alloc_new wr.drew _)) c32_one (by unfold maxLen; omega) (by omega) (by simp; omega) ?_
                 intro v3 w3' own3 grow3
                 obtain ⟨a3, cap3, rfl⟩ := owns_slice own3
                 have hV3 : w3'.heap[b]? = some (.cells #[.string ⟨own.toArray⟩, .slice a0 L1.length cap0] 67 (0, 0)) := by
                   rw [grow3.block b (by simp; omega) (fun ee => hne ee.symm)]
                   exact (Lib.alloc_old wr _ b hblt).trans HH.out
                 have C3 : w3'.cell? ⟨b, 1, none⟩ = some (.slice a0 L1.length cap0) := by rw [Lib.cell_of_heap hV3]; rfl
                 have F3 : w3'.frozen? ⟨b, 1, none⟩ = false := Lib.frozen_of_heap hV3 1))
            all_goals
              have HGx : Hid (IsGrow (w3'.setCell ⟨b, 1, none⟩ (.slice a3 (L1.length + 1) cap3)) b B own (L ++ [(s.length : Int)] ++ ((own.take (i + 1)).map fun c => (dnS S2 s c : Int)))) := Lib.hid ⟨_, by rw [put_heap hV3]; rfl, by
                rw [HT9.out, c32_snoc, List.length_append]
                exact ownsRow_setCell_other own3 (Lib.ownBlock_ne own3 hV3 (by decide)) _⟩
              have HBx : Hid (Below B w2 (w3'.setCell ⟨b, 1, none⟩ (.slice a3 (L1.length + 1) cap3))) := Lib.hid ((tb_grow HBy.out.drew (Nat.le_refl _) (by simpa using hBwr) HO.out.drew grow3).1.setCell (p := ⟨b, 1, none⟩) (Nat.le_of_lt hbB) _)
              have HXx : Hid ((w3'.setCell ⟨b, 1, none⟩ (.slice a3 (L1.length + 1) cap3)).heap[X]? = some (.cells cells 5 (cells.size, cells.size + 1))) := Lib.hid (by
                rw [put_other HXb.out, grow3.block X (by simp; omega) (fun ee => hneX ee.symm)]
                exact (Lib.alloc_old wr _ X hXlt).trans HXy.out)
              clear own3 grow3 hV3 C3 F3 ad
              go_wp2
              exact ⟨⟨i + 1, by omega, by go_num, HGx, HXx, HBx⟩, by simp [RowKit.intOf]; omega⟩
          · have hiK : i = K := by omega
            have hz : ¬ (i : Int) < (K : Int) := by omega
            have HGz : Hid (IsGrow wr b B own ((ofT us S2).take (j + 1)).flatten) := Lib.hid (by
              have := HGy.out
              rw [List.take_of_length_le (by rw [HK.out]; omega)] at this
              rw [HRow.out]
              unfold rowT
              rw [HOw.out]
              rw [List.append_assoc] at this
              exact this)
            clear HGy HXy
            go_wp2
            exact ⟨⟨j + 1, by omega, by go_num, HGz, HBy⟩, by simp [RowKit.intOf]; omega⟩
    · have hjn : j = n := by omega
      subst hjn
      have hz : ¬ (j : Int) < (j : Int) := by omega
      go_wp2
      go_ret
      refine ⟨b, S2, rfl, HSt.out, HR0.out, by rw [HN.out]; exact hfn, ?_, ?_⟩
      · rw [HOw.out]
        obtain ⟨v, h1, h2⟩ := HGr.out
        rw [List.take_of_length_le (by rw [ofT_length, HN.out]; exact Nat.le_refl _)] at h2
        exact tab_of h1 h2 HG.out
      · exact HB2.out.trans (HBr.out.mono HW2.out)
end Go.Proofs.YtpblllpgmibkoaaGreat
