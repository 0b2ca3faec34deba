/-
  pen.Whole: walked.
-/
import Derived.Test.YtlfofdgeaigpbaaPnQ
import Derived.Test.YtlfofdgeaigpbaaBn12
set_option linter.unusedSimpArgs false
set_option linter.unusedVariables false
namespace Go.Proofs.Ytlfofdgeaigpbaa
open Go.RowKit

theorem builder_keep {T e : TypeId} {B b : Nat} {bs : List Value} {w w' : World} (h : Lib.IsBuilder T e B b bs w) (k1 : Keep T w w') (k2 : Keep e w w') : Lib.IsBuilder T e B b bs w' := by
  have key : ∀ p, Lib.BuilderAt T e B b p bs w → Lib.BuilderAt T e B b p bs w' := fun p ⟨hB, v, hv, hown, hne⟩ => ⟨hB, v, k1 b _ _ hv, k2.owns hown, hne⟩
  exact h.elim (fun x => .inl (key _ x)) (fun x => .inr (key _ x))
theorem builder_typ {T e : TypeId} {B b : Nat} {bs : List Value} {w : World} (h : Lib.IsBuilder T e B b bs w) : ∃ ds, w.heap[b]? = some (.cells ds T (0, 0)) :=
  h.elim (fun ⟨_, _, hv, _⟩ => ⟨_, hv⟩) (fun ⟨_, _, hv, _⟩ => ⟨_, hv⟩)

set_option maxRecDepth 100000 in
set_option maxHeartbeats 4000000 in
theorem pnwhole_any {w W : World} (hwW : Below w.heap.size w W) {rs : List Rv} {a : Option Addr} {m ca : Nat} (hm : rs.length = m) (hml : m ≤ 1000) (ha : RecAt W a rs) (hf : Fits w rs) (f : List UInt8) (hfl : f.length ≤ 1000) :
    Calls Try.prog 14 #[.string ⟨f.toArray⟩, .slice a m ca] W (RetWh w f rs W) := by
  have hbl := hcB_length f (hcE_ok f (by omega))
  have HN := Lib.hid (pnnew_any w W f hfl)
  have HFT := Lib.hid hf
  have HTL := Lib.hid (fun k => td_few (w := w) (rs := rs.take k) (fun x hx => hf x (List.mem_of_mem_take hx)) (by rw [List.length_take]; omega))
  have HB0 : Hid (∀ x, whE (rvOk w) rs = x → x ≠ 0 → whB w f rs = []) := Lib.hid (fun x h hx => whB_bad h hx)
  have HB1 : Hid (whE (rvOk w) rs = 0 → whB w f rs = hcB f ++ tdL (rvB w) (mgAll rs)) := Lib.hid whB_good
  have HSt : Hid (∀ x, mayS (rvOk w) [] rs = x → x ≠ 0 → whE (rvOk w) rs = x) := Lib.hid (fun x h hx => wh_stop h hx)
  have HEn := Lib.hid (fun h => wh_end (ok := rvOk w) (rs := rs) h)
  have HNx := Lib.hid (fun (k : Nat) x hx h => mayS_next (ok := rvOk w) (l := rs) (x := x) (i := k) hx h)
  have HA := Lib.hid ha
  have HR := Lib.hid hm
  have HW := Lib.hid hwW
  delta RetWh
  generalize whB w f rs = S at *
  generalize whE (rvOk w) rs = E at *
  generalize hcB f = B at *
  clear ha hf hwW hm
  go_enter Try.func14, Try.ntmps14
  go_wp2_with fail
  refine HN.out.mono ?_
  rintro e W1 ⟨b, rfl, hWb, hp1, hb1⟩
  have HWb := Lib.hid hWb
  have hbb := Lib.fresh_isBuilder 57 5 W1
  have d2 : Below W1.heap.size W1 (W1.alloc (.cells #[.pointer none, .slice none 0 0] 57)) := (Below.refl _ W1).alloc (Nat.le_refl _) _
  have hsz1 := hb1.size
  obtain ⟨bb, hbbe⟩ : ∃ bb, W1.heap.size = bb := ⟨_, rfl⟩
  obtain ⟨W2, hW2⟩ : ∃ W2, W1.alloc (.cells #[.pointer none, .slice none 0 0] 57) = W2 := ⟨_, rfl⟩
  rw [hW2] at hbb d2
  have s2 := d2.size
  rw [hbbe] at hbb s2
  have H2 := Lib.hid (wstr _ _ [] B W2 hbb (by simp; omega) s2)
  have HP1 := Lib.hid (hp1.below d2)
  have HB1' := Lib.hid (hb1.trans (d2.mono hb1.size))
  have HSZ := Lib.hid (And.intro (hbbe ▸ hsz1) s2)
  have HTY := Lib.hid (builder_typ hbb)
  clear HN hWb hp1 hb1 hbb d2 s2 hsz1
  go_wp2_with fail
  try rw [hW2]
  try rw [hbbe]
  refine H2.out.mono ?_
  rintro e W3 ⟨⟨m3, rfl⟩, hbu3, d3, k3⟩
  rw [List.nil_append] at hbu3
  obtain ⟨ds, hds⟩ := HTY.out
  have HP3 := Lib.hid (HP1.out.keep (Keep.kept k3 hds (by decide) (by decide)) (Keep.kept k3 hds (by decide) (by decide)))
  have HB3 := Lib.hid (HB1'.out.trans (d3.mono HSZ.out.1))
  have HBU3 := Lib.hid hbu3
  have HSZ3 := Lib.hid (Nat.le_trans HSZ.out.2 d3.size)
  clear H2 HP1 HB1' HTY hds hbu3 d3 k3 hW2 hbbe
  go_wp2
  go_loopw [27] (fun i wr => ∃ (k : Nat), k ≤ m ∧ i = .int .i64 (k : Int) ∧ Hid (mayS (rvOk w) [] (rs.take k) = 0) ∧ Hid (IsPen w wr b (rs.take k)) ∧ Hid (Lib.IsBuilder 57 5 bb bb (Lib.byteCells (B ++ tdL (rvB w) (mgAll (rs.take k)))) wr) ∧ Hid (bb ≤ wr.heap.size) ∧ Below W.heap.size W wr) (fun i _ => m - (RowKit.intOf i).toNat)
  case atStart => exact ⟨0, Nat.zero_le _, rfl, Lib.hid rfl, HP3, Lib.hid (by simpa [mga_nil, tdL_nil] using HBU3.out), HSZ3, HB3.out⟩
  case round =>
    obtain ⟨k, hk, rfl, HK, HP, HBU, HSR, hbr⟩ := hrel
    have HBr := Lib.hid hbr
    have HBw := Lib.hid (HW.out.trans (hbr.mono HW.out.size))
    have hwb : w.heap.size ≤ b := Nat.le_trans HW.out.size HWb.out
    by_cases hlt : k < m
    · obtain ⟨b1, off1, x, rfl, hx, c0, c1, c2, c3⟩ := (HA.out.below hbr).get (i := k) (by rw [HR.out]; exact hlt)
      have hxm := List.mem_of_getElem? hx
      have hxf := HFT.out x hxm
      obtain ⟨n1, n2⟩ := HNx.out k x hx HK.out
      have htk : rs.take (k + 1) = rs.take k ++ [x] := by
        rw [List.take_add_one, hx]
        rfl
      have HTK := Lib.hid htk
      have hft : Fits w (rs.take k) := fun y hy => HFT.out y (List.mem_of_mem_take hy)
      obtain ⟨xk, xn, xr, xa, xl, xc⟩ := x
      dsimp only at c0 c1 c2 c3 n1 n2
      have hBA := (Below.refl wr.heap.size wr).alloc (Nat.le_refl _) (.cells #[.int .i64 xk, .int .i64 xn, .int .i64 xr, .slice xa xl xc] 34)
      have hXA := heap_alloc_new wr (.cells #[.int .i64 xk, .int .i64 xn, .int .i64 xr, .slice xa xl xc] 34)
      obtain ⟨wA, hwA⟩ : ∃ wA, wr.alloc (.cells #[.int .i64 xk, .int .i64 xn, .int .i64 xr, .slice xa xl xc] 34) = wA := ⟨_, rfl⟩
      rw [hwA] at hBA hXA
      obtain ⟨d0, d1, d2, d3⟩ := rec_reads hXA
      have HBA := Lib.hid (hbr.trans (hBA.mono hbr.size))
      have HADD : Hid (Calls Try.prog 9 #[.pointer (some ⟨b, 0, none⟩), .agg #[.int .i64 xk, .int .i64 xn, .int .i64 xr, .slice xa xl xc]] wA fun e W' => But wA.heap.size b wA W' ∧
          e = .returned (.tuple #[.string ⟨(if mayE (rvOk w) (rs.take k) ⟨xk, xn, xr, xa, xl, xc⟩ = 0 then pnNew (rvB w) (mgAll (rs.take k)) ⟨xk, xn, xr, xa, xl, xc⟩ else []).toArray⟩, .int .i64 (mayE (rvOk w) (rs.take k) ⟨xk, xn, xr, xa, xl, xc⟩)]) ∧
          IsPen w W' b (if mayE (rvOk w) (rs.take k) ⟨xk, xn, xr, xa, xl, xc⟩ = 0 then rs.take k ++ [⟨xk, xn, xr, xa, xl, xc⟩] else rs.take k)) :=
        Lib.hid (pnadd_any (HBw.out.trans (hBA.mono HBw.out.size)) hwb (HP.out.below hBA) (by rw [List.length_take]; omega) hft hxf.1 hxf.2)
      have HBUA := Lib.hid (IsBuilder.below HBU.out hBA)
      have HTYA := Lib.hid (HP.out.below hBA).typ
      have HSA := Lib.hid (Nat.le_trans HSR.out hBA.size)
      have HST := Lib.hid (fun h => td_step (rvB w) (rs.take k) ⟨xk, xn, xr, xa, xl, xc⟩ h)
      have HMZ := Lib.hid (fun h => may_yes (ok := rvOk w) (l := rs.take k) (x := ⟨xk, xn, xr, xa, xl, xc⟩) h)
      have N1 := Lib.hid n1
      have N2 := Lib.hid n2
      generalize mayE (rvOk w) (rs.take k) ⟨xk, xn, xr, xa, xl, xc⟩ = y at HADD N1 N2 HMZ
      generalize pnNew (rvB w) (mgAll (rs.take k)) ⟨xk, xn, xr, xa, xl, xc⟩ = t at HADD HST
      have u0 : (0 : Int) ≤ (k : Int) := by omega
      have u1 : (k : Int) < (m : Int) := by omega
      clear hx hxm hxf n1 n2 htk hft hBA hXA hbr hwb HBU
      by_cases hy : y = 0
      · subst hy
        rw [if_pos rfl, if_pos rfl] at HADD
        have hst := HST.out (HMZ.out rfl).1
        rw [← HTK.out] at hst
        have hlen := HTL.out (k + 1)
        have hu2 : (B ++ tdL (rvB w) (mgAll (rs.take k))) ++ t = B ++ tdL (rvB w) (mgAll (rs.take (k + 1))) := by rw [hst, List.append_assoc]
        have HU2 := Lib.hid hu2
        have hul : ((B ++ tdL (rvB w) (mgAll (rs.take k))) ++ t).length ≤ 400000 := by rw [hu2, List.length_append]; omega
        rw [List.length_append] at hul
        have HUL := Lib.hid hul
        generalize B ++ tdL (rvB w) (mgAll (rs.take k)) = u at *
        have HS := Lib.hid (N1.out rfl)
        clear N1 N2 HST HMZ hst hlen hu2 hul
        try rw [hwA]
        go_wp2_with fail
        try rw [hwA]
        refine HADD.out.mono ?_
        rintro e w2 ⟨hb2, rfl, hp2⟩
        rw [← HTK.out] at hp2
        have hB2 := HBA.out.trans (hb2.belowM HBA.out.size HWb.out)
        obtain ⟨cA, hcA⟩ := HTYA.out
        have hbu2 := builder_keep HBUA.out (Keep.but hb2 hcA (by decide)) (Keep.but hb2 hcA (by decide))
        have hs2 : bb ≤ w2.heap.size := Nat.le_trans HSA.out hb2.size
        have H5 := Lib.hid (wstr _ _ u t w2 hbu2 (by have := HUL.out; omega) hs2)
        obtain ⟨ds, hds⟩ := builder_typ hbu2
        have HDS := Lib.hid hds
        have HP2 := Lib.hid hp2
        have HB2 := Lib.hid hB2
        clear hb2 hp2 hB2 hcA hbu2 hs2 hds HADD d0 d1 d2 d3 c0 c1 c2 c3 hwA
        go_wp2_with fail
        refine H5.out.mono ?_
        rintro e w4 ⟨⟨m4, rfl⟩, hbu4, d4, k4⟩
        rw [HU2.out] at hbu4
        have HBU4 := Lib.hid hbu4
        have HP4 := Lib.hid (HP2.out.keep (Keep.kept k4 HDS.out (by decide) (by decide)) (Keep.kept k4 HDS.out (by decide) (by decide)))
        have hB4 := HB2.out.trans (d4.mono HSZ.out.1)
        have HS4 : Hid (bb ≤ w4.heap.size) := Lib.hid (Nat.le_of_lt (IsBuilder.lt HBU4.out))
        clear H5 hbu4 d4 k4
        go_wp2
        exact ⟨⟨k + 1, by omega, by go_num, HS, HP4, HBU4, HS4, hB4⟩, by simp [RowKit.intOf]; omega⟩
      · rw [if_neg hy, if_neg hy] at HADD
        have HE := Lib.hid (HSt.out y (N2.out hy) hy)
        have HS := Lib.hid (HB0.out y HE.out hy)
        have gy : (y == 0) = false := by simpa using hy
        have gy2 : (y != 0) = true := by simpa using hy
        clear N1 N2 HST HMZ hy HSt HB0 HB1 HEn HNx HBUA HTYA
        go_wp2_with fail
        try rw [hwA]
        refine HADD.out.mono ?_
        rintro e w2 ⟨hb2, rfl, hp2⟩
        have HB2 := Lib.hid (HBA.out.trans (hb2.belowM HBA.out.size HWb.out))
        clear hb2 hp2 HADD d0 d1 d2 d3 c0 c1 c2 c3 hwA
        go_wp2
        go_ret2
        exact ⟨by rw [HS.out, HE.out]; rfl, HB2.out⟩
    · obtain rfl : k = m := by omega
      have u1 : ¬ (k : Int) < (k : Int) := by omega
      have htk : rs.take k = rs := List.take_of_length_le (by rw [HR.out]; exact Nat.le_refl _)
      rw [htk] at HK HP HBU
      obtain ⟨e1, e2⟩ := HEn.out HK.out
      have HD := Lib.hid (pnended_any HP.out)
      clear htk HSt HNx HEn hbr hwb HTL
      by_cases h6 : lastK rs = 6
      · rw [decide_eq_true h6] at HD
        have HE := Lib.hid (e2 h6)
        have HS := Lib.hid (HB1.out HE.out)
        clear e1 e2 HB0 HB1 h6
        go_wp2_with fail
        refine HD.out.mono ?_
        rintro e w2 ⟨rfl, q, rfl⟩
        have hbq := below_drewS (Below.refl wr.heap.size wr) q
        have HB2 := Lib.hid (HBr.out.trans (hbq.mono HBr.out.size))
        have hbu2 := IsBuilder.below HBU.out hbq
        have hsz2 := Nat.le_trans HSR.out hbq.size
        obtain ⟨w3, hw3⟩ : ∃ w3, wr.drewN q = w3 := ⟨_, rfl⟩
        rw [hw3] at HB2 hbu2 hsz2 ⊢
        have HBU2 := Lib.hid hbu2
        have HSZ2 := Lib.hid hsz2
        clear hbq hbu2 hsz2 HD HBU hw3
        go_wp2_with (go_at_call 26; refine (Try.Builder_String_any _ _ _ _ HBU2.out HSZ2.out).mono ?_; rintro e w7 ⟨rfl, b7⟩)
        go_ret2
        exact ⟨by rw [HS.out, HE.out]; rfl, HB2.out.trans (b7.mono HSZ.out.1)⟩
      · rw [decide_eq_false h6] at HD
        have HE := Lib.hid (e1 h6)
        have HS := Lib.hid (HB0.out 19 HE.out (by decide))
        clear e1 e2 HB0 HB1 h6
        go_wp2_with fail
        refine HD.out.mono ?_
        rintro e w2 ⟨rfl, q, rfl⟩
        have HB2 := Lib.hid (HBr.out.trans ((below_drewS (Below.refl wr.heap.size wr) q).mono HBr.out.size))
        go_wp2
        go_ret2
        exact ⟨by rw [HS.out, HE.out]; rfl, HB2.out⟩
end Go.Proofs.Ytlfofdgeaigpbaa
