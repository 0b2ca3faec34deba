/-
  (*Pen).Add: walked.
-/
import Derived.Test.YtlfofdgeaigpbaaBn11
import Derived.Deep.RegionWith
import Derived.Deep.CutRange
set_option linter.unusedSimpArgs false
set_option linter.unusedVariables false
namespace Go.Proofs.Ytlfofdgeaigpbaa
open Go.RowKit

set_option maxHeartbeats 1000000 in
theorem pnadd_nil (k n r : Int) (a : Option Addr) (len cap : Nat) (w : World) : Calls Try.prog 9 #[.pointer none, .agg #[.int .i64 k, .int .i64 n, .int .i64 r, .slice a len cap]] w fun e w' => e = .returned (.tuple #[.string ⟨#[]⟩, .int .i64 1]) ∧ Below w.heap.size w w' := by
  have hX := heap_alloc_new w (.cells #[.int .i64 k, .int .i64 n, .int .i64 r, .slice a len cap] 34)
  have hB := (Below.refl w.heap.size w).alloc (Nat.le_refl _) (.cells #[.int .i64 k, .int .i64 n, .int .i64 r, .slice a len cap] 34)
  obtain ⟨W1, hW1⟩ : ∃ W1, w.alloc (.cells #[.int .i64 k, .int .i64 n, .int .i64 r, .slice a len cap] 34) = W1 := ⟨_, rfl⟩
  rw [hW1] at hX hB
  obtain ⟨c0, c1, c2, c3⟩ := rec_reads hX
  have HF := Lib.hid (pnfault_nil k n r a len cap W1)
  have HB := Lib.hid hB
  clear hX hB
  go_enter Try.func9, Try.ntmps9
  go_wp2_with fail
  try rw [hW1]
  refine HF.out.mono ?_
  rintro e W2 ⟨rfl, hb⟩
  have HB2 := Lib.hid (HB.out.trans (hb.mono HB.out.size))
  clear hb HF hW1 c0 c1 c2 c3
  go_wp2
  go_ret2
  exact ⟨rfl, HB2.out⟩

/-- Add's answer. -/
def RetPa (w : World) (b : Nat) (came : List Rv) (x : Rv) (W : World) (e : Ending) (W' : World) : Prop := But W.heap.size b W W' ∧
  e = .returned (.tuple #[.string ⟨(if mayE (rvOk w) came x = 0 then pnNew (rvB w) (mgAll came) x else []).toArray⟩, .int .i64 (mayE (rvOk w) came x)]) ∧
  IsPen w W' b (if mayE (rvOk w) came x = 0 then came ++ [x] else came)
theorem RetPa.bad {w : World} {b : Nat} {came : List Rv} {x : Rv} {W W' : World} {e : Ending} {E : Int} (h : mayE (rvOk w) came x = E) (hE : E ≠ 0) (he : e = .returned (.tuple #[.string ⟨#[]⟩, .int .i64 E])) (hp : IsPen w W b came) (hb : Below W.heap.size W W') : RetPa w b came x W e W' := by
  unfold RetPa
  rw [h, if_neg hE, if_neg hE]
  exact ⟨But.of hb, he, hp.below hb⟩
theorem RetPa.good {w : World} {b : Nat} {came : List Rv} {x : Rv} {W W' : World} {e : Ending} {t : List UInt8} (h : mayE (rvOk w) came x = 0) (ht : pnNew (rvB w) (mgAll came) x = t) (he : e = .returned (.tuple #[.string ⟨t.toArray⟩, .int .i64 0])) (hp : IsPen w W' b (came ++ [x])) (hb : But W.heap.size b W W') : RetPa w b came x W e W' := by
  unfold RetPa
  rw [h, if_pos rfl, if_pos rfl, ht]
  exact ⟨hb, he, hp⟩

theorem IsPen.of {w W : World} {b : Nat} {cs : Array Value} {came : List Rv} {x z : Rv} {s : Bool} (hm : IsMo W b 0 44 cs z s) (h5 : cs[5]? = some (.int .i64 x.k)) (hh : PnHeld w W (came ++ [x]) z s) : IsPen w W b (came ++ [x]) :=
  ⟨cs, z, s, hm, by rw [lastK_snoc]; exact h5, hh⟩
theorem Fits.snoc {w : World} {came : List Rv} {x : Rv} (h : Fits w came) (hr : Rd w x) (hl : x.len ≤ 30) : Fits w (came ++ [x]) := fun y hy => by
  rcases List.mem_append.1 hy with hy | hy
  · exact h y hy
  · rw [List.mem_singleton] at hy
    subst hy
    exact ⟨hr, hl⟩
theorem mga_last (came : List Rv) {x : Rv} (h : x.k = 6) : x ∈ mgAll (came ++ [x]) := by
  rw [mga_snoc]
  rcases mgs_cases (mgAll came) x with ⟨_, e⟩ | ⟨o, y, _, ht, e⟩ | ⟨o, y, _, _, e⟩ <;> rw [e]
  · simp
  · have t := mg2_yes ht
    omega
  · simp

set_option maxRecDepth 100000 in
set_option maxHeartbeats 8000000 in
theorem pnadd_any {w W : World} (hwW : Below w.heap.size w W) {b : Nat} {came : List Rv} (hwb : w.heap.size ≤ b) (h : IsPen w W b came) (hc : came.length ≤ 1000) (hf : Fits w came) {k n r : Int} {a : Option Addr} {len cap : Nat} (hrd : Rd w ⟨k, n, r, a, len, cap⟩) (hl : len ≤ 30) :
    Calls Try.prog 9 #[.pointer (some ⟨b, 0, none⟩), .agg #[.int .i64 k, .int .i64 n, .int .i64 r, .slice a len cap]] W (RetPa w b came ⟨k, n, r, a, len, cap⟩ W) := by
  have hX := heap_alloc_new W (.cells #[.int .i64 k, .int .i64 n, .int .i64 r, .slice a len cap] 34)
  have hB := (Below.refl W.heap.size W).alloc (Nat.le_refl _) (.cells #[.int .i64 k, .int .i64 n, .int .i64 r, .slice a len cap] 34)
  obtain ⟨W1, hW1⟩ : ∃ W1, W.alloc (.cells #[.int .i64 k, .int .i64 n, .int .i64 r, .slice a len cap] 34) = W1 := ⟨_, rfl⟩
  rw [hW1] at hX hB
  have hblt := h.lt
  have h1 := h.below hB
  have HF := Lib.hid (pnfault_any (hwW.trans (hB.mono hwW.size)) h1 hrd (by omega))
  have HP := Lib.hid h
  obtain ⟨cs, y, s, m1, m2, m3⟩ := h1
  obtain ⟨c0, c1, c2, c3⟩ := rec_reads hX
  have HX := Lib.hid hX
  have HB := Lib.hid hB
  have HW := Lib.hid (And.intro hwW (And.intro hwb (And.intro hf (And.intro hrd hblt))))
  have HMo := Lib.hid (And.intro m1 (And.intro m2 m3))
  obtain ⟨E, hE⟩ : ∃ E, mayE (rvOk w) came ⟨k, n, r, a, len, cap⟩ = E := ⟨_, rfl⟩
  rw [hE] at HF
  by_cases hE0 : E = 0
  rotate_left
  · have HR := Lib.hid (fun (e : Ending) (W' : World) => RetPa.bad (b := b) (W := W) (e := e) (W' := W') hE hE0)
    have g0 : (E == 0) = false := by simpa using hE0
    have g1 : (E != 0) = true := by simpa using hE0
    clear hX hB h m1 m2 m3 hwW hwb hf hrd hblt hE hE0 HX HMo
    go_enter Try.func9, Try.ntmps9
    go_wp2_with fail
    try rw [hW1]
    refine HF.out.mono ?_
    rintro e W2 ⟨rfl, hb⟩
    have HB2 := Lib.hid (HB.out.trans (hb.mono HB.out.size))
    clear hb HF hW1 c0 c1 c2 c3
    go_wp2
    go_ret2
    exact HR.out _ _ rfl HP.out HB2.out
  · subst hE0
    have HE := Lib.hid hE
    clear hX hB h m1 m2 m3 hwW hwb hf hrd hblt hE HP
    go_enter Try.func9, Try.ntmps9
    go_wp2_with fail
    try rw [hW1]
    refine HF.out.mono ?_
    rintro e W2 ⟨rfl, hb⟩
    have HB2 := Lib.hid (HB.out.trans (hb.mono HB.out.size))
    have hX2 := (hb.block _ (heap_lt HX.out)).trans HX.out
    obtain ⟨m1, m2, m3⟩ := HMo.out
    have m1' := m1.below hb
    have m3' := m3.keep (Keep.below hb)
    have f5' : W2.frozen? ⟨b, 5, none⟩ = false := Lib.frozen_of_heap m1'.1 5
    have c0' := cells_below c0 hb
    -- the kind is written
    have hI3 := (Into.refl b W2).set 5 (.int .i64 k)
    have hh3 := put_heap m1'.1 (i := 5) (.int .i64 k)
    have hX3 := (put_other (w := W2) (b := b) (i := 5) (k := W.heap.size) (by have := HW.out.2.2.2.2; omega) (.int .i64 k)).trans hX2
    have c5' : W2.cell? ⟨b, 5, none⟩ = some (.int .i64 (lastK came)) := by rw [Lib.cell_of_heap m1'.1]; exact m2
    obtain ⟨W3, hW3⟩ : ∃ W3, W2.setCell ⟨b, 5, none⟩ (.int .i64 k) = W3 := ⟨_, rfl⟩
    rw [hW3] at hI3 hh3 hX3
    have hm3 : IsMo W3 b 0 44 (cs.setIfInBounds 5 (.int .i64 k)) y s := ⟨hh3, by simpa using m1'.2.1, by simpa using m1'.2.2.1, by simpa using m1'.2.2.2.1, by simpa using m1'.2.2.2.2.1, by simpa using m1'.2.2.2.2.2⟩
    have hcs5 : (cs.setIfInBounds 5 (.int .i64 k))[5]? = some (.int .i64 k) := by
      have h5 : 5 < cs.size := by
        rcases Nat.lt_or_ge 5 cs.size with h | h
        · exact h
        · rw [Array.getElem?_eq_none h] at m2; cases m2
      simp [h5]
    have HOk := Lib.hid m3.ok
    have HD3 := Lib.hid (m3'.keep (Keep.into hI3 m1'.1 (by decide)))
    have HM3 := Lib.hid hm3
    have HX3 := Lib.hid hX3
    have HCS := Lib.hid hcs5
    have hBU : But W.heap.size b W W3 := (But.of HB2.out).trans (But.into hI3)
    have HBU := Lib.hid hBU
    obtain ⟨d0, d1, d2, d3⟩ := rec_reads hX3
    have HBw : Hid (Below w.heap.size w W3) := Lib.hid (HW.out.1.trans (hBU.belowM HW.out.1.size HW.out.2.1))
    have HT := Lib.hid (fun (V : World) (hV : Below W3.heap.size W3 V) => pn_madd (w := w) (W := V) (HBw.out.trans (hV.mono HBw.out.size)) HW.out.2.1 (T := 44) (by decide) (HM3.out.below hV) (HD3.out.keep (Keep.below hV)) HW.out.2.2.2.1 (by omega) HE.out)
    have HN3 : Hid (W.heap.size < W3.heap.size) := Lib.hid (heap_lt HX3.out)
    clear hb HF hX2 m1 m2 m3 m1' m3' hI3 hh3 hX3 hm3 hcs5 hBU c0 c1 c2 c3 hW1 HB HX HMo HB2
    go_upto_region 5 with fail
    try rw [hW3]
    clear c0' c5' f5' hW3
    go_cut [7] from 8 (fun u wx => ∃ (t : List UInt8) (D z : Rv) (q s' : Bool) (cs' : Array Value), u = .string ⟨t.toArray⟩ ∧ t.length ≤ 300 ∧ Hid (pnNew (rvB w) (mgAll came) ⟨k, n, r, a, len, cap⟩ = t ++ (if k = 6 then rvB w ⟨k, n, r, a, len, cap⟩ else [])) ∧ Hid (MoAt w W wx b 44 (cs.setIfInBounds 5 (.int .i64 k)) cs' came ⟨k, n, r, a, len, cap⟩ D z q s'))
    case first =>
      go_region_with (first
        | (go_at_call 21
           refine (HT.out _ (by first | exact (Below.refl _ _).drew | exact Below.refl _ _)).mono ?_
           rintro E w2 hRet
           obtain ⟨D, z, q, s', cs', rfl, hb2, hMo⟩ := MoAt.of (W := W) (by first | exact HBU.out.trans (But.of ((Below.refl W3.heap.size W3).drew.mono (Nat.le_of_lt HN3.out))) | exact HBU.out) hRet
           have HMO := Lib.hid hMo
           clear hb2 hMo hRet)
        | (go_at_call 20
           refine (pnbytes_mo HW.out.2.2.1 HOk.out HMO.out).mono ?_
           rintro E w4 ⟨t, rfl, ht1, ht2, hb4⟩
           have HMX := Lib.hid (HMO.out.below hb4)
           have HT2 := Lib.hid ht2
           clear hb4 ht2))
      all_goals
        go_wp2_with fail
        go_meet
        exact ⟨t, D, z, q, s', cs', rfl, ht1, HT2, HMX⟩
    case rest =>
      obtain ⟨t, D, z, q, s', cs', rfl, htl, HU, HMx⟩ := hcut
      clear d0 d1 d2 d3 HT HD3 HM3 HX3 HBU HBw HN3 HOk
      have hpx := IsPen.of HMx.out.ism ((HMx.out.rest.2 5 (.inr (by omega))).trans HCS.out) HMx.out.held
      have hed := pnended_any hpx
      rw [lastK_snoc] at hed
      dsimp only at hed
      have HPX := Lib.hid hpx
      have HED : Hid (Calls Try.prog 12 #[.pointer (some ⟨b, 0, none⟩)] wc fun e W' => e = .returned (.bool (decide (k = 6))) ∧ Below wc.heap.size wc W') := Lib.hid (hed.mono fun e W' h => by
        obtain ⟨h1, q, rfl⟩ := h
        exact ⟨h1, below_drewS (Below.refl wc.heap.size wc) q⟩)
      clear hpx hed
      by_cases hk6 : k = 6
      · subst hk6
        rw [decide_eq_true rfl] at HED
        rw [if_pos rfl] at HU
        clear HPX
        go_wp2_with fail
        refine HED.out.mono ?_
        rintro e w7 ⟨rfl, hb7⟩
        have HMy := Lib.hid (HMx.out.below hb7)
        clear hb7 HED HMx
        obtain ⟨hs', hzc⟩ := HMy.out.fin rfl
        subst hs'
        have HZC := Lib.hid hzc
        obtain ⟨zk, zn, zr, za, zl, zc⟩ := z
        have HFL := Lib.hid (mgflush_at zk zn zr za zl zc true HMy.out.ism)
        clear hzc
        go_wp2_with fail
        refine HFL.out.mono ?_
        rintro e w8 ⟨rfl, ⟨cs8, hm8, hr8⟩, hb8⟩
        have hi8 : Keep 3 w7 w8 := Keep.but hb8 HMy.out.ism.1 (by decide)
        have hfx : Fits w (came ++ [(⟨6, n, r, a, len, cap⟩ : Rv)]) := HW.out.2.2.1.snoc HW.out.2.2.2.1 hl
        have HPT := Lib.hid (pnbytes_any (w := w) (W := w8) hfx HMy.out.held.ok (mga_last came rfl) (HZC.out.keep hi8))
        have HM9 := Lib.hid hm8
        have HCS9 := Lib.hid ((hr8.2 5 (.inr (by omega))).trans ((HMy.out.rest.2 5 (.inr (by omega))).trans HCS.out))
        have HBU9 := Lib.hid (HMy.out.but.trans (hb8.less HMy.out.but.size))
        have hbxl := rvB_len HW.out.2.2.2.1 hl
        have hadd := pn_app t (rvB w ⟨6, n, r, a, len, cap⟩)
        have S2 := Lib.hid (bsize (rvB w ⟨6, n, r, a, len, cap⟩))
        have S1 := Lib.hid (bsize t)
        generalize rvB w ⟨6, n, r, a, len, cap⟩ = bx at *
        have z9 : ¬ 9223372036854775807 < t.length + bx.length := by omega
        clear hb8 hm8 hr8 hi8 hfx HFL hbxl htl
        go_wp2_with fail
        refine HPT.out.mono ?_
        rintro e w10 ⟨rfl, hb10⟩
        have HP10 : Hid (IsPen w w10 b (came ++ [⟨6, n, r, a, len, cap⟩])) := Lib.hid (IsPen.of (HM9.out.below hb10) HCS9.out (PnHeld.fin (W' := w10) HMy.out.held rfl))
        have HB10 := Lib.hid (HBU9.out.trans (But.of (hb10.mono HBU9.out.size)))
        clear hb10 HPT
        go_wp2
        go_ret2
        exact RetPa.good HE.out HU.out rfl HP10.out HB10.out
      · rw [decide_eq_false hk6] at HED
        rw [if_neg hk6, List.append_nil] at HU
        clear hk6
        go_wp2_with fail
        refine HED.out.mono ?_
        rintro e w7 ⟨rfl, hb7⟩
        have HP7 := Lib.hid (HPX.out.below hb7)
        have HB7 := Lib.hid (HMx.out.below hb7).but
        clear hb7 HED HMx HPX
        go_wp2
        go_ret2
        exact RetPa.good HE.out HU.out rfl HP7.out HB7.out
end Go.Proofs.Ytlfofdgeaigpbaa
