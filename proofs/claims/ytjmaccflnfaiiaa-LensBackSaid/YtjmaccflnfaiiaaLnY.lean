/-
  The law LensBack: walked.
-/
import Derived.Test.YtjmaccflnfaiiaaBn15
set_option linter.unusedSimpArgs false
set_option linter.unusedVariables false
namespace Go.Proofs.Ytjmaccflnfaiiaa
open Go.RowKit

set_option maxHeartbeats 1000000 in
theorem lensBack_long (s : ByteArray) (a : Option Addr) (m ca : Nat) (w : World) (hs : s.size ≤ 9223372036854775807) (hm : m ≤ 9223372036854775807) (h : 300 < s.size ∨ 20 < m) :
    Calls Try.prog 4 #[.string s, .slice a m ca] w fun e w' => e = .returned (.bool true) ∧ Below w.heap.size w w' := by
  by_cases h1 : 300 < s.size
  · have g : (300 : Int) < (s.size : Int) := by omega
    go_enter Try.func4, Try.ntmps4
    go_wp2_with fail
    refine (lnawake_any _).mono ?_
    rintro e w1 ⟨rfl, hb1⟩
    go_wp2
    go_ret
    exact ⟨rfl, hb1⟩
  · have g : ¬ (300 : Int) < (s.size : Int) := by omega
    have g2 : (20 : Int) < (m : Int) := by omega
    go_enter Try.func4, Try.ntmps4
    go_wp2_with fail
    refine (lnawake_any _).mono ?_
    rintro e w1 ⟨rfl, hb1⟩
    go_wp2
    go_ret
    exact ⟨rfl, hb1⟩

set_option maxRecDepth 100000 in
set_option maxHeartbeats 8000000 in
theorem lensBack_few (s : List UInt8) (a : Option Addr) (m ca : Nat) (rs : List Rv) (w : World) (hn : rs.length = m) (hmc : m ≤ ca) (ha : RecAt w a rs) (hrd : ∀ x ∈ rs, Rd w x) (hl : ∀ x ∈ rs, x.len ≤ 9223372036854775807) (hs : s.length ≤ 300) (hm : m ≤ 20) :
    Calls Try.prog 4 #[.string ⟨s.toArray⟩, .slice a m ca] w fun e w' => e = .returned (.bool true) ∧ Below w.heap.size w w' := by
  have S1 := Lib.hid (bsize s)
  have g1 : ¬ (300 : Int) < (s.length : Int) := by omega
  have g2 : ¬ (20 : Int) < (m : Int) := by omega
  have HA := Lib.hid (fun V => lnall_any s V (by omega))
  have HR := Lib.hid (fun V => lnall_ref s V (by omega))
  have HO1 := Lib.hid (fun x hx => lnout_few (t := s) x hx)
  have HO2 := Lib.hid (lnout_len (t := s))
  have HG : Hid ((lnAll s).e = 0 → LnC [] (lnOut (lnAll s)) ∧ (lnOut (lnAll s)).flatMap rnB = s ∧ (lnLast (lnOut (lnAll s))).k = 6) := Lib.hid (fun h => by
    have := lnall_good h
    unfold lnOut
    rw [if_pos h]
    exact this)
  unfold RetLa at HA HR
  generalize lnOut (lnAll s) = L at HA HR HO1 HO2 HG
  obtain ⟨y, hy⟩ : ∃ y, (lnAll s).e = y := ⟨_, rfl⟩
  rw [hy] at HA HR HG
  have HRa := Lib.hid ha
  have HN := Lib.hid hn
  have HRd := Lib.hid hrd
  have HLn := Lib.hid hl
  have HS := Lib.hid hs
  have HWb : Hid (Fits w rs → whE (rvOk w) rs = 0 → ∃ L : List Rn, LnC [] L ∧ (lnLast L).k = 6 ∧ L.length ≤ 20 ∧ (∀ y ∈ L, y.ids.length ≤ 300) ∧ (L.flatMap rnB).length ≤ 60000 ∧ whB w [] rs = [99, 101, 114, 116, 1, 1, 0] ++ L.flatMap rnB) := Lib.hid (fun hf h => lnwhole_back hf (by omega) h)
  have r1 : (y == y) = true := by simp
  have r2 : (y != y) = false := by simp
  clear hy ha hn hrd hl hs
  go_enter Try.func4, Try.ntmps4
  go_wp2_with fail
  refine (HA.out _).mono ?_
  rintro e w1 ⟨a1, m1, c1, rfl, hat1, hb1⟩
  have HA1 := Lib.hid hat1
  have HB1 := Lib.hid hb1
  clear HA hat1 hb1
  go_wp2_with fail
  refine (HR.out _).mono ?_
  rintro e w2 ⟨a2, m2, c2, rfl, hat2, hb2⟩
  have HA12 := Lib.hid (HA1.out.below hb2)
  have hm1 : m1 ≤ 300 := by have h1 := HA1.out.1; have h2 := HO2.out; have h3 := HS.out; omega
  have HSm := Lib.hid (lnsames_any HA12.out hat2 (by omega) (fun y hy => by have h2 := HO1.out y hy; have h3 := HS.out; omega))
  have HB2 := Lib.hid (HB1.out.trans (hb2.mono HB1.out.size))
  clear HR hat2 hb2 HA1 HB1
  go_wp2_with fail
  refine HSm.out.mono ?_
  rintro e w3 ⟨rfl, hb3⟩
  have HA3 := Lib.hid (HA12.out.below hb3)
  have HB3 := Lib.hid (HB2.out.trans (hb3.mono HB2.out.size))
  clear hb3 HSm HA12 HB2
  go_wp2
  go_loopw [9] (fun i wr => ∃ k : Nat, k ≤ m ∧ i = .int .i64 (k : Int) ∧ Hid (∀ j x, j < k → rs[j]? = some x → x.len ≤ 30) ∧ Below w3.heap.size w3 wr) (fun i _ => m - (RowKit.intOf i).toNat)
  case atStart => exact ⟨0, Nat.zero_le _, rfl, Lib.hid (fun j x h => by omega), Below.refl _ _⟩
  case round =>
    obtain ⟨k, hk, rfl, HK, hbr⟩ := hrel
    have HBr := Lib.hid (HB3.out.trans (hbr.mono HB3.out.size))
    have HAr := Lib.hid (HA3.out.below hbr)
    have HBw := Lib.hid hbr
    clear hbr
    by_cases hlt : k < m
    · obtain ⟨b1, off1, x, rfl, hx, c0, c1', c2', c3⟩ := (HRa.out.below HBr.out).get (i := k) (by rw [HN.out]; exact hlt)
      have hxl := HLn.out x (List.mem_of_getElem? hx)
      have HX := Lib.hid hx
      obtain ⟨xk, xn, xr, xa, xl, xc⟩ := x
      dsimp only at c0 c1' c2' c3 hxl
      have u0 : (0 : Int) ≤ (k : Int) := by omega
      have u1 : (k : Int) < (m : Int) := by omega
      clear hx c0 c1' c2'
      by_cases h30 : 30 < xl
      · have g3 : (30 : Int) < (xl : Int) := by omega
        go_wp2_with fail
        refine (lnawake_any _).mono ?_
        rintro e w4 ⟨rfl, hb4⟩
        have HB4 := Lib.hid (HBr.out.trans (hb4.mono HBr.out.size))
        clear hb4
        go_wp2
        go_ret
        exact ⟨rfl, HB4.out⟩
      · have g3 : ¬ (30 : Int) < (xl : Int) := by omega
        have HK2 : Hid (∀ j x, j < k + 1 → rs[j]? = some x → x.len ≤ 30) := Lib.hid (fun j x hj hjx => by
          by_cases e : j = k
          · subst e
            rw [HX.out] at hjx
            injection hjx with hjx
            subst hjx
            show xl ≤ 30
            omega
          · exact HK.out j x (by omega) hjx)
        go_wp2
        exact ⟨⟨k + 1, by omega, by go_num, HK2, HBw.out⟩, by simp [RowKit.intOf]; omega⟩
    · obtain rfl : k = m := by omega
      have u1 : ¬ (k : Int) < (k : Int) := by omega
      have hft : Fits w rs := fun x hx => by
        obtain ⟨j, hj, rfl⟩ := List.getElem_of_mem hx
        have := HK.out j _ (by have := HN.out; omega) (List.getElem?_eq_getElem hj)
        exact ⟨HRd.out _ hx, by omega⟩
      have HWl := Lib.hid (fun (V : World) (hV : Below w.heap.size w V) => rpnwhole_any (w := w) (W := V) hV HN.out (by omega) hmc (HRa.out.below hV) hft [] (by decide))
      unfold RetWh at HWl
      have HWz := Lib.hid (HWb.out hft)
      have HWL0 : Hid (whE (rvOk w) rs ≠ 0 → whB w [] rs = []) := Lib.hid (fun h => whB_bad rfl h)
      generalize whB w [] rs = T at HWl HWz HWL0
      generalize whE (rvOk w) rs = z at HWl HWz HWL0
      have HFt := Lib.hid hft
      clear hft HWb HLn HK HBw HA3
      by_cases hy : y = 0
      · subst hy
        obtain ⟨k1, k2, k3⟩ := HG.out rfl
        have hw5 := lnwhole_ref HAr.out (by omega) (fun y hy => by have h2 := HO1.out y hy; have h3 := HS.out; omega) k1 k3
        rw [k2] at hw5
        obtain ⟨P, hP⟩ : ∃ P, ([99, 101, 114, 116, 1, 1, 0] : List UInt8) ++ s = P := ⟨_, rfl⟩
        have hadd := pn_app [99, 101, 114, 116, 1, 1, 0] s
        rw [hP] at hw5 hadd
        have hadd' : (⟨#[99, 101, 114, 116, 1, 1, 0]⟩ : ByteArray) ++ (⟨s.toArray⟩ : ByteArray) = ⟨P.toArray⟩ := hadd
        have HW5 := Lib.hid hw5
        have zl : ¬ 9223372036854775807 < 7 + s.length := by omega
        clear hadd k1 k2 k3 hw5 hP HG
        go_wp2_with fail
        refine HW5.out.mono ?_
        rintro e w5 ⟨rfl, hb5⟩
        have HB5 := Lib.hid (HBr.out.trans (hb5.mono HBr.out.size))
        clear hb5 HW5
        have HWL := Lib.hid (HWl.out w5 HB5.out)
        clear HWl
        go_wp2_with fail
        refine HWL.out.mono ?_
        rintro e w6 ⟨rfl, hb6⟩
        have HB6 := Lib.hid (HB5.out.trans (hb6.mono HB5.out.size))
        clear hb6 HWL
        by_cases hz : z = 0
        rotate_left
        · have gz : (z == 0) = false := by simpa using hz
          have gz2 : (z != 0) = true := by simpa using hz
          go_wp2_with fail
          refine (lnawake_any _).mono ?_
          rintro e w7 ⟨rfl, hb7⟩
          have HB7 := Lib.hid (HB6.out.trans (hb7.mono HB6.out.size))
          clear hb7
          go_wp2
          go_ret
          exact ⟨rfl, HB7.out⟩
        · subst hz
          obtain ⟨K, k1, k2, k3, k4, k5, rfl⟩ := HWz.out rfl
          have hlb := lnall_back k1 k2
          obtain ⟨D, hD⟩ : ∃ D, K.flatMap rnB = D := ⟨_, rfl⟩
          have HD := Lib.hid hD
          have HCK := Lib.hid (And.intro k1 (And.intro k2 (And.intro k3 k4)))
          rw [hD] at hlb k5 ⊢
          have HAll := Lib.hid (fun V => lnall_any D V (by omega))
          unfold RetLa at HAll
          rw [show (lnAll D).e = 0 by rw [hlb], show lnOut (lnAll D) = K by rw [hlb]; rfl] at HAll
          obtain ⟨U, hU⟩ : ∃ U, ([99, 101, 114, 116, 1, 1, 0] : List UInt8) ++ D = U := ⟨_, rfl⟩
          have hUl : U.length = D.length + 7 := by rw [← hU]; simp
          have x2 := ext_rest U 7
          rw [show U.drop 7 = D by rw [← hU]; rfl] at x2
          have HZ := Lib.hid (bsize U)
          have q1 : (7 : Int) ≤ (U.length : Int) := by omega
          have HUe := Lib.hid hU
          rw [hU]
          clear k1 k2 k3 k4 hD hlb hUl hU
          go_wp2_with fail
          refine (HAll.out _).mono ?_
          rintro e w7 ⟨a7, m7, c7, rfl, hat7, hb7⟩
          have HB7 := Lib.hid (HB6.out.trans (hb7.mono HB6.out.size))
          have hw7 := lnwhole_ref hat7 (by have h1 := hat7.1; have h2 := HCK.out.2.2.1; omega) HCK.out.2.2.2 HCK.out.1 HCK.out.2.1
          rw [HD.out, HUe.out] at hw7
          have HW7 := Lib.hid hw7
          clear hat7 hb7 hw7 HAll
          go_wp2_with fail
          refine HW7.out.mono ?_
          rintro e w8 ⟨rfl, hb8⟩
          have HB8 := Lib.hid (HB7.out.trans (hb8.mono HB7.out.size))
          clear hb8 HW7
          go_wp2_with fail
          refine (lnawake_any _).mono ?_
          rintro e w9 ⟨rfl, hb9⟩
          have HB9 := Lib.hid (HB8.out.trans (hb9.mono HB8.out.size))
          clear hb9
          go_wp2
          go_ret
          exact ⟨rfl, HB9.out⟩
      · have gy : (y == 0) = false := by simpa using hy
        clear hy HG
        have HWL := Lib.hid (HWl.out wr HBr.out)
        clear HWl
        go_wp2_with fail
        refine HWL.out.mono ?_
        rintro e w6 ⟨rfl, hb6⟩
        have HB6 := Lib.hid (HBr.out.trans (hb6.mono HBr.out.size))
        clear hb6 HWL
        by_cases hz : z = 0
        rotate_left
        · have gz : (z == 0) = false := by simpa using hz
          have gz2 : (z != 0) = true := by simpa using hz
          go_wp2_with fail
          refine (lnawake_any _).mono ?_
          rintro e w7 ⟨rfl, hb7⟩
          have HB7 := Lib.hid (HB6.out.trans (hb7.mono HB6.out.size))
          clear hb7
          go_wp2
          go_ret
          exact ⟨rfl, HB7.out⟩
        · subst hz
          obtain ⟨K, k1, k2, k3, k4, k5, rfl⟩ := HWz.out rfl
          have hlb := lnall_back k1 k2
          obtain ⟨D, hD⟩ : ∃ D, K.flatMap rnB = D := ⟨_, rfl⟩
          have HD := Lib.hid hD
          have HCK := Lib.hid (And.intro k1 (And.intro k2 (And.intro k3 k4)))
          rw [hD] at hlb k5 ⊢
          have HAll := Lib.hid (fun V => lnall_any D V (by omega))
          unfold RetLa at HAll
          rw [show (lnAll D).e = 0 by rw [hlb], show lnOut (lnAll D) = K by rw [hlb]; rfl] at HAll
          obtain ⟨U, hU⟩ : ∃ U, ([99, 101, 114, 116, 1, 1, 0] : List UInt8) ++ D = U := ⟨_, rfl⟩
          have hUl : U.length = D.length + 7 := by rw [← hU]; simp
          have x2 := ext_rest U 7
          rw [show U.drop 7 = D by rw [← hU]; rfl] at x2
          have HZ := Lib.hid (bsize U)
          have q1 : (7 : Int) ≤ (U.length : Int) := by omega
          have HUe := Lib.hid hU
          rw [hU]
          clear k1 k2 k3 k4 hD hlb hUl hU
          go_wp2_with fail
          refine (HAll.out _).mono ?_
          rintro e w7 ⟨a7, m7, c7, rfl, hat7, hb7⟩
          have HB7 := Lib.hid (HB6.out.trans (hb7.mono HB6.out.size))
          have hw7 := lnwhole_ref hat7 (by have h1 := hat7.1; have h2 := HCK.out.2.2.1; omega) HCK.out.2.2.2 HCK.out.1 HCK.out.2.1
          rw [HD.out, HUe.out] at hw7
          have HW7 := Lib.hid hw7
          clear hat7 hb7 hw7 HAll
          go_wp2_with fail
          refine HW7.out.mono ?_
          rintro e w8 ⟨rfl, hb8⟩
          have HB8 := Lib.hid (HB7.out.trans (hb8.mono HB7.out.size))
          clear hb8 HW7
          go_wp2_with fail
          refine (lnawake_any _).mono ?_
          rintro e w9 ⟨rfl, hb9⟩
          have HB9 := Lib.hid (HB8.out.trans (hb9.mono HB8.out.size))
          clear hb9
          go_wp2
          go_ret
          exact ⟨rfl, HB9.out⟩

theorem lensBack_walk (s : ByteArray) (a : Option Addr) (m ca : Nat) (rs : List Rv) (w : World) (hs : s.size ≤ 9223372036854775807) (hn : rs.length = m) (hmc : m ≤ ca) (hm : m ≤ 9223372036854775807) (ha : RecAt w a rs) (hrd : ∀ x ∈ rs, Rd w x) :
    Calls Try.prog 4 #[.string s, .slice a m ca] w fun e w' => e = .returned (.bool true) ∧ Below w.heap.size w w' := by
  by_cases h : 300 < s.size ∨ 20 < m
  · exact lensBack_long s a m ca w hs hm h
  · have e1 := Lib.size_eq s
    have b1 : s = ⟨s.data.toList.toArray⟩ := by simp
    rw [b1]
    refine lensBack_few s.data.toList a m ca rs w hn hmc ha hrd (fun x hx => ?_) (by omega) (by omega)
    obtain ⟨_, zs, hz, h | ⟨b, off, _, _, h2, _⟩⟩ := hrd x hx
    · omega
    · unfold maxLen at h2; omega
end Go.Proofs.Ytjmaccflnfaiiaa
