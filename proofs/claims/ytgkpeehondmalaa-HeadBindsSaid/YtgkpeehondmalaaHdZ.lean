/-
  The law HeadBinds: walked.
-/
import Derived.Test.YtgkpeehondmalaaHdA
import Derived.Test.YtgkpeehondmalaaHdT
set_option linter.unusedSimpArgs false
set_option linter.unusedVariables false
namespace Go.Proofs.Ytgkpeehondmalaa
open Go.RowKit

theorem headBinds_long (f o m : ByteArray) (w : World) (h : 300 < f.size ∨ 300 < o.size ∨ 300 < m.size) (hf : f.size ≤ 9223372036854775807) (ho : o.size ≤ 9223372036854775807) (hm : m.size ≤ 9223372036854775807) :
    Calls Try.prog 4 #[.string f, .string o, .string m] w fun e w' => e = .returned (.bool true) ∧ Below w.heap.size w w' := by
  by_cases h1 : 300 < f.size
  · have g : (300 : Int) < (f.size : Int) := by omega
    clear h
    go_enter Try.func4, Try.ntmps4
    go_wp2_with fail
    refine (hdawake_any _).mono ?_
    rintro e w1 ⟨rfl, hb1⟩
    go_wp2
    go_ret
    exact ⟨rfl, hb1⟩
  · have g : ¬ (300 : Int) < (f.size : Int) := by omega
    by_cases h2 : 300 < o.size
    · have g2 : (300 : Int) < (o.size : Int) := by omega
      clear h
      go_enter Try.func4, Try.ntmps4
      go_wp2_with fail
      refine (hdawake_any _).mono ?_
      rintro e w1 ⟨rfl, hb1⟩
      go_wp2
      go_ret
      exact ⟨rfl, hb1⟩
    · have g2 : ¬ (300 : Int) < (o.size : Int) := by omega
      have g3 : (300 : Int) < (m.size : Int) := by omega
      clear h
      go_enter Try.func4, Try.ntmps4
      go_wp2_with fail
      refine (hdawake_any _).mono ?_
      rintro e w1 ⟨rfl, hb1⟩
      go_wp2
      go_ret
      exact ⟨rfl, hb1⟩

theorem hd_app (s t : List UInt8) : (⟨s.toArray⟩ : ByteArray) ++ (⟨t.toArray⟩ : ByteArray) = ⟨(s ++ t).toArray⟩ := by
  apply ByteArray.ext
  simp

/-- Put of a file of few bytes. -/
theorem hd_good (l : List UInt8) (hl : l.length ≤ 300) (W : World) : Calls Try.prog 6 #[.string ⟨l.toArray⟩] W fun e w' => e = .returned (.tuple #[.string ⟨(hcB l).toArray⟩, .int .i64 0]) ∧ Below W.heap.size W w' := by
  have h : Calls Try.prog 6 #[.string ⟨l.toArray⟩] W fun e w' => e = .returned (.tuple #[.string ⟨(hcP l).toArray⟩, .int .i64 (hcE l)]) ∧ Below W.heap.size W w' := hdput_any l W (by omega)
  rw [hcP_ok _ (hcE_ok l (by omega)), hcE_ok l (by omega)] at h
  exact h
/-- A head, and what stands behind it, is taken as it was. -/
theorem hd_taken (l z : List UInt8) (hl : l.length ≤ 300) (hz : z.length ≤ 300) (W : World) : Calls Try.prog 8 #[.string ⟨(hcB l ++ z).toArray⟩] W fun e w' => e = .returned (.tuple #[.string ⟨l.toArray⟩, .int .i64 ((hcB l).length : Int), .int .i64 0]) ∧ Below W.heap.size W w' := by
  have he := hcE_ok l (by omega)
  have hb := hcB_length l he
  have h : Calls Try.prog 8 #[.string ⟨(hcB l ++ z).toArray⟩] W fun e w' => e = .returned (.tuple #[.string (hcTF (hcB l ++ z)), .int .i64 (hcTN (hcB l ++ z)), .int .i64 (hcTE (hcB l ++ z))]) ∧ Below W.heap.size W w' := hdtake_any _ W (by rw [List.length_append]; omega)
  obtain ⟨t1, t2, t3⟩ := hct_put l he z
  rw [t1, t2, t3] at h
  exact h

set_option maxRecDepth 100000 in
set_option maxHeartbeats 4000000 in
theorem headBinds_same (f m : List UInt8) (w : World) (hf : f.length ≤ 300) (hm : m.length ≤ 300) :
    Calls Try.prog 4 #[.string ⟨f.toArray⟩, .string ⟨f.toArray⟩, .string ⟨m.toArray⟩] w fun e w' => e = .returned (.bool true) ∧ Below w.heap.size w w' := by
  have he := hcE_ok f (by omega)
  have hA := hcB_length f he
  have H1 := Lib.hid (fun W => hd_good f hf W)
  have H3 := Lib.hid (fun W => hdnew_any f W he (by omega))
  have H4 : Hid (∀ (W : World) (b : Nat), IsMt W b (hcB f) 0 false → Calls Try.prog 11 #[.pointer (some ⟨b, 0, none⟩), .string ⟨(hcB f ++ m).toArray⟩] W fun e w' => e = .returned (.tuple #[.int .i64 ((hcB f).length : Int), .int .i64 0]) ∧ IsMt w' b (hcB f) (hcB f).length false ∧ Into b W w') := Lib.hid (fun W b hW => by
    have h := hdfeed_any hW (by omega) (by omega) (hcB f ++ m) (by rw [List.length_append]; omega)
    have hn : mtN (hcB f) 0 (hcB f ++ m) = (hcB f).length := bind_self (hcB f) m
    have hx : mtX (hcB f) 0 (hcB f ++ m) = false := by
      unfold mtX; rw [hn]; simp
    rw [hx, hn, Nat.zero_add] at h
    exact h)
  have H5 : Hid (∀ (W : World) (b : Nat), IsMt W b (hcB f) (hcB f).length false → Calls Try.prog 12 #[.pointer (some ⟨b, 0, none⟩)] W (Drew (.bool true) W)) := Lib.hid (fun W b hW => by
    have h := hddone_draws hW (Nat.le_refl _) (by omega)
    rw [decide_eq_true rfl] at h
    exact h)
  have H6 := Lib.hid (fun W => hd_taken f m hf hm W)
  have hadd := hd_app (hcB f) m
  generalize hcB f = A at *
  obtain ⟨u, hu⟩ : ∃ u, A ++ m = u := ⟨_, rfl⟩
  rw [hu] at H4 H6 hadd
  have hz : ¬ 9223372036854775807 < A.length + m.length := by omega
  have Z1 := Lib.hid (bsize f)
  have Z2 := Lib.hid (bsize m)
  have Z3 := Lib.hid (bsize A)
  have g1 : ¬ (300 : Int) < (f.length : Int) := by omega
  have g2 : ¬ (300 : Int) < (m.length : Int) := by omega
  clear hu he hf hm
  go_enter Try.func4, Try.ntmps4
  go_wp2_with fail
  refine (H1.out _).mono ?_
  rintro e w1 ⟨rfl, hb1⟩
  go_wp2_with fail
  refine (H1.out _).mono ?_
  rintro e w2 ⟨rfl, hb2⟩
  have HB2 := Lib.hid (hb1.trans (hb2.mono hb1.size))
  clear hb1 hb2
  go_wp2_with fail
  refine (H3.out _).mono ?_
  rintro e w3 ⟨b, rfl, hb, hm3, hb3⟩
  have HB3 := Lib.hid (HB2.out.trans (hb3.mono HB2.out.size))
  have HL := Lib.hid (Nat.le_trans HB2.out.size hb)
  have H4' := Lib.hid (H4.out w3 b hm3)
  clear hb hb3 hm3 H3 H4
  go_wp2_with fail
  refine H4'.out.mono ?_
  rintro e w4 ⟨rfl, hm4, hi4⟩
  have HB4 := Lib.hid (HB3.out.trans (hi4.belowTo HL.out))
  have H5' := Lib.hid (H5.out w4 b hm4)
  clear hi4 hm4 H4' H5
  go_wp2_with fail
  refine H5'.out.mono ?_
  rintro e w5 ⟨rfl, k, rfl⟩
  have HB5 := Lib.hid (HB4.out.trans ((below_drewS (Below.refl w4.heap.size w4) k).mono HB4.out.size))
  clear H5'
  go_wp2_with fail
  refine (H6.out _).mono ?_
  rintro e w6 ⟨rfl, hb6⟩
  have HB6 := Lib.hid (HB5.out.trans (hb6.mono HB5.out.size))
  clear hb6 H6
  go_wp2_with fail
  refine (hdawake_any _).mono ?_
  rintro e w7 ⟨rfl, hb7⟩
  have HB7 := Lib.hid (HB6.out.trans (hb7.mono HB6.out.size))
  clear hb7
  go_wp2
  go_ret
  exact ⟨rfl, HB7.out⟩

set_option maxRecDepth 100000 in
set_option maxHeartbeats 4000000 in
theorem headBinds_other (f o m : List UInt8) (w : World) (hn : f ≠ o) (hf : f.length ≤ 300) (ho : o.length ≤ 300) (hm : m.length ≤ 300) :
    Calls Try.prog 4 #[.string ⟨f.toArray⟩, .string ⟨o.toArray⟩, .string ⟨m.toArray⟩] w fun e w' => e = .returned (.bool true) ∧ Below w.heap.size w w' := by
  have he := hcE_ok f (by omega)
  have ho' := hcE_ok o (by omega)
  have hA := hcB_length f he
  have hB := hcB_length o ho'
  obtain ⟨b1, b2⟩ := bind_other he ho' hn m
  have H1 := Lib.hid (fun W => hd_good f hf W)
  have H2 := Lib.hid (fun W => hd_good o ho W)
  have H3 := Lib.hid (fun W => hdnew_any f W he (by omega))
  obtain ⟨n, hnn⟩ : ∃ n, mtN (hcB f) 0 (hcB o ++ m) = n := ⟨_, rfl⟩
  have hnn' : preL (hcB f) (hcB o ++ m) = n := hnn
  rw [hnn'] at b1 b2
  have H4 : Hid (∀ (W : World) (b : Nat), IsMt W b (hcB f) 0 false → Calls Try.prog 11 #[.pointer (some ⟨b, 0, none⟩), .string ⟨(hcB o ++ m).toArray⟩] W fun e w' => e = .returned (.tuple #[.int .i64 (n : Int), .int .i64 15]) ∧ IsMt w' b (hcB f) n true ∧ Into b W w') := Lib.hid (fun W b hW => by
    have h := hdfeed_any hW (by omega) (by omega) (hcB o ++ m) (by rw [List.length_append]; omega)
    have hx : mtX (hcB f) 0 (hcB o ++ m) = true := by
      unfold mtX; rw [hnn]; simp [b1, b2]
      simpa using b2
    rw [hx, hnn, Nat.zero_add] at h
    exact h)
  have H5 : Hid (∀ (W : World) (b : Nat), IsMt W b (hcB f) n true → Calls Try.prog 12 #[.pointer (some ⟨b, 0, none⟩)] W (Drew (.bool false) W)) := Lib.hid (fun W b hW => by
    have h := hddone_draws hW (by omega) (by omega)
    rw [decide_eq_false (by omega)] at h
    exact h)
  have H6 := Lib.hid (fun W => hd_taken f m hf hm W)
  have hadd := hd_app (hcB o) m
  have hadd2 := hd_app (hcB f) m
  clear hnn hnn' b1 b2
  generalize hcB f = A at *
  generalize hcB o = B at *
  obtain ⟨u, hu⟩ : ∃ u, B ++ m = u := ⟨_, rfl⟩
  rw [hu] at H4 hadd
  obtain ⟨v, hv⟩ : ∃ v, A ++ m = v := ⟨_, rfl⟩
  rw [hv] at H6 hadd2
  have hz : ¬ 9223372036854775807 < A.length + m.length := by omega
  have hz2 : ¬ 9223372036854775807 < B.length + m.length := by omega
  have Z1 := Lib.hid (bsize f)
  have Z2 := Lib.hid (bsize m)
  have Z3 := Lib.hid (bsize A)
  have Z4 := Lib.hid (bsize B)
  have Z5 := Lib.hid (bsize o)
  have g1 : ¬ (300 : Int) < (f.length : Int) := by omega
  have g2 : ¬ (300 : Int) < (m.length : Int) := by omega
  have g3 : ¬ (300 : Int) < (o.length : Int) := by omega
  have g4 : (f == o) = false := by simpa using hn
  clear hu hv he ho' hf hm ho hn
  go_enter Try.func4, Try.ntmps4
  go_wp2_with fail
  refine (H1.out _).mono ?_
  rintro e w1 ⟨rfl, hb1⟩
  go_wp2_with fail
  refine (H2.out _).mono ?_
  rintro e w2 ⟨rfl, hb2⟩
  have HB2 := Lib.hid (hb1.trans (hb2.mono hb1.size))
  clear hb1 hb2
  go_wp2_with fail
  refine (H3.out _).mono ?_
  rintro e w3 ⟨b, rfl, hb, hm3, hb3⟩
  have HB3 := Lib.hid (HB2.out.trans (hb3.mono HB2.out.size))
  have HL := Lib.hid (Nat.le_trans HB2.out.size hb)
  have H4' := Lib.hid (H4.out w3 b hm3)
  clear hb hb3 hm3 H3 H4
  go_wp2_with fail
  refine H4'.out.mono ?_
  rintro e w4 ⟨rfl, hm4, hi4⟩
  have HB4 := Lib.hid (HB3.out.trans (hi4.belowTo HL.out))
  have H5' := Lib.hid (H5.out w4 b hm4)
  clear hi4 hm4 H4' H5
  go_wp2_with fail
  refine H5'.out.mono ?_
  rintro e w5 ⟨rfl, k, rfl⟩
  have HB5 := Lib.hid (HB4.out.trans ((below_drewS (Below.refl w4.heap.size w4) k).mono HB4.out.size))
  clear H5'
  go_wp2_with fail
  refine (H6.out _).mono ?_
  rintro e w6 ⟨rfl, hb6⟩
  have HB6 := Lib.hid (HB5.out.trans (hb6.mono HB5.out.size))
  clear hb6 H6
  go_wp2_with fail
  refine (hdawake_any _).mono ?_
  rintro e w7 ⟨rfl, hb7⟩
  have HB7 := Lib.hid (HB6.out.trans (hb7.mono HB6.out.size))
  clear hb7
  go_wp2
  go_ret
  exact ⟨rfl, HB7.out⟩

theorem headBinds_walk (f o m : ByteArray) (w : World) (hf : f.size ≤ 9223372036854775807) (ho : o.size ≤ 9223372036854775807) (hm : m.size ≤ 9223372036854775807) :
    Calls Try.prog 4 #[.string f, .string o, .string m] w fun e w' => e = .returned (.bool true) ∧ Below w.heap.size w w' := by
  by_cases h : 300 < f.size ∨ 300 < o.size ∨ 300 < m.size
  · exact headBinds_long f o m w h hf ho hm
  · have e1 := Lib.size_eq f
    have e2 := Lib.size_eq o
    have e3 := Lib.size_eq m
    have b1 : f = ⟨f.data.toList.toArray⟩ := by simp
    have b2 : o = ⟨o.data.toList.toArray⟩ := by simp
    have b3 : m = ⟨m.data.toList.toArray⟩ := by simp
    rw [b1, b2, b3]
    by_cases hn : f.data.toList = o.data.toList
    · rw [← hn]
      exact headBinds_same f.data.toList m.data.toList w (by omega) (by omega)
    · exact headBinds_other f.data.toList o.data.toList m.data.toList w hn (by omega) (by omega) (by omega)
end Go.Proofs.Ytgkpeehondmalaa
