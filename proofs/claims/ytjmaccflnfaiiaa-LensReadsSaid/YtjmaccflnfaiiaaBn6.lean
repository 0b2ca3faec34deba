/-
  Texts put together: RgnAt, RcQ, RcPp, PnD, RkW.
-/
import Derived.Test.YtjmaccflnfaiiaaBn4
import Derived.BigQuiet
import Derived.Lib.QuietBelow
import Derived.Test.YtjmaccflnfaiiaaBn5
import Derived.Test.YtjmaccflnfaiiaaRcD
import Derived.Test.YtjmaccflnfaiiaaBn1
import Derived.Test.YtjmaccflnfaiiaaRows
import Derived.WalkKit
import Derived.WalkSpells
import Derived.WalkLawsBesides
import Derived.Lib.Hide
import Derived.Outline
import Derived.IntWalk
set_option linter.unusedSimpArgs false
set_option linter.unusedVariables false
namespace Go.Proofs.Ytjmaccflnfaiiaa
open Go.RowKit


theorem regrown_at {P : Program} {f : FuncId} {args : Array Value} {v : Value} {w : World} (h : ∀ W, Below w.heap.size w W → Calls P f args W fun e w' => e = .returned v ∧ Below W.heap.size W w') (d : Nat) (os : Array Obj) :
    Calls P f args (Go.Sort.grow (redrawn w d) os) fun e w'' => e = .returned v ∧ ∃ p : Regrown, w'' = Go.Sort.grow (redrawn w p.d) p.os := Calls.regrown_of (h _ (below_regrown w d os))
theorem drew_below {P : Program} {f : FuncId} {args : Array Value} {v : Value} {w : World} (h : Calls P f args w fun e w' => e = .returned v ∧ ∃ q, w' = w.drewN q) : Calls P f args w fun e w' => e = .returned v ∧ Below w.heap.size w w' :=
  h.mono fun e w' ⟨h1, q, h2⟩ => ⟨h1, by rw [h2]; exact below_drewS (Below.refl _ _) q⟩

end Go.Proofs.Ytjmaccflnfaiiaa

namespace Go.Proofs.Ytjmaccflnfaiiaa
open Go.RowKit

set_option maxHeartbeats 1000000 in
theorem rdput_bad (k n r : Int) (a : Option Addr) (L c : Nat) (ids : List Int) (w : World) (hl : ids.length = L) (hL : L ≤ 1000000000) (hr : IsRow .i64 w a L L ids) (hok : okK k n r ids = false) :
    Calls Try.prog 47 #[.agg #[.int .i64 k, .int .i64 n, .int .i64 r, .slice a L c]] w (RetPk k n r ids w) := by
  have hX1 := heap_alloc_new w (.cells #[.int .i64 k, .int .i64 n, .int .i64 r, .slice a L c] 34)
  have hB1 := (Below.refl w.heap.size w).alloc (Nat.le_refl _) (.cells #[.int .i64 k, .int .i64 n, .int .i64 r, .slice a L c] 34)
  obtain ⟨w1, hw1⟩ : ∃ w1, w.alloc (.cells #[.int .i64 k, .int .i64 n, .int .i64 r, .slice a L c] 34) = w1 := ⟨_, rfl⟩
  rw [hw1] at hX1 hB1
  obtain ⟨c0, c1, c2, c3⟩ := rec_reads hX1
  have HC := Lib.hid (rdcheck_any k n r a L c ids w1 hl hL (hr.below hB1) false hok)
  have HB1 := Lib.hid hB1
  have HO := Lib.hid hok
  clear hX1 hB1 hl hr hok
  go_enter Try.func47, Try.ntmps47
  go_wp2_with fail
  try rw [hw1]
  refine HC.out.mono ?_
  rintro e w2 ⟨rfl, hb2⟩
  have HB2 := Lib.hid (HB1.out.trans (hb2.mono HB1.out.size))
  go_wp2
  go_ret2
  exact ⟨.inr ⟨HO.out, rfl⟩, HB2.out⟩

theorem follows_mixed : Try.prog.follows .mixedOrders = true := by kernel_rfl
theorem byte_cat (s p : List UInt8) : (⟨s.toArray⟩ : ByteArray) ++ ⟨p.toArray⟩ = ⟨(s ++ p).toArray⟩ := by simp [ByteArray.mk_append_mk]

set_option maxRecDepth 100000 in
set_option maxHeartbeats 4000000 in
theorem rdput_no (k n r : Int) (a : Option Addr) (L c : Nat) (ids : List Int) (w : World) (hl : ids.length = L) (hL : L ≤ 1000000000) (hr : IsRow .i64 w a L L ids) (hok : okK k n r ids = true) (h4 : ¬ k = 4) :
    Calls Try.prog 47 #[.agg #[.int .i64 k, .int .i64 n, .int .i64 r, .slice a L c]] w (RetPk k n r ids w) := by
  have hX1 := heap_alloc_new w (.cells #[.int .i64 k, .int .i64 n, .int .i64 r, .slice a L c] 34)
  have hB1 := (Below.refl w.heap.size w).alloc (Nat.le_refl _) (.cells #[.int .i64 k, .int .i64 n, .int .i64 r, .slice a L c] 34)
  obtain ⟨w1, hw1⟩ : ∃ w1, w.alloc (.cells #[.int .i64 k, .int .i64 n, .int .i64 r, .slice a L c] 34) = w1 := ⟨_, rfl⟩
  rw [hw1] at hX1 hB1
  obtain ⟨c0, c1, c2, c3⟩ := rec_reads hX1
  have HC := Lib.hid (rdcheck_any k n r a L c ids w1 hl hL (hr.below hB1) true hok)
  have HB1 := Lib.hid hB1
  have HO := Lib.hid hok
  have HX1 := Lib.hid hX1
  have hk := ok_kind hok
  have hno := (ok_no h4).1 hok
  have hn := hno.2.1
  have hr2 := hno.2.2.1
  clear hno
  have b1 := fit_bounds hn
  have b2 := fit_bounds hr2
  have HP1 := Lib.hid (fun W => refput_any n.toNat n W (Nat.le_refl _) b1.2)
  have HP2 := Lib.hid (fun W => refput_any r.toNat r W (Nat.le_refl _) b2.2)
  have l1 := vput_length n b1.2
  have l2 := vput_length r b2.2
  have HP : Hid (putK k n r ids = [vb k] ++ vput n ++ vput r) := Lib.hid (by unfold putK numsL; rw [if_neg h4]; simp [vall])
  have e4 : IntKind.u8.wrap k = k := by rw [IntKind.wrap_u8]; omega
  obtain ⟨s0, hs0⟩ : ∃ s0, [vb k] = s0 := ⟨_, rfl⟩
  have hsl : s0.length = 1 := by rw [← hs0]; rfl
  have HCv : Hid (∀ (W : World) (b : Nat), W.cell? ⟨b, 0, none⟩ = some (.int .u8 k) → (convert 50 9 (.slice (some ⟨b, 0, none⟩) 1 1)).run Try.prog W = .ok (.string ⟨s0.toArray⟩) W) :=
    Lib.hid (fun W b hc => by have := one_back W b k (by omega) (by omega) hc; rw [← hs0]; exact this)
  rw [hs0] at HP
  have g4 : (k == 4) = false := by simpa using h4
  generalize vput n = v1 at *
  generalize vput r = v2 at *
  have y1 := byte_cat s0 v1
  have y2 := byte_cat (s0 ++ v1) v2
  have k1 : ¬ 9223372036854775807 < s0.length + v1.length := by omega
  have k2 : ¬ 9223372036854775807 < (s0 ++ v1).length + v2.length := by rw [List.length_append]; omega
  obtain ⟨p1, hp1⟩ : ∃ p, s0 ++ v1 = p := ⟨_, rfl⟩
  rw [hp1] at y1 y2 k2 HP
  obtain ⟨p2, hp2⟩ : ∃ p, p1 ++ v2 = p := ⟨_, rfl⟩
  rw [hp2] at y2 HP
  clear hX1 hB1 hl hr hok hk hn hr2 b1 b2 l1 l2 hsl hs0 h4 hp1 hp2
  go_enter Try.func47, Try.ntmps47
  go_wp2_with fail
  try rw [hw1]
  refine HC.out.mono ?_
  rintro e w2 ⟨rfl, hb2⟩
  have hX2 := (hb2.block w.heap.size (heap_lt HX1.out)).trans HX1.out
  have hB2 := HB1.out.trans (hb2.mono HB1.out.size)
  have hX3 := ((((Below.refl w2.heap.size w2).alloc (Nat.le_refl _) (.cells #[.int .u8 k] 5)).block w.heap.size (heap_lt hX2))).trans hX2
  have hcb : (w2.alloc (.cells #[.int .u8 k] 5)).cell? ⟨w2.heap.size, 0, none⟩ = some (.int .u8 k) := by rw [World.cell?_alloc_new]; rfl
  have hcv := HCv.out _ _ hcb
  have hB3 := hB2.alloc hB2.size (.cells #[.int .u8 k] 5)
  obtain ⟨d0, d1, d2, d3⟩ := rec_reads hX2
  have HX3 := Lib.hid hX3
  obtain ⟨x0, x1, x2, x3⟩ := rec_reads hX3
  have HB3 := Lib.hid hB3
  clear c0 c1 c2 c3 hb2 hX2 hX3 hB2 hB3 HC hcb
  go_wp2_with fail
  obtain ⟨w3, hw3⟩ : ∃ w3, w2.alloc (.cells #[.int .u8 k] 5) = w3 := ⟨_, rfl⟩
  rw [hw3] at HX3 HB3 ⊢
  obtain ⟨e0, e1, e2, e3⟩ := rec_reads HX3.out
  have G1 := regrown_at (w := w3) (fun W _ => HP1.out W)
  have G2 := regrown_at (w := w3) (fun W _ => HP2.out W)
  have m1 := cell_regrown e1
  have m2 := cell_regrown e2
  clear x0 x1 x2 x3 d0 d1 d2 d3 e0 e3 hcv hw3
  refine wp_region_quiet_below follows_mixed (by kernel_rfl) ?_
  repeat (go_big_quiet_step (first | with_reducible exact G1 _ _ | with_reducible exact G2 _ _))
  refine wpQuiet_nil ?_
  intro W6 hw6
  obtain ⟨⟨dq, osq⟩, rfl⟩ := hw6
  have b6 := below_regrown w3 dq osq
  generalize Go.Sort.grow (redrawn w3 dq) osq = w6 at b6 ⊢
  have HB6 := Lib.hid (HB3.out.trans (b6.mono HB3.out.size))
  clear b6 G1 G2 m1 m2
  go_wp2
  go_ret2
  exact ⟨.inl ⟨HO.out, by rw [HP.out]; rfl⟩, HB6.out⟩

set_option maxRecDepth 100000 in
set_option maxHeartbeats 4000000 in
theorem rdput_at (a : Option Addr) (L c : Nat) (ids : List Int) (w : World) (hl : ids.length = L) (hr : IsRow .i64 w a L L ids) (hok : okK 4 0 0 ids = true) :
    Calls Try.prog 47 #[.agg #[.int .i64 4, .int .i64 0, .int .i64 0, .slice a L c]] w (RetPk 4 0 0 ids w) := by
  have hX1 := heap_alloc_new w (.cells #[.int .i64 4, .int .i64 0, .int .i64 0, .slice a L c] 34)
  have hB1 := (Below.refl w.heap.size w).alloc (Nat.le_refl _) (.cells #[.int .i64 4, .int .i64 0, .int .i64 0, .slice a L c] 34)
  obtain ⟨w1, hw1⟩ : ∃ w1, w.alloc (.cells #[.int .i64 4, .int .i64 0, .int .i64 0, .slice a L c] 34) = w1 := ⟨_, rfl⟩
  rw [hw1] at hX1 hB1
  obtain ⟨c0, c1, c2, c3⟩ := rec_reads hX1
  have h3 := ((ok_at rfl).1 hok).2.2
  have hL := ris_len ids (-1) (by omega) (by omega) h3
  have hm := ris_mem ids (-1) h3
  have HM := Lib.hid (fun (x : Int) (hx : x ∈ ids) => And.intro (show 0 ≤ x by have := (hm x hx).1; omega) (hm x hx).2)
  have HC := Lib.hid (rdcheck_any 4 0 0 a L c ids w1 hl (by omega) (hr.below hB1) true hok)
  have HB1 := Lib.hid hB1
  have HO := Lib.hid hok
  have HX1 := Lib.hid hX1
  have HR := Lib.hid hr
  have HL := Lib.hid hl
  have hLb : L ≤ 65535 := by omega
  have HP0 := Lib.hid (fun W => refput_any L (L : Int) W (by omega) (by omega))
  have hv64 := (nums_64 hok)
  have hva := vall_length _ hv64.1
  have HKl : Hid ((putK 4 0 0 ids).length ≤ 1000000) := Lib.hid (by unfold putK; rw [List.length_cons]; omega)
  have HP : Hid (putK 4 0 0 ids = ([vb 4] ++ vput (L : Int)) ++ vall (difL 0 (ids.drop 0))) := Lib.hid (by unfold putK numsL; rw [if_pos rfl, hl, List.drop_zero]; simp [vall])
  have e4 : IntKind.u8.wrap 4 = 4 := by rw [IntKind.wrap_u8]; omega
  obtain ⟨s0, hs0⟩ : ∃ s0, [vb 4] = s0 := ⟨_, rfl⟩
  have hsl : s0.length = 1 := by rw [← hs0]; rfl
  have HCv : Hid (∀ (W : World) (b : Nat), W.cell? ⟨b, 0, none⟩ = some (.int .u8 4) → (convert 50 9 (.slice (some ⟨b, 0, none⟩) 1 1)).run Try.prog W = .ok (.string ⟨s0.toArray⟩) W) :=
    Lib.hid (fun W b hc => by have := one_back W b 4 (by omega) (by omega) hc; rw [← hs0]; exact this)
  rw [hs0] at HP
  have l0 := vput_length (L : Int) (by omega)
  generalize hv1 : vput (L : Int) = v1 at *
  have y1 := byte_cat s0 v1
  have k1 : ¬ 9223372036854775807 < s0.length + v1.length := by omega
  obtain ⟨p1, hp1⟩ : ∃ p, s0 ++ v1 = p := ⟨_, rfl⟩
  rw [hp1] at y1 HP
  clear hX1 hB1 hl hr hok hsl hs0 hp1 l0 hv64 hva h3 hm hL hv1
  go_enter Try.func47, Try.ntmps47
  go_wp2_with fail
  try rw [hw1]
  refine HC.out.mono ?_
  rintro e w2 ⟨rfl, hb2⟩
  have hX2 := (hb2.block w.heap.size (heap_lt HX1.out)).trans HX1.out
  have hB2 := HB1.out.trans (hb2.mono HB1.out.size)
  have hX3 := ((((Below.refl w2.heap.size w2).alloc (Nat.le_refl _) (.cells #[.int .u8 4] 5)).block w.heap.size (heap_lt hX2))).trans hX2
  have hcb : (w2.alloc (.cells #[.int .u8 4] 5)).cell? ⟨w2.heap.size, 0, none⟩ = some (.int .u8 4) := by rw [World.cell?_alloc_new]; rfl
  have hcv := HCv.out _ _ hcb
  have hB3 := hB2.alloc hB2.size (.cells #[.int .u8 4] 5)
  obtain ⟨d0, d1, d2, d3⟩ := rec_reads hX2
  have HX3 := Lib.hid hX3
  obtain ⟨x0, x1, x2, x3⟩ := rec_reads hX3
  have HB3 := Lib.hid hB3
  clear c0 c1 c2 c3 hb2 hX2 hX3 hB2 hB3 HC hcb
  go_wp2_with fail
  refine (HP0.out _).mono ?_
  rintro e w4 ⟨rfl, hb4⟩
  have hX4 := (hb4.block w.heap.size (heap_lt HX3.out)).trans HX3.out
  have HX4 := Lib.hid hX4
  have HB4 := Lib.hid (HB3.out.trans (hb4.mono HB3.out.size))
  obtain ⟨e0, e1, e2, e3⟩ := rec_reads hX4
  clear x0 x1 x2 x3 d0 d1 d2 d3 hX4 hb4 hcv
  go_wp2_with fail
  go_loopw [4, 5] (fun s i wr => ∃ (j : Nat) (S : List UInt8), j ≤ L ∧ s = .string ⟨S.toArray⟩ ∧ i = .int .i64 j ∧ Hid (putK 4 0 0 ids = S ++ vall (difL (if j = 0 then 0 else ids.getD (j - 1) 0) (ids.drop j))) ∧ Hid (Below w4.heap.size w4 wr)) (fun _ i _ => L - (RowKit.intOf i).toNat)
  case atStart => exact ⟨0, p1, Nat.zero_le _, rfl, rfl, HP, Lib.hid (Below.refl _ _)⟩
  case round =>
    rename_i wr
    clear e0 e1 e2 e3
    obtain ⟨j, S, hj, rfl, rfl, HE, HB⟩ := hrel
    obtain ⟨e0, e1, e2, e3⟩ := rec_reads ((HB.out.block w.heap.size (heap_lt HX4.out)).trans HX4.out)
    have HBw := Lib.hid (HB4.out.trans (HB.out.mono HB4.out.size))
    have hSl : S.length ≤ 1000000 := by have h1 := HKl.out; rw [HE.out, List.length_append] at h1; omega
    by_cases hlt : j < L
    · have g0 : (j : Int) < (L : Int) := by omega
      have g1 : (0 : Int) ≤ (j : Int) := by omega
      obtain h0 | ⟨b, off, rfl, hcap, hmm, hz, hc⟩ := HR.out.below HBw.out
      · omega
      have hjl : j < ids.length := by rw [HL.out]; exact hlt
      have hcell := hc j (by omega)
      have hy := HM.out (ids.getD j 0) (getD_in ids j hjl)
      have hdrop : ids.drop j = ids.getD j 0 :: ids.drop (j + 1) := by rw [List.drop_eq_getElem_cons hjl, getD_at ids j hjl]
      by_cases h0 : j = 0
      · subst h0
        obtain ⟨y, hyy⟩ : ∃ y, ids.getD 0 0 = y := ⟨_, rfl⟩
        have HE2 : Hid (putK 4 0 0 ids = (S ++ vput y) ++ vall (difL (if 0 + 1 = 0 then 0 else ids.getD (0 + 1 - 1) 0) (ids.drop (0 + 1)))) := Lib.hid (by
          rw [HE.out, if_pos rfl, if_neg (by omega), hdrop, Nat.add_sub_cancel, hyy]
          simp only [difL, vall]
          rw [Int.sub_zero, List.append_assoc])
        rw [hyy] at hcell hy
        rw [Nat.add_zero] at hcell
        have HPy := Lib.hid (fun W => refput_any y.toNat y W (Nat.le_refl _) (by omega))
        have l1 := vput_length y (by omega)
        generalize vput y = v9 at *
        have y9 := byte_cat S v9
        have k9 : ¬ 9223372036854775807 < S.length + v9.length := by omega
        obtain ⟨p9, hp9⟩ : ∃ p, S ++ v9 = p := ⟨_, rfl⟩
        rw [hp9] at y9 HE2
        clear hc hz hyy hdrop hjl HE hp9 l1
        go_wp2_with fail
        refine (HPy.out _).mono ?_
        rintro e w9 ⟨rfl, hb9⟩
        have HB9 := Lib.hid (HB.out.trans (hb9.mono HB.out.size))
        clear hb9 HPy
        go_wp2
        exact ⟨⟨0 + 1, p9, by omega, rfl, by go_num, HE2, HB9⟩, by simp [RowKit.intOf]; omega⟩
      · obtain ⟨m, rfl⟩ : ∃ m, j = m + 1 := ⟨j - 1, by omega⟩
        have hcell2 := hc m (by omega)
        have hx := HM.out (ids.getD m 0) (getD_in ids m (by omega))
        obtain ⟨y, hyy⟩ : ∃ y, ids.getD (m + 1) 0 = y := ⟨_, rfl⟩
        obtain ⟨x, hxx⟩ : ∃ x, ids.getD m 0 = x := ⟨_, rfl⟩
        have HE2 : Hid (putK 4 0 0 ids = (S ++ vput (y - x)) ++ vall (difL (if m + 1 + 1 = 0 then 0 else ids.getD (m + 1 + 1 - 1) 0) (ids.drop (m + 1 + 1)))) := Lib.hid (by
          rw [HE.out, if_neg (by omega), if_neg (by omega), hdrop, Nat.add_sub_cancel, Nat.add_sub_cancel, hyy, hxx]
          simp only [difL, vall]
          rw [List.append_assoc])
        rw [hyy] at hcell hy
        rw [hxx] at hcell2 hx
        have hwy : IntKind.i64.wrap (y - x) = y - x := by rw [IntKind.wrap_i64]; omega
        have HPy := Lib.hid (fun W => refput_any (y - x).toNat (y - x) W (Nat.le_refl _) (by omega))
        have l1 := vput_length (y - x) (by omega)
        generalize vput (y - x) = v9 at *
        have y9 := byte_cat S v9
        have k9 : ¬ 9223372036854775807 < S.length + v9.length := by omega
        obtain ⟨p9, hp9⟩ : ∃ p, S ++ v9 = p := ⟨_, rfl⟩
        rw [hp9] at y9 HE2
        have z1 : ((m + 1 : Nat) : Int) = (m : Int) + 1 := by omega
        have z2 : IntKind.i64.wrap ((m : Int) + 1 - 1) = (m : Int) := by rw [IntKind.wrap_i64]; omega
        have z3 : IntKind.i64.wrap (m : Int) = (m : Int) := by rw [IntKind.wrap_i64]; omega
        have z4 : (0 : Int) ≤ (m : Int) := by omega
        have z5 : (m : Int) < (L : Int) := by omega
        have z6 : ((m : Int) + 1).toNat = m + 1 := by omega
        have z7 : ((m : Int)).toNat = m := by omega
        have z8 : ((m : Int) + 1 == 0) = false := by simp; omega
        rw [z1] at g0 g1 ⊢
        have G1 := regrown_at (w := wr) (fun W _ => HPy.out W)
        have u3 := cell_regrown e3
        have u4 := cell_regrown hcell
        have u5 := cell_regrown hcell2
        clear hc hz hyy hxx hdrop hjl HE hp9 l1 h0 z1 HPy
        go_wp2_with fail
        refine wp_region_quiet_below follows_mixed (by kernel_rfl) ?_
        repeat (go_big_quiet_step (first | with_reducible exact G1 _ _))
        refine wpQuiet_nil ?_
        intro W6 hw6
        obtain ⟨⟨dq, osq⟩, rfl⟩ := hw6
        have b6 := below_regrown wr dq osq
        generalize Go.Sort.grow (redrawn wr dq) osq = w6 at b6 ⊢
        have HB6 := Lib.hid (HB.out.trans (b6.mono HB.out.size))
        clear b6 G1 u3 u4 u5
        go_wp2
        exact ⟨⟨m + 1 + 1, p9, by omega, rfl, by go_num, HE2, HB6⟩, by simp [RowKit.intOf]; omega⟩
    · obtain rfl : j = L := by omega
      have g0 : ¬ (j : Int) < (j : Int) := by omega
      have HF : Hid (putK 4 0 0 ids = S) := Lib.hid (by rw [HE.out, List.drop_of_length_le (by rw [HL.out]; exact Nat.le_refl _)]; simp [difL, vall])
      clear HE hlt
      go_wp2
      go_ret2
      exact ⟨.inl ⟨HO.out, by rw [HF.out]; rfl⟩, HBw.out⟩

theorem rdput_any (k n r : Int) (a : Option Addr) (L c : Nat) (ids : List Int) (w : World) (hl : ids.length = L) (hL : L ≤ 1000000000) (hr : IsRow .i64 w a L L ids) :
    Calls Try.prog 47 #[.agg #[.int .i64 k, .int .i64 n, .int .i64 r, .slice a L c]] w (RetPk k n r ids w) := by
  cases h : okK k n r ids with
  | true =>
    by_cases h4 : k = 4
    · subst h4
      obtain ⟨rfl, rfl, _⟩ := (ok_at rfl).1 h
      exact rdput_at a L c ids w hl hr h
    · exact rdput_no k n r a L c ids w hl hL hr h h4
  | false => exact rdput_bad k n r a L c ids w hl hL hr h
end Go.Proofs.Ytjmaccflnfaiiaa

namespace Go.Proofs.Ytjmaccflnfaiiaa
open Go.RowKit

/-- What both Puts answer, as a pair. -/
theorem retPk_pair {k n r : Int} {ids : List Int} {w w' : World} {e : Ending} (h : RetPk k n r ids w e w') :
    e = .returned (.tuple #[.string ⟨(if okK k n r ids = true then putK k n r ids else []).toArray⟩, .int .i64 (if okK k n r ids = true then 0 else 2)]) ∧ Below w.heap.size w w' := by
  rcases h with ⟨⟨h1, h2⟩ | ⟨h1, h2⟩, hb⟩
  · rw [if_pos h1, if_pos h1]; exact ⟨h2, hb⟩
  · rw [h1, if_neg (by decide), if_neg (by decide)]; exact ⟨h2, hb⟩

end Go.Proofs.Ytjmaccflnfaiiaa

namespace Go.Proofs.Ytjmaccflnfaiiaa
open Go.RowKit

theorem pn_pair {w : World} {x : Rv} {W W' : World} {e : Ending} (h : RetPk x.k x.n x.r (rvI w x) W e W') : e = .returned (.tuple #[.string ⟨(rvB w x).toArray⟩, .int .i64 (if rvOk w x = true then 0 else 2)]) ∧ Below W.heap.size W W' := retPk_pair h
/-- The document's Put. -/
theorem pn_rput {w W : World} {k n r : Int} {a : Option Addr} {L c : Nat} (hl : L ≤ 1000000) (h1 : (rvI w ⟨k, n, r, a, L, c⟩).length = L) (h2 : IsRow .i64 W a L L (rvI w ⟨k, n, r, a, L, c⟩)) :
    Calls Try.prog 47 #[.agg #[.int .i64 k, .int .i64 n, .int .i64 r, .slice a L c]] W fun e W' => e = .returned (.tuple #[.string ⟨(rvB w ⟨k, n, r, a, L, c⟩).toArray⟩, .int .i64 (if rvOk w ⟨k, n, r, a, L, c⟩ = true then 0 else 2)]) ∧ Below W.heap.size W W' :=
  (rdput_any k n r a L c _ W h1 (by omega) h2).mono fun e W' h => pn_pair (x := ⟨k, n, r, a, L, c⟩) h
/-- The document's Check. -/
theorem pn_rcheck {w W : World} {k n r : Int} {a : Option Addr} {L c : Nat} (hl : L ≤ 1000000) (h1 : (rvI w ⟨k, n, r, a, L, c⟩).length = L) (h2 : IsRow .i64 W a L L (rvI w ⟨k, n, r, a, L, c⟩)) :
    Calls Try.prog 45 #[.agg #[.int .i64 k, .int .i64 n, .int .i64 r, .slice a L c]] W fun e W' => e = .returned (.bool (rvOk w ⟨k, n, r, a, L, c⟩)) ∧ Below W.heap.size W W' :=
  rdcheck_any k n r a L c _ W h1 (by omega) h2 _ rfl
end Go.Proofs.Ytjmaccflnfaiiaa

namespace Go.Proofs.Ytjmaccflnfaiiaa
open Go.RowKit
/-- A number and an error; what was there is as it was. -/
def Ret2 (v x : Int) (w : World) (e : Ending) (w' : World) : Prop := e = .returned (.tuple #[.int .i64 v, .int .i64 x]) ∧ Below w.heap.size w w'

theorem Ret2.mk {v x : Int} {w w' : World} {e : Ending} (h : e = .returned (.tuple #[.int .i64 v, .int .i64 x])) (hb : Below w.heap.size w w') : Ret2 v x w e w' := ⟨h, hb⟩

set_option maxHeartbeats 400000 in
theorem add_any (a b : Int) (w : World) :
    Calls Try.prog 50 #[.int .i64 a, .int .i64 b] w (Ret2 (addV a b) (addE a b) w) := by
  cases h : (ofs a && ofs b) with
  | false =>
    obtain ⟨e1, e2⟩ := add_arg h
    rw [e1, e2]
    have H := Lib.hid h
    clear h e1 e2
    go_enter Try.func50, Try.ntmps50
    go_wp2_with fail
    refine (off_any _ 2 2 [a, b] _ false (by omega) (row2 _ _ _ _) (by simpa using H.out)).mono ?_
    rintro e w' ⟨rfl, rfl⟩
    go_wp2
    go_ret2
    exact Ret2.mk rfl (below_new _ _)
  | true =>
    obtain ⟨ha, hb⟩ := both h
    obtain ⟨a0, a1⟩ := ofs_true ha
    obtain ⟨b0, b1⟩ := ofs_true hb
    by_cases ho : a + b ≤ 4611686018427387903
    · obtain ⟨e1, e2⟩ := add_good h ho
      rw [e1, e2]
      have H := Lib.hid h
      clear h e1 e2 ha hb
      have ht : ¬ 4611686018427387903 - b < a := by omega
      go_enter Try.func50, Try.ntmps50
      go_wp2_with fail
      refine (off_any _ 2 2 [a, b] _ true (by omega) (row2 _ _ _ _) (by simpa using H.out)).mono ?_
      rintro e w' ⟨rfl, rfl⟩
      go_wp2
      go_ret2
      exact Ret2.mk rfl (below_new _ _)
    · obtain ⟨e1, e2⟩ := add_over h (by omega)
      rw [e1, e2]
      have H := Lib.hid h
      clear h e1 e2 ha hb
      have ht : 4611686018427387903 - b < a := by omega
      go_enter Try.func50, Try.ntmps50
      go_wp2_with fail
      refine (off_any _ 2 2 [a, b] _ true (by omega) (row2 _ _ _ _) (by simpa using H.out)).mono ?_
      rintro e w' ⟨rfl, rfl⟩
      go_wp2
      go_ret2
      exact Ret2.mk rfl (below_new _ _)

end Go.Proofs.Ytjmaccflnfaiiaa
