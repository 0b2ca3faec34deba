/-
  leap.Run: walked.
-/
import Derived.Test.YtmgcdhcidojdhaaGreatBn5
import Derived.Test.YtmgcdhcidojdhaaGreatBn10
import Derived.Test.YtmgcdhcidojdhaaGreatLpE
import Derived.Test.YtmgcdhcidojdhaaGreatBn11
import Derived.WalkMore
set_option linter.unusedSimpArgs false
set_option linter.unusedVariables false
namespace Go.Proofs.YtmgcdhcidojdhaaGreat
open Go.RowKit

set_option maxRecDepth 100000 in
set_option maxHeartbeats 1000000 in
theorem lprun_no {p : Option Addr} {k : Value} {e : Int} {w : World} (h : Calls Tryz.prog 42 #[.pointer p, k, .int .i64 e] w (NoTail w)) :
    Calls Tryz.prog 22 #[.pointer p, k, .int .i64 e] w fun E w' => E = .returned (.tuple #[.slice none 0 0, .int .i64 e]) ∧ ∃ q, w' = w.drewN q := by
  have HT := Lib.hid h
  clear h
  go_enter Tryz.func22, Tryz.ntmps22
  go_wp2
  go_step3
  go_wp2_with fail
  refine HT.out.mono ?_
  rintro E w' ⟨rfl, q, rfl⟩
  clear HT
  go_wp2
  try rw [Exit.noGoto_ret]
  go_ret2
  exact ⟨rfl, q, rfl⟩

theorem tail_from {s : List UInt8} {us : List (List UInt8)} {a c keep : Nat} (hk : max (mostL us) 2 ≤ keep) (hac : a ≤ c) (h2 : c < s.length) : IsTail us s (c + 1) (midL s (a + 1 - keep) (c + 1)) := by
  have := IsTail.drop (us := us) (s := s) (e := c + 1) (n := c + 1 - (a + 1 - keep)) (by omega) (by omega) (by omega) (by omega)
  rw [show c + 1 - (c + 1 - (a + 1 - keep)) = a + 1 - keep by omega] at this
  exact this

/-- What Run tells. -/
def RetRun (us : List (List UInt8)) (s : List UInt8) (skip : Bool) (base b keep a : Nat) (w : World) (E : Ending) (w' : World) : Prop :=
  ∃ (v : Value) (rs : List Rc) (c d : Nat), E = .returned (.tuple #[v, .int .i64 (c : Int)]) ∧ w'.ownsRow w.heap.size 45 4 v rs.length (rcCells rs) ∧ (∀ x ∈ rs, IdsAt w' x) ∧ Goes us s skip a (evs rs) c ∧ Rest us s skip c ∧ a ≤ c ∧ c ≤ s.length ∧ d ≤ c ∧ IsCarry w' base b keep s d ∧ But w.heap.size b w w'

set_option maxRecDepth 100000 in
set_option maxHeartbeats 8000000 in
theorem lprun_any {w0 w : World} {b bl base keep done : Nat} {us : List (List UInt8)} {skip : Bool} {s : List UInt8} (hL : IsLoop w0 bl us skip) (hw0 : Below w0.heap.size w0 w) (hb0 : w0.heap.size ≤ b) (hc : IsCarry w base b keep s done) (hk : max (mostL us) 2 ≤ keep) (hs : s.length ≤ 400000) (hu : ∀ t ∈ us, 0 < t.length ∧ t.length ≤ 1000000) (hn : us.length ≤ 1000000) (a : Nat) (h1 : done ≤ a) (h2 : a < s.length) :
    Calls Tryz.prog 22 #[.pointer (some ⟨bl, 0, none⟩), .pointer (some ⟨b, 0, none⟩), .int .i64 (a : Int)] w (RetRun us s skip base b keep a w) := by
  have hbw := hc.lt
  have HL : Hid (∀ W, But w.heap.size b w W → IsLoop W bl us skip) := Lib.hid fun W hW => hL.below (hw0.trans ((hW.below (by omega)).mono hb0))
  have HT := Lib.hid (lptail_in (HL.out w (But.refl _ _ _)) hc hk (by omega) a (by omega) h2)
  have HTF := Lib.hid (fun (c : Nat) (h : a ≤ c) (h2 : c < s.length) => tail_from (us := us) (s := s) hk h h2)
  have htl : (midL s (a + 1 - keep) (a + 1)).length = a + 1 - (a + 1 - keep) := midL_length _ _ _ (by omega)
  have hmid : midL s (a + 1 - keep) (min (a + 1) s.length) = midL s (a + 1 - keep) (a + 1) := by rw [show min (a + 1) s.length = a + 1 by omega]
  have HMID : Hid (∀ c, a ≤ c → ∀ t, c + 1 ≤ t → c < s.length → midL s (a + 1 - keep) (c + 1) ++ midL s (c + 1) (max (c + 1) (min t s.length)) = midL s (a + 1 - keep) (min t s.length)) := Lib.hid fun c hc t ht hcs => by
    rw [show max (c + 1) (min t s.length) = min t s.length by omega]
    exact midL_app s _ _ _ (by omega) (by omega) (by omega)
  have HUN := Lib.hid (And.intro hu hn)
  have HCOV : Hid (∀ e, covN (ofR us s e skip) ≤ 1000000) := Lib.hid fun e => cov_le (M := 999999) (fun t ht => (hu t ht).2)
  obtain ⟨vC, hcv⟩ := hc.carV
  have HCV := Lib.hid hcv
  generalize hq0 : a + 1 - keep = q0 at *
  have HQ0 := Lib.hid hq0
  generalize ht0 : midL s q0 (a + 1) = t0 at *
  have HM0 := Lib.hid hmid
  have ht0l : t0.length ≤ 400001 := by omega
  have S0 := Lib.hid (bsize t0)
  clear hL hw0 hc hk hu hn hcv hq0 ht0 hmid htl
  go_enter Tryz.func22, Tryz.ntmps22
  go_wp2
  go_step3
  go_wp2_with fail
  refine HT.out.mono ?_
  rintro E w' ⟨rfl, q, rfl⟩
  clear HT
  obtain ⟨w2, hw2⟩ : ∃ w2, (w.drewN q).alloc (.cells #[.pointer none, .slice none 0 0] 87) = w2 := ⟨_, rfl⟩
  have hX2 : w2.heap[w.heap.size]? = some (.cells #[.pointer none, .slice none 0 0] 87 (0, 0)) := by rw [← hw2]; exact heap_alloc_new (w.drewN q) _
  have hB2 : Below w.heap.size w w2 := by rw [← hw2]; exact (lp_drewN (Below.refl w.heap.size w) q).alloc (Nat.le_refl _) _
  have s2 : w2.heap.size = w.heap.size + 1 := by rw [← hw2]; simp
  have HWS := Lib.hid (writeString w.heap.size w.heap.size [] ⟨t0.toArray⟩ w2 (.inl ⟨Nat.le_refl _, .slice none 0 0, hX2, World.ownsRow_nil _ _ _ _, by simp [Value.ownBlock]⟩) (by rw [S0.out]; simp; omega) (by omega))
  have HB2 := Lib.hid hB2
  have HS2 := Lib.hid s2
  clear hX2 hB2 s2
  go_wp2_with fail
  try rw [hw2]
  refine HWS.out.mono ?_
  rintro E w3 ⟨rfl, hbd, hb3⟩
  obtain ⟨vT0, htx⟩ := IsText.of (l := t0) hbd
  have HB3 := HB2.out.trans hb3
  have HR0 : Hid (RunAt w w.heap.size b base keep s vT0 vC (.slice none 0 0) t0 done [] [] w3) := Lib.hid
    { hX := Nat.le_refl _
      hb := hbw
      frame := But.of HB3
      text := htx
      car := HCV.out.below HB3
      apart := ⟨by omega, fun e => by have := (htx.row e.symm).1; omega, fun g hg => ⟨by have := (HCV.out.row hg).2; omega, fun e => by have := (HCV.out.row hg).2; have := (htx.row e.symm).1; omega⟩⟩
      recs := World.ownsRow_nil _ _ _ _
      ids := fun x hx => by cases hx }
  clear hbd hb3 HB3 htx HWS HB2 HS2 hw2
  go_wp2_with fail
  go_step3
  go_wp2
  go_loopw [2, 11] (fun i r wr => ∃ (c : Nat) (vT vC : Value) (d : Nat) (rs : List Rc), c ≤ s.length ∧ a ≤ c ∧ i = .int .i64 (c : Int) ∧ Hid (RunAt w w.heap.size b base keep s vT vC r (midL s q0 (min (c + 1) s.length)) d rs rs wr ∧ Goes us s skip a (evs rs) c ∧ d ≤ c)) (fun i _ _ => s.length - (RowKit.intOf i).toNat)
  case atStart => exact ⟨a, vT0, vC, done, [], by omega, Nat.le_refl _, rfl, Lib.hid ⟨by rw [HM0.out]; exact HR0.out, rfl, h1⟩⟩
  case round =>
    obtain ⟨c, vT, vC', d, rs, hcs, hac, rfl, HR⟩ := hrel
    have HS := Lib.hid (caseen_any HR.out.1.car.car)
    by_cases hlt : c < s.length
    · have u1 : (c : Int) < (s.length : Int) := by omega
      have HTL := Lib.hid (HTF.out c hac hlt)
      have hmin : min (c + 1) s.length = c + 1 := by omega
      have hml : (midL s q0 (c + 1)).length = c + 1 - q0 := midL_length _ _ _ (by omega)
      have hq0 : q0 ≤ c := by have := HQ0.out; have := HTL.out.some; omega
      obtain ⟨l, hl⟩ : ∃ l, midL s q0 (c + 1) = l := ⟨_, rfl⟩
      have HLL := Lib.hid hl
      rw [hmin, hl] at HR
      rw [hl] at HTL hml
      have hlne : l ≠ [] := by
        rintro rfl
        simp at hml
        omega
      have HST := Lib.hid (lpstr_any HR.out.1.text hlne)
      obtain ⟨O, hO⟩ : ∃ O, ofR us s (c + 1) skip = O := ⟨_, rfl⟩
      have HO := Lib.hid hO
      obtain ⟨e, he⟩ : ∃ e, c + covN O = e := ⟨_, rfl⟩
      have HEE := Lib.hid he
      have HE : Hid (∀ W, But w.heap.size b w W → Calls Tryz.prog 44 #[.pointer (some ⟨bl, 0, none⟩), .string ⟨l.toArray⟩, .int .i64 (c : Int)] W fun E w' => ∃ x : Rc, E = .returned (.tuple #[x.val, .int .i64 (e : Int)]) ∧ x.R = O ∧ IdsAt w' x ∧ Below W.heap.size W w') := Lib.hid fun W hW => by
        refine (lpev_any (HL.out W hW) HTL.out (by omega) (by omega) HUN.out.1 HUN.out.2).mono ?_
        rintro E w' ⟨x, rfl, hx, h3⟩
        refine ⟨x, ?_, hx.trans hO, h3⟩
        rw [hx, hO, he]
      have hcvl : e ≤ c + 1000000 := by have := HCOV.out (c + 1); rw [hO] at this; omega
      have hcvp : c < e := by have := cov_pos us s (c + 1) skip; rw [hO] at this; omega
      clear hl hlne hmin hO he
      go_wp2_with fail
      refine HS.out.mono ?_
      rintro E w' ⟨rfl, hw⟩
      obtain rfl := hw.symm
      clear hw HS
      go_wp2_with fail
      refine HST.out.mono ?_
      rintro E w4 ⟨rfl, htx4, hsv4⟩
      have HR4 := Lib.hid (And.intro (HR.out.1.string htx4 hsv4) HR.out.2)
      have HE4 := Lib.hid (HE.out w4 HR4.out.1.frame)
      clear htx4 hsv4 HST HE HR
      go_wp2_with fail
      refine HE4.out.mono ?_
      rintro E w5 ⟨⟨⟨k, n, r, ids⟩, aa, cc⟩, rfl, hxR, hid, hb5⟩
      dsimp only at hxR hid
      subst hxR
      dsimp only [Rc.val, Rc.sl]
      have HR5 := Lib.hid (And.intro ((HR4.out.1.below hb5).add hid) HR4.out.2)
      clear hid hb5 HE4 HR4
      have hX6 := heap_alloc_new w5 (.cells #[.int .i64 (k : Int), .int .i64 (n : Int), .int .i64 (r : Int), .slice aa ids.length cc] 45)
      have hB6 := (Below.refl w5.heap.size w5).alloc (Nat.le_refl _) (.cells #[.int .i64 (k : Int), .int .i64 (n : Int), .int .i64 (r : Int), .slice aa ids.length cc] 45)
      obtain ⟨w6, hw6⟩ : ∃ w6, w5.alloc (.cells #[.int .i64 (k : Int), .int .i64 (n : Int), .int .i64 (r : Int), .slice aa ids.length cc] 45) = w6 := ⟨_, rfl⟩
      rw [hw6] at hX6 hB6
      have HX6 := Lib.hid hX6
      have hs6 : w6.heap.size = w5.heap.size + 1 := by rw [← hw6]; simp
      have HS6 := Lib.hid hs6
      have HR6 := Lib.hid (And.intro (HR5.out.1.below hB6) HR5.out.2)
      have HXne : Hid (w5.heap.size ≠ w.heap.size ∧ some w5.heap.size ≠ vT.ownBlock ∧ w5.heap.size ≠ b) := Lib.hid ⟨fun e => by have := HR5.out.1.text.lt; omega, fun e => by have := (HR5.out.1.text.row e.symm).2.1; omega, fun e => by have := HR5.out.1.car.lt; omega⟩
      have HS := Lib.hid (caseen_any HR6.out.1.car.car)
      clear hX6 hB6 hs6 HR5
      go_wp2_with fail
      try rw [hw6]
      refine HS.out.mono ?_
      rintro E w' ⟨rfl, hw⟩
      obtain rfl := hw.symm
      clear hw HS hw6
      by_cases hg : s.length < e
      · have g1 : (s.length : Int) < (e : Int) := by omega
        go_wp2
        try rw [Exit.noGoto_ret]
        go_ret2
        exact ⟨_, rs, c, d, rfl, HR6.out.1.recs, fun y hy => HR6.out.1.ids y (List.mem_append_left _ hy), HR6.out.2.1, .inr (by rw [HO.out, HEE.out]; exact hg), hac, hcs, HR6.out.2.2, HR6.out.1.car.car, HR6.out.1.frame⟩
      · have g1 : ¬ (s.length : Int) < (e : Int) := by omega
        have hgg := hg
        have wA : IntKind.i64.wrap ((c : Int) + 1) = ((c + 1 : Nat) : Int) := by rw [IntKind.wrap_i64]; omega
        have wB : IntKind.i64.wrap ((e : Int) + 1) = ((e + 1 : Nat) : Int) := by rw [IntKind.wrap_i64]; omega
        have HLY := Lib.hid (lplay_any HR6.out.1.text HR6.out.1.car HR6.out.1.apart (by omega) (c + 1) (e + 1) (by have := HR6.out.2.2; omega) (by omega) (by omega))
        rw [← HLL.out, HMID.out c hac (e + 1) (by omega) hlt] at HLY
        go_wp2_with fail
        refine HLY.out.mono ?_
        rintro E w7 ⟨rfl, vT7, htx7, hv7, hsv7⟩
        have HR7 := Lib.hid (And.intro (HR6.out.1.lay htx7 hv7 hsv7) HR6.out.2)
        have HX7 := Lib.hid ((hsv7.block _ (heap_lt HX6.out) HXne.out.1 HXne.out.2.1).trans HX6.out)
        have HPS := Lib.hid (lppass_any HR7.out.1.car (by omega) e (by have := HR7.out.2.2; omega) (by omega))
        clear htx7 hv7 hsv7 HLY HR6 HX6
        go_wp2_with fail
        refine HPS.out.mono ?_
        rintro E w8 ⟨rfl, ⟨vC8, hc8, hv8⟩, hbt8⟩
        have HR8 := Lib.hid (And.intro (HR7.out.1.pass hc8 hv8 hbt8) HR7.out.2)
        have HX8 := Lib.hid ((hbt8.block _ (heap_lt HX7.out) HXne.out.2.2).trans HX7.out)
        clear hc8 hv8 hbt8 HPS HR7 HX7
        obtain ⟨k0, k1, k2, k3⟩ := rec_reads HX8.out
        obtain ⟨i0, hi, hz0, hz1, hz2⟩ := info_parts rec_info
        have hNew := heap_alloc_new w8 (.cells #[.int .i64 (k : Int), .int .i64 (n : Int), .int .i64 (r : Int), .slice aa ids.length cc] 45)
        have hB9 := (Below.refl w8.heap.size w8).alloc (Nat.le_refl _) (.cells #[.int .i64 (k : Int), .int .i64 (n : Int), .int .i64 (r : Int), .slice aa ids.length cc] 45)
        have HR9 := Lib.hid (And.intro (HR8.out.1.below hB9) HR8.out.2)
        have hrn : rs.length ≤ s.length := by
          have h := HR8.out.2.1.le (by omega)
          rw [evs_length] at h
          omega
        have hrn2 : (rs.length + 1) * 48 ≤ 140737488355328 := by omega
        have hfs := HR8.out.1.frame.size
        have hrc := HR9.out.1.recs
        clear hB9 HR8
        go_wp2_with (at_builtin; refine wpList_append_own _ rfl _ _ 34 rfl w.heap.size 45 i0 (.agg #[.int .i64 0, .int .i64 0, .int .i64 0, .slice none 0 0]) 4 48 Tryz.underlying34 hi hz0 hz1 hz2 rfl (by decide) _ _ _ rfl hrc ⟨w8.heap.size, 0, none⟩ 1 1 (Rc.cells ⟨⟨k, n, r, ids⟩, aa, cc⟩) rfl rfl ?c1 ?c2 ?c3 ?c4 ?c5 ?_)
        case c1 => exact rec_news (x := ⟨⟨k, n, r, ids⟩, aa, cc⟩) hNew
        case c2 =>
          intro u hu
          simp [Rc.cells, Rc.sl] at hu
          rcases hu with rfl | rfl | rfl | rfl <;> rfl
        case c3 => unfold maxLen; omega
        case c4 => omega
        case c5 => simp; omega
        intro v' w10 hown' hgrow _
        have hcl : rcCells (rs ++ [⟨⟨k, n, r, ids⟩, aa, cc⟩]) = rcCells rs ++ Rc.cells ⟨⟨k, n, r, ids⟩, aa, cc⟩ := by rw [rcCells_app, rcCells_one]
        have hll : (rs ++ [(⟨⟨k, n, r, ids⟩, aa, cc⟩ : Rc)]).length = rs.length + 1 := by simp
        rw [← hcl, ← hll] at hown'
        have HR10 := Lib.hid (And.intro (HR9.out.1.append hown' hgrow) HR9.out.2.1)
        have HG10 : Hid (Goes us s skip a (evs (rs ++ [⟨⟨k, n, r, ids⟩, aa, cc⟩])) e) := Lib.hid (by
          have h := Goes.one (us := us) (s := s) (skip := skip) (a := c) hlt (by rw [HO.out, HEE.out]; omega)
          rw [HO.out, HEE.out] at h
          have h2 := HR10.out.2.app h
          rw [evs_app]
          exact h2)
        clear hown' hgrow hcl hll HR9 hrc hNew
        go_wp2
        exact ⟨⟨e, vT7, vC8, e, rs ++ [⟨⟨k, n, r, ids⟩, aa, cc⟩], by omega, by omega, rfl, Lib.hid ⟨HR10.out.1, HG10.out, Nat.le_refl _⟩⟩, by simp [RowKit.intOf]; omega⟩
    · have u1 : ¬ (c : Int) < (s.length : Int) := by omega
      go_wp2_with fail
      refine HS.out.mono ?_
      rintro E w' ⟨rfl, hw⟩
      obtain rfl := hw.symm
      clear hw
      go_wp2
      try rw [Exit.noGoto_ret]
      go_ret2
      exact ⟨_, rs, c, d, rfl, HR.out.1.recs, HR.out.1.ids, HR.out.2.1, .inl (by omega), hac, hcs, HR.out.2.2, HR.out.1.car.car, HR.out.1.frame⟩

/-- .. from any end that there is. -/
theorem lprun_all {w0 w : World} {b bl base keep done : Nat} {us : List (List UInt8)} {skip : Bool} {s : List UInt8} (hL : IsLoop w0 bl us skip) (hw0 : Below w0.heap.size w0 w) (hb0 : w0.heap.size ≤ b) (hc : IsCarry w base b keep s done) (hk : max (mostL us) 2 ≤ keep) (hs : s.length ≤ 400000) (hu : ∀ t ∈ us, 0 < t.length ∧ t.length ≤ 1000000) (hn : us.length ≤ 1000000) (a : Nat) (h1 : done ≤ a) (h2 : a ≤ s.length) :
    Calls Tryz.prog 22 #[.pointer (some ⟨bl, 0, none⟩), .pointer (some ⟨b, 0, none⟩), .int .i64 (a : Int)] w (RetRun us s skip base b keep a w) := by
  by_cases hlt : a < s.length
  · exact lprun_any hL hw0 hb0 hc hk hs hu hn a h1 hlt
  · refine (lprun_no (lptail_far (hL.below hw0) ⟨_, rfl⟩ (caseen_any hc) (a : Int) (.inr (by omega)))).mono ?_
    rintro E w' ⟨rfl, q, rfl⟩
    exact ⟨_, [], a, done, rfl, World.ownsRow_nil _ _ _ _, fun x hx => (by cases hx), rfl, .inl (by omega), Nat.le_refl _, h2, h1, hc.drewN q, But.of ⟨rfl, rfl, rfl, Nat.le_refl _, fun _ _ => rfl⟩⟩
end Go.Proofs.YtmgcdhcidojdhaaGreat
