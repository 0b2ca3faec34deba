/-
  The numbers of the patterns that end at an end: Hits: walked.
-/
import Derived.Test.YtmgcdhcidojdhaaGreatPbW
import Derived.Test.YtmgcdhcidojdhaaGreatBuEg
import Derived.Test.YtmgcdhcidojdhaaGreatBn8
import Derived.Test.YtmgcdhcidojdhaaGreatBn5
import Derived.StillTailTactics
set_option linter.unusedSimpArgs false
set_option linter.unusedVariables false
namespace Go.Proofs.YtmgcdhcidojdhaaGreat
open Go.RowKit Go.Shelf

attribute [local go_sem] Oper.semAt_some

/-- Those of the numbers that came whose patterns end here. -/
def accB (us : List (List UInt8)) (s : List UInt8) (e c : Nat) (pre : List (InB us c)) : List Int := (pre.filter fun x => stB (txN us x.1) s e).map Subtype.val
theorem accB_hit {us : List (List UInt8)} {s : List UInt8} {e c : Nat} {pre : List (InB us c)} {x : InB us c} {m : Nat} (hx : x.1 = (m : Int)) (h : stB (txN us x.1) s e = true) : accB us s e c (pre ++ [x]) = accB us s e c pre ++ [(m : Int)] := by
  unfold accB
  rw [List.filter_append, List.map_append, List.filter_cons, if_pos h, ← hx]; rfl
theorem accB_miss {us : List (List UInt8)} {s : List UInt8} {e c : Nat} {pre : List (InB us c)} {x : InB us c} (h : stB (txN us x.1) s e = false) : accB us s e c (pre ++ [x]) = accB us s e c pre := by
  unfold accB
  rw [List.filter_append, List.map_append, List.filter_cons, if_neg (by rw [h]; decide)]; simp
theorem accB_length {us : List (List UInt8)} {s : List UInt8} {e c : Nat} (pre : List (InB us c)) : (accB us s e c pre).length ≤ pre.length := by
  unfold accB
  rw [List.length_map]; exact List.length_filter_le _ _
theorem accB_all {us : List (List UInt8)} {s : List UInt8} {e : Nat} (hu : ∀ t ∈ us, 0 < t.length) : accB us s e (byN s (e - 1)) (idsL us (byN s (e - 1))).attach = idsK us s e us.length := by
  rw [hit_all hu]
  exact inB_filter fun x => stB (txN us x) s e

theorem owns_less {w : World} {base base' : Nat} {e : TypeId} {size : Nat} {v : Value} {n : Nat} {xs : List Value} (hb : base' ≤ base) (h : w.ownsRow base e size v n xs) : w.ownsRow base' e size v n xs := by
  obtain ⟨h1, h2⟩ := h
  refine ⟨h1, h2.imp id ?_⟩
  rintro ⟨g, cap, cur, hv, hg, r⟩
  exact ⟨g, cap, cur, hv, Nat.le_trans hb hg, r⟩

set_option maxRecDepth 100000 in
set_option maxHeartbeats 1000000 in
theorem pbhits_blind {q : Option Addr} {t : List UInt8} (h : ∀ W, Calls Tryz.prog 80 #[.pointer q, .string ⟨t.toArray⟩] W fun e w' => e = .returned (.bool true) ∧ w' = W) (w : World) :
    Calls Tryz.prog 82 #[.pointer q, .string ⟨t.toArray⟩] w fun e w' => e = .returned (.slice none 0 0) ∧ Below w.heap.size w w' := by
  have b1 := (Below.refl w.heap.size w).alloc (Nat.le_refl _) (.cells #[.pointer q] 66)
  have z1 : (w.alloc (.cells #[.pointer q] 66)).heap.size = w.heap.size + 1 := by simp
  have b2 := b1.alloc (by omega) (.cells #[.string ⟨t.toArray⟩] 9)
  obtain ⟨w1, hw1⟩ : ∃ w1, (w.alloc (.cells #[.pointer q] 66)).alloc (.cells #[.string ⟨t.toArray⟩] 9) = w1 := ⟨_, rfl⟩
  have q0 : w1.cell? ⟨w.heap.size, 0, none⟩ = some (.pointer q) := by
    rw [← hw1, World.cell?_alloc_lt _ _ _ (by simp), Lib.cell_of_heap (heap_alloc_new w _)]; rfl
  have q1 : w1.cell? ⟨w.heap.size + 1, 0, none⟩ = some (.string ⟨t.toArray⟩) := by
    have := heap_alloc_new (w.alloc (.cells #[.pointer q] 66)) (.cells #[.string ⟨t.toArray⟩] 9)
    rw [z1] at this
    rw [← hw1, Lib.cell_of_heap this]; rfl
  rw [hw1] at b2
  have HB := Lib.hid h
  clear h b1 z1
  go_enter Tryz.func82, Tryz.ntmps82
  go_wp2_with fail
  refine (HB.out _).mono ?_
  rintro E w' ⟨rfl, hw'⟩
  obtain rfl := hw'.symm
  go_wp2
  go_ret
  exact ⟨rfl, b2⟩

set_option maxRecDepth 100000 in
set_option maxHeartbeats 4000000 in
theorem pbhits_any {w : World} {b : Nat} {us : List (List UInt8)} (h : IsProbe w b us) {s t : List UInt8} {e : Nat} (ht : IsTail us s e t) (hs : t.length ≤ 1000000) (hu : ∀ t ∈ us, 0 < t.length) (hn : us.length ≤ 1000000) :
    Calls Tryz.prog 82 #[.pointer (some ⟨b, 0, none⟩), .string ⟨t.toArray⟩] w (RetN (idsK us s e us.length) w) := by
  have ho := ht.some
  have hby := ht.byte (d := 0) ho
  have hc := byN_lt s (e - 1)
  have hil : (idsL us (byN s (e - 1))).length ≤ us.length := bids_length us _ _
  obtain ⟨i0, hi, hz0, hz1, hz2⟩ := info_parts int_info
  have HB := Lib.hid (fun W => pbblind_any b t W false (full_of_pos t ho))
  have HK := Lib.hid (fun (W : World) => pbback_any t 0 W ho hs)
  rw [show ((0 : Nat) : Int) = 0 from rfl, hby, Nat.sub_zero] at HK
  have HEN := Lib.hid (fun (q : List UInt8) (hq : q ∈ us) (W : World) => ends_any t q W (by omega))
  have b1 := (Below.refl w.heap.size w).alloc (Nat.le_refl _) (.cells #[.pointer (some ⟨b, 0, none⟩)] 66)
  have z1 : (w.alloc (.cells #[.pointer (some ⟨b, 0, none⟩)] 66)).heap.size = w.heap.size + 1 := by simp
  have b2 := b1.alloc (by omega) (.cells #[.string ⟨t.toArray⟩] 9)
  have z2 : ((w.alloc (.cells #[.pointer (some ⟨b, 0, none⟩)] 66)).alloc (.cells #[.string ⟨t.toArray⟩] 9)).heap.size = w.heap.size + 2 := by simp
  obtain ⟨w1, hw1⟩ : ∃ w1, (w.alloc (.cells #[.pointer (some ⟨b, 0, none⟩)] 66)).alloc (.cells #[.string ⟨t.toArray⟩] 9) = w1 := ⟨_, rfl⟩
  have q0 : w1.cell? ⟨w.heap.size, 0, none⟩ = some (.pointer (some ⟨b, 0, none⟩)) := by
    rw [← hw1, World.cell?_alloc_lt _ _ _ (by simp), Lib.cell_of_heap (heap_alloc_new w _)]; rfl
  have q1 : w1.cell? ⟨w.heap.size + 1, 0, none⟩ = some (.string ⟨t.toArray⟩) := by
    have := heap_alloc_new (w.alloc (.cells #[.pointer (some ⟨b, 0, none⟩)] 66)) (.cells #[.string ⟨t.toArray⟩] 9)
    rw [z1] at this
    rw [← hw1, Lib.cell_of_heap this]; rfl
  rw [hw1] at b2 z2
  have HP := Lib.hid (h.below b2)
  clear h b1 z1
  refine callsIn_wide (n := 5) |>.1 ?_
  refine callsIn_of_wp_marks Tryz.func82 rfl trivial ?_ rfl
  simp only [Tryz.ntmps82, List.size_toArray, List.length_cons, List.length_nil, Nat.reduceAdd, Nat.reduceSub, Array.replicate_succ, Array.replicate_zero, List.push_toArray, List.append_toArray, List.nil_append, List.cons_append]
  refine wpIn_wide.2 ?_
  go_wp2_with fail
  refine (HB.out _).mono ?_
  rintro E w' ⟨rfl, hw'⟩
  obtain rfl := hw'.symm
  obtain ⟨y, bu, sh, pr, l, c0, c1, c2, c3, hp, hbu, hsh, hpr⟩ := HP.out.reads
  have hlt := HP.out.lt
  have k3 : Below w1.heap.size w1 (w1.alloc (.cells #[.slice none 0 0] 43)) := (Below.refl _ _).alloc (Nat.le_refl _) _
  have bO := Boxed.new w1 43 (.slice none 0 0)
  have z3 : (w1.alloc (.cells #[.slice none 0 0] 43)).heap.size = w1.heap.size + 1 := by simp
  obtain ⟨w2, hw2⟩ : ∃ w2, w1.alloc (.cells #[.slice none 0 0] 43) = w2 := ⟨_, rfl⟩
  rw [hw2] at k3 bO z3
  have HP1 := Lib.hid hp
  have HBU := Lib.hid hbu
  have HEA := Lib.hid (fun (W : World) => each_any bu (byN s (e - 1)) W)
  -- what lies below, wherever it is read
  have HC0 : Hid (∀ W, Below w1.heap.size w1 W → W.cell? ⟨w.heap.size, 0, none⟩ = some (.pointer (some ⟨b, 0, none⟩)) ∧ W.cell? ⟨w.heap.size + 1, 0, none⟩ = some (.string ⟨t.toArray⟩) ∧ W.cell? ⟨b, 0, none⟩ = some (.pointer y) ∧ W.cell? ⟨b, 1, none⟩ = some (.pointer bu)) :=
    Lib.hid (fun W hW => ⟨(hW.cell (p := ⟨w.heap.size, 0, none⟩) (by show w.heap.size < _; omega)).trans q0, (hW.cell (p := ⟨w.heap.size + 1, 0, none⟩) (by show w.heap.size + 1 < _; omega)).trans q1, (hW.cell (p := ⟨b, 0, none⟩) hlt).trans c0, (hW.cell (p := ⟨b, 1, none⟩) hlt).trans c1⟩)
  obtain ⟨p0, p1, p2, p3⟩ := HC0.out w2 k3
  clear HP hp hbu hsh hpr c0 c1 c2 c3 q0 q1
  go_wp2_with fail
  refine wp_region_still_tail 6 (by kernel_rfl) (by kernel_rfl) ?_
  simp only [List.take_succ_cons, List.take_zero, List.drop_succ_cons, List.drop_zero]
  repeat still_step
  still_call (HK.out _)
  refine wpStill_nil ?_
  change wpList _ _ _ _ _ w2.drew
  have n4 : Below w1.heap.size w1 w2.drew := k3.drew
  have z4 : w2.drew.heap.size = w1.heap.size + 1 := z3
  have bO4 : Boxed w2.drew w1.heap.size 43 (.slice none 0 0) := bO
  clear p0 p1 p2 p3 k3 bO z3 hw2
  generalize w2.drew = w3 at *
  go_wp2_with fail
  refine (HEA.out _).mono ?_
  rintro E w' ⟨rfl, hw4⟩
  have kE := eachWorld_below (.pointer bu) (byN s (e - 1)) w3
  have hz4 := eachWorld_size (.pointer bu) (byN s (e - 1)) w3
  have d1 := eachWorld_one (.pointer bu) (byN s (e - 1)) w3
  have d2 := eachWorld_two (.pointer bu) (byN s (e - 1)) w3
  have bO5 : Boxed (eachWorld (.pointer bu) (byN s (e - 1)) w3) w1.heap.size 43 (.slice none 0 0) := (bO4.alloc _).alloc _
  rw [← hw4] at kE hz4 d1 d2 bO5
  have n5 := n4.trans (kE.mono n4.size)
  rw [z4] at hz4 d1 d2
  dsimp only [eachFunc]
  rw [z4]
  clear hw4 kE n4 bO4 HK HB HEA
  have HS := Lib.hid (each_walks Subtype.val (idsL us (byN s (e - 1))).attach 4 (by omega) (w1.heap.size + 1) (.pointer bu) (idsL us) (lstL us) (byN s (e - 1)) hc w1 w' n5 (inB_all _ _) (by rw [List.length_attach]; omega) (by omega) d1 d2 HBU.out)
  have hxl : (idsL us (byN s (e - 1))).attach.length ≤ 1000000 := by rw [List.length_attach]; omega
  have HST : Hid (∀ q ∈ us, Lib.hasSuffix t q = stB q s e) := Lib.hid (fun q hq => by
    rw [← ht.ends hq, Bool.eq_iff_iff]
    simp only [Lib.hasSuffix, List.isSuffixOf_iff_suffix, decide_eq_true_eq])
  go_wp2_with fail
  refine (wpIn_wide (n := 5)).1 ?_
  apply wpIn_rangeFunc_ownF (F := Fence.wide) (n := 5) rfl (by omega) (gf := 109) (lb := #[.pointer (some ⟨w1.heap.size + 1, 0, none⟩), .pointer (some ⟨w1.heap.size + 1 + 1, 0, none⟩)]) rfl trivial (enters_of Tryz.func109 (by kernel_rfl) rfl)
    HS.out belowK_t (belowK_b (by omega)) (Below.refl _ _) (fun _ => rfl)
    (fun pre W => (∃ v, Boxed W w1.heap.size 43 v ∧ W.ownsRow w1.heap.size 3 1 v (accB us s e (byN s (e - 1)) pre).length (inCells (accB us s e (byN s (e - 1)) pre)) ∧ True) ∧ Below w1.heap.size w1 W)
    (fun _ _ _ => False)
    (OwnFrom.and (Own.from (holdsRow_own w1.heap.size w1.heap.size 43 3 1 (fun pre : List (InB us (byN s (e - 1))) => (accB us s e (byN s (e - 1)) pre).length) (fun pre => inCells (accB us s e (byN s (e - 1)) pre)) (fun _ _ => True)) _) (ownFrom_below (Nat.le_refl _) (by omega)))
    (fun _ _ _ _ _ hs _ _ => hs)
    ⟨⟨_, bO5, World.ownsRow_nil _ _ _ _, trivial⟩, n5⟩
  case hassign =>
    intro l x W K hK
    gi_wp2
    exact hK
  case hbody =>
    rintro l pre x W ⟨⟨v, hv, hrow, _⟩, hB⟩ hlt
    obtain ⟨p0, p1, p2, p3⟩ := HC0.out W hB
    have hcv : W.cell? ⟨w.heap.size + 2, 0, none⟩ = some v := by rw [← z2]; exact hv.cell
    obtain ⟨m, hxm, hum, hmem, _, _⟩ := ids_all x.2
    have CA := Lib.hid (ptat_all (HP1.out.below hB) m _ hum)
    have CE := Lib.hid (HEN.out _ hmem W)
    rw [HST.out _ hmem] at CE
    have hpl : (accB us s e (byN s (e - 1)) pre).length ≤ 1000000 := by have := accB_length (s := s) (e := e) pre; omega
    have hsz := hB.size
    rw [hxm]
    cases hq : stB (txN us x.1) s e with
    | true =>
      have HF : Hid ((accB us s e (byN s (e - 1)) (pre ++ [x])) = (accB us s e (byN s (e - 1)) pre) ++ [(m : Int)]) := Lib.hid (accB_hit hxm hq)
      rw [hq] at CE
      generalize (accB us s e (byN s (e - 1)) pre) = acc at hrow hpl HF
      generalize txN us x.1 = q at *
      clear hq hum hmem
      gi_wp2_with fail
      refine ⟨trivial, (CallsIn.inRound l (callsIn_wide.2 CA.out)).mono ?_⟩
      rintro E w' ⟨rfl, hw'⟩
      obtain rfl := hw'.symm
      gi_wp2_with fail
      refine ⟨trivial, (CallsIn.inRound l (callsIn_wide.2 CE.out)).mono ?_⟩
      rintro E w' ⟨rfl, hw'⟩
      obtain rfl := hw'.symm
      gi_wp2_with (gi_at_builtin; refine wpListIn_append_own _ rfl _ _ 43 rfl w1.heap.size 3 i0 (.int .i64 0) 1 8 Tryz.underlying43 hi hz0 hz1 hz2 rfl (by decide) _ _ _ rfl (hrow.alloc _) ⟨W.heap.size, 0, none⟩ 1 1 [.int .i64 (m : Int)] rfl rfl (cell_one_new _ _ _) (by simp [Value.oneCell']) (by unfold maxLen; omega) (by omega) (by simp; omega) ?_; intro v' w4 hown' hgrow _; obtain ⟨g', cap', rfl⟩ := ownsRow_succ hown'; obtain ⟨hv1, hv2, hr2, hk2, hb2⟩ := hv.appended (by decide) hrow hsz (Nat.le_refl _) hown' hgrow; have hc1 : w4.cell? ⟨w.heap.size + 2, 0, none⟩ = some v := by { rw [← z2]; exact hv1.cell }; have hf1 : w4.frozen? ⟨w.heap.size + 2, 0, none⟩ = false := by { rw [← z2]; exact hv1.frozen })
      rw [← z2]
      exact ⟨hk2, hb2, ⟨_, hv2, by rw [HF.out, inCells_snoc, List.length_append]; exact hr2, trivial⟩, hB.trans hb2⟩
    | false =>
      have HF : Hid ((accB us s e (byN s (e - 1)) (pre ++ [x])) = (accB us s e (byN s (e - 1)) pre)) := Lib.hid (accB_miss hq)
      rw [hq] at CE
      have HI : Hid (∃ v, Boxed W w1.heap.size 43 v ∧ W.ownsRow w1.heap.size 3 1 v (accB us s e (byN s (e - 1)) (pre ++ [x])).length (inCells (accB us s e (byN s (e - 1)) (pre ++ [x]))) ∧ True) := Lib.hid (by rw [HF.out]; exact ⟨v, hv, hrow, trivial⟩)
      generalize txN us x.1 = q at *
      clear hq hum hmem HF
      gi_wp2_with fail
      refine ⟨trivial, (CallsIn.inRound l (callsIn_wide.2 CA.out)).mono ?_⟩
      rintro E w' ⟨rfl, hw'⟩
      obtain rfl := hw'.symm
      gi_wp2_with fail
      refine ⟨trivial, (CallsIn.inRound l (callsIn_wide.2 CE.out)).mono ?_⟩
      rintro E w' ⟨rfl, hw'⟩
      obtain rfl := hw'.symm
      gi_wp2
      exact ⟨KeepsOthers.refl _, Below.refl _ _, HI.out, hB⟩
  case hdone =>
    rintro D ys W hD rfl ⟨⟨v, hv, hrow, _⟩, hB⟩ hK
    have hcv : W.cell? ⟨w.heap.size + 2, 0, none⟩ = some v := by rw [← z2]; exact hv.cell
    have HE : Hid (accB us s e (byN s (e - 1)) (idsL us (byN s (e - 1))).attach = idsK us s e us.length) := Lib.hid (accB_all hu)
    rw [HE.out] at hrow
    go_wp2
    refine ⟨by simp, .inl ⟨_, _, rfl, run_takeDeferred hK, ?_⟩⟩
    exact ⟨_, results_tmp rfl _ _ _, v, rfl, owns_less (by omega) (ownsRow_putObj hrow _ hK rfl), b2.trans ((hB.mono b2.size).trans (belowK_b (w := w) (Nat.le_refl _) W D _ _ (by omega) hK rfl rfl))⟩
  case hstop =>
    rintro D c pre W _ _ h _
    exact h.elim
end Go.Proofs.YtmgcdhcidojdhaaGreat
