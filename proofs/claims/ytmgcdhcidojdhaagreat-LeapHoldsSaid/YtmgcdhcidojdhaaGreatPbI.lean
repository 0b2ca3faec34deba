/-
  The least distance that refutes all patterns: Miss: walked.
-/
import Derived.Test.YtmgcdhcidojdhaaGreatPbH
import Derived.Test.YtmgcdhcidojdhaaGreatBuEg
import Derived.Lib.MinMax
import Derived.WalkMore
import Derived.StillTailTactics
import Derived.Test.YtmgcdhcidojdhaaGreatBn9
set_option linter.unusedSimpArgs false
set_option linter.unusedVariables false
namespace Go.Proofs.YtmgcdhcidojdhaaGreat
open Go.RowKit Go.Shelf

attribute [local go_sem] Oper.semAt_some

/-- The mark that a range over a function leaves. -/
def markD (D : Nat) : Deferred := { target := .collected D, args := #[] }
theorem put_obj {W : World} {D D' : Nat} (h : D' ≠ D) (o : Obj) : (W.putObj D o).heap[D']? = W.heap[D']? := by
  simp [World.putObj, Array.getElem?_modify, Ne.symm h]
/-- A function that leaves with such marks, whatever their number. -/
theorem leaves_marks {F : Fence} {n : Nat} {P : Program} {fn : Func} {tmps : Array Value} {R : Ending → World → Prop} (B : Nat) : ∀ (Ds : List Nat) (W : World), B ≤ W.heap.size → Ds.Nodup → (∀ D ∈ Ds, B ≤ D ∧ W.heap[D]? = some (.deferred (some []))) →
    (∀ W', Below B W W' → ∃ v, (results fn tmps).run P W' = .ok v W' ∧ R (.returned v) W') → LeavesInM F n P fn tmps R (Ds.map markD) .returning W
  | [], W, _, _, _, h => h W (Below.refl _ _)
  | D :: Ds, W, hW, hn, hD, h => by
    obtain ⟨h1, h2⟩ := hD D List.mem_cons_self
    have hb : Below B W (W.putObj D (.deferred none)) := (Below.refl B W).grown (grownBy_putObj' W D _) hW (fun k e => by cases e; omega)
    refine ⟨by simp, .inl ⟨D, _, rfl, run_takeDeferred h2, ?_⟩⟩
    refine leaves_marks B Ds _ (by have := hb.size; omega) (List.nodup_cons.1 hn).2 (fun D' hm => ?_) (fun W' hW' => h W' (hb.trans hW'))
    have hne : D' ≠ D := fun e => (List.nodup_cons.1 hn).1 (e ▸ hm)
    obtain ⟨h3, h4⟩ := hD D' (List.mem_cons_of_mem _ hm)
    exact ⟨h3, (put_obj hne _).trans h4⟩

set_option maxRecDepth 100000 in
set_option maxHeartbeats 1000000 in
theorem pbmiss_blind {q : Option Addr} {t : List UInt8} {e : Int} (h : ∀ W, Calls Tryz.prog 80 #[.pointer q, .string ⟨t.toArray⟩] W fun e w' => e = .returned (.bool true) ∧ w' = W) (w : World) :
    Calls Tryz.prog 83 #[.pointer q, .string ⟨t.toArray⟩, .int .i64 e] w fun e w' => e = .returned (.tuple #[.int .i64 0, .bool false]) ∧ Below w.heap.size w w' := by
  have b1 := (Below.refl w.heap.size w).alloc (Nat.le_refl _) (.cells #[.pointer q] 66)
  have z1 : (w.alloc (.cells #[.pointer q] 66)).heap.size = w.heap.size + 1 := by simp
  have b2 := b1.alloc (by omega) (.cells #[.string ⟨t.toArray⟩] 9)
  have z2 : ((w.alloc (.cells #[.pointer q] 66)).alloc (.cells #[.string ⟨t.toArray⟩] 9)).heap.size = w.heap.size + 2 := by simp
  have b3 := b2.alloc (by omega) (.cells #[.int .i64 e] 3)
  obtain ⟨w1, hw1⟩ : ∃ w1, ((w.alloc (.cells #[.pointer q] 66)).alloc (.cells #[.string ⟨t.toArray⟩] 9)).alloc (.cells #[.int .i64 e] 3) = w1 := ⟨_, rfl⟩
  have q0 : w1.cell? ⟨w.heap.size, 0, none⟩ = some (.pointer q) := by
    rw [← hw1, World.cell?_alloc_lt _ _ _ (by simp; omega), World.cell?_alloc_lt _ _ _ (by simp), Lib.cell_of_heap (heap_alloc_new w _)]; rfl
  have q1 : w1.cell? ⟨w.heap.size + 1, 0, none⟩ = some (.string ⟨t.toArray⟩) := by
    have := heap_alloc_new (w.alloc (.cells #[.pointer q] 66)) (.cells #[.string ⟨t.toArray⟩] 9)
    rw [z1] at this
    rw [← hw1, World.cell?_alloc_lt _ _ _ (by simp), Lib.cell_of_heap this]; rfl
  rw [hw1] at b3
  have HB := Lib.hid h
  clear h b1 z1 b2 z2
  go_enter Tryz.func83, Tryz.ntmps83
  go_wp2
  go_step3
  go_wp2_with fail
  refine (HB.out _).mono ?_
  rintro E w' ⟨rfl, hw'⟩
  obtain rfl := hw'.symm
  go_wp2
  try rw [Exit.noGoto_ret]
  go_ret2
  exact ⟨rfl, b3⟩

set_option maxRecDepth 100000 in
set_option maxHeartbeats 4000000 in
theorem pbmiss_any {w : World} {b : Nat} {us : List (List UInt8)} (h : IsProbe w b us) {s t : List UInt8} {e : Nat} (ht : IsTail us s e t) (hs : t.length ≤ 1000000) (he : e ≤ 1000000) (hu : ∀ t ∈ us, 0 < t.length ∧ t.length ≤ 1000000) (hn : us.length ≤ 1000000) :
    Calls Tryz.prog 83 #[.pointer (some ⟨b, 0, none⟩), .string ⟨t.toArray⟩, .int .i64 (e : Int)] w fun E w' => E = .returned (.tuple #[.int .i64 (misN us s e : Int), .bool (decide (0 < misN us s e))]) ∧ Below w.heap.size w w' := by
  have ho := ht.some
  have hby := ht.byte (d := 0) ho
  have hc := byN_lt s (e - 1)
  have hil : (idsL us (byN s (e - 1))).length ≤ us.length := bids_length us _ _
  have S1 := Lib.hid (bsize t)
  have HB := Lib.hid (fun W => pbblind_any b t W false (full_of_pos t ho))
  have HK := Lib.hid (fun (W : World) => pbback_any t 0 W ho hs)
  rw [show ((0 : Nat) : Int) = 0 from rfl, hby, Nat.sub_zero] at HK
  have b1 := (Below.refl w.heap.size w).alloc (Nat.le_refl _) (.cells #[.pointer (some ⟨b, 0, none⟩)] 66)
  have z1 : (w.alloc (.cells #[.pointer (some ⟨b, 0, none⟩)] 66)).heap.size = w.heap.size + 1 := by simp
  have b2 := b1.alloc (by omega) (.cells #[.string ⟨t.toArray⟩] 9)
  have z2 : ((w.alloc (.cells #[.pointer (some ⟨b, 0, none⟩)] 66)).alloc (.cells #[.string ⟨t.toArray⟩] 9)).heap.size = w.heap.size + 2 := by simp
  have b3 := b2.alloc (by omega) (.cells #[.int .i64 (e : Int)] 3)
  have z3 : (((w.alloc (.cells #[.pointer (some ⟨b, 0, none⟩)] 66)).alloc (.cells #[.string ⟨t.toArray⟩] 9)).alloc (.cells #[.int .i64 (e : Int)] 3)).heap.size = w.heap.size + 3 := by simp
  obtain ⟨w1, hw1⟩ : ∃ w1, ((w.alloc (.cells #[.pointer (some ⟨b, 0, none⟩)] 66)).alloc (.cells #[.string ⟨t.toArray⟩] 9)).alloc (.cells #[.int .i64 (e : Int)] 3) = w1 := ⟨_, rfl⟩
  have q0 : w1.cell? ⟨w.heap.size, 0, none⟩ = some (.pointer (some ⟨b, 0, none⟩)) := by
    rw [← hw1, World.cell?_alloc_lt _ _ _ (by simp; omega), World.cell?_alloc_lt _ _ _ (by simp), Lib.cell_of_heap (heap_alloc_new w _)]; rfl
  have q1 : w1.cell? ⟨w.heap.size + 1, 0, none⟩ = some (.string ⟨t.toArray⟩) := by
    have := heap_alloc_new (w.alloc (.cells #[.pointer (some ⟨b, 0, none⟩)] 66)) (.cells #[.string ⟨t.toArray⟩] 9)
    rw [z1] at this
    rw [← hw1, World.cell?_alloc_lt _ _ _ (by simp), Lib.cell_of_heap this]; rfl
  have q2 : w1.cell? ⟨w.heap.size + 2, 0, none⟩ = some (.int .i64 (e : Int)) := by
    have := heap_alloc_new ((w.alloc (.cells #[.pointer (some ⟨b, 0, none⟩)] 66)).alloc (.cells #[.string ⟨t.toArray⟩] 9)) (.cells #[.int .i64 (e : Int)] 3)
    rw [z2] at this
    rw [← hw1, Lib.cell_of_heap this]; rfl
  rw [hw1] at b3 z3
  have HP := Lib.hid (h.below b3)
  clear h b1 z1 b2 z2
  obtain ⟨y, bu, sh, pr, l, c0, c1, c2, c3, hp, hbu, hsh, hpr⟩ := HP.out.reads
  have hlt := HP.out.lt
  have HP1 := Lib.hid hp
  have HBU := Lib.hid hbu
  have HL := Lib.hid (fun (W : World) (hW : Below w1.heap.size w1 W) => buleast_any (hbu.below hW) _ hc)
  -- what lies below, wherever it is read
  have HC0 : Hid (∀ W, Below w1.heap.size w1 W → W.cell? ⟨w.heap.size, 0, none⟩ = some (.pointer (some ⟨b, 0, none⟩)) ∧ W.cell? ⟨w.heap.size + 1, 0, none⟩ = some (.string ⟨t.toArray⟩) ∧ W.cell? ⟨w.heap.size + 1 + 1, 0, none⟩ = some (.int .i64 (e : Int)) ∧ W.cell? ⟨b, 0, none⟩ = some (.pointer y) ∧ W.cell? ⟨b, 1, none⟩ = some (.pointer bu)) :=
    Lib.hid (fun W hW => ⟨(hW.cell (p := ⟨w.heap.size, 0, none⟩) (by show w.heap.size < _; omega)).trans q0, (hW.cell (p := ⟨w.heap.size + 1, 0, none⟩) (by show w.heap.size + 1 < _; omega)).trans q1, (hW.cell (p := ⟨w.heap.size + 2, 0, none⟩) (by show w.heap.size + 2 < _; omega)).trans q2, (hW.cell (p := ⟨b, 0, none⟩) hlt).trans c0, (hW.cell (p := ⟨b, 1, none⟩) hlt).trans c1⟩)
  obtain ⟨p0, p1, p2, p3, p4⟩ := HC0.out w1 (Below.refl _ _)
  clear HP hp hbu hsh hpr c0 c1 c2 c3 q0 q1 q2
  obtain ⟨c, hcc⟩ : ∃ c, byN s (e - 1) = c := ⟨_, rfl⟩
  obtain ⟨m, hm⟩ : ∃ m, lstL us c = m := ⟨_, rfl⟩
  rw [hcc] at HL hc hil HK
  rw [hm] at HL
  refine callsIn_wide (n := 5) |>.1 ?_
  refine callsIn_of_wp_marks Tryz.func83 rfl trivial ?_ rfl
  simp only [Tryz.ntmps83, List.size_toArray, List.length_cons, List.length_nil, Nat.reduceAdd, Nat.reduceSub, Array.replicate_succ, Array.replicate_zero, List.push_toArray, List.append_toArray, List.nil_append, List.cons_append]
  refine wpIn_wide.2 ?_
  go_wp2
  go_step3
  go_wp2_with fail
  refine (HB.out _).mono ?_
  rintro E w' ⟨rfl, hw'⟩
  obtain rfl := hw'.symm
  go_wp2_with fail
  refine (HK.out _).mono ?_
  rintro E w' ⟨rfl, hw'⟩
  obtain rfl := hw'.symm
  go_wp2_with fail
  refine (HL.out _ (Below.refl _ _)).mono ?_
  rintro E w2 ⟨rfl, hb2⟩
  have e2 := hb2.size
  obtain ⟨p0, p1, p2, p3, p4⟩ := HC0.out w2 hb2
  have d2 := b3.trans (hb2.mono b3.size)
  by_cases hm0 : m = 0 ∨ e < m
  · have HE : Hid (misN us s e = 1) := Lib.hid (mis_room (fun t ht => (hu t ht).1) (by rw [hcc, hm]; exact hm0))
    have hD1 : decide (0 < 1) = true := rfl
    by_cases h0 : m = 0
    · subst h0
      go_wp2
      rw [Exit.noGoto_ret]
      exact ⟨_, results_tmp2 rfl _ _ _, by rw [HE.out]; rfl, d2⟩
    · have g1 : ((m : Int) == 0) = false := by simp [h0]
      have g2 : (e : Int) < (m : Int) := by omega
      go_wp2
      rw [Exit.noGoto_ret]
      exact ⟨_, results_tmp2 rfl _ _ _, by rw [HE.out]; rfl, d2⟩
  · have h0 : ¬ m = 0 := fun h => hm0 (.inl h)
    have h1 : ¬ e < m := fun h => hm0 (.inr h)
    have g1 : ((m : Int) == 0) = false := by simp [h0]
    have g2 : ¬ (e : Int) < (m : Int) := by omega
    have hmt : m ≤ t.length := by
      have h5 := ht.2.2.2.2
      have hn' : 0 < (idsL us c).length := by
        rcases Nat.eq_zero_or_pos (idsL us c).length with h | h
        · exfalso
          refine h0 ?_
          rw [← hm]; unfold lstL lstA; rw [h]; rfl
        · exact h
      obtain ⟨x, hx, e1⟩ := lst_some hn'
      obtain ⟨_, _, _, h3, _, _⟩ := ids_all hx
      have := most_mem h3
      omega
    have HBx := Boxed.new w2 3 (.int .i64 1)
    have hA2 : Below w2.heap.size w2 (w2.alloc (.cells #[.int .i64 1] 3)) := (Below.refl _ _).alloc (Nat.le_refl _) _
    go_wp2_with fail
    go_step3
    go_wp2_with fail
    refine wp_loop_ghost_k (fun g a' w' => ∃ (k B : Nat) (Ds : List Nat) (u32 u33 u34 u35 u36 u37 u38 u39 u40 u41 u42 u43 u44 u45 u70 : Value), a' = { tmps := #[.pointer (some ⟨b, 0, none⟩), .string ⟨t.toArray⟩, .int .i64 (e : Int), .pointer (some ⟨w.heap.size, 0, none⟩), .pointer (some ⟨w.heap.size + 1, 0, none⟩), .pointer (some ⟨w.heap.size + 1 + 1, 0, none⟩), .int .i64 0, .bool false, .int .u8 (c : Int), .int .i64 (m : Int), .pointer (some ⟨B, 0, none⟩), undef, undef, undef, .pointer (some ⟨b, 0, none⟩), .string ⟨t.toArray⟩, .bool false, .string ⟨t.toArray⟩, .int .u8 (c : Int), .pointer (some ⟨b, 0, none⟩), .pointer (some ⟨b, 0, none⟩), .pointer (some ⟨b, 1, none⟩), .pointer bu, .int .u8 (c : Int), .int .i64 (m : Int), .int .i64 (m : Int), .bool false, .bool false, .int .i64 (m : Int), .int .i64 (e : Int), .bool false, .bool false, u32, u33, u34, u35, u36, u37, u38, u39, u40, u41, u42, u43, u44, u45, undef, undef, undef, undef, undef, undef, undef, undef, undef, undef, undef, undef, undef, undef, undef, undef, undef, undef, undef, undef, undef, undef, undef, undef, u70], defers := Ds.map markD } ∧ 0 < k ∧ g + k = m ∧ Boxed w' B 3 (.int .i64 (k : Int)) ∧ w2.heap.size ≤ B ∧ Below w2.heap.size w2 w' ∧ Hid (Ds.Nodup ∧ ∀ D ∈ Ds, w2.heap.size ≤ D ∧ w'.heap[D]? = some (.deferred (some []))) ∧ Hid (∀ j, 0 < j → j < k → msB us s e j = false)) (m - 1) ⟨1, w2.heap.size, [], undef, undef, undef, undef, undef, undef, undef, undef, undef, undef, undef, undef, undef, undef, undef, rfl, by omega, by omega, HBx, Nat.le_refl _, hA2, Lib.hid ⟨List.nodup_nil, fun D h => (by cases h)⟩, Lib.hid (fun j h1 h2 => by omega)⟩ ?_
    rintro g a' wr ⟨k, B, Ds, u32, u33, u34, u35, u36, u37, u38, u39, u40, u41, u42, u43, u44, u45, u70, rfl, hk0, hgk, hbx, hB, hbe, HD, HN⟩ J K hJ hK
    have hbw := hb2.trans (hbe.mono e2)
    obtain ⟨p0, p1, p2, p3, p4⟩ := HC0.out wr hbw
    have cB := hbx.cell
    have dw := d2.trans (hbe.mono d2.size)
    have g3 : (m : Int) ≤ (t.length : Int) := by omega
    have HBX : Hid (∀ W, Below wr.heap.size wr W → Boxed W B 3 (.int .i64 (k : Int))) := Lib.hid (fun W hW => (hW.block B hbx.lt).trans hbx)
    by_cases hkm : k < m
    · have g4 : (k : Int) < (m : Int) := by omega
      go_wp2_with fail
      refine (each_any bu c wr).mono ?_
      rintro E w4 ⟨rfl, hw4⟩
      have kE := eachWorld_below (.pointer bu) c wr
      have hz4 := eachWorld_size (.pointer bu) c wr
      have r1 := eachWorld_one (.pointer bu) c wr
      have r2 := eachWorld_two (.pointer bu) c wr
      rw [← hw4] at kE hz4 r1 r2
      have n4 := hbw.trans (kE.mono hbw.size)
      have hwz := hbw.size
      dsimp only [eachFunc]
      have HS := Lib.hid (each_walks Subtype.val (idsL us c).attach 4 (by omega) wr.heap.size (.pointer bu) (idsL us) (lstL us) c hc w1 w4 n4 (inB_all _ _) (by rw [List.length_attach]; omega) (by omega) r1 r2 HBU.out)
      have hmix : Tryz.prog.follows .mixedOrders = true := by kernel_rfl
      clear hw4 r1 r2 p0 p1 p2 p3 p4
      go_wp2_with fail
      refine (wpIn_wide (n := 5)).1 ?_
      apply wpIn_rangeFunc_ownF (F := Fence.wide) (n := 5) rfl (by omega) (gf := 109) (lb := #[.pointer (some ⟨wr.heap.size, 0, none⟩), .pointer (some ⟨wr.heap.size + 1, 0, none⟩)]) rfl trivial (enters_of Tryz.func109 (by kernel_rfl) rfl)
        HS.out belowK_t (belowK_b (by omega)) (Below.refl _ _) (fun _ => rfl)
        (fun pre W => Below w4.heap.size w4 W ∧ Hid (∀ x ∈ pre, badX us s e k x.1 = false))
        (fun cd pre W => cd = .exit 1 ∧ Below w4.heap.size w4 W ∧ Hid (msB us s e k = false))
        (OwnFrom.and (ownFrom_below (Nat.le_refl _) (Nat.le_refl _)) (fun _ _ _ _ hs _ _ => hs))
        (fun cd s' A B' row h hg hr => ⟨h.1, (ownFrom_below (β := List (InB us c)) (Nat.le_refl _) (Nat.le_refl _)) s' A B' row h.2.1 hg hr, h.2.2⟩)
        ⟨Below.refl _ _, Lib.hid (fun x h => (by cases h))⟩
      case hassign =>
        intro l x W K hK
        gi_wp2
        exact hK
      case hbody =>
        rintro l pre x W ⟨hBW, HPre⟩ hlt
        obtain ⟨p0, p1, p2, p3, p4⟩ := HC0.out W (n4.trans (hBW.mono n4.size))
        have cB := (HBX.out W (kE.trans (hBW.mono kE.size))).cell
        obtain ⟨m', hxm, hum, hmem, hq0, _⟩ := ids_all x.2
        have hql := lst_all x.2
        rw [hm] at hql
        have CA := Lib.hid (ptat_all (HP1.out.below (n4.trans (hBW.mono n4.size))) m' _ hum)
        have hqm := (hu _ hmem).2
        have CQ := Lib.hid (fun (W : World) => pbback_any (txN us x.1) k W (by omega) hqm)
        have CT := Lib.hid (fun (W : World) => pbback_any t k W (by omega) hs)
        rw [ht.byte (by omega)] at CT
        have S2 := Lib.hid (bsize (txN us x.1))
        have hfw : Fence.wide.fn 97 := trivial
        have hbad : badX us s e k x.1 = (decide ((txN us x.1).length ≤ e) && (byN (txN us x.1) ((txN us x.1).length - 1 - k) == byN s (e - 1 - k))) := rfl
        have hms : badX us s e k x.1 = true → msB us s e k = false := fun h => bad_ms (by rw [hcc]; exact x.2) h
        have hgo : badX us s e k x.1 = false → ∀ z ∈ pre ++ [x], badX us s e k z.1 = false := fun h z hz => by
          rcases List.mem_append.1 hz with hz | hz
          · exact HPre.out z hz
          · rw [List.mem_singleton.1 hz]; exact h
        rw [hxm]
        generalize txN us x.1 = q at *
        generalize badX us s e k x.1 = β at hbad hms hgo
        generalize byN q (q.length - 1 - k) = cq at CQ hbad
        generalize byN s (e - 1 - k) = ct at CT hbad
        have CB : Hid (∀ (z : List UInt8) (v : Nat), (z = q ∧ v = cq) ∨ (z = t ∧ v = ct) → ∀ W, Calls Tryz.prog 97 #[.string ⟨z.toArray⟩, .int .i64 (k : Int)] W fun e w' => e = .returned (.int .u8 (v : Int)) ∧ w' = W) := Lib.hid (fun z v h W => by
          rcases h with ⟨rfl, rfl⟩ | ⟨rfl, rfl⟩
          · exact CQ.out W
          · exact CT.out W)
        clear CQ CT
        by_cases hle : q.length ≤ e
        · have g5 : (q.length : Int) ≤ (e : Int) := by omega
          rw [decide_eq_true hle, Bool.true_and] at hbad
          by_cases hqc : cq = ct
          · subst hqc
            rw [beq_self_eq_true] at hbad
            have HM := Lib.hid (hms hbad)
            clear hms hgo hbad hum hmem
            gi_wp2_with fail
            refine ⟨trivial, (CallsIn.inRound l (callsIn_wide.2 CA.out)).mono ?_⟩
            rintro E w' ⟨rfl, hw'⟩
            obtain rfl := hw'.symm
            gi_wp2_with fail
            refine region_round (by kernel_rfl) (by kernel_rfl) (by kernel_rfl) ?_
            repeat (refine wpQuietIn_step (fun _ _ _ _ => trivial) (fun K hK => ?_); go_simp; first | (refine hK _ ?_; clear hK K) | (apply Exists.intro; refine ⟨fun _ => ?_, hK _ ?_⟩; with_reducible exact CallsIn.quiet_of_same (CallsIn.inRound l (callsIn_wide.2 (CB.out _ _ (by first | exact .inl ⟨rfl, rfl⟩ | exact .inr ⟨rfl, rfl⟩) _))); clear hK K))
            refine wpQuietIn_nil ?_
            rintro _ ⟨nq, rfl⟩
            gi_wp2
            exact ⟨(show KeepsOthers W (W.drewN nq) from ⟨Nat.le_refl _, fun _ _ h _ => h⟩), rfl, below_drewS hBW nq, HM⟩
          · have g6 : ((cq : Int) == (ct : Int)) = false := by simp; omega
            have HG := Lib.hid (hgo (by rw [hbad]; simp [hqc]))
            clear hms hgo hbad hum hmem
            gi_wp2_with fail
            refine ⟨trivial, (CallsIn.inRound l (callsIn_wide.2 CA.out)).mono ?_⟩
            rintro E w' ⟨rfl, hw'⟩
            obtain rfl := hw'.symm
            gi_wp2_with fail
            refine region_round (by kernel_rfl) (by kernel_rfl) (by kernel_rfl) ?_
            repeat (refine wpQuietIn_step (fun _ _ _ _ => trivial) (fun K hK => ?_); go_simp; first | (refine hK _ ?_; clear hK K) | (apply Exists.intro; refine ⟨fun _ => ?_, hK _ ?_⟩; with_reducible exact CallsIn.quiet_of_same (CallsIn.inRound l (callsIn_wide.2 (CB.out _ _ (by first | exact .inl ⟨rfl, rfl⟩ | exact .inr ⟨rfl, rfl⟩) _))); clear hK K))
            refine wpQuietIn_nil ?_
            rintro _ ⟨nq, rfl⟩
            gi_wp2
            exact ⟨(show KeepsOthers W (W.drewN nq) from ⟨Nat.le_refl _, fun _ _ h _ => h⟩), below_drewS (Below.refl _ _) nq, below_drewS hBW nq, HG⟩
        · have g5 : ¬ (q.length : Int) ≤ (e : Int) := by omega
          rw [decide_eq_false hle, Bool.false_and] at hbad
          have HG := Lib.hid (hgo hbad)
          clear hms hgo hbad hum hmem
          gi_wp2_with fail
          refine ⟨trivial, (CallsIn.inRound l (callsIn_wide.2 CA.out)).mono ?_⟩
          rintro E w' ⟨rfl, hw'⟩
          obtain rfl := hw'.symm
          gi_wp2_with fail
          refine region_round (by kernel_rfl) (by kernel_rfl) (by kernel_rfl) ?_
          repeat (refine wpQuietIn_step (fun _ _ _ _ => trivial) (fun K hK => ?_); go_simp; first | (refine hK _ ?_; clear hK K) | (apply Exists.intro; refine ⟨fun _ => ?_, hK _ ?_⟩; with_reducible exact CallsIn.quiet_of_same (CallsIn.inRound l (callsIn_wide.2 (CB.out _ _ (by first | exact .inl ⟨rfl, rfl⟩ | exact .inr ⟨rfl, rfl⟩) _))); clear hK K))
          refine wpQuietIn_nil ?_
          rintro _ ⟨nq, rfl⟩
          gi_wp2
          exact ⟨(show KeepsOthers W (W.drewN nq) from ⟨Nat.le_refl _, fun _ _ h _ => h⟩), below_drewS (Below.refl _ _) nq, below_drewS hBW nq, HG⟩
      case hdone =>
        rintro D ys W hD rfl ⟨hBW, HPre⟩ hKD
        have hBr := kE.trans (hBW.mono kE.size)
        have cB := (HBX.out W hBr).cell
        have HE : Hid (misN us s e = k) := Lib.hid (mis_here (fun t ht => (hu t ht).1) hk0 (by rw [hcc, hm]; exact hkm)
          (all_ms (fun t ht => (hu t ht).1) (by rw [hcc, hm]; exact hkm) (by rw [hcc]; exact fun z hz => HPre.out ⟨z, hz⟩ (List.mem_attach _ _))) HN.out)
        have hDn : (D :: Ds).Nodup := List.nodup_cons.2 ⟨fun h => by have := heap_lt (HD.out.2 D h).2; have := kE.size; omega, HD.out.1⟩
        have hDa : ∀ D' ∈ D :: Ds, w2.heap.size ≤ D' ∧ W.heap[D']? = some (.deferred (some [])) := fun D' h => by
          rcases List.mem_cons.1 h with rfl | h
          · exact ⟨by have := kE.size; have := hbe.size; omega, hKD⟩
          · exact ⟨(HD.out.2 D' h).1, (hBr.block D' (heap_lt (HD.out.2 D' h).2)).trans (HD.out.2 D' h).2⟩
        have hwW := Nat.le_trans hbe.size hBr.size
        have dW := dw.trans (hBr.mono dw.size)
        have HDn := Lib.hid hDn
        have HDa := Lib.hid hDa
        clear hDn hDa
        go_wp2
        exact leaves_marks w2.heap.size (D :: Ds) W hwW HDn.out HDa.out (fun W' hW' => ⟨_, results_tmp2 rfl _ _ _, by rw [HE.out, decide_eq_true hk0]; rfl, dW.trans (hW'.mono d2.size)⟩)
      case hstop =>
        rintro D cd pre W hD hp ⟨rfl, hBW, HMs⟩ hKD
        have hBr := kE.trans (hBW.mono kE.size)
        have cB := (HBX.out W hBr).cell
        have hDn : (D :: Ds).Nodup := List.nodup_cons.2 ⟨fun h => by have := heap_lt (HD.out.2 D h).2; have := kE.size; omega, HD.out.1⟩
        have hDa : ∀ D' ∈ D :: Ds, w2.heap.size ≤ D' ∧ W.heap[D']? = some (.deferred (some [])) := fun D' h => by
          rcases List.mem_cons.1 h with rfl | h
          · exact ⟨by have := kE.size; have := hbe.size; omega, hKD⟩
          · exact ⟨(HD.out.2 D' h).1, (hBr.block D' (heap_lt (HD.out.2 D' h).2)).trans (HD.out.2 D' h).2⟩
        have hwW := Nat.le_trans hbe.size hBr.size
        have bW := hbe.trans (hBr.mono hbe.size)
        have HDn := Lib.hid hDn
        have HDa := Lib.hid hDa
        have HN2 : Hid (∀ j, 0 < j → j < k + 1 → msB us s e j = false) := Lib.hid (fun j h1 h2 => by
          by_cases hj : j < k
          · exact HN.out j h1 hj
          · obtain rfl : j = k := by omega
            exact HMs.out)
        have hX := heap_alloc_new W (.cells #[.int .i64 (k : Int)] 3)
        have x1 : (W.alloc (.cells #[.int .i64 (k : Int)] 3)).cell? ⟨W.heap.size, 0, none⟩ = some (.int .i64 (k : Int)) := by rw [Lib.cell_of_heap hX]; rfl
        have x2 := Lib.frozen_of_heap hX 0
        have HX := Lib.hid (heap_alloc_new W (.cells #[.int .i64 ((k : Int) + 1)] 3))
        have HBe : Hid (Below W.heap.size W (W.alloc (.cells #[.int .i64 ((k : Int) + 1)] 3))) := Lib.hid ((Below.refl _ _).alloc (Nat.le_refl _) _)
        clear hDn hDa hX
        refine wpIn_wide.2 ?_
        go_wp2
        refine Handed.intro (g - 1) (by omega) (hJ _ _ _ ⟨k + 1, W.heap.size, D :: Ds, _, _, _, _, _, _, _, _, _, _, _, _, _, _, _, rfl, by omega, by omega, ?_, hwW, bW.trans (HBe.out.mono hwW), Lib.hid ⟨HDn.out, fun D' h => ⟨(HDa.out D' h).1, (HBe.out.block D' (heap_lt (HDa.out D' h).2)).trans (HDa.out D' h).2⟩⟩, HN2⟩)
        rw [show ((k + 1 : Nat) : Int) = (k : Int) + 1 from by omega]
        exact HX.out
    · obtain rfl : k = m := by omega
      have HE : Hid (misN us s e = 0) := Lib.hid (mis_nowhere (by rw [hcc, hm]; omega) (by rw [hcc, hm]; omega) (by rw [hcc, hm]; exact HN.out))
      have g4 : ¬ (k : Int) < (k : Int) := by omega
      go_wp2
      exact leaves_marks w2.heap.size Ds wr hbe.size HD.out.1 HD.out.2 (fun W' hW' => ⟨_, results_tmp2 rfl _ _ _, by rw [HE.out]; rfl, dw.trans (hW'.mono d2.size)⟩)
end Go.Proofs.YtmgcdhcidojdhaaGreat
