/-
  leap.evidence: walked.
-/
import Derived.Test.YtmgcdhcidojdhaaGreatBn10
import Derived.Deep.CutRange
set_option linter.unusedSimpArgs false
set_option linter.unusedVariables false
namespace Go.Proofs.YtmgcdhcidojdhaaGreat
open Go.RowKit

theorem cov_le {us : List (List UInt8)} {s : List UInt8} {e : Nat} {skip : Bool} {M : Nat} (hu : ∀ t ∈ us, t.length ≤ M + 1) : covN (ofR us s e skip) ≤ M + 1 := by
  have h4 : leastR us ≤ M + 1 := by
    rcases us with _ | ⟨t, us⟩
    · exact Nat.zero_le _
    · have := leastR_le (show t ∈ t :: us from List.mem_cons_self)
      have := hu t List.mem_cons_self
      omega
  rcases of_cases us s e skip with ⟨_, h, h1⟩ | ⟨_, h, h1⟩ | ⟨_, _, h1⟩ | h1 <;> rw [h1]
  · have h2 : twoN us s e ≤ farL us := two_le us s e
    have h3 : farL us ≤ leastR us := by unfold farL; omega
    show twoN us s e ≤ M + 1
    omega
  · have h2 : fstL us (byN s (e - 1)) ≤ leastR us := fst_le _ _
    show fstL us (byN s (e - 1)) ≤ M + 1
    omega
  · show 1 ≤ M + 1
    omega
  · show 1 ≤ M + 1
    omega

set_option maxRecDepth 100000 in
set_option maxHeartbeats 8000000 in
theorem lpev_any {w : World} {b : Nat} {us : List (List UInt8)} {skip : Bool} (h : IsLoop w b us skip) {s t : List UInt8} {e : Nat} (ht : IsTail us s (e + 1) t) (hs : t.length ≤ 1000000) (he : e + 1 ≤ 1000000) (hu : ∀ t ∈ us, 0 < t.length ∧ t.length ≤ 1000000) (hn : us.length ≤ 1000000) :
    Calls Tryz.prog 44 #[.pointer (some ⟨b, 0, none⟩), .string ⟨t.toArray⟩, .int .i64 (e : Int)] w fun E w' => ∃ x : Rc, E = .returned (.tuple #[x.val, .int .i64 ((e + covN x.R : Nat) : Int)]) ∧ x.R = ofR us s (e + 1) skip ∧ IdsAt w' x ∧ Below w.heap.size w w' := by
  obtain ⟨pb, hL, hP⟩ := h
  obtain ⟨O, hO⟩ : ∃ O, ofR us s (e + 1) skip = O := ⟨_, rfl⟩
  have HO := Lib.hid hO
  have HOf := Lib.hid (fun (W : World) (hW : Below w.heap.size w W) => pbof_own (hP.below hW) ht hs he hu hn skip)
  rw [hO] at HOf
  obtain ⟨c, hc⟩ : ∃ c, covN O = c := ⟨_, rfl⟩
  have HC := Lib.hid hc
  have hcv := cov_z O
  rw [hc] at hcv
  have hcl : c ≤ 1000000 := by
    rw [← hc, ← hO]
    exact cov_le (fun t ht => (hu t ht).2)
  obtain ⟨k, n, r, ids⟩ := O
  dsimp only at hcv
  have HCv := Lib.hid (fun (W : World) (v : Value) (hv : ∃ a len cap, v = .slice a len cap) => pbcov_any k n r v hv W)
  rw [hcv] at HCv
  obtain ⟨w1, hw1⟩ : ∃ w1, w.alloc (.cells #[.int .i64 0, .int .i64 0, .int .i64 0, .slice none 0 0] 45) = w1 := ⟨_, rfl⟩
  have hX0 : w1.heap[w.heap.size]? = some (.cells #[.int .i64 0, .int .i64 0, .int .i64 0, .slice none 0 0] 45 (0, 0)) := by rw [← hw1]; exact heap_alloc_new w _
  have hB1 : Below w.heap.size w w1 := by rw [← hw1]; exact (Below.refl w.heap.size w).alloc (Nat.le_refl _) _
  have s1 : w1.heap.size = w.heap.size + 1 := by rw [← hw1]; simp
  obtain ⟨f0, f1, f2, f3⟩ := rec_free hX0
  have hL1 := (hB1.block _ (heap_lt hL)).trans hL
  obtain ⟨l0, l1, l2⟩ := loop_reads hL1
  have a0 := fun o => cell_alloc (w := w1) l0 o
  have a2 := fun o => cell_alloc (w := w1) l2 o
  have d0 := fun o => cell_alloc (w := w1.drew) (j := 0) (b := b) l0 o
  have d2 := fun o => cell_alloc (w := w1.drew) (j := 2) (b := b) l2 o
  have wE : IntKind.i64.wrap ((e : Int) + 1) = ((e + 1 : Nat) : Int) := by rw [IntKind.wrap_i64]; omega
  have HB1 := Lib.hid hB1
  have HX0 := Lib.hid hX0
  have HS1 := Lib.hid s1
  have kk := (Below.refl w1.heap.size w1).drew.alloc (Nat.le_refl _) (.cells #[.int .i64 0, .int .i64 0, .int .i64 0, .slice none 0 0] 45)
  clear hP hL hL1 hO hc hcv hX0 hB1 f0 f1 f2 f3 s1
  go_enter Tryz.func44, Tryz.ntmps44
  go_upto_region 1 with fail
  try rw [hw1]
  clear hw1
  go_cut [8] from 8 to 26 (fun q wx => ∃ (rb : Nat) (aa : Option Addr) (cc : Nat), q = .pointer (some ⟨rb, 0, none⟩) ∧ Hid (wx.heap[rb]? = some (.cells #[.int .i64 (k : Int), .int .i64 (n : Int), .int .i64 (r : Int), .slice aa ids.length cc] 45 (0, 0))) ∧ Hid (IdsAt wx ⟨⟨k, n, r, ids⟩, aa, cc⟩) ∧ Hid (Below w1.heap.size w1 wx))
  case first =>
    go_region_with (first
      | (go_at_call 63
         refine (HOf.out _ (by first | exact HB1.out.drew | exact HB1.out.trans (kk.mono HB1.out.size))).mono ?_
         rintro E w4 ⟨a4, cap4, rfl, hr4, ho4, hb4⟩
         dsimp only at hr4 ho4 ⊢
         have HB4 : Hid (Below w1.heap.size w1 w4) := Lib.hid (by first | exact (Below.refl _ _).drew.trans hb4 | exact kk.trans (hb4.mono kk.size))
         (first
           | (have X4 : w4.heap[w1.heap.size]? = some (.cells #[.int .i64 0, .int .i64 0, .int .i64 0, .slice none 0 0] 45 (0, 0)) := (hb4.block _ (heap_lt (heap_alloc_new w1.drew (.cells #[.int .i64 0, .int .i64 0, .int .i64 0, .slice none 0 0] 45)))).trans (heap_alloc_new w1.drew (.cells #[.int .i64 0, .int .i64 0, .int .i64 0, .slice none 0 0] 45)); have HX4 := Lib.hid X4; clear X4; obtain ⟨f0, f1, f2, f3⟩ := rec_free HX4.out; obtain ⟨k0, k1, k2, k3⟩ := rec_reads HX4.out)
           | skip)
         clear hb4))
    all_goals first
      | (have kA : Below w4.heap.size w4 (w4.alloc (.cells #[.int .i64 (k : Int), .int .i64 (n : Int), .int .i64 (r : Int), .slice a4 ids.length cap4] 45)) := (Below.refl _ _).alloc (Nat.le_refl _) _
         have q1 := Lib.hid (heap_alloc_new w4 (.cells #[.int .i64 (k : Int), .int .i64 (n : Int), .int .i64 (r : Int), .slice a4 ids.length cap4] 45))
         have q0 : IdsAt w4 ⟨⟨k, n, r, ids⟩, a4, cap4⟩ := ho4.elim .inl fun h => .inr ⟨_, h⟩
         have q2 := Lib.hid (q0.keep (.below kA))
         have q3 := Lib.hid (HB4.out.trans (kA.mono HB4.out.size))
         clear q0
         go_wp2_with fail
         go_meet
         exact ⟨_, a4, cap4, rfl, q1, q2, q3⟩)
      | (have q1 := Lib.hid (put_rec HX4.out (.int .i64 (k : Int)) (.int .i64 (n : Int)) (.int .i64 (r : Int)) (.slice a4 ids.length cap4))
         have q0 : IdsAt w4 ⟨⟨k, n, r, ids⟩, a4, cap4⟩ := ho4.elim .inl fun h => .inr ⟨_, h⟩
         have q2 := Lib.hid (q0.keep (Keep.into (((((Into.refl w1.heap.size w4).set 0 (.int .i64 (k : Int))).set 1 (.int .i64 (n : Int))).set 2 (.int .i64 (r : Int))).set 3 (.slice a4 ids.length cap4)) HX4.out (by decide)))
         have q3 := Lib.hid (below_rec HB4.out (Nat.le_refl _) (.int .i64 (k : Int)) (.int .i64 (n : Int)) (.int .i64 (r : Int)) (.slice a4 ids.length cap4))
         clear q0
         go_wp2_with fail
         go_meet
         exact ⟨_, a4, cap4, rfl, q1, q2, q3⟩)
  case rest =>
    obtain ⟨rb, aa, cc, rfl, HX, HR, HBx⟩ := hcut
    have hdc : wc.drew.heap = wc.heap := rfl
    have hsz : w.heap.size < w1.heap.size := by have := HS1.out; omega
    obtain ⟨k0, k1, k2, k3⟩ := rec_reads HX.out
    have wA : IntKind.i64.wrap ((e : Int) + (c : Int)) = ((e + c : Nat) : Int) := by rw [IntKind.wrap_i64]; omega
    clear l0 l1 l2 a0 a2 d0 d2 HOf kk
    go_wp2_with fail
    go_region_with (first
      | (go_at_call 64
         refine (HCv.out _ _ ⟨_, _, _, rfl⟩).mono ?_
         rintro E w5 ⟨rfl, hb5⟩
         have HB5 : Hid (Below wc.heap.size wc w5) := Lib.hid ((Below.refl _ _).drew.trans hb5)
         obtain ⟨k0, k1, k2, k3⟩ := rec_reads ((HB5.out.block _ (heap_lt HX.out)).trans HX.out)
         have HX5 := Lib.hid ((HB5.out.block _ (Nat.lt_of_lt_of_le hsz HBx.out.size)).trans ((HBx.out.block _ hsz).trans HX0.out))
         obtain ⟨f0, f1, f2, f3⟩ := rec_free HX5.out
         obtain ⟨j0, j1, j2, j3⟩ := rec_reads HX5.out
         clear hb5))
    all_goals
      have HF := Lib.hid (put_rec HX5.out (.int .i64 (k : Int)) (.int .i64 (n : Int)) (.int .i64 (r : Int)) (.slice aa ids.length cc))
      have HI := Lib.hid ((HR.out.keep (.below HB5.out)).keep (Keep.into (((((Into.refl w.heap.size w5).set 0 (.int .i64 (k : Int))).set 1 (.int .i64 (n : Int))).set 2 (.int .i64 (r : Int))).set 3 (.slice aa ids.length cc)) HX5.out (by decide)))
      have HD := HB1.out.trans (HBx.out.mono HB1.out.size)
      have HD2 := HD.trans (HB5.out.mono HD.size)
      have HBe := Lib.hid (below_rec HD2 (Nat.le_refl _) (.int .i64 (k : Int)) (.int .i64 (n : Int)) (.int .i64 (r : Int)) (.slice aa ids.length cc))
      clear HD HD2 k0 k1 k2 k3 f0 f1 f2 f3 j0 j1 j2 j3
      go_wp2
      obtain ⟨j0, j1, j2, j3⟩ := rec_reads HF.out
      refine bodyPost_ret (v := .tuple #[.agg #[.int .i64 (k : Int), .int .i64 (n : Int), .int .i64 (r : Int), .slice aa ids.length cc], .int .i64 ((e + c : Nat) : Int)]) (by simp [results, Tryz.results44, go_sem, j0, j1, j2, j3]) rfl ?_
      exact ⟨⟨⟨k, n, r, ids⟩, aa, cc⟩, by rw [HC.out]; rfl, HO.out.symm, HI.out, HBe.out⟩
end Go.Proofs.YtmgcdhcidojdhaaGreat
