/-
  leap.Next, Last: walked.
-/
import Derived.Test.YtmgcdhcidojdhaaGreatBn10
import Derived.Test.YtmgcdhcidojdhaaGreatLpE
set_option linter.unusedSimpArgs false
set_option linter.unusedVariables false
namespace Go.Proofs.YtmgcdhcidojdhaaGreat
open Go.RowKit

set_option maxRecDepth 100000 in
set_option maxHeartbeats 1000000 in
theorem lplast_no {p : Option Addr} {k : Value} {e : Int} {w : World} (h : ∀ W, Below w.heap.size w W → Calls Tryz.prog 42 #[.pointer p, k, .int .i64 e] W (NoTail W)) :
    Calls Tryz.prog 23 #[.pointer p, k, .int .i64 e] w fun E w' => E = .returned (.tuple #[.agg #[.int .i64 0, .int .i64 0, .int .i64 0, .slice none 0 0], .bool false]) ∧ Below w.heap.size w w' := by
  obtain ⟨w1, hw1⟩ : ∃ w1, w.alloc (.cells #[.int .i64 0, .int .i64 0, .int .i64 0, .slice none 0 0] 45) = w1 := ⟨_, rfl⟩
  have hX0 : w1.heap[w.heap.size]? = some (.cells #[.int .i64 0, .int .i64 0, .int .i64 0, .slice none 0 0] 45 (0, 0)) := by rw [← hw1]; exact heap_alloc_new w _
  have hB1 : Below w.heap.size w w1 := by rw [← hw1]; exact (Below.refl w.heap.size w).alloc (Nat.le_refl _) _
  have HT := Lib.hid (h w1 hB1)
  have HX := Lib.hid hX0
  have HB := Lib.hid hB1
  obtain ⟨f0, f1, f2, f3⟩ := rec_free hX0
  obtain ⟨j0, j1, j2, j3⟩ := rec_reads hX0
  clear h hX0 hB1
  go_enter Tryz.func23, Tryz.ntmps23
  go_wp2_with fail
  try rw [hw1]
  refine HT.out.mono ?_
  rintro E w' ⟨rfl, q, rfl⟩
  clear HT
  have HF := Lib.hid (put_rec (w := w1.drewN q) HX.out (.int .i64 0) (.int .i64 0) (.int .i64 0) (.slice none 0 0))
  have HBe := Lib.hid (below_rec (w' := w1.drewN q) (HB.out.trans ⟨rfl, rfl, rfl, Nat.le_refl _, fun _ _ => rfl⟩) (Nat.le_refl _) (.int .i64 0) (.int .i64 0) (.int .i64 0) (.slice none 0 0))
  go_wp2
  obtain ⟨i0, i1, i2, i3⟩ := rec_reads HF.out
  refine bodyPost_ret (v := .tuple #[.agg #[.int .i64 0, .int .i64 0, .int .i64 0, .slice none 0 0], .bool false]) (by simp [results, Tryz.results23, go_sem, i0, i1, i2, i3]) rfl ?_
  exact ⟨rfl, HBe.out⟩

/-- What Last tells. -/
def finR (us : List (List UInt8)) (s : List UInt8) (skip : Bool) (b : Nat) : EvR := if s.length < b + covN (ofR us s (b + 1) skip) then lastR us s skip b else ofR us s (b + 1) skip

set_option maxRecDepth 100000 in
set_option maxHeartbeats 4000000 in
theorem lplast_any {w : World} {b bl base keep done : Nat} {us : List (List UInt8)} {skip : Bool} {s : List UInt8} (h : IsLoop w bl us skip) (hc : IsCarry w base b keep s done) (hk : max (mostL us) 2 ≤ keep) (hs : s.length ≤ 900000) (hu : ∀ t ∈ us, 0 < t.length ∧ t.length ≤ 1000000) (hn : us.length ≤ 1000000) (e : Nat) (h1 : done ≤ e + 1) (h2 : e < s.length) :
    Calls Tryz.prog 23 #[.pointer (some ⟨bl, 0, none⟩), .pointer (some ⟨b, 0, none⟩), .int .i64 (e : Int)] w fun E w' => ∃ x : Rc, E = .returned (.tuple #[x.val, .bool true]) ∧ x.R = finR us s skip e ∧ IdsAt w' x ∧ Below w.heap.size w w' := by
  obtain ⟨w1, hw1⟩ : ∃ w1, w.alloc (.cells #[.int .i64 0, .int .i64 0, .int .i64 0, .slice none 0 0] 45) = w1 := ⟨_, rfl⟩
  have hX0 : w1.heap[w.heap.size]? = some (.cells #[.int .i64 0, .int .i64 0, .int .i64 0, .slice none 0 0] 45 (0, 0)) := by rw [← hw1]; exact heap_alloc_new w _
  have hB1 : Below w.heap.size w w1 := by rw [← hw1]; exact (Below.refl w.heap.size w).alloc (Nat.le_refl _) _
  have HT := Lib.hid (lptail_in (h.below hB1) (hc.below hB1) hk (by omega) e h1 h2)
  have htl := tail_is (us := us) (s := s) hk h2
  have hln : (midL s (e + 1 - keep) (e + 1)).length ≤ 1000000 := by rw [midL_length _ _ _ (by omega)]; omega
  have HE := Lib.hid (fun q => lpev_any (w := w1.drewN q) (h.below (lp_drewN hB1 q)) htl hln (by omega) hu hn)
  have HC := Lib.hid (fun (W : World) (hb : Below w1.heap.size w1 W) => caseen_any ((hc.below hB1).below hb))
  generalize midL s (e + 1 - keep) (e + 1) = t at *
  have HCL := Lib.hid (cov_le (s := s) (e := e + 1) (skip := skip) (M := 999999) (fun t ht => (hu t ht).2))
  have HX := Lib.hid hX0
  have HB := Lib.hid hB1
  have hfin : finR us s skip e = (if s.length < e + covN (ofR us s (e + 1) skip) then ⟨(ofR us s (e + 1) skip).k, s.length - e, (ofR us s (e + 1) skip).r, (ofR us s (e + 1) skip).ids⟩ else ofR us s (e + 1) skip) := rfl
  generalize finR us s skip e = F at hfin ⊢
  generalize ofR us s (e + 1) skip = O at *
  have HFN := Lib.hid hfin
  have hsz : w1.heap.size = w.heap.size + 1 := by rw [← hw1]; simp
  have HSZ := Lib.hid hsz
  clear h hc hk hu hn htl hln hX0 hB1 hfin h1 hsz
  go_enter Tryz.func23, Tryz.ntmps23
  go_wp2_with fail
  try rw [hw1]
  refine HT.out.mono ?_
  rintro E w' ⟨rfl, q, rfl⟩
  clear HT
  go_wp2_with fail
  refine (HE.out q).mono ?_
  rintro E w2 ⟨⟨⟨k, n, r, ids⟩, aa, cc⟩, rfl, hxR, hid, hb2⟩
  dsimp only at hxR hid
  have HID := Lib.hid hid
  have HB2 : Hid (Below w1.heap.size w1 w2) := Lib.hid ((lp_drewN (Below.refl w1.heap.size w1) q).trans hb2)
  have HR := Lib.hid hxR
  obtain ⟨c, hcc⟩ : ∃ c, covN ⟨k, n, r, ids⟩ = c := ⟨_, rfl⟩
  have HCC := Lib.hid hcc
  have hcl : c ≤ 1000000 := by have := HCL.out; rw [← hxR, hcc] at this; omega
  dsimp only [Rc.val, Rc.sl]
  rw [hcc]
  clear hxR hid hb2 HE HCL hcc
  have hX3 := heap_alloc_new w2 (.cells #[.int .i64 (k : Int), .int .i64 (n : Int), .int .i64 (r : Int), .slice aa ids.length cc] 45)
  have hB3 := (Below.refl w2.heap.size w2).alloc (Nat.le_refl _) (.cells #[.int .i64 (k : Int), .int .i64 (n : Int), .int .i64 (r : Int), .slice aa ids.length cc] 45)
  obtain ⟨w3, hw3⟩ : ∃ w3, w2.alloc (.cells #[.int .i64 (k : Int), .int .i64 (n : Int), .int .i64 (r : Int), .slice aa ids.length cc] 45) = w3 := ⟨_, rfl⟩
  rw [hw3] at hX3 hB3
  have hle : w.heap.size < w2.heap.size := by have := HB2.out.size; have := HSZ.out; omega
  have hne : w2.heap.size ≠ w.heap.size := by omega
  have hB13 := HB2.out.trans (hB3.mono HB2.out.size)
  have HS := Lib.hid (HC.out w3 hB13)
  have HX3 := Lib.hid hX3
  have HX0 := Lib.hid ((hB13.block _ (by have := HSZ.out; omega)).trans HX.out)
  have HID3 := Lib.hid (HID.out.keep (.below hB3))
  have HB03 := Lib.hid (HB.out.trans (hB13.mono HB.out.size))
  clear hX3 hB3 hB13 HX HB HB2 HID
  go_wp2_with fail
  try rw [hw3]
  refine HS.out.mono ?_
  rintro E w' ⟨rfl, hw⟩
  obtain rfl := hw.symm
  clear hw
  by_cases hg : s.length < e + c
  · have g1 : (s.length : Int) < ((e + c : Nat) : Int) := by omega
    have wE : IntKind.i64.wrap ((s.length : Int) - (e : Int)) = ((s.length - e : Nat) : Int) := by rw [IntKind.wrap_i64]; omega
    have hXN : Hid ((w3.setCell ⟨w2.heap.size, 1, none⟩ (.int .i64 ((s.length - e : Nat) : Int))).heap[w2.heap.size]? = some (.cells #[.int .i64 (k : Int), .int .i64 ((s.length - e : Nat) : Int), .int .i64 (r : Int), .slice aa ids.length cc] 45 (0, 0))) := Lib.hid ((put_heap HX3.out _).trans rfl)
    obtain ⟨m, hm⟩ : ∃ m, s.length - e = m := ⟨_, rfl⟩
    have HM := Lib.hid hm
    rw [hm] at wE hXN
    have wS : (s.length : Int) - (e : Int) = (m : Int) := by omega
    have HXZ : Hid ((w3.setCell ⟨w2.heap.size, 1, none⟩ (.int .i64 (m : Int))).heap[w.heap.size]? = _) := Lib.hid ((put_other (Ne.symm hne) _).trans HX0.out)
    have HKI : Hid (Keep 3 w3 (w3.setCell ⟨w2.heap.size, 1, none⟩ (.int .i64 (m : Int)))) := Lib.hid (Keep.into ((Into.refl _ _).set _ _) HX3.out (by decide))
    have HBN : Hid (Below w.heap.size w (w3.setCell ⟨w2.heap.size, 1, none⟩ (.int .i64 (m : Int)))) := Lib.hid (HB03.out.setCell (p := ⟨w2.heap.size, 1, none⟩) (Nat.le_of_lt hle) _)
    obtain ⟨_, fr1, _, _⟩ := rec_free HX3.out
    obtain ⟨_, kr1, _, _⟩ := rec_reads HX3.out
    have HFF := Lib.hid (rec_free HXZ.out)
    have HKK := Lib.hid (rec_reads hXN.out)
    clear hm HB03 HX0 HX3
    go_wp2_with fail
    refine HS.out.mono ?_
    rintro E w' ⟨rfl, hw⟩
    obtain rfl := hw.symm
    clear hw
    obtain ⟨f0, f1, f2, f3⟩ := HFF.out
    obtain ⟨j0, j1, j2, j3⟩ := rec_reads HXZ.out
    obtain ⟨k0, k1, k2, k3⟩ := HKK.out
    go_wp2
    have HF := Lib.hid (put_rec HXZ.out (.int .i64 (k : Int)) (.int .i64 (m : Int)) (.int .i64 (r : Int)) (.slice aa ids.length cc))
    have HI := Lib.hid ((HID3.out.keep HKI.out).keep (Keep.into (((((Into.refl w.heap.size _).set 0 (.int .i64 (k : Int))).set 1 (.int .i64 (m : Int))).set 2 (.int .i64 (r : Int))).set 3 (.slice aa ids.length cc)) HXZ.out (by decide)))
    have HBe := Lib.hid (below_rec HBN.out (Nat.le_refl _) (.int .i64 (k : Int)) (.int .i64 (m : Int)) (.int .i64 (r : Int)) (.slice aa ids.length cc))
    obtain ⟨i0, i1, i2, i3⟩ := rec_reads HF.out
    refine bodyPost_ret (v := .tuple #[.agg #[.int .i64 (k : Int), .int .i64 (m : Int), .int .i64 (r : Int), .slice aa ids.length cc], .bool true]) (by simp [results, Tryz.results23, go_sem, i0, i1, i2, i3]) rfl ?_
    refine ⟨⟨⟨k, m, r, ids⟩, aa, cc⟩, rfl, ?_, HI.out, HBe.out⟩
    rw [HFN.out, ← HR.out, HCC.out, if_pos hg, HM.out]
  · have g1 : ¬ (s.length : Int) < ((e + c : Nat) : Int) := by omega
    obtain ⟨f0, f1, f2, f3⟩ := rec_free HX0.out
    obtain ⟨j0, j1, j2, j3⟩ := rec_reads HX0.out
    obtain ⟨k0, k1, k2, k3⟩ := rec_reads HX3.out
    have HF := Lib.hid (put_rec HX0.out (.int .i64 (k : Int)) (.int .i64 (n : Int)) (.int .i64 (r : Int)) (.slice aa ids.length cc))
    have HI := Lib.hid (HID3.out.keep (Keep.into (((((Into.refl w.heap.size w3).set 0 (.int .i64 (k : Int))).set 1 (.int .i64 (n : Int))).set 2 (.int .i64 (r : Int))).set 3 (.slice aa ids.length cc)) HX0.out (by decide)))
    have HBe := Lib.hid (below_rec HB03.out (Nat.le_refl _) (.int .i64 (k : Int)) (.int .i64 (n : Int)) (.int .i64 (r : Int)) (.slice aa ids.length cc))
    clear HX0 HX3 HID3 HB03 HC
    go_wp2
    obtain ⟨i0, i1, i2, i3⟩ := rec_reads HF.out
    refine bodyPost_ret (v := .tuple #[.agg #[.int .i64 (k : Int), .int .i64 (n : Int), .int .i64 (r : Int), .slice aa ids.length cc], .bool true]) (by simp [results, Tryz.results23, go_sem, i0, i1, i2, i3]) rfl ?_
    refine ⟨⟨⟨k, n, r, ids⟩, aa, cc⟩, rfl, ?_, HI.out, HBe.out⟩
    rw [HFN.out, ← HR.out, HCC.out, if_neg hg]
end Go.Proofs.YtmgcdhcidojdhaaGreat
