/-
  The document's Same of records: walked.
-/
import Derived.Test.YtmgcdhcidojdhaaGreatBn15
import Derived.Test.YtmgcdhcidojdhaaGreatBn4
import Derived.Deep.RegionWith
set_option linter.unusedSimpArgs false
set_option linter.unusedVariables false
namespace Go.Proofs.YtmgcdhcidojdhaaGreat
open Go.RowKit

theorem evs_get {rs qs : List Rc} (h : evs rs = evs qs) {i : Nat} {x y : Rc} (hx : rs[i]? = some x) (hy : qs[i]? = some y) : x.R = y.R := by
  have h1 := evs_at hx
  have h2 := evs_at hy
  rw [h, h2] at h1
  exact (Option.some.inj h1).symm

set_option maxRecDepth 100000 in
set_option maxHeartbeats 4000000 in
theorem rlpsame_any (a b : Option Addr) (n ca cb : Nat) (rs qs : List Rc) (w : World) (hn : rs.length = n) (hn2 : qs.length = n) (hl : n ≤ 1000000000) (he : evs rs = evs qs) (hi : ∀ x ∈ rs, x.R.ids.length ≤ 1000000) (ha : IsRecs w a rs) (hb : IsRecs w b qs) :
    Calls Tryz.prog 13 #[.slice a n ca, .slice b n cb] w fun e w' => e = .returned (.bool true) ∧ Below w.heap.size w w' := by
  have HI := Lib.hid hi
  have HA := Lib.hid ha
  have HB := Lib.hid hb
  have HEE := Lib.hid he
  clear hi ha hb he
  go_enter Tryz.func13, Tryz.ntmps13
  go_wp2
  go_loopw [5] (fun i wr => ∃ k : Nat, k ≤ n ∧ i = .int .i64 (k : Int) ∧ Hid (Below w.heap.size w wr)) (fun i _ => n - (RowKit.intOf i).toNat)
  case atStart => exact ⟨0, Nat.zero_le _, rfl, Lib.hid (Below.refl _ _)⟩
  case round =>
    obtain ⟨k, hk, rfl, HR⟩ := hrel
    by_cases hlt : k < n
    · obtain ⟨b1, x, rfl, hx, hix, c0, c1, c2, c3⟩ := (HA.out.below HR.out).get (i := k) (by omega)
      obtain ⟨b2, y, rfl, hy, hiy, d0, d1, d2, d3⟩ := (HB.out.below HR.out).get (i := k) (by omega)
      have hxy := evs_get HEE.out hx hy
      have hl2 := HI.out x (List.mem_of_getElem? hx)
      have r1 := hix.row (by unfold maxLen; omega)
      have r2 := hiy.row (by rw [← hxy]; unfold maxLen; omega)
      rw [← hxy] at r2 d0 d1 d2 d3
      have u0 : (0 : Int) ≤ (k : Int) := by omega
      have u1 : (k : Int) < (n : Int) := by omega
      have HS := Lib.hid (fun (W : World) (hW : Below wr.heap.size wr W) => rsame_any x.R x.a y.a x.c y.c W hl2 (r1.below hW) (r2.below hW))
      obtain ⟨R, xa, xc⟩ := x
      obtain ⟨R2, ya, yc⟩ := y
      dsimp only at hxy HS c0 c1 c2 c3 d0 d1 d2 d3
      subst hxy
      obtain ⟨kk, nn, rr, ids⟩ := R
      dsimp only at HS c0 c1 c2 c3 d0 d1 d2 d3
      clear hx hy hix hiy hl2 r1 r2
      go_wp2_with fail
      go_region_with (first
        | (go_at_call 24
           refine (HS.out _ (Below.refl _ _).drew).mono ?_
           rintro E w2 ⟨rfl, hb2⟩
           have HB2 : Hid (Below wr.heap.size wr w2) := Lib.hid ((Below.refl _ _).drew.trans hb2)
           clear hb2))
      all_goals
        have HR2 := Lib.hid (HR.out.trans (HB2.out.mono HR.out.size))
        go_wp2
        exact ⟨⟨k + 1, by omega, by go_num, HR2⟩, by simp [RowKit.intOf]; omega⟩
    · obtain rfl : k = n := by omega
      have u1 : ¬ (k : Int) < (k : Int) := by omega
      go_wp2
      go_ret
      exact ⟨rfl, HR.out⟩
end Go.Proofs.YtmgcdhcidojdhaaGreat
