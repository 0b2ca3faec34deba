/-
  The law's keeps and awake of layer 7: walked.
-/
import Derived.Test.YtbdpdfdcenidkaaRgK
import Derived.WalkSmall
set_option linter.unusedSimpArgs false
set_option linter.unusedVariables false
namespace Go.Proofs.Ytbdpdfdcenidkaa
open Go.RowKit

theorem lastL_len (s : List UInt8) (size : Nat) : (lastL s size).length ≤ s.length := by rw [lastL_length]; omega

set_option maxHeartbeats 2000000 in
theorem keeps_any {w : World} {base b size : Nat} {s : List UInt8} (h : IsRing w base b size s) (d n : Int) (t : List UInt8) (hs : s.length ≤ 1000000000) (ht : t.length ≤ 1000000000) :
    Calls Try.prog 11 #[.pointer (some ⟨b, 0, none⟩), .string ⟨s.toArray⟩, .int .i64 size, .int .i64 d, .int .i64 n, .string ⟨t.toArray⟩] w fun e w' => e = .returned (.bool true) ∧ ∃ k, w' = w.drewN k := by
  have hl := lastL_len s size
  have HK := Lib.hid (rkept_any s size w hs)
  have HA := Lib.hid (rgat_any h d hs)
  have HR := Lib.hid (rat_any (lastL s size) d w (by omega))
  have HL := Lib.hid (rglen_any h)
  have HN := Lib.hid (rgseen_any h)
  have HT := Lib.hid (tail_any h n hs)
  have HU := Lib.hid (fun k => rtail_any (lastL s size) n (w.drewN k) (by omega))
  have HE := Lib.hid (fun k => ends_any (h.drewN k) t hs ht)
  have HF := Lib.hid (fun w => rends_any (lastL s size) t w (by omega) ht)
  have HS := Lib.hid (bsize s)
  have HS2 := Lib.hid (bsize (lastL s size))
  have hms : (lastL s size).length ≤ 1000000000 := by omega
  generalize endsB (lastL s size) t = β at HE HF
  generalize tailL (lastL s size) n = T at HT HU
  generalize hx : atO (lastL s size) d = o at HA HR
  generalize lastL s size = L at *
  clear hx h
  cases o with
  | none =>
    go_enter Try.func11, Try.ntmps11
    go_wp2_with fail
    refine HK.out.mono ?_
    rintro e w' ⟨rfl, rfl⟩
    go_wp2_with fail
    refine HA.out.mono ?_
    rintro e w' ⟨rfl, rfl⟩
    unfold AtR
    go_wp2_with fail
    refine HR.out.mono ?_
    rintro e w' ⟨rfl, rfl⟩
    unfold AtK
    go_wp2_with fail
    refine HL.out.mono ?_
    rintro e w' ⟨rfl, rfl⟩
    go_wp2_with fail
    refine HN.out.mono ?_
    rintro e w' ⟨rfl, rfl⟩
    go_wp2_with fail
    refine HT.out.mono ?_
    rintro e w' ⟨rfl, k, rfl⟩
    go_wp2_with fail
    refine (HU.out k).mono ?_
    rintro e w' ⟨rfl, rfl⟩
    go_wp2_with fail
    refine (HE.out k).mono ?_
    rintro e w' ⟨rfl, k2, rfl⟩
    go_wp2_with fail
    refine (HF.out _).mono ?_
    rintro e w' ⟨rfl, rfl⟩
    go_wp2
    go_ret
    exact ⟨by simp, k + k2, by simp⟩
  | some x =>
    have hx0 : (0 : Int) ≤ (x.toNat : Int) := by omega
    have hx1 : (x.toNat : Int) ≤ 255 := by have := x.toNat_lt; omega
    go_enter Try.func11, Try.ntmps11
    go_wp2_with fail
    refine HK.out.mono ?_
    rintro e w' ⟨rfl, rfl⟩
    go_wp2_with fail
    refine HA.out.mono ?_
    rintro e w' ⟨rfl, rfl⟩
    unfold AtR
    go_wp2_with fail
    refine HR.out.mono ?_
    rintro e w' ⟨rfl, rfl⟩
    unfold AtK
    go_wp2_with fail
    refine HL.out.mono ?_
    rintro e w' ⟨rfl, rfl⟩
    go_wp2_with fail
    refine HN.out.mono ?_
    rintro e w' ⟨rfl, rfl⟩
    go_wp2_with fail
    refine HT.out.mono ?_
    rintro e w' ⟨rfl, k, rfl⟩
    go_wp2_with fail
    refine (HU.out k).mono ?_
    rintro e w' ⟨rfl, rfl⟩
    go_wp2_with fail
    refine (HE.out k).mono ?_
    rintro e w' ⟨rfl, k2, rfl⟩
    go_wp2_with fail
    refine (HF.out _).mono ?_
    rintro e w' ⟨rfl, rfl⟩
    go_wp2
    go_ret
    exact ⟨by simp, k + k2, by simp⟩
theorem ex_at : AtR (atO (lastL ([] ++ [97, 98, 99, 100]) 3) 2) = .returned (.tuple #[.int .u8 98, .bool true]) := by rfl
theorem ex_tail : (tailL (lastL ([] ++ [97, 98, 99, 100]) 3) 9).toArray = #[98, 99, 100] := by rfl
theorem ex_ends : endsB (lastL ([] ++ [97, 98, 99, 100]) 3) [99, 100] = true := by decide +kernel
theorem ex_len : ((lastL ([] ++ [97, 98, 99, 100]) 3).length : Int) = 3 := by rfl
theorem ex_seen : ((([] : List UInt8) ++ [97, 98, 99, 100]).length : Int) = 4 := by rfl

set_option maxHeartbeats 1000000 in
theorem rgawake_any (w : World) :
    Calls Try.prog 7 #[] w fun e w' => e = .returned (.bool true) ∧ Below w.heap.size w w' := by
  have H1 := Lib.hid (rgnew_good 3 w (by omega) (by omega))
  have H2 := Lib.hid (fun (b : Nat) (w' : World) (h : IsRing w' (b + 1) b 3 []) => write_any (b + 1) b 3 [] [97, 98, 99, 100] w' (by simp) h)
  have H3 := Lib.hid (fun (b : Nat) (w' : World) (h : IsRing w' (b + 1) b 3 ([] ++ [97, 98, 99, 100])) => by
    have h3 := rgat_any h 2 (by simp)
    have h4 := tail_any h 9 (by simp)
    have h5 := fun k => ends_any (h.drewN k) [99, 100] (by simp) (by simp)
    have h6 := fun k => rgseen_any (h.drewN k)
    have h7 := fun k => rglen_any (h.drewN k)
    rw [ex_at] at h3
    rw [ex_tail] at h4
    rw [ex_ends] at h5
    rw [ex_seen] at h6
    rw [ex_len] at h7
    exact And.intro h3 (And.intro h4 (And.intro h5 (And.intro h6 h7))))
  go_enter Try.func7, Try.ntmps7
  go_wp2_with fail
  refine H1.out.mono ?_
  rintro e w1 ⟨rfl, hr, hsz, hb1⟩
  have HW := Lib.hid (H2.out _ w1 hr)
  obtain ⟨b, HB⟩ : ∃ b, Hid (w.heap.size = b) := ⟨_, Lib.hid rfl⟩
  rw [HB.out] at hb1 HW hsz ⊢
  clear hr H1 H2
  go_wp2_with fail
  refine HW.out.mono ?_
  rintro e w2 ⟨rfl, hr2, hb2⟩
  obtain ⟨h3, h4, h5, h6, h7⟩ := H3.out _ w2 hr2
  have K3 := Lib.hid h3
  have K4 := Lib.hid h4
  have K5 := Lib.hid h5
  have K6 := Lib.hid h6
  have K7 := Lib.hid h7
  have hb := hb1.trans (hb2.below (by omega))
  clear h3 h4 h5 h6 h7 H3 HW hr2 hb2 hb1
  go_wp2_with fail
  refine K3.out.mono ?_
  rintro e w' ⟨rfl, rfl⟩
  go_wp2_with fail
  refine K4.out.mono ?_
  rintro e w' ⟨rfl, k, rfl⟩
  go_wp2_with fail
  refine (K5.out k).mono ?_
  rintro e w' ⟨rfl, k2, rfl⟩
  go_wp2_with fail
  refine (K6.out (k + k2)).mono ?_
  rintro e w' ⟨rfl, rfl⟩
  go_wp2_with fail
  refine (K7.out (k + k2)).mono ?_
  rintro e w' ⟨rfl, rfl⟩
  go_wp2
  go_ret
  refine ⟨rfl, ?_⟩
  rw [HB.out]
  exact below_drewN hb _
end Go.Proofs.Ytbdpdfdcenidkaa
