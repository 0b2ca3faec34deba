/-
  The document's own answers for layer 17: Step, Hits: walked.
-/
import Derived.Test.YtkaldfcpcimacaaLkR
import Derived.Test.YtkaldfcpcimacaaTrLt
import Derived.Test.YtkaldfcpcimacaaInts
import Derived.Test.YtkaldfcpcimacaaOwnBe
set_option linter.unusedSimpArgs false
set_option linter.unusedVariables false
namespace Go.Proofs.Ytkaldfcpcimacaa
open Go.RowKit

set_option maxRecDepth 100000 in
set_option maxHeartbeats 2000000 in
theorem rlkstep_any (a : Option Addr) (len cap : Nat) (S : List (List UInt8)) (w : World) (hlen : len ≤ 1000000000) (hr : IsStrs w a len S) (h0 : [] ∈ S) (hl : ∀ t ∈ S, t.length ≤ 10000000) (i : Nat) {s : List UInt8} (hs : S[i]? = some s) (c : UInt8) :
    Calls Try.prog 17 #[.slice a len cap, .int .i64 (i : Int), .int .u8 (c.toNat : Int)] w fun e w' => e = .returned (.int .i64 (ixL (lgL S (s ++ [c])) S)) ∧ Below w.heap.size w w' := by
  have hwl := hr.1
  have hil := (List.getElem?_eq_some_iff.1 hs).1
  have hsl := hl s (List.mem_of_getElem? hs)
  have HL1 := (fun W (hb : Below w.heap.size w W) => rlongest_any a len cap S (s ++ [c]) (s.length + 1) W hlen (hr.below hb) h0 (by simp; omega) (by simp))
  have HE := Lib.hid (show (s ++ [c]).drop ((s ++ [c]).length - (s.length + 1)) = s ++ [c] by simp)
  rw [HE.out] at HL1
  have HL := Lib.hid (fun W (hb : Below w.heap.size w W) (z : Int) (hz : z = ((s.length + 1 : Nat) : Int)) => show Calls Try.prog 23 #[.slice a len cap, .string ⟨(s ++ [c]).toArray⟩, .int .i64 z] W (fun e w' => e = .returned (.int .i64 (ixL (lgL S (s ++ [c])) S)) ∧ w' = W) from by subst hz; exact HL1 W hb)
  clear HL1
  obtain ⟨b, off, rfl, t, hf, hc⟩ := str_at hr (Below.refl _ _) i (by omega)
  obtain rfl : t = s := Option.some.inj (hf.symm.trans hs)
  have hbl := World.block_lt_of_cell? w _ hc
  have hcA : ∀ o, (w.alloc o).cell? ⟨b, off + i, none⟩ = some (.string ⟨t.toArray⟩) := fun o => by rw [World.cell?_alloc_lt _ _ _ hbl]; exact hc
  have hcv : ∀ W X, W.heap[X]? = some (.cells #[.int .u8 (c.toNat : Int)] 5 (0, 0)) → (convert 68 9 (.slice (some ⟨X, 0, none⟩) 1 1)).run Try.prog W = .ok (.string ⟨[c].toArray⟩) W := fun W X h => one_textT W X c h
  have hcv0 := hcv (w.alloc (.cells #[.int .u8 (c.toNat : Int)] 5)) w.heap.size (heap_alloc_new w _)
  have hcv1 := hcv (w.drew.alloc (.cells #[.int .u8 (c.toNat : Int)] 5)) w.heap.size (heap_alloc_new w.drew _)
  have hcv2 := hcv (w.alloc (.cells #[.int .u8 (c.toNat : Int)] 5)).drew w.heap.size (heap_alloc_new w _)
  have hpl := plus_byteT t c
  have hS2 : (⟨(t ++ [c]).toArray⟩ : ByteArray).size = t.length + 1 := by rw [bsize]; simp
  have HZ := Lib.hid hS2
  have HS := Lib.hid (bsize t)
  have g2 : (0 : Int) ≤ (i : Int) := by omega
  have g3 : (i : Int) < (len : Int) := by omega
  have hov : ¬ 9223372036854775807 < t.length + 1 := by omega
  have B1 := Lib.hid (fun W (hW : W = (w.alloc (.cells #[.int .u8 (c.toNat : Int)] 5)).drew ∨ W = w.drew.alloc (.cells #[.int .u8 (c.toNat : Int)] 5)) => show Below w.heap.size w W from by
    rcases hW with rfl | rfl
    · exact ((Below.refl _ _).alloc (Nat.le_refl _) _).drew
    · exact (Below.refl _ _).drew.alloc (Nat.le_refl _) _)
  clear hr h0 hl hs hf HE hcv hS2
  go_enter Try.func17, Try.ntmps17
  go_wp2_with fail
  go_region
  have B2 := B1.out _ (.inl rfl)
  have HL2 := Lib.hid (HL.out _ B2)
  clear hcA hcv0 hcv1 hcv2 hpl B1 HL hc hbl
  generalize (w.alloc (.cells #[.int .u8 (c.toNat : Int)] 5)).drew = W at *
  go_wp2_with fail
  refine (HL2.out _ (by omega)).mono ?_
  rintro e w' ⟨rfl, hw'⟩
  obtain rfl := hw'.symm
  clear hw' HL2
  go_wp2
  go_ret
  exact ⟨rfl, B2⟩

set_option maxRecDepth 100000 in
set_option maxHeartbeats 4000000 in
theorem rlkhits_any (a : Option Addr) (len cap : Nat) (us : List (List UInt8)) (s : List UInt8) (w : World) (hlen : len ≤ 1000000) (hr : IsStrs w a len us) (hl : ∀ t ∈ us, t.length ≤ 10000000) (hsl : s.length ≤ 10000000) :
    Calls Try.prog 20 #[.slice a len cap, .string ⟨s.toArray⟩] w (RetN (hsL us s) w) := by
  obtain ⟨i0, hi, hz0, hz1, hz2⟩ := info_parts int_info
  have hwl := hr.1
  have HT := Lib.hid hl
  have HR := Lib.hid hr
  have S2 := Lib.hid (bsize s)
  clear hl hr
  go_enter Try.func20, Try.ntmps20
  go_wp2
  go_loopw [5, 6] (fun v i wr => ∃ k : Nat, k ≤ len ∧ i = .int .i64 k ∧ Hid (wr.ownsRow w.heap.size 3 1 v (hkL us s k).length (inCells (hkL us s k))) ∧ Below w.heap.size w wr) (fun _ i _ => len - (RowKit.intOf i).toNat)
  case atStart => exact ⟨0, Nat.zero_le _, rfl, Lib.hid (World.ownsRow_made w #[] 0 (Nat.le_refl _) (Nat.zero_le _) rfl), (Below.refl _ _).alloc (Nat.le_refl _) _⟩
  case round =>
    obtain ⟨k, hk, rfl, HO, hbe⟩ := hrel
    obtain ⟨a2, cap2, rfl⟩ := owns_slice HO.out
    by_cases hlt : k < len
    · obtain ⟨b, off, rfl, t, hf, hcell⟩ := str_at HR.out hbe k hlt
      have htl := HT.out t (List.mem_of_getElem? hf)
      have S1 := Lib.hid (bsize t)
      have hkl := hk_few us s k
      have hlt2 : (k : Int) < (len : Int) := by omega
      have hlt3 : (0 : Int) ≤ (k : Int) := by omega
      by_cases hts : t.length ≤ s.length
      · obtain ⟨d, hd⟩ : ∃ d, d + t.length = s.length := ⟨s.length - t.length, by omega⟩
        have w0 : IntKind.i64.wrap ((s.length : Int) - (t.length : Int)) = (d : Int) := by rw [IntKind.wrap_i64]; omega
        have q1 : (t.length : Int) ≤ (s.length : Int) := by omega
        have q2 : (0 : Int) ≤ (d : Int) := by omega
        have q3 : (d : Int) ≤ (s.length : Int) := by omega
        have hx := ext_rest s d
        have hsuf : t <:+ s ↔ s.drop d = t := by
          rw [List.suffix_iff_eq_drop, show s.length - t.length = d by omega]
          exact ⟨fun h => h.symm, fun h => h.symm⟩
        by_cases hq : s.drop d = t
        · have HB := Lib.hid (hk_hit hf (hsuf.2 hq))
          rw [hq] at hx
          have HD := Lib.hid hd
          clear hf hsuf hq hd hts
          go_wp2_with fail
          go_quiet (fail)
          have hown := HO.out
          have hs := hbe.size
          go_wp2_with (at_builtin; refine wpList_append_own _ rfl _ _ 42 rfl w.heap.size 3 i0 (.int .i64 0) 1 8 Try.underlying42 hi hz0 hz1 hz2 rfl (by decide) _ _ _ rfl ((show (wr.drewN nq).ownsRow w.heap.size 3 1 _ _ _ from hown).alloc _) ⟨wr.heap.size, 0, none⟩ 1 1 [.int .i64 (k : Int)] rfl rfl (int_news (heap_alloc_new _ _)) int_one (by unfold maxLen; omega) (by omega) (by simp; omega) ?_)
          intro v' w3 hown3 hgrow _
          obtain ⟨a3, cap3, rfl⟩ := owns_slice hown3
          have HW := Lib.hid (show w3.ownsRow w.heap.size 3 1 (.slice a3 ((hkL us s k).length + 1) cap3) (hkL us s (k + 1)).length (inCells (hkL us s (k + 1))) by rw [HB.out, inCells_snoc, List.length_append]; exact hown3)
          have B3 : Below w.heap.size w w3 := own_below (w := wr.drewN nq) (below_drewS hbe _) hown (Nat.le_refl _) hgrow
          clear hown hown3 hgrow
          go_wp2
          exact ⟨⟨k + 1, by omega, by go_num, HW, B3⟩, by simp [RowKit.intOf]; omega⟩
        · have HB := Lib.hid (hk_miss hf fun h => hq (hsuf.1 h))
          have hq2 : (s.drop d == t) = false := beq_eq_false_iff_ne.2 hq
          have HD := Lib.hid hd
          clear hf hsuf hq hd hts
          go_wp2_with fail
          go_quiet (fail)
          go_wp2
          exact ⟨⟨k + 1, by omega, by go_num, by rw [HB.out]; exact HO, below_drewS hbe _⟩, by simp [RowKit.intOf]; omega⟩
      · have HB := Lib.hid (hk_miss hf fun h => hts h.length_le)
        have q1 : ¬ (t.length : Int) ≤ (s.length : Int) := by omega
        have q2 : decide ((t.length : Int) ≤ (s.length : Int)) = false := decide_eq_false q1
        have q3 : decide (t.length ≤ s.length) = false := decide_eq_false hts
        clear hf
        go_wp2_with fail
        go_quiet (fail)
        go_wp2
        exact ⟨⟨k + 1, by omega, by go_num, by rw [HB.out]; exact HO, below_drewS hbe _⟩, by simp [RowKit.intOf]; omega⟩
    · obtain rfl : k = len := by omega
      have hz : ¬ (k : Int) < (k : Int) := by omega
      go_wp2
      go_ret
      exact ⟨_, rfl, by unfold hsL; rw [hwl]; exact HO.out, hbe⟩
end Go.Proofs.Ytkaldfcpcimacaa
