/-
  Texts put together: DnA, LkR, TrLt, LkRs, ClRh, ClRb, DnR, ClWb, PtUr, Few8, RetR.
-/
import Derived.Test.YtenanbcngamlgaaBn8
import Derived.Test.YtenanbcngamlgaaBn2
import Derived.Test.YtenanbcngamlgaaBn6
import Derived.Test.YtenanbcngamlgaaBn3
import Derived.Lib.Hide
import Derived.Test.YtenanbcngamlgaaBn7
import Derived.Test.YtenanbcngamlgaaBn4
set_option linter.unusedSimpArgs false
set_option linter.unusedVariables false
namespace Go.Proofs.Ytenanbcngamlgaa
open Go.RowKit

theorem dnex_fault : faultL [[97, 98], [98]] = 0 := by decide +kernel
theorem dnex_set : setL [[97, 98], [98]] = [[97, 98], [98]] := by
  rw [set_good dnex_fault, ← ins_srt]; decide +kernel
theorem dnex_kids (q : List UInt8) (l : List UInt8) (h : kidsL [[97, 98], [98]] q = l) : kidsP [[97, 98], [98]] q = l.map fun c => q ++ [c] := by unfold kidsP; rw [h]
theorem dnex_bfs : Bfs [[97, 98], [98]] 4 [[], [97], [98], [97, 98]] := by
  have k0 := dnex_kids [] [97, 98] (by decide +kernel)
  have k1 := dnex_kids [97] [98] (by decide +kernel)
  have k2 := dnex_kids [98] [] (by decide +kernel)
  have k3 := dnex_kids [97, 98] [] (by decide +kernel)
  have h0 := Bfs.zero (us := [[97, 98], [98]])
  have h1 := h0.step (p := []) rfl
  rw [k0] at h1
  have h2 := h1.step (p := [97]) rfl
  rw [k1] at h2
  have h3 := h2.step (p := [98]) rfl
  rw [k2] at h3
  have h4 := h3.step (p := [97, 98]) rfl
  rw [k3] at h4
  exact h4
theorem dnex_is {S : List (List UInt8)} (h : IsSt [[97, 98], [98]] S) : S = [[], [97], [98], [97, 98]] := h.unique (Bfs.done dnex_bfs)
theorem dnex_r0 : (rwF [[97, 98], [98]] [[], [97], [98], [97, 98]] []).map (fun (x : Nat) => (x : Int)) = [0, 1, 2] := by decide +kernel
theorem dnex_r1 : (rwF [[97, 98], [98]] [[], [97], [98], [97, 98]] [97]).map (fun (x : Nat) => (x : Int)) = [0, 1, 3] := by decide +kernel
theorem dnex_r3 : (rwF [[97, 98], [98]] [[], [97], [98], [97, 98]] [97, 98]).map (fun (x : Nat) => (x : Int)) = [0, 1, 2] := by decide +kernel

/-- A row, as the law holds it against a list. -/
theorem dnawake_row {W : World} {b g : Nat} {pc : Option Addr} {us S : List (List UInt8)} {L : List Nat} (h : IsDense W b g pc us S L) {zs : List Int} (i : Nat) {s : List UInt8} (hs : S[i]? = some s) (hz : (rwF us S s).map (fun (x : Nat) => (x : Int)) = zs) (hl : zs.length = 3) :
    Calls Try.prog 19 #[.pointer (some ⟨b, 0, none⟩), .int .i64 (i : Int)] W fun e w' => ∃ a c, e = .returned (.slice a 3 c) ∧ IsRow .i64 w' a 3 3 zs ∧ Below W.heap.size W w' := by
  have hr := ds_rows h i hs
  rw [hz] at hr
  refine hr.mono ?_
  rintro e w' ⟨v, rfl, hown, hb⟩
  obtain ⟨ao, cap, hv, hrow⟩ := row_of_ints hown (by rw [hl]; unfold maxLen; omega)
  rw [hl] at hv hrow
  exact ⟨ao, cap, by rw [hv], hrow, hb⟩

set_option maxRecDepth 100000 in
set_option maxHeartbeats 2000000 in
theorem dnawake_any (w : World) : Calls Try.prog 6 #[] w fun e w' => e = .returned (.bool true) ∧ Below w.heap.size w w' := by
  have hA := strs_heap (ws := [[97, 98], [98]]) (heap_alloc_new w (.cells (txCells [[97, 98], [98]]).toArray 9)) rfl
  have H1 := Lib.hid (ptnew_all (some ⟨w.heap.size, 0, none⟩) 2 2 _ _ (by omega) hA (by decide))
  rw [dnex_fault] at H1
  have c1 : Below w.heap.size w (w.alloc (.cells (txCells [[97, 98], [98]]).toArray 9)) := (Below.refl _ w).alloc (Nat.le_refl _) _
  have s1 := c1.size
  clear hA
  go_enter Try.func6, Try.ntmps6
  go_wp2_with fail
  refine H1.out.mono ?_
  rintro e w2 ⟨p, rfl, hs, hb2⟩
  have d2 := c1.trans (hb2.mono s1)
  have e2 := d2.size
  have N2 := Lib.hid (dnnew_set hs)
  clear H1 hs hb2 c1 s1
  go_wp2_with fail
  refine N2.out.mono ?_
  rintro e w3 ⟨b, g, pc, S, L, rfl, hT, hb3⟩
  have d3 := d2.trans (hb3.mono e2)
  have e3 := d3.size
  rw [dnex_set] at hT
  obtain rfl := dnex_is hT.st
  have HT := Lib.hid hT
  have HL := Lib.hid (ds_len hT)
  have HR0 := Lib.hid (dnawake_row hT 0 rfl dnex_r0 rfl)
  clear N2 hb3 hT e2 d2
  go_wp2_with fail
  refine HL.out.mono ?_
  rintro e w' ⟨rfl, hw'⟩
  obtain rfl := hw'.symm
  clear hw' HL
  go_wp2_with fail
  refine HR0.out.mono ?_
  rintro e w4 ⟨a4, c4, rfl, hr4, hb4⟩
  have d4 := d3.trans (hb4.mono e3)
  have HT4 := Lib.hid (HT.out.below hb4)
  clear HR0 hb4 d3 e3 HT
  have HI4 := Lib.hid (row_heap (zs := [0, 1, 2]) (n := 3) (heap_alloc_new w4 (.cells (inCells [0, 1, 2]).toArray 3)) rfl (by unfold maxLen; omega))
  have b4 : Below w4.heap.size w4 (w4.alloc (.cells (inCells [0, 1, 2]).toArray 3)) := (Below.refl _ _).alloc (Nat.le_refl _) _
  have HS4 := Lib.hid (isame_any a4 (some ⟨w4.heap.size, 0, none⟩) 3 c4 3 3 3 [0, 1, 2] _ (by omega) (hr4.below b4) HI4.out)
  have z4 := b4.size
  have e4 := d4.size
  have b41 := d4.trans (b4.mono e4)
  have HT41 := Lib.hid (HT4.out.below b4)
  go_wp2_with fail
  refine HS4.out.mono ?_
  rintro e x4 ⟨rfl, hb4⟩
  have d41 := b41.trans (hb4.mono b41.size)
  have HT42 := Lib.hid (HT41.out.below hb4)
  clear HI4 HS4 hr4 b4 z4 b41 HT41 HT4 hb4 d4 e4
  have HR5 := Lib.hid (dnawake_row HT42.out 1 rfl dnex_r1 rfl)
  have e4 := d41.size
  go_wp2_with fail
  refine HR5.out.mono ?_
  rintro e w5 ⟨a5, c5, rfl, hr5, hb5⟩
  have d5 := d41.trans (hb5.mono e4)
  have HT5 := Lib.hid (HT42.out.below hb5)
  clear HR5 hb5 e4 d41 HT42
  have HI5 := Lib.hid (row_heap (zs := [0, 1, 3]) (n := 3) (heap_alloc_new w5 (.cells (inCells [0, 1, 3]).toArray 3)) rfl (by unfold maxLen; omega))
  have b5 : Below w5.heap.size w5 (w5.alloc (.cells (inCells [0, 1, 3]).toArray 3)) := (Below.refl _ _).alloc (Nat.le_refl _) _
  have HS5 := Lib.hid (isame_any a5 (some ⟨w5.heap.size, 0, none⟩) 3 c5 3 3 3 [0, 1, 3] _ (by omega) (hr5.below b5) HI5.out)
  have z5 := b5.size
  have e5 := d5.size
  have b51 := d5.trans (b5.mono e5)
  have HT51 := Lib.hid (HT5.out.below b5)
  go_wp2_with fail
  refine HS5.out.mono ?_
  rintro e x5 ⟨rfl, hb5⟩
  have d51 := b51.trans (hb5.mono b51.size)
  have HT52 := Lib.hid (HT51.out.below hb5)
  clear HI5 HS5 hr5 b5 z5 b51 HT51 HT5 hb5 d5 e5
  have HR6 := Lib.hid (dnawake_row HT52.out 3 rfl dnex_r3 rfl)
  have e5 := d51.size
  go_wp2_with fail
  refine HR6.out.mono ?_
  rintro e w6 ⟨a6, c6, rfl, hr6, hb6⟩
  have d6 := d51.trans (hb6.mono e5)
  have HT6 := Lib.hid (HT52.out.below hb6)
  clear HR6 hb6 e5 d51 HT52
  have HI6 := Lib.hid (row_heap (zs := [0, 1, 2]) (n := 3) (heap_alloc_new w6 (.cells (inCells [0, 1, 2]).toArray 3)) rfl (by unfold maxLen; omega))
  have b6 : Below w6.heap.size w6 (w6.alloc (.cells (inCells [0, 1, 2]).toArray 3)) := (Below.refl _ _).alloc (Nat.le_refl _) _
  have HS6 := Lib.hid (isame_any a6 (some ⟨w6.heap.size, 0, none⟩) 3 c6 3 3 3 [0, 1, 2] _ (by omega) (hr6.below b6) HI6.out)
  have z6 := b6.size
  have e6 := d6.size
  have b61 := d6.trans (b6.mono e6)
  have HT61 := Lib.hid (HT6.out.below b6)
  go_wp2_with fail
  refine HS6.out.mono ?_
  rintro e x6 ⟨rfl, hb6⟩
  have d61 := b61.trans (hb6.mono b61.size)
  have HT62 := Lib.hid (HT61.out.below hb6)
  clear HI6 HS6 hr6 b6 z6 b61 HT61 HT6 hb6 d6 e6
  go_wp2
  go_ret
  exact ⟨rfl, d61⟩
end Go.Proofs.Ytenanbcngamlgaa

namespace Go.Proofs.Ytenanbcngamlgaa
open Go.RowKit

theorem ix_nonneg {s : List UInt8} {ws : List (List UInt8)} (h : s ∈ ws) : 0 ≤ ixL s ws := by unfold ixL; rw [if_pos h]; omega
theorem tail_drop (s : List UInt8) (d : Nat) : (s.drop d).tail = s.drop (d + 1) := by rw [List.tail_drop]

set_option maxHeartbeats 1000000 in
theorem rlongest_any (a : Option Addr) (len cap : Nat) (S : List (List UInt8)) (s : List UInt8) (m : Nat) (w : World) (hlen : len ≤ 1000000000) (hr : IsStrs w a len S) (h0 : [] ∈ S) (hs : s.length ≤ 100000000) (hm : m ≤ s.length) :
    Calls Try.prog 21 #[.slice a len cap, .string ⟨s.toArray⟩, .int .i64 (m : Int)] w fun e w' => e = .returned (.int .i64 (ixL (lgL S (s.drop (s.length - m))) S)) ∧ w' = w := by
  have HF := Lib.hid (fun t => rfind16_any a len cap S t w hlen hr)
  have H0 := Lib.hid h0
  have HS := Lib.hid (bsize s)
  clear hr h0
  go_enter Try.func21, Try.ntmps21
  go_wp2
  go_loop [7, 8] (fun x _ => ∃ n : Nat, n ≤ s.length ∧ x = .int .i64 n ∧ Hid (lgL S (s.drop (s.length - m)) = lgL S (s.drop (s.length - min n m)))) (fun x _ => (RowKit.intOf x).toNat)
  case atStart => exact ⟨s.length, Nat.le_refl _, rfl, Lib.hid (by rw [Nat.min_eq_right hm])⟩
  case round =>
    obtain ⟨n, hn, rfl, HG⟩ := hrel
    have g0 : (0 : Int) ≤ (n : Int) := by omega
    by_cases hnm : m < n
    · have g1 : (m : Int) < (n : Int) := by omega
      have HG2 := Lib.hid (show lgL S (s.drop (s.length - m)) = lgL S (s.drop (s.length - min (n - 1) m)) by
        rw [HG.out, Nat.min_eq_right (by omega), Nat.min_eq_right (by omega)])
      have w1 : IntKind.i64.wrap ((n : Int) - 1) = ((n - 1 : Nat) : Int) := by rw [IntKind.wrap_i64]; omega
      clear HG
      go_wp2
      exact ⟨⟨n - 1, by omega, by first | rfl | go_num, HG2⟩, by simp [RowKit.intOf]; omega⟩
    · have g1 : ¬ (m : Int) < (n : Int) := by omega
      obtain ⟨d, hd⟩ : ∃ d, d + n = s.length := ⟨s.length - n, by omega⟩
      have w0 : IntKind.i64.wrap ((s.length : Int) - (n : Int)) = (d : Int) := by rw [IntKind.wrap_i64]; omega
      have g2 : (0 : Int) ≤ (d : Int) := by omega
      have g3 : (d : Int) ≤ (s.length : Int) := by omega
      have hx := ext_rest s d
      have HG1 := Lib.hid (show lgL S (s.drop (s.length - m)) = lgL S (s.drop d) by
        rw [HG.out, Nat.min_eq_left (by omega), show s.length - n = d by omega])
      have HC := Lib.hid (HF.out (s.drop d))
      by_cases hu : s.drop d ∈ S
      · have hz := ix_nonneg hu
        have HE := Lib.hid (show ixL (lgL S (s.drop (s.length - m))) S = ixL (s.drop d) S by rw [HG1.out, lg_hit hu])
        generalize ixL (s.drop d) S = z at hz HE HC
        have HD := Lib.hid hd
        clear HG HG1 hu hd
        go_wp2_with fail
        refine HC.out.mono ?_
        rintro e w' ⟨rfl, hw'⟩
        obtain rfl := hw'.symm
        clear hw' HC
        go_wp2
        go_ret
        exact ⟨by rw [HE.out]; rfl, rfl⟩
      · have hz := ix_miss hu
        rw [hz] at HC
        have hn0 : 1 ≤ n := by
          rcases Nat.eq_zero_or_pos n with h | h
          · exfalso
            rw [List.drop_eq_nil_of_le (by omega)] at hu
            exact hu H0.out
          · exact h
        have HG2 := Lib.hid (show lgL S (s.drop (s.length - m)) = lgL S (s.drop (s.length - min (n - 1) m)) by
          rw [HG1.out, lg_miss hu, tail_drop, Nat.min_eq_left (by omega), show s.length - (n - 1) = d + 1 by omega])
        have w1 : IntKind.i64.wrap ((n : Int) - 1) = ((n - 1 : Nat) : Int) := by rw [IntKind.wrap_i64]; omega
        have HD := Lib.hid hd
        clear HG HG1 hu hd hz
        go_wp2_with fail
        refine HC.out.mono ?_
        rintro e w' ⟨rfl, hw'⟩
        obtain rfl := hw'.symm
        clear hw' HC
        go_wp2
        exact ⟨⟨n - 1, by omega, by first | rfl | go_num, HG2⟩, by simp [RowKit.intOf]; omega⟩

end Go.Proofs.Ytenanbcngamlgaa

namespace Go.Proofs.Ytenanbcngamlgaa
open Go.RowKit

/-- A text with one byte more, as a sum of two. -/
theorem plus_byteT (s : List UInt8) (c : UInt8) : (⟨s.toArray⟩ : ByteArray) ++ (⟨#[c]⟩ : ByteArray) = ⟨(s ++ [c]).toArray⟩ := by
  apply ByteArray.ext
  simp
/-- One byte as a text. -/
theorem one_textT (W : World) (X : Nat) (c : UInt8) (h : W.heap[X]? = some (.cells #[.int .u8 (c.toNat : Int)] 5 (0, 0))) : (convert 63 9 (.slice (some ⟨X, 0, none⟩) 1 1)).run Try.prog W = .ok (.string ⟨[c].toArray⟩) W := by
  refine run_convert_bytes_back W 63 9 5 _ _ [c] Try.underlying63 Try.underlying5 Try.underlying9 (fun j hj => ?_)
  have : j = 0 := by simp at hj; omega
  subst this
  rw [addPlain, Lib.cell_of_heap h]
  rfl

end Go.Proofs.Ytenanbcngamlgaa

namespace Go.Proofs.Ytenanbcngamlgaa
open Go.RowKit

set_option maxRecDepth 100000 in
set_option maxHeartbeats 2000000 in
theorem rlkstep_any (a : Option Addr) (len cap : Nat) (S : List (List UInt8)) (w : World) (hlen : len ≤ 1000000000) (hr : IsStrs w a len S) (h0 : [] ∈ S) (hl : ∀ t ∈ S, t.length ≤ 10000000) (i : Nat) {s : List UInt8} (hs : S[i]? = some s) (c : UInt8) :
    Calls Try.prog 17 #[.slice a len cap, .int .i64 (i : Int), .int .u8 (c.toNat : Int)] w fun e w' => e = .returned (.int .i64 (ixL (lgL S (s ++ [c])) S)) ∧ Below w.heap.size w w' := by
  have hwl := hr.1
  have hil := (List.getElem?_eq_some_iff.1 hs).1
  have hsl := hl s (List.mem_of_getElem? hs)
  have HL1 := (fun W (hb : Below w.heap.size w W) => rlongest_any a len cap S (s ++ [c]) (s.length + 1) W hlen (hr.below hb) h0 (by simp; omega) (by simp))
  have HE := Lib.hid (show (s ++ [c]).drop ((s ++ [c]).length - (s.length + 1)) = s ++ [c] by simp)
  rw [HE.out] at HL1
  have HL := Lib.hid (fun W (hb : Below w.heap.size w W) (z : Int) (hz : z = ((s.length + 1 : Nat) : Int)) => show Calls Try.prog 21 #[.slice a len cap, .string ⟨(s ++ [c]).toArray⟩, .int .i64 z] W (fun e w' => e = .returned (.int .i64 (ixL (lgL S (s ++ [c])) S)) ∧ w' = W) from by subst hz; exact HL1 W hb)
  clear HL1
  obtain ⟨b, off, rfl, t, hf, hc⟩ := str_at hr (Below.refl _ _) i (by omega)
  obtain rfl : t = s := Option.some.inj (hf.symm.trans hs)
  have hbl := World.block_lt_of_cell? w _ hc
  have hcA : ∀ o, (w.alloc o).cell? ⟨b, off + i, none⟩ = some (.string ⟨t.toArray⟩) := fun o => by rw [World.cell?_alloc_lt _ _ _ hbl]; exact hc
  have hcv : ∀ W X, W.heap[X]? = some (.cells #[.int .u8 (c.toNat : Int)] 5 (0, 0)) → (convert 63 9 (.slice (some ⟨X, 0, none⟩) 1 1)).run Try.prog W = .ok (.string ⟨[c].toArray⟩) W := fun W X h => one_textT W X c h
  have hcv0 := hcv (w.alloc (.cells #[.int .u8 (c.toNat : Int)] 5)) w.heap.size (heap_alloc_new w _)
  have hcv1 := hcv (w.drew.alloc (.cells #[.int .u8 (c.toNat : Int)] 5)) w.heap.size (heap_alloc_new w.drew _)
  have hcv2 := hcv (w.alloc (.cells #[.int .u8 (c.toNat : Int)] 5)).drew w.heap.size (heap_alloc_new w _)
  have hpl := plus_byteT t c
  have hS2 : (⟨(t ++ [c]).toArray⟩ : ByteArray).size = t.length + 1 := by rw [bsize]; simp
  have HZ := Lib.hid hS2
  have HS := Lib.hid (bsize t)
  have g2 : (0 : Int) ≤ (i : Int) := by omega
  have g3 : (i : Int) < (len : Int) := by omega
  have hov : ¬ 9223372036854775807 < t.length + 1 := by omega
  have B1 := Lib.hid (fun W (hW : W = (w.alloc (.cells #[.int .u8 (c.toNat : Int)] 5)).drew ∨ W = w.drew.alloc (.cells #[.int .u8 (c.toNat : Int)] 5)) => show Below w.heap.size w W from by
    rcases hW with rfl | rfl
    · exact ((Below.refl _ _).alloc (Nat.le_refl _) _).drew
    · exact (Below.refl _ _).drew.alloc (Nat.le_refl _) _)
  clear hr h0 hl hs hf HE hcv hS2
  go_enter Try.func17, Try.ntmps17
  go_wp2_with fail
  go_region
  have B2 := B1.out _ (.inl rfl)
  have HL2 := Lib.hid (HL.out _ B2)
  clear hcA hcv0 hcv1 hcv2 hpl B1 HL hc hbl
  generalize (w.alloc (.cells #[.int .u8 (c.toNat : Int)] 5)).drew = W at *
  go_wp2_with fail
  refine (HL2.out _ (by omega)).mono ?_
  rintro e w' ⟨rfl, hw'⟩
  obtain rfl := hw'.symm
  clear hw' HL2
  go_wp2
  go_ret
  exact ⟨rfl, B2⟩

end Go.Proofs.Ytenanbcngamlgaa

namespace Go.Proofs.Ytenanbcngamlgaa
open Go.RowKit

set_option maxRecDepth 100000 in
set_option maxHeartbeats 4000000 in
theorem rclhas_any (a : Option Addr) (len cap c : Nat) (ws : List (List UInt8)) (w : World) (hlen : len ≤ 1000000) (hr : IsStrs w a len ws) (ht : ∀ t ∈ ws, t.length ≤ 1000000) :
    Calls Try.prog 22 #[.slice a len cap, .int .u8 (c : Int)] w fun e w' => e = .returned (.bool (hasC ws c)) ∧ w' = w := by
  have hwl := hr.1
  have HT := Lib.hid ht
  have HR := Lib.hid hr
  clear ht hr
  obtain ⟨R, hR⟩ : ∃ R, hasC ws c = R := ⟨_, rfl⟩
  rw [hR]
  have HRR := Lib.hid hR
  clear hR
  go_enter Try.func22, Try.ntmps22
  go_wp2
  go_loop [5] (fun i => ∃ k : Nat, k ≤ len ∧ i = .int .i64 k ∧ Hid (hasC (ws.take k) c = false)) (fun i => len - (RowKit.intOf i).toNat)
  case atStart => exact ⟨0, Nat.zero_le _, rfl, Lib.hid rfl⟩
  case round =>
    obtain ⟨k, hk, rfl, HK⟩ := hrel
    by_cases hlt : k < len
    · obtain ⟨b, off, rfl, t, hf, hcell⟩ := str_at HR.out (Below.refl _ _) k hlt
      have htl := HT.out t (List.mem_of_getElem? hf)
      have S1 := Lib.hid (bsize t)
      have HN := Lib.hid (fun x => hasC_snoc hf x)
      have HH : Hid (∀ x : UInt8, x ∈ t → x.toNat = c → R = true) := Lib.hid (fun x hx e => by
        rw [← HRR.out, ← e]; exact hasC_mem (List.mem_of_getElem? hf) hx)
      have hlt2 : (k : Int) < (len : Int) := by omega
      have hlt3 : (0 : Int) ≤ (k : Int) := by omega
      clear hf
      go_wp2
      go_loop [6] (fun i => ∃ j : Nat, j ≤ t.length ∧ i = .int .i64 j ∧ Hid (inT (t.take j) c = false)) (fun i => t.length - (RowKit.intOf i).toNat)
      case atStart => exact ⟨0, Nat.zero_le _, rfl, Lib.hid rfl⟩
      case round =>
        obtain ⟨j, hj, rfl, HJ⟩ := hrel
        by_cases hjl : j < t.length
        · have hjz : j < (⟨t.toArray⟩ : ByteArray).size := by rw [bsize]; exact hjl
          have hb := byteAt t j hjl hjz
          obtain ⟨x, hx⟩ : ∃ x, t[j] = x := ⟨_, rfl⟩
          rw [hx] at hb
          have HX : Hid (t[j]? = some x) := Lib.hid (by rw [List.getElem?_eq_getElem hjl, hx])
          have g0 : (0 : Int) ≤ (j : Int) := by omega
          have g1 : (j : Int) < (t.length : Int) := by omega
          by_cases hq : x.toNat = c
          · have HE : Hid (R = true) := Lib.hid (HH.out x (List.mem_of_getElem? HX.out) hq)
            subst hq
            clear hx
            go_wp2
            go_ret
            exact ⟨by rw [HE.out]; rfl, rfl⟩
          · have HE : Hid (inT (t.take (j + 1)) c = false) := Lib.hid (by
              rw [inT_snoc HX.out c, HJ.out]
              simpa using hq)
            have hq2 : ((x.toNat : Int) == (c : Int)) = false := by rw [beq_eq_false_iff_ne]; omega
            have hq3 : ¬ (x.toNat : Int) = (c : Int) := by omega
            have hq4 : (x.toNat == c) = false := by rw [beq_eq_false_iff_ne]; omega
            clear hx
            go_wp2
            exact ⟨⟨j + 1, by omega, by go_num, HE⟩, by simp [RowKit.intOf]; omega⟩
        · obtain rfl : j = t.length := by omega
          have hz : ¬ (t.length : Int) < (t.length : Int) := by omega
          have HE : Hid (hasC (ws.take (k + 1)) c = false) := Lib.hid (by
            rw [HN.out c, HK.out, Bool.false_or, ← HJ.out, List.take_length])
          clear HJ
          go_wp2
          exact ⟨⟨k + 1, by omega, by go_num, HE⟩, by simp [RowKit.intOf]; omega⟩
    · obtain rfl : k = len := by omega
      have hz : ¬ (k : Int) < (k : Int) := by omega
      have HE : Hid (R = false) := Lib.hid (by rw [← HRR.out, ← HK.out, List.take_of_length_le (by omega)])
      clear HK
      go_wp2
      go_ret
      exact ⟨by rw [HE.out]; rfl, rfl⟩
end Go.Proofs.Ytenanbcngamlgaa

namespace Go.Proofs.Ytenanbcngamlgaa
open Go.RowKit

set_option maxRecDepth 100000 in
set_option maxHeartbeats 4000000 in
theorem rclbytes_any (a : Option Addr) (len cap : Nat) (ws : List (List UInt8)) (w : World) (hlen : len ≤ 1000000) (hr : IsStrs w a len ws) (ht : ∀ t ∈ ws, t.length ≤ 1000000) :
    Calls Try.prog 13 #[.slice a len cap] w fun e w' => e = .returned (.string ⟨(bcK ws 256).toArray⟩) ∧ Below w.heap.size w w' := by
  obtain ⟨i0, hi, hz0, hz1, hz2⟩ := info_parts bubyte_info
  have HH := Lib.hid (fun (c : Nat) (W : World) (hW : Below w.heap.size w W) => rclhas_any a len cap c ws W hlen (hr.below hW) ht)
  clear hr ht
  go_enter Try.func13, Try.ntmps13
  go_wp2
  go_loopw [3, 4] (fun v i wr => ∃ k : Nat, k ≤ 256 ∧ i = .int .i64 k ∧ Hid (wr.ownsRow w.heap.size 5 1 v (bcK ws k).length (Lib.byteCells (bcK ws k))) ∧ Below w.heap.size w wr) (fun _ i _ => 256 - (RowKit.intOf i).toNat)
  case atStart => exact ⟨0, Nat.zero_le _, rfl, Lib.hid (World.ownsRow_made w #[] 0 (Nat.le_refl _) (Nat.zero_le _) rfl), (Below.refl _ _).alloc (Nat.le_refl _) _⟩
  case round =>
    obtain ⟨k, hk, rfl, HO, hbe⟩ := hrel
    obtain ⟨ao, co, rfl⟩ := owns_slice HO.out
    have hsz := hbe.size
    by_cases hlt : k < 256
    · have hw8 : IntKind.u8.wrap (k : Int) = (k : Int) := u8_wrap k hlt
      have g1 : (k : Int) < 256 := by omega
      have HC := Lib.hid (HH.out k wr hbe)
      cases hq : hasC ws k with
      | true =>
        rw [hq] at HC
        have HV := Lib.hid (bc_hit hq)
        have hl := bc_length ws k
        have hown := HO.out
        clear hq
        go_wp2_with fail
        refine HC.out.mono ?_
        rintro e w' ⟨rfl, hw⟩
        obtain rfl := hw.symm
        clear hw HC
        go_wp2_with (at_builtin; refine wpList_append_own _ rfl _ _ 63 rfl w.heap.size 5 i0 (.int .u8 0) 1 1 Try.underlying63 hi hz0 hz1 hz2 rfl (by decide) _ _ _ rfl (hown.alloc _) ⟨wr.heap.size, 0, none⟩ 1 1 [.int .u8 (k : Int)] rfl rfl (one_news (heap_alloc_new _ _)) bubyte_one (by unfold maxLen; omega) (by omega) (by simp; omega) ?_)
        intro v' w3 hown3 hgrow _
        obtain ⟨a3, cap3, rfl⟩ := owns_slice hown3
        have HW := Lib.hid (show w3.ownsRow w.heap.size 5 1 (.slice a3 ((bcK ws k).length + 1) cap3) (bcK ws (k + 1)).length (Lib.byteCells (bcK ws (k + 1))) by rw [HV.out, bucells_snoc _ _ hlt, List.length_append]; exact hown3)
        have B3 : Below w.heap.size w w3 := own_below hbe hown (Nat.le_refl _) hgrow
        clear hown hown3 hgrow HO
        go_wp2
        exact ⟨⟨k + 1, by omega, by go_num, HW, B3⟩, by simp [RowKit.intOf]; omega⟩
      | false =>
        rw [hq] at HC
        have HV := Lib.hid (bc_miss hq)
        clear hq
        go_wp2_with fail
        refine HC.out.mono ?_
        rintro e w' ⟨rfl, hw⟩
        obtain rfl := hw.symm
        clear hw HC
        go_wp2
        exact ⟨⟨k + 1, by omega, by go_num, by rw [HV.out]; exact HO, hbe⟩, by simp [RowKit.intOf]; omega⟩
    · obtain rfl : k = 256 := by omega
      have hz : ¬ ((256 : Nat) : Int) < 256 := by omega
      have hct := own_text HO.out
      go_wp2
      go_ret
      exact ⟨rfl, hbe⟩
end Go.Proofs.Ytenanbcngamlgaa

namespace Go.Proofs.Ytenanbcngamlgaa
open Go.RowKit

theorem dnown_below {w w' : World} {base : Nat} {e : TypeId} {size : Nat} {v : Value} {n : Nat} {xs : List Value} (h : w.ownsRow base e size v n xs) (hb : Below w.heap.size w w') : w'.ownsRow base e size v n xs :=
  h.kept (row := none) ⟨hb.os, hb.tape, hb.output, hb.size, fun k hk _ => hb.block k hk⟩ (Classical.em _)
/-- A row, as the document makes it, by so many bytes. -/
def rwK (us S : List (List UInt8)) (s : List UInt8) (k : Nat) : List Int := 0 :: ((bcK us 256).take k).map fun c => (dnS S s c : Int)
theorem rwK_snoc {us S : List (List UInt8)} {s : List UInt8} {k : Nat} {c : UInt8} (h : (bcK us 256)[k]? = some c) : rwK us S s (k + 1) = rwK us S s k ++ [(dnS S s c : Int)] := by
  obtain ⟨hk, e⟩ := List.getElem?_eq_some_iff.1 h
  unfold rwK
  rw [List.take_succ_eq_append_getElem hk, e, List.map_append]
  rfl
theorem rwK_all (us S : List (List UInt8)) (s : List UInt8) : rwK us S s (bcK us 256).length = (rwF us S s).map fun (x : Nat) => (x : Int) := by
  unfold rwK rwF
  rw [List.take_length, List.map_cons, List.map_map]
  rfl
theorem rwK_length (us S : List (List UInt8)) (s : List UInt8) (k : Nat) : (rwK us S s k).length ≤ 257 := by
  unfold rwK
  have := bc_length us 256
  rw [List.length_cons, List.length_map, List.length_take]
  omega

set_option maxRecDepth 100000 in
set_option maxHeartbeats 4000000 in
theorem rdnrow_any (al : Option Addr) (n1 cl : Nat) (us : List (List UInt8)) (a : Option Addr) (len cap : Nat) (S : List (List UInt8)) (w : World) (hn1 : n1 ≤ 1000000) (hlen : len ≤ 1000000) (hu : IsStrs w al n1 us) (hr : IsStrs w a len S) (h0 : [] ∈ S) (ht : ∀ t ∈ us, t.length ≤ 1000000) (hl : ∀ t ∈ S, t.length ≤ 1000000) (i : Nat) {s : List UInt8} (hs : S[i]? = some s) :
    Calls Try.prog 20 #[.slice al n1 cl, .slice a len cap, .int .i64 (i : Int)] w (RetN ((rwF us S s).map fun (x : Nat) => (x : Int)) w) := by
  obtain ⟨i0, hi, hz0, hz1, hz2⟩ := info_parts int_info
  have HB := Lib.hid (fun (W : World) (h : Below w.heap.size w W) => rclbytes_any al n1 cl us W hn1 (hu.below h) ht)
  have HS := Lib.hid (fun (c : UInt8) (W : World) (h : Below w.heap.size w W) => rlkstep_any a len cap S W (by omega) (hr.below h) h0 (fun t h => by have := hl t h; omega) i hs c)
  have HD := Lib.hid (fun (c : UInt8) => dn_ix h0 s c)
  have HA := Lib.hid (rwK_all us S s)
  have HSn := Lib.hid (fun (k : Nat) (c : UInt8) (h : (bcK us 256)[k]? = some c) => rwK_snoc (S := S) (s := s) h)
  have HLn := Lib.hid (rwK_length us S s)
  have hbl := bc_length us 256
  have hK0 : rwK us S s 0 = [0] := rfl
  generalize (rwF us S s).map (fun (x : Nat) => (x : Int)) = R at *
  generalize rwK us S s = K at *
  have HK0 := Lib.hid hK0
  clear hu hr h0 ht hl hs hK0
  go_enter Try.func20, Try.ntmps20
  have HO0 : Hid ((w.alloc (.cells #[.int .i64 0] 3)).ownsRow w.heap.size 3 1 (.slice (some ⟨w.heap.size, 0, none⟩) 1 1) ([0] : List Int).length (inCells [0])) := Lib.hid ⟨by simp [inCells], .inr ⟨w.heap.size, 1, #[.int .i64 0], rfl, Nat.le_refl _, heap_alloc_new w _, Nat.le_refl _, by unfold maxLen; omega, by rfl, by simp [inCells]⟩⟩
  have B0 : Below w.heap.size w (w.alloc (.cells #[.int .i64 0] 3)) := (Below.refl _ _).alloc (Nat.le_refl _) _
  have HB0 := Lib.hid (HB.out _ B0)
  rw [← HK0.out] at HO0
  go_wp2_with fail
  generalize w.alloc (.cells #[.int .i64 0] 3) = w1 at *
  have hs1 := B0.size
  have hv0 : (Value.slice (some ⟨w.heap.size, 0, none⟩) 1 1) = .slice (some ⟨w.heap.size, 0, none⟩) 1 1 := rfl
  refine HB0.out.mono ?_
  rintro e w2 ⟨rfl, hb2⟩
  have B2 := B0.trans (hb2.mono hs1)
  have HO2 := Lib.hid (dnown_below HO0.out hb2)
  clear HB0 HO0 hb2 B0 hs1 HB hv0
  obtain ⟨B, hB⟩ : ∃ B, bcK us 256 = B := ⟨_, rfl⟩
  rw [hB] at HA HSn hbl
  rw [hB]
  clear hB
  have S1 := Lib.hid (bsize B)
  go_wp2
  go_loopw [7, 9] (fun v x wr => ∃ (k : Nat), k ≤ B.length ∧ x = .int .i64 k ∧ Hid (wr.ownsRow w.heap.size 3 1 v (K k).length (inCells (K k))) ∧ Below w.heap.size w wr) (fun _ x _ => B.length - (RowKit.intOf x).toNat)
  case atStart => exact ⟨0, Nat.zero_le _, rfl, HO2, B2⟩
  case round =>
    clear HO2 B2
    obtain ⟨k, hk, rfl, HO, hbe⟩ := hrel
    have hsz := hbe.size
    obtain ⟨ao, co, rfl⟩ := owns_slice HO.out
    by_cases hlt : k < B.length
    · have hkz : k < (⟨B.toArray⟩ : ByteArray).size := by rw [bsize]; exact hlt
      have hb := byteAt B k hlt hkz
      obtain ⟨c, hc⟩ : ∃ c, B[k] = c := ⟨_, rfl⟩
      rw [hc] at hb
      have HC := Lib.hid (HS.out c wr hbe)
      rw [HD.out c] at HC
      have HN := Lib.hid (HSn.out k c (by rw [List.getElem?_eq_getElem hlt, hc]))
      have hKl := HLn.out k
      have g0 : (0 : Int) ≤ (k : Int) := by omega
      have g1 : (k : Int) < (B.length : Int) := by omega
      obtain ⟨x, hx⟩ : ∃ x, dnS S s c = x := ⟨_, rfl⟩
      rw [hx] at HC HN
      clear hc hx
      generalize hKk : K k = D at *
      go_wp2_with fail
      refine HC.out.mono ?_
      rintro e w4 ⟨rfl, hb4⟩
      have hown := dnown_below HO.out hb4
      have hbe4 := hbe.trans (hb4.mono hsz)
      have hs4 := hbe4.size
      clear HC hb4 hbe HO
      go_wp2_with (at_builtin; refine wpList_append_own _ rfl _ _ 42 rfl w.heap.size 3 i0 (.int .i64 0) 1 8 Try.underlying42 hi hz0 hz1 hz2 rfl (by decide) _ _ _ rfl (hown.alloc _) ⟨w4.heap.size, 0, none⟩ 1 1 [.int .i64 (x : Int)] rfl rfl (int_news (heap_alloc_new _ _)) int_one (by unfold maxLen; omega) (by omega) (by simp; omega) ?_)
      intro v' w3 hown3 hgrow _
      obtain ⟨a3, cap3, rfl⟩ := owns_slice hown3
      have HW : Hid (w3.ownsRow w.heap.size 3 1 (.slice a3 (D.length + 1) cap3) (K (k + 1)).length (inCells (K (k + 1)))) := Lib.hid (by rw [HN.out, inCells_snoc, List.length_append]; exact hown3)
      have B3 : Below w.heap.size w w3 := own_below hbe4 hown (Nat.le_refl _) hgrow
      clear hown hown3 hgrow hbe4
      go_wp2
      exact ⟨⟨k + 1, by omega, by go_num, HW, B3⟩, by simp [RowKit.intOf]; omega⟩
    · obtain rfl : k = B.length := by omega
      have hz : ¬ (B.length : Int) < (B.length : Int) := by omega
      have HO3 := HO
      rw [HA.out] at HO3
      obtain ⟨m, hm⟩ : ∃ m, (K B.length).length = m := ⟨_, rfl⟩
      rw [hm]
      have hRl : R.length = m := by rw [← HA.out]; exact hm
      clear HO
      go_wp2
      go_ret
      exact ⟨_, rfl, by have h := HO3.out; rw [hRl] at h ⊢; exact h, hbe⟩
end Go.Proofs.Ytenanbcngamlgaa

namespace Go.Proofs.Ytenanbcngamlgaa
open Go.RowKit

theorem clbytes_any {w : World} {p : Option Addr} {F : Nat → Nat} {B : List UInt8} {n : Nat} (h : HasCls w p F B n) :
    Calls Try.prog 15 #[.pointer p] w fun e w' => e = .returned (.string ⟨B.toArray⟩) ∧ w' = w := by
  rcases h with ⟨rfl, _, rfl, _⟩ | ⟨b, rfl, h, _⟩
  · go_enter Try.func15, Try.ntmps15
    go_wp2
    go_ret
    exact ⟨rfl, rfl⟩
  · have c0 := h.last
    clear h
    go_enter Try.func15, Try.ntmps15
    go_wp2
    go_ret
    exact ⟨rfl, rfl⟩
end Go.Proofs.Ytenanbcngamlgaa

namespace Go.Proofs.Ytenanbcngamlgaa
open Go.RowKit

theorem rptnew_all (a : Option Addr) (len cap : Nat) (ws : List (List UInt8)) (w : World) (hlen : len ≤ 1000000) (hr : IsStrs w a len ws) (ht : ∀ t ∈ ws, t.length ≤ 1000000000) :
    Calls Try.prog 8 #[.slice a len cap] w fun e w' => ∃ (a : Option Addr) (cap : Nat), e = .returned (.tuple #[.slice a (setL ws).length cap, .int .i64 (faultL ws)]) ∧ IsStrs w' a (setL ws).length (setL ws) ∧ Below w.heap.size w w' := by
  refine (rptnew_any a len cap ws w hlen hr ht).mono ?_
  rintro e w' ⟨a, cap, L, rfl, h1, h2, hs, hb⟩
  have e : L = setL ws := by
    by_cases hf : faultL ws = 0
    · rw [h1 hf, set_good hf]
    · rw [(h2 hf).1, set_bad hf]
  subst e
  exact ⟨a, cap, rfl, hs, hb⟩
end Go.Proofs.Ytenanbcngamlgaa

namespace Go.Proofs.Ytenanbcngamlgaa
open Go.RowKit


theorem few_no8 (a : Option Addr) (len cap : Nat) (ws : List (List UInt8)) (w : World) (hlen : len ≤ 9223372036854775807) (hr : IsStrs w a len ws) (ht : ∀ t ∈ ws, t.length ≤ 9223372036854775807) (β : Bool) (hq : fewB ws 8 12 = β) :
    Calls Try.prog 5 #[.slice a len cap, .int .i64 8, .int .i64 12] w fun e w' => e = .returned (.bool β) ∧ w' = w := by
  have := few_any a len cap ws 8 12 w hlen (by omega) (by omega) hr ht
  rw [hq] at this
  exact this

end Go.Proofs.Ytenanbcngamlgaa

namespace Go.Proofs.Ytenanbcngamlgaa
open Go.RowKit

/-- A row of numbers, to be read: as an answer with a world behind it. -/
theorem retn_row {zs : List Int} {w w' : World} {e : Ending} (h : RetN zs w e w') (hm : zs.length ≤ maxLen) : ∃ a c, e = .returned (.slice a zs.length c) ∧ IsRow .i64 w' a zs.length zs.length zs ∧ Below w.heap.size w w' := by
  obtain ⟨v, rfl, hown, hb⟩ := h
  obtain ⟨a, c, rfl, hr⟩ := row_of_ints hown hm
  exact ⟨a, c, rfl, hr, hb⟩

end Go.Proofs.Ytenanbcngamlgaa
