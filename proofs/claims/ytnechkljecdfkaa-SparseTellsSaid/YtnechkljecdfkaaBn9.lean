/-
  Texts put together: LkR, OwnBe, LkRs, PtUr, Few8.
-/
import Derived.Test.YtnechkljecdfkaaBn2
import Derived.Test.YtnechkljecdfkaaBn8
import Derived.Test.YtnechkljecdfkaaBn7
import Derived.Test.YtnechkljecdfkaaBn4
set_option linter.unusedSimpArgs false
set_option linter.unusedVariables false
namespace Go.Proofs.Ytnechkljecdfkaa
open Go.RowKit

theorem ix_nonneg {s : List UInt8} {ws : List (List UInt8)} (h : s ∈ ws) : 0 ≤ ixL s ws := by unfold ixL; rw [if_pos h]; omega
theorem tail_drop (s : List UInt8) (d : Nat) : (s.drop d).tail = s.drop (d + 1) := by rw [List.tail_drop]

set_option maxHeartbeats 1000000 in
theorem rlongest_any (a : Option Addr) (len cap : Nat) (S : List (List UInt8)) (s : List UInt8) (m : Nat) (w : World) (hlen : len ≤ 1000000000) (hr : IsStrs w a len S) (h0 : [] ∈ S) (hs : s.length ≤ 100000000) (hm : m ≤ s.length) :
    Calls Try.prog 18 #[.slice a len cap, .string ⟨s.toArray⟩, .int .i64 (m : Int)] w fun e w' => e = .returned (.int .i64 (ixL (lgL S (s.drop (s.length - m))) S)) ∧ w' = w := by
  have HF := Lib.hid (fun t => rfind16_any a len cap S t w hlen hr)
  have H0 := Lib.hid h0
  have HS := Lib.hid (bsize s)
  clear hr h0
  go_enter Try.func18, Try.ntmps18
  go_wp2
  go_loop [7, 8] (fun x _ => ∃ n : Nat, n ≤ s.length ∧ x = .int .i64 n ∧ Hid (lgL S (s.drop (s.length - m)) = lgL S (s.drop (s.length - min n m)))) (fun x _ => (RowKit.intOf x).toNat)
  case atStart => exact ⟨s.length, Nat.le_refl _, rfl, Lib.hid (by rw [Nat.min_eq_right hm])⟩
  case round =>
    obtain ⟨n, hn, rfl, HG⟩ := hrel
    have g0 : (0 : Int) ≤ (n : Int) := by omega
    by_cases hnm : m < n
    · have g1 : (m : Int) < (n : Int) := by omega
      have HG2 := Lib.hid (show lgL S (s.drop (s.length - m)) = lgL S (s.drop (s.length - min (n - 1) m)) by
        rw [HG.out, Nat.min_eq_right (by omega), Nat.min_eq_right (by omega)])
      have w1 : IntKind.i64.wrap ((n : Int) - 1) = ((n - 1 : Nat) : Int) := by rw [IntKind.wrap_i64]; omega
      clear HG
      go_wp2
      exact ⟨⟨n - 1, by omega, by first | rfl | go_num, HG2⟩, by simp [RowKit.intOf]; omega⟩
    · have g1 : ¬ (m : Int) < (n : Int) := by omega
      obtain ⟨d, hd⟩ : ∃ d, d + n = s.length := ⟨s.length - n, by omega⟩
      have w0 : IntKind.i64.wrap ((s.length : Int) - (n : Int)) = (d : Int) := by rw [IntKind.wrap_i64]; omega
      have g2 : (0 : Int) ≤ (d : Int) := by omega
      have g3 : (d : Int) ≤ (s.length : Int) := by omega
      have hx := ext_rest s d
      have HG1 := Lib.hid (show lgL S (s.drop (s.length - m)) = lgL S (s.drop d) by
        rw [HG.out, Nat.min_eq_left (by omega), show s.length - n = d by omega])
      have HC := Lib.hid (HF.out (s.drop d))
      by_cases hu : s.drop d ∈ S
      · have hz := ix_nonneg hu
        have HE := Lib.hid (show ixL (lgL S (s.drop (s.length - m))) S = ixL (s.drop d) S by rw [HG1.out, lg_hit hu])
        generalize ixL (s.drop d) S = z at hz HE HC
        have HD := Lib.hid hd
        clear HG HG1 hu hd
        go_wp2_with fail
        refine HC.out.mono ?_
        rintro e w' ⟨rfl, hw'⟩
        obtain rfl := hw'.symm
        clear hw' HC
        go_wp2
        go_ret
        exact ⟨by rw [HE.out]; rfl, rfl⟩
      · have hz := ix_miss hu
        rw [hz] at HC
        have hn0 : 1 ≤ n := by
          rcases Nat.eq_zero_or_pos n with h | h
          · exfalso
            rw [List.drop_eq_nil_of_le (by omega)] at hu
            exact hu H0.out
          · exact h
        have HG2 := Lib.hid (show lgL S (s.drop (s.length - m)) = lgL S (s.drop (s.length - min (n - 1) m)) by
          rw [HG1.out, lg_miss hu, tail_drop, Nat.min_eq_left (by omega), show s.length - (n - 1) = d + 1 by omega])
        have w1 : IntKind.i64.wrap ((n : Int) - 1) = ((n - 1 : Nat) : Int) := by rw [IntKind.wrap_i64]; omega
        have HD := Lib.hid hd
        clear HG HG1 hu hd hz
        go_wp2_with fail
        refine HC.out.mono ?_
        rintro e w' ⟨rfl, hw'⟩
        obtain rfl := hw'.symm
        clear hw' HC
        go_wp2
        exact ⟨⟨n - 1, by omega, by first | rfl | go_num, HG2⟩, by simp [RowKit.intOf]; omega⟩

end Go.Proofs.Ytnechkljecdfkaa

namespace Go.Proofs.Ytnechkljecdfkaa
open Go.RowKit

theorem own_below {base : Nat} {e : TypeId} {v : Value} {n : Nat} {xs : List Value} {w0 w w' : World} {o : Obj} (hb : Below w0.heap.size w0 w) (hown : w.ownsRow base e 1 v n xs) (hbase : w0.heap.size ≤ base) (hg : (w.alloc o).grownBy w' v.ownBlock) : Below w0.heap.size w0 w' :=
  hb.trans ⟨hg.os, hg.tape, hg.output, Nat.le_trans (by simp) hg.size, fun i hi => by
    rw [hg.block i (by have := hb.size; simp; omega) (fun e => by have := (hown.lt i e.symm).1; omega), Lib.alloc_old _ _ i (by have := hb.size; omega)]⟩
end Go.Proofs.Ytnechkljecdfkaa

namespace Go.Proofs.Ytnechkljecdfkaa
open Go.RowKit

set_option maxRecDepth 100000 in
set_option maxHeartbeats 2000000 in
theorem rlkstep_any (a : Option Addr) (len cap : Nat) (S : List (List UInt8)) (w : World) (hlen : len ≤ 1000000000) (hr : IsStrs w a len S) (h0 : [] ∈ S) (hl : ∀ t ∈ S, t.length ≤ 10000000) (i : Nat) {s : List UInt8} (hs : S[i]? = some s) (c : UInt8) :
    Calls Try.prog 17 #[.slice a len cap, .int .i64 (i : Int), .int .u8 (c.toNat : Int)] w fun e w' => e = .returned (.int .i64 (ixL (lgL S (s ++ [c])) S)) ∧ Below w.heap.size w w' := by
  have hwl := hr.1
  have hil := (List.getElem?_eq_some_iff.1 hs).1
  have hsl := hl s (List.mem_of_getElem? hs)
  have HL1 := (fun W (hb : Below w.heap.size w W) => rlongest_any a len cap S (s ++ [c]) (s.length + 1) W hlen (hr.below hb) h0 (by simp; omega) (by simp))
  have HE := Lib.hid (show (s ++ [c]).drop ((s ++ [c]).length - (s.length + 1)) = s ++ [c] by simp)
  rw [HE.out] at HL1
  have HL := Lib.hid (fun W (hb : Below w.heap.size w W) (z : Int) (hz : z = ((s.length + 1 : Nat) : Int)) => show Calls Try.prog 18 #[.slice a len cap, .string ⟨(s ++ [c]).toArray⟩, .int .i64 z] W (fun e w' => e = .returned (.int .i64 (ixL (lgL S (s ++ [c])) S)) ∧ w' = W) from by subst hz; exact HL1 W hb)
  clear HL1
  obtain ⟨b, off, rfl, t, hf, hc⟩ := str_at hr (Below.refl _ _) i (by omega)
  obtain rfl : t = s := Option.some.inj (hf.symm.trans hs)
  have hbl := World.block_lt_of_cell? w _ hc
  have hcA : ∀ o, (w.alloc o).cell? ⟨b, off + i, none⟩ = some (.string ⟨t.toArray⟩) := fun o => by rw [World.cell?_alloc_lt _ _ _ hbl]; exact hc
  have hcv : ∀ W X, W.heap[X]? = some (.cells #[.int .u8 (c.toNat : Int)] 5 (0, 0)) → (convert 64 9 (.slice (some ⟨X, 0, none⟩) 1 1)).run Try.prog W = .ok (.string ⟨[c].toArray⟩) W := fun W X h => one_textT W X c h
  have hcv0 := hcv (w.alloc (.cells #[.int .u8 (c.toNat : Int)] 5)) w.heap.size (heap_alloc_new w _)
  have hcv1 := hcv (w.drew.alloc (.cells #[.int .u8 (c.toNat : Int)] 5)) w.heap.size (heap_alloc_new w.drew _)
  have hcv2 := hcv (w.alloc (.cells #[.int .u8 (c.toNat : Int)] 5)).drew w.heap.size (heap_alloc_new w _)
  have hpl := plus_byteT t c
  have hS2 : (⟨(t ++ [c]).toArray⟩ : ByteArray).size = t.length + 1 := by rw [bsize]; simp
  have HZ := Lib.hid hS2
  have HS := Lib.hid (bsize t)
  have g2 : (0 : Int) ≤ (i : Int) := by omega
  have g3 : (i : Int) < (len : Int) := by omega
  have hov : ¬ 9223372036854775807 < t.length + 1 := by omega
  have B1 := Lib.hid (fun W (hW : W = (w.alloc (.cells #[.int .u8 (c.toNat : Int)] 5)).drew ∨ W = w.drew.alloc (.cells #[.int .u8 (c.toNat : Int)] 5)) => show Below w.heap.size w W from by
    rcases hW with rfl | rfl
    · exact ((Below.refl _ _).alloc (Nat.le_refl _) _).drew
    · exact (Below.refl _ _).drew.alloc (Nat.le_refl _) _)
  clear hr h0 hl hs hf HE hcv hS2
  go_enter Try.func17, Try.ntmps17
  go_wp2_with fail
  go_region
  have B2 := B1.out _ (.inl rfl)
  have HL2 := Lib.hid (HL.out _ B2)
  clear hcA hcv0 hcv1 hcv2 hpl B1 HL hc hbl
  generalize (w.alloc (.cells #[.int .u8 (c.toNat : Int)] 5)).drew = W at *
  go_wp2_with fail
  refine (HL2.out _ (by omega)).mono ?_
  rintro e w' ⟨rfl, hw'⟩
  obtain rfl := hw'.symm
  clear hw' HL2
  go_wp2
  go_ret
  exact ⟨rfl, B2⟩

end Go.Proofs.Ytnechkljecdfkaa

namespace Go.Proofs.Ytnechkljecdfkaa
open Go.RowKit

theorem rptnew_all (a : Option Addr) (len cap : Nat) (ws : List (List UInt8)) (w : World) (hlen : len ≤ 1000000) (hr : IsStrs w a len ws) (ht : ∀ t ∈ ws, t.length ≤ 1000000000) :
    Calls Try.prog 8 #[.slice a len cap] w fun e w' => ∃ (a : Option Addr) (cap : Nat), e = .returned (.tuple #[.slice a (setL ws).length cap, .int .i64 (faultL ws)]) ∧ IsStrs w' a (setL ws).length (setL ws) ∧ Below w.heap.size w w' := by
  refine (rptnew_any a len cap ws w hlen hr ht).mono ?_
  rintro e w' ⟨a, cap, L, rfl, h1, h2, hs, hb⟩
  have e : L = setL ws := by
    by_cases hf : faultL ws = 0
    · rw [h1 hf, set_good hf]
    · rw [(h2 hf).1, set_bad hf]
  subst e
  exact ⟨a, cap, rfl, hs, hb⟩
end Go.Proofs.Ytnechkljecdfkaa

namespace Go.Proofs.Ytnechkljecdfkaa
open Go.RowKit


theorem few_no8 (a : Option Addr) (len cap : Nat) (ws : List (List UInt8)) (w : World) (hlen : len ≤ 9223372036854775807) (hr : IsStrs w a len ws) (ht : ∀ t ∈ ws, t.length ≤ 9223372036854775807) (β : Bool) (hq : fewB ws 8 12 = β) :
    Calls Try.prog 5 #[.slice a len cap, .int .i64 8, .int .i64 12] w fun e w' => e = .returned (.bool β) ∧ w' = w := by
  have := few_any a len cap ws 8 12 w hlen (by omega) (by omega) hr ht
  rw [hq] at this
  exact this

end Go.Proofs.Ytnechkljecdfkaa
