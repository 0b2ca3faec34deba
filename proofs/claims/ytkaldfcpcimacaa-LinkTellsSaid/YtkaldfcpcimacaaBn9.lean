/-
  Texts put together: LkR, TrLt, LkRs.
-/
import Derived.Test.YtkaldfcpcimacaaBn2
import Derived.Test.YtkaldfcpcimacaaBn6
import Derived.Test.YtkaldfcpcimacaaBn5
set_option linter.unusedSimpArgs false
set_option linter.unusedVariables false
namespace Go.Proofs.Ytkaldfcpcimacaa
open Go.RowKit

theorem ix_nonneg {s : List UInt8} {ws : List (List UInt8)} (h : s ∈ ws) : 0 ≤ ixL s ws := by unfold ixL; rw [if_pos h]; omega
theorem tail_drop (s : List UInt8) (d : Nat) : (s.drop d).tail = s.drop (d + 1) := by rw [List.tail_drop]

set_option maxHeartbeats 1000000 in
theorem rlongest_any (a : Option Addr) (len cap : Nat) (S : List (List UInt8)) (s : List UInt8) (m : Nat) (w : World) (hlen : len ≤ 1000000000) (hr : IsStrs w a len S) (h0 : [] ∈ S) (hs : s.length ≤ 100000000) (hm : m ≤ s.length) :
    Calls Try.prog 23 #[.slice a len cap, .string ⟨s.toArray⟩, .int .i64 (m : Int)] w fun e w' => e = .returned (.int .i64 (ixL (lgL S (s.drop (s.length - m))) S)) ∧ w' = w := by
  have HF := Lib.hid (fun t => rfind16_any a len cap S t w hlen hr)
  have H0 := Lib.hid h0
  have HS := Lib.hid (bsize s)
  clear hr h0
  go_enter Try.func23, Try.ntmps23
  go_wp2
  go_loop [7, 8] (fun x _ => ∃ n : Nat, n ≤ s.length ∧ x = .int .i64 n ∧ Hid (lgL S (s.drop (s.length - m)) = lgL S (s.drop (s.length - min n m)))) (fun x _ => (RowKit.intOf x).toNat)
  case atStart => exact ⟨s.length, Nat.le_refl _, rfl, Lib.hid (by rw [Nat.min_eq_right hm])⟩
  case round =>
    obtain ⟨n, hn, rfl, HG⟩ := hrel
    have g0 : (0 : Int) ≤ (n : Int) := by omega
    by_cases hnm : m < n
    · have g1 : (m : Int) < (n : Int) := by omega
      have HG2 := Lib.hid (show lgL S (s.drop (s.length - m)) = lgL S (s.drop (s.length - min (n - 1) m)) by
        rw [HG.out, Nat.min_eq_right (by omega), Nat.min_eq_right (by omega)])
      have w1 : IntKind.i64.wrap ((n : Int) - 1) = ((n - 1 : Nat) : Int) := by rw [IntKind.wrap_i64]; omega
      clear HG
      go_wp2
      exact ⟨⟨n - 1, by omega, by first | rfl | go_num, HG2⟩, by simp [RowKit.intOf]; omega⟩
    · have g1 : ¬ (m : Int) < (n : Int) := by omega
      obtain ⟨d, hd⟩ : ∃ d, d + n = s.length := ⟨s.length - n, by omega⟩
      have w0 : IntKind.i64.wrap ((s.length : Int) - (n : Int)) = (d : Int) := by rw [IntKind.wrap_i64]; omega
      have g2 : (0 : Int) ≤ (d : Int) := by omega
      have g3 : (d : Int) ≤ (s.length : Int) := by omega
      have hx := ext_rest s d
      have HG1 := Lib.hid (show lgL S (s.drop (s.length - m)) = lgL S (s.drop d) by
        rw [HG.out, Nat.min_eq_left (by omega), show s.length - n = d by omega])
      have HC := Lib.hid (HF.out (s.drop d))
      by_cases hu : s.drop d ∈ S
      · have hz := ix_nonneg hu
        have HE := Lib.hid (show ixL (lgL S (s.drop (s.length - m))) S = ixL (s.drop d) S by rw [HG1.out, lg_hit hu])
        generalize ixL (s.drop d) S = z at hz HE HC
        have HD := Lib.hid hd
        clear HG HG1 hu hd
        go_wp2_with fail
        refine HC.out.mono ?_
        rintro e w' ⟨rfl, hw'⟩
        obtain rfl := hw'.symm
        clear hw' HC
        go_wp2
        go_ret
        exact ⟨by rw [HE.out]; rfl, rfl⟩
      · have hz := ix_miss hu
        rw [hz] at HC
        have hn0 : 1 ≤ n := by
          rcases Nat.eq_zero_or_pos n with h | h
          · exfalso
            rw [List.drop_eq_nil_of_le (by omega)] at hu
            exact hu H0.out
          · exact h
        have HG2 := Lib.hid (show lgL S (s.drop (s.length - m)) = lgL S (s.drop (s.length - min (n - 1) m)) by
          rw [HG1.out, lg_miss hu, tail_drop, Nat.min_eq_left (by omega), show s.length - (n - 1) = d + 1 by omega])
        have w1 : IntKind.i64.wrap ((n : Int) - 1) = ((n - 1 : Nat) : Int) := by rw [IntKind.wrap_i64]; omega
        have HD := Lib.hid hd
        clear HG HG1 hu hd hz
        go_wp2_with fail
        refine HC.out.mono ?_
        rintro e w' ⟨rfl, hw'⟩
        obtain rfl := hw'.symm
        clear hw' HC
        go_wp2
        exact ⟨⟨n - 1, by omega, by first | rfl | go_num, HG2⟩, by simp [RowKit.intOf]; omega⟩

set_option maxHeartbeats 1000000 in
theorem rlkfail_any (a : Option Addr) (len cap : Nat) (S : List (List UInt8)) (w : World) (hlen : len ≤ 1000000000) (hr : IsStrs w a len S) (h0 : S[0]? = some []) (hn : S.Nodup) (hl : ∀ t ∈ S, t.length ≤ 100000000) (i : Nat) {s : List UInt8} (hs : S[i]? = some s) :
    Calls Try.prog 15 #[.slice a len cap, .int .i64 (i : Int)] w fun e w' => e = .returned (.int .i64 (ixL (fbL S s) S)) ∧ Below w.heap.size w w' := by
  have hwl := hr.1
  have hil := (List.getElem?_eq_some_iff.1 hs).1
  by_cases hi : i = 0
  · subst hi
    rw [h0] at hs
    cases hs
    have HE := Lib.hid (show ixL (fbL S []) S = 0 by show ixL [] S = 0; rw [ix_is hn h0]; rfl)
    clear hr h0 hn hl
    go_enter Try.func15, Try.ntmps15
    go_wp2
    go_ret
    exact ⟨by rw [HE.out]; rfl, Below.refl _ _⟩
  · have hs0 : s ≠ [] := fun e => by
      subst e
      obtain ⟨a1, b1⟩ := List.getElem?_eq_some_iff.1 hs
      obtain ⟨a2, b2⟩ := List.getElem?_eq_some_iff.1 h0
      exact hi ((List.getElem_inj hn).1 (b1.trans b2.symm))
    have hsl := hl s (List.mem_of_getElem? hs)
    have hsp : 1 ≤ s.length := by cases s with | nil => exact absurd rfl hs0 | cons _ _ => simp
    have HL := Lib.hid (fun q => rlongest_any a len cap S s (s.length - 1) (w.drewN q) hlen (hr.below (below_drewS (Below.refl _ _) q)) (List.mem_of_getElem? h0) hsl (by omega))
    have HE := Lib.hid (show s.drop (s.length - (s.length - 1)) = s.tail by rw [show s.length - (s.length - 1) = 1 by omega, List.drop_one])
    rw [HE.out] at HL
    have HSt := Lib.hid hs
    obtain ⟨b, off, rfl, t, hf, hc⟩ := str_at hr (Below.refl _ _) i (by omega)
    obtain rfl : t = s := Option.some.inj (hf.symm.trans hs)
    have HS := Lib.hid (bsize t)
    have w0 : IntKind.i64.wrap ((t.length : Int) - 1) = ((t.length - 1 : Nat) : Int) := by rw [IntKind.wrap_i64]; omega
    have g0 : ((i : Int) == 0) = false := by simp; omega
    have g1 : ¬ (i : Int) = 0 := by omega
    have g2 : (0 : Int) ≤ (i : Int) := by omega
    have g3 : (i : Int) < (len : Int) := by omega
    clear hr h0 hn hl hs hf hs0 HE
    go_enter Try.func15, Try.ntmps15
    go_wp2_with fail
    go_quiet (first | with_reducible exact Calls.quiet_of_same (HL.out _))
    go_wp2
    go_ret
    exact ⟨rfl, below_drewS (Below.refl _ _) _⟩

set_option maxHeartbeats 1000000 in
theorem rlkout_any (al : Option Addr) (n1 cl : Nat) (us : List (List UInt8)) (a : Option Addr) (len cap : Nat) (S : List (List UInt8)) (w : World) (hn1 : n1 ≤ 1000000000) (hlen : len ≤ 1000000000) (hu : IsStrs w al n1 us) (hr : IsStrs w a len S) (he : [] ∉ us) (hl : ∀ t ∈ S, t.length ≤ 100000000) (i : Nat) {s : List UInt8} (hs : S[i]? = some s) :
    Calls Try.prog 13 #[.slice al n1 cl, .slice a len cap, .int .i64 (i : Int)] w fun e w' => e = .returned (.int .i64 (if fbL us s = [] then -1 else ixL (fbL us s) S)) ∧ w' = w := by
  have hwl := hr.1
  have hil := (List.getElem?_eq_some_iff.1 hs).1
  have hsl := hl s (List.mem_of_getElem? hs)
  have HF := Lib.hid (fun t => rfind16_any a len cap S t w hlen hr)
  have HG := Lib.hid (fun t => rfind10_any al n1 cl us t w hn1 hu)
  obtain ⟨b, off, rfl, t, hf, hc⟩ := str_at hr (Below.refl _ _) i (by omega)
  obtain rfl : t = s := Option.some.inj (hf.symm.trans hs)
  have HS := Lib.hid (bsize t)
  have H0 := Lib.hid he
  have g2 : (0 : Int) ≤ (i : Int) := by omega
  have g3 : (i : Int) < (len : Int) := by omega
  have wn : IntKind.i64.wrap ((t.length : Int) - 1) = (t.length : Int) - 1 := by rw [IntKind.wrap_i64]; omega
  clear hr hu hf hs he hl
  obtain ⟨R, hR⟩ : ∃ R : Int, (if fbL us t = [] then -1 else ixL (fbL us t) S) = R := ⟨_, rfl⟩
  rw [hR]
  have HR := Lib.hid hR
  clear hR
  go_enter Try.func13, Try.ntmps13
  go_wp2
  go_loop [8] (fun x => ∃ z : Int, -1 ≤ z ∧ z ≤ (t.length : Int) - 1 ∧ x = .int .i64 z ∧ Hid (fbL us t = lgL us (t.drop (t.length - z.toNat)))) (fun x => (RowKit.intOf x).toNat)
  case atStart => exact ⟨(t.length : Int) - 1, by omega, Int.le_refl _, rfl, Lib.hid (by
    unfold fbL
    cases t with
    | nil => rfl
    | cons c t => rw [show (c :: t).length - (((c :: t).length : Int) - 1).toNat = 1 by simp only [List.length_cons]; omega]; rfl)⟩
  case round =>
    obtain ⟨z, hz1, hz2, rfl, HZ⟩ := hrel
    by_cases hz : 0 < z
    · obtain ⟨n, rfl⟩ : ∃ n : Nat, z = (n : Int) := ⟨z.toNat, by omega⟩
      rw [Int.toNat_natCast] at HZ
      obtain ⟨d, hd⟩ : ∃ d, d + n = t.length := ⟨t.length - n, by omega⟩
      have w0 : IntKind.i64.wrap ((t.length : Int) - (n : Int)) = (d : Int) := by rw [IntKind.wrap_i64]; omega
      have w1 : IntKind.i64.wrap ((n : Int) - 1) = (n : Int) - 1 := by rw [IntKind.wrap_i64]; omega
      have k2 : (0 : Int) ≤ (d : Int) := by omega
      have k3 : (d : Int) ≤ (t.length : Int) := by omega
      have hx := ext_rest t d
      rw [show t.length - n = d by omega] at HZ
      have HC := Lib.hid (HG.out (t.drop d))
      by_cases hu : t.drop d ∈ us
      · have hz := ix_nonneg hu
        have HD := Lib.hid (HF.out (t.drop d))
        have HE := Lib.hid (show ixL (t.drop d) S = R by
          rw [← HR.out, HZ.out, lg_hit hu, if_neg (fun e => by rw [e] at hu; exact H0.out hu)])
        rw [HE.out] at HD
        generalize ixL (t.drop d) us = z at hz HC
        have hdH := Lib.hid hd
        clear HZ HE hu hd HR
        go_wp2_with fail
        refine HC.out.mono ?_
        rintro e w' ⟨rfl, hw'⟩
        obtain rfl := hw'.symm
        clear hw' HC
        go_wp2_with fail
        refine HD.out.mono ?_
        rintro e w' ⟨rfl, hw'⟩
        obtain rfl := hw'.symm
        clear hw' HD
        go_wp2
        go_ret
        exact ⟨rfl, rfl⟩
      · have hzm := ix_miss hu
        rw [hzm] at HC
        have HZ2 := Lib.hid (show fbL us t = lgL us (t.drop (t.length - ((n : Int) - 1).toNat)) by
          rw [HZ.out, lg_miss hu, tail_drop, show t.length - ((n : Int) - 1).toNat = d + 1 by omega])
        have hdH := Lib.hid hd
        clear HZ hu hd hzm HR
        go_wp2_with fail
        refine HC.out.mono ?_
        rintro e w' ⟨rfl, hw'⟩
        obtain rfl := hw'.symm
        clear hw' HC
        go_wp2
        exact ⟨⟨(n : Int) - 1, by omega, by omega, rfl, HZ2⟩, by simp [RowKit.intOf]; omega⟩
    · have hz' : ¬ (0 : Int) < z := hz
      have HE := Lib.hid (show R = -1 by
        rw [← HR.out, HZ.out, show t.length - z.toNat = t.length by omega, List.drop_length, lg_nil, if_pos rfl])
      clear HZ HR
      go_wp2
      go_ret
      exact ⟨by rw [HE.out]; rfl, rfl⟩
end Go.Proofs.Ytkaldfcpcimacaa

namespace Go.Proofs.Ytkaldfcpcimacaa
open Go.RowKit

/-- A text with one byte more, as a sum of two. -/
theorem plus_byteT (s : List UInt8) (c : UInt8) : (⟨s.toArray⟩ : ByteArray) ++ (⟨#[c]⟩ : ByteArray) = ⟨(s ++ [c]).toArray⟩ := by
  apply ByteArray.ext
  simp
/-- One byte as a text. -/
theorem one_textT (W : World) (X : Nat) (c : UInt8) (h : W.heap[X]? = some (.cells #[.int .u8 (c.toNat : Int)] 5 (0, 0))) : (convert 68 9 (.slice (some ⟨X, 0, none⟩) 1 1)).run Try.prog W = .ok (.string ⟨[c].toArray⟩) W := by
  refine run_convert_bytes_back W 68 9 5 _ _ [c] Try.underlying68 Try.underlying5 Try.underlying9 (fun j hj => ?_)
  have : j = 0 := by simp at hj; omega
  subst this
  rw [addPlain, Lib.cell_of_heap h]
  rfl

end Go.Proofs.Ytkaldfcpcimacaa

namespace Go.Proofs.Ytkaldfcpcimacaa
open Go.RowKit

set_option maxRecDepth 100000 in
set_option maxHeartbeats 2000000 in
theorem rlkstep_any (a : Option Addr) (len cap : Nat) (S : List (List UInt8)) (w : World) (hlen : len ≤ 1000000000) (hr : IsStrs w a len S) (h0 : [] ∈ S) (hl : ∀ t ∈ S, t.length ≤ 10000000) (i : Nat) {s : List UInt8} (hs : S[i]? = some s) (c : UInt8) :
    Calls Try.prog 17 #[.slice a len cap, .int .i64 (i : Int), .int .u8 (c.toNat : Int)] w fun e w' => e = .returned (.int .i64 (ixL (lgL S (s ++ [c])) S)) ∧ Below w.heap.size w w' := by
  have hwl := hr.1
  have hil := (List.getElem?_eq_some_iff.1 hs).1
  have hsl := hl s (List.mem_of_getElem? hs)
  have HL1 := (fun W (hb : Below w.heap.size w W) => rlongest_any a len cap S (s ++ [c]) (s.length + 1) W hlen (hr.below hb) h0 (by simp; omega) (by simp))
  have HE := Lib.hid (show (s ++ [c]).drop ((s ++ [c]).length - (s.length + 1)) = s ++ [c] by simp)
  rw [HE.out] at HL1
  have HL := Lib.hid (fun W (hb : Below w.heap.size w W) (z : Int) (hz : z = ((s.length + 1 : Nat) : Int)) => show Calls Try.prog 23 #[.slice a len cap, .string ⟨(s ++ [c]).toArray⟩, .int .i64 z] W (fun e w' => e = .returned (.int .i64 (ixL (lgL S (s ++ [c])) S)) ∧ w' = W) from by subst hz; exact HL1 W hb)
  clear HL1
  obtain ⟨b, off, rfl, t, hf, hc⟩ := str_at hr (Below.refl _ _) i (by omega)
  obtain rfl : t = s := Option.some.inj (hf.symm.trans hs)
  have hbl := World.block_lt_of_cell? w _ hc
  have hcA : ∀ o, (w.alloc o).cell? ⟨b, off + i, none⟩ = some (.string ⟨t.toArray⟩) := fun o => by rw [World.cell?_alloc_lt _ _ _ hbl]; exact hc
  have hcv : ∀ W X, W.heap[X]? = some (.cells #[.int .u8 (c.toNat : Int)] 5 (0, 0)) → (convert 68 9 (.slice (some ⟨X, 0, none⟩) 1 1)).run Try.prog W = .ok (.string ⟨[c].toArray⟩) W := fun W X h => one_textT W X c h
  have hcv0 := hcv (w.alloc (.cells #[.int .u8 (c.toNat : Int)] 5)) w.heap.size (heap_alloc_new w _)
  have hcv1 := hcv (w.drew.alloc (.cells #[.int .u8 (c.toNat : Int)] 5)) w.heap.size (heap_alloc_new w.drew _)
  have hcv2 := hcv (w.alloc (.cells #[.int .u8 (c.toNat : Int)] 5)).drew w.heap.size (heap_alloc_new w _)
  have hpl := plus_byteT t c
  have hS2 : (⟨(t ++ [c]).toArray⟩ : ByteArray).size = t.length + 1 := by rw [bsize]; simp
  have HZ := Lib.hid hS2
  have HS := Lib.hid (bsize t)
  have g2 : (0 : Int) ≤ (i : Int) := by omega
  have g3 : (i : Int) < (len : Int) := by omega
  have hov : ¬ 9223372036854775807 < t.length + 1 := by omega
  have B1 := Lib.hid (fun W (hW : W = (w.alloc (.cells #[.int .u8 (c.toNat : Int)] 5)).drew ∨ W = w.drew.alloc (.cells #[.int .u8 (c.toNat : Int)] 5)) => show Below w.heap.size w W from by
    rcases hW with rfl | rfl
    · exact ((Below.refl _ _).alloc (Nat.le_refl _) _).drew
    · exact (Below.refl _ _).drew.alloc (Nat.le_refl _) _)
  clear hr h0 hl hs hf HE hcv hS2
  go_enter Try.func17, Try.ntmps17
  go_wp2_with fail
  go_region
  have B2 := B1.out _ (.inl rfl)
  have HL2 := Lib.hid (HL.out _ B2)
  clear hcA hcv0 hcv1 hcv2 hpl B1 HL hc hbl
  generalize (w.alloc (.cells #[.int .u8 (c.toNat : Int)] 5)).drew = W at *
  go_wp2_with fail
  refine (HL2.out _ (by omega)).mono ?_
  rintro e w' ⟨rfl, hw'⟩
  obtain rfl := hw'.symm
  clear hw' HL2
  go_wp2
  go_ret
  exact ⟨rfl, B2⟩

set_option maxRecDepth 100000 in
set_option maxHeartbeats 4000000 in
theorem rlkhits_any (a : Option Addr) (len cap : Nat) (us : List (List UInt8)) (s : List UInt8) (w : World) (hlen : len ≤ 1000000) (hr : IsStrs w a len us) (hl : ∀ t ∈ us, t.length ≤ 10000000) (hsl : s.length ≤ 10000000) :
    Calls Try.prog 20 #[.slice a len cap, .string ⟨s.toArray⟩] w (RetN (hsL us s) w) := by
  obtain ⟨i0, hi, hz0, hz1, hz2⟩ := info_parts int_info
  have hwl := hr.1
  have HT := Lib.hid hl
  have HR := Lib.hid hr
  have S2 := Lib.hid (bsize s)
  clear hl hr
  go_enter Try.func20, Try.ntmps20
  go_wp2
  go_loopw [5, 6] (fun v i wr => ∃ k : Nat, k ≤ len ∧ i = .int .i64 k ∧ Hid (wr.ownsRow w.heap.size 3 1 v (hkL us s k).length (inCells (hkL us s k))) ∧ Below w.heap.size w wr) (fun _ i _ => len - (RowKit.intOf i).toNat)
  case atStart => exact ⟨0, Nat.zero_le _, rfl, Lib.hid (World.ownsRow_made w #[] 0 (Nat.le_refl _) (Nat.zero_le _) rfl), (Below.refl _ _).alloc (Nat.le_refl _) _⟩
  case round =>
    obtain ⟨k, hk, rfl, HO, hbe⟩ := hrel
    obtain ⟨a2, cap2, rfl⟩ := owns_slice HO.out
    by_cases hlt : k < len
    · obtain ⟨b, off, rfl, t, hf, hcell⟩ := str_at HR.out hbe k hlt
      have htl := HT.out t (List.mem_of_getElem? hf)
      have S1 := Lib.hid (bsize t)
      have hkl := hk_few us s k
      have hlt2 : (k : Int) < (len : Int) := by omega
      have hlt3 : (0 : Int) ≤ (k : Int) := by omega
      by_cases hts : t.length ≤ s.length
      · obtain ⟨d, hd⟩ : ∃ d, d + t.length = s.length := ⟨s.length - t.length, by omega⟩
        have w0 : IntKind.i64.wrap ((s.length : Int) - (t.length : Int)) = (d : Int) := by rw [IntKind.wrap_i64]; omega
        have q1 : (t.length : Int) ≤ (s.length : Int) := by omega
        have q2 : (0 : Int) ≤ (d : Int) := by omega
        have q3 : (d : Int) ≤ (s.length : Int) := by omega
        have hx := ext_rest s d
        have hsuf : t <:+ s ↔ s.drop d = t := by
          rw [List.suffix_iff_eq_drop, show s.length - t.length = d by omega]
          exact ⟨fun h => h.symm, fun h => h.symm⟩
        by_cases hq : s.drop d = t
        · have HB := Lib.hid (hk_hit hf (hsuf.2 hq))
          rw [hq] at hx
          have HD := Lib.hid hd
          clear hf hsuf hq hd hts
          go_wp2_with fail
          go_quiet (fail)
          have hown := HO.out
          have hs := hbe.size
          go_wp2_with (at_builtin; refine wpList_append_own _ rfl _ _ 42 rfl w.heap.size 3 i0 (.int .i64 0) 1 8 Try.underlying42 hi hz0 hz1 hz2 rfl (by decide) _ _ _ rfl ((show (wr.drewN nq).ownsRow w.heap.size 3 1 _ _ _ from hown).alloc _) ⟨wr.heap.size, 0, none⟩ 1 1 [.int .i64 (k : Int)] rfl rfl (int_news (heap_alloc_new _ _)) int_one (by unfold maxLen; omega) (by omega) (by simp; omega) ?_)
          intro v' w3 hown3 hgrow _
          obtain ⟨a3, cap3, rfl⟩ := owns_slice hown3
          have HW := Lib.hid (show w3.ownsRow w.heap.size 3 1 (.slice a3 ((hkL us s k).length + 1) cap3) (hkL us s (k + 1)).length (inCells (hkL us s (k + 1))) by rw [HB.out, inCells_snoc, List.length_append]; exact hown3)
          have B3 : Below w.heap.size w w3 := own_below (w := wr.drewN nq) (below_drewS hbe _) hown (Nat.le_refl _) hgrow
          clear hown hown3 hgrow
          go_wp2
          exact ⟨⟨k + 1, by omega, by go_num, HW, B3⟩, by simp [RowKit.intOf]; omega⟩
        · have HB := Lib.hid (hk_miss hf fun h => hq (hsuf.1 h))
          have hq2 : (s.drop d == t) = false := beq_eq_false_iff_ne.2 hq
          have HD := Lib.hid hd
          clear hf hsuf hq hd hts
          go_wp2_with fail
          go_quiet (fail)
          go_wp2
          exact ⟨⟨k + 1, by omega, by go_num, by rw [HB.out]; exact HO, below_drewS hbe _⟩, by simp [RowKit.intOf]; omega⟩
      · have HB := Lib.hid (hk_miss hf fun h => hts h.length_le)
        have q1 : ¬ (t.length : Int) ≤ (s.length : Int) := by omega
        have q2 : decide ((t.length : Int) ≤ (s.length : Int)) = false := decide_eq_false q1
        have q3 : decide (t.length ≤ s.length) = false := decide_eq_false hts
        clear hf
        go_wp2_with fail
        go_quiet (fail)
        go_wp2
        exact ⟨⟨k + 1, by omega, by go_num, by rw [HB.out]; exact HO, below_drewS hbe _⟩, by simp [RowKit.intOf]; omega⟩
    · obtain rfl : k = len := by omega
      have hz : ¬ (k : Int) < (k : Int) := by omega
      go_wp2
      go_ret
      exact ⟨_, rfl, by unfold hsL; rw [hwl]; exact HO.out, hbe⟩
end Go.Proofs.Ytkaldfcpcimacaa
