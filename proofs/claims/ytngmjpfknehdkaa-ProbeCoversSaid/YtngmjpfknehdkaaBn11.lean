/-
  Texts put together: PbV, Mask.
-/
import Derived.Test.YtngmjpfknehdkaaPbU
import Derived.Test.YtngmjpfknehdkaaPbT
import Derived.Test.YtngmjpfknehdkaaBn10
import Derived.Test.YtngmjpfknehdkaaBn1
set_option linter.unusedSimpArgs false
set_option linter.unusedVariables false
namespace Go.Proofs.Ytngmjpfknehdkaa
open Go.RowKit

theorem misN_le {us : List (List UInt8)} {s : List UInt8} {e : Nat} (h : ∀ t ∈ us, t.length ≤ 65535) : misN us s e ≤ 65535 := by
  have h1 : misN us s e < max (mostL us) 2 := misK_lt _ _ (by omega)
  have h2 : mostL us ≤ 65535 := most_le h
  omega
theorem rholds_of (a : Option Addr) (len cap : Nat) (us : List (List UInt8)) (s : List UInt8) (e : Nat) (w : World) (hlen : len ≤ 1000000) (hr : IsStrs w a len us) (hu : ∀ t ∈ us, 0 < t.length ∧ t.length ≤ 65535) (hs : s.length ≤ 1000000) (he : 0 < e) (hes : e ≤ s.length) (skip : Bool) (R : EvR) (hR : ofR us s e skip = R) (aa : Option Addr) (cc : Nat)
    (hrow : IsRow .i64 w aa R.ids.length R.ids.length R.ids) :
    Calls Try.prog 23 #[.slice a len cap, .string ⟨s.toArray⟩, .int .i64 (e : Int), .agg #[.int .i64 (R.k : Int), .int .i64 (R.n : Int), .int .i64 (R.r : Int), .slice aa R.ids.length cc]] w fun E w' => E = .returned (.bool true) ∧ Below w.heap.size w w' := by
  subst hR
  rcases of_cases us s e skip with ⟨_, h, h1⟩ | ⟨_, h, h1⟩ | ⟨h0, h, h1⟩ | h1
  · rw [h1] at hrow ⊢
    have h2 : 2 ≤ e := by
      rcases Nat.lt_or_ge e 2 with h' | h'
      · unfold twoN at h; rw [if_neg (by omega)] at h; omega
      · exact h'
    have h3 : twoN us s e = nearL us (prS s e) := if_pos h2
    exact rholds_leap a len cap us s e w hlen hr hu hs he hes aa cc (twoN us s e) 1 h2 (by omega) (two_le us s e) (by omega)
  · rw [h1] at hrow ⊢
    exact rholds_skip a len cap us s e w hlen hr hu hs he hes aa cc (fstL us (byN s (e - 1))) 1 h (fst_le _ _) (Nat.le_refl _)
  · rw [h1] at hrow ⊢
    exact rholds_miss a len cap us s e w hlen hr hu hs he hes aa cc (misN us s e) 1 h (by have := misN_le (s := s) (e := e) (fun t ht => (hu t ht).2); omega) (misK_says _ _ h)
  · rw [h1] at hrow ⊢
    exact rholds_at a len cap us s e w hlen hr hu hs he hes aa cc _ rfl hrow

theorem EvR.eq {a b : EvR} (h1 : a.k = b.k) (h2 : a.n = b.n) (h3 : a.r = b.r) (h4 : a.ids = b.ids) : a = b := by
  cases a; cases b; simp only at h1 h2 h3 h4; subst h1; subst h2; subst h3; subst h4; rfl
theorem pbex_fault : faultL [[97, 98, 99], [98, 99]] = 0 := by decide +kernel
theorem pbex_set : setL [[97, 98, 99], [98, 99]] = [[97, 98, 99], [98, 99]] := by
  rw [set_good pbex_fault, ← ins_srt]; decide +kernel
theorem pbex_one : ofR [[97, 98, 99], [98, 99]] [120] 1 true = ⟨1, 2, 1, []⟩ := EvR.eq (by decide +kernel) (by decide +kernel) (by decide +kernel) (by decide +kernel)
theorem pbex_two : ofR [[97, 98, 99], [98, 99]] [120, 97, 98, 99] 4 true = ⟨4, 0, 0, [0, 1]⟩ := EvR.eq (by decide +kernel) (by decide +kernel) (by decide +kernel) (by decide +kernel)

theorem pbex_of (s : List UInt8) (e : Nat) (R : EvR) (he : 0 < e) (hl : s.length = e) (h6 : e ≤ 1000) (hR : ofR [[97, 98, 99], [98, 99]] s e true = R) (b : Nat) (w : World) (h : IsProbe w b [[97, 98, 99], [98, 99]]) :
    Calls Try.prog 20 #[.pointer (some ⟨b, 0, none⟩), .string ⟨s.toArray⟩, .int .i64 (e : Int), .bool true] w (RetE R w) := by
  have ht := IsTail.whole (us := [[97, 98, 99], [98, 99]]) (s := s) he (by omega)
  rw [List.take_of_length_le (by omega)] at ht
  have := pbof_any h ht (by omega) (by omega) (by decide) (by decide) true
  rwa [hR] at this

set_option maxRecDepth 100000 in
set_option maxHeartbeats 2000000 in
theorem pbawake_any (w : World) :
    Calls Try.prog 7 #[] w fun e w' => e = .returned (.bool true) ∧ Below w.heap.size w w' := by
  have hA := strs_heap (ws := [[97, 98, 99], [98, 99]]) (heap_alloc_new w (.cells (txCells [[97, 98, 99], [98, 99]]).toArray 9)) rfl
  have H1 := Lib.hid (ptnew_all (some ⟨w.heap.size, 0, none⟩) 2 2 _ _ (by omega) hA (by decide))
  rw [pbex_set, pbex_fault] at H1
  have c1 : Below w.heap.size w (w.alloc (.cells (txCells [[97, 98, 99], [98, 99]]).toArray 9)) := (Below.refl _ w).alloc (Nat.le_refl _) _
  have s1 := c1.size
  have HO1 : Hid (∀ (b : Nat) (W : World), IsProbe W b [[97, 98, 99], [98, 99]] → Calls Try.prog 20 #[.pointer (some ⟨b, 0, none⟩), .string ⟨#[120]⟩, .int .i64 1, .bool true] W (RetE ⟨1, 2, 1, []⟩ W)) := Lib.hid (fun b W h => pbex_of [120] 1 _ (by omega) rfl (by omega) pbex_one b W h)
  have HO2 : Hid (∀ (b : Nat) (W : World), IsProbe W b [[97, 98, 99], [98, 99]] → Calls Try.prog 20 #[.pointer (some ⟨b, 0, none⟩), .string ⟨#[120, 97, 98, 99]⟩, .int .i64 4, .bool true] W (RetE ⟨4, 0, 0, [0, 1]⟩ W)) := Lib.hid (fun b W h => pbex_of [120, 97, 98, 99] 4 _ (by omega) rfl (by omega) pbex_two b W h)
  have HCv : Hid (∀ W, Calls Try.prog 22 #[.agg #[.int .i64 2, .int .i64 3, .int .i64 0, .slice none 0 0]] W fun e w' => e = .returned (.int .i64 3) ∧ Below W.heap.size W w') := Lib.hid (fun W => pbcov_any 2 3 0 (.slice none 0 0) ⟨_, _, _, rfl⟩ W)
  clear hA
  go_enter Try.func7, Try.ntmps7
  go_wp2_with fail
  refine H1.out.mono ?_
  rintro e w2 ⟨p, rfl, hs, hb2⟩
  have d2 := c1.trans (hb2.mono s1)
  have e2 := d2.size
  have N2 := Lib.hid (pbnew_any hs)
  clear H1 hs hb2 c1 s1
  go_wp2_with fail
  refine N2.out.mono ?_
  rintro e w3 ⟨b, rfl, _, hB, hb3⟩
  have d3 := d2.trans (hb3.mono e2)
  have e3 := d3.size
  have F1 := Lib.hid (HO1.out b w3 hB)
  have HB3 := Lib.hid hB
  clear N2 hB hb3 d2 e2 HO1
  go_wp2_with fail
  refine F1.out.mono ?_
  rintro e w4 ⟨a4, c4, rfl, hr4, hb4⟩
  dsimp only [List.length_nil] at hr4 ⊢
  have d4 := d3.trans (hb4.mono e3)
  have e4 := d4.size
  have HB4 := Lib.hid (HB3.out.below hb4)
  have M4 := Lib.hid (rsame_any ⟨1, 2, 1, []⟩ a4 none c4 0 w4 (by decide) (.inl rfl) (.inl rfl))
  dsimp only [List.length_nil] at M4
  clear F1 HB3 hr4 hb4 d3 e3
  go_wp2_with fail
  refine M4.out.mono ?_
  rintro e w5 ⟨rfl, hb5⟩
  have d5 := d4.trans (hb5.mono e4)
  have e5 := d5.size
  have F2 := Lib.hid (HO2.out b w5 (HB4.out.below hb5))
  clear M4 HB4 hb5 d4 e4 HO2
  go_wp2_with fail
  refine F2.out.mono ?_
  rintro e w6 ⟨a6, c6, rfl, hr6, hb6⟩
  dsimp only [List.length_cons, List.length_nil, Nat.reduceAdd] at hr6 ⊢
  have d6 := d5.trans (hb6.mono e5)
  have e6 := d6.size
  have c7 : Below w6.heap.size w6 (w6.alloc (.cells #[.int .i64 0, .int .i64 1] 3)) := (Below.refl _ w6).alloc (Nat.le_refl _) _
  have r7 : IsRow .i64 (w6.alloc (.cells #[.int .i64 0, .int .i64 1] 3)) (some ⟨w6.heap.size, 0, none⟩) 2 2 [0, 1] := row_heap (heap_alloc_new w6 _) rfl (by unfold maxLen; omega)
  have M7 := Lib.hid (rsame_any ⟨4, 0, 0, [0, 1]⟩ a6 (some ⟨w6.heap.size, 0, none⟩) c6 2 _ (by decide) (hr6.below c7) r7)
  dsimp only [List.length_cons, List.length_nil, Nat.reduceAdd] at M7
  have d7 := d6.trans (c7.mono e6)
  have e7 := d7.size
  clear F2 hr6 hb6 c7 r7 d5 e5 d6 e6
  go_wp2_with fail
  refine M7.out.mono ?_
  rintro e w8 ⟨rfl, hb8⟩
  have d8 := d7.trans (hb8.mono e7)
  have e8 := d8.size
  clear M7 hb8 d7 e7
  go_wp2_with fail
  refine (HCv.out _).mono ?_
  rintro e w9 ⟨rfl, hb9⟩
  have d9 := d8.trans (hb9.mono e8)
  go_wp2
  go_ret
  exact ⟨rfl, d9⟩
end Go.Proofs.Ytngmjpfknehdkaa

namespace Go.Proofs.Ytngmjpfknehdkaa

/-- A mask leaves a number that is none greater. -/
theorem mask_at (x : Int) (m : Nat) (hm : m ≤ 1000000000) : ∃ c : Nat, c ≤ m ∧ bits .and .i64 x (m : Int) = (c : Int) := by
  have e : (BitVec.ofInt 64 x &&& BitVec.ofInt 64 (m : Int)).toNat ≤ m := by
    rw [BitVec.toNat_and]
    refine Nat.le_trans Nat.and_le_right ?_
    rw [BitVec.toNat_ofInt]
    omega
  refine ⟨_, e, ?_⟩
  show IntKind.i64.wrap ((BitVec.ofInt 64 x &&& BitVec.ofInt 64 (m : Int)).toNat : Int) = _
  generalize (BitVec.ofInt 64 x &&& BitVec.ofInt 64 (m : Int)).toNat = c at e
  rw [IntKind.wrap_i64]; omega
end Go.Proofs.Ytngmjpfknehdkaa
