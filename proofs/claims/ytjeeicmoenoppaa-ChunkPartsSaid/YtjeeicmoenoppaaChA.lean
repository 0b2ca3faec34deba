/-
  The law's 'awake' of layer 6; the law ChunkCuts, walked.
-/
import Derived.Test.YtjeeicmoenoppaaChE
import Derived.Test.YtjeeicmoenoppaaChD
set_option linter.unusedSimpArgs false
set_option linter.unusedVariables false
namespace Go.Proofs.Ytjeeicmoenoppaa
open Go.RowKit

theorem row_1 (w : World) (a : Int) (T : TypeId) : IsRow .i64 (w.alloc (.cells #[.int .i64 a] T)) (some ⟨w.heap.size, 0, none⟩) 1 1 [a] := by
  refine .inr ⟨w.heap.size, 0, rfl, by omega, by unfold maxLen; omega, rfl, fun i hi => ?_⟩
  obtain rfl : i = 0 := by omega
  rw [Nat.zero_add, World.cell?_alloc_new]
  rfl
theorem row_3 (w : World) (a b c : Int) (T : TypeId) : IsRow .i64 (w.alloc (.cells #[.int .i64 a, .int .i64 b, .int .i64 c] T)) (some ⟨w.heap.size, 0, none⟩) 3 3 [a, b, c] := by
  refine .inr ⟨w.heap.size, 0, rfl, by omega, by unfold maxLen; omega, rfl, fun i hi => ?_⟩
  rw [Nat.zero_add, World.cell?_alloc_new]
  obtain rfl | rfl | rfl : i = 0 ∨ i = 1 ∨ i = 2 := by omega
  all_goals rfl
theorem strs_2 (w : World) (a b : ByteArray) (x y : List UInt8) (T : TypeId) (ha : a = ⟨x.toArray⟩) (hb : b = ⟨y.toArray⟩) : IsStrs (w.alloc (.cells #[.string a, .string b] T)) (some ⟨w.heap.size, 0, none⟩) 2 [x, y] := by
  subst ha hb
  refine ⟨rfl, .inr ⟨w.heap.size, 0, rfl, fun i hi => ?_⟩⟩
  rw [Nat.zero_add, World.cell?_alloc_new]
  obtain rfl | rfl : i = 0 ∨ i = 1 := by simp at hi; omega
  all_goals rfl
theorem strs_3 (w : World) (a b c : ByteArray) (x y z : List UInt8) (T : TypeId) (ha : a = ⟨x.toArray⟩) (hb : b = ⟨y.toArray⟩) (hc : c = ⟨z.toArray⟩) : IsStrs (w.alloc (.cells #[.string a, .string b, .string c] T)) (some ⟨w.heap.size, 0, none⟩) 3 [x, y, z] := by
  subst ha hb hc
  refine ⟨rfl, .inr ⟨w.heap.size, 0, rfl, fun i hi => ?_⟩⟩
  rw [Nat.zero_add, World.cell?_alloc_new]
  obtain rfl | rfl | rfl : i = 0 ∨ i = 1 ∨ i = 2 := by simp at hi; omega
  all_goals rfl

theorem cut_ex1 : cutL [97, 98, 99, 100, 101] ([2, 0, 9].take 3) = [[97, 98], [], [99, 100, 101]] := by decide +kernel
theorem cut_ex2 : cutL [97, 98, 99] ([1].take 1) = [[97], [98, 99]] := by decide +kernel

set_option maxHeartbeats 1000000 in
theorem chawake_any (w : World) :
    Calls Try.prog 6 #[] w fun e w' => e = .returned (.bool true) ∧ Below w.heap.size w w' := by
  have b0 : Below w.heap.size w (w.alloc (.cells #[.int .i64 2, .int .i64 0, .int .i64 9] 3)) := (Below.refl _ w).alloc (Nat.le_refl _) _
  have h1 := cut_any [97, 98, 99, 100, 101] _ 3 3 _ _ (by simp) (by omega) (row_3 w 2 0 9 3)
  rw [cut_ex1] at h1
  have H1 := Lib.hid h1
  clear h1
  go_enter Try.func6, Try.ntmps6
  go_wp2_with fail
  refine H1.out.mono ?_
  rintro e w1 ⟨a1, cap1, rfl, _, hf1, hb1⟩
  have hb1' : Below w.heap.size w w1 := b0.trans (hb1.mono b0.size)
  have hs1 := hb1'.size
  have b1 : Below w1.heap.size w1 (w1.alloc (.cells #[.string ⟨#[97, 98]⟩, .string ⟨#[]⟩, .string ⟨#[99, 100, 101]⟩] 9)) := (Below.refl _ w1).alloc (Nat.le_refl _) _
  have H2 := Lib.hid (essame_any a1 _ 3 cap1 3 _ _ (by omega) (hf1.below b1) (strs_3 w1 _ _ _ [97, 98] [] [99, 100, 101] 9 rfl rfl rfl))
  clear hf1 hb1 H1 b0
  go_wp2_with fail
  refine H2.out.mono ?_
  rintro e w2 ⟨rfl, hb2⟩
  have hb2' : Below w.heap.size w w2 := hb1'.trans ((b1.mono hs1).trans (hb2.mono (Nat.le_trans hs1 b1.size)))
  have hs2 := hb2'.size
  have c0 : Below w2.heap.size w2 (w2.alloc (.cells #[.int .i64 1] 3)) := (Below.refl _ w2).alloc (Nat.le_refl _) _
  have h3 := cut_any [97, 98, 99] _ 1 1 _ _ (by simp) (by omega) (row_1 w2 1 3)
  rw [cut_ex2] at h3
  have H3 := Lib.hid h3
  clear h3 H2 b1 hb2 hb1' hs1
  go_wp2_with fail
  refine H3.out.mono ?_
  rintro e w3 ⟨a3, cap3, rfl, _, hf3, hb3⟩
  have hb3' : Below w.heap.size w w3 := hb2'.trans ((c0.mono hs2).trans (hb3.mono (Nat.le_trans hs2 c0.size)))
  have hs3 := hb3'.size
  have b3 : Below w3.heap.size w3 (w3.alloc (.cells #[.string ⟨#[97]⟩, .string ⟨#[98, 99]⟩] 9)) := (Below.refl _ w3).alloc (Nat.le_refl _) _
  have H4 := Lib.hid (essame_any a3 _ 2 cap3 2 _ _ (by omega) (hf3.below b3) (strs_2 w3 _ _ [97] [98, 99] 9 rfl rfl))
  clear hf3 hb3 H3 c0 hb2' hs2
  go_wp2_with fail
  refine H4.out.mono ?_
  rintro e w4 ⟨rfl, hb4⟩
  have hb4' : Below w.heap.size w w4 := hb3'.trans ((b3.mono hs3).trans (hb4.mono (Nat.le_trans hs3 b3.size)))
  go_wp2
  go_ret
  exact ⟨rfl, hb4'⟩

theorem cuts_long (s : ByteArray) (a : Option Addr) (len cap : Nat) (n : Int) (w : World) (h : 500 < s.size ∨ 50 < len) (hm : s.size ≤ 9223372036854775807) (hl : len ≤ 9223372036854775807) :
    Calls Try.prog 3 #[.string s, .slice a len cap, .int .i64 n] w fun e w' => e = .returned (.bool true) ∧ Below w.heap.size w w' := by
  by_cases h5 : 500 < s.size
  · go_enter Try.func3, Try.ntmps3
    go_wp2_with fail
    refine (chawake_any _).mono ?_
    rintro e w' ⟨rfl, hb⟩
    go_wp2
    go_ret
    exact ⟨rfl, hb⟩
  · have h50 : 50 < len := by omega
    go_enter Try.func3, Try.ntmps3
    go_wp2_with fail
    refine (chawake_any _).mono ?_
    rintro e w' ⟨rfl, hb⟩
    go_wp2
    go_ret
    exact ⟨rfl, hb⟩

/-- From the middle on: the text in parts of any lengths. -/
theorem cuts_tail (l : List UInt8) (a : Option Addr) (len cap : Nat) (zs : List Int) (w w0 : World) (hl : l.length ≤ 500) (h50 : len ≤ 50) (hr : IsRow .i64 w a len cap zs) (hb : Below w.heap.size w w0) :
    Hid (Calls Try.prog 10 #[.string ⟨l.toArray⟩, .slice a len cap] w0 (RetC (cutL l (zs.take len)) w0)) ∧ Hid (∀ w1, Below w0.heap.size w0 w1 → Calls Try.prog 11 #[.string ⟨l.toArray⟩, .slice a len cap] w1 (RetL (cutL l (zs.take len)) w1)) :=
  ⟨Lib.hid (cut_any l a len cap zs w0 (by omega) (by omega) (hr.below hb)), Lib.hid (fun w1 h1 => rcut_any l a len cap zs w1 (by omega) (by omega) ((hr.below hb).below h1))⟩

theorem cutL_size : ∀ (ns : List Int) (l : List UInt8), (cutL l ns).length ≤ ns.length + 1
  | [], l => by
    cases l with
    | nil => simp [cutL]
    | cons a r => rw [cutL_rest (by simp)]; simp
  | n :: r, l => by rw [cutL_cons]; have := cutL_size r (l.drop n.toNat); simp; omega

set_option maxHeartbeats 2000000 in
theorem cuts_bad (l : List UInt8) (a : Option Addr) (len cap : Nat) (zs : List Int) (n : Int) (w : World) (hl : l.length ≤ 500) (h50 : len ≤ 50) (hr : IsRow .i64 w a len cap zs) (hn : n < 1) :
    Calls Try.prog 3 #[.string ⟨l.toArray⟩, .slice a len cap, .int .i64 n] w fun e w' => e = .returned (.bool true) ∧ Below w.heap.size w w' := by
  have HS := Lib.hid (bsize l)
  have HE := Lib.hid (even_bad l n w hn)
  have hT := cuts_tail l a len cap zs w w hl h50 hr (Below.refl _ _)
  have hsz : (cutL l (zs.take len)).length ≤ 1000 := by
    have := cutL_size (zs.take len) l
    rw [List.length_take] at this
    omega
  generalize cutL l (zs.take len) = R at hT hsz
  obtain ⟨HC, HD⟩ := hT
  clear hr
  go_enter Try.func3, Try.ntmps3
  go_wp2_with fail
  refine HE.out.mono ?_
  rintro e w' ⟨rfl, rfl⟩
  go_wp2_with fail
  refine HC.out.mono ?_
  rintro e w1 ⟨a1, cap1, rfl, _, hf1, hb1⟩
  have hs1 := hb1.size
  have HR := Lib.hid (HD.out w1 hb1)
  go_wp2_with fail
  refine HR.out.mono ?_
  rintro e w2 ⟨a2, cap2, rfl, hf2, hb2⟩
  have hb02 := hb1.trans (hb2.mono hs1)
  have hs2 := hb02.size
  have HM := Lib.hid (essame_any a1 a2 _ cap1 cap2 _ w2 (by omega) (hf1.below hb2) hf2)
  clear hf1 hf2 HR HD HC
  go_wp2_with fail
  refine HM.out.mono ?_
  rintro e w3 ⟨rfl, hb3⟩
  have hb03 := hb02.trans (hb3.mono hs2)
  have hs3 := hb03.size
  go_wp2_with fail
  refine (chawake_any _).mono ?_
  rintro e w4 ⟨rfl, hb4⟩
  go_wp2
  go_ret
  exact ⟨rfl, hb03.trans (hb4.mono hs3)⟩

theorem evL_size (n : Nat) (hn : 1 ≤ n) : ∀ (k : Nat) (l : List UInt8), l.length ≤ k → (evL l n).length ≤ l.length
  | 0, l, hk => by
    obtain rfl : l = [] := List.eq_nil_of_length_eq_zero (by omega)
    rw [evL_nil]; simp
  | k + 1, l, hk => by
    by_cases h : l = []
    · subst h; rw [evL_nil]; simp
    · have hp : 0 < l.length := List.length_pos_iff.2 h
      have := evL_size n hn k (l.drop n) (by rw [List.length_drop]; omega)
      rw [evL_cons hn h, List.length_cons]
      rw [List.length_drop] at this
      omega

set_option maxHeartbeats 2000000 in
theorem cuts_good (l : List UInt8) (a : Option Addr) (len cap : Nat) (zs : List Int) (n : Int) (w : World) (hl : l.length ≤ 500) (h50 : len ≤ 50) (hr : IsRow .i64 w a len cap zs) (hn : 1 ≤ n) (hn2 : n ≤ 9223372036854775807) :
    Calls Try.prog 3 #[.string ⟨l.toArray⟩, .slice a len cap, .int .i64 n] w fun e w' => e = .returned (.bool true) ∧ Below w.heap.size w w' := by
  have HS := Lib.hid (bsize l)
  have hE := even_any l n w (by omega) hn hn2
  have hRE := fun w => reven_any l n w (by omega) hn hn2
  have hT := fun w0 hb => cuts_tail l a len cap zs w w0 hl h50 hr hb
  have hsz : (cutL l (zs.take len)).length ≤ 1000 := by
    have := cutL_size (zs.take len) l
    rw [List.length_take] at this
    omega
  have hsz2 : (evL l n.toNat).length ≤ 1000 := by
    have := evL_size n.toNat (by omega) _ l (Nat.le_refl _)
    omega
  generalize cutL l (zs.take len) = R at hT hsz
  generalize evL l n.toNat = V at hE hRE hsz2
  have HE := Lib.hid hE
  have HRE := Lib.hid hRE
  have HT := Lib.hid hT
  clear hr hE hRE hT
  go_enter Try.func3, Try.ntmps3
  go_wp2_with fail
  refine HE.out.mono ?_
  rintro e w1 ⟨a1, cap1, rfl, _, hf1, hb1⟩
  have hs1 := hb1.size
  go_wp2_with fail
  refine (HRE.out w1).mono ?_
  rintro e w2 ⟨a2, cap2, rfl, hf2, hb2⟩
  have hb02 := hb1.trans (hb2.mono hs1)
  have hs2 := hb02.size
  have HM := Lib.hid (essame_any a1 a2 _ cap1 cap2 _ w2 (by omega) (hf1.below hb2) hf2)
  clear hf1 hf2 HE HRE
  go_wp2_with fail
  refine HM.out.mono ?_
  rintro e w3 ⟨rfl, hb3⟩
  have hb03 := hb02.trans (hb3.mono hs2)
  have hs3 := hb03.size
  obtain ⟨HC, HD⟩ := HT.out w3 hb03
  clear HM hb1 hb2 hb3 HT hs1 hs2 hb02
  go_wp2_with fail
  refine HC.out.mono ?_
  rintro e w4 ⟨a4, cap4, rfl, _, hf4, hb4⟩
  have hb04 := hb03.trans (hb4.mono hs3)
  have hs4 := hb04.size
  have HR := Lib.hid (HD.out w4 hb4)
  clear HD HC hb03
  go_wp2_with fail
  refine HR.out.mono ?_
  rintro e w5 ⟨a5, cap5, rfl, hf5, hb5⟩
  have hb05 := hb04.trans (hb5.mono hs4)
  have hs5 := hb05.size
  have HM := Lib.hid (essame_any a4 a5 _ cap4 cap5 _ w5 (by omega) (hf4.below hb5) hf5)
  clear hf4 hf5 HR
  go_wp2_with fail
  refine HM.out.mono ?_
  rintro e w6 ⟨rfl, hb6⟩
  have hb06 := hb05.trans (hb6.mono hs5)
  have hs6 := hb06.size
  go_wp2_with fail
  refine (chawake_any _).mono ?_
  rintro e w7 ⟨rfl, hb7⟩
  go_wp2
  go_ret
  exact ⟨rfl, hb06.trans (hb7.mono hs6)⟩
end Go.Proofs.Ytjeeicmoenoppaa
