/-
  The law ChunkBack, walked.
-/
import Derived.Test.YtjeeicmoenoppaaChA
import Derived.Test.YtjeeicmoenoppaaChJ
set_option linter.unusedSimpArgs false
set_option linter.unusedVariables false
namespace Go.Proofs.Ytjeeicmoenoppaa
open Go.RowKit

theorem cutL_short : ∀ (ns : List Int) (l : List UInt8), ∀ t ∈ cutL l ns, t.length ≤ l.length
  | [], l, t, ht => by
    cases l with
    | nil => simp [cutL] at ht
    | cons a r =>
      rw [cutL_rest (by simp), List.mem_singleton] at ht
      rw [ht]; exact Nat.le_refl _
  | n :: r, l, t, ht => by
    rw [cutL_cons] at ht
    rcases List.mem_cons.1 ht with rfl | ht
    · rw [List.length_take]; omega
    · have := cutL_short r _ t ht
      rw [List.length_drop] at this
      omega

/-- The way on which the law's guard answers. -/
theorem back_long (s : ByteArray) (a : Option Addr) (len cap : Nat) (n : Int) (b : Option Addr) (lenp capp : Nat) (w : World) (h : 500 < s.size ∨ 50 < len ∨ 30 < lenp) (hm : s.size ≤ 9223372036854775807) (hl : len ≤ 9223372036854775807) (hp : lenp ≤ 9223372036854775807) :
    Calls Try.prog 5 #[.string s, .slice a len cap, .int .i64 n, .slice b lenp capp] w fun e w' => e = .returned (.bool true) ∧ Below w.heap.size w w' := by
  by_cases h5 : 500 < s.size
  · go_enter Try.func5, Try.ntmps5
    go_wp2_with fail
    refine (chawake_any _).mono ?_
    rintro e w' ⟨rfl, hb⟩
    go_wp2
    go_ret
    exact ⟨rfl, hb⟩
  · by_cases h50 : 50 < len
    · go_enter Try.func5, Try.ntmps5
      go_wp2_with fail
      refine (chawake_any _).mono ?_
      rintro e w' ⟨rfl, hb⟩
      go_wp2
      go_ret
      exact ⟨rfl, hb⟩
    · have h30 : 30 < lenp := by omega
      go_enter Try.func5, Try.ntmps5
      go_wp2_with fail
      refine (chawake_any _).mono ?_
      rintro e w' ⟨rfl, hb⟩
      go_wp2
      go_ret
      exact ⟨rfl, hb⟩

theorem back_wide (s : ByteArray) (a : Option Addr) (len cap : Nat) (n : Int) (b : Option Addr) (lenp capp : Nat) (ws : List (List UInt8)) (w : World) (h5 : s.size ≤ 500) (h50 : len ≤ 50) (h30 : lenp ≤ 30) (hr : IsStrs w b lenp ws) (hw : 100 < lonL ws) :
    Calls Try.prog 5 #[.string s, .slice a len cap, .int .i64 n, .slice b lenp capp] w fun e w' => e = .returned (.bool true) ∧ Below w.heap.size w w' := by
  have HL := Lib.hid (rlongest_any b lenp capp ws w (by omega) hr)
  generalize lonL ws = m at HL hw
  go_enter Try.func5, Try.ntmps5
  go_wp2_with fail
  refine HL.out.mono ?_
  rintro e w1 ⟨rfl, hb1⟩
  have hs1 := hb1.size
  go_wp2_with fail
  refine (chawake_any _).mono ?_
  rintro e w2 ⟨rfl, hb2⟩
  go_wp2
  go_ret
  exact ⟨rfl, hb1.trans (hb2.mono hs1)⟩

/-- Cut and put together again. -/
theorem cut_join (l : List UInt8) (a : Option Addr) (len cap : Nat) (zs : List Int) (w : World) (hl : l.length ≤ 500) (h50 : len ≤ 50) (hr : IsRow .i64 w a len cap zs) :
    Calls Try.prog 10 #[.string ⟨l.toArray⟩, .slice a len cap] w fun e w1 => ∃ a1 len1 cap1, e = .returned (.slice a1 len1 cap1) ∧ Below w.heap.size w w1 ∧
      Calls Try.prog 17 #[.slice a1 len1 cap1] w1 fun e w2 => e = .returned (.string ⟨l.toArray⟩) ∧ Below w1.heap.size w1 w2 := by
  refine (cut_any l a len cap zs w (by omega) (by omega) hr).mono ?_
  rintro e w1 ⟨a1, cap1, rfl, hc1, hf1, hb1⟩
  have hsz : (cutL l (zs.take len)).length ≤ 1000 := by
    have := cutL_size (zs.take len) l
    rw [List.length_take] at this
    omega
  have hJ := join_any a1 _ cap1 _ w1 (by omega) hc1 (fun t ht => by have := cutL_short _ _ t ht; omega) hf1
  rw [cutL_flat] at hJ
  exact ⟨a1, _, cap1, rfl, hb1, hJ⟩

/-- The law's last part: parts that are cut by their own lengths. -/
theorem parts_back (b : Option Addr) (lenp capp : Nat) (ws : List (List UInt8)) (w : World) (h30 : lenp ≤ 30) (hlc : lenp ≤ capp) (hr : IsStrs w b lenp ws) (hw : ∀ t ∈ ws, t.length ≤ 100) :
    Calls Try.prog 17 #[.slice b lenp capp] w fun e w1 => e = .returned (.string ⟨ws.flatten.toArray⟩) ∧ Below w.heap.size w w1 ∧
      Calls Try.prog 13 #[.slice b lenp capp] w1 fun e w2 => ∃ a2 cap2, e = .returned (.slice a2 lenp cap2) ∧ Below w1.heap.size w1 w2 ∧
        Calls Try.prog 10 #[.string ⟨ws.flatten.toArray⟩, .slice a2 lenp cap2] w2 fun e w3 => ∃ a3 cap3, e = .returned (.slice a3 lenp cap3) ∧ Below w2.heap.size w2 w3 ∧
          Calls Try.prog 8 #[.slice a3 lenp cap3, .slice b lenp capp] w3 fun e w4 => e = .returned (.bool true) ∧ Below w3.heap.size w3 w4 := by
  have hwl := hr.1
  have hfl : ws.flatten.length ≤ 3000 := by
    have h1 := ahd_le 100 ws ws.length hw
    have h2 := flat_ahd ws ws.length
    rw [List.take_length] at h2
    omega
  refine (join_any b lenp capp ws w (by omega) hlc (fun t ht => by have := hw t ht; omega) hr).mono ?_
  rintro e w1 ⟨rfl, hb1⟩
  refine ⟨rfl, hb1, ?_⟩
  refine (lengths_any b lenp capp ws w1 (by omega) (hr.below hb1)).mono ?_
  rintro e w2 ⟨v, rfl, hown, hb2⟩
  obtain ⟨a2, cap2, rfl, hrow⟩ := row_of_ints hown (by rw [lensL_length]; unfold maxLen; omega)
  rw [lensL_length, hwl] at hrow
  rw [lensL_length, hwl]
  refine ⟨a2, cap2, rfl, hb2, ?_⟩
  have hc := cut_gen ws.flatten a2 lenp lenp cap2 (lensL ws) w2 (by omega) (by omega) hrow
  rw [← hwl, ← lensL_length, List.take_length, cutL_lens, lensL_length, hwl] at hc
  refine hc.mono ?_
  rintro e w3 ⟨a3, cap3, rfl, _, hf3, hb3⟩
  rw [hwl] at hf3
  refine ⟨a3, cap3, by rw [hwl], hb3, ?_⟩
  exact essame_any a3 b lenp cap3 capp ws w3 (by omega) hf3 (((hr.below hb1).below hb2).below hb3)

/-- The law's middle, where the text is cut in parts of one length. -/
theorem even_back (l : List UInt8) (n : Int) (w : World) (hl : l.length ≤ 500) (hn : 1 ≤ n) (hn2 : n ≤ 9223372036854775807) :
    Calls Try.prog 7 #[.string ⟨l.toArray⟩, .int .i64 n] w fun e w1 => ∃ a1 len1 cap1, e = .returned (.tuple #[.slice a1 len1 cap1, .int .i64 0]) ∧ Below w.heap.size w w1 ∧
      ∀ w2, Below w1.heap.size w1 w2 → Calls Try.prog 17 #[.slice a1 len1 cap1] w2 fun e w3 => e = .returned (.string ⟨l.toArray⟩) ∧ Below w2.heap.size w2 w3 ∧
        Calls Try.prog 16 #[.slice a1 len1 cap1] w3 fun e w4 => (∃ m : Nat, e = .returned (.int .i64 m) ∧ (m : Int) ≤ n) ∧ Below w3.heap.size w3 w4 := by
  refine (even_any l n w (by omega) hn hn2).mono ?_
  rintro e w1 ⟨a1, cap1, rfl, hc1, hf1, hb1⟩
  refine ⟨a1, _, cap1, rfl, hb1, fun w2 hb2 => ?_⟩
  have hsz : (evL l n.toNat).length ≤ 1000 := by
    have := evL_size n.toNat (by omega) _ l (Nat.le_refl _)
    omega
  have hJ := join_any a1 _ cap1 _ w2 (by omega) hc1 (fun t ht => by have := cutL_short _ _ t ht; omega) (hf1.below hb2)
  rw [evL_flat] at hJ
  refine hJ.mono ?_
  rintro e w3 ⟨rfl, hb3⟩
  refine ⟨rfl, hb3, ?_⟩
  refine (longest_any a1 _ cap1 _ w3 (by omega) ((hf1.below hb2).below hb3)).mono ?_
  rintro e w4 ⟨rfl, hb4⟩
  refine ⟨⟨_, rfl, ?_⟩, hb4⟩
  have := lonL_le (evL_short n.toNat (by omega) _ l (Nat.le_refl _))
  omega

set_option maxHeartbeats 2000000 in
set_option maxRecDepth 100000 in
theorem back_bad (l : List UInt8) (a : Option Addr) (len cap : Nat) (zs : List Int) (n : Int) (b : Option Addr) (lenp capp : Nat) (ws : List (List UInt8)) (w : World) (hl : l.length ≤ 500) (h50 : len ≤ 50) (h30 : lenp ≤ 30) (hlc : lenp ≤ capp) (hr : IsRow .i64 w a len cap zs) (hp : IsStrs w b lenp ws) (hw : lonL ws ≤ 100) (hn : n < 1) :
    Calls Try.prog 5 #[.string ⟨l.toArray⟩, .slice a len cap, .int .i64 n, .slice b lenp capp] w fun e w' => e = .returned (.bool true) ∧ Below w.heap.size w w' := by
  have HS := Lib.hid (bsize l)
  have HL := Lib.hid (rlongest_any b lenp capp ws w (by omega) hp)
  have HE := Lib.hid (fun w => even_bad l n w hn)
  have HC := Lib.hid (fun w1 (h : Below w.heap.size w w1) => cut_join l a len cap zs w1 hl h50 (hr.below h))
  have HP := Lib.hid (fun w1 (h : Below w.heap.size w w1) => parts_back b lenp capp ws w1 h30 hlc (hp.below h) (fun t ht => Nat.le_trans (lonL_ge ht) hw))
  generalize lonL ws = m at HL hw
  generalize ws.flatten = f at HP
  clear hr hp
  go_enter Try.func5, Try.ntmps5
  go_wp2_with fail
  refine HL.out.mono ?_
  rintro e w1 ⟨rfl, hb1⟩
  have hs1 := hb1.size
  go_wp2_with fail
  refine (HE.out _).mono ?_
  rintro e w' ⟨rfl, rfl⟩
  have H1 := Lib.hid (HC.out _ hb1)
  go_wp2_with fail
  refine H1.out.mono ?_
  rintro e w2 ⟨a2, len2, cap2, rfl, hb2, hJ⟩
  have H2 := Lib.hid hJ
  have hb02 := hb1.trans (hb2.mono hs1)
  have hs2 := hb02.size
  clear hJ H1 HC HE
  go_wp2_with fail
  refine H2.out.mono ?_
  rintro e w3 ⟨rfl, hb3⟩
  have hb03 := hb02.trans (hb3.mono hs2)
  have hs3 := hb03.size
  have H3 := Lib.hid (HP.out _ hb03)
  clear H2 HP
  go_wp2_with fail
  refine H3.out.mono ?_
  rintro e w4 ⟨rfl, hb4, h4⟩
  have H4 := Lib.hid h4
  have hb04 := hb03.trans (hb4.mono hs3)
  have hs4 := hb04.size
  clear H3 h4
  go_wp2_with fail
  refine H4.out.mono ?_
  rintro e w5 ⟨a5, cap5, rfl, hb5, h5⟩
  have H5 := Lib.hid h5
  have hb05 := hb04.trans (hb5.mono hs4)
  have hs5 := hb05.size
  clear H4 h5
  go_wp2_with fail
  refine H5.out.mono ?_
  rintro e w6 ⟨a6, cap6, rfl, hb6, h6⟩
  have H6 := Lib.hid h6
  have hb06 := hb05.trans (hb6.mono hs5)
  have hs6 := hb06.size
  clear H5 h6
  go_wp2_with fail
  refine H6.out.mono ?_
  rintro e w7 ⟨rfl, hb7⟩
  have hb07 := hb06.trans (hb7.mono hs6)
  have hs7 := hb07.size
  go_wp2_with fail
  refine (chawake_any _).mono ?_
  rintro e w8 ⟨rfl, hb8⟩
  go_wp2
  go_ret
  exact ⟨rfl, hb07.trans (hb8.mono hs7)⟩

set_option maxHeartbeats 2000000 in
set_option maxRecDepth 100000 in
theorem back_good (l : List UInt8) (a : Option Addr) (len cap : Nat) (zs : List Int) (n : Int) (b : Option Addr) (lenp capp : Nat) (ws : List (List UInt8)) (w : World) (hl : l.length ≤ 500) (h50 : len ≤ 50) (h30 : lenp ≤ 30) (hlc : lenp ≤ capp) (hr : IsRow .i64 w a len cap zs) (hp : IsStrs w b lenp ws) (hw : lonL ws ≤ 100) (hn : 1 ≤ n) (hn2 : n ≤ 9223372036854775807) :
    Calls Try.prog 5 #[.string ⟨l.toArray⟩, .slice a len cap, .int .i64 n, .slice b lenp capp] w fun e w' => e = .returned (.bool true) ∧ Below w.heap.size w w' := by
  have HS := Lib.hid (bsize l)
  have HL := Lib.hid (rlongest_any b lenp capp ws w (by omega) hp)
  have HE := Lib.hid (fun w => even_back l n w hl hn hn2)
  have HC := Lib.hid (fun w1 (h : Below w.heap.size w w1) => cut_join l a len cap zs w1 hl h50 (hr.below h))
  have HP := Lib.hid (fun w1 (h : Below w.heap.size w w1) => parts_back b lenp capp ws w1 h30 hlc (hp.below h) (fun t ht => Nat.le_trans (lonL_ge ht) hw))
  generalize lonL ws = m at HL hw
  generalize ws.flatten = f at HP
  clear hr hp
  go_enter Try.func5, Try.ntmps5
  go_wp2_with fail
  refine HL.out.mono ?_
  rintro e w1 ⟨rfl, hb1⟩
  have hs1 := hb1.size
  go_wp2_with fail
  refine (HE.out _).mono ?_
  rintro e w2 ⟨a2, len2, cap2, rfl, hb2, h2⟩
  have hb02 := hb1.trans (hb2.mono hs1)
  have hs2 := hb02.size
  have H2 := Lib.hid h2
  have H1 := Lib.hid (HC.out _ hb02)
  clear h2 HE HC HL
  go_wp2_with fail
  refine H1.out.mono ?_
  rintro e w3 ⟨a3, len3, cap3, rfl, hb3, hJ⟩
  have hb03 := hb02.trans (hb3.mono hs2)
  have hs3 := hb03.size
  have H3 := Lib.hid hJ
  clear hJ H1
  go_wp2_with fail
  refine H3.out.mono ?_
  rintro e w4 ⟨rfl, hb4⟩
  have hb04 := hb03.trans (hb4.mono hs3)
  have hs4 := hb04.size
  have H5 := Lib.hid (H2.out w4 (hb3.trans (hb4.mono hb3.size)))
  clear H3 H2
  go_wp2_with fail
  refine H5.out.mono ?_
  rintro e w5 ⟨rfl, hb5, h5⟩
  have hb05 := hb04.trans (hb5.mono hs4)
  have hs5 := hb05.size
  have H6 := Lib.hid h5
  clear H5 h5
  go_wp2_with fail
  refine H6.out.mono ?_
  rintro e w6 ⟨⟨q, rfl, hq⟩, hb6⟩
  have hb06 := hb05.trans (hb6.mono hs5)
  have hs6 := hb06.size
  have H7 := Lib.hid (HP.out _ hb06)
  clear H6 HP hb1 hb2 hb3 hb4 hb5 hb6 hs1 hs2 hs3 hs4 hs5 hb02 hb03 hb04 hb05
  go_wp2_with fail
  refine H7.out.mono ?_
  rintro e w7 ⟨rfl, hb7, h7⟩
  have hb07 := hb06.trans (hb7.mono hs6)
  have hs7 := hb07.size
  have H8 := Lib.hid h7
  clear H7 h7
  go_wp2_with fail
  refine H8.out.mono ?_
  rintro e w8 ⟨a8, cap8, rfl, hb8, h8⟩
  have hb08 := hb07.trans (hb8.mono hs7)
  have hs8 := hb08.size
  have H9 := Lib.hid h8
  clear H8 h8
  go_wp2_with fail
  refine H9.out.mono ?_
  rintro e w9 ⟨a9, cap9, rfl, hb9, h9⟩
  have hb09 := hb08.trans (hb9.mono hs8)
  have hs9 := hb09.size
  have H10 := Lib.hid h9
  clear H9 h9
  go_wp2_with fail
  refine H10.out.mono ?_
  rintro e w10 ⟨rfl, hb10⟩
  have hb010 := hb09.trans (hb10.mono hs9)
  have hs10 := hb010.size
  go_wp2_with fail
  refine (chawake_any _).mono ?_
  rintro e w11 ⟨rfl, hb11⟩
  go_wp2
  go_ret
  exact ⟨rfl, hb010.trans (hb11.mono hs10)⟩
end Go.Proofs.Ytjeeicmoenoppaa
