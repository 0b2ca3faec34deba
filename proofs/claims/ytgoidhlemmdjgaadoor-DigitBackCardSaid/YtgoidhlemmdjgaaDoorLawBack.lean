/-
  The law DigitBack, walked: for every number, every slice, every text and all bounds it returns true, and writes nothing that was there.
-/
import Derived.Test.YtgoidhlemmdjgaaDoorBackM
import Derived.Test.YtgoidhlemmdjgaaDoorRefRow
import Derived.Test.YtgoidhlemmdjgaaDoorAwake
set_option linter.unusedSimpArgs false
set_option linter.unusedVariables false
namespace Go.Proofs.YtgoidhlemmdjgaaDoor
open Go.RowKit

/-- digit.Row, of any slice that came in. -/
theorem row_is (a : Option Addr) (len cap : Nat) (zs : List Int) (w : World) (h : IsRow .i64 w a len cap zs) (h100 : len ≤ 100) (h64 : Int64s zs) :
    Calls Tryd.prog 12 #[.slice a len cap] w fun e w' => e = .returned (.string ⟨(rowL (zs.take len)).toArray⟩) ∧ Below w.heap.size w w' := by
  rcases Nat.eq_zero_or_pos len with h0 | h0
  · subst h0
    exact row_nil a cap w
  · rcases h with h | ⟨b, off, rfl, hl, hm, hz, hc⟩
    · omega
    · have e : rowL (zs.take len) = rowTo (zs.take len) := by
        cases ht : zs.take len with
        | nil =>
          have := congrArg List.length ht
          rw [List.length_take, List.length_nil] at this
          omega
        | cons _ _ => rfl
      rw [e]
      exact row_some b off len cap zs w h0 h100 hl hz hm hc h64

/-- What its text answers, parsed. -/
theorem row_parsed (ys : List Int) (w : World) (h100 : ys.length ≤ 100) (h64 : Int64s ys) :
    Calls Tryd.prog 8 #[.string ⟨(rowL ys).toArray⟩, .int .i64 (-9223372036854775808), .int .i64 9223372036854775807] w
      fun e w' => ∃ v, e = .returned (.tuple #[v, .int .i64 0]) ∧ Below w.heap.size w w' ∧ w'.ownsRow w.heap.size 3 1 v ys.length (ys.map (Value.int .i64)) := by
  have hlen : (rowL ys).length ≤ 100000 := by
    cases ys with
    | nil => simp [rowL]
    | cons x r =>
      have := rowTo_length (x :: r) h64
      simp only [rowL]
      omega
  refine (parseRow_any (rowL ys) _ _ w hlen).mono ?_
  rintro e w' ⟨v, rfl, hb, h⟩
  have hE : rowE (-9223372036854775808) 9223372036854775807 (parts (rowL ys)) = 0 ∧ rowN (-9223372036854775808) 9223372036854775807 (parts (rowL ys)) = ys := by
    cases ys with
    | nil => exact ⟨rfl, rfl⟩
    | cons x r =>
      have hne : parts (rowL (x :: r)) = pieces (rowTo (x :: r)) := by
        unfold parts
        exact if_neg (rowTo_not_minus (x :: r) (by simp))
      rw [hne]
      exact row_back (x :: r) h64 (by simp)
  rcases h with ⟨_, h⟩ | ⟨h, _⟩
  · refine ⟨v, by rw [hE.1], hb, ?_⟩
    rw [hE.2] at h
    have hl : (parts (rowL ys)).length = ys.length := by
      have := congrArg List.length hE.2
      simpa [rowN] using this
    rwa [hl] at h
  · exact absurd hE.1 h

set_option maxHeartbeats 1000000 in
theorem same_off (g1 b off n c1 c2 : Nat) (xs : List Int) (w : World) (hn : 0 < n) (hm : n ≤ 9223372036854775807) (hc1 : n ≤ c1) (hc2 : n ≤ c2)
    (h1 : ∀ i, i < n → w.cell? ⟨g1, i, none⟩ = some (.int .i64 (xs.getD i 0))) (h2 : ∀ i, i < n → w.cell? ⟨b, off + i, none⟩ = some (.int .i64 (xs.getD i 0))) :
    Calls Tryd.prog 10 #[.slice (some ⟨g1, 0, none⟩) n c1, .slice (some ⟨b, off, none⟩) n c2] w fun e w' => e = .returned (.bool true) ∧ Below w.heap.size w w' := by
  have H1 := Lib.hid h1
  have H2 := Lib.hid h2
  clear h1 h2
  go_enter Tryd.func10, Tryd.ntmps10
  go_wp2
  go_loopw [5] (fun i wr => ∃ k : Nat, k ≤ n ∧ i = .int .i64 k ∧ Below w.heap.size w wr) (fun i _ => n - (RowKit.intOf i).toNat)
  case atStart => exact ⟨0, Nat.zero_le _, rfl, Below.refl _ _⟩
  case round =>
    rename_i wr
    obtain ⟨k, hk, rfl, hbe⟩ := hrel
    by_cases hlt : k < n
    · have d1 : wr.cell? ⟨g1, k, none⟩ = some (.int .i64 (xs.getD k 0)) := by
        have h := H1.out k hlt
        rw [hbe.cell (p := ⟨g1, k, none⟩) (World.block_lt_of_cell? w _ h)]; exact h
      have d2 : wr.cell? ⟨b, off + k, none⟩ = some (.int .i64 (xs.getD k 0)) := by
        have h := H2.out k hlt
        rw [hbe.cell (p := ⟨b, off + k, none⟩) (World.block_lt_of_cell? w _ h)]; exact h
      generalize xs.getD k 0 = x at d1 d2
      have hlt1 : (k : Int) < (n : Int) := by omega
      go_wp2
      go_quiet (fail)
      go_wp2
      exact ⟨⟨k + 1, by omega, by go_num, below_drewN hbe _⟩, by simp [RowKit.intOf]; omega⟩
    · have hkl : k = n := by omega
      subst hkl
      go_wp2
      go_ret
      exact ⟨rfl, hbe⟩

/-- A slice that the call owns and one that came in, of the same numbers: the document's Same says yes. -/
theorem same_arg (v : Value) (a : Option Addr) (len cap : Nat) (zs : List Int) (b1 : Nat) (w : World) (h1 : w.ownsRow b1 3 1 v len ((zs.take len).map (Value.int .i64))) (h2 : IsRow .i64 w a len cap zs) :
    Calls Tryd.prog 10 #[v, .slice a len cap] w fun e w' => e = .returned (.bool true) ∧ Below w.heap.size w w' := by
  rcases Nat.eq_zero_or_pos len with h0 | h0
  · subst h0
    obtain ⟨a1, c1, rfl⟩ := owns_form h1
    exact same_nil a1 a c1 cap w
  · obtain ⟨g1, c1, rfl, k1, d1⟩ := owns_cells h1 h0
    rcases h2 with h | ⟨b, off, rfl, hl, hm, hz, hc⟩
    · omega
    · have e : ∀ i, i < len → (zs.take len).getD i 0 = zs.getD i 0 := fun i hi => by
        rw [List.getD, List.getD, List.getElem?_take, if_pos hi]
      exact same_off g1 b off len c1 cap zs w h0 (by unfold maxLen at hm; omega) k1 hl (fun i hi => by rw [d1 i hi, e i hi]) (fun i hi => hc i (by omega))

def Yes (w : World) (e : Ending) (w' : World) : Prop := e = .returned (.bool true) ∧ Below w.heap.size w w'

theorem back_long (n : Int) (a : Option Addr) (len cap : Nat) (s : ByteArray) (least most : Int) (w : World) (h : 100 < len) (hm : len ≤ 9223372036854775807) :
    Calls Tryd.prog 4 #[.int .i64 n, .slice a len cap, .string s, .int .i64 least, .int .i64 most] w (Yes w) := by
  go_enter Tryd.func4, Tryd.ntmps4
  go_wp2_with fail
  refine (awake_any _).mono ?_
  rintro e w' ⟨rfl, hb⟩
  go_wp2
  go_ret
  exact ⟨rfl, hb⟩

theorem back_long2 (n : Int) (a : Option Addr) (len cap : Nat) (s : ByteArray) (least most : Int) (w : World) (h : len ≤ 100) (h2 : 1000 < s.size) (hm : s.size ≤ 9223372036854775807) :
    Calls Tryd.prog 4 #[.int .i64 n, .slice a len cap, .string s, .int .i64 least, .int .i64 most] w (Yes w) := by
  go_enter Tryd.func4, Tryd.ntmps4
  go_wp2_with fail
  refine (awake_any _).mono ?_
  rintro e w' ⟨rfl, hb⟩
  go_wp2
  go_ret
  exact ⟨rfl, hb⟩

set_option maxHeartbeats 2000000 in
set_option maxRecDepth 100000 in
theorem back_short (n : Int) (a : Option Addr) (len cap : Nat) (zs : List Int) (l : List UInt8) (least most : Int) (w : World)
    (n1 : -9223372036854775808 ≤ n) (n2 : n ≤ 9223372036854775807) (h100 : len ≤ 100) (hl : l.length ≤ 1000) (hrow : IsRow .i64 w a len cap zs) (h64 : Int64s zs) :
    Calls Tryd.prog 4 #[.int .i64 n, .slice a len cap, .string ⟨l.toArray⟩, .int .i64 least, .int .i64 most] w (Yes w) := by
  have HROW := Lib.hid hrow
  clear hrow
  have hlz : (zs.take len).length = len := by
    rcases HROW.out with h | ⟨b, off, _, h1, _, h3, _⟩
    · subst h; simp
    · rw [List.length_take]; omega
  have h64t : Int64s (zs.take len) := fun x hx => h64 x (List.mem_of_mem_take hx)
  have HLZ := Lib.hid hlz
  clear hlz
  obtain ⟨x, hx⟩ : ∃ x, parN l least most = x := ⟨_, rfl⟩
  obtain ⟨c, hc⟩ : ∃ c, parE l least most = c := ⟨_, rfl⟩
  have PB := par_back l least most
  obtain ⟨x1, x2⟩ := parN_bounds l least most
  rw [hx] at x1 x2
  rw [hx, hc] at PB
  have PB := Lib.hid PB
  have HP : ∀ w, Hid (Calls Tryd.prog 6 #[.string ⟨l.toArray⟩, .int .i64 least, .int .i64 most] w (RetP x c w)) := fun w => by
    have := parse_any l least most w (by omega)
    rw [hx, hc] at this
    exact Lib.hid this
  have HT : ∀ w, Hid (Calls Tryd.prog 6 #[.string ⟨(Lib.itoa n).toArray⟩, .int .i64 (-9223372036854775808), .int .i64 9223372036854775807] w (RetP n 0 w)) := fun w => by
    have hle := Lib.itoa_length_le n n1 n2
    have := parse_any (Lib.itoa n) (-9223372036854775808) 9223372036854775807 w (by omega)
    rw [(par_itoa n n1 n2).1, (par_itoa n n1 n2).2] at this
    exact Lib.hid this
  clear hx hc
  have hsz : (⟨l.toArray⟩ : ByteArray).size ≤ 1000 := by rw [bsize]; exact hl
  go_enter Tryd.func4, Tryd.ntmps4
  go_wp2_with fail
  refine (text_any _ _ n1 n2).mono ?_
  rintro e w1 ⟨rfl, hb1⟩
  go_wp2_with fail
  refine (HT _).out.mono ?_
  rintro e w' ⟨rfl, rfl⟩
  go_wp2_with fail
  refine (row_is a len cap zs _ (IsRow.below HROW.out hb1) h100 h64).mono ?_
  rintro e w2 ⟨rfl, hb2⟩
  go_wp2_with fail
  refine (row_parsed (zs.take len) _ (by rw [HLZ.out]; exact h100) h64t).mono ?_
  rintro e w3 ⟨v, rfl, hb3, hown⟩
  rw [HLZ.out] at hown
  have HS := Lib.hid (same_arg v a len cap zs _ w3 hown (IsRow.below (IsRow.below (IsRow.below HROW.out hb1) hb2) hb3))
  clear hown
  go_wp2_with fail
  refine HS.out.mono ?_
  rintro e w4 ⟨rfl, hb4⟩
  have s1 := hb1.size
  have s2 := hb2.size
  have s3 := hb3.size
  have s4 := hb4.size
  have hb := (((hb1.trans (hb2.mono s1)).trans (hb3.mono (by omega))).trans (hb4.mono (by omega)))
  clear HS
  by_cases hf : formB l = true
  · have HF : ∀ w, Hid (Calls Tryd.prog 13 #[.string ⟨l.toArray⟩] w (RetB true w)) := fun w => Lib.hid (refForm_any l true w (by omega) (Lib.hid hf))
    rcases PB.out.2.2.2 hf with h0 | h0
    · subst h0
      obtain ⟨_, hi, hlo, hhi⟩ := PB.out.1 rfl
      have HX : ∀ w, Hid (Calls Tryd.prog 11 #[.int .i64 x] w fun e w' => e = .returned (.string ⟨l.toArray⟩) ∧ Below w.heap.size w w') := fun w => by
        have := text_any x w x1 x2
        rw [hi] at this
        exact Lib.hid this
      clear hf hi
      go_wp2_with fail
      refine (HP _).out.mono ?_
      rintro e w' ⟨rfl, rfl⟩
      go_wp2_with fail
      refine (HX _).out.mono ?_
      rintro e w5 ⟨rfl, hb5⟩
      go_wp2_with fail
      refine (HF _).out.mono ?_
      rintro e w' ⟨rfl, rfl⟩
      go_wp2_with fail
      refine (awake_any _).mono ?_
      rintro e w6 ⟨rfl, hb6⟩
      go_wp2
      go_ret
      have s5 := hb5.size
      exact ⟨rfl, (hb.trans (hb5.mono (by omega))).trans (hb6.mono (by omega))⟩
    · subst h0
      have h1 : x = 0 := PB.out.2.1 (by omega)
      subst h1
      clear hf
      go_wp2_with fail
      refine (HP _).out.mono ?_
      rintro e w' ⟨rfl, rfl⟩
      go_wp2_with fail
      refine (HF _).out.mono ?_
      rintro e w' ⟨rfl, rfl⟩
      go_wp2_with fail
      refine (awake_any _).mono ?_
      rintro e w6 ⟨rfl, hb6⟩
      go_wp2
      go_ret
      exact ⟨rfl, hb.trans (hb6.mono (by omega))⟩
  · have hf' : formB l = false := by simpa using hf
    have HF : ∀ w, Hid (Calls Tryd.prog 13 #[.string ⟨l.toArray⟩] w (RetB false w)) := fun w => Lib.hid (refForm_any l false w (by omega) (Lib.hid hf'))
    have h0 : c = 3 := PB.out.2.2.1 hf'
    subst h0
    have h1 : x = 0 := PB.out.2.1 (by omega)
    subst h1
    clear hf hf'
    go_wp2_with fail
    refine (HP _).out.mono ?_
    rintro e w' ⟨rfl, rfl⟩
    go_wp2_with fail
    refine (HF _).out.mono ?_
    rintro e w' ⟨rfl, rfl⟩
    go_wp2_with fail
    refine (awake_any _).mono ?_
    rintro e w6 ⟨rfl, hb6⟩
    go_wp2
    go_ret
    exact ⟨rfl, hb.trans (hb6.mono (by omega))⟩
end Go.Proofs.YtgoidhlemmdjgaaDoor
