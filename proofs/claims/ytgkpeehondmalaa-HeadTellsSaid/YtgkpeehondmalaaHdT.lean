/-
  head.markFault, Take: walked.
-/
import Derived.Test.YtgkpeehondmalaaHdM
import Derived.Test.YtgkpeehondmalaaStr
import Derived.Test.YtgkpeehondmalaaFrT
import Derived.Test.YtgkpeehondmalaaAfBg
set_option linter.unusedSimpArgs false
set_option linter.unusedVariables false
namespace Go.Proofs.Ytgkpeehondmalaa
open Go.RowKit

/-- Why bytes don't begin with the mark. -/
def hcK (s : List UInt8) : Int := if Lib.hasPrefix s hcM = true then 0 else if Lib.hasPrefix hcM s = true then 4 else 15
theorem hdmark_any (s : List UInt8) (w : World) : Calls Try.prog 15 #[.string ⟨s.toArray⟩] w fun e w' => e = .returned (.int .i64 (hcK s)) ∧ w' = w := by
  have H1 := Lib.hid (begins_any s hcM w)
  have H2 := Lib.hid (begins_any hcM s w)
  unfold hcK
  rw [show (⟨hcM.toArray⟩ : ByteArray) = ⟨#[99, 101, 114, 116, 1]⟩ from rfl] at H1 H2
  generalize Lib.hasPrefix s hcM = p1 at H1 ⊢
  generalize Lib.hasPrefix hcM s = p2 at H2 ⊢
  cases p1 with
  | true =>
    go_enter Try.func15, Try.ntmps15
    go_wp2_with fail
    refine H1.out.mono ?_
    rintro e w1 ⟨rfl, rfl⟩
    go_wp2
    go_ret
    exact ⟨rfl, rfl⟩
  | false =>
    cases p2 with
    | true =>
      go_enter Try.func15, Try.ntmps15
      go_wp2_with fail
      refine H1.out.mono ?_
      rintro e w1 ⟨rfl, hw⟩
      obtain rfl := hw.symm
      clear hw
      go_wp2_with fail
      refine H2.out.mono ?_
      rintro e w1 ⟨rfl, hw⟩
      obtain rfl := hw.symm
      clear hw
      go_wp2
      go_ret
      exact ⟨rfl, rfl⟩
    | false =>
      go_enter Try.func15, Try.ntmps15
      go_wp2_with fail
      refine H1.out.mono ?_
      rintro e w1 ⟨rfl, hw⟩
      obtain rfl := hw.symm
      clear hw
      go_wp2_with fail
      refine H2.out.mono ?_
      rintro e w1 ⟨rfl, hw⟩
      obtain rfl := hw.symm
      clear hw
      go_wp2
      go_ret
      exact ⟨rfl, rfl⟩

/-- Take's answer: the file, the head's size, the error. -/
def RetHt (s : List UInt8) (w : World) (e : Ending) (w' : World) : Prop := e = .returned (.tuple #[.string (hcTF s), .int .i64 (hcTN s), .int .i64 (hcTE s)]) ∧ Below w.heap.size w w'
theorem RetHt.bad {s : List UInt8} {x : Int} {w w' : World} {e : Ending} (h : hcTE s = x) (hx : x ≠ 0) (he : e = .returned (.tuple #[.string ByteArray.empty, .int .i64 0, .int .i64 x])) (hb : Below w.heap.size w w') : RetHt s w e w' := by
  obtain ⟨h1, h2, h3⟩ := hct_bad s x h hx
  exact ⟨by rw [he, h1, h2, h3], hb⟩

set_option maxHeartbeats 1000000 in
theorem hdtake_any (s : List UInt8) (w : World) (hs : s.length ≤ 1000000) : Calls Try.prog 8 #[.string ⟨s.toArray⟩] w (RetHt s w) := by
  have HM := Lib.hid (hdmark_any s w)
  have HZ := Lib.hid (bsize s)
  cases hp : Lib.hasPrefix s hcM with
  | false =>
    obtain ⟨x, hx, hx0, HR⟩ : ∃ x, hcK s = x ∧ x ≠ 0 ∧ Hid (hcTE s = x) := by
      unfold hcK
      cases hq : Lib.hasPrefix hcM s with
      | true => exact ⟨4, by rw [hp]; rfl, by decide, Lib.hid (hct_short s hp hq)⟩
      | false => exact ⟨15, by rw [hp]; rfl, by decide, Lib.hid (hct_not s hp hq)⟩
    rw [hx] at HM
    have hx' : (x == 0) = false := by simpa using hx0
    have HR2 := Lib.hid (fun (e : Ending) (w' : World) => RetHt.bad (w := w) (w' := w') (e := e) HR.out hx0)
    clear hx hx0 hp HR
    go_enter Try.func8, Try.ntmps8
    go_wp2_with fail
    refine HM.out.mono ?_
    rintro e w1 ⟨rfl, hw⟩
    obtain rfl := hw.symm
    clear hw
    go_wp2
    go_ret3
    exact HR2.out _ _ rfl (Below.refl _ _)
  | true =>
    have hk : hcK s = 0 := by unfold hcK; rw [hp]; rfl
    rw [hk] at HM
    have hl5 := hp_len hp
    have x2 := ext_rest s 5
    have HT : Hid (∀ W : World, Calls Try.prog 16 #[.string ⟨(s.drop 5).toArray⟩] W fun e w' => e = .returned (.tuple #[.agg #[.int .i64 (tkK (s.drop 5)), .string (tkB (s.drop 5))], .int .i64 (tkS (s.drop 5)), .int .i64 (tkE (s.drop 5))]) ∧ Below W.heap.size W w') := Lib.hid (fun W : World => ftake_any (s.drop 5) W (by rw [List.length_drop]; omega))
    have g5 : (5 : Int) ≤ (s.length : Int) := by omega
    by_cases h1 : tkE (s.drop 5) = 0
    · by_cases h2 : tkK (s.drop 5) = 1
      · obtain ⟨o1, o2, o3⟩ := hct_ok s hp h1 h2
        have hsz := tk_size (s.drop 5) h1
        rw [List.length_drop] at hsz
        have g6 : tkS (s.drop 5) ≤ 1000000 := by omega
        have g7 : 0 ≤ tkS (s.drop 5) := by omega
        delta RetHt
        rw [h1, h2] at HT
        rw [o1, o2, o3]
        generalize tkB (s.drop 5) = d at *
        generalize tkS (s.drop 5) = n at *
        clear hp hk h1 h2 o1 o2 o3 hsz
        go_enter Try.func8, Try.ntmps8
        go_wp2_with fail
        refine HM.out.mono ?_
        rintro e w1 ⟨rfl, hw⟩
        obtain rfl := hw.symm
        clear hw HM
        go_wp2_with fail
        refine (HT.out _).mono ?_
        rintro e w1 ⟨rfl, hb⟩
        have c0 : (w1.alloc (.cells #[.int .i64 1, .string d] 37)).cell? ⟨w1.heap.size, 0, none⟩ = some (.int .i64 1) := Lib.cell_of_heap (heap_alloc_new w1 _) 0
        have c1 : (w1.alloc (.cells #[.int .i64 1, .string d] 37)).cell? ⟨w1.heap.size, 1, none⟩ = some (.string d) := Lib.cell_of_heap (heap_alloc_new w1 _) 1
        have HB := Lib.hid (hb.alloc hb.size (.cells #[.int .i64 1, .string d] 37))
        clear hb HT
        go_wp2
        go_ret3
        exact ⟨by go_num, HB.out⟩
      · have HR := Lib.hid (fun (e : Ending) (w' : World) => RetHt.bad (w := w) (w' := w') (e := e) (hct_kind s hp h1 h2) (by decide))
        have h2' : (tkK (s.drop 5) == 1) = false := by simpa using h2
        rw [h1] at HT
        generalize tkB (s.drop 5) = d at *
        generalize tkS (s.drop 5) = n at *
        generalize tkK (s.drop 5) = k at *
        clear hp hk h1 h2
        go_enter Try.func8, Try.ntmps8
        go_wp2_with fail
        refine HM.out.mono ?_
        rintro e w1 ⟨rfl, hw⟩
        obtain rfl := hw.symm
        clear hw HM
        go_wp2_with fail
        refine (HT.out _).mono ?_
        rintro e w1 ⟨rfl, hb⟩
        have c0 : (w1.alloc (.cells #[.int .i64 k, .string d] 37)).cell? ⟨w1.heap.size, 0, none⟩ = some (.int .i64 k) := Lib.cell_of_heap (heap_alloc_new w1 _) 0
        have HB := Lib.hid (hb.alloc hb.size (.cells #[.int .i64 k, .string d] 37))
        clear hb HT
        go_wp2
        go_ret3
        exact HR.out _ _ rfl HB.out
    · have HR := Lib.hid (fun (e : Ending) (w' : World) => RetHt.bad (w := w) (w' := w') (e := e) (hct_err s hp h1) h1)
      have h1' : (tkE (s.drop 5) == 0) = false := by simpa using h1
      generalize tkB (s.drop 5) = d at *
      generalize tkS (s.drop 5) = n at *
      generalize tkK (s.drop 5) = k at *
      generalize tkE (s.drop 5) = x at *
      clear hp hk h1
      go_enter Try.func8, Try.ntmps8
      go_wp2_with fail
      refine HM.out.mono ?_
      rintro e w1 ⟨rfl, hw⟩
      obtain rfl := hw.symm
      clear hw HM
      go_wp2_with fail
      refine (HT.out _).mono ?_
      rintro e w1 ⟨rfl, hb⟩
      have HB := Lib.hid (hb.alloc hb.size (.cells #[.int .i64 k, .string d] 37))
      clear hb HT
      go_wp2
      go_ret3
      exact HR.out _ _ rfl HB.out
end Go.Proofs.Ytgkpeehondmalaa
