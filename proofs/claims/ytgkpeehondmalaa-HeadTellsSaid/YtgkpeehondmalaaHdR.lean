/-
  The document's own answers for layer 29: Put, Take: walked.
-/
import Derived.Test.YtgkpeehondmalaaHdP
import Derived.Test.YtgkpeehondmalaaHdT
import Derived.Test.YtgkpeehondmalaaFrRb
import Derived.Test.YtgkpeehondmalaaFrRt
import Derived.Test.YtgkpeehondmalaaAfRp
set_option linter.unusedSimpArgs false
set_option linter.unusedVariables false
namespace Go.Proofs.Ytgkpeehondmalaa
open Go.RowKit

theorem rhd_frame (l : List UInt8) (w : World) (hs : l.length ≤ 1000000000) :
    Calls Try.prog 14 #[.agg #[.int .i64 1, .string ⟨l.toArray⟩]] w fun e w' => e = .returned (.tuple #[.string ⟨(putB (hcF l)).toArray⟩, .int .i64 (hcE l)]) ∧ Below w.heap.size w w' :=
  rfrput_any (hcF l) w (by show l.length ≤ 9223372036854775807; omega)

set_option maxHeartbeats 1000000 in
theorem rhdput_any (l : List UInt8) (w : World) (hs : l.length ≤ 1000000000) : Calls Try.prog 7 #[.string ⟨l.toArray⟩] w (RetHp l w) := by
  have HF := Lib.hid (rhd_frame l w hs)
  by_cases he : hcE l = 0
  · have hp := hcP_ok l he
    have hlen := hcB_length l he
    unfold hcB at hp hlen
    rw [show putB (hcF l) = frB (hcF l) from if_pos he, he] at HF
    delta RetHp
    rw [hp, he]
    have hadd := hd_plus (frB (hcF l))
    rw [List.length_append, show hcM.length = 5 from rfl] at hlen
    generalize frB (hcF l) = t at *
    have hz : (⟨t.toArray⟩ : ByteArray).size = t.length := bsize t
    clear he hp
    go_enter Try.func7, Try.ntmps7
    go_wp2_with fail
    refine HF.out.mono ?_
    rintro e w1 ⟨rfl, hb1⟩
    go_wp2
    go_ret2
    exact ⟨rfl, hb1⟩
  · have hp := hcP_bad l he
    rw [show putB (hcF l) = [] from if_neg he] at HF
    delta RetHp
    rw [hp]
    have he' : (hcE l == 0) = false := by simpa using he
    generalize hcE l = x at *
    clear hp
    go_enter Try.func7, Try.ntmps7
    go_wp2_with fail
    refine HF.out.mono ?_
    rintro e w1 ⟨rfl, hb1⟩
    go_wp2
    go_ret2
    exact ⟨rfl, hb1⟩

/-- Of bytes that don't begin with the mark. -/
theorem rhdtake_none (s : List UInt8) (w : World) (hs : s.length ≤ 1000000) (hp : Lib.hasPrefix s hcM = false) : Calls Try.prog 9 #[.string ⟨s.toArray⟩] w (RetHt s w) := by
  have HP := Lib.hid (rprefix_draws s hcM w (by omega) (by decide))
  rw [show (⟨hcM.toArray⟩ : ByteArray) = ⟨#[99, 101, 114, 116, 1]⟩ from rfl] at HP
  have HZ := Lib.hid (bsize s)
  have h1 := hp_less s hp
  cases hq : Lib.hasPrefix hcM s with
  | true =>
    have HR := Lib.hid (fun (e : Ending) (w' : World) => RetHt.bad (w := w) (w' := w') (e := e) (hct_short s hp hq) (by decide))
    have h2 := hp_all s hq
    generalize preL s hcM = n at *
    have g1 : (n : Int) < 5 := by omega
    have g2 : ((n : Int) == (s.length : Int)) = true := by simp [h2]
    clear hp hq h1 h2
    go_enter Try.func9, Try.ntmps9
    go_wp2_with fail
    refine HP.out.mono ?_
    rintro e w1 ⟨rfl, k, rfl⟩
    go_wp2
    go_ret3
    exact HR.out _ _ rfl (below_drewS (Below.refl _ _) k)
  | false =>
    have HR := Lib.hid (fun (e : Ending) (w' : World) => RetHt.bad (w := w) (w' := w') (e := e) (hct_not s hp hq) (by decide))
    have h2 := hp_some s hq
    generalize preL s hcM = n at *
    have g1 : (n : Int) < 5 := by omega
    have g2 : ((n : Int) == (s.length : Int)) = false := by
      simp only [beq_eq_false_iff_ne, ne_eq]; omega
    clear hp hq h1 h2
    go_enter Try.func9, Try.ntmps9
    go_wp2_with fail
    refine HP.out.mono ?_
    rintro e w1 ⟨rfl, k, rfl⟩
    go_wp2
    go_ret3
    exact HR.out _ _ rfl (below_drewS (Below.refl _ _) k)

set_option maxHeartbeats 1000000 in
theorem rhdtake_any (s : List UInt8) (w : World) (hs : s.length ≤ 1000000) : Calls Try.prog 9 #[.string ⟨s.toArray⟩] w (RetHt s w) := by
  cases hp : Lib.hasPrefix s hcM with
  | false => exact rhdtake_none s w hs hp
  | true =>
    have HP := Lib.hid (rprefix_draws s hcM w (by omega) (by decide))
    rw [show (⟨hcM.toArray⟩ : ByteArray) = ⟨#[99, 101, 114, 116, 1]⟩ from rfl, hp_five s hp] at HP
    have HZ := Lib.hid (bsize s)
    have hl5 := hp_len hp
    have x2 := ext_rest s 5
    have HT : Hid (∀ W : World, Calls Try.prog 18 #[.string ⟨(s.drop 5).toArray⟩] W fun e w' => e = .returned (.tuple #[.agg #[.int .i64 (tkK (s.drop 5)), .string (tkB (s.drop 5))], .int .i64 (tkS (s.drop 5)), .int .i64 (tkE (s.drop 5))]) ∧ Below W.heap.size W w') := Lib.hid (fun W : World => rftake_any (s.drop 5) W (by rw [List.length_drop]; omega))
    have g5 : (5 : Int) ≤ (s.length : Int) := by omega
    by_cases h1 : tkE (s.drop 5) = 0
    · by_cases h2 : tkK (s.drop 5) = 1
      · obtain ⟨o1, o2, o3⟩ := hct_ok s hp h1 h2
        have hsz := tk_size (s.drop 5) h1
        rw [List.length_drop] at hsz
        have g6 : tkS (s.drop 5) ≤ 1000000 := by omega
        have g7 : 0 ≤ tkS (s.drop 5) := by omega
        delta RetHt
        rw [h1, h2] at HT
        rw [o1, o2, o3]
        generalize tkB (s.drop 5) = d at *
        generalize tkS (s.drop 5) = n at *
        clear hp h1 h2 o1 o2 o3 hsz
        go_enter Try.func9, Try.ntmps9
        go_wp2_with fail
        refine HP.out.mono ?_
        rintro e w1 ⟨rfl, q, rfl⟩
        clear HP
        go_wp2_with fail
        refine (HT.out _).mono ?_
        rintro e w1 ⟨rfl, hb⟩
        have c0 : (w1.alloc (.cells #[.int .i64 1, .string d] 39)).cell? ⟨w1.heap.size, 0, none⟩ = some (.int .i64 1) := Lib.cell_of_heap (heap_alloc_new w1 _) 0
        have c1 : (w1.alloc (.cells #[.int .i64 1, .string d] 39)).cell? ⟨w1.heap.size, 1, none⟩ = some (.string d) := Lib.cell_of_heap (heap_alloc_new w1 _) 1
        have HB := Lib.hid ((below_drewS (Below.refl w.heap.size w) q).trans (hb.alloc hb.size (.cells #[.int .i64 1, .string d] 39)))
        clear hb HT
        go_wp2
        go_ret3
        exact ⟨by go_num, HB.out⟩
      · have HR := Lib.hid (fun (e : Ending) (w' : World) => RetHt.bad (w := w) (w' := w') (e := e) (hct_kind s hp h1 h2) (by decide))
        have h2' : (tkK (s.drop 5) == 1) = false := by simpa using h2
        rw [h1] at HT
        generalize tkB (s.drop 5) = d at *
        generalize tkS (s.drop 5) = n at *
        generalize tkK (s.drop 5) = k at *
        clear hp h1 h2
        go_enter Try.func9, Try.ntmps9
        go_wp2_with fail
        refine HP.out.mono ?_
        rintro e w1 ⟨rfl, q, rfl⟩
        clear HP
        go_wp2_with fail
        refine (HT.out _).mono ?_
        rintro e w1 ⟨rfl, hb⟩
        have c0 : (w1.alloc (.cells #[.int .i64 k, .string d] 39)).cell? ⟨w1.heap.size, 0, none⟩ = some (.int .i64 k) := Lib.cell_of_heap (heap_alloc_new w1 _) 0
        have HB := Lib.hid ((below_drewS (Below.refl w.heap.size w) q).trans (hb.alloc hb.size (.cells #[.int .i64 k, .string d] 39)))
        clear hb HT
        go_wp2
        go_ret3
        exact HR.out _ _ rfl HB.out
    · have HR := Lib.hid (fun (e : Ending) (w' : World) => RetHt.bad (w := w) (w' := w') (e := e) (hct_err s hp h1) h1)
      have h1' : (tkE (s.drop 5) == 0) = false := by simpa using h1
      generalize tkB (s.drop 5) = d at *
      generalize tkS (s.drop 5) = n at *
      generalize tkK (s.drop 5) = k at *
      generalize tkE (s.drop 5) = x at *
      clear hp h1
      go_enter Try.func9, Try.ntmps9
      go_wp2_with fail
      refine HP.out.mono ?_
      rintro e w1 ⟨rfl, q, rfl⟩
      clear HP
      go_wp2_with fail
      refine (HT.out _).mono ?_
      rintro e w1 ⟨rfl, hb⟩
      have HB := Lib.hid ((below_drewS (Below.refl w.heap.size w) q).trans (hb.alloc hb.size (.cells #[.int .i64 k, .string d] 39)))
      clear hb HT
      go_wp2
      go_ret3
      exact HR.out _ _ rfl HB.out
end Go.Proofs.Ytgkpeehondmalaa
