/-
  escape.Unquote, walked.
-/
import Derived.Test.YtoedbolmajcgpaaEsW
import Derived.Test.YtoedbolmajcgpaaEsT
set_option linter.unusedSimpArgs false
set_option linter.unusedVariables false
namespace Go.Proofs.Ytoedbolmajcgpaa
open Go.RowKit

/-- Unquote's answer. -/
def RetU (l : List UInt8) (w : World) (e : Ending) (w' : World) : Prop := e = .returned (.tuple #[.string ⟨(unqU l).toArray⟩, .int .i64 (unqE l)]) ∧ Below w.heap.size w w'
theorem RetU.mk {l u : List UInt8} {x : Int} {w w' : World} {e : Ending} (h : unqU l = u ∧ unqE l = x) (he : e = .returned (.tuple #[.string ⟨u.toArray⟩, .int .i64 x])) (hb : Below w.heap.size w w') : RetU l w e w' := by
  unfold RetU; rw [h.1, h.2]; exact ⟨he, hb⟩

/-- One more byte is read. -/
theorem read_step {l acc r : List UInt8} {a : Nat} {c : UInt8} (h : sgns acc ++ l.drop a = l) (hd : l.drop a = sgn c ++ r) : sgns (acc ++ [c]) ++ l.drop (a + (sgn c).length) = l := by
  rw [sgns_snoc, List.append_assoc]
  have : l.drop (a + (sgn c).length) = r := by rw [← List.drop_drop, hd, List.drop_left]
  rw [this, ← hd, h]
theorem read_fits {l r : List UInt8} {a : Nat} {c : UInt8} (ha : a ≤ l.length) (hd : l.drop a = sgn c ++ r) : a + (sgn c).length ≤ l.length := by
  have := congrArg List.length hd
  rw [List.length_drop, List.length_append] at this
  omega
theorem read_bound {l acc : List UInt8} {a : Nat} (ha : a ≤ l.length) (h : sgns acc ++ l.drop a = l) : acc.length ≤ a := by
  have e := congrArg List.length h
  have := (sgns_len acc).1
  rw [List.length_append, List.length_drop] at e
  omega
theorem drop_full {l : List UInt8} {a : Nat} (h : a < l.length) : l.drop a ≠ [] := by
  intro e
  have := congrArg List.length e
  rw [List.length_drop, List.length_nil] at this
  omega

set_option maxHeartbeats 1000000 in
theorem unquote_any (l : List UInt8) (w : World) (h : l.length ≤ 1000000) : Calls Try.prog 11 #[.string ⟨l.toArray⟩] w (RetU l w) := by
  by_cases h0 : l = []
  · subst h0
    go_enter Try.func11, Try.ntmps11
    go_wp2
    go_ret2
    exact RetU.mk unq_nil rfl (Below.refl _ _)
  by_cases h1 : l = [45]
  · subst h1
    go_enter Try.func11, Try.ntmps11
    go_wp2
    go_ret2
    exact RetU.mk unq_dash rfl (Below.refl _ _)
  by_cases h2 : l = [92, 120, 50, 100]
  · subst h2
    go_enter Try.func11, Try.ntmps11
    go_wp2
    go_ret2
    exact RetU.mk unq_2d rfl (Below.refl _ _)
  have t0 := list_full h0
  have t1 := list_ne h1
  have t2 := list_ne h2
  have H0 := Lib.hid h0
  have H1 := Lib.hid h1
  have H2 := Lib.hid h2
  clear h0 h1 h2
  go_enter Try.func11, Try.ntmps11
  go_wp2
  go_loopw [5] (fun i wr => ∃ (a : Nat) (acc : List UInt8), a ≤ l.length ∧ i = .int .i64 a ∧ Hid (sgns acc ++ l.drop a = l) ∧ Lib.IsBuilder 37 5 w.heap.size w.heap.size (Lib.byteCells acc) wr ∧ Below w.heap.size w wr) (fun i _ => l.length - (RowKit.intOf i).toNat)
  case atStart => exact ⟨0, [], Nat.zero_le _, rfl, Lib.hid rfl, Lib.fresh_isBuilder _ _ w, (Below.refl _ _).alloc (Nat.le_refl _) _⟩
  case round =>
    obtain ⟨a, acc, ha, rfl, HA, hbu, hbe⟩ := hrel
    have hsz := hbe.size
    have hacc := read_bound ha HA.out
    by_cases hlt : a < l.length
    · have HT := Lib.hid (fun w => estake_from l a w (by omega) hlt)
      by_cases hn : (tak (l.drop a)).2 = 0
      · have HU := Lib.hid (unq_stop H1.out H2.out HA.out (drop_full hlt) (tak_none hn))
        have HT' : Hid (∀ w, Calls Try.prog 19 #[.string ((⟨l.toArray⟩ : ByteArray).extract a l.length)] w fun e w' => e = .returned (.tuple #[.int .u8 ((tak (l.drop a)).1.toNat : Int), .int .i64 0]) ∧ Below w.heap.size w w') :=
          Lib.hid (fun w => (HT.out w).mono (by rintro e w' ⟨he, hb⟩; rw [hn] at he; exact ⟨he, hb⟩))
        clear HT hn
        generalize (tak (l.drop a)).1.toNat = c at HT'
        go_wp2_with fail
        refine (HT'.out _).mono ?_
        rintro e w2 ⟨rfl, hb2⟩
        go_wp2
        go_ret2
        exact RetU.mk HU.out rfl (hbe.trans (hb2.mono hsz))
      · obtain ⟨⟨r, hr⟩, hl⟩ := tak_says _ hn
        have HT' : Hid (∀ w, Calls Try.prog 19 #[.string ((⟨l.toArray⟩ : ByteArray).extract a l.length)] w fun e w' => e = .returned (.tuple #[.int .u8 ((tak (l.drop a)).1.toNat : Int), .int .i64 ((tak (l.drop a)).2 : Int)]) ∧ Below w.heap.size w w') := HT
        clear HT
        rw [hl] at HT' hn
        generalize (tak (l.drop a)).1 = c at HT' hr hl hn
        have HA2 := Lib.hid (read_step HA.out hr)
        have hfit := read_fits ha hr
        have hpos := sgn_pos c
        clear hn hl hr
        generalize (sgn c).length = n at HT' HA2 hfit hpos
        have hn0 : ((n : Int) == 0) = false := by simp; omega
        go_wp2_with fail
        refine (HT'.out _).mono ?_
        rintro e w2 ⟨rfl, hb2⟩
        have hs2 := hb2.size
        go_wp2_with fail
        refine (wbyte _ _ acc c _ (IsBuilder.below hbu hb2) (by omega) (by omega)).mono ?_
        rintro e w3 ⟨rfl, hbu3, hb3⟩
        go_wp2
        exact ⟨⟨a + n, acc ++ [c], hfit, by go_num, HA2, hbu3, (hbe.trans (hb2.mono hsz)).trans hb3⟩, by simp [RowKit.intOf]; omega⟩
    · obtain rfl : a = l.length := by omega
      have HU := Lib.hid (unq_end H0.out H1.out (by have := HA.out; rwa [List.drop_length, List.append_nil] at this))
      go_wp2_with (go_at_call 17; refine (Try.Builder_String_any _ _ _ _ hbu hbe.size).mono ?_; rintro e w1 ⟨rfl, hb1⟩)
      go_ret2
      exact RetU.mk HU.out rfl (hbe.trans hb1)
end Go.Proofs.Ytoedbolmajcgpaa
