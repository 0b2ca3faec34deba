/-
  chunk.All, walked; the law ChunkParts where its guard answers.
-/
import Derived.Test.YtjeeicmoenoppaaChW
import Derived.Test.YtjeeicmoenoppaaChA
import Derived.Test.YtjeeicmoenoppaaChJ
import Derived.Test.YtjeeicmoenoppaaShelf
set_option linter.unusedSimpArgs false
set_option linter.unusedVariables false
namespace Go.Proofs.Ytjeeicmoenoppaa
open Go.RowKit Go.Shelf

theorem boxed_below {W W' : World} {b : Nat} {t : TypeId} {v : Value} (h : Boxed W b t v) (hb : Below W.heap.size W W') : Boxed W' b t v := (hb.block b h.lt).trans h

theorem owns_texts {w : World} {base n : Nat} {e : TypeId} {v : Value} {ws : List (List UInt8)} (hn : ws.length = n) (h : w.ownsRow base e 1 v n (txCells ws)) (hv : v ≠ .slice none 0 0) :
    ∃ g cap, v = .slice (some ⟨g, 0, none⟩) n cap ∧ base ≤ g ∧ g < w.heap.size ∧ IsStrs w (some ⟨g, 0, none⟩) n ws := by
  subst hn
  rcases h.2 with ⟨h1, _⟩ | ⟨g, cap, cur, h1, h2, h3, _⟩
  · exact absurd h1 hv
  · obtain ⟨ao, cap', e1, hf⟩ := owns_strs h
    rw [h1] at e1
    cases e1
    refine ⟨g, cap, h1, h2, ?_, hf⟩
    rcases Nat.lt_or_ge g w.heap.size with hlt | hge
    · exact hlt
    · rw [Array.getElem?_eq_none hge] at h3; cases h3

/-- A copy of a slice of texts: what is known of it. -/
def RetK (len : Nat) (ws : List (List UInt8)) (w : World) (e : Ending) (w' : World) : Prop :=
  ∃ (a : Option Addr) (cap : Nat), e = .returned (.slice a len cap) ∧ IsStrs w' a len ws ∧ (0 < len → ∀ g off, a = some ⟨g, off, none⟩ → w.heap.size ≤ g ∧ g < w'.heap.size) ∧ Below w.heap.size w w'

theorem clone_any (a : Option Addr) (len cap : Nat) (ws : List (List UInt8)) (w : World) (hl : len ≤ 1000000) (hr : IsStrs w a len ws) :
    Calls Try.prog 23 #[.slice a len cap] w (RetK len ws w) := by
  have hwl := hr.1
  by_cases h0 : len = 0
  · subst h0
    obtain rfl : ws = [] := List.eq_nil_of_length_eq_zero hwl
    cases a with
    | none =>
      refine (Try.slices_Clone_string_nil 0 cap w).mono ?_
      rintro e w' ⟨rfl, rfl⟩
      exact ⟨none, 0, rfl, ⟨rfl, .inl rfl⟩, fun h => by omega, Below.refl _ _⟩
    | some x =>
      refine (Try.slices_Clone_string_zero x cap w).mono ?_
      rintro e w' ⟨v, rfl, hown, hv, hb⟩
      obtain ⟨g, cp, rfl, _, _, hf⟩ := owns_texts (ws := []) rfl hown hv
      exact ⟨_, cp, rfl, hf, fun h => by omega, hb⟩
  · obtain ⟨b, off, rfl, _⟩ := str_at hr (Below.refl _ _) 0 (by omega)
    refine (Try.slices_Clone_string b off len cap (ws.map fun t => (⟨t.toArray⟩ : ByteArray)) w (by simp; omega) (by omega) ?_).mono ?_
    · intro j hj
      rw [List.length_map] at hj
      obtain ⟨b', off', e', t, hf, hc⟩ := str_at hr (Below.refl _ _) j (by omega)
      cases e'
      rw [hc]
      congr 2
      simp [List.getD, hf]
    · rintro e w' ⟨v, rfl, hown, hv, hb⟩
      have e1 : ((ws.map fun t => (⟨t.toArray⟩ : ByteArray)).take len).map Value.string = txCells ws := by
        rw [List.take_of_length_le (by simp; omega), List.map_map]; rfl
      rw [e1] at hown
      obtain ⟨g, cp, rfl, h1, h2, hf⟩ := owns_texts hwl hown hv
      exact ⟨_, cp, rfl, hf, fun _ g' off' e => by cases e; exact ⟨h1, h2⟩, hb⟩

/-- What All answers: the function that goes through a copy. -/
def RetAll (len : Nat) (ws : List (List UInt8)) (w : World) (e : Ending) (w' : World) : Prop :=
  ∃ (b : Nat) (a : Option Addr) (cap : Nat), e = .returned (thrFunc b) ∧ Boxed w' b 24 (.slice a len cap) ∧ IsStrs w' a len ws ∧ (0 < len → ∀ g off, a = some ⟨g, off, none⟩ → w.heap.size ≤ g ∧ g < w'.heap.size) ∧ Below w.heap.size w w'

theorem all_any (a : Option Addr) (len cap : Nat) (ws : List (List UInt8)) (w : World) (hl : len ≤ 1000000) (hr : IsStrs w a len ws) :
    Calls Try.prog 19 #[.slice a len cap] w (RetAll len ws w) := by
  have HC := Lib.hid (clone_any a len cap ws w hl hr)
  clear hr
  go_enter Try.func19, Try.ntmps19
  go_wp2_with fail
  refine HC.out.mono ?_
  rintro e w1 ⟨a1, cap1, rfl, hf, hg, hb⟩
  go_wp2_with fail
  refine (callsIn_wide.1 (through_in Fence.wide 4 trivial rfl a1 len cap1 w1)).mono ?_
  rintro e w2 ⟨rfl, rfl⟩
  go_wp2
  go_ret
  have hs := hb.size
  have hb1 : Below w1.heap.size w1 (w1.alloc (.cells #[.slice a1 len cap1] 24)) := (Below.refl _ _).alloc (Nat.le_refl _) _
  refine ⟨w1.heap.size, a1, cap1, rfl, Boxed.new w1 _ _, hf.below hb1, fun h g off e => ?_, hb.trans (hb1.mono hs)⟩
  have := hg h g off e
  rw [World.size_alloc]
  omega

/-- The two boxes that the law makes first. -/
def lawWorld (a : Option Addr) (len cap : Nat) (w : World) : World := (w.alloc (.cells #[.slice a len cap] 24)).alloc (.cells #[.bool false] 4)
theorem lawWorld_size (a : Option Addr) (len cap : Nat) (w : World) : (lawWorld a len cap w).heap.size = w.heap.size + 2 := by simp [lawWorld]
theorem lawWorld_below (a : Option Addr) (len cap : Nat) (w : World) : Below w.heap.size w (lawWorld a len cap w) := by
  unfold lawWorld
  repeat (first | exact Below.refl _ _ | refine Below.alloc ?_ (by simp; omega) _ | refine Below.alloc ?_ (by simp) _)
theorem lawWorld_boxes (a : Option Addr) (len cap : Nat) (w : World) : Boxed (lawWorld a len cap w) w.heap.size 24 (.slice a len cap) ∧ Boxed (lawWorld a len cap w) (w.heap.size + 1) 4 (.bool false) := by
  have b0 := Boxed.new w 24 (.slice a len cap)
  have b1 := Boxed.new (w.alloc (.cells #[.slice a len cap] 24)) 4 (.bool false)
  simp only [World.size_alloc] at b1
  exact ⟨b0.alloc _, b1⟩

set_option maxHeartbeats 1000000 in
theorem parts_long (a : Option Addr) (len cap : Nat) (at_ : Int) (w : World) (h : 30 < len) (hm : len ≤ 9223372036854775807) :
    Calls Try.prog 4 #[.slice a len cap, .int .i64 at_] w fun e w' => e = .returned (.bool true) ∧ Below w.heap.size w w' := by
  obtain ⟨b0, b1⟩ := lawWorld_boxes a len cap w
  have hbl := lawWorld_below a len cap w
  have hsl := hbl.size
  go_enter Try.func4, Try.ntmps4
  go_wp2_with fail
  refine (chawake_any (lawWorld a len cap w)).mono ?_
  rintro e w1 ⟨rfl, hb1⟩
  have c1 := boxed_below b1 hb1
  have e1 := c1.cell
  have f1 := c1.frozen
  go_wp2
  have c2 := c1.set (.bool true)
  have e2 := c2.cell
  refine bodyPost_ret (v := .bool true) (by simp [results, Try.results4, go_sem, e2]) rfl ?_
  exact ⟨rfl, (hbl.trans (hb1.mono hsl)).setCell (p := ⟨w.heap.size + 1, 0, none⟩) (by simp) _⟩

set_option maxHeartbeats 1000000 in
theorem parts_wide (a : Option Addr) (len cap : Nat) (ws : List (List UInt8)) (at_ : Int) (w : World) (h : len ≤ 30) (hr : IsStrs w a len ws) (hw : 100 < lonL ws) :
    Calls Try.prog 4 #[.slice a len cap, .int .i64 at_] w fun e w' => e = .returned (.bool true) ∧ Below w.heap.size w w' := by
  obtain ⟨b0, b1⟩ := lawWorld_boxes a len cap w
  have hbl := lawWorld_below a len cap w
  have hsl := hbl.size
  have HL := Lib.hid (rlongest_any a len cap ws (lawWorld a len cap w) (by omega) (hr.below hbl))
  generalize lonL ws = m at HL hw
  go_enter Try.func4, Try.ntmps4
  go_wp2_with fail
  refine HL.out.mono ?_
  rintro e w1 ⟨rfl, hb1⟩
  have hb01 := hbl.trans (hb1.mono hsl)
  have hs1 := hb01.size
  have d1 := boxed_below b1 hb1
  go_wp2_with fail
  refine (chawake_any w1).mono ?_
  rintro e w2 ⟨rfl, hb2⟩
  have c1 := boxed_below d1 hb2
  have e1 := c1.cell
  have f1 := c1.frozen
  go_wp2
  have c2 := c1.set (.bool true)
  have e2 := c2.cell
  refine bodyPost_ret (v := .bool true) (by simp [results, Try.results4, go_sem, e2]) rfl ?_
  exact ⟨rfl, (hb01.trans (hb2.mono hs1)).setCell (p := ⟨w.heap.size + 1, 0, none⟩) (by simp) _⟩
end Go.Proofs.Ytjeeicmoenoppaa
