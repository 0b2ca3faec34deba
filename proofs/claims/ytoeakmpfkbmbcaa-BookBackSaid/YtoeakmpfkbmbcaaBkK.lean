/-
  book.Take, walked.
-/
import Derived.Test.YtoeakmpfkbmbcaaBkT
import Derived.Test.YtoeakmpfkbmbcaaAfBg
import Derived.Test.YtoeakmpfkbmbcaaPtN
set_option linter.unusedSimpArgs false
set_option linter.unusedVariables false
namespace Go.Proofs.Ytoeakmpfkbmbcaa
open Go.RowKit

theorem srt_same {ws : List (List UInt8)} (h : Asc ws) : srt ws = ws := asc_unique (srt_asc ws) h (srt_perm ws)
theorem all_fine {s : List UInt8} {R : Int × List (List UInt8)} (h : allB s = R) (h0 : R.1 = 0) : Pats R.2 ∧ Asc R.2 := by
  have e : allB s = (0, R.2) := by rw [h, ← h0]
  obtain ⟨a, b, _⟩ := all_back e
  exact ⟨a, b⟩

/-- What Take answers. -/
def RetK (R : Int × List (List UInt8)) (w : World) (e : Ending) (w' : World) : Prop :=
  ((¬ R.1 = 0 ∧ e = .returned (.tuple #[.pointer none, .int .i64 R.1])) ∨ (R.1 = 0 ∧ ∃ b, e = .returned (.tuple #[.pointer (some ⟨b, 0, none⟩), .int .i64 0]) ∧ w.heap.size ≤ b ∧ IsSet w' b R.2)) ∧ Below w.heap.size w w'

set_option maxHeartbeats 1000000 in
theorem bktake_head (s : List UInt8) (w : World) (hp : Lib.hasPrefix s hdB = false) :
    Calls Try.prog 12 #[.string ⟨s.toArray⟩] w (RetK (tkB s) w) := by
  have HR : Hid (tkB s = (15, [])) := Lib.hid (by unfold tkB; rw [hp]; rfl)
  rw [HR.out]
  have HB := Lib.hid (begins_any s hdB w)
  rw [hp] at HB
  clear hp
  go_enter Try.func12, Try.ntmps12
  go_wp2_with fail
  refine HB.out.mono ?_
  rintro e w' ⟨rfl, rfl⟩
  go_wp2
  go_ret2
  exact ⟨.inl ⟨by decide, rfl⟩, Below.refl _ _⟩

set_option maxHeartbeats 2000000 in
theorem bktake_body (s : List UInt8) (w : World) (hs : s.length ≤ 1000000000) (hp : Lib.hasPrefix s hdB = true) :
    Calls Try.prog 12 #[.string ⟨s.toArray⟩] w (RetK (tkB s) w) := by
  have HR : Hid (tkB s = allB (s.drop 6)) := Lib.hid (by unfold tkB; rw [if_pos hp])
  rw [HR.out]
  have hl6 : 6 ≤ s.length := by
    have := hp
    simp only [Lib.hasPrefix, List.isPrefixOf_iff_prefix] at this
    exact this.length_le
  have HB := Lib.hid (begins_any s hdB w)
  rw [hp] at HB
  have S1 := Lib.hid (bsize s)
  have x1 := ext_rest s 6
  have hd : (s.drop 6).length ≤ 1000000000 := by rw [List.length_drop]; omega
  generalize s.drop 6 = t at x1 hd ⊢
  have g1 : (6 : Int) ≤ (s.length : Int) := by omega
  have H1 := Lib.hid (fun (w2 : World) (h : IsReader w2 w.heap.size w.heap.size [] t) => set_any h hd)
  generalize hR : allB t = R at H1
  have HA := Lib.hid (fun h0 => all_fine hR h0)
  clear hp HR hR hd
  go_enter Try.func12, Try.ntmps12
  go_wp2_with fail
  refine HB.out.mono ?_
  rintro e w' ⟨rfl, hw⟩
  obtain rfl := hw.symm
  clear HB hw
  go_wp2_with fail
  have HI : IsReader (w.alloc (.cells #[.slice none 0 0, .int .i64 0, .string ⟨t.toArray⟩] 62)) w.heap.size w.heap.size [] t := ⟨Nat.le_refl _, .slice none 0 0, heap_alloc_new w _, World.ownsRow_nil _ _ _ _⟩
  have H2 := Lib.hid (H1.out _ HI)
  have b1 : Below w.heap.size w (w.alloc (.cells #[.slice none 0 0, .int .i64 0, .string ⟨t.toArray⟩] 62)) := (Below.refl _ w).alloc (Nat.le_refl _) _
  clear HI H1
  refine H2.out.mono ?_
  rintro e w2 ⟨rfl, hok, hb2⟩
  have b2 := b1.trans hb2
  have e2 := b2.size
  clear H2 b1 hb2
  obtain ⟨x, L⟩ := R
  by_cases hx : x = 0
  · obtain ⟨s', hr⟩ := hok hx
    obtain ⟨hP, hA⟩ := HA.out hx
    have hr' : IsReader w2 w.heap.size w.heap.size L s' := hr
    obtain ⟨ao, cap, c0, _, _, _, _, _, hst⟩ := hr'.reads
    have HN := Lib.hid (ptnew_good ao L.length cap L w2 (by have := hP.few; show L.length ≤ 1000000; have h9 : L.length ≤ 65535 := this; omega) hst ((fault_zero L).2 hP))
    rw [srt_same hA] at HN
    subst hx
    clear hok hr hr' HA hP hA hst
    go_wp2_with fail
    refine HN.out.mono ?_
    rintro e w3 ⟨b, rfl, hbb, hset, hb3⟩
    have b3 := b2.trans (hb3.mono e2)
    have HS := Lib.hid hset
    clear HN hset hb3
    go_wp2
    go_ret2
    exact ⟨.inr ⟨rfl, b, rfl, by omega, HS.out⟩, b3⟩
  · have g2 : (x == 0) = false := by simpa using hx
    clear hok HA
    go_wp2
    go_ret2
    exact ⟨.inl ⟨hx, rfl⟩, b2⟩

theorem bktake_any (s : List UInt8) (w : World) (hs : s.length ≤ 1000000000) :
    Calls Try.prog 12 #[.string ⟨s.toArray⟩] w (RetK (tkB s) w) := by
  cases hp : Lib.hasPrefix s hdB with
  | true => exact bktake_body s w hs hp
  | false => exact bktake_head s w hp

theorem bktake_ok (s : List UInt8) (w : World) (hs : s.length ≤ 1000000000) {L : List (List UInt8)} (h : tkB s = (0, L)) :
    Calls Try.prog 12 #[.string ⟨s.toArray⟩] w fun e w' => ∃ b, e = .returned (.tuple #[.pointer (some ⟨b, 0, none⟩), .int .i64 0]) ∧ w.heap.size ≤ b ∧ IsSet w' b L ∧ Below w.heap.size w w' := by
  refine (bktake_any s w hs).mono ?_
  rw [h]
  rintro e w' ⟨hcase, d⟩
  rcases hcase with ⟨hne, _⟩ | ⟨_, b, he, hbb, hS⟩
  · exact absurd rfl hne
  · exact ⟨b, he, hbb, hS, d⟩
theorem bktake_err (s : List UInt8) (w : World) (hs : s.length ≤ 1000000000) {x : Int} {L : List (List UInt8)} (h : tkB s = (x, L)) (hx : ¬ x = 0) :
    Calls Try.prog 12 #[.string ⟨s.toArray⟩] w fun e w' => e = .returned (.tuple #[.pointer none, .int .i64 x]) ∧ Below w.heap.size w w' := by
  refine (bktake_any s w hs).mono ?_
  rw [h]
  rintro e w' ⟨hcase, d⟩
  rcases hcase with ⟨_, he⟩ | ⟨h0, _⟩
  · exact ⟨he, d⟩
  · exact absurd h0 hx
end Go.Proofs.Ytoeakmpfkbmbcaa
