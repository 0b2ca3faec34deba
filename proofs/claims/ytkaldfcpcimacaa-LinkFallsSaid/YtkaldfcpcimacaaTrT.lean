/-
  A trie of a set: what its calls tell of its states.
-/
import Derived.Test.YtkaldfcpcimacaaTrX
import Derived.Test.YtkaldfcpcimacaaTrC
set_option linter.unusedSimpArgs false
set_option linter.unusedVariables false
namespace Go.Proofs.Ytkaldfcpcimacaa
open Go.RowKit

theorem IsTrie.below {w w' : World} {q p : Option Addr} {us S : List (List UInt8)} (h : IsTrie w q p us S) (hb : Below w.heap.size w w') : IsTrie w' q p us S := by
  obtain ⟨R, h1, h2, h3, h4⟩ := h
  exact ⟨R, h1.below hb, h2, h3, h4.below hb⟩
theorem IsTrie.st {w : World} {q p : Option Addr} {us S : List (List UInt8)} (h : IsTrie w q p us S) : IsSt us S := by
  obtain ⟨R, h1, h2, h3, h4⟩ := h
  exact h3.done
theorem IsTrie.few {w : World} {q p : Option Addr} {us S : List (List UInt8)} (h : IsTrie w q p us S) : 1 ≤ S.length ∧ S.length ≤ totalL us + 1 ∧ S.length ≤ 16777217 := by
  obtain ⟨R, h1, h2, h3, h4⟩ := h
  have := (pats_each h4).2.2
  exact ⟨h3.le.2, h3.few, by have := h3.few; omega⟩
theorem ts_len {w : World} {q p : Option Addr} {us S : List (List UInt8)} (h : IsTrie w q p us S) : Calls Try.prog 22 #[.pointer q] w fun e w' => e = .returned (.int .i64 (S.length : Int)) ∧ w' = w := by
  obtain ⟨R, h1, h2, h3, h4⟩ := h
  rw [← h2.1]
  exact trlen_any h1
theorem ts_depth {w : World} {q p : Option Addr} {us S : List (List UInt8)} (h : IsTrie w q p us S) (k : Nat) {s : List UInt8} (hs : S[k]? = some s) : Calls Try.prog 24 #[.pointer q, .int .i64 (k : Int)] w fun e w' => e = .returned (.int .i64 (s.length : Int)) ∧ Below w.heap.size w w' := by
  obtain ⟨R, h1, h2, h3, h4⟩ := h
  obtain ⟨r, hr, _, _, hd, _⟩ := h2.at hs
  have := trdepth_any h1 (k : Int)
  rw [rcOf_in hr, hd] at this
  exact this
theorem ts_above {w : World} {q p : Option Addr} {us S : List (List UInt8)} (h : IsTrie w q p us S) (k : Nat) {s : List UInt8} (hs : S[k]? = some s) : ∃ a : Nat, S[a]? = some s.dropLast ∧ a ≤ k ∧
    Calls Try.prog 50 #[.pointer q, .int .i64 (k : Int)] w fun e w' => e = .returned (.tuple #[.int .i64 (a : Int), .int .u8 ((s.getLastD 0).toNat : Int), .bool (decide (0 < s.length))]) ∧ Below w.heap.size w w' := by
  obtain ⟨R, h1, h2, h3, h4⟩ := h
  obtain ⟨r, hr, _, _, hd, hl, ha, hk⟩ := h2.at hs
  have := trabove_any h1 (k : Int)
  rw [rcOf_in hr, hd, hl] at this
  exact ⟨_, ha, hk, this⟩
/-- The first pattern of a state begins with it. -/
theorem first_take {us S : List (List UInt8)} (ha : Asc us) (h : IsSt us S) {s : List UInt8} (hs : s ∈ S) : s.length ≤ (us.getD (frL us s) []).length ∧ (us.getD (frL us s) []).take s.length = s := by
  rcases (h.2 s).1 hs with rfl | hb
  · simp
  · have hr := range_pos ha hb
    have hl := to_le us s
    have e1 : us[frL us s]? = some (us[frL us s]'(by omega)) := List.getElem?_eq_getElem (by omega)
    have hp := (in_iff ha e1).2 ⟨Nat.le_refl _, hr⟩
    rw [List.getD_eq_getElem?_getD, e1]
    exact ⟨hp.length_le, (List.prefix_iff_eq_take.1 hp).symm⟩
theorem ts_ends {w : World} {q p : Option Addr} {us S : List (List UInt8)} (h : IsTrie w q p us S) (ha : Asc us) (k : Nat) {s : List UInt8} (hs : S[k]? = some s) : Calls Try.prog 38 #[.pointer q, .int .i64 (k : Int)] w fun e w' =>
    ((s ∈ us → e = .returned (.tuple #[.int .i64 (frL us s : Int), .bool true])) ∧ (s ∉ us → e = .returned (.tuple #[.int .i64 0, .bool false]))) ∧ Below w.heap.size w w' := by
  have hst := h.st
  obtain ⟨R, h1, h2, h3, h4⟩ := h
  obtain ⟨r, hr, hf, _, hd, _⟩ := h2.at hs
  have hi := endr_iff ha ((hst.2 s).1 (List.mem_of_getElem? hs)) hf hd
  refine (trends_in h1 h4 k r hr (by have := (pats_each h4).2.1; omega)).mono ?_
  rintro e w' ⟨⟨e1, e2⟩, hb⟩
  rw [hf] at e1
  exact ⟨⟨fun hm => e1 (hi.2 hm), fun hm => e2 fun he => hm (hi.1 he)⟩, hb⟩
/-- Where a pattern stands that a state is. -/
theorem ends_at {us : List (List UInt8)} (ha : Asc us) {s : List UInt8} (hs : s ∈ us) : us[frL us s]? = some s := by
  have hb : begL us s = true := beg_iff.2 ⟨s, hs, List.prefix_refl s⟩
  have hr := range_pos ha hb
  have hl := to_le us s
  have e1 : us[frL us s]? = some (us[frL us s]'(by omega)) := List.getElem?_eq_getElem (by omega)
  have hp := (in_iff ha e1).2 ⟨Nat.le_refl _, hr⟩
  exact e1.trans (congrArg some (hp.eq_of_length ((first_is ha e1 hp).2 hs).symm).symm)

/-- What is kept of the states below one. -/
theorem kids_kept {us S : List (List UInt8)} {R : List Rc} (hb : Bfs us S.length S) (hR : RecOk us S S.length R) {k : Nat} {s s' : List UInt8} (hs : S[k]? = some s) (hs' : S[k + 1]? = some s') : ∃ r r', R[k]? = some r ∧ R[k + 1]? = some r' ∧ r.below = offL us S k ∧
    r.below ≤ r'.below ∧ r'.below ≤ R.length ∧ ((R.drop r.below).take (r'.below - r.below)).map Rc.last = kidsL us s := by
  have hk := (List.getElem?_eq_some_iff.1 hs').1
  obtain ⟨r, hr, _, h2, _⟩ := hR.at hs
  obtain ⟨r', hr', _, h2', _⟩ := hR.at hs'
  rw [if_pos (by omega)] at h2 h2'
  have ho := off_snoc (us := us) hs
  have hle := off_le hb (i := k + 1) (by omega)
  refine ⟨r, r', hr, hr', h2, by omega, by rw [hR.1]; omega, ?_⟩
  rw [h2, h2', ho, Nat.add_sub_cancel_left]
  refine List.ext_getElem? fun j => ?_
  rw [List.getElem?_map, List.getElem?_take]
  by_cases hj : j < (kidsL us s).length
  · rw [if_pos hj, List.getElem?_drop]
    have hc : (kidsL us s)[j]? = some (kidsL us s)[j] := List.getElem?_eq_getElem hj
    obtain ⟨x, hx, _, _, _, hxl, _⟩ := hR.at (hb.at (by omega) hs hc)
    rw [hx, hc, Option.map_some, hxl]
    simp
  · rw [if_neg hj, List.getElem?_eq_none (by omega)]; rfl
theorem ts_next {w : World} {q p : Option Addr} {us S : List (List UInt8)} (h : IsTrie w q p us S) (k : Nat) {s : List UInt8} (hs : S[k]? = some s) (c : UInt8) : Calls Try.prog 37 #[.pointer q, .int .i64 (k : Int), .int .u8 (c.toNat : Int)] w fun e w' =>
    ((s ++ [c] ∈ S → ∃ n : Nat, e = .returned (.tuple #[.int .i64 (n : Int), .bool true]) ∧ S[n]? = some (s ++ [c])) ∧ (s ++ [c] ∉ S → e = .returned (.tuple #[.int .i64 0, .bool false]))) ∧ Below w.heap.size w w' := by
  have hst := h.st
  obtain ⟨R, h1, h2, h3, h4⟩ := h
  have hk := (List.getElem?_eq_some_iff.1 hs).1
  have hi : s ++ [c] ∈ S ↔ c ∈ kidsL us s := by
    rw [hst.2, kids_mem]
    simp
  by_cases hl : k + 1 < S.length
  · obtain ⟨r, r', hr, hr', ho, hle1, hle2, hm⟩ := kids_kept h3 h2 hs (List.getElem?_eq_getElem hl)
    refine (trnext_in h1 k r r' hr hr' hle1 hle2 c (by rw [hm]; exact kids_rise us s)).mono ?_
    rintro e w' ⟨⟨e1, e2⟩, hb⟩
    rw [hm] at e1 e2
    refine ⟨⟨fun hh => ?_, fun hh => e2 fun hx => hh (hi.2 hx)⟩, hb⟩
    obtain ⟨n, he, hn⟩ := e1 (hi.1 hh)
    rw [ho] at he
    exact ⟨_, he, h3.at hk hs hn⟩
  · have hkk : k = S.length - 1 := by omega
    have hn := last_none hst (by rw [← hkk]; exact hs)
    refine (trnext_out h1 (k : Int) (.inr (by rw [h2.1]; omega)) c).mono ?_
    rintro e w' ⟨he, hb⟩
    exact ⟨⟨fun hh => by rw [hi, hn] at hh; simp at hh, fun _ => he⟩, hb⟩
theorem st_take {us S : List (List UInt8)} (h : IsSt us S) {t : List UInt8} (ht : t ∈ S) (n : Nat) : t.take n ∈ S := by
  rcases (h.2 t).1 ht with rfl | hb
  · simpa using ht
  · exact (h.2 _).2 (.inr (beg_short hb (List.take_prefix n t)))
/-- What Find tells of bytes. -/
def RetFd (S : List (List UInt8)) (t : List UInt8) (w : World) (e : Ending) (w' : World) : Prop :=
  ((t ∈ S → ∃ n : Nat, e = .returned (.tuple #[.int .i64 (n : Int), .bool true]) ∧ S[n]? = some t) ∧ (t ∉ S → e = .returned (.tuple #[.int .i64 0, .bool false]))) ∧ Below w.heap.size w w'
set_option maxHeartbeats 1000000 in
theorem trfind_none (t : List UInt8) (w : World) : Calls Try.prog 25 #[.pointer none, .string ⟨t.toArray⟩] w fun e w' => e = .returned (.tuple #[.int .i64 0, .bool false]) ∧ w' = w := by
  have HS := Lib.hid (tris_out (.inl ⟨rfl, rfl⟩ : HasTr w none none []) 0 (.inr (by simp)))
  go_enter Try.func25, Try.ntmps25
  go_wp2_with fail
  refine HS.out.mono ?_
  rintro e w' ⟨rfl, rfl⟩
  go_wp2
  go_loopw [6, 7, 8] (fun x y z wr => x = .int .i64 0 ∧ y = .bool false ∧ z = .int .i64 0 ∧ wr = w') (fun _ _ _ _ => 0)
  case atStart => exact ⟨rfl, rfl, rfl, rfl⟩
  case round =>
    obtain ⟨rfl, rfl, rfl, rfl⟩ := hrel
    go_wp2
    go_ret2
    exact ⟨rfl, rfl⟩
/-- How far Find has come. -/
def FindSt (S : List (List UInt8)) (t : List UInt8) (i : Nat) (x y : Value) : Prop := (∃ n : Nat, x = .int .i64 (n : Int) ∧ y = .bool true ∧ S[n]? = some (t.take i)) ∨ (x = .int .i64 0 ∧ y = .bool false ∧ t ∉ S)
set_option maxHeartbeats 1000000 in
theorem ts_find {w : World} {q p : Option Addr} {us S : List (List UInt8)} (h : IsTrie w q p us S) (t : List UInt8) (ht : t.length ≤ 1000000000) : Calls Try.prog 25 #[.pointer q, .string ⟨t.toArray⟩] w (RetFd S t w) := by
  have hst := h.st
  have hf := h.few
  have HH := Lib.hid h
  have HS := Lib.hid (by
    obtain ⟨R, h1, h2, h3, h4⟩ := h
    exact tris_in h1 0 (by rw [h2.1]; omega))
  have hroot : S[0]? = some [] := by
    obtain ⟨R, h1, h2, h3, h4⟩ := h
    exact h3.root
  have HT := Lib.hid hst
  have HZ := Lib.hid (bsize t)
  clear h hst
  go_enter Try.func25, Try.ntmps25
  go_wp2_with fail
  refine HS.out.mono ?_
  rintro e w' ⟨rfl, hw'⟩
  obtain rfl := hw'.symm
  clear hw'
  go_wp2
  go_loopw [6, 7, 8] (fun x y z wr => ∃ i : Nat, i ≤ t.length ∧ z = .int .i64 i ∧ Hid (FindSt S t i x y) ∧ Below w.heap.size w wr) (fun _ _ z _ => t.length - (RowKit.intOf z).toNat)
  case atStart => exact ⟨0, Nat.zero_le _, rfl, Lib.hid (.inl ⟨0, rfl, rfl, by simpa using hroot⟩), Below.refl _ _⟩
  case round =>
    obtain ⟨i, hi, rfl, HF, hbe⟩ := hrel
    have hsz := hbe.size
    rcases HF.out with ⟨n, rfl, rfl, hn⟩ | ⟨rfl, rfl, hno⟩
    · by_cases hlt : i < t.length
      · have hzb : i < (⟨t.toArray⟩ : ByteArray).size := by rw [bsize]; omega
        have HB := byteAt t i (by omega) hzb
        have HN := Lib.hid (ts_next (HH.out.below hbe) n hn t[i])
        have e1 : t.take (i + 1) = t.take i ++ [t[i]] := List.take_succ_eq_append_getElem hlt
        rw [← e1] at HN
        have g1 : (i : Int) < (t.length : Int) := by omega
        have g0 : (0 : Int) ≤ (i : Int) := by omega
        by_cases hm : t.take (i + 1) ∈ S
        · clear e1 HF hn
          go_wp2_with fail
          refine HN.out.mono ?_
          rintro e w2 ⟨⟨h1, _⟩, hb2⟩
          obtain ⟨n2, rfl, hn2⟩ := h1 hm
          have HF2 : Hid (FindSt S t (i + 1) (.int .i64 (n2 : Int)) (.bool true)) := Lib.hid (.inl ⟨n2, rfl, rfl, hn2⟩)
          have d2 := Lib.hid (hbe.trans (hb2.mono hsz))
          clear h1 hb2 HN hn2 hm HB hbe
          go_wp2
          exact ⟨⟨i + 1, by omega, by go_num, HF2, d2.out⟩, by simp [RowKit.intOf]; omega⟩
        · clear e1 HF hn
          go_wp2_with fail
          refine HN.out.mono ?_
          rintro e w2 ⟨⟨_, h1⟩, hb2⟩
          obtain rfl := h1 hm
          have HF2 : Hid (FindSt S t (i + 1) (.int .i64 0) (.bool false)) := Lib.hid (.inr ⟨rfl, rfl, fun hx => hm (st_take HT.out hx (i + 1))⟩)
          have d2 := Lib.hid (hbe.trans (hb2.mono hsz))
          clear h1 hb2 HN hm HB hbe
          go_wp2
          exact ⟨⟨i + 1, by omega, by go_num, HF2, d2.out⟩, by simp [RowKit.intOf]; omega⟩
      · have he : t.take i = t := List.take_of_length_le (by omega)
        rw [he] at hn
        have g1 : ¬ (i : Int) < (t.length : Int) := by omega
        have HE : Hid (RetFd S t w (.returned (.tuple #[.int .i64 (n : Int), .bool true])) wr) := Lib.hid ⟨⟨fun _ => ⟨n, rfl, hn⟩, fun hx => absurd (List.mem_of_getElem? hn) hx⟩, hbe⟩
        clear HF hn he hbe
        go_wp2
        go_ret2
        exact HE.out
    · have HE : Hid (RetFd S t w (.returned (.tuple #[.int .i64 0, .bool false])) wr) := Lib.hid ⟨⟨fun hx => absurd hx hno, fun _ => rfl⟩, hbe⟩
      clear HF hno hbe
      go_wp2
      go_ret2
      exact HE.out
end Go.Proofs.Ytkaldfcpcimacaa
