/-
  The law EscapeBack, walked.
-/
import Derived.Test.YtoedbolmajcgpaaEsD
set_option linter.unusedSimpArgs false
set_option linter.unusedVariables false
namespace Go.Proofs.Ytoedbolmajcgpaa
open Go.RowKit

theorem esback_long1 (s t : ByteArray) (w : World) (hs : 500 < s.size) (hm : s.size ≤ 9223372036854775807) :
    Calls Try.prog 5 #[.string s, .string t] w fun e w' => e = .returned (.bool true) ∧ Below w.heap.size w w' := by
  go_enter Try.func5, Try.ntmps5
  go_wp2_with fail
  refine (awake_any _).mono ?_
  rintro e w' ⟨rfl, hb⟩
  go_wp2
  go_ret
  exact ⟨rfl, hb⟩

theorem esback_long2 (s t : ByteArray) (w : World) (hs : ¬ 500 < s.size) (ht : 500 < t.size) (hm : t.size ≤ 9223372036854775807) :
    Calls Try.prog 5 #[.string s, .string t] w fun e w' => e = .returned (.bool true) ∧ Below w.heap.size w w' := by
  go_enter Try.func5, Try.ntmps5
  go_wp2_with fail
  refine (awake_any _).mono ?_
  rintro e w' ⟨rfl, hb⟩
  go_wp2
  go_ret
  exact ⟨rfl, hb⟩

theorem quo_ge (l : List UInt8) : l.length ≤ (quo l).length := by
  have := (sgns_len l).1
  unfold quo
  split
  · rename_i h; subst h; simp
  · split
    · rename_i h; subst h; simp
    · exact this
theorem quo_beq (l t : List UInt8) : (quo l == quo t) = (l == t) := by
  by_cases h : l = t
  · subst h; simp
  · rw [list_ne h, list_ne (fun e => h (quo_inj _ _ e))]

/-- A slice of one text, made anew. -/
theorem one_str {w : World} {q : List UInt8} {T : TypeId} : IsStrs (w.alloc (.cells #[.string ⟨q.toArray⟩] T)) (some ⟨w.heap.size, 0, none⟩) 1 [q] := by
  refine ⟨rfl, .inr ⟨w.heap.size, 0, rfl, fun i hi => ?_⟩⟩
  obtain rfl : i = 0 := by simp at hi; omega
  rw [Nat.zero_add, World.cell?_alloc_new]
  rfl

set_option maxHeartbeats 4000000 in
set_option maxRecDepth 100000 in
theorem esback_walk (l t q q2 : List UInt8) (w : World) (hl : l.length ≤ 500) (ht : t.length ≤ 500) (hq : q.length ≤ 4 * l.length + 4) (β : Bool) (hb1 : (q == q2) = β) (hb2 : (l == t) = β)
    (H1 : Hid (∀ w, Calls Try.prog 7 #[.string ⟨l.toArray⟩] w fun e w' => e = .returned (.string ⟨q.toArray⟩) ∧ Below w.heap.size w w'))
    (H2 : Hid (∀ w, Calls Try.prog 11 #[.string ⟨q.toArray⟩] w fun e w' => e = .returned (.tuple #[.string ⟨l.toArray⟩, .int .i64 0]) ∧ Below w.heap.size w w'))
    (H3 : Hid (∀ w, Calls Try.prog 14 #[.string ⟨q.toArray⟩] w (RetL [q] w)))
    (H4 : Hid (∀ w, Calls Try.prog 7 #[.string ⟨t.toArray⟩] w fun e w' => e = .returned (.string ⟨q2.toArray⟩) ∧ Below w.heap.size w w'))
    (hseen : Hid (∀ d ∈ q, 33 ≤ d.toNat ∧ d.toNat ≤ 126))
    (HT : Hid ((∃ u : List UInt8, (∀ w, Calls Try.prog 11 #[.string ⟨t.toArray⟩] w fun e w' => e = .returned (.tuple #[.string ⟨u.toArray⟩, .int .i64 0]) ∧ Below w.heap.size w w') ∧
          (∀ w, Calls Try.prog 7 #[.string ⟨u.toArray⟩] w fun e w' => e = .returned (.string ⟨t.toArray⟩) ∧ Below w.heap.size w w'))
      ∨ (∀ w, Calls Try.prog 11 #[.string ⟨t.toArray⟩] w fun e w' => e = .returned (.tuple #[.string ⟨#[]⟩, .int .i64 3]) ∧ Below w.heap.size w w'))) :
    Calls Try.prog 5 #[.string ⟨l.toArray⟩, .string ⟨t.toArray⟩] w fun e w' => e = .returned (.bool true) ∧ Below w.heap.size w w' := by
  have HS := Lib.hid (bsize q)
  go_enter Try.func5, Try.ntmps5
  go_wp2_with fail
  refine (H1.out _).mono ?_
  rintro e w1 ⟨rfl, hb1'⟩
  have hs1 := hb1'.size
  go_wp2_with fail
  refine (H2.out _).mono ?_
  rintro e w2 ⟨rfl, hb2'⟩
  have hb02 := hb1'.trans (hb2'.mono hs1)
  have hs2 := hb02.size
  clear hb1' hb2'
  go_wp2_with fail
  refine (H3.out _).mono ?_
  rintro e w3 ⟨a3, c3, rfl, hf3, hb3⟩
  have hb03 := hb02.trans (hb3.mono hs2)
  have hs3 := hb03.size
  clear hb3 hb02
  go_wp2_with fail
  refine (essame_any a3 _ 1 c3 1 [q] _ (by omega) (hf3.below ((Below.refl _ _).alloc (Nat.le_refl _) _)) one_str).mono ?_
  rintro e w4 ⟨rfl, hb4⟩
  have hb04 := (hb03.alloc hs3 _).trans (hb4.mono (by simp; omega))
  have hs4 := hb04.size
  clear hb4 hb03 hf3
  go_wp2_with fail
  refine (H4.out _).mono ?_
  rintro e w5 ⟨rfl, hb5⟩
  have hb05 := hb04.trans (hb5.mono hs4)
  have hs5 := hb05.size
  clear hb5 hb04
  go_wp2
  go_loopw [8] (fun i wr => ∃ k : Nat, k ≤ q.length ∧ i = .int .i64 k ∧ Below w.heap.size w wr) (fun i _ => q.length - (RowKit.intOf i).toNat)
  case atStart => exact ⟨0, Nat.zero_le _, rfl, hb05⟩
  case round =>
    obtain ⟨k, hk, rfl, hbe⟩ := hrel
    have hsz := hbe.size
    by_cases hlt : k < q.length
    · have hz : k < (⟨q.toArray⟩ : ByteArray).size := by rw [HS.out]; exact hlt
      have A0 := byteAt q k hlt hz
      obtain ⟨g1, g2⟩ := hseen.out q[k] (List.getElem_mem _)
      generalize q[k] = c at A0 g1 g2
      have d1 : ¬ (c.toNat : Int) < 33 := by omega
      have d2 : ¬ (126 : Int) < (c.toNat : Int) := by omega
      have d3 : decide ((126 : Int) < (c.toNat : Int)) = false := by simp; omega
      go_wp2
      exact ⟨⟨k + 1, by omega, by go_num, hbe⟩, by simp [RowKit.intOf]; omega⟩
    · obtain rfl : k = q.length := by omega
      rcases HT.out with ⟨u, HA, HB⟩ | HA
      · have HA' := Lib.hid HA
        have HB' := Lib.hid HB
        clear HA HB
        go_wp2_with fail
        refine (HA'.out _).mono ?_
        rintro e w6 ⟨rfl, hb6⟩
        have hb06 := hbe.trans (hb6.mono hsz)
        have hs6 := hb06.size
        go_wp2_with fail
        refine (HB'.out _).mono ?_
        rintro e w7 ⟨rfl, hb7⟩
        have hb07 := hb06.trans (hb7.mono hs6)
        have hs7 := hb07.size
        go_wp2_with fail
        refine (awake_any _).mono ?_
        rintro e w8 ⟨rfl, hb8⟩
        go_wp2
        go_ret
        exact ⟨rfl, hb07.trans (hb8.mono hs7)⟩
      · have HA' := Lib.hid HA
        clear HA
        go_wp2_with fail
        refine (HA'.out _).mono ?_
        rintro e w6 ⟨rfl, hb6⟩
        have hb06 := hbe.trans (hb6.mono hsz)
        have hs6 := hb06.size
        go_wp2_with fail
        refine (awake_any _).mono ?_
        rintro e w8 ⟨rfl, hb8⟩
        go_wp2
        go_ret
        exact ⟨rfl, hb06.trans (hb8.mono hs6)⟩

theorem esback_short (l t : List UInt8) (w : World) (hl : l.length ≤ 500) (ht : t.length ≤ 500) :
    Calls Try.prog 5 #[.string ⟨l.toArray⟩, .string ⟨t.toArray⟩] w fun e w' => e = .returned (.bool true) ∧ Below w.heap.size w w' := by
  have hq := quo_len l
  refine esback_walk l t (quo l) (quo t) w hl ht hq (l == t) (quo_beq l t) rfl (Lib.hid (fun w => quote_any l w (by omega))) ?_ ?_ (Lib.hid (fun w => quote_any t w (by omega))) (Lib.hid (quo_seen l)) ?_
  · refine Lib.hid (fun w => ?_)
    have := unquote_any (quo l) w (by omega)
    unfold RetU at this
    rw [(unq_quo l).1, (unq_quo l).2] at this
    exact this
  · refine Lib.hid (fun w => ?_)
    have := words_any (quo l) w (by omega)
    rwa [wds_quo] at this
  · have HU : ∀ w, Calls Try.prog 11 #[.string ⟨t.toArray⟩] w fun e w' => e = .returned (.tuple #[.string ⟨(unqU t).toArray⟩, .int .i64 (unqE t)]) ∧ Below w.heap.size w w' := fun w => unquote_any t w (by omega)
    refine Lib.hid ?_
    rcases unq_cases t with ⟨e1, e2⟩ | ⟨e1, e2⟩
    · rw [e1] at HU
      refine .inl ⟨unqU t, HU, fun w => ?_⟩
      have := quo_ge (unqU t)
      rw [e2] at this
      have h := quote_any (unqU t) w (by omega)
      rwa [e2] at h
    · rw [e1, e2] at HU
      exact .inr HU
end Go.Proofs.Ytoedbolmajcgpaa
