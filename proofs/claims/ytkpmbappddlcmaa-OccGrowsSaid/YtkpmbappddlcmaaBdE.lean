/-
  border.Find: walked.
-/
import Derived.Test.YtkpmbappddlcmaaBdW
import Derived.Test.YtkpmbappddlcmaaBdFb
import Derived.Lib.MinMax
set_option linter.unusedSimpArgs false
set_option linter.unusedVariables false
namespace Go.Proofs.Ytkpmbappddlcmaa
open Go.RowKit

/-- One byte more, by the table that lies in memory. -/
theorem on_next (t u : List UInt8) (a : Option Addr) (cap i : Nat) (w1 : World) (ht : t.length ≤ 100000000) (hi : i < u.length) (HR : Hid (IsRow .i64 w1 a (t.length + 1) (t.length + 1) (tabQ t (t.length + 1)))) (wr : World) (hb : Below w1.heap.size w1 wr) :
    Calls Try.prog 47 #[.string ⟨t.toArray⟩, .slice a (t.length + 1) cap, .int .i64 (endK t (u.take i) : Int), .int .u8 ((u[i]'hi).toNat : Int)] wr fun e w' => e = .returned (.int .i64 (endK t (u.take (i + 1)) : Int)) ∧ wr = w' := by
  have hk := endK_le t (u.take i)
  rw [List.take_succ_eq_append_getElem hi, endK_step]
  exact on_any t a _ _ (t.length + 1) (tabQ t (t.length + 1)) _ _ _ (by omega) hk (HR.out.below hb) (by omega) (by omega) (fun j _ hj2 => tabQ_get t _ j (by omega))

theorem fnd_mono {w : World} {base base' : Nat} {e : TypeId} {size : Nat} {v : Value} {n : Nat} {xs : List Value} (h : w.ownsRow base e size v n xs) (hb : base' ≤ base) : w.ownsRow base' e size v n xs := by
  obtain ⟨h1, h2 | ⟨g, cap, cur, hv, hg, h3⟩⟩ := h
  · exact ⟨h1, .inl h2⟩
  · exact ⟨h1, .inr ⟨g, cap, cur, hv, Nat.le_trans hb hg, h3⟩⟩

theorem fnd_slice {w : World} {base : Nat} {e : TypeId} {size : Nat} {v : Value} {n : Nat} {xs : List Value} (h : w.ownsRow base e size v n xs) : ∃ a cap, v = .slice a n cap := by
  rcases h.2 with ⟨rfl, rfl⟩ | ⟨g, cap, cur, rfl, _⟩
  · exact ⟨_, _, rfl⟩
  · exact ⟨_, _, rfl⟩

theorem find_nil (s : List UInt8) (w : World) (hs : s.length ≤ 100000000) :
    Calls Try.prog 32 #[.string ⟨s.toArray⟩, .string ⟨#[]⟩] w (RetN (fndB s []) w) := by
  have S1 := Lib.hid (bsize s)
  go_enter Try.func32, Try.ntmps32
  go_wp2
  go_ret
  exact ⟨_, rfl, World.ownsRow_nil _ _ _ _, Below.refl _ _⟩

theorem find_over (s t : List UInt8) (w : World) (hs : s.length ≤ 100000000) (ht : t.length ≤ 100000000) (h0 : t.isEmpty = false) (hl : s.length < t.length) :
    Calls Try.prog 32 #[.string ⟨s.toArray⟩, .string ⟨t.toArray⟩] w (RetN (fndB s t) w) := by
  have S1 := Lib.hid (bsize s)
  have S2 := Lib.hid (bsize t)
  have HF : Hid (fndB s t = []) := Lib.hid (by rw [fndB_full h0, fnd_over hl])
  go_enter Try.func32, Try.ntmps32
  go_wp2
  go_ret
  rw [HF.out]
  exact ⟨_, rfl, World.ownsRow_nil _ _ _ _, Below.refl _ _⟩

set_option maxRecDepth 100000 in
set_option maxHeartbeats 2000000 in
theorem find_full (s t : List UInt8) (w : World) (hs : s.length ≤ 100000000) (ht : t.length ≤ 100000000) (h0 : t.isEmpty = false) (hl : t.length ≤ s.length) :
    Calls Try.prog 32 #[.string ⟨s.toArray⟩, .string ⟨t.toArray⟩] w (RetN (fndB s t) w) := by
  have S1 := Lib.hid (bsize s)
  have S2 := Lib.hid (bsize t)
  have hp : 0 < t.length := by
    cases t with
    | nil => simp at h0
    | cons _ _ => simp
  have HF := Lib.hid (fndB_full (s := s) h0)
  have HT := Lib.hid (table_use t w ht)
  have H0 : Hid (endK t (s.take 0) = 0) := Lib.hid (by have := endK_len t (s.take 0); rw [List.take_zero] at this ⊢; simpa using this)
  have gl : ¬ (s.length : Int) < (t.length : Int) := by omega
  obtain ⟨i0, hi, hz0, hz1, hz2⟩ := info_parts int_info
  go_enter Try.func32, Try.ntmps32
  go_wp2_with fail
  refine HT.out.mono ?_
  rintro e w1 ⟨ad, cap, rfl, HR, hb1⟩
  have hs1 := hb1.size
  have HON := Lib.hid (fun i hi wr hb => on_next t s ad cap i w1 ht hi HR wr hb)
  clear HT HR
  go_wp2
  go_loopw [5, 7, 8, 22] (fun v x y i wr => ∃ (k : Nat) (acc : List Int), k ≤ s.length ∧ i = .int .i64 k ∧ x = .int .i64 (endK t (s.take k) : Int) ∧ Hid (fnd s t k = acc) ∧ acc.length ≤ k ∧ wr.ownsRow w1.heap.size 3 1 v acc.length (inCells acc) ∧ Below w1.heap.size w1 wr) (fun _ _ _ i _ => s.length - (RowKit.intOf i).toNat)
  case atStart => exact ⟨0, [], Nat.zero_le _, rfl, by rw [H0.out]; rfl, Lib.hid rfl, Nat.le_refl _, World.ownsRow_nil _ _ _ _, Below.refl _ _⟩
  case round =>
    obtain ⟨k, acc, hk, rfl, rfl, HW, hac, hown, hbe⟩ := hrel
    have hsz := hbe.size
    by_cases hlt : k < s.length
    · have HB := Lib.hid (byteAt s k hlt (by rw [bsize]; exact hlt))
      have HO := Lib.hid (HON.out k hlt wr hbe)
      have HA := Lib.hid (endK_all (t := t) (u := s.take (k + 1)))
      have hkl := endK_len t (s.take (k + 1))
      rw [len_take s hlt] at hkl
      clear HON H0 HF
      generalize endK t (s.take k) = x1 at HO
      generalize hx2 : endK t (s.take (k + 1)) = x2 at HO HA hkl
      have HX2 := Lib.hid hx2
      clear hx2
      by_cases hx : x2 = t.length
      · have HR : Hid (fnd s t (k + 1) = acc ++ [((k : Int) + 1 - (x2 : Int))]) := Lib.hid (by
          rw [fnd_hit (HA.out.1 hx), HW.out, ← hx]
          congr 2; omega)
        have g1 : ((x2 : Int) == (t.length : Int)) = true := by simp [hx]
        clear HW HA hx
        go_wp2_with fail
        rw [HB.out]
        refine HO.out.mono ?_
        rintro e w2 ⟨rfl, rfl⟩
        clear HO
        go_wp2_with (at_builtin; refine wpList_append_own _ rfl _ _ 33 rfl w1.heap.size 3 i0 (.int .i64 0) 1 8 Try.underlying33 hi hz0 hz1 hz2 rfl (by decide) _ _ _ rfl (hown.alloc _) ⟨wr.heap.size, 0, none⟩ 1 1 [.int .i64 ((k : Int) + 1 - (x2 : Int))] rfl rfl (int_news (heap_alloc_new wr _)) int_one (by unfold maxLen; omega) (by omega) (by simp; omega) ?_)
        intro v' w3 hown3 hgrow _
        have h3 : Below w1.heap.size w1 w3 := (hbe.alloc (by omega) _).grown hgrow (by simp; omega) (fun k hk => (hown.lt k hk).1)
        clear hgrow
        go_wp2
        refine ⟨⟨k + 1, acc ++ [((k : Int) + 1 - (x2 : Int))], by omega, by go_num, by rw [HX2.out], HR, by rw [List.length_append, List.length_singleton]; omega, ?_, h3⟩, by simp [RowKit.intOf]; omega⟩
        rw [inCells_snoc, List.length_append]
        exact hown3
      · have HR : Hid (fnd s t (k + 1) = acc) := Lib.hid (by
          rw [fnd_miss (fun h => hx (HA.out.2 h)), HW.out])
        have g1 : ((x2 : Int) == (t.length : Int)) = false := by simp; omega
        clear HW HA hx
        go_wp2_with fail
        rw [HB.out]
        refine HO.out.mono ?_
        rintro e w2 ⟨rfl, rfl⟩
        clear HO
        go_wp2
        exact ⟨⟨k + 1, acc, by omega, by go_num, by rw [HX2.out], HR, by omega, hown, hbe⟩, by simp [RowKit.intOf]; omega⟩
    · obtain rfl : k = s.length := by omega
      have HR : Hid (fndB s t = acc) := Lib.hid (by rw [HF.out, HW.out])
      obtain ⟨a9, c9, rfl⟩ := fnd_slice hown
      have HV : Hid (RetN (fndB s t) w (.returned (.slice a9 acc.length c9)) wr) := Lib.hid ⟨_, rfl, by rw [HR.out]; exact fnd_mono hown hs1, hb1.trans (hbe.mono hs1)⟩
      clear hown HW HF
      go_wp2
      go_ret
      exact HV.out

theorem find_own (s t : List UInt8) (w : World) (hs : s.length ≤ 100000000) (ht : t.length ≤ 100000000) :
    Calls Try.prog 32 #[.string ⟨s.toArray⟩, .string ⟨t.toArray⟩] w (RetN (fndB s t) w) := by
  cases t with
  | nil => exact find_nil s w hs
  | cons c r =>
    rcases Nat.lt_or_ge s.length (c :: r).length with h | h
    · exact find_over s (c :: r) w hs ht rfl h
    · exact find_full s (c :: r) w hs ht rfl h
theorem find_any (s t : List UInt8) (w : World) (hs : s.length ≤ 100000000) (ht : t.length ≤ 100000000) :
    Calls Try.prog 32 #[.string ⟨s.toArray⟩, .string ⟨t.toArray⟩] w (RetI (fndB s t) w) := by
  refine (find_own s t w hs ht).mono ?_
  rintro e w' ⟨v, rfl, hown, hb⟩
  obtain ⟨ao, cap', rfl, hR⟩ := RetI.of (w := w) rfl hown (by
    have := fnd_length s t s.length
    unfold fndB
    split
    · exact Nat.zero_le _
    · unfold maxLen; omega) hb
  exact hR
end Go.Proofs.Ytkpmbappddlcmaa
