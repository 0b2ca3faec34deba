/-
  The document's own answers for layer 16: Bytes: walked.
-/
import Derived.Test.YtigdlkoilamomaaTrF
import Derived.Test.YtigdlkoilamomaaTrC
set_option linter.unusedSimpArgs false
set_option linter.unusedVariables false
namespace Go.Proofs.Ytigdlkoilamomaa
open Go.RowKit

/-- The bytes by which a text is gone on with among some texts. -/
def upB (S : List (List UInt8)) (s : List UInt8) : List UInt8 := S.filterMap fun q => if s ++ [q.getLastD 0] = q then some (q.getLastD 0) else none
theorem up_hit {S : List (List UInt8)} {s : List UInt8} {j : Nat} {c : UInt8} (h : S[j]? = some (s ++ [c])) : upB (S.take (j + 1)) s = upB (S.take j) s ++ [c] := by
  obtain ⟨hj, e⟩ := List.getElem?_eq_some_iff.1 h
  unfold upB
  rw [List.take_succ_eq_append_getElem hj, List.filterMap_append, e]
  simp
theorem up_miss {S : List (List UInt8)} {s q : List UInt8} {j : Nat} (h : S[j]? = some q) (hn : ∀ c, q ≠ s ++ [c]) : upB (S.take (j + 1)) s = upB (S.take j) s := by
  obtain ⟨hj, e⟩ := List.getElem?_eq_some_iff.1 h
  unfold upB
  rw [List.take_succ_eq_append_getElem hj, List.filterMap_append, e]
  have : ¬ s ++ [q.getLastD 0] = q := fun he => hn _ he.symm
  rw [List.filterMap_cons_none (by rw [if_neg this])]
  simp
theorem up_mem {S : List (List UInt8)} {s : List UInt8} {c : UInt8} : c ∈ upB S s ↔ s ++ [c] ∈ S := by
  unfold upB
  rw [List.mem_filterMap]
  constructor
  · rintro ⟨q, hq, h⟩
    split at h
    · rename_i he
      cases h
      rw [he]; exact hq
    · cases h
  · intro h
    exact ⟨_, h, by simp⟩
theorem up_rise {S : List (List UInt8)} (h : S.Pairwise slx) (s : List UInt8) : (upB S s).Pairwise (· < ·) := by
  unfold upB
  rw [List.pairwise_filterMap]
  refine h.imp fun {a b} hab c hc d hd => ?_
  split at hc
  · rename_i ha
    cases hc
    split at hd
    · rename_i hb
      cases hd
      rw [← ha, ← hb] at hab
      generalize a.getLastD 0 = x at *
      generalize b.getLastD 0 = y at *
      rcases hab with h1 | ⟨_, h1⟩
      · simp at h1
      · rcases UInt8.lt_or_lt_of_ne (a := x) (b := y) (fun e => by subst e; exact List.lt_irrefl _ h1) with h2 | h2
        · exact h2
        · exact absurd (List.lt_trans h1 (lt_after s (by rw [List.cons_lt_cons_iff]; exact .inl h2))) (List.lt_irrefl _)
    · cases hd
  · cases hc
theorem up_kids {us S : List (List UInt8)} (h : IsSt us S) (s : List UInt8) : upB S s = kidsL us s :=
  rise_unique (up_rise h.1 s) (kids_rise us s) fun c => by
    rw [up_mem, kids_mem, h.2]
    simp
theorem up_length (S : List (List UInt8)) (s : List UInt8) (j : Nat) : (upB (S.take j) s).length ≤ S.length := by
  unfold upB
  exact Nat.le_trans (List.length_filterMap_le _ _) (by rw [List.length_take]; exact Nat.min_le_right _ _)
/-- A text that is one with one byte more. -/
theorem one_more {s q : List UInt8} (hl : q.length = s.length + 1) (ht : q.take s.length = s) : q = s ++ [q[s.length]'(by omega)] := by
  have := List.take_append_drop s.length q
  rw [ht, List.drop_eq_getElem_cons (by omega), List.drop_eq_nil_of_le (by omega)] at this
  exact this.symm

set_option maxRecDepth 100000 in
set_option maxHeartbeats 4000000 in
theorem rbytes_any (a : Option Addr) (len cap : Nat) (S : List (List UInt8)) (k : Nat) (s : List UInt8) (w : World) (hlen : len ≤ 100000000) (hr : IsStrs w a len S) (hs : S[k]? = some s) (hl : ∀ t ∈ S, t.length ≤ 100000000) :
    Calls Try.prog 20 #[.slice a len cap, .int .i64 (k : Int)] w fun e w' => e = .returned (.string ⟨(upB S s).toArray⟩) ∧ Below w.heap.size w w' := by
  have hwl := hr.1
  obtain ⟨i0, hi, hz0, hz1, hz2⟩ := info_parts trbyte_info
  have HI := Lib.hid hr
  have HT := Lib.hid hl
  have hk := (List.getElem?_eq_some_iff.1 hs).1
  have HK := Lib.hid hs
  have hsl := hl s (List.mem_of_getElem? hs)
  clear hr hl hs
  go_enter Try.func20, Try.ntmps20
  go_wp2
  go_loopw [5, 6] (fun v x wr => ∃ j : Nat, j ≤ len ∧ x = .int .i64 j ∧ Hid (wr.ownsRow w.heap.size 5 1 v (upB (S.take j) s).length (Lib.byteCells (upB (S.take j) s))) ∧ Below w.heap.size w wr) (fun _ x _ => len - (RowKit.intOf x).toNat)
  case atStart =>
    exact ⟨0, Nat.zero_le _, rfl, Lib.hid ⟨rfl, .inr ⟨w.heap.size, 0, #[], rfl, Nat.le_refl _, heap_alloc_new w _, Nat.le_refl _, by decide, rfl, rfl⟩⟩, (Below.refl _ _).alloc (Nat.le_refl _) _⟩
  case round =>
    obtain ⟨j, hj, rfl, HO, hbe⟩ := hrel
    have hsz := hbe.size
    have hul := up_length S s j
    obtain ⟨ao, co, rfl⟩ := owns_slice HO.out
    by_cases hlt : j < len
    · obtain ⟨b, off, rfl, t, hf, hc⟩ := str_at HI.out hbe j hlt
      obtain ⟨b', off', he', s', hf', hc'⟩ := str_at HI.out hbe k (by omega)
      cases he'
      obtain rfl : s' = s := Option.some.inj (hf'.symm.trans HK.out)
      have HS := Lib.hid (bsize t)
      have S2 := Lib.hid (bsize s')
      have htl := HT.out t (List.mem_of_getElem? hf)
      have hx := ext_cut t 0 s'.length
      rw [List.drop_zero] at hx
      have q1 : (0 : Int) ≤ (j : Int) := by omega
      have q2 : (j : Int) < (len : Int) := by omega
      have q3 : (0 : Int) ≤ (k : Int) := by omega
      have q4 : (k : Int) < (len : Int) := by omega
      have q5 : IntKind.i64.wrap ((s'.length : Int) + 1) = (s'.length : Int) + 1 := by rw [IntKind.wrap_i64]; omega
      by_cases hlong : t.length = s'.length + 1
      · have q6 : (t.length : Int) = (s'.length : Int) + 1 := by omega
        by_cases heq : t.take s'.length = s'
        · have ht2 := one_more hlong heq
          generalize hc0 : t[s'.length]'(by omega) = c at ht2
          have HU : Hid (upB (S.take (j + 1)) s' = upB (S.take j) s' ++ [c]) := Lib.hid (up_hit (by rw [← ht2]; exact hf))
          have hzt : s'.length < (⟨t.toArray⟩ : ByteArray).size := by rw [bsize]; omega
          have HB := byteAt t s'.length (by omega) hzt
          rw [hc0] at HB
          have q7 : (s'.length : Int) < (t.length : Int) := by omega
          have q8 : (s'.length : Int) ≤ (t.length : Int) := by omega
          have q9 : (0 : Int) ≤ (s'.length : Int) := by omega
          have hown := HO.out
          obtain ⟨D, hD⟩ : ∃ D, upB (S.take j) s' = D := ⟨_, rfl⟩
          rw [hD] at hown hul HU ⊢
          have hc2 : ∀ q, (wr.drewN q).cell? ⟨b, off + j, none⟩ = some (.string ⟨t.toArray⟩) := fun q => hc
          rw [heq] at hx
          clear hf hf' hc0 ht2 HO hD
          go_wp2_with fail
          go_quiet (fail)
          go_wp2_with (at_builtin; refine wpList_append_own _ rfl _ _ 38 rfl w.heap.size 5 i0 (.int .u8 0) 1 1 Try.underlying38 hi hz0 hz1 hz2 rfl (by decide) _ _ _ rfl (World.ownsRow.alloc (w := wr.drewN nq) hown _) ⟨wr.heap.size, 0, none⟩ 1 1 [.int .u8 (c.toNat : Int)] rfl rfl (one_news (heap_alloc_new (wr.drewN nq) _)) trbyte_one (by unfold maxLen; omega) (by omega) (by simp; omega) ?_)
          intro v' w4 hown4 hgrow4 _
          have B4 : Below w.heap.size w w4 := ((below_drewS hbe nq).alloc (by show _ ≤ wr.heap.size; exact hsz) _).grown hgrow4 (by simp; omega) (fun i hi => (hown.lt i hi).1)
          obtain ⟨a4, c4, rfl⟩ := owns_slice hown4
          have e1 : (D ++ [c]).length = D.length + 1 := by simp
          have HO4 : Hid (w4.ownsRow w.heap.size 5 1 (.slice a4 (D.length + 1) c4) (upB (S.take (j + 1)) s').length (Lib.byteCells (upB (S.take (j + 1)) s'))) := Lib.hid (by
            rw [HU.out, e1, trcells_snoc]; exact hown4)
          clear hown hown4 hgrow4 e1 HB hx
          go_wp2
          exact ⟨⟨j + 1, by omega, by go_num, HO4, B4⟩, by simp [RowKit.intOf]; omega⟩
        · have HU : Hid (upB (S.take (j + 1)) s' = upB (S.take j) s') := Lib.hid (up_miss hf fun c e => heq (by rw [e]; simp))
          have hq : (t.take s'.length == s') = false := by rw [beq_eq_false_iff_ne]; exact heq
          have q8 : (s'.length : Int) ≤ (t.length : Int) := by omega
          have q9 : (0 : Int) ≤ (s'.length : Int) := by omega
          clear hf hf'
          go_wp2_with fail
          go_quiet (fail)
          go_wp2
          exact ⟨⟨j + 1, by omega, by go_num, by rw [HU.out]; exact Lib.hid (HO.out : _), below_drewS hbe nq⟩, by simp [RowKit.intOf]; omega⟩
      · have HU : Hid (upB (S.take (j + 1)) s' = upB (S.take j) s') := Lib.hid (up_miss hf fun c e => hlong (by rw [e]; simp))
        have q6 : ¬ (t.length : Int) = (s'.length : Int) + 1 := by omega
        have q7 : ((t.length : Int) == (s'.length : Int) + 1) = false := by rw [beq_eq_false_iff_ne]; exact q6
        clear hf hf'
        go_wp2_with fail
        go_quiet (fail)
        go_wp2
        exact ⟨⟨j + 1, by omega, by go_num, by rw [HU.out]; exact Lib.hid (HO.out : _), below_drewS hbe nq⟩, by simp [RowKit.intOf]; omega⟩
    · obtain rfl : j = len := by omega
      have q2 : ¬ (j : Int) < (j : Int) := by omega
      have HE : Hid (upB (S.take j) s = upB S s) := Lib.hid (by rw [List.take_of_length_le (by omega)])
      generalize upB (S.take j) s = D at *
      have hct := trown_text HO.out
      clear HO
      go_wp2
      go_ret
      exact ⟨by rw [← HE.out]; rfl, hbe⟩
end Go.Proofs.Ytigdlkoilamomaa
