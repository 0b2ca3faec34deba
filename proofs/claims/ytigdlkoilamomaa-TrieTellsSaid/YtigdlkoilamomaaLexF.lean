/-
  A region that may be walked in the text's order: a cheaper test. No program here.
-/
import Derived.Lib.QuietBelow
import Derived.Still
import Derived.Orders
set_option linter.unusedSimpArgs false
set_option linter.unusedVariables false
namespace Go.Proofs.Ytigdlkoilamomaa
open Go.RowKit Go.Sort

/-- Each operation waits for those ahead alone, and those behind wait for it or lie apart. -/
def lexL (md : Region.Mode) (ops : Array Oper) : List Oper → Nat → Bool
  | [], _ => true
  | o :: rest, k => (o.after.toList.all (fun e => !Region.binds md e || Nat.blt e.on k) && rest.all (fun p => p.after.toList.any (fun e => Region.binds md e && Nat.beq e.on k) || o.apart ops p)) && lexL md ops rest (k + 1)

theorem lex_from (md : Region.Mode) (l : List Oper) : ∀ (rest : List Oper) (k : Nat) (listed : Array Bool), l.drop k = rest → k + rest.length = l.length → listed.size = l.length → (∀ j, j < l.length → listed.getD j true = decide (j < k)) →
    lexL md l.toArray rest k = true → Region.lexFrom md l.toArray rest.length k listed = true
  | [], k, listed, hd, hk, hsz, hl, h => by
    rw [List.length_nil, Region.lexFrom, List.isEmpty_iff, List.eq_nil_iff_forall_not_mem]
    intro j hj
    obtain ⟨h1, o, ho, _⟩ := mem_ready.1 hj
    have hlt : j < l.length := by have := (Array.getElem?_eq_some_iff.1 ho).1; simpa using this
    rw [hl j hlt, decide_eq_false_iff_not] at h1
    simp at hk
    omega
  | o :: rest, k, listed, hd, hk, hsz, hl, h => by
    rw [lexL, Bool.and_eq_true, Bool.and_eq_true, List.all_eq_true, List.all_eq_true] at h
    obtain ⟨⟨h1, h2⟩, h3⟩ := h
    have hkl : k < l.length := by simp at hk; omega
    have hok : l[k]? = some o := by
      have := congrArg (fun x => x[0]?) hd
      simpa [List.getElem?_drop] using this
    have hrest : l.drop (k + 1) = rest := by rw [← List.drop_drop, hd]; rfl
    have hset : ∀ j, j < l.length → (listed.setIfInBounds k true).getD j true = decide (j < k + 1) := fun j hj => by
      have hj0 := hl j hj
      simp only [Array.getD_eq_getD_getElem?, Array.getElem?_setIfInBounds] at hj0 ⊢
      by_cases e : k = j
      · subst e
        rw [if_pos rfl, if_pos (by omega)]
        simp
      · rw [if_neg e, hj0]
        congr 1
        rw [eq_iff_iff]; omega
    have ih := lex_from md l rest (k + 1) (listed.setIfInBounds k true) hrest (by simp at hk; omega) (by simpa using hsz) hset h3
    rw [List.length_cons, Region.lexFrom, Bool.and_eq_true, Bool.and_eq_true]
    refine ⟨⟨?_, ?_⟩, ih⟩
    · rw [List.contains_iff_mem, mem_ready]
      refine ⟨by rw [hl k hkl]; simp, o, by simpa using hok, fun e he hb => ?_⟩
      have := h1 e (by simpa using he)
      rw [hb] at this
      have hon : e.on < k := by simpa using this
      have h4 := hl e.on (by omega)
      rw [decide_eq_true hon] at h4
      have h5 : e.on < listed.size := by omega
      simpa [Array.getD_eq_getD_getElem?, Array.getElem?_eq_getElem h5] using h4
    · have hok2 : l.toArray[k]? = some o := by simpa using hok
      unfold Region.free
      rw [hok2]
      simp only [List.all_eq_true, List.mem_range]
      intro j hj
      have hjl : j < l.length := by simpa using hj
      rcases Nat.lt_trichotomy j k with hlt | he | hgt
      · rw [hl j hjl, decide_eq_true hlt]; simp
      · subst he; simp
      · have hjo : l.toArray[j]? = some l[j] := by simp [List.getElem?_eq_getElem hjl]
        rw [hjo]
        have hm : l[j] ∈ rest := by
          rw [← hrest]
          refine List.mem_of_getElem? (i := j - (k + 1)) ?_
          rw [List.getElem?_drop, show k + 1 + (j - (k + 1)) = j by omega]
          exact List.getElem?_eq_getElem hjl
        have h4 := h2 _ hm
        simp only [Bool.or_eq_true] at h4 ⊢
        refine .inr ?_
        rcases h4 with h4 | h4
        · refine .inl ?_
          rw [Array.any_eq_true']
          rw [List.any_eq_true] at h4
          obtain ⟨e, he, hb⟩ := h4
          refine ⟨e, by simpa using he, ?_⟩
          simpa using hb
        · exact .inr h4

theorem lex_fast {md : Region.Mode} {l : List Oper} (hs : Region.noSelect l.toArray = true) (h : lexL md l.toArray l 0 = true) : Region.lexB md l.toArray = true := by
  unfold Region.lexB
  rw [hs, Bool.true_and]
  have := lex_from md l l 0 (Array.replicate l.length false) rfl (by simp) (by simp) (fun j hj => by simp [Array.getD_eq_getD_getElem?, hj]) h
  simpa using this
theorem wp_region_quiet_fast {P : Program} {id : Nat} {Q : Exit → Act → World → Prop} {a : Act} {w : World} {l : List Oper} (hm : P.follows .mixedOrders = true) (hs : Region.noSelect l.toArray = true) (hB : lexL .any l.toArray l 0 = true)
    (h : wpQuiet P l.toArray (fun w' => ∃ p : Regrown, w' = grow (redrawn w p.d) p.os) (fun a' => ∀ w', (∃ p : Regrown, w' = grow (redrawn w p.d) p.os) → Q .normal a' w') l a) : (Code.region id l.toArray true).wp P Q a w :=
  wp_region_quiet_below hm (lex_fast hs hB) h
end Go.Proofs.Ytigdlkoilamomaa
