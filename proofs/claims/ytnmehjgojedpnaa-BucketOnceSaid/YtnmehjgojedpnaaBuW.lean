/-
  Buckets in memory that the call itself has made; add: walked.
-/
import Derived.Test.YtnmehjgojedpnaaBuM
import Derived.Test.YtnmehjgojedpnaaInts
import Derived.Test.YtnmehjgojedpnaaBut
import Derived.Test.YtnmehjgojedpnaaOwnTo
set_option linter.unusedSimpArgs false
set_option linter.unusedVariables false
namespace Go.Proofs.Ytnmehjgojedpnaa
open Go.RowKit

/-- Buckets in block b: of each byte a slice of numbers of their own, and a number; no two slices lie in one block. -/
def IsBks (w : World) (base b : Nat) (I : Nat → List Int) (L : Nat → Nat) : Prop :=
  b < base ∧ base ≤ w.heap.size ∧ ∃ (cs : Array Value) (v : Nat → Value), w.heap[b]? = some (.cells cs 59 (0, 0)) ∧
    (∀ c, c < 256 → cs[c * 2]? = some (v c) ∧ cs[c * 2 + 1]? = some (.int .i64 (L c : Int)) ∧ w.ownsRow base 3 1 (v c) (I c).length (inCells (I c))) ∧
    (∀ c d, c < 256 → d < 256 → c ≠ d → ∀ g, (v c).ownBlock = some g → (v d).ownBlock ≠ some g)

theorem IsBks.lt {w : World} {base b : Nat} {I : Nat → List Int} {L : Nat → Nat} (h : IsBks w base b I L) : b < w.heap.size := by
  have h1 := h.1
  have h2 := h.2.1
  omega
theorem IsBks.below {w w' : World} {base b : Nat} {I : Nat → List Int} {L : Nat → Nat} (h : IsBks w base b I L) (hb : Below w.heap.size w w') : IsBks w' base b I L := by
  have hlt := h.lt
  obtain ⟨h1, h2, cs, v, h3, h4, h5⟩ := h
  refine ⟨h1, Nat.le_trans h2 hb.size, cs, v, (hb.block b hlt).trans h3, fun c hc => ?_, h5⟩
  obtain ⟨a1, a2, a3⟩ := h4 c hc
  exact ⟨a1, a2, tx_below a3 hb⟩
theorem IsBks.drewN {w : World} {base b : Nat} {I : Nat → List Int} {L : Nat → Nat} (h : IsBks w base b I L) (n : Nat) : IsBks (w.drewN n) base b I L := h

/-- One byte's bucket is stored anew. -/
theorem bks_put {w w2 : World} {base b c : Nat} {I : Nat → List Int} {L : Nat → Nat} {l : List Int} {m : Nat} {cs : Array Value} {v : Nat → Value} {v' : Value} (hb : b < base) (hB : base ≤ w.heap.size) (hs : w.heap.size ≤ w2.heap.size)
    (h4 : ∀ d, d < 256 → cs[d * 2]? = some (v d) ∧ cs[d * 2 + 1]? = some (.int .i64 (L d : Int)) ∧ w.ownsRow base 3 1 (v d) (I d).length (inCells (I d)))
    (h5 : ∀ c d, c < 256 → d < 256 → c ≠ d → ∀ g, (v c).ownBlock = some g → (v d).ownBlock ≠ some g)
    (hc : c < 256) (hkeep : ∀ d, d < 256 → d ≠ c → ∀ g, g < w.heap.size → (v d).ownBlock = some g → w2.heap[g]? = w.heap[g]?)
    (hv : v'.ownBlock = (v c).ownBlock ∨ ∃ g, v'.ownBlock = some g ∧ w.heap.size ≤ g)
    (hown : w2.ownsRow base 3 1 v' l.length (inCells l))
    (hh : w2.heap[b]? = some (.cells ((cs.setIfInBounds (c * 2 + 1) (.int .i64 (m : Int))).setIfInBounds (c * 2) v') 59 (0, 0))) :
    IsBks w2 base b (fun d => if d = c then l else I d) (fun d => if d = c then m else L d) := by
  have hnew : ∀ d, d < 256 → d ≠ c → ∀ g, (v d).ownBlock = some g → v'.ownBlock ≠ some g := by
    intro d hd hdc g hg
    have hlt := ((h4 d hd).2.2.lt g hg).2
    rcases hv with hv | ⟨g', hv, hg'⟩
    · rw [hv]; exact h5 d c hd hc hdc g hg
    · rw [hv]; intro e; cases e; omega
  refine ⟨hb, Nat.le_trans hB hs, _, fun d => if d = c then v' else v d, hh, fun d hd => ?_, fun d e hd he hde g => ?_⟩
  · obtain ⟨a1, a2, a3⟩ := h4 d hd
    have b1 := (Array.getElem?_eq_some_iff.1 a1).1
    have b2 := (Array.getElem?_eq_some_iff.1 a2).1
    by_cases hdc : d = c
    · subst hdc
      refine ⟨?_, ?_, ?_⟩
      · simp only [↓reduceIte]
        rw [Array.getElem?_setIfInBounds_self_of_lt (by simpa using b1)]
      · simp only [↓reduceIte]
        rw [Array.getElem?_setIfInBounds_ne (by omega), Array.getElem?_setIfInBounds_self_of_lt b2]
      · simp only [↓reduceIte]; exact hown
    · refine ⟨?_, ?_, ?_⟩
      · simp only [if_neg hdc]
        rw [Array.getElem?_setIfInBounds_ne (by omega), Array.getElem?_setIfInBounds_ne (by omega)]
        exact a1
      · simp only [if_neg hdc]
        rw [Array.getElem?_setIfInBounds_ne (by omega), Array.getElem?_setIfInBounds_ne (by omega)]
        exact a2
      · simp only [if_neg hdc]
        obtain ⟨hl, hx⟩ := a3
        refine ⟨hl, ?_⟩
        rcases hx with hx | ⟨g, cap, cur, hv', hg, hgg, r⟩
        · exact .inl hx
        · exact .inr ⟨g, cap, cur, hv', hg, (hkeep d hd hdc g (heap_lt hgg) (by rw [hv']; rfl)).trans hgg, r⟩
  · by_cases hdc : d = c
    · subst hdc
      simp only [↓reduceIte, if_neg (Ne.symm hde)]
      intro hg h2
      exact hnew e he (Ne.symm hde) g h2 hg
    · by_cases hec : e = c
      · subst hec
        simp only [↓reduceIte, if_neg hdc]
        exact hnew d hd hdc g
      · simp only [if_neg hdc, if_neg hec]
        exact h5 d e hd he hde g

/-- Behind the append and the store of its outcome. -/
theorem bks_tail {w W1 w3 : World} {base b c n id m cap : Nat} {a : Option Addr} {x : Value} {I : Nat → List Int} {L : Nat → Nat} {cs : Array Value} {v : Nat → Value} {v' : Value} (hb : b < base) (hB : base ≤ w.heap.size)
    (hh : w.heap[b]? = some (.cells cs 59 (0, 0)))
    (h4 : ∀ d, d < 256 → cs[d * 2]? = some (v d) ∧ cs[d * 2 + 1]? = some (.int .i64 (L d : Int)) ∧ w.ownsRow base 3 1 (v d) (I d).length (inCells (I d)))
    (h5 : ∀ c d, c < 256 → d < 256 → c ≠ d → ∀ g, (v c).ownBlock = some g → (v d).ownBlock ≠ some g)
    (hc : c < 256) (hv : v c = .slice a n cap) (hn : (I c).length = n) (hW : Into b w W1) (hWh : W1.heap[b]? = some (.cells (cs.setIfInBounds (c * 2 + 1) (.int .i64 (m : Int))) 59 (0, 0)))
    (hown : w3.ownsRow base 3 1 v' (n + 1) (inCells (I c) ++ [.int .i64 (id : Int)])) (hgrow : (W1.alloc (.cells #[x] 3)).grownBy w3 (Value.slice a n cap).ownBlock)
    (hto : v'.ownBlock = (Value.slice a n cap).ownBlock ∨ v'.ownBlock = some (w.heap.size + 1)) :
    w3.heap[b]? = some (.cells (cs.setIfInBounds (c * 2 + 1) (.int .i64 (m : Int))) 59 (0, 0)) ∧
      IsBks (w3.setCell ⟨b, c * 2, none⟩ v') base b (fun d => if d = c then I c ++ [(id : Int)] else I d) (fun d => if d = c then m else L d) ∧ But base b w (w3.setCell ⟨b, c * 2, none⟩ v') := by
  have hlt : b < w.heap.size := heap_lt hh
  have hsz := hW.size
  have hsa : (W1.alloc (.cells #[x] 3)).heap.size = w.heap.size + 1 := by simp [hsz]
  have hge := hgrow.size
  rw [hsa] at hge
  have hrow : ∀ k, some k = (Value.slice a n cap).ownBlock → base ≤ k ∧ k < w.heap.size := fun k hk => (h4 c hc).2.2.lt k (by rw [hv]; exact hk.symm)
  have hold : ∀ k, k < w.heap.size → k ≠ b → some k ≠ (Value.slice a n cap).ownBlock → w3.heap[k]? = w.heap[k]? := by
    intro k hk hkb hne
    rw [hgrow.block k (by omega) hne, Lib.alloc_old _ _ k (by omega), hW.block k hkb]
  have hh3 : w3.heap[b]? = some (.cells (cs.setIfInBounds (c * 2 + 1) (.int .i64 (m : Int))) 59 (0, 0)) := by
    rw [hgrow.block b (by omega) (fun e => by have := (hrow b e).1; omega), Lib.alloc_old _ _ b (by omega)]
    exact hWh
  have hown2 : (w3.setCell ⟨b, c * 2, none⟩ v').ownsRow base 3 1 v' (I c ++ [(id : Int)]).length (inCells (I c ++ [(id : Int)])) := by
    rw [inCells_snoc, List.length_append, hn]
    exact ((Into.refl b w3).set _ _).owns hb hown
  have hs3 : (w3.setCell ⟨b, c * 2, none⟩ v').heap.size = w3.heap.size := by simp [World.setCell]
  refine ⟨hh3, bks_put hb hB (by rw [hs3]; omega) h4 h5 hc (fun d hd hdc g hg hvg => ?_) ?_ hown2 (put_heap hh3 _), ⟨hgrow.os.trans hW.os, hgrow.tape.trans hW.tape, hgrow.output.trans hW.output, by rw [hs3]; omega, fun k hk hkb => ?_⟩⟩
  · have hgb : g ≠ b := fun e => by have := ((h4 d hd).2.2.lt g hvg).1; omega
    rw [put_other hgb]
    exact hold g hg hgb (fun e => h5 d c hd hc hdc g hvg (by rw [hv]; exact e.symm))
  · rcases hto with h | h
    · exact .inl (by rw [h, hv])
    · exact .inr ⟨_, h, by omega⟩
  · rw [put_other hkb]
    exact hold k (by omega) hkb (fun e => by have := (hrow k e).1; omega)

set_option maxHeartbeats 2000000 in
theorem buadd_any (base b c : Nat) (I : Nat → List Int) (L : Nat → Nat) (id len : Nat) (w : World) (h : IsBks w base b I L) (hc : c < 256) (hid : id ≤ 1000000) (hlen : len ≤ 1000000) (hn : (I c).length ≤ 1000000) :
    Calls Try.prog 25 #[.pointer (some ⟨b, c * 2, none⟩), .int .i64 (id : Int), .int .i64 (len : Int)] w fun e w' => e = .returned (.tuple #[]) ∧
      IsBks w' base b (fun d => if d = c then I c ++ [(id : Int)] else I d) (fun d => if d = c then (if (I c).length = 0 ∨ len < L c then len else L c) else L d) ∧ But base b w w' := by
  obtain ⟨hb, hB, cs, v, hh, h4, h5⟩ := h
  obtain ⟨a1, a2, hown⟩ := h4 c hc
  obtain ⟨a, cap, hv⟩ := owns_slice hown
  have b1 := (Array.getElem?_eq_some_iff.1 a1).1
  have b2 := (Array.getElem?_eq_some_iff.1 a2).1
  obtain ⟨i0, hi, hz0, hz1, hz2⟩ := info_parts int_info
  have H4 := Lib.hid h4
  have H5 := Lib.hid h5
  rw [hv] at hown a1
  obtain ⟨n, hnn⟩ : ∃ n, (I c).length = n := ⟨_, rfl⟩
  rw [hnn] at hown a1 hn hv ⊢
  have HV := Lib.hid hv
  obtain ⟨M, hM⟩ : ∃ M, L c = M := ⟨_, rfl⟩
  rw [hM] at a2 ⊢
  have c0 : w.cell? ⟨b, c * 2, none⟩ = some (.slice a n cap) := by rw [Lib.cell_of_heap hh]; exact a1
  have c1 : w.cell? ⟨b, c * 2 + 1, none⟩ = some (.int .i64 (M : Int)) := by rw [Lib.cell_of_heap hh]; exact a2
  have f1 : w.frozen? ⟨b, c * 2 + 1, none⟩ = false := Lib.frozen_of_heap hh _
  have HN := Lib.hid hnn
  have A1 := Lib.hid a1
  have A2 := Lib.hid a2
  clear h4 h5 hv a1 a2 hnn hM
  obtain ⟨mm, hmm⟩ : ∃ mm, (if n = 0 ∨ len < M then len else M) = mm := ⟨_, rfl⟩
  rw [hmm]
  have HM := Lib.hid hmm
  clear hmm
  have hsame : cs.setIfInBounds (c * 2 + 1) (.int .i64 (M : Int)) = cs := by
    refine Array.ext (by simp) fun i h1 h2 => ?_
    rw [Array.getElem_setIfInBounds]
    split
    · rename_i h
      subst h
      exact (Option.some.inj ((Array.getElem?_eq_getElem h2).symm.trans A2.out)).symm
    · rfl
  have hown1 : (w.setCell ⟨b, c * 2 + 1, none⟩ (.int .i64 (len : Int))).ownsRow base 3 1 (.slice a n cap) n (inCells (I c)) := ((Into.refl b w).set _ _).owns hb hown
  by_cases h0 : n = 0
  · have h00 : ((n : Int) == 0) = true := by simp [h0]
    have H0 := Lib.hid h0
    clear h0
    go_enter Try.func25, Try.ntmps25
    go_wp2_with (at_builtin; refine wpList_append_to _ rfl _ _ 34 rfl base 3 i0 (.int .i64 0) 1 8 Try.underlying34 hi hz0 hz1 hz2 rfl (by decide) _ _ _ rfl (hown1.alloc _) ⟨w.heap.size, 0, none⟩ 1 1 [.int .i64 (id : Int)] rfl rfl (int_news (by rw [show w.heap.size = (w.setCell ⟨b, c * 2 + 1, none⟩ (.int .i64 (len : Int))).heap.size by simp [World.setCell]]; exact heap_alloc_new _ _)) int_one (by unfold maxLen; omega) (by omega) (by simp [World.setCell]; omega) (by omega) ?_)
    intro v' w3 hown3 hgrow hto
    obtain ⟨a3, cap3, rfl⟩ := owns_slice hown3
    obtain ⟨hh3, hfin⟩ := bks_tail (n := n) (id := id) (m := len) hb hB hh H4.out H5.out hc HV.out HN.out ((Into.refl b w).set _ _) (put_heap hh _) hown3 hgrow hto
    have c0 : w3.cell? ⟨b, c * 2, none⟩ = some (.slice a n cap) := by rw [Lib.cell_of_heap hh3, Array.getElem?_setIfInBounds_ne (by omega)]; exact A1.out
    have f0 : w3.frozen? ⟨b, c * 2, none⟩ = false := Lib.frozen_of_heap hh3 _
    have HF := Lib.hid hfin
    clear hfin hown3 hgrow hto hh3 hown1
    go_wp2
    go_end0
    exact ⟨rfl, by rw [← HM.out, if_pos (.inl H0.out)]; exact HF.out⟩
  · have h00 : ((n : Int) == 0) = false := by simp [h0]
    by_cases h1 : len < M
    · have h11 : (len : Int) < (M : Int) := by omega
      go_enter Try.func25, Try.ntmps25
      go_wp2_with (at_builtin; refine wpList_append_to _ rfl _ _ 34 rfl base 3 i0 (.int .i64 0) 1 8 Try.underlying34 hi hz0 hz1 hz2 rfl (by decide) _ _ _ rfl (hown1.alloc _) ⟨w.heap.size, 0, none⟩ 1 1 [.int .i64 (id : Int)] rfl rfl (int_news (by rw [show w.heap.size = (w.setCell ⟨b, c * 2 + 1, none⟩ (.int .i64 (len : Int))).heap.size by simp [World.setCell]]; exact heap_alloc_new _ _)) int_one (by unfold maxLen; omega) (by omega) (by simp [World.setCell]; omega) (by omega) ?_)
      intro v' w3 hown3 hgrow hto
      obtain ⟨a3, cap3, rfl⟩ := owns_slice hown3
      obtain ⟨hh3, hfin⟩ := bks_tail (n := n) (id := id) (m := len) hb hB hh H4.out H5.out hc HV.out HN.out ((Into.refl b w).set _ _) (put_heap hh _) hown3 hgrow hto
      have c0 : w3.cell? ⟨b, c * 2, none⟩ = some (.slice a n cap) := by rw [Lib.cell_of_heap hh3, Array.getElem?_setIfInBounds_ne (by omega)]; exact A1.out
      have f0 : w3.frozen? ⟨b, c * 2, none⟩ = false := Lib.frozen_of_heap hh3 _
      have HF := Lib.hid hfin
      clear hfin hown3 hgrow hto hh3 hown1
      go_wp2
      go_end0
      exact ⟨rfl, by rw [← HM.out, if_pos (.inr h1)]; exact HF.out⟩
    · have h11 : ¬ (len : Int) < (M : Int) := by omega
      clear hown1
      have hown1 := hown
      go_enter Try.func25, Try.ntmps25
      go_wp2_with (at_builtin; refine wpList_append_to _ rfl _ _ 34 rfl base 3 i0 (.int .i64 0) 1 8 Try.underlying34 hi hz0 hz1 hz2 rfl (by decide) _ _ _ rfl (hown1.alloc _) ⟨w.heap.size, 0, none⟩ 1 1 [.int .i64 (id : Int)] rfl rfl (int_news (by rw [show w.heap.size = w.heap.size from rfl]; exact heap_alloc_new _ _)) int_one (by unfold maxLen; omega) (by omega) (by simp [World.setCell]; omega) (by omega) ?_)
      intro v' w3 hown3 hgrow hto
      obtain ⟨a3, cap3, rfl⟩ := owns_slice hown3
      obtain ⟨hh3, hfin⟩ := bks_tail (n := n) (id := id) (m := M) hb hB hh H4.out H5.out hc HV.out HN.out (Into.refl b w) (by rw [hsame]; exact hh) hown3 hgrow hto
      have c0 : w3.cell? ⟨b, c * 2, none⟩ = some (.slice a n cap) := by rw [Lib.cell_of_heap hh3, Array.getElem?_setIfInBounds_ne (by omega)]; exact A1.out
      have f0 : w3.frozen? ⟨b, c * 2, none⟩ = false := Lib.frozen_of_heap hh3 _
      have HF := Lib.hid hfin
      clear hfin hown3 hgrow hto hh3 hown1
      go_wp2
      go_end0
      exact ⟨rfl, by rw [← HM.out, if_neg (fun h => h.elim h0 h1)]; exact HF.out⟩
end Go.Proofs.Ytnmehjgojedpnaa
