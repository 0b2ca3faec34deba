/-
  A table of shifts in memory: First, Least, Foreign, lower: walked.
-/
import Derived.Test.YtfafbjooehachaaShM
import Derived.Test.YtfafbjooehachaaBut
import Derived.Test.YtfafbjooehachaaStr
import Derived.Lib.MinMax
import Derived.Lib.Hide
set_option linter.unusedSimpArgs false
set_option linter.unusedVariables false
namespace Go.Proofs.Ytfafbjooehachaa
open Go.RowKit

/-- The cells of a table: each byte's number, and one more. -/
def TabAt (cs : Array Value) (F : Nat → Nat) (m : Nat) : Prop := (∀ c, c < 256 → cs[c]? = some (.int .i64 (F c : Int))) ∧ cs[256]? = some (.int .i64 (m : Int))
/-- A table in block b. -/
def IsTab (w : World) (b : Nat) (F : Nat → Nat) (m : Nat) : Prop := ∃ cs : Array Value, w.heap[b]? = some (.cells cs 53 (0, 0)) ∧ TabAt cs F m
theorem IsTab.lt {w : World} {b : Nat} {F : Nat → Nat} {m : Nat} (h : IsTab w b F m) : b < w.heap.size := by
  obtain ⟨cs, h, _⟩ := h
  exact heap_lt h
theorem IsTab.below {w w' : World} {b : Nat} {F : Nat → Nat} {m : Nat} (h : IsTab w b F m) (hb : Below w.heap.size w w') : IsTab w' b F m := by
  have hlt := h.lt
  obtain ⟨cs, h1, h2⟩ := h
  exact ⟨cs, (hb.block b hlt).trans h1, h2⟩
theorem IsTab.heap {w W : World} {b : Nat} {F : Nat → Nat} {m : Nat} (h : IsTab w b F m) (e : W.heap = w.heap) : IsTab W b F m := by
  unfold IsTab at *
  rw [e]
  exact h
theorem IsTab.congr {w : World} {b : Nat} {F G : Nat → Nat} {m : Nat} (h : IsTab w b F m) (e : ∀ c, c < 256 → F c = G c) : IsTab w b G m := by
  obtain ⟨cs, h1, h2, h3⟩ := h
  exact ⟨cs, h1, fun c hc => by rw [← e c hc]; exact h2 c hc, h3⟩
theorem IsTab.put {w : World} {b c n : Nat} {F : Nat → Nat} {m : Nat} (h : IsTab w b F m) (hc : c < 256) : IsTab (w.setCell ⟨b, c, none⟩ (.int .i64 (n : Int))) b (fun d => if d = c then n else F d) m := by
  obtain ⟨cs, h1, h2, h3⟩ := h
  refine ⟨_, put_heap h1 _, fun d hd => ?_, ?_⟩
  · have hl := (Array.getElem?_eq_some_iff.1 (h2 d hd)).1
    by_cases e : d = c
    · subst e
      simp only [↓reduceIte]
      rw [Array.getElem?_setIfInBounds_self_of_lt hl]
    · simp only [if_neg e]
      rw [Array.getElem?_setIfInBounds_ne (by omega)]
      exact h2 d hd
  · rw [Array.getElem?_setIfInBounds_ne (by omega)]
    exact h3
theorem IsTab.cell {w : World} {b c : Nat} {F : Nat → Nat} {m : Nat} (h : IsTab w b F m) (hc : c < 256) : w.cell? ⟨b, c, none⟩ = some (.int .i64 (F c : Int)) := by
  obtain ⟨cs, h1, h2, _⟩ := h
  rw [Lib.cell_of_heap h1]
  exact h2 c hc
theorem IsTab.last {w : World} {b : Nat} {F : Nat → Nat} {m : Nat} (h : IsTab w b F m) : w.cell? ⟨b, 256, none⟩ = some (.int .i64 (m : Int)) := by
  obtain ⟨cs, h1, _, h3⟩ := h
  rw [Lib.cell_of_heap h1]
  exact h3
theorem IsTab.free {w : World} {b i : Nat} {F : Nat → Nat} {m : Nat} (h : IsTab w b F m) : w.frozen? ⟨b, i, none⟩ = false := by
  obtain ⟨cs, h1, _⟩ := h
  exact Lib.frozen_of_heap h1 _

/-- A table behind a pointer, or none: then all shifts are 0. -/
def HasTab (w : World) (p : Option Addr) (F : Nat → Nat) (m : Nat) : Prop := (p = none ∧ (∀ c, F c = 0) ∧ m = 0) ∨ ∃ b, p = some ⟨b, 0, none⟩ ∧ IsTab w b F m
theorem HasTab.below {w w' : World} {p : Option Addr} {F : Nat → Nat} {m : Nat} (h : HasTab w p F m) (hb : Below w.heap.size w w') : HasTab w' p F m :=
  h.elim .inl (fun ⟨b, h1, h2⟩ => .inr ⟨b, h1, h2.below hb⟩)
theorem HasTab.heap {w W : World} {p : Option Addr} {F : Nat → Nat} {m : Nat} (h : HasTab w p F m) (e : W.heap = w.heap) : HasTab W p F m :=
  h.elim .inl (fun ⟨b, h1, h2⟩ => .inr ⟨b, h1, h2.heap e⟩)

theorem shfirst_any {w : World} {p : Option Addr} {F : Nat → Nat} {m : Nat} (h : HasTab w p F m) (c : Nat) (hc : c < 256) :
    Calls Try.prog 13 #[.pointer p, .int .u8 (c : Int)] w fun e w' => e = .returned (.int .i64 (F c : Int)) ∧ w' = w := by
  rcases h with ⟨rfl, h, _⟩ | ⟨b, rfl, h⟩
  · rw [h c]
    clear h
    go_enter Try.func13, Try.ntmps13
    go_wp2
    go_ret
    exact ⟨rfl, rfl⟩
  · have c0 := h.cell hc
    clear h
    have g0 : (0 : Int) ≤ (c : Int) := by omega
    have g1 : (c : Int) < 256 := by omega
    go_enter Try.func13, Try.ntmps13
    go_wp2
    go_ret
    exact ⟨rfl, rfl⟩
theorem shleast_any {w : World} {p : Option Addr} {F : Nat → Nat} {m : Nat} (h : HasTab w p F m) :
    Calls Try.prog 14 #[.pointer p] w fun e w' => e = .returned (.int .i64 (m : Int)) ∧ w' = w := by
  rcases h with ⟨rfl, _, rfl⟩ | ⟨b, rfl, h⟩
  · go_enter Try.func14, Try.ntmps14
    go_wp2
    go_ret
    exact ⟨rfl, rfl⟩
  · have c0 := h.last
    clear h
    go_enter Try.func14, Try.ntmps14
    go_wp2
    go_ret
    exact ⟨rfl, rfl⟩

/-- Whether a byte is foreign. -/
def forE (m n : Nat) : Bool := decide (0 < m) && ((n : Int) == (m : Int))
theorem shforeign_any {w : World} {p : Option Addr} {F : Nat → Nat} {m : Nat} (h : HasTab w p F m) (c : Nat) (hc : c < 256) :
    Calls Try.prog 15 #[.pointer p, .int .u8 (c : Int)] w fun e w' => e = .returned (.bool (forE m (F c))) ∧ w' = w := by
  have HL := Lib.hid (shleast_any h)
  have HF := Lib.hid (shfirst_any h c hc)
  clear h
  generalize F c = n at HF ⊢
  by_cases h0 : 0 < m
  · have e : forE m n = ((n : Int) == (m : Int)) := by unfold forE; rw [decide_eq_true h0, Bool.true_and]
    rw [e]
    have g0 : (0 : Int) < (m : Int) := by omega
    have g1 : decide ((0 : Int) < (m : Int)) = true := decide_eq_true g0
    clear e
    go_enter Try.func15, Try.ntmps15
    go_wp2_with fail
    refine HL.out.mono ?_
    rintro e w' ⟨rfl, rfl⟩
    go_wp2_with fail
    refine HF.out.mono ?_
    rintro e w' ⟨rfl, rfl⟩
    go_wp2_with fail
    refine HL.out.mono ?_
    rintro e w' ⟨rfl, rfl⟩
    go_wp2
    go_ret
    exact ⟨rfl, rfl⟩
  · have e : forE m n = false := by unfold forE; rw [decide_eq_false h0]; rfl
    rw [e]
    have g0 : ¬ (0 : Int) < (m : Int) := by omega
    have g1 : decide ((0 : Int) < (m : Int)) = false := decide_eq_false g0
    clear e
    go_enter Try.func15, Try.ntmps15
    go_wp2_with fail
    refine HL.out.mono ?_
    rintro e w' ⟨rfl, rfl⟩
    go_wp2
    go_ret
    exact ⟨rfl, rfl⟩

set_option maxRecDepth 100000 in
set_option maxHeartbeats 2000000 in
theorem shlower_any {w : World} {b : Nat} {F : Nat → Nat} {m : Nat} (h : IsTab w b F m) (t : List UInt8) (hm : m ≤ t.length) (ht : t.length ≤ 1000000) (hF : ∀ c, F c ≤ m) :
    Calls Try.prog 28 #[.pointer (some ⟨b, 0, none⟩), .string ⟨t.toArray⟩] w fun e w' => e = .returned (.tuple #[]) ∧ IsTab w' b (lowF F t m) m ∧ Into b w w' := by
  have c0 := h.last
  have HT := Lib.hid h
  have HLE := Lib.hid (fun j c => low_le (t := t) hF j c)
  have S1 := Lib.hid (bsize t)
  clear h hF
  go_enter Try.func28, Try.ntmps28
  go_wp2
  go_loopw [10] (fun i wr => ∃ k : Nat, k ≤ m ∧ i = .int .i64 k ∧ Hid (IsTab wr b (lowF F t k) m) ∧ Hid (Into b w wr)) (fun i _ => m - (RowKit.intOf i).toNat)
  case atStart => exact ⟨0, Nat.zero_le _, rfl, HT, Lib.hid (Into.refl b w)⟩
  case round =>
    obtain ⟨k, hk, rfl, HK, HB⟩ := hrel
    by_cases hlt : k < m
    · obtain ⟨j, hj⟩ : ∃ j, j + 1 + k = t.length := ⟨t.length - 1 - k, by omega⟩
      have hjl : j < t.length := by omega
      have hjz : j < (⟨t.toArray⟩ : ByteArray).size := by rw [bsize]; omega
      obtain ⟨q, hq1⟩ : ∃ q, q + 1 = t.length := ⟨t.length - 1, by omega⟩
      have w1 : IntKind.i64.wrap ((t.length : Int) - 1) = (q : Int) := by rw [IntKind.wrap_i64]; omega
      have w2 : IntKind.i64.wrap ((q : Int) - (k : Int)) = (j : Int) := by rw [IntKind.wrap_i64]; omega
      obtain ⟨c, hcc⟩ : ∃ c, (t[j]).toNat = c := ⟨_, rfl⟩
      have hc : c < 256 := by rw [← hcc]; exact UInt8.toNat_lt _
      have hq : ((⟨t.toArray⟩ : ByteArray)[j]'hjz).toNat = c := by rw [byteAt t j hjl hjz, hcc]
      have hat : ∀ d, atD t d k = true ↔ c = d := by
        intro d
        rw [at_iff (by omega), show t.length - 1 - k = j by omega]
        simp only [List.getD, List.getElem?_eq_getElem hjl, Option.getD_some, hcc]
      have hle := HLE.out k c
      have c1 := HK.out.cell hc
      have f1 : wr.frozen? ⟨b, c, none⟩ = false := HK.out.free
      have g0 : (0 : Int) ≤ (c : Int) := by omega
      have g1 : (c : Int) < 256 := by omega
      obtain ⟨M, hM⟩ : ∃ M, lowF F t k c = M := ⟨_, rfl⟩
      rw [hM] at c1 hle
      have HM := Lib.hid hM
      have HAT := Lib.hid hat
      have HQ1 := Lib.hid hq1
      have HJ := Lib.hid hj
      clear hM hat hcc hq1 hj
      go_wp2_with fail
      go_region
      have HK2 : Hid (IsTab (wr.setCell ⟨b, c, none⟩ (.int .i64 (min (M : Int) (k : Int)))).drew b (lowF F t (k + 1)) m) := Lib.hid (by
        rw [show min (M : Int) (k : Int) = ((min M k : Nat) : Int) by omega]
        refine ((HK.out.put hc).congr fun d hd => ?_).heap rfl
        by_cases e : d = c
        · subst e
          simp only [↓reduceIte]
          rw [low_hit ((HAT.out d).2 rfl), HM.out]
        · simp only [if_neg e]
          rw [low_keep fun h => e ((HAT.out d).1 h).symm])
      have HB2 : Hid (Into b w (wr.setCell ⟨b, c, none⟩ (.int .i64 (min (M : Int) (k : Int)))).drew) := Lib.hid ((HB.out.set _ _).drewN 1)
      clear HK HB
      go_wp2
      exact ⟨⟨k + 1, by omega, by go_num, HK2, HB2⟩, by simp [RowKit.intOf]; omega⟩
    · obtain rfl : k = m := by omega
      have hz : ¬ (k : Int) < (k : Int) := by omega
      go_wp2
      go_end0
      exact ⟨rfl, HK.out, HB.out⟩
end Go.Proofs.Ytfafbjooehachaa
