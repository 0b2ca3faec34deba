/-
  A trie, read: Bytes: walked.
-/
import Derived.Test.YtigdlkoilamomaaTrB
import Derived.Test.YtigdlkoilamomaaBut
import Derived.Lib.Builder
import Derived.Laws.IdiomStrings
set_option linter.unusedSimpArgs false
set_option linter.unusedVariables false
namespace Go.Proofs.Ytigdlkoilamomaa
open Go.RowKit

theorem trbyte_info : (Try.prog.info? 5).map (fun i => (i.zero, i.size, i.bytes)) = some (some (.int .u8 0), 1, 1) := by kernel_rfl
theorem trbyte_one {x : Int} : ∀ v ∈ [Value.int .u8 x], v.oneCell' = true := by
  intro v hv
  simp at hv
  subst hv; rfl
theorem trcells_snoc (l : List UInt8) (c : UInt8) : Lib.byteCells (l ++ [c]) = Lib.byteCells l ++ [.int .u8 (c.toNat : Int)] := by simp [Lib.byteCells]
/-- A slice of bytes of the call's own, as a string says it. -/
theorem trown_text {w : World} {base : Nat} {v : Value} {l : List UInt8} (h : w.ownsRow base 5 1 v l.length (Lib.byteCells l)) : (convert 38 9 v).run Try.prog w = .ok (.string ⟨l.toArray⟩) w := by
  rcases h.2 with ⟨rfl, h0⟩ | ⟨g, cap, cur, rfl, _⟩
  · obtain rfl := List.length_eq_zero_iff.1 h0
    rw [run_convert_bytes_string w 38 9 5 none 0 0 Try.underlying38 Try.underlying5 Try.underlying9]
    rfl
  · refine run_convert_bytes_back w 38 9 5 _ _ l Try.underlying38 Try.underlying5 Try.underlying9 (fun j hj => ?_)
    exact h.cells (g := g) rfl j _ (by simp [Lib.byteCells, List.getElem?_eq_getElem hj])

set_option maxHeartbeats 1000000 in
theorem trbytes_out {w : World} {q p : Option Addr} {R : List Rc} (h : HasTr w q p R) (s : Int) (hs : s < 0 ∨ (R.length : Int) ≤ s + 1) : Calls Try.prog 19 #[.pointer q, .int .i64 s] w fun e w' => e = .returned (.string ByteArray.empty) ∧ Below w.heap.size w w' := by
  have HS := Lib.hid (trbelow_out h s hs)
  have hct := fun W : World => trown_text (w := W) (base := 0) (v := .slice none 0 0) (l := []) (World.ownsRow_nil _ _ _ _)
  clear h hs
  go_enter Try.func19, Try.ntmps19
  go_wp2_with fail
  refine HS.out.mono ?_
  rintro e w' ⟨rfl, rfl⟩
  go_wp2
  go_loopw [5, 12] (fun v i wr => v = .slice none 0 0 ∧ i = .int .i64 0 ∧ wr = w') (fun _ _ _ => 0)
  case atStart => exact ⟨rfl, rfl, rfl⟩
  case round =>
    obtain ⟨rfl, rfl, rfl⟩ := hrel
    go_wp2
    go_ret
    exact ⟨rfl, Below.refl _ _⟩

set_option maxRecDepth 100000 in
set_option maxHeartbeats 2000000 in
theorem trbytes_in {w : World} {q p : Option Addr} {R : List Rc} (h : HasTr w q p R) (k : Nat) (r r' : Rc) (hr : R[k]? = some r) (hr' : R[k + 1]? = some r') (h1 : r.below ≤ r'.below) (h2 : r'.below ≤ R.length) :
    Calls Try.prog 19 #[.pointer q, .int .i64 (k : Int)] w fun e w' => e = .returned (.string ⟨((((R.drop r.below).take (r'.below - r.below)).map Rc.last)).toArray⟩) ∧ Below w.heap.size w w' := by
  obtain ⟨i0, hi, hz0, hz1, hz2⟩ := info_parts trbyte_info
  have hm := h.few
  have HB := Lib.hid (trbelow_in h k r r' hr hr' h1 h2)
  generalize (R.drop r.below).take (r'.below - r.below) = L at *
  have hn : r'.below - r.below ≤ 2147483647 := by omega
  generalize r'.below - r.below = n at *
  clear h hr hr' h1 h2
  go_enter Try.func19, Try.ntmps19
  go_wp2_with fail
  refine HB.out.mono ?_
  rintro e w' ⟨⟨a, cap', rfl, hL⟩, m, rfl⟩
  have HL := Lib.hid hL
  have hl := hL.1
  clear hL HB
  go_wp2
  go_loopw [5, 12] (fun v i wr => ∃ j : Nat, j ≤ n ∧ i = .int .i64 j ∧ Hid (wr.ownsRow w.heap.size 5 1 v ((L.take j).map Rc.last).length (Lib.byteCells ((L.take j).map Rc.last))) ∧ Below w.heap.size w wr) (fun _ i _ => n - (RowKit.intOf i).toNat)
  case atStart => exact ⟨0, Nat.zero_le _, rfl, Lib.hid (World.ownsRow_nil _ _ _ _), below_drewS (Below.refl _ _) m⟩
  case round =>
    obtain ⟨j, hj, rfl, HO, hbe⟩ := hrel
    have hsz := hbe.size
    obtain ⟨ao, co, rfl⟩ := owns_slice HO.out
    by_cases hlt : j < n
    · obtain ⟨b, off, rfl, x, hf, hat⟩ := rc_at HL.out hbe j hlt
      obtain ⟨e0, e1, e2, e3, e4⟩ := hat
      have HN : Hid ((L.take (j + 1)).map Rc.last = (L.take j).map Rc.last ++ [x.last]) := Lib.hid (by
        obtain ⟨hk, rfl⟩ := List.getElem?_eq_some_iff.1 hf
        rw [List.take_succ_eq_append_getElem hk, List.map_append]; rfl)
      have hlen : ((L.take j).map Rc.last).length = j := by rw [List.length_map, List.length_take]; omega
      generalize (L.take j).map Rc.last = D at *
      have hown := HO.out
      have g0 : (0 : Int) ≤ (j : Int) := by omega
      have g1 : (j : Int) < (n : Int) := by omega
      have HD := Lib.hid hlen
      clear hlen
      clear hf HO
      have hX : ∀ (o : Obj) (u : Value), ((wr.alloc o).alloc (.cells #[u] 5)).heap[wr.heap.size + 1]? = some (.cells #[u] 5 (0, 0)) := fun o u => by
        have := heap_alloc_new (wr.alloc o) (.cells #[u] 5)
        rwa [show (wr.alloc o).heap.size = wr.heap.size + 1 by simp] at this
      go_wp2_with (at_builtin; refine wpList_append_own _ rfl _ _ 38 rfl w.heap.size 5 i0 (.int .u8 0) 1 1 Try.underlying38 hi hz0 hz1 hz2 rfl (by decide) _ _ _ rfl ((hown.alloc _).alloc _) ⟨wr.heap.size + 1, 0, none⟩ 1 1 [.int .u8 (x.last.toNat : Int)] rfl rfl (one_news (hX _ _)) trbyte_one (by have := HD.out; unfold maxLen; omega) (by have := HD.out; omega) (by simp; omega) ?_)
      intro v' w3 hown3 hgrow _
      obtain ⟨a3, cap3, rfl⟩ := owns_slice hown3
      have B3 : Below w.heap.size w w3 := ((hbe.alloc hsz _).alloc (by simp; omega) _).trans ⟨hgrow.os, hgrow.tape, hgrow.output, Nat.le_trans (by simp) hgrow.size, fun i hi => by
        rw [hgrow.block i (by simp; omega) (fun e => by have := (hown.lt i e.symm).1; omega)]⟩
      have HW : Hid (w3.ownsRow w.heap.size 5 1 (.slice a3 (D.length + 1) cap3) ((L.take (j + 1)).map Rc.last).length (Lib.byteCells ((L.take (j + 1)).map Rc.last))) := Lib.hid (by
        rw [HN.out, trcells_snoc, List.length_append]; exact hown3)
      clear hown hown3 hgrow hX e0 e1 e2 e3 e4
      go_wp2
      exact ⟨⟨j + 1, by omega, by go_num, HW, B3⟩, by simp [RowKit.intOf]; omega⟩
    · obtain rfl : j = n := by omega
      have HE : Hid ((L.take j).map Rc.last = L.map Rc.last) := Lib.hid (by rw [List.take_of_length_le (by omega)])
      generalize (L.take j).map Rc.last = D at *
      have hct := trown_text HO.out
      have hz : ¬ (j : Int) < (j : Int) := by omega
      clear HO
      go_wp2
      go_ret
      exact ⟨by rw [← HE.out]; rfl, hbe⟩
end Go.Proofs.Ytigdlkoilamomaa
