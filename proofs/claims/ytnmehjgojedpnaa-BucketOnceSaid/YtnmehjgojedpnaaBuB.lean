/-
  Bytes: walked.
-/
import Derived.Test.YtnmehjgojedpnaaBuO
import Derived.Lib.Builder
import Derived.Laws.IdiomStrings
set_option linter.unusedSimpArgs false
set_option linter.unusedVariables false
namespace Go.Proofs.Ytnmehjgojedpnaa
open Go.RowKit

theorem bubyte_info : (Try.prog.info? 5).map (fun i => (i.zero, i.size, i.bytes)) = some (some (.int .u8 0), 1, 1) := by kernel_rfl
theorem bubyte_one {x : Int} : ∀ v ∈ [Value.int .u8 x], v.oneCell' = true := by
  intro v hv
  simp at hv
  subst hv; rfl
theorem bucells_snoc (l : List UInt8) (c : Nat) (hc : c < 256) : Lib.byteCells (l ++ [UInt8.ofNat c]) = Lib.byteCells l ++ [.int .u8 (c : Int)] := by
  simp [Lib.byteCells]; omega

theorem u8_wrap (k : Nat) (h : k < 256) : IntKind.u8.wrap (k : Int) = (k : Int) := by
  have e : (2 ^ IntKind.u8.bits : Int) = 256 := rfl
  have s : IntKind.u8.signed = false := rfl
  unfold IntKind.wrap
  rw [e, s]
  simp
  omega
/-- A slice of bytes of the call's own, as a string says it. -/
theorem own_text {w : World} {base : Nat} {v : Value} {l : List UInt8} (h : w.ownsRow base 5 1 v l.length (Lib.byteCells l)) : (convert 62 9 v).run Try.prog w = .ok (.string ⟨l.toArray⟩) w := by
  rcases h.2 with ⟨rfl, h0⟩ | ⟨g, cap, cur, rfl, _⟩
  · obtain rfl := List.length_eq_zero_iff.1 h0
    rw [run_convert_bytes_string w 62 9 5 none 0 0 Try.underlying62 Try.underlying5 Try.underlying9]
    rfl
  · refine run_convert_bytes_back w 62 9 5 _ _ l Try.underlying62 Try.underlying5 Try.underlying9 (fun j hj => ?_)
    exact h.cells (g := g) rfl j _ (by simp [Lib.byteCells, List.getElem?_eq_getElem hj])

set_option maxRecDepth 100000 in
set_option maxHeartbeats 2000000 in
theorem bubytes_any {w : World} {p : Value} {ws : List (List UInt8)} {L : Nat → Nat} (h : HasBks w p (idsL ws) L) :
    Calls Try.prog 15 #[p] w fun e w' => e = .returned (.string ⟨(bytL ws).toArray⟩) ∧ Below w.heap.size w w' := by
  obtain ⟨i0, hi, hz0, hz1, hz2⟩ := info_parts bubyte_info
  have HH := Lib.hid h
  have hfi := bufield_ids
  clear h
  go_enter Try.func15, Try.ntmps15
  go_wp2
  go_loopw [3, 5] (fun v i wr => ∃ k : Nat, k ≤ 256 ∧ i = .int .i64 k ∧ Hid (wr.ownsRow w.heap.size 5 1 v (bytK ws k).length (Lib.byteCells (bytK ws k))) ∧ Below w.heap.size w wr) (fun _ i _ => 256 - (RowKit.intOf i).toNat)
  case atStart => exact ⟨0, Nat.zero_le _, rfl, Lib.hid (World.ownsRow_nil _ _ _ _), Below.refl _ _⟩
  case round =>
    obtain ⟨k, hk, rfl, HO, hbe⟩ := hrel
    obtain ⟨a, cap, rfl⟩ := owns_slice HO.out
    by_cases hlt : k < 256
    · have HC := Lib.hid (buof_any (HH.out.below hbe) k hlt)
      have hl := byt_length ws k
      have hlt2 : (k : Int) < 256 := by omega
      have hw8 : IntKind.u8.wrap (k : Int) = (k : Int) := u8_wrap k hlt
      go_wp2_with fail
      refine HC.out.mono ?_
      rintro e w2 ⟨a2, cap2, rfl, _, hb2⟩
      have hb3 := hbe.trans (hb2.mono hbe.size)
      have HO2 := Lib.hid (tx_below HO.out hb2)
      clear HO HC
      by_cases h0 : (idsL ws k).length = 0
      · have HB := Lib.hid (byt_miss h0)
        have hg : ¬ ((0 : Int) < ((idsL ws k).length : Int)) := by omega
        go_wp2
        exact ⟨⟨k + 1, by omega, by go_num, by rw [HB.out]; exact HO2, hb3⟩, by simp [RowKit.intOf]; omega⟩
      · have HB := Lib.hid (byt_hit h0)
        have hg : (0 : Int) < ((idsL ws k).length : Int) := by omega
        have hown := HO2.out
        have hs2 := hb3.size
        go_wp2_with (at_builtin; refine wpList_append_own _ rfl _ _ 62 rfl w.heap.size 5 i0 (.int .u8 0) 1 1 Try.underlying62 hi hz0 hz1 hz2 rfl (by decide) _ _ _ rfl (hown.alloc _) ⟨w2.heap.size, 0, none⟩ 1 1 [.int .u8 (k : Int)] rfl rfl (int_news (heap_alloc_new _ _)) bubyte_one (by unfold maxLen; omega) (by omega) (by simp; omega) ?_)
        intro v' w3 hown3 hgrow _
        obtain ⟨a3, cap3, rfl⟩ := owns_slice hown3
        have HW := Lib.hid (show w3.ownsRow w.heap.size 5 1 (.slice a3 ((bytK ws k).length + 1) cap3) (bytK ws (k + 1)).length (Lib.byteCells (bytK ws (k + 1))) by rw [HB.out, bucells_snoc _ _ hlt, List.length_append]; exact hown3)
        have B3 : Below w.heap.size w w3 := hb3.trans ⟨hgrow.os, hgrow.tape, hgrow.output, Nat.le_trans (by simp) hgrow.size, fun i hi => by
          rw [hgrow.block i (by simp; omega) (fun e => by have := (hown.lt i e.symm).1; omega), Lib.alloc_old _ _ i (by omega)]⟩
        clear hown hown3 hgrow
        go_wp2
        exact ⟨⟨k + 1, by omega, by go_num, HW, B3⟩, by simp [RowKit.intOf]; omega⟩
    · obtain rfl : k = 256 := by omega
      have hct := own_text HO.out
      have hz : ¬ ((256 : Nat) : Int) < 256 := by omega
      go_wp2
      go_ret
      exact ⟨rfl, hbe⟩
end Go.Proofs.Ytnmehjgojedpnaa
