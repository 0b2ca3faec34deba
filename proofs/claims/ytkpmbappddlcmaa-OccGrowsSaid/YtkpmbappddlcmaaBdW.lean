/-
  border.on, walked: with how many of its first bytes a text ends, if one byte comes more.
-/
import Derived.Test.YtkpmbappddlcmaaBdM
import Derived.Test.YtkpmbappddlcmaaInts
set_option linter.unusedSimpArgs false
set_option linter.unusedVariables false
namespace Go.Proofs.Ytkpmbappddlcmaa
open Go.RowKit

set_option maxHeartbeats 1000000 in
theorem on_any (l : List UInt8) (a : Option Addr) (len cap tc : Nat) (zs : List Int) (k0 : Nat) (c : UInt8) (w : World) (h : l.length ≤ 1000000000) (hk0 : k0 ≤ l.length) (hr : IsRow .i64 w a len tc zs) (hlen : k0 < len) (hlen2 : len ≤ 2000000000) (hz : ∀ j, 0 < j → j ≤ k0 → zs.getD j 0 = (lonB (l.take j) : Int)) :
    Calls Try.prog 47 #[.string ⟨l.toArray⟩, .slice a len cap, .int .i64 k0, .int .u8 (c.toNat : Int)] w fun e w' => e = .returned (.int .i64 (endK l (l.take k0 ++ [c]) : Int)) ∧ w = w' := by
  have HS := Lib.hid (bsize l)
  have HZ := Lib.hid hz
  obtain ⟨E, HE⟩ : ∃ E, Hid (endK l (l.take k0 ++ [c]) = E) := ⟨_, Lib.hid rfl⟩
  rw [HE.out]
  clear hz
  go_enter Try.func47, Try.ntmps47
  go_wp2
  go_loopw [2] (fun v wr => ∃ k : Nat, k ≤ k0 ∧ v = .int .i64 k ∧ Hid (endK l (l.take k ++ [c]) = E) ∧ w = wr) (fun v _ => (RowKit.intOf v).toNat)
  case atStart => exact ⟨k0, Nat.le_refl _, rfl, HE, rfl⟩
  case round =>
    obtain ⟨k, hk, rfl, HW, rfl⟩ := hrel
    by_cases hlt : k < l.length
    · have hz : k < (⟨l.toArray⟩ : ByteArray).size := by rw [bsize]; exact hlt
      have HB := byteAt l k hlt hz
      by_cases hc : l[k] = c
      · have HR : Hid (E = k + 1) := Lib.hid (by rw [← HW.out]; exact endK_hit hlt hc)
        have hq : (((((⟨l.toArray⟩ : ByteArray)[k]'hz).toNat : Int)) == (c.toNat : Int)) = true := by rw [HB, hc]; simp
        clear HB hc HW
        go_wp2
        go_ret
        exact ⟨by rw [HR.out]; rfl, rfl⟩
      · have hq : (((((⟨l.toArray⟩ : ByteArray)[k]'hz).toNat : Int)) == (c.toNat : Int)) = false := by
          rw [HB]
          simp only [beq_eq_false_iff_ne, ne_eq]
          exact fun e => hc (UInt8.toNat_inj.1 (by omega))
        have HC : Hid (∀ (hk : k < l.length), l[k] ≠ c) := Lib.hid (fun _ => hc)
        clear HB hc
        by_cases h0 : k = 0
        · subst h0
          have HR : Hid (E = 0) := Lib.hid (by rw [← HW.out]; exact endK_zero (fun h => HC.out h))
          clear HW
          go_wp2
          go_ret
          exact ⟨by rw [HR.out]; rfl, rfl⟩
        · obtain h0' | ⟨b, off, rfl, hl1, _, _, hc1⟩ := hr
          · omega
          have hcell := hc1 k (by omega)
          rw [HZ.out k (by omega) hk] at hcell
          have hle := lon_le (l.take k)
          rw [len_take l (by omega)] at hle
          have HR : Hid (endK l (l.take (lonB (l.take k)) ++ [c]) = E) := Lib.hid (by
            rw [← HW.out]; exact (endK_fall (by omega) (by omega) (HC.out)).symm)
          clear hc1 HW HC
          generalize lonB (l.take k) = m at hcell hle HR
          have g0 : (0 : Int) ≤ (k : Int) := by omega
          have g1 : (k : Int) < (len : Int) := by omega
          have gn : ¬ (k : Int) = 0 := by omega
          go_wp2
          exact ⟨⟨m, by omega, rfl, HR, trivial⟩, by simp [RowKit.intOf]; omega⟩
    · by_cases h0 : k = 0
      · subst h0
        have HR : Hid (E = 0) := Lib.hid (by rw [← HW.out]; exact endK_zero (fun h => absurd h hlt))
        clear HW
        go_wp2
        go_ret
        exact ⟨by rw [HR.out]; rfl, rfl⟩
      · obtain h0' | ⟨b, off, rfl, hl1, _, _, hc1⟩ := hr
        · omega
        have hcell := hc1 k (by omega)
        rw [HZ.out k (by omega) hk] at hcell
        have hle := lon_le (l.take k)
        rw [len_take l (by omega)] at hle
        have HR : Hid (endK l (l.take (lonB (l.take k)) ++ [c]) = E) := Lib.hid (by
          rw [← HW.out]; exact (endK_fall (by omega) (by omega) (fun h => absurd h hlt)).symm)
        clear hc1 HW
        generalize lonB (l.take k) = m at hcell hle HR
        have g0 : (0 : Int) ≤ (k : Int) := by omega
        have g1 : (k : Int) < (len : Int) := by omega
        have gn : ¬ (k : Int) = 0 := by omega
        go_wp2
        exact ⟨⟨m, by omega, rfl, HR, trivial⟩, by simp [RowKit.intOf]; omega⟩

theorem tab_row {l : List UInt8} {n : Nat} {w : World} {g : Nat} {T : TypeId} (hl : l.length ≤ 1000000000) (hn : n ≤ l.length + 1) (h : w.heap[g]? = some (.cells (inCells (tabP l n)).toArray T (0, 0))) : IsRow .i64 w (some ⟨g, 0, none⟩) (l.length + 1) (l.length + 1) (tabP l n) :=
  row_heap h (tabP_length l n hn) (by unfold maxLen; omega)

theorem tabP_zero_set (l : List UInt8) (h : 0 < l.length) : (tabP l 1).set 1 ((0 : Nat) : Int) = tabP l 1 := by
  rw [tabP_zero l (by omega)]
  refine List.ext_getElem? fun i => ?_
  rw [List.getElem?_set]
  split
  · rename_i h1; subst h1
    rw [List.length_replicate, if_pos (by omega), List.getElem?_replicate, if_pos (by omega)]; rfl
  · rfl

theorem bput_heap {w : World} {b i : Nat} {cs : Array Value} {T : TypeId} (h : w.heap[b]? = some (.cells cs T (0, 0))) (u : Value) : (w.setCell ⟨b, i, none⟩ u).heap[b]? = some (.cells (cs.setIfInBounds i u) T (0, 0)) := by
  simp [World.setCell, Array.getElem?_modify, h]
theorem bput_below {base : Nat} {w w' : World} {b i : Nat} (h : Below base w w') (hb : base ≤ b) (u : Value) : Below base w (w'.setCell ⟨b, i, none⟩ u) :=
  ⟨h.os, h.tape, h.output, by have := h.size; simp only [World.setCell]; simpa using this, fun k hk => (Below.heap_setCell _ _ _ _ (by show k ≠ b; omega)).trans (h.block k hk)⟩

theorem IsRow.heap {k : IntKind} {w w' : World} {a : Option Addr} {len cap : Nat} {zs : List Int} (h : IsRow k w a len cap zs) (hw : w'.heap = w.heap) : IsRow k w' a len cap zs := by
  rcases h with h | ⟨b, off, ha, hl, hm, hz, hc⟩
  · exact .inl h
  · refine .inr ⟨b, off, ha, hl, hm, hz, fun i hi => ?_⟩
    rw [← hc i hi]
    simp only [World.cell?, hw]

set_option maxRecDepth 100000 in
set_option maxHeartbeats 1000000 in
theorem table_any (l : List UInt8) (w : World) (h : l.length ≤ 100000000) :
    Calls Try.prog 46 #[.string ⟨l.toArray⟩] w (RetI (tabQ l (l.length + 1)) w) := by
  have HS := Lib.hid (bsize l)
  have hmk := make_row (l.length + 1) w (by omega)
  rw [← tabP_zero l (by omega)] at hmk
  have hg0 : Hid ((w.alloc (.cells (inCells (tabP l 1)).toArray 3)).heap[w.heap.size]? = some (.cells (inCells (tabP l 1)).toArray 3 (0, 0))) := Lib.hid (heap_alloc_new w _)
  have b0 : Below w.heap.size w (w.alloc (.cells (inCells (tabP l 1)).toArray 3)) := (Below.refl _ w).alloc (Nat.le_refl _) _
  obtain ⟨L, hL⟩ : ∃ L : Nat, L = l.length := ⟨_, rfl⟩
  have hc : ((l.length + 1 : Nat) : Int) = (l.length : Int) + 1 := by omega
  rw [hc] at hmk
  go_enter Try.func46, Try.ntmps46
  go_wp2
  go_loopw [4, 11] (fun x i wr => ∃ n : Nat, n ≤ l.length ∧ i = .int .i64 n ∧ Hid (wr.heap[w.heap.size]? = some (.cells (inCells (tabP l (n + 1))).toArray 3 (0, 0))) ∧ Below w.heap.size w wr) (fun _ i _ => l.length - (RowKit.intOf i).toNat)
  case atStart => exact ⟨0, Nat.zero_le _, rfl, hg0, b0⟩
  case round =>
    obtain ⟨n, hn, rfl, HG, hbe⟩ := hrel
    by_cases hlt : n < l.length
    · by_cases h0 : n = 0
      · subst h0
        have HG2 : Hid (wr.heap[w.heap.size]? = some (.cells (inCells (tabP l (0 + 1 + 1))).toArray 3 (0, 0))) := Lib.hid (by
          rw [HG.out, ← tabP_set l (0 + 1) (by omega), lon_none (by rw [List.length_take]; omega), tabP_zero_set l (by omega)])
        go_wp2
        exact ⟨⟨1, by omega, rfl, HG2, hbe⟩, by simp [RowKit.intOf]; omega⟩
      · have hz : n < (⟨l.toArray⟩ : ByteArray).size := by rw [bsize]; exact hlt
        have HB := Lib.hid (byteAt l n hlt hz)
        have hrow := tab_row (by omega) (by omega) HG.out
        have hle := lon_le (l.take n)
        rw [len_take l (by omega)] at hle
        have HO : Hid (∀ W, W.heap = wr.heap → Calls Try.prog 47 #[.string ⟨l.toArray⟩, .slice (some ⟨w.heap.size, 0, none⟩) (l.length + 1) (l.length + 1), .int .i64 (lonB (l.take n) : Int), .int .u8 ((l[n]'hlt).toNat : Int)] W fun e w' => e = .returned (.int .i64 (lonB (l.take (n + 1)) : Int)) ∧ W = w') := Lib.hid (fun W hW => by
          rw [lon_step (by omega) hlt]
          exact on_any l _ _ _ (l.length + 1) (tabP l (n + 1)) _ _ _ (by omega) (by omega) (hrow.heap hW) (by omega) (by omega) (fun j _ hj2 => tabP_get l (n + 1) j (by omega)))
        have hcell : wr.cell? ⟨w.heap.size, n, none⟩ = some (.int .i64 (lonB (l.take n) : Int)) := by
          rw [Lib.cell_of_heap HG.out]
          have := tabP_get l (n + 1) n (by omega)
          rw [List.getD_eq_getElem?_getD, List.getElem?_eq_getElem (show n < (tabP l (n + 1)).length by rw [tabP_length _ _ (by omega)]; omega)] at this
          simp only [Option.getD_some] at this
          simp [inCells, List.getElem?_eq_getElem (show n < (tabP l (n + 1)).length by rw [tabP_length _ _ (by omega)]; omega), this]
        have hold : ∃ x, wr.cell? ⟨w.heap.size, n + 1, none⟩ = some (.int .i64 x) := by
          rw [Lib.cell_of_heap HG.out]
          simp [inCells, List.getElem?_eq_getElem (show n + 1 < (tabP l (n + 1)).length by rw [tabP_length _ _ (by omega)]; omega)]
        obtain ⟨old, hold⟩ := hold
        have fz : wr.frozen? ⟨w.heap.size, n + 1, none⟩ = false := Lib.frozen_of_heap HG.out (n + 1)
        have HG2 : Hid (∀ q, ((wr.drewN q).setCell ⟨w.heap.size, n + 1, none⟩ (.int .i64 (lonB (l.take (n + 1)) : Int))).heap[w.heap.size]? = some (.cells (inCells (tabP l (n + 1 + 1))).toArray 3 (0, 0))) := Lib.hid (fun q => by
          rw [← tabP_set l (n + 1) (by omega)]
          refine (bput_heap (w := wr.drewN q) HG.out _).trans ?_
          simp [inCells, List.map_set])
        have HB2 : Hid (∀ q, Below w.heap.size w ((wr.drewN q).setCell ⟨w.heap.size, n + 1, none⟩ (.int .i64 (lonB (l.take (n + 1)) : Int)))) := Lib.hid (fun q => bput_below (below_drewS hbe q) (Nat.le_refl _) _)
        clear hrow HG
        generalize lonB (l.take n) = k at HO hcell hle
        generalize lonB (l.take (n + 1)) = k2 at HO HG2 HB2
        have g0 : (0 : Int) ≤ (n : Int) := by omega
        have g1 : (n : Int) < (l.length : Int) + 1 := by omega
        have g2 : (n : Int) + 1 < (l.length : Int) + 1 := by omega
        have g3 : (0 : Int) ≤ (n : Int) + 1 := by omega
        have hw : IntKind.i64.wrap ((n : Int) + 1) = (n : Int) + 1 := by rw [IntKind.wrap_i64]; omega
        have hw2 : ((n : Int) + 1).toNat = n + 1 := by omega
        go_wp2_with fail
        go_region_with (go_at_call 47; rw [HB.out]; refine (HO.out _ (by rfl)).mono ?_; rintro e w' ⟨rfl, rfl⟩)
        all_goals go_wp2
        all_goals exact ⟨⟨n + 1, by omega, by go_num, HG2.out _, HB2.out _⟩, by simp [RowKit.intOf]; omega⟩
    · obtain rfl : n = l.length := by omega
      have HT := Lib.hid (tab_row (by omega) (Nat.le_refl _) HG.out)
      go_wp2
      go_ret
      refine ⟨some ⟨w.heap.size, 0, none⟩, l.length + 1, by rw [tabQ_length]; rfl, ?_, hbe⟩
      rw [← tabP_full, tabP_length _ _ (Nat.le_refl _)]
      exact HT.out

/-- .. as it is used. -/
theorem table_use (l : List UInt8) (w : World) (h : l.length ≤ 100000000) :
    Calls Try.prog 46 #[.string ⟨l.toArray⟩] w fun e w' => ∃ a cap, e = .returned (.slice a (l.length + 1) cap) ∧ Hid (IsRow .i64 w' a (l.length + 1) (l.length + 1) (tabQ l (l.length + 1))) ∧ Below w.heap.size w w' := by
  refine (table_any l w h).mono ?_
  rintro e w' ⟨a, cap, rfl, hr, hb⟩
  rw [tabQ_length] at hr
  exact ⟨a, cap, by rw [tabQ_length], Lib.hid hr, hb⟩

/-- A table's number, where it lies. -/
theorem tab_at {l : List UInt8} {w wr : World} {a : Option Addr} (h : IsRow .i64 w a (l.length + 1) (l.length + 1) (tabQ l (l.length + 1))) (hb : Below w.heap.size w wr) (n : Nat) (hn : n ≤ l.length) :
    ∃ b off, a = some ⟨b, off, none⟩ ∧ wr.cell? ⟨b, off + n, none⟩ = some (.int .i64 (lonB (l.take n) : Int)) := by
  rcases h.below hb with h | ⟨b, off, ha, _, _, _, hc⟩
  · omega
  · exact ⟨b, off, ha, by rw [hc n (by omega), tabQ_get l _ n (by omega)]⟩
end Go.Proofs.Ytkpmbappddlcmaa
