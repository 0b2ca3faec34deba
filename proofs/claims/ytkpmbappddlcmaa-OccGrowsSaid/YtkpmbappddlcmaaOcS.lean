/-
  slices.SortFunc of hits by occ.Order, at a slice of the call's own; occ.All: walked.
-/
import Derived.Test.YtkpmbappddlcmaaOcO
import Derived.Test.YtkpmbappddlcmaaOcL
import Derived.Test.YtkpmbappddlcmaaShelf
import Derived.Sort.OwnSorted
set_option linter.unusedSimpArgs false
set_option linter.unusedVariables false
namespace Go.Proofs.Ytkpmbappddlcmaa
open Go.RowKit
open Go.Sort hiding Below

/-- A hit's two cells. -/
def encH (h : Ht) : List Value := [.int .i64 h.1, .int .i64 h.2]
theorem flat_hits (hs : List Ht) : (flatK encH 2 hs.toArray).toList = hiCells hs := by
  refine List.ext_getElem? fun j => ?_
  by_cases hj : j < hs.length * 2
  · have hk : j / 2 < hs.length := by omega
    obtain ⟨h1, h2⟩ := hiCells_at hs (j / 2) hk
    have e : (flatK encH 2 hs.toArray)[j]! = (encH hs.toArray[j / 2]!)[j % 2]! := get_flatK encH 2 hs.toArray j (by simpa using hj)
    rw [getElem!_pos _ j (by simpa using hj)] at e
    rw [Array.getElem?_toList, Array.getElem?_eq_getElem (by simpa using hj), e]
    have e3 : hs.toArray[j / 2]! = hs[j / 2] := by rw [getElem!_pos _ _ (by simpa using hk)]; simp
    rw [e3]
    rcases Nat.mod_two_eq_zero_or_one j with hm | hm
    · have hj2 : j / 2 * 2 = j := by omega
      rw [hj2] at h1
      rw [hm, h1]; rfl
    · have hj2 : j / 2 * 2 + 1 = j := by omega
      rw [hj2] at h2
      rw [hm, h2]; rfl
  · rw [List.getElem?_eq_none (by simp; omega), List.getElem?_eq_none (by rw [hiCells_length]; omega)]

theorem holds_hits {w : World} {g : Nat} {cur : Array Value} {e : TypeId} {hs : List Ht} (hb : w.heap[g]? = some (.cells cur e (0, 0))) (ht : cur.toList.take (hs.length * 2) = hiCells hs) : HoldsK encH 2 w g 0 hs.toArray := by
  intro j hj
  have hj' : j < hs.length * 2 := by simpa using hj
  refine ⟨?_, by simp [World.frozen?, hb]⟩
  have h1 : (cur.toList.take (hs.length * 2))[j]? = (hiCells hs)[j]? := by rw [ht]
  rw [List.getElem?_take_of_lt hj', ← flat_hits, Array.getElem?_toList, Array.getElem?_toList, Array.getElem?_eq_getElem hj] at h1
  rw [Nat.zero_add, Lib.cell_of_heap hb, h1, getElem!_pos _ j hj]; rfl

theorem heap_hits {w : World} {g n : Nat} {os : Array Obj} {cur : Array Value} {e : TypeId} {fr : Nat × Nat} (F : Array Value) (hb : w.heap[g]? = some (.cells cur e fr)) :
    (grow (putRow id (Sort.ahead w n) g 0 F) os).heap[g]? = some (.cells (putCells id 0 F cur) e fr) := by
  have hg : g < w.heap.size := (Array.getElem?_eq_some_iff.1 hb).1
  rw [heap_grow_old _ _ (by simpa using hg)]
  simp [putRow, mapBlock, Sort.ahead, Array.getElem?_modify, hb, onCells]
theorem grown_hits {w : World} {g n : Nat} {os : Array Obj} (F : Array Value) : w.grownBy (grow (putRow id (Sort.ahead w n) g 0 F) os) (some g) := by
  refine ⟨rfl, rfl, rfl, by simp, fun k hk hne => ?_⟩
  rw [heap_grow_old _ _ (by simpa using hk)]
  have : g ≠ k := fun e => hne (by rw [e])
  simp [putRow, mapBlock, Sort.ahead, Array.getElem?_modify, this]
theorem take_hits (cur F : Array Value) (h : F.size ≤ cur.size) : (putCells id 0 F cur).toList.take F.size = F.toList := by
  apply List.ext_getElem?
  intro j
  by_cases hj : j < F.size
  · rw [List.getElem?_take_of_lt hj, Array.getElem?_toList]
    simp [putCells, hj, show j < cur.size by omega]
  · rw [List.getElem?_take_eq_none (by omega), List.getElem?_eq_none (by simp; omega)]

theorem owns_hits_sorted {w : World} {base g cap n : Nat} {e : TypeId} {os : Array Obj} {cur : Array Value} {hs ts : List Ht} (hl : ts.length = hs.length) (hbase : base ≤ g) (hb : w.heap[g]? = some (.cells cur e (0, 0)))
    (h1 : hs.length ≤ cap) (h2 : cap ≤ maxLen) (h3 : cur.size = cap * 2) :
    (grow (putRow id (Sort.ahead w n) g 0 (flatK encH 2 ts.toArray)) os).ownsRow base e 2 (.slice (some ⟨g, 0, none⟩) hs.length cap) hs.length (hiCells ts) :=
  ⟨by rw [hiCells_length, hl], .inr ⟨g, cap, _, rfl, hbase, heap_hits _ hb, h1, h2, by simp [putCells, h3], by
    rw [← hl, ← flat_hits]
    have := take_hits cur (flatK encH 2 ts.toArray) (by simp; omega)
    simpa using this⟩⟩

theorem swoH : Sort.SWO (ltOf cfH) where
  irrefl x := by
    unfold ltOf
    rw [decide_eq_false_iff_not, cf_neg, ah_irr]; decide
  trans x y z h1 h2 := by
    unfold ltOf at *
    rw [decide_eq_true_eq, cf_neg] at *
    have := ah_iff.1 h1
    have := ah_iff.1 h2
    exact ah_iff.2 (by omega)
  ntrans x y z h1 h2 := by
    unfold ltOf at *
    rw [decide_eq_false_iff_not, cf_neg, Bool.not_eq_true] at *
    exact nah_trans h2 h1
theorem part_hits (x y : Ht) (h1 : ltOf cfH x y = false) (h2 : ltOf cfH y x = false) : x = y := by
  unfold ltOf at *
  rw [decide_eq_false_iff_not, cf_neg, Bool.not_eq_true] at *
  exact nah_eq h2 h1

theorem order_enters : ∀ args w, (callFunc 20 args).run Try.prog w = .ok (.enter 20 args) w := enters_of Try.func20 (by kernel_rfl) rfl
theorem order_cmp (blk off size : Nat) (w : World) : CmpLays Try.prog 20 #[] encH 2 cfH blk off size w :=
  fun _ _ _ _ x y => order_lays x y _

/-- The sort at a slice of the call's own. -/
theorem sorth_own {base : Nat} (v : Value) (hs : List Ht) (w : World) (hl : hs.length ≤ 1000000000000000) (hown : w.ownsRow base 44 2 v hs.length (hiCells hs)) :
    Calls Try.prog 34 #[v, .func (.func 20) #[] #[]] w fun e w' => e = .returned (.tuple #[]) ∧ w'.ownsRow base 44 2 v hs.length (hiCells (srtH hs)) ∧ w.grownBy w' v.ownBlock := by
  rcases hown.2 with ⟨rfl, h0⟩ | ⟨g, cap, cur, rfl, hbase, hb, h1, h2, h3, h4⟩
  · obtain rfl : hs = [] := List.eq_nil_of_length_eq_zero h0
    have h := @AnyF.slices_SortFunc_none _ _ Try.sortH none 0 (.func (.func 20) #[] #[]) w
    refine (show Calls Try.prog 34 _ w _ from h).mono ?_
    rintro e w' ⟨rfl, rfl⟩
    exact ⟨rfl, by rw [show srtH [] = [] from List.eq_nil_of_length_eq_zero (srtH_length [])]; exact hown, ⟨rfl, rfl, rfl, Nat.le_refl _, fun _ _ _ => rfl⟩⟩
  · have hlt : g < w.heap.size := (Array.getElem?_eq_some_iff.1 hb).1
    have h := AnyQ.slices_SortFunc_total Try.sortH 2 Try.isAgg44 Try.sizeOf44 encH (fun _ => rfl) (fun x v hv => by simp [encH] at hv; rcases hv with rfl | rfl <;> rfl) cfH swoH 20 #[] g 0 cap hs.toArray w order_enters (order_cmp g 0 hs.toArray.size w)
      (holds_hits hb h4) hlt (by simp; omega) part_hits
    change Calls Try.prog 34 _ _ _ at h
    simp only [List.size_toArray, List.toList_toArray] at h
    refine h.mono ?_
    rintro e w' ⟨rfl, n, os, rfl⟩
    refine ⟨rfl, ?_, grown_hits _⟩
    exact owns_hits_sorted (ts := srtH hs) (srtH_length hs) hbase hb h1 h2 h3

theorem all_enters : ∀ args w, (callFunc 33 args).run Try.prog w = .ok (.enter 33 args) w := enters_of Try.func33 (by kernel_rfl) rfl

theorem raw_length {us : List (List UInt8)} {F : List UInt8 → List Int} {m : Nat} (h : ∀ t, (F t).length ≤ m) : ∀ k, (rawK us F k).length ≤ k * m
  | 0 => by simp [rawK]
  | k + 1 => by
    have := raw_length (us := us) h k
    have := h (us.getD k [])
    rw [rawK, List.length_append, List.length_map, Nat.succ_mul]
    omega
theorem fndB_length (s t : List UInt8) : (fndB s t).length ≤ s.length := by
  unfold fndB
  split
  · exact Nat.zero_le _
  · exact fnd_length s t _
theorem raw_fnd {us : List (List UInt8)} {s : List UInt8} (hu : ∀ t ∈ us, 0 < t.length) : ∀ k, k ≤ us.length → rawK us (fndB s) k = rawK us (fun t => fnd s t s.length) k
  | 0, _ => rfl
  | k + 1, hk => by
    have hp := hu _ (getD_some (show k < us.length by omega)).2
    rw [rawK, rawK, raw_fnd hu k (by omega)]
    rw [fndB_full]
    generalize us.getD k [] = t at hp
    cases t with
    | nil => simp at hp
    | cons _ _ => rfl
theorem all_is {us : List (List UInt8)} {s : List UInt8} (hu : ∀ t ∈ us, 0 < t.length) : srtH (rawK us (fndB s) us.length) = hitL us s := by
  rw [raw_fnd hu _ (Nat.le_refl _)]
  exact srtH_is (raw_perm hu) (hit_rise us s)

set_option maxRecDepth 100000 in
set_option maxHeartbeats 1000000 in
theorem ocall_any {w : World} {p : Option Addr} {us : List (List UInt8)} (h : IsPats w p us) (hl : us.length ≤ 1000000) (hu : ∀ t ∈ us, 0 < t.length ∧ t.length ≤ 1000000) (s : List UInt8) (hs : s.length ≤ 100000) :
    Calls Try.prog 13 #[.pointer p, .string ⟨s.toArray⟩] w (RetH (hitL us s) w) := by
  have HA := Lib.hid (all_is (us := us) (s := s) (fun t ht => (hu t ht).1))
  have hrl : (rawK us (fndB s) us.length).length ≤ 1000000000000 := by
    have := raw_length (us := us) (fndB_length s) us.length
    have h2 : us.length * s.length ≤ 1000000 * 100000 := Nat.mul_le_mul hl hs
    omega
  have hE := Lib.hid (fun (w0 : World) (T1 : TypeId) (h1 : Var1 w0 w.heap.size (.string ⟨s.toArray⟩) T1) (hb : Below w.heap.size w w0) (h0 : GrowsH w0 (w.heap.size + 1) [] w0) =>
    oceach_any 33 #[.pointer (some ⟨w.heap.size, 0, none⟩), .pointer (some ⟨w.heap.size + 1, 0, none⟩)] all_enters h hl (fun k W => k ≤ us.length ∧ GrowsH w0 (w.heap.size + 1) (rawK us (fndB s) k) W)
      (fun k W hk => hb.trans (by obtain ⟨_, v, _, _, hx⟩ := hk; exact hx.mono (by omega)))
      (fun k t W hf hk => by
        have hkl := (List.getElem?_eq_some_iff.1 hf).1
        have htm := hu t (List.mem_of_getElem? hf)
        have hrk : (rawK us (fndB s) k).length ≤ 1000000000000 := by
          have := raw_length (us := us) (fndB_length s) k
          have h2 : k * s.length ≤ 1000000 * 100000 := Nat.mul_le_mul (by omega) hs
          omega
        refine (ocall_one s t k w.heap.size (w.heap.size + 1) (rawK us (fndB s) k) w0 W (by omega) htm.2 htm.1 hrk (by omega) T1 (by omega) h1 hk.2).mono ?_
        rintro en w' ⟨he2, hg⟩
        refine ⟨he2, by omega, ?_⟩
        rw [raw_next hf]
        exact hg) w0 ⟨Nat.zero_le _, h0⟩)
  clear h hu
  generalize rawK us (fndB s) us.length = rs at hE hrl HA
  generalize hitL us s = hs2 at HA ⊢
  go_enter Try.func13, Try.ntmps13
  go_wp2_with fail
  have D3 : Below w.heap.size w ((w.alloc (.cells #[.string ⟨s.toArray⟩] 9)).alloc (.cells #[.slice none 0 0] 31)) :=
    ((Below.refl _ w).alloc (Nat.le_refl _) _).alloc (by simp) _
  have V1 : Var1 ((w.alloc (.cells #[.string ⟨s.toArray⟩] 9)).alloc (.cells #[.slice none 0 0] 31)) w.heap.size (.string ⟨s.toArray⟩) 9 := by
    unfold Var1
    rw [Lib.alloc_old _ _ _ (by simp)]
    exact heap_alloc_new w _
  have V3 : Var1 ((w.alloc (.cells #[.string ⟨s.toArray⟩] 9)).alloc (.cells #[.slice none 0 0] 31)) (w.heap.size + 1) (.slice none 0 0) 31 := by
    unfold Var1
    have := heap_alloc_new (w.alloc (.cells #[.string ⟨s.toArray⟩] 9)) (.cells #[.slice none 0 0] 31)
    rwa [show (w.alloc (.cells #[.string ⟨s.toArray⟩] 9)).heap.size = w.heap.size + 1 by simp] at this
  generalize (w.alloc (.cells #[.string ⟨s.toArray⟩] 9)).alloc (.cells #[.slice none 0 0] 31) = w3 at D3 V1 V3 ⊢
  have C3 := Lib.hid (hE.out w3 _ V1 D3 ⟨.slice none 0 0, V3, World.ownsRow_nil _ _ _ _, Below.refl _ _⟩)
  clear hE V1 V3
  refine C3.out.mono ?_
  rintro en w4 ⟨rfl, _, v, hv, hown, hb⟩
  have hc4 := hv.cell
  have hbl := hv.lt
  have HS := Lib.hid (sorth_own v rs w4 (by omega) hown)
  have D4 := D3.trans (hb.mono (Nat.le_succ _))
  have hlow : ∀ k, v.ownBlock = some k → w.heap.size + 1 < k := fun k hk => by have := (hown.lt k hk).1; omega
  have HL := Lib.hid hlow
  have HV := Lib.hid hv
  clear hown hb D3 C3 hv hlow
  go_wp2_with fail
  refine HS.out.mono ?_
  rintro en w5 ⟨rfl, hown5, hgrow5⟩
  have hv5 : Var1 w5 (w.heap.size + 1) v 31 := by
    unfold Var1
    rw [hgrow5.block _ hbl (fun ee => by have := HL.out _ ee.symm; omega)]
    exact HV.out
  have hc5 := hv5.cell
  have HB := Lib.hid (D4.grown hgrow5 D4.size (fun k hk => by have := HL.out k hk; omega))
  have HO := Lib.hid (owns_mono hown5 (show w.heap.size ≤ w.heap.size + 1 + 1 by omega))
  have HRL : Hid (rs.length = hs2.length) := Lib.hid (by rw [← HA.out, srtH_length])
  clear hgrow5 hown5 hv5 hc4 HS D4 HV HL
  go_wp2
  go_ret
  exact ⟨v, rfl, by rw [← HRL.out, ← HA.out]; exact HO.out, HB.out⟩
end Go.Proofs.Ytkpmbappddlcmaa
