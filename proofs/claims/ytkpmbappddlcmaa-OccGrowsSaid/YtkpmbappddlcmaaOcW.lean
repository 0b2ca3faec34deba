/-
  The law's 'awake' of layer 15; the law OccOrders: walked.
-/
import Derived.Test.YtkpmbappddlcmaaOcS
import Derived.Test.YtkpmbappddlcmaaOcY
import Derived.Test.YtkpmbappddlcmaaOcR
import Derived.Test.YtkpmbappddlcmaaOcF
import Derived.Test.YtkpmbappddlcmaaPtUr
set_option linter.unusedSimpArgs false
set_option linter.unusedVariables false
namespace Go.Proofs.Ytkpmbappddlcmaa
open Go.RowKit

theorem ocex_fault : faultL [[97], [97, 98, 97]] = 0 := by decide +kernel
theorem ocex_set : setL [[97], [97, 98, 97]] = [[97], [97, 98, 97]] := by
  rw [set_good ocex_fault, ← ins_srt]; decide +kernel
theorem ocex_all : hitL [[97], [97, 98, 97]] [97, 98, 97, 98, 97] = [(1, 0), (3, 0), (3, 1), (5, 0), (5, 1)] := by decide +kernel
theorem ocex_any : ([[97], [97, 98, 97]].any fun t => decide (0 < (fndB [120, 97] t).length)) = true := by decide +kernel
theorem ocex_cells : hiCells [(1, 0), (3, 0), (3, 1), (5, 0), (5, 1)] = [.int .i64 1, .int .i64 0, .int .i64 3, .int .i64 0, .int .i64 3, .int .i64 1, .int .i64 5, .int .i64 0, .int .i64 5, .int .i64 1] := rfl

set_option maxRecDepth 100000 in
set_option maxHeartbeats 2000000 in
theorem ocawake_any (w : World) :
    Calls Try.prog 7 #[] w fun e w' => e = .returned (.bool true) ∧ Below w.heap.size w w' := by
  have hA := strs_heap (ws := [[97], [97, 98, 97]]) (heap_alloc_new w (.cells (txCells [[97], [97, 98, 97]]).toArray 9)) rfl
  have H1 := Lib.hid (ptnew_all (some ⟨w.heap.size, 0, none⟩) 2 2 _ _ (by omega) hA (by decide))
  rw [ocex_set, ocex_fault] at H1
  have c1 : Below w.heap.size w (w.alloc (.cells (txCells [[97], [97, 98, 97]]).toArray 9)) := (Below.refl _ w).alloc (Nat.le_refl _) _
  have s1 := c1.size
  have HAll := Lib.hid (fun (w2 : World) (p : Option Addr) (h : IsPats w2 p [[97], [97, 98, 97]]) => ocall_any h (by decide) (by decide) [97, 98, 97, 98, 97] (by decide))
  rw [ocex_all] at HAll
  have HAny := Lib.hid (fun (w2 : World) (p : Option Addr) (h : IsPats w2 p [[97], [97, 98, 97]]) => ocany_any h (by decide) (by decide) [120, 97] (by decide))
  rw [ocex_any] at HAny
  clear hA
  go_enter Try.func7, Try.ntmps7
  go_wp2_with fail
  refine H1.out.mono ?_
  rintro e w2 ⟨p, rfl, hs, hb2⟩
  have d2 := c1.trans (hb2.mono s1)
  have e2 := d2.size
  have HP := Lib.hid hs
  have A2 := Lib.hid (HAll.out w2 p hs)
  clear H1 hs hb2 c1 s1 HAll
  go_wp2_with fail
  refine A2.out.mono ?_
  rintro e w3 hret
  obtain ⟨a3, cap3, rfl, hh3, hb3⟩ := hret.use
  have d3 := d2.trans (hb3.mono e2)
  have e3 := d3.size
  have HH3 := Lib.hid hh3
  have HP3 := Lib.hid (HP.out.below hb3)
  clear A2 hret hh3 hb3 HP d2 e2
  go_wp2_with fail
  have G4 : IsHits (w3.alloc (.cells #[.int .i64 1, .int .i64 0, .int .i64 3, .int .i64 0, .int .i64 3, .int .i64 1, .int .i64 5, .int .i64 0, .int .i64 5, .int .i64 1] 44)) (some ⟨w3.heap.size, 0, none⟩) 5 [(1, 0), (3, 0), (3, 1), (5, 0), (5, 1)] :=
    hits_heap (heap_alloc_new w3 (.cells (hiCells [(1, 0), (3, 0), (3, 1), (5, 0), (5, 1)]).toArray 44)) rfl
  have d4 : Below w.heap.size w (w3.alloc (.cells #[.int .i64 1, .int .i64 0, .int .i64 3, .int .i64 0, .int .i64 3, .int .i64 1, .int .i64 5, .int .i64 0, .int .i64 5, .int .i64 1] 44)) := d3.alloc e3 _
  have b4 : Below w3.heap.size w3 (w3.alloc (.cells #[.int .i64 1, .int .i64 0, .int .i64 3, .int .i64 0, .int .i64 3, .int .i64 1, .int .i64 5, .int .i64 0, .int .i64 5, .int .i64 1] 44)) := (Below.refl _ w3).alloc (Nat.le_refl _) _
  generalize w3.alloc (.cells #[.int .i64 1, .int .i64 0, .int .i64 3, .int .i64 0, .int .i64 3, .int .i64 1, .int .i64 5, .int .i64 0, .int .i64 5, .int .i64 1] 44) = w4 at G4 d4 b4 ⊢
  have e4 := d4.size
  have S4 := Lib.hid (hsame_any a3 (some ⟨w3.heap.size, 0, none⟩) 5 cap3 5 _ w4 (by omega) (HH3.out.below b4) G4)
  have HP4 := Lib.hid (HP3.out.below b4)
  clear G4 b4 d3 e3 HH3 HP3
  refine S4.out.mono ?_
  rintro e w5 ⟨rfl, hb5⟩
  have d5 := d4.trans (hb5.mono e4)
  have e5 := d5.size
  have A5 := Lib.hid (HAny.out w5 p (HP4.out.below hb5))
  clear S4 hb5 d4 e4 HP4 HAny
  go_wp2_with fail
  refine A5.out.mono ?_
  rintro e w6 ⟨rfl, hb6⟩
  have d6 := d5.trans (hb6.mono e5)
  clear A5 hb6 d5 e5
  go_wp2
  go_ret
  exact ⟨rfl, d6⟩

theorem below_two {w : World} (o1 o2 : Obj) : Below w.heap.size w ((w.alloc o1).alloc o2) := ((Below.refl _ w).alloc (Nat.le_refl _) _).alloc (by simp) _

set_option maxRecDepth 100000 in
set_option maxHeartbeats 2000000 in
theorem ocorders_long (x y : Ht) (a : Option Addr) (len cap : Nat) (hs : List Ht) (w : World) (hr : IsHits w a len hs) (hl : 100 < len) :
    Calls Try.prog 4 #[.agg #[.int .i64 x.1, .int .i64 x.2], .agg #[.int .i64 y.1, .int .i64 y.2], .slice a len cap] w fun e w' => e = .returned (.bool true) ∧ Below w.heap.size w w' := by
  have HB := Lib.hid (fun o1 o2 => below_two (w := w) o1 o2)
  have g1 : (100 : Int) < (len : Int) := by omega
  obtain ⟨x1, x2⟩ := x
  obtain ⟨y1, y2⟩ := y
  simp only
  clear hr
  go_enter Try.func4, Try.ntmps4
  go_wp2_with fail
  refine (ocawake_any _).mono ?_
  rintro e w2 ⟨rfl, hb2⟩
  have d2 := (HB.out _ _).trans (hb2.mono (HB.out _ _).size)
  clear hb2 HB
  go_wp2
  go_ret
  exact ⟨rfl, d2⟩

set_option maxRecDepth 100000 in
set_option maxHeartbeats 2000000 in
theorem ocorders_same (x1 x2 y1 y2 : Int) (a : Option Addr) (len cap : Nat) (hs : List Ht) (w : World) (hr : IsHits w a len hs) (hl : len ≤ 100) (h1 : ahB (x1, x2) (y1, y2) = false) (h2 : decide ((x1, x2) = (y1, y2)) = true) (h3 : cfH (x1, x2) (y1, y2) = 0) :
    Calls Try.prog 4 #[.agg #[.int .i64 x1, .int .i64 x2], .agg #[.int .i64 y1, .int .i64 y2], .slice a len cap] w fun e w' => e = .returned (.bool true) ∧ Below w.heap.size w w' := by
  have HB := Lib.hid (fun o1 o2 => below_two (w := w) o1 o2)
  have HA := ahead_lays (x1, x2) (y1, y2)
  have HO := order_any (x1, x2) (y1, y2)
  rw [h1] at HA
  rw [h3] at HO
  simp only at HA HO
  have HA2 := Lib.hid HA
  have HO2 := Lib.hid HO
  have hq := run_eq_hit x1 x2 y1 y2
  rw [h2] at hq
  have HR := Lib.hid (fun W (hb : Below w.heap.size w W) => rising_any a len cap hs W (by omega) (hr.below hb))
  have HS := Lib.hid (fun W (hb : Below w.heap.size w W) => rrising_any a len cap hs W (by omega) (hr.below hb))
  generalize riseB hs = β at HR HS
  have hββ : (β == β) = true := by simp
  have g1 : ¬ (100 : Int) < (len : Int) := by omega
  clear hr HA HO h1 h2 h3
  go_enter Try.func4, Try.ntmps4
  go_wp2_with fail
  have d2 : Below w.heap.size w ((w.alloc (.cells #[.int .i64 x1, .int .i64 x2] 44)).alloc (.cells #[.int .i64 y1, .int .i64 y2] 44)) := HB.out _ _
  have k0 : ((w.alloc (.cells #[.int .i64 x1, .int .i64 x2] 44)).alloc (.cells #[.int .i64 y1, .int .i64 y2] 44)).heap[w.heap.size]? = some (.cells #[.int .i64 x1, .int .i64 x2] 44 (0, 0)) := by
    rw [Lib.alloc_old _ _ _ (by simp)]
    exact heap_alloc_new w _
  have k1 : ((w.alloc (.cells #[.int .i64 x1, .int .i64 x2] 44)).alloc (.cells #[.int .i64 y1, .int .i64 y2] 44)).heap[w.heap.size + 1]? = some (.cells #[.int .i64 y1, .int .i64 y2] 44 (0, 0)) := by
    have := heap_alloc_new (w.alloc (.cells #[.int .i64 x1, .int .i64 x2] 44)) (.cells #[.int .i64 y1, .int .i64 y2] 44)
    rwa [show (w.alloc (.cells #[.int .i64 x1, .int .i64 x2] 44)).heap.size = w.heap.size + 1 by simp] at this
  generalize (w.alloc (.cells #[.int .i64 x1, .int .i64 x2] 44)).alloc (.cells #[.int .i64 y1, .int .i64 y2] 44) = w2 at d2 k0 k1 ⊢
  refine (HA2.out w2).mono ?_
  rintro e w3 ⟨rfl, q3, os3, rfl⟩
  have b3 : Below w2.heap.size w2 (Go.Sort.grow (w2.drewN q3) os3) := below_grow q3 os3
  generalize Go.Sort.grow (w2.drewN q3) os3 = w3 at b3 ⊢
  have m0 := (b3.block _ (lt_of_heap k0)).trans k0
  have m1 := (b3.block _ (lt_of_heap k1)).trans k1
  have d3 := d2.trans (b3.mono d2.size)
  have e3 := d3.size
  have c0 : w3.cell? ⟨w.heap.size, 0, none⟩ = some (.int .i64 x1) := by rw [Lib.cell_of_heap m0]; rfl
  have c1 : w3.cell? ⟨w.heap.size, 1, none⟩ = some (.int .i64 x2) := by rw [Lib.cell_of_heap m0]; rfl
  have c2 : w3.cell? ⟨w.heap.size + 1, 0, none⟩ = some (.int .i64 y1) := by rw [Lib.cell_of_heap m1]; rfl
  have c3 : w3.cell? ⟨w.heap.size + 1, 1, none⟩ = some (.int .i64 y2) := by rw [Lib.cell_of_heap m1]; rfl
  clear k0 k1 m0 m1 b3 d2 HA2 HB
  go_wp2_with fail
  refine (HO2.out w3).mono ?_
  rintro e w4 ⟨rfl, hb4⟩
  have d4 := d3.trans (hb4.mono e3)
  have e4 := d4.size
  have R4 := Lib.hid (HR.out w4 d4)
  clear HO2 hb4 c0 c1 c2 c3 d3 e3 HR hq
  go_wp2_with fail
  refine R4.out.mono ?_
  rintro e w5 ⟨rfl, hb5⟩
  have d5 := d4.trans (hb5.mono e4)
  have e5 := d5.size
  have S5 := Lib.hid (HS.out w5 d5)
  clear R4 hb5 d4 e4 HS
  go_wp2_with fail
  refine S5.out.mono ?_
  rintro e w6 ⟨rfl, hb6⟩
  have d6 := d5.trans (hb6.mono e5)
  have e6 := d6.size
  clear S5 hb6 d5 e5
  go_wp2_with fail
  refine (ocawake_any _).mono ?_
  rintro e w7 ⟨rfl, hb7⟩
  have d7 := d6.trans (hb7.mono e6)
  clear hb7 d6 e6
  go_wp2
  go_ret
  exact ⟨rfl, d7⟩

set_option maxRecDepth 100000 in
set_option maxHeartbeats 2000000 in
theorem ocorders_ah (x1 x2 y1 y2 : Int) (a : Option Addr) (len cap : Nat) (hs : List Ht) (w : World) (hr : IsHits w a len hs) (hl : len ≤ 100) (h1 : ahB (x1, x2) (y1, y2) = true) (h2 : decide ((x1, x2) = (y1, y2)) = false) (h3 : cfH (x1, x2) (y1, y2) = -1) :
    Calls Try.prog 4 #[.agg #[.int .i64 x1, .int .i64 x2], .agg #[.int .i64 y1, .int .i64 y2], .slice a len cap] w fun e w' => e = .returned (.bool true) ∧ Below w.heap.size w w' := by
  have HB := Lib.hid (fun o1 o2 => below_two (w := w) o1 o2)
  have HA := ahead_lays (x1, x2) (y1, y2)
  have HO := order_any (x1, x2) (y1, y2)
  rw [h1] at HA
  rw [h3] at HO
  simp only at HA HO
  have HA2 := Lib.hid HA
  have HO2 := Lib.hid HO
  have hq := run_eq_hit x1 x2 y1 y2
  rw [h2] at hq
  have HR := Lib.hid (fun W (hb : Below w.heap.size w W) => rising_any a len cap hs W (by omega) (hr.below hb))
  have HS := Lib.hid (fun W (hb : Below w.heap.size w W) => rrising_any a len cap hs W (by omega) (hr.below hb))
  generalize riseB hs = β at HR HS
  have hββ : (β == β) = true := by simp
  have g1 : ¬ (100 : Int) < (len : Int) := by omega
  clear hr HA HO h1 h2 h3
  go_enter Try.func4, Try.ntmps4
  go_wp2_with fail
  have d2 : Below w.heap.size w ((w.alloc (.cells #[.int .i64 x1, .int .i64 x2] 44)).alloc (.cells #[.int .i64 y1, .int .i64 y2] 44)) := HB.out _ _
  have k0 : ((w.alloc (.cells #[.int .i64 x1, .int .i64 x2] 44)).alloc (.cells #[.int .i64 y1, .int .i64 y2] 44)).heap[w.heap.size]? = some (.cells #[.int .i64 x1, .int .i64 x2] 44 (0, 0)) := by
    rw [Lib.alloc_old _ _ _ (by simp)]
    exact heap_alloc_new w _
  have k1 : ((w.alloc (.cells #[.int .i64 x1, .int .i64 x2] 44)).alloc (.cells #[.int .i64 y1, .int .i64 y2] 44)).heap[w.heap.size + 1]? = some (.cells #[.int .i64 y1, .int .i64 y2] 44 (0, 0)) := by
    have := heap_alloc_new (w.alloc (.cells #[.int .i64 x1, .int .i64 x2] 44)) (.cells #[.int .i64 y1, .int .i64 y2] 44)
    rwa [show (w.alloc (.cells #[.int .i64 x1, .int .i64 x2] 44)).heap.size = w.heap.size + 1 by simp] at this
  generalize (w.alloc (.cells #[.int .i64 x1, .int .i64 x2] 44)).alloc (.cells #[.int .i64 y1, .int .i64 y2] 44) = w2 at d2 k0 k1 ⊢
  refine (HA2.out w2).mono ?_
  rintro e w3 ⟨rfl, q3, os3, rfl⟩
  have b3 : Below w2.heap.size w2 (Go.Sort.grow (w2.drewN q3) os3) := below_grow q3 os3
  generalize Go.Sort.grow (w2.drewN q3) os3 = w3 at b3 ⊢
  have m0 := (b3.block _ (lt_of_heap k0)).trans k0
  have m1 := (b3.block _ (lt_of_heap k1)).trans k1
  have d3 := d2.trans (b3.mono d2.size)
  have e3 := d3.size
  have c0 : w3.cell? ⟨w.heap.size, 0, none⟩ = some (.int .i64 x1) := by rw [Lib.cell_of_heap m0]; rfl
  have c1 : w3.cell? ⟨w.heap.size, 1, none⟩ = some (.int .i64 x2) := by rw [Lib.cell_of_heap m0]; rfl
  have c2 : w3.cell? ⟨w.heap.size + 1, 0, none⟩ = some (.int .i64 y1) := by rw [Lib.cell_of_heap m1]; rfl
  have c3 : w3.cell? ⟨w.heap.size + 1, 1, none⟩ = some (.int .i64 y2) := by rw [Lib.cell_of_heap m1]; rfl
  clear k0 k1 m0 m1 b3 d2 HA2 HB
  go_wp2_with fail
  refine (HO2.out w3).mono ?_
  rintro e w4 ⟨rfl, hb4⟩
  have d4 := d3.trans (hb4.mono e3)
  have e4 := d4.size
  have R4 := Lib.hid (HR.out w4 d4)
  clear HO2 hb4 c0 c1 c2 c3 d3 e3 HR hq
  go_wp2_with fail
  refine R4.out.mono ?_
  rintro e w5 ⟨rfl, hb5⟩
  have d5 := d4.trans (hb5.mono e4)
  have e5 := d5.size
  have S5 := Lib.hid (HS.out w5 d5)
  clear R4 hb5 d4 e4 HS
  go_wp2_with fail
  refine S5.out.mono ?_
  rintro e w6 ⟨rfl, hb6⟩
  have d6 := d5.trans (hb6.mono e5)
  have e6 := d6.size
  clear S5 hb6 d5 e5
  go_wp2_with fail
  refine (ocawake_any _).mono ?_
  rintro e w7 ⟨rfl, hb7⟩
  have d7 := d6.trans (hb7.mono e6)
  clear hb7 d6 e6
  go_wp2
  go_ret
  exact ⟨rfl, d7⟩

set_option maxRecDepth 100000 in
set_option maxHeartbeats 2000000 in
theorem ocorders_else (x1 x2 y1 y2 : Int) (a : Option Addr) (len cap : Nat) (hs : List Ht) (w : World) (hr : IsHits w a len hs) (hl : len ≤ 100) (h1 : ahB (x1, x2) (y1, y2) = false) (h2 : decide ((x1, x2) = (y1, y2)) = false) (h3 : cfH (x1, x2) (y1, y2) = 1) :
    Calls Try.prog 4 #[.agg #[.int .i64 x1, .int .i64 x2], .agg #[.int .i64 y1, .int .i64 y2], .slice a len cap] w fun e w' => e = .returned (.bool true) ∧ Below w.heap.size w w' := by
  have HB := Lib.hid (fun o1 o2 => below_two (w := w) o1 o2)
  have HA := ahead_lays (x1, x2) (y1, y2)
  have HO := order_any (x1, x2) (y1, y2)
  rw [h1] at HA
  rw [h3] at HO
  simp only at HA HO
  have HA2 := Lib.hid HA
  have HO2 := Lib.hid HO
  have hq := run_eq_hit x1 x2 y1 y2
  rw [h2] at hq
  have HR := Lib.hid (fun W (hb : Below w.heap.size w W) => rising_any a len cap hs W (by omega) (hr.below hb))
  have HS := Lib.hid (fun W (hb : Below w.heap.size w W) => rrising_any a len cap hs W (by omega) (hr.below hb))
  generalize riseB hs = β at HR HS
  have hββ : (β == β) = true := by simp
  have g1 : ¬ (100 : Int) < (len : Int) := by omega
  clear hr HA HO h1 h2 h3
  go_enter Try.func4, Try.ntmps4
  go_wp2_with fail
  have d2 : Below w.heap.size w ((w.alloc (.cells #[.int .i64 x1, .int .i64 x2] 44)).alloc (.cells #[.int .i64 y1, .int .i64 y2] 44)) := HB.out _ _
  have k0 : ((w.alloc (.cells #[.int .i64 x1, .int .i64 x2] 44)).alloc (.cells #[.int .i64 y1, .int .i64 y2] 44)).heap[w.heap.size]? = some (.cells #[.int .i64 x1, .int .i64 x2] 44 (0, 0)) := by
    rw [Lib.alloc_old _ _ _ (by simp)]
    exact heap_alloc_new w _
  have k1 : ((w.alloc (.cells #[.int .i64 x1, .int .i64 x2] 44)).alloc (.cells #[.int .i64 y1, .int .i64 y2] 44)).heap[w.heap.size + 1]? = some (.cells #[.int .i64 y1, .int .i64 y2] 44 (0, 0)) := by
    have := heap_alloc_new (w.alloc (.cells #[.int .i64 x1, .int .i64 x2] 44)) (.cells #[.int .i64 y1, .int .i64 y2] 44)
    rwa [show (w.alloc (.cells #[.int .i64 x1, .int .i64 x2] 44)).heap.size = w.heap.size + 1 by simp] at this
  generalize (w.alloc (.cells #[.int .i64 x1, .int .i64 x2] 44)).alloc (.cells #[.int .i64 y1, .int .i64 y2] 44) = w2 at d2 k0 k1 ⊢
  refine (HA2.out w2).mono ?_
  rintro e w3 ⟨rfl, q3, os3, rfl⟩
  have b3 : Below w2.heap.size w2 (Go.Sort.grow (w2.drewN q3) os3) := below_grow q3 os3
  generalize Go.Sort.grow (w2.drewN q3) os3 = w3 at b3 ⊢
  have m0 := (b3.block _ (lt_of_heap k0)).trans k0
  have m1 := (b3.block _ (lt_of_heap k1)).trans k1
  have d3 := d2.trans (b3.mono d2.size)
  have e3 := d3.size
  have c0 : w3.cell? ⟨w.heap.size, 0, none⟩ = some (.int .i64 x1) := by rw [Lib.cell_of_heap m0]; rfl
  have c1 : w3.cell? ⟨w.heap.size, 1, none⟩ = some (.int .i64 x2) := by rw [Lib.cell_of_heap m0]; rfl
  have c2 : w3.cell? ⟨w.heap.size + 1, 0, none⟩ = some (.int .i64 y1) := by rw [Lib.cell_of_heap m1]; rfl
  have c3 : w3.cell? ⟨w.heap.size + 1, 1, none⟩ = some (.int .i64 y2) := by rw [Lib.cell_of_heap m1]; rfl
  clear k0 k1 m0 m1 b3 d2 HA2 HB
  go_wp2_with fail
  refine (HO2.out w3).mono ?_
  rintro e w4 ⟨rfl, hb4⟩
  have d4 := d3.trans (hb4.mono e3)
  have e4 := d4.size
  have R4 := Lib.hid (HR.out w4 d4)
  clear HO2 hb4 c0 c1 c2 c3 d3 e3 HR hq
  go_wp2_with fail
  refine R4.out.mono ?_
  rintro e w5 ⟨rfl, hb5⟩
  have d5 := d4.trans (hb5.mono e4)
  have e5 := d5.size
  have S5 := Lib.hid (HS.out w5 d5)
  clear R4 hb5 d4 e4 HS
  go_wp2_with fail
  refine S5.out.mono ?_
  rintro e w6 ⟨rfl, hb6⟩
  have d6 := d5.trans (hb6.mono e5)
  have e6 := d6.size
  clear S5 hb6 d5 e5
  go_wp2_with fail
  refine (ocawake_any _).mono ?_
  rintro e w7 ⟨rfl, hb7⟩
  have d7 := d6.trans (hb7.mono e6)
  clear hb7 d6 e6
  go_wp2
  go_ret
  exact ⟨rfl, d7⟩

theorem ocorders_few (x y : Ht) (a : Option Addr) (len cap : Nat) (hs : List Ht) (w : World) (hr : IsHits w a len hs) (hl : len ≤ 100) :
    Calls Try.prog 4 #[.agg #[.int .i64 x.1, .int .i64 x.2], .agg #[.int .i64 y.1, .int .i64 y.2], .slice a len cap] w fun e w' => e = .returned (.bool true) ∧ Below w.heap.size w w' := by
  obtain ⟨x1, x2⟩ := x
  obtain ⟨y1, y2⟩ := y
  by_cases h : (x1, x2) = (y1, y2)
  · exact ocorders_same x1 x2 y1 y2 a len cap hs w hr hl (by rw [h]; exact ah_irr _) (decide_eq_true h) (cf_same h)
  · cases hq : ahB (x1, x2) (y1, y2) with
    | true => exact ocorders_ah x1 x2 y1 y2 a len cap hs w hr hl hq (decide_eq_false h) (cf_ah hq)
    | false => exact ocorders_else x1 x2 y1 y2 a len cap hs w hr hl hq (decide_eq_false h) (cf_else h hq)
end Go.Proofs.Ytkpmbappddlcmaa
