/-
  occ.At: walked.
-/
import Derived.Test.YtkpmbappddlcmaaOcE
import Derived.Test.YtkpmbappddlcmaaOcG
import Derived.Test.YtkpmbappddlcmaaAfEn
import Derived.Test.YtkpmbappddlcmaaBut
set_option linter.unusedSimpArgs false
set_option linter.unusedVariables false
namespace Go.Proofs.Ytkpmbappddlcmaa
open Go.RowKit

/-- A variable that lies in a block of its own. -/
def Var1 (w : World) (b : Nat) (v : Value) (T : TypeId) : Prop := w.heap[b]? = some (.cells #[v] T (0, 0))
theorem Var1.cell {w : World} {b : Nat} {v : Value} {T : TypeId} (h : Var1 w b v T) : w.cell? ⟨b, 0, none⟩ = some v := by rw [Lib.cell_of_heap h]; rfl
theorem Var1.frozen {w : World} {b : Nat} {v : Value} {T : TypeId} (h : Var1 w b v T) : w.frozen? ⟨b, 0, none⟩ = false := Lib.frozen_of_heap h 0
theorem Var1.lt {w : World} {b : Nat} {v : Value} {T : TypeId} (h : Var1 w b v T) : b < w.heap.size := lt_of_heap h
theorem Var1.set {w : World} {b : Nat} {v : Value} {T : TypeId} (h : Var1 w b v T) (u : Value) : Var1 (w.setCell ⟨b, 0, none⟩ u) b u T := by
  unfold Var1
  rw [put_heap h]
  rfl

/-- Numbers that grow in a variable: where the variable lies, what it owns; all else is as it was. -/
def Grows (w0 : World) (bl : Nat) (zs : List Int) (W : World) : Prop :=
  ∃ v, Var1 W bl v 33 ∧ W.ownsRow (bl + 1) 3 1 v zs.length (inCells zs) ∧ Below bl w0 W
theorem Grows.put {w0 W1 : World} {bl : Nat} {zs' : List Int} {v v' : Value} (hb : Below bl w0 W1) (hv : Var1 W1 bl v 33) (hown : W1.ownsRow (bl + 1) 3 1 v' zs'.length (inCells zs')) :
    Grows w0 bl zs' (W1.setCell ⟨bl, 0, none⟩ v') := by
  refine ⟨v', hv.set v', ((Into.refl bl W1).set 0 v').owns (by omega) hown, ?_⟩
  exact hb.setCell (Nat.le_refl _) _

set_option maxRecDepth 100000 in
set_option maxHeartbeats 1000000 in
theorem ocat_one (s t : List UInt8) (e k bs be bl : Nat) (zs : List Int) (w0 W : World) (hs : s.length ≤ 1000000) (he : e ≤ s.length) (hz : zs.length ≤ 1000000) (hk : k ≤ 1000000) (T1 T2 : TypeId) (hbs : bs < bl) (hbe : be < bl)
    (v1 : Var1 w0 bs (.string ⟨s.toArray⟩) T1) (v2 : Var1 w0 be (.int .i64 (e : Int)) T2) (hg : Grows w0 bl zs W) :
    Calls Try.prog 35 #[.int .i64 (k : Int), .string ⟨t.toArray⟩, .pointer (some ⟨bs, 0, none⟩), .pointer (some ⟨be, 0, none⟩), .pointer (some ⟨bl, 0, none⟩)] W fun en w' =>
      en = .returned (.tuple #[]) ∧ Grows w0 bl (zs ++ if stB t s e then [(k : Int)] else []) w' := by
  obtain ⟨v, hv, hown, hb⟩ := hg
  have c1 : W.cell? ⟨bs, 0, none⟩ = some (.string ⟨s.toArray⟩) := Var1.cell (T := T1) (by unfold Var1; rw [hb.block bs hbs]; exact v1)
  have c2 : W.cell? ⟨be, 0, none⟩ = some (.int .i64 (e : Int)) := Var1.cell (T := T2) (by unfold Var1; rw [hb.block be hbe]; exact v2)
  have c3 := hv.cell
  have x1 := ext_cut s 0 e
  rw [List.drop_zero] at x1
  have S1 := Lib.hid (bsize s)
  have HE := Lib.hid (ends_any (s.take e) t W (by rw [List.length_take]; omega))
  have hst : stB t s e = Lib.hasSuffix (s.take e) t := by
    rw [Bool.eq_iff_iff, st_iff]
    simp only [Lib.hasSuffix, List.isSuffixOf_iff_suffix]
    exact ⟨fun h => h.2, fun h => ⟨he, h⟩⟩
  rw [hst]
  obtain ⟨i0, hi, hz0, hz1, hz2⟩ := info_parts int_info
  have HV := Lib.hid hv
  have HB := Lib.hid hb
  have g0 : (0 : Int) ≤ (e : Int) := by omega
  have g1 : (e : Int) ≤ (s.length : Int) := by omega
  have hbl := hv.lt
  clear v1 v2 hst hv hb
  cases hq : Lib.hasSuffix (s.take e) t with
  | true =>
    rw [hq] at HE
    clear hq
    generalize s.take e = u at HE x1
    go_enter Try.func35, Try.ntmps35
    go_wp2_with fail
    refine HE.out.mono ?_
    rintro en w' ⟨rfl, hw⟩
    obtain rfl := hw.symm
    clear hw HE
    go_wp2_with (at_builtin; refine wpList_append_own _ rfl _ _ 33 rfl (bl + 1) 3 i0 (.int .i64 0) 1 8 Try.underlying33 hi hz0 hz1 hz2 rfl (by decide) _ _ _ rfl (hown.alloc _) ⟨W.heap.size, 0, none⟩ 1 1 [.int .i64 (k : Int)] rfl rfl (int_news (heap_alloc_new W _)) int_one (by unfold maxLen; omega) (by omega) (by simp; omega) ?_)
    intro v' w3 hown3 hgrow _
    have h3 : Below bl w0 w3 := ((HB.out.alloc (by omega) _).grown hgrow (by simp; omega) (fun j hj => by have := (hown.lt j hj).1; omega))
    have hv3 : Var1 w3 bl v 33 := by
      unfold Var1
      rw [hgrow.block bl (by simp; omega) (fun ee => by have := (hown.lt bl ee.symm).1; omega), Lib.alloc_old _ _ bl (by omega)]
      exact HV.out
    have hf3 := hv3.frozen
    obtain ⟨a3, cap3, rfl⟩ := owns_slice hown3
    have hc3 := hv3.cell
    obtain ⟨a1, cap1, rfl⟩ := owns_slice hown
    have HG := Lib.hid (Grows.put (zs' := zs ++ [(k : Int)]) h3 hv3 (by rw [inCells_snoc, List.length_append]; exact hown3))
    clear hgrow hown hown3 c1 c2 c3 HV HB h3 hv3
    go_wp2
    go_end0
    exact ⟨rfl, HG.out⟩
  | false =>
    rw [hq] at HE
    have HO := Lib.hid hown
    clear hq hown
    generalize s.take e = u at HE x1
    go_enter Try.func35, Try.ntmps35
    go_wp2_with fail
    refine HE.out.mono ?_
    rintro en w' ⟨rfl, hw⟩
    obtain rfl := hw.symm
    clear hw HE
    go_wp2
    go_end0
    exact ⟨rfl, ⟨v, HV.out, HO.out, HB.out⟩⟩

theorem at_enters : ∀ args w, (callFunc 35 args).run Try.prog w = .ok (.enter 35 args) w := enters_of Try.func35 (by kernel_rfl) rfl

set_option maxRecDepth 100000 in
set_option maxHeartbeats 1000000 in
theorem ocat_in {w : World} {p : Option Addr} {us : List (List UInt8)} (h : IsPats w p us) (hl : us.length ≤ 1000000) (s : List UInt8) (e : Nat) (hs : s.length ≤ 1000000) (he : e ≤ s.length) :
    Calls Try.prog 15 #[.pointer p, .string ⟨s.toArray⟩, .int .i64 (e : Int)] w (RetN (idsK us s e us.length) w) := by
  have S1 := Lib.hid (bsize s)
  have hE := Lib.hid (fun (w0 : World) (T1 T2 : TypeId) (h1 : Var1 w0 w.heap.size (.string ⟨s.toArray⟩) T1) (h2 : Var1 w0 (w.heap.size + 1) (.int .i64 (e : Int)) T2) (hb : Below w.heap.size w w0) (h0 : Grows w0 (w.heap.size + 1 + 1) [] w0) =>
    oceach_any 35 #[.pointer (some ⟨w.heap.size, 0, none⟩), .pointer (some ⟨w.heap.size + 1, 0, none⟩), .pointer (some ⟨w.heap.size + 1 + 1, 0, none⟩)] at_enters h hl (fun k W => k ≤ us.length ∧ Grows w0 (w.heap.size + 1 + 1) (idsK us s e k) W)
      (fun k W hk => hb.trans (by obtain ⟨_, v, _, _, hx⟩ := hk; exact hx.mono (by omega)))
      (fun k t W hf hk => by
        have hkl := (List.getElem?_eq_some_iff.1 hf).1
        refine (ocat_one s t e k w.heap.size (w.heap.size + 1) (w.heap.size + 1 + 1) (idsK us s e k) w0 W hs he (by have := ids_length us s e k; omega) (by omega) T1 T2 (by omega) (by omega) h1 h2 hk.2).mono ?_
        rintro en w' ⟨he2, hg⟩
        refine ⟨he2, by omega, ?_⟩
        rw [idsK, List.getD_eq_getElem?_getD, hf]
        exact hg) w0 ⟨Nat.zero_le _, h0⟩)
  have g0 : ¬ (e : Int) < 0 := by omega
  have g1 : ¬ (s.length : Int) < (e : Int) := by omega
  clear h
  go_enter Try.func15, Try.ntmps15
  go_wp2_with fail
  have D3 : Below w.heap.size w (((w.alloc (.cells #[.string ⟨s.toArray⟩] 9)).alloc (.cells #[.int .i64 (e : Int)] 3)).alloc (.cells #[.slice none 0 0] 33)) :=
    (((Below.refl _ w).alloc (Nat.le_refl _) _).alloc (by simp) _).alloc (by simp; omega) _
  have V1 : Var1 (((w.alloc (.cells #[.string ⟨s.toArray⟩] 9)).alloc (.cells #[.int .i64 (e : Int)] 3)).alloc (.cells #[.slice none 0 0] 33)) w.heap.size (.string ⟨s.toArray⟩) 9 := by
    unfold Var1
    rw [Lib.alloc_old _ _ _ (by simp; omega), Lib.alloc_old _ _ _ (by simp)]
    exact heap_alloc_new w _
  have V2 : Var1 (((w.alloc (.cells #[.string ⟨s.toArray⟩] 9)).alloc (.cells #[.int .i64 (e : Int)] 3)).alloc (.cells #[.slice none 0 0] 33)) (w.heap.size + 1) (.int .i64 (e : Int)) 3 := by
    unfold Var1
    rw [Lib.alloc_old _ _ _ (by simp)]
    have := heap_alloc_new (w.alloc (.cells #[.string ⟨s.toArray⟩] 9)) (.cells #[.int .i64 (e : Int)] 3)
    rwa [show (w.alloc (.cells #[.string ⟨s.toArray⟩] 9)).heap.size = w.heap.size + 1 by simp] at this
  have V3 : Var1 (((w.alloc (.cells #[.string ⟨s.toArray⟩] 9)).alloc (.cells #[.int .i64 (e : Int)] 3)).alloc (.cells #[.slice none 0 0] 33)) (w.heap.size + 1 + 1) (.slice none 0 0) 33 := by
    unfold Var1
    have := heap_alloc_new ((w.alloc (.cells #[.string ⟨s.toArray⟩] 9)).alloc (.cells #[.int .i64 (e : Int)] 3)) (.cells #[.slice none 0 0] 33)
    rwa [show ((w.alloc (.cells #[.string ⟨s.toArray⟩] 9)).alloc (.cells #[.int .i64 (e : Int)] 3)).heap.size = w.heap.size + 1 + 1 by simp] at this
  generalize ((w.alloc (.cells #[.string ⟨s.toArray⟩] 9)).alloc (.cells #[.int .i64 (e : Int)] 3)).alloc (.cells #[.slice none 0 0] 33) = w3 at D3 V1 V2 V3 ⊢
  have C3 := Lib.hid (hE.out w3 _ _ V1 V2 D3 ⟨.slice none 0 0, V3, World.ownsRow_nil _ _ _ _, Below.refl _ _⟩)
  clear hE V1 V2 V3
  refine C3.out.mono ?_
  rintro en w4 ⟨rfl, _, v, hv, hown, hb⟩
  have hc4 := hv.cell
  have hown5 := Lib.hid (owns_mono hown (show w.heap.size ≤ w.heap.size + 1 + 1 + 1 by omega))
  have HB := Lib.hid (D3.trans (hb.mono (by omega)))
  clear hv hown hb D3 C3
  go_wp2
  go_ret
  exact ⟨v, rfl, hown5.out, HB.out⟩

set_option maxRecDepth 100000 in
set_option maxHeartbeats 1000000 in
theorem ocat_out (p : Option Addr) (s : List UInt8) (e : Int) (w : World) (he : e < 0 ∨ (s.length : Int) < e) :
    Calls Try.prog 15 #[.pointer p, .string ⟨s.toArray⟩, .int .i64 e] w (RetN [] w) := by
  have S1 := Lib.hid (bsize s)
  have D3 : Below w.heap.size w ((w.alloc (.cells #[.string ⟨s.toArray⟩] 9)).alloc (.cells #[.int .i64 e] 3)) :=
    ((Below.refl _ w).alloc (Nat.le_refl _) _).alloc (by simp) _
  have HD := Lib.hid D3
  clear D3
  by_cases h0 : e < 0
  · clear he
    go_enter Try.func15, Try.ntmps15
    go_wp2
    go_ret
    exact ⟨_, rfl, World.ownsRow_nil _ _ _ _, HD.out⟩
  · have h1 : (s.length : Int) < e := by omega
    clear he
    go_enter Try.func15, Try.ntmps15
    go_wp2
    go_ret
    exact ⟨_, rfl, World.ownsRow_nil _ _ _ _, HD.out⟩

theorem ocat_any {w : World} {p : Option Addr} {us : List (List UInt8)} (h : IsPats w p us) (hl : us.length ≤ 1000000) (s : List UInt8) (e : Int) (hs : s.length ≤ 1000000) :
    Calls Try.prog 15 #[.pointer p, .string ⟨s.toArray⟩, .int .i64 e] w (RetN (atZ us s e) w) := by
  by_cases he : e < 0 ∨ (s.length : Int) < e
  · rw [atZ_out he]
    exact ocat_out p s e w he
  · obtain ⟨n, rfl⟩ : ∃ n : Nat, e = (n : Int) := ⟨e.toNat, by omega⟩
    rw [atZ_in (by omega)]
    exact ocat_in h hl s n hs (by omega)
end Go.Proofs.Ytkpmbappddlcmaa
