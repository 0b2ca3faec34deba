/-
  Texts put together: AfSo, AfO, PtF, PtC, PtN, PtU, SpA, TrLt, TrY, SpR.
-/
import Derived.Test.YtnechkljecdfkaaBn7
import Derived.Sort.OwnSorted
import Derived.Test.YtnechkljecdfkaaBn4
import Derived.Test.YtnechkljecdfkaaBn1
import Derived.Test.YtnechkljecdfkaaBn2
import Derived.Test.YtnechkljecdfkaaShelf
import Derived.Lib.MinMax
import Derived.OneCell
import Derived.Test.YtnechkljecdfkaaBn6
import Derived.Test.YtnechkljecdfkaaBn3
import Derived.Deep.RegionWith
set_option linter.unusedSimpArgs false
set_option linter.unusedVariables false
namespace Go.Proofs.Ytnechkljecdfkaa
open Go.RowKit
open Go.Sort hiding Below

/-- A list of texts, owned. -/
def RetO (ws : List (List UInt8)) (w : World) (e : Ending) (w' : World) : Prop := ∃ v, e = .returned v ∧ w'.ownsRow w.heap.size 9 1 v ws.length (txCells ws) ∧ Below w.heap.size w w'

theorem clone_own (a : Option Addr) (len cap : Nat) (ws : List (List UInt8)) (w : World) (hl : len ≤ 1000000) (hr : IsStrs w a len ws) :
    Calls Try.prog 36 #[.slice a len cap] w (RetO ws w) := by
  have hwl := hr.1
  by_cases h0 : len = 0
  · subst h0
    obtain rfl : ws = [] := List.eq_nil_of_length_eq_zero hwl
    cases a with
    | none =>
      refine (Try.slices_Clone_string_nil 0 cap w).mono ?_
      rintro e w' ⟨rfl, rfl⟩
      exact ⟨_, rfl, World.ownsRow_nil _ _ _ _, Below.refl _ _⟩
    | some x =>
      refine (Try.slices_Clone_string_zero x cap w).mono ?_
      rintro e w' ⟨v, rfl, hown, hv, hb⟩
      exact ⟨v, rfl, hown, hb⟩
  · obtain ⟨b, off, rfl, _⟩ := str_at hr (Below.refl _ _) 0 (by omega)
    refine (Try.slices_Clone_string b off len cap (ws.map fun t => (⟨t.toArray⟩ : ByteArray)) w (by simp; omega) (by omega) ?_).mono ?_
    · intro j hj
      rw [List.length_map] at hj
      obtain ⟨b', off', e', t, hf, hc⟩ := str_at hr (Below.refl _ _) j (by omega)
      cases e'
      rw [hc]
      congr 2
      simp [List.getD, hf]
    · rintro e w' ⟨v, rfl, hown, hv, hb⟩
      have e1 : ((ws.map fun t => (⟨t.toArray⟩ : ByteArray)).take len).map Value.string = txCells ws := by
        rw [List.take_of_length_le (by simp; omega), List.map_map]; rfl
      rw [e1, ← hwl] at hown
      exact ⟨v, rfl, hown, hb⟩

theorem lt_of (x y : List UInt8) : ltOf Lib.compareBytes x y = decide (x < y) := by
  unfold ltOf
  rw [Bool.eq_iff_iff]
  simp only [decide_eq_true_eq]
  exact cmp_neg x y
theorem swoB : Sort.SWO (ltOf Lib.compareBytes) where
  irrefl x := by rw [lt_of]; simp [List.lt_irrefl]
  trans x y z h1 h2 := by rw [lt_of] at *; simp only [decide_eq_true_eq] at *; exact List.lt_trans h1 h2
  ntrans x y z h1 h2 := by
    rw [lt_of] at *
    simp only [decide_eq_false_iff_not, List.not_lt] at *
    exact List.le_trans h2 h1
theorem sort_is (ws : List (List UInt8)) : (ws.mergeSort fun x y => !(ltOf Lib.compareBytes) y x) = srt ws := by
  unfold srt
  congr 1
  funext x y
  rw [lt_of]
  by_cases h : x ≤ y
  · have h' : ¬ y < x := List.not_lt.2 h
    simp [h, h']
  · have h' : y < x := List.not_le.1 h
    simp [h, h']
theorem part_all (x y : List UInt8) (h1 : ltOf Lib.compareBytes x y = false) (h2 : ltOf Lib.compareBytes y x = false) : x = y := by
  rw [lt_of] at h1 h2
  simp only [decide_eq_false_iff_not, List.not_lt] at h1 h2
  exact List.le_antisymm h2 h1

theorem cmp_enters : ∀ args w, (callFunc 38 args).run Try.prog w = .ok (.enter 38 args) w := enters_of Try.func38 (by kernel_rfl) rfl
theorem cmp_reads (blk off size : Nat) (w : World) : CmpReads Try.prog 38 #[] encStr Lib.compareBytes blk off size w :=
  fun _ _ _ _ x y => (compare_any x y _).mono fun _ _ ⟨he, hw⟩ => ⟨he, 0, hw⟩

/-- The sort at a slice of the call's own. -/
theorem sort_own {base : Nat} (v : Value) (ws : List (List UInt8)) (w : World) (hl : ws.length ≤ 1000000) (hown : w.ownsRow base 9 1 v ws.length (txCells ws)) :
    Calls Try.prog 37 #[v, .func (.func 38) #[] #[]] w fun e w' => e = .returned (.tuple #[]) ∧ w'.ownsRow base 9 1 v ws.length (txCells (srt ws)) ∧ w.grownBy w' v.ownBlock := by
  rcases hown.2 with ⟨rfl, h0⟩ | ⟨g, cap, cur, rfl, hbase, hb, h1, h2, h3, h4⟩
  · obtain rfl : ws = [] := List.eq_nil_of_length_eq_zero h0
    refine (Try.slices_SortFunc_none (α := List UInt8) none 0 _ w).mono ?_
    rintro e w' ⟨rfl, rfl⟩
    exact ⟨rfl, by rw [show srt [] = [] from List.eq_nil_of_length_eq_zero (srt_length [])]; exact hown, ⟨rfl, rfl, rfl, Nat.le_refl _, fun _ _ _ => rfl⟩⟩
  · have hlt : g < w.heap.size := (Array.getElem?_eq_some_iff.1 hb).1
    have h := Try.slices_SortFunc_total encStr (fun _ => rfl) Lib.compareBytes swoB 38 #[] g 0 cap ws.toArray w cmp_enters (cmp_reads g 0 ws.toArray.size w).lays
      (holds_of_block hb (by rw [Nat.mul_one] at h4; exact h4)) hlt (by simp; omega) part_all
    simp only [List.size_toArray, List.toList_toArray] at h
    rw [sort_is] at h
    refine h.mono ?_
    rintro e w' ⟨rfl, n, os, rfl⟩
    exact ⟨rfl, ownsRow_sorted (srt_length ws) hbase hb h1 h2 h3, grownBy_sorted _⟩

set_option maxHeartbeats 1000000 in
theorem sorted_any (a : Option Addr) (len cap : Nat) (ws : List (List UInt8)) (w : World) (hl : len ≤ 1000000) (hr : IsStrs w a len ws) :
    Calls Try.prog 20 #[.slice a len cap] w (RetO (srt ws) w) := by
  have HC := Lib.hid (clone_own a len cap ws w hl hr)
  have hwl := hr.1
  clear hr
  go_enter Try.func20, Try.ntmps20
  go_wp2_with fail
  refine HC.out.mono ?_
  rintro e w1 ⟨v, rfl, hown, hb1⟩
  have HS := Lib.hid (sort_own v ws w1 (by omega) hown)
  go_wp2_with fail
  refine HS.out.mono ?_
  rintro e w2 ⟨rfl, hown2, hgrow⟩
  have h2 : Below w.heap.size w w2 := hb1.grown hgrow hb1.size (fun k hk => (hown.lt k hk).1)
  clear hgrow hown HC HS
  go_wp2
  go_ret
  exact ⟨v, rfl, by rw [srt_length]; exact hown2, h2⟩
end Go.Proofs.Ytnechkljecdfkaa

namespace Go.Proofs.Ytnechkljecdfkaa
open Go.RowKit

theorem owns_mono {w : World} {base base' : Nat} {e : TypeId} {size : Nat} {v : Value} {n : Nat} {xs : List Value} (h : w.ownsRow base e size v n xs) (hb : base' ≤ base) : w.ownsRow base' e size v n xs := by
  obtain ⟨h1, h2 | ⟨g, cap, cur, hv, hg, h3⟩⟩ := h
  · exact ⟨h1, .inl h2⟩
  · exact ⟨h1, .inr ⟨g, cap, cur, hv, Nat.le_trans hb hg, h3⟩⟩
theorem own_cap {w : World} {base : Nat} {e : TypeId} {g n cap : Nat} {xs : List Value} (h : w.ownsRow base e 1 (.slice (some ⟨g, 0, none⟩) n cap) n xs) : n ≤ cap ∧ cap ≤ maxLen := by
  obtain ⟨_, ⟨h1, _⟩ | ⟨g', cap', cur, hv, _, _, h1, h2, _⟩⟩ := h
  · cases h1
  · cases hv; exact ⟨h1, h2⟩
theorem own_part {w : World} {base : Nat} {e : TypeId} {g n cap : Nat} {ws : List (List UInt8)} (h : w.ownsRow base e 1 (.slice (some ⟨g, 0, none⟩) n cap) n (txCells ws)) (m : Nat) :
    ∀ j u, (txCells (ws.take m))[j]? = some u → w.cell? ((⟨g, 0, none⟩ : Addr).add j) = some u := fun j u hj => by
  refine h.cells rfl j u ?_
  unfold txCells at hj ⊢
  rw [List.map_take, List.getElem?_take] at hj
  split at hj
  · exact hj
  · cases hj
theorem own_rest {w : World} {base : Nat} {e : TypeId} {g n cap : Nat} {ws : List (List UInt8)} (h : w.ownsRow base e 1 (.slice (some ⟨g, 0, none⟩) n cap) n (txCells ws)) (m : Nat) :
    ∀ j u, (txCells (ws.drop m))[j]? = some u → w.cell? ((⟨g, m, none⟩ : Addr).add j) = some u := fun j u hj => by
  have := h.cells rfl (m + j) u (by
    unfold txCells at hj ⊢
    rw [List.map_drop, List.getElem?_drop] at hj
    exact hj)
  rw [addPlain] at this ⊢
  rwa [Nat.zero_add] at this
theorem own_at {w : World} {base : Nat} {e : TypeId} {g n cap : Nat} {ws : List (List UInt8)} (h : w.ownsRow base e 1 (.slice (some ⟨g, 0, none⟩) n cap) n (txCells ws)) {j : Nat} {t : List UInt8} (ht : ws[j]? = some t) : w.cell? ⟨g, j, none⟩ = some (.string ⟨t.toArray⟩) := by
  have := h.cells rfl j (.string ⟨t.toArray⟩) (by unfold txCells; rw [List.getElem?_map, ht]; rfl)
  rw [addPlain] at this
  rwa [Nat.zero_add] at this
theorem tx_one {ws : List (List UInt8)} : ∀ u ∈ txCells ws, u.oneCell' = true := by
  intro u hu
  unfold txCells at hu
  rw [List.mem_map] at hu
  obtain ⟨t, _, rfl⟩ := hu
  rfl
theorem own_form {w : World} {base : Nat} {e : TypeId} {v : Value} {n : Nat} {xs : List Value} (h : w.ownsRow base e 1 v (n + 1) xs) : ∃ g cap, v = .slice (some ⟨g, 0, none⟩) (n + 1) cap := by
  obtain ⟨_, ⟨_, h1⟩ | ⟨g, cap, cur, hv, _⟩⟩ := h
  · omega
  · exact ⟨g, cap, hv⟩
theorem txCells_length (ws : List (List UInt8)) : (txCells ws).length = ws.length := by simp [txCells]
theorem txCells_append (ws us : List (List UInt8)) : txCells (ws ++ us) = txCells ws ++ txCells us := by simp [txCells]
theorem insS_at {acc : List (List UInt8)} {t : List UInt8} {m : Nat} (h : posS acc t acc.length = m) : insS acc t = acc.take m ++ ([t] ++ acc.drop m) := by unfold insS; rw [h]
theorem fold_snoc {ws : List (List UInt8)} {k : Nat} {t : List UInt8} (h : ws[k]? = some t) : (ws.take (k + 1)).foldl insS [] = insS ((ws.take k).foldl insS []) t := by
  obtain ⟨hk, rfl⟩ := List.getElem?_eq_some_iff.1 h
  rw [List.take_succ_eq_append_getElem hk, List.foldl_append]; rfl

set_option maxHeartbeats 2000000 in
theorem rsorted_any (a : Option Addr) (len cap : Nat) (ws : List (List UInt8)) (w : World) (hlen : len ≤ 1000000) (hr : IsStrs w a len ws) :
    Calls Try.prog 23 #[.slice a len cap] w (RetO (srt ws) w) := by
  have hwl := hr.1
  have HI := Lib.hid hr
  have HW : Hid ((ws.take len).foldl insS [] = srt ws) := Lib.hid (by rw [List.take_of_length_le (by omega)]; exact ins_srt ws)
  obtain ⟨i0, hi, hz0, hz1, hz2⟩ := info_parts string_info
  clear hr
  go_enter Try.func23, Try.ntmps23
  go_wp2
  go_loopw [3, 4, 5, 6] (fun v i x y wr => ∃ (k g cap' : Nat) (acc : List (List UInt8)), k ≤ len ∧ i = .int .i64 k ∧ v = .slice (some ⟨g, 0, none⟩) k cap' ∧ acc.length = k ∧ Hid ((ws.take k).foldl insS [] = acc) ∧ wr.ownsRow w.heap.size 9 1 (.slice (some ⟨g, 0, none⟩) k cap') k (txCells acc) ∧ Below w.heap.size w wr) (fun _ i _ _ _ => len - (RowKit.intOf i).toNat)
  case atStart => exact ⟨0, w.heap.size, 0, [], Nat.zero_le _, rfl, rfl, rfl, Lib.hid rfl, World.ownsRow_made w #[] 0 (Nat.le_refl _) (by unfold maxLen; omega) rfl, (Below.refl _ _).alloc (Nat.le_refl _) _⟩
  case round =>
    obtain ⟨k, g, cap', acc, hk, rfl, rfl, hacc, HK, hown, hbe⟩ := hrel
    by_cases hlt : k < len
    · obtain ⟨W1, hW1⟩ : ∃ W1, W1 = wr := ⟨_, rfl⟩
      subst hW1
      obtain ⟨t, hf⟩ : ∃ t, ws[k]? = some t := ⟨_, List.getElem?_eq_getElem (show k < ws.length by omega)⟩
      have HF : Hid ((ws.take (k + 1)).foldl insS [] = insS acc t) := Lib.hid (by rw [fold_snoc hf, HK.out])
      obtain ⟨p, hp⟩ : ∃ p, posS acc t acc.length = p := ⟨_, rfl⟩
      have HP := Lib.hid (insS_at hp)
      have HQ : Hid (posS acc t k = p) := Lib.hid (by rw [← hacc]; exact hp)
      have Hf := Lib.hid hf
      clear hp HK hf
      go_wp2
      go_loopw [5] (fun x wr => ∃ m : Nat, m ≤ k ∧ x = .int .i64 m ∧ Hid (posS acc t m = p) ∧ wr.ownsRow w.heap.size 9 1 (.slice (some ⟨g, 0, none⟩) k cap') k (txCells acc) ∧ Below w.heap.size w wr) (fun x _ => (RowKit.intOf x).toNat)
      case atStart => exact ⟨k, Nat.le_refl _, rfl, HQ, hown, hbe⟩
      case round =>
        clear hown hbe
        obtain ⟨m, hm, rfl, HM, hown, hbe⟩ := hrel
        have d0 : (0 : Int) ≤ (k : Int) := by omega
        have d1 : (k : Int) < (len : Int) := by omega
        by_cases h0 : m = 0
        · subst h0
          have HR : Hid (insS acc t = acc.take 0 ++ ([t] ++ acc.drop 0)) := Lib.hid (by
            have := HM.out; rw [HP.out, ← this]; rfl)
          go_wp2_with fail
          go_quiet (fail)
          obtain ⟨W2, hW2⟩ : ∃ W2, W2 = wr.drewN nq := ⟨_, rfl⟩
          rw [← hW2]
          have hbe2 : Below w.heap.size w W2 := by rw [hW2]; exact below_drewS hbe _
          have hown2 : W2.ownsRow w.heap.size 9 1 (.slice (some ⟨g, 0, none⟩) k cap') k (txCells acc) := by rw [hW2]; exact hown
          clear hW2 hown hbe
          have hsz := hbe2.size
          have hcap := own_cap hown2
          have hglt := (hown2.lt g rfl).2
          obtain ⟨b3, off3, hab, t2, hf2, hc⟩ := str_at HI.out hbe2 k hlt
          cases hab
          rw [show t2 = t from Option.some.inj (hf2.symm.trans Hf.out)] at hc
          have hblt := World.block_lt_of_cell? W2 _ hc
          clear hf2
          have g1 : (0 : Int) ≤ (0 : Int) := by omega
          have g2 : (0 : Int) ≤ (k : Int) := by omega
          have g3 : (0 : Int) ≤ (cap' : Int) := by omega
          have g4 : (k : Int) ≤ (cap' : Int) := by omega
          have hmade : (W2.alloc (.cells #[] 9)).ownsRow W2.heap.size 9 1 (.slice (some ⟨W2.heap.size, 0, none⟩) 0 0) 0 [] := World.ownsRow_made W2 #[] 0 (Nat.le_refl _) (by unfold maxLen; omega) rfl
          have OA := Lib.hid (hown2.alloc (.cells #[] 9))
          have hp1 := own_part OA.out 0
          have hc1 : (W2.alloc (.cells #[] 9)).cell? ⟨b3, off3 + k, none⟩ = some (.string ⟨t.toArray⟩) := (((Below.refl W2.heap.size W2).alloc (Nat.le_refl _) _).cell (p := ⟨b3, off3 + k, none⟩) hblt).trans hc
          go_wp2_with (at_builtin; refine wpList_append_own _ rfl _ _ 22 rfl W2.heap.size 9 i0 (.string ByteArray.empty) 1 16 Try.underlying22 hi hz0 hz1 hz2 rfl (by decide) _ _ _ rfl hmade ⟨g, 0, none⟩ 0 cap' (txCells (acc.take 0)) rfl (by rw [txCells_length, List.length_take]; omega) hp1 tx_one (by unfold maxLen; omega) (by omega) (by simp) ?_)
          intro v1 w1 own1 grow1 _
          have A1 : Below W2.heap.size W2 w1 := ((Below.refl W2.heap.size W2).alloc (Nat.le_refl _) _).grown grow1 (by simp) (fun j hj => by cases hj; exact Nat.le_refl _)
          have own1' : w1.ownsRow W2.heap.size 9 1 v1 0 (txCells (acc.take 0)) := by first | exact own1 | (rw [Nat.zero_add] at own1; exact own1)
          have s1 := A1.size
          have hc2 : w1.cell? ⟨b3, off3 + k, none⟩ = some (.string ⟨t.toArray⟩) := (A1.cell (p := ⟨b3, off3 + k, none⟩) hblt).trans hc
          clear own1 grow1 hmade OA hp1 hc1
          go_wp2_with (at_builtin; refine wpList_append_own _ rfl _ _ 22 rfl W2.heap.size 9 i0 (.string ByteArray.empty) 1 16 Try.underlying22 hi hz0 hz1 hz2 rfl (by decide) _ _ _ rfl (own1'.alloc _) ⟨w1.heap.size, 0, none⟩ 1 1 (txCells [t]) rfl rfl (one_news (heap_alloc_new w1 _)) tx_one (by unfold maxLen; omega) (by omega) (by simp; omega) ?_)
          intro v2 w2 own2 grow2 _
          have A2 : Below W2.heap.size W2 w2 := (A1.alloc s1 _).grown grow2 (by simp; omega) (fun j hj => (own1'.lt j hj).1)
          have s2 := A2.size
          have O2 := Lib.hid (tx_below hown2 A2)
          have hp2 := own_rest O2.out 0
          clear grow2 own1'
          have ho : ∀ (w5 : World) (v5 : Value), w5.ownsRow W2.heap.size 9 1 v5 (0 + 1 + (k - 0)) ((txCells (acc.take 0) ++ txCells [t]) ++ txCells (acc.drop 0)) → w5.ownsRow w.heap.size 9 1 v5 (k + 1) (txCells (insS acc t)) := fun w5 v5 h => by
            rw [show 0 + 1 + (k - 0) = k + 1 by omega, ← txCells_append, ← txCells_append, List.append_assoc, ← HR.out] at h
            exact owns_mono h hsz
          have HO := Lib.hid ho
          have hil : (insS acc t).length = k + 1 := by rw [(insS_perm acc t).length_eq, List.length_cons, hacc]
          have g5 : (k : Int) - (0 : Int) = ((k - 0 : Nat) : Int) := by omega
          clear ho
          by_cases hcm : cap' = 0
          · have hkm : k = 0 := by omega
            go_wp2_with (at_builtin; refine wpList_append_own _ rfl _ _ 22 rfl W2.heap.size 9 i0 (.string ByteArray.empty) 1 16 Try.underlying22 hi hz0 hz1 hz2 rfl (by decide) _ _ _ rfl own2 ⟨g, 0, none⟩ 0 0 (txCells []) rfl rfl (fun j u h => by cases h) tx_one (by unfold maxLen; omega) (by omega) (by omega) ?_)
            intro v3 w3 own3 grow3 _
            have A3 : Below W2.heap.size W2 w3 := A2.grown grow3 s2 (fun j hj => (own2.lt j hj).1)
            have e4 : k - 0 = 0 := by omega
            have e5 : acc.drop 0 = [] := List.drop_eq_nil_of_le (by omega)
            have own4 := HO.out w3 v3 (by rw [e4, e5]; first | exact own3 | (rw [List.append_assoc]; exact own3))
            have B3 : Below w.heap.size w w3 := hbe2.trans (A3.mono hsz)
            clear own3 own2 grow3 O2 hp2 HO e4 e5
            have hfm := own_form own4
            obtain ⟨g', cap2, rfl⟩ := hfm
            go_wp2
            exact ⟨⟨k + 1, g', cap2, insS acc t, by omega, by go_num, rfl, hil, HF, own4, B3⟩, by simp [RowKit.intOf]; omega⟩
          · go_wp2_with (at_builtin; refine wpList_append_own _ rfl _ _ 22 rfl W2.heap.size 9 i0 (.string ByteArray.empty) 1 16 Try.underlying22 hi hz0 hz1 hz2 rfl (by decide) _ _ _ rfl own2 ⟨g, 0, none⟩ (k - 0) (cap' - 0) (txCells (acc.drop 0)) rfl (by rw [txCells_length, List.length_drop]; omega) hp2 tx_one (by unfold maxLen; omega) (by omega) (by omega) ?_)
            intro v3 w3 own3 grow3 _
            have A3 : Below W2.heap.size W2 w3 := A2.grown grow3 s2 (fun j hj => (own2.lt j hj).1)
            have own4 := HO.out w3 v3 (by first | exact own3 | (rw [List.append_assoc]; exact own3))
            have B3 : Below w.heap.size w w3 := hbe2.trans (A3.mono hsz)
            clear own3 own2 grow3 O2 hp2 HO
            have hfm := own_form own4
            obtain ⟨g', cap2, rfl⟩ := hfm
            go_wp2
            exact ⟨⟨k + 1, g', cap2, insS acc t, by omega, by go_num, rfl, hil, HF, own4, B3⟩, by simp [RowKit.intOf]; omega⟩
        · obtain ⟨n, rfl⟩ : ∃ n, m = n + 1 := ⟨m - 1, by omega⟩
          obtain ⟨b, off, rfl, t', hf', hc⟩ := str_at HI.out hbe k hlt
          obtain rfl : t' = t := Option.some.inj (hf'.symm.trans Hf.out)
          obtain ⟨u, hu⟩ : ∃ u, acc[n]? = some u := ⟨_, List.getElem?_eq_getElem (show n < acc.length by omega)⟩
          have hcu := own_at hown hu
          have e1 : ((n + 1 : Nat) : Int) - 1 = (n : Int) := by omega
          have e2 : ((n + 1 : Nat) : Int) = (n : Int) + 1 := by omega
          have d2 : (0 : Int) ≤ (n : Int) := by omega
          have d3 : (n : Int) < (k : Int) := by omega
          have d4 : decide ((0 : Int) < (n : Int) + 1) = true := decide_eq_true (by omega)
          have d5 : (0 : Int) < (n : Int) + 1 := by omega
          cases hq : Op.bytesLess t' u with
          | true =>
            have HN : Hid (posS acc t' n = p) := Lib.hid (by rw [← posS_hit hu hq]; exact HM.out)
            rw [e2]
            clear hf' hu HM
            go_wp2_with fail
            go_quiet (fail)
            go_wp2
            exact ⟨⟨n, by omega, by go_num, HN, hown, below_drewS hbe _⟩, by simp [RowKit.intOf]⟩
          | false =>
            have HR : Hid (insS acc t' = acc.take (n + 1) ++ ([t'] ++ acc.drop (n + 1))) := Lib.hid (by
              have := HM.out; rw [posS_miss hu hq] at this; rw [HP.out, ← this])
            rw [e2]
            clear hf' hu HM
            go_wp2_with fail
            go_quiet (fail)
            obtain ⟨m, hmm⟩ : ∃ m, m = n + 1 := ⟨_, rfl⟩
            rw [← e2, ← hmm]
            rw [← hmm] at HR
            have gm : m ≤ k := by omega
            have HMM := Lib.hid hmm
            clear hcu e1 e2 d2 d3 d4 d5 hq hmm
            clear hm
            obtain ⟨W2, hW2⟩ : ∃ W2, W2 = wr.drewN nq := ⟨_, rfl⟩
            rw [← hW2]
            have hbe2 : Below w.heap.size w W2 := by rw [hW2]; exact below_drewS hbe _
            have hown2 : W2.ownsRow w.heap.size 9 1 (.slice (some ⟨g, 0, none⟩) k cap') k (txCells acc) := by rw [hW2]; exact hown
            clear hW2 hown hbe
            have hsz := hbe2.size
            have hcap := own_cap hown2
            have hglt := (hown2.lt g rfl).2
            obtain ⟨b3, off3, hab, t2, hf2, hc⟩ := str_at HI.out hbe2 k hlt
            cases hab
            rw [show t2 = t' from Option.some.inj (hf2.symm.trans Hf.out)] at hc
            have hblt := World.block_lt_of_cell? W2 _ hc
            clear hf2
            have g1 : (0 : Int) ≤ (m : Int) := by omega
            have g2 : (m : Int) ≤ (k : Int) := by omega
            have g3 : (m : Int) ≤ (cap' : Int) := by omega
            have g4 : (k : Int) ≤ (cap' : Int) := by omega
            have hmade : (W2.alloc (.cells #[] 9)).ownsRow W2.heap.size 9 1 (.slice (some ⟨W2.heap.size, 0, none⟩) 0 0) 0 [] := World.ownsRow_made W2 #[] 0 (Nat.le_refl _) (by unfold maxLen; omega) rfl
            have OA := Lib.hid (hown2.alloc (.cells #[] 9))
            have hp1 := own_part OA.out m
            have hc1 : (W2.alloc (.cells #[] 9)).cell? ⟨b, off + k, none⟩ = some (.string ⟨t'.toArray⟩) := (((Below.refl W2.heap.size W2).alloc (Nat.le_refl _) _).cell (p := ⟨b, off + k, none⟩) hblt).trans hc
            go_wp2_with (at_builtin; refine wpList_append_own _ rfl _ _ 22 rfl W2.heap.size 9 i0 (.string ByteArray.empty) 1 16 Try.underlying22 hi hz0 hz1 hz2 rfl (by decide) _ _ _ rfl hmade ⟨g, 0, none⟩ m cap' (txCells (acc.take m)) rfl (by rw [txCells_length, List.length_take]; omega) hp1 tx_one (by unfold maxLen; omega) (by omega) (by simp) ?_)
            intro v1 w1 own1 grow1 _
            have A1 : Below W2.heap.size W2 w1 := ((Below.refl W2.heap.size W2).alloc (Nat.le_refl _) _).grown grow1 (by simp) (fun j hj => by cases hj; exact Nat.le_refl _)
            have own1' : w1.ownsRow W2.heap.size 9 1 v1 m (txCells (acc.take m)) := by first | exact own1 | (rw [Nat.zero_add] at own1; exact own1)
            have s1 := A1.size
            have hc2 : w1.cell? ⟨b, off + k, none⟩ = some (.string ⟨t'.toArray⟩) := (A1.cell (p := ⟨b, off + k, none⟩) hblt).trans hc
            clear own1 grow1 hmade OA hp1 hc1
            go_wp2_with (at_builtin; refine wpList_append_own _ rfl _ _ 22 rfl W2.heap.size 9 i0 (.string ByteArray.empty) 1 16 Try.underlying22 hi hz0 hz1 hz2 rfl (by decide) _ _ _ rfl (own1'.alloc _) ⟨w1.heap.size, 0, none⟩ 1 1 (txCells [t']) rfl rfl (one_news (heap_alloc_new w1 _)) tx_one (by unfold maxLen; omega) (by omega) (by simp; omega) ?_)
            intro v2 w2 own2 grow2 _
            have A2 : Below W2.heap.size W2 w2 := (A1.alloc s1 _).grown grow2 (by simp; omega) (fun j hj => (own1'.lt j hj).1)
            have s2 := A2.size
            have O2 := Lib.hid (tx_below hown2 A2)
            have hp2 := own_rest O2.out m
            clear grow2 own1'
            have ho : ∀ (w5 : World) (v5 : Value), w5.ownsRow W2.heap.size 9 1 v5 (m + 1 + (k - m)) ((txCells (acc.take m) ++ txCells [t']) ++ txCells (acc.drop m)) → w5.ownsRow w.heap.size 9 1 v5 (k + 1) (txCells (insS acc t')) := fun w5 v5 h => by
              rw [show m + 1 + (k - m) = k + 1 by omega, ← txCells_append, ← txCells_append, List.append_assoc, ← HR.out] at h
              exact owns_mono h hsz
            have HO := Lib.hid ho
            have hil : (insS acc t').length = k + 1 := by rw [(insS_perm acc t').length_eq, List.length_cons, hacc]
            have g5 : (k : Int) - (m : Int) = ((k - m : Nat) : Int) := by omega
            clear ho
            by_cases hcm : cap' = m
            · have hkm : k = m := by omega
              go_wp2_with (at_builtin; refine wpList_append_own _ rfl _ _ 22 rfl W2.heap.size 9 i0 (.string ByteArray.empty) 1 16 Try.underlying22 hi hz0 hz1 hz2 rfl (by decide) _ _ _ rfl own2 ⟨g, 0, none⟩ 0 0 (txCells []) rfl rfl (fun j u h => by cases h) tx_one (by unfold maxLen; omega) (by omega) (by omega) ?_)
              intro v3 w3 own3 grow3 _
              have A3 : Below W2.heap.size W2 w3 := A2.grown grow3 s2 (fun j hj => (own2.lt j hj).1)
              have e4 : k - m = 0 := by omega
              have e5 : acc.drop m = [] := List.drop_eq_nil_of_le (by omega)
              have own4 := HO.out w3 v3 (by rw [e4, e5]; first | exact own3 | (rw [List.append_assoc]; exact own3))
              have B3 : Below w.heap.size w w3 := hbe2.trans (A3.mono hsz)
              clear own3 own2 grow3 O2 hp2 HO e4 e5
              have hfm := own_form own4
              obtain ⟨g', cap2, rfl⟩ := hfm
              go_wp2
              exact ⟨⟨k + 1, g', cap2, insS acc t', by omega, by go_num, rfl, hil, HF, own4, B3⟩, by simp [RowKit.intOf]; omega⟩
            · go_wp2_with (at_builtin; refine wpList_append_own _ rfl _ _ 22 rfl W2.heap.size 9 i0 (.string ByteArray.empty) 1 16 Try.underlying22 hi hz0 hz1 hz2 rfl (by decide) _ _ _ rfl own2 ⟨g, m, none⟩ (k - m) (cap' - m) (txCells (acc.drop m)) rfl (by rw [txCells_length, List.length_drop]; omega) hp2 tx_one (by unfold maxLen; omega) (by omega) (by omega) ?_)
              intro v3 w3 own3 grow3 _
              have A3 : Below W2.heap.size W2 w3 := A2.grown grow3 s2 (fun j hj => (own2.lt j hj).1)
              have own4 := HO.out w3 v3 (by first | exact own3 | (rw [List.append_assoc]; exact own3))
              have B3 : Below w.heap.size w w3 := hbe2.trans (A3.mono hsz)
              clear own3 own2 grow3 O2 hp2 HO
              have hfm := own_form own4
              obtain ⟨g', cap2, rfl⟩ := hfm
              go_wp2
              exact ⟨⟨k + 1, g', cap2, insS acc t', by omega, by go_num, rfl, hil, HF, own4, B3⟩, by simp [RowKit.intOf]; omega⟩
    · obtain rfl : k = len := by omega
      have HE : Hid (srt ws = acc) := Lib.hid (by rw [← HW.out, HK.out])
      clear HK HW
      go_wp2
      go_ret
      exact ⟨_, rfl, by rw [HE.out, hacc]; exact hown, hbe⟩
end Go.Proofs.Ytnechkljecdfkaa

namespace Go.Proofs.Ytnechkljecdfkaa
open Go.RowKit

theorem len_empty {t : List UInt8} (h : ¬ t.length = 0) : t.isEmpty = false := by cases t with | nil => simp at h | cons _ _ => rfl

set_option maxHeartbeats 2000000 in
theorem ptfault_any (a : Option Addr) (len cap : Nat) (ws : List (List UInt8)) (w : World) (hlen : len ≤ 1000000) (hr : IsStrs w a len ws) (ht : ∀ t ∈ ws, t.length ≤ 1000000000) :
    Calls Try.prog 19 #[.slice a len cap] w fun e w' => e = .returned (.int .i64 (faultL ws)) ∧ Below w.heap.size w w' := by
  have hwl := hr.1
  by_cases h0 : len = 0
  · have HE := Lib.hid (fault_none (ws := ws) (by omega))
    subst h0
    clear hr ht
    go_enter Try.func19, Try.ntmps19
    go_wp2
    go_ret
    exact ⟨by rw [HE.out]; rfl, Below.refl _ _⟩
  · by_cases h1 : 65535 < len
    · have HE := Lib.hid (fault_many (ws := ws) (by omega))
      clear hr ht
      go_enter Try.func19, Try.ntmps19
      go_wp2
      go_ret
      exact ⟨by rw [HE.out]; rfl, Below.refl _ _⟩
    · have HI := Lib.hid hr
      have HT := Lib.hid ht
      have HW : Hid (ws.take len = ws) := Lib.hid (List.take_of_length_le (by omega))
      have HL : Hid (¬ ws.length = 0 ∧ ¬ 65535 < ws.length) := Lib.hid (by omega)
      have H2 := Lib.hid (twice_any a len cap ws w hlen hr (fun t h => by have := ht t h; unfold maxLen; omega))
      clear hr ht
      go_enter Try.func19, Try.ntmps19
      go_wp2
      go_loop [3, 16] (fun x i => ∃ k T : Nat, k ≤ len ∧ i = .int .i64 k ∧ x = .int .i64 T ∧ T ≤ k * 65535 ∧ Hid (totalL (ws.take k) = T) ∧ Hid (badS (ws.take k) = none)) (fun _ i => len - (RowKit.intOf i).toNat)
      case atStart => exact ⟨0, 0, Nat.zero_le _, rfl, rfl, by omega, Lib.hid rfl, Lib.hid rfl⟩
      case round =>
        obtain ⟨k, T, hk, rfl, rfl, hT, HK, HB⟩ := hrel
        by_cases hlt : k < len
        · obtain ⟨b, off, rfl, t, hf, hc⟩ := str_at HI.out (Below.refl _ _) k hlt
          have HS := Lib.hid (bsize t)
          have htl := HT.out t (List.mem_of_getElem? hf)
          by_cases e0 : t.length = 0
          · have HE := Lib.hid (fault_bad HL.out.1 HL.out.2 (bad_zero HB.out hf e0))
            obtain rfl : t = [] := List.eq_nil_of_length_eq_zero e0
            clear hf HK HB H2
            go_wp2
            go_ret
            exact ⟨by rw [HE.out]; rfl, Below.refl _ _⟩
          · have g0 := len_empty e0
            by_cases e1 : 65535 < t.length
            · have HE := Lib.hid (fault_bad HL.out.1 HL.out.2 (bad_long HB.out hf e1))
              clear hf HK HB H2
              go_wp2
              go_ret
              exact ⟨by rw [HE.out]; rfl, Below.refl _ _⟩
            · have HB2 := Lib.hid (bad_snoc HB.out hf e0 e1)
              have HK2 : Hid (totalL (ws.take (k + 1)) = T + t.length) := Lib.hid (by rw [total_snoc hf, HK.out])
              clear hf HK HB H2
              go_wp2
              exact ⟨⟨k + 1, T + t.length, by omega, by go_num, by go_num, by omega, HK2, HB2⟩, by simp [RowKit.intOf]; omega⟩
        · obtain rfl : k = len := by omega
          have HK2 : Hid (totalL ws = T) := Lib.hid (by have := HK.out; rwa [HW.out] at this)
          have HB2 : Hid (badS ws = none) := Lib.hid (by have := HB.out; rwa [HW.out] at this)
          clear HK HB
          by_cases e2 : 16777216 < T
          · have HE := Lib.hid (fault_full HL.out.1 HL.out.2 HB2.out (by rw [HK2.out]; exact e2))
            clear H2
            go_wp2
            go_ret
            exact ⟨by rw [HE.out]; rfl, Below.refl _ _⟩
          · have HZ : Hid (if 0 ≤ twS [] ws 0 then faultL ws = 8 else faultL ws = 0) := Lib.hid (by
              split
              · exact fault_twice HL.out.1 HL.out.2 HB2.out (by rw [HK2.out]; exact e2) ‹_›
              · exact fault_good HL.out.1 HL.out.2 HB2.out (by rw [HK2.out]; exact e2) ‹_›)
            generalize twS [] ws 0 = z at HZ H2
            by_cases e3 : 0 ≤ z
            · have HE : Hid (faultL ws = 8) := Lib.hid (by have := HZ.out; rwa [if_pos e3] at this)
              go_wp2_with fail
              refine H2.out.mono ?_
              rintro e w2 ⟨rfl, hb⟩
              go_wp2
              go_ret
              exact ⟨by rw [HE.out]; rfl, hb⟩
            · have HE : Hid (faultL ws = 0) := Lib.hid (by have := HZ.out; rwa [if_neg e3] at this)
              go_wp2_with fail
              refine H2.out.mono ?_
              rintro e w2 ⟨rfl, hb⟩
              go_wp2
              go_ret
              exact ⟨by rw [HE.out]; rfl, hb⟩

/-- What the document's New answers. -/
def NewR (ws : List (List UInt8)) (w : World) (e : Ending) (w' : World) : Prop :=
  ∃ (a : Option Addr) (cap : Nat) (L : List (List UInt8)), e = .returned (.tuple #[.slice a L.length cap, .int .i64 (faultL ws)]) ∧ (faultL ws = 0 → L = srt ws) ∧ (¬ faultL ws = 0 → L = [] ∧ a = none ∧ cap = 0) ∧ IsStrs w' a L.length L ∧ Below w.heap.size w w'
theorem NewR.bad {ws : List (List UInt8)} {w w' : World} {k : Int} (he : faultL ws = k) (hk : ¬ k = 0) (hb : Below w.heap.size w w') : NewR ws w (.returned (.tuple #[.slice none 0 0, .int .i64 k])) w' :=
  ⟨none, 0, [], by rw [he]; rfl, fun h => absurd (he.symm.trans h) hk, fun _ => ⟨rfl, rfl, rfl⟩, ⟨rfl, .inl rfl⟩, hb⟩

set_option maxHeartbeats 2000000 in
theorem rptnew_any (a : Option Addr) (len cap : Nat) (ws : List (List UInt8)) (w : World) (hlen : len ≤ 1000000) (hr : IsStrs w a len ws) (ht : ∀ t ∈ ws, t.length ≤ 1000000000) :
    Calls Try.prog 8 #[.slice a len cap] w (NewR ws w) := by
  have hwl := hr.1
  by_cases h0 : len = 0
  · have HE := Lib.hid (fault_none (ws := ws) (by omega))
    subst h0
    clear hr ht
    go_enter Try.func8, Try.ntmps8
    go_wp2
    go_ret2
    exact NewR.bad HE.out (by decide) (Below.refl _ _)
  · by_cases h1 : 65535 < len
    · have HE := Lib.hid (fault_many (ws := ws) (by omega))
      clear hr ht
      go_enter Try.func8, Try.ntmps8
      go_wp2
      go_ret2
      exact NewR.bad HE.out (by decide) (Below.refl _ _)
    · have HI := Lib.hid hr
      have HT := Lib.hid ht
      have HW : Hid (ws.take len = ws) := Lib.hid (List.take_of_length_le (by omega))
      have HL : Hid (¬ ws.length = 0 ∧ ¬ 65535 < ws.length) := Lib.hid (by omega)
      have H2 := Lib.hid (rtwice_any a len cap ws w hlen hr)
      have H3 := Lib.hid (fun (w2 : World) (hb : Below w.heap.size w w2) => rsorted_any a len cap ws w2 hlen (hr.below hb))
      clear hr ht
      go_enter Try.func8, Try.ntmps8
      go_wp2
      go_loop [4, 5] (fun x i => ∃ k T : Nat, k ≤ len ∧ i = .int .i64 k ∧ x = .int .i64 T ∧ T ≤ k * 65535 ∧ Hid (totalL (ws.take k) = T) ∧ Hid (badS (ws.take k) = none)) (fun _ i => len - (RowKit.intOf i).toNat)
      case atStart => exact ⟨0, 0, Nat.zero_le _, rfl, rfl, by omega, Lib.hid rfl, Lib.hid rfl⟩
      case round =>
        obtain ⟨k, T, hk, rfl, rfl, hT, HK, HB⟩ := hrel
        by_cases hlt : k < len
        · obtain ⟨b, off, rfl, t, hf, hc⟩ := str_at HI.out (Below.refl _ _) k hlt
          have HS := Lib.hid (bsize t)
          have htl := HT.out t (List.mem_of_getElem? hf)
          by_cases e0 : t.length = 0
          · have HE := Lib.hid (fault_bad HL.out.1 HL.out.2 (bad_zero HB.out hf e0))
            obtain rfl : t = [] := List.eq_nil_of_length_eq_zero e0
            clear hf HK HB H2 H3
            go_wp2
            go_ret2
            exact NewR.bad HE.out (by decide) (Below.refl _ _)
          · have g0 := len_empty e0
            by_cases e1 : 65535 < t.length
            · have HE := Lib.hid (fault_bad HL.out.1 HL.out.2 (bad_long HB.out hf e1))
              clear hf HK HB H2 H3
              go_wp2
              go_ret2
              exact NewR.bad HE.out (by decide) (Below.refl _ _)
            · have HB2 := Lib.hid (bad_snoc HB.out hf e0 e1)
              have HK2 : Hid (totalL (ws.take (k + 1)) = T + t.length) := Lib.hid (by rw [total_snoc hf, HK.out])
              clear hf HK HB H2 H3
              go_wp2
              exact ⟨⟨k + 1, T + t.length, by omega, by go_num, by go_num, by omega, HK2, HB2⟩, by simp [RowKit.intOf]; omega⟩
        · obtain rfl : k = len := by omega
          have HK2 : Hid (totalL ws = T) := Lib.hid (by have := HK.out; rwa [HW.out] at this)
          have HB2 : Hid (badS ws = none) := Lib.hid (by have := HB.out; rwa [HW.out] at this)
          clear HK HB
          by_cases e2 : 16777216 < T
          · have HE := Lib.hid (fault_full HL.out.1 HL.out.2 HB2.out (by rw [HK2.out]; exact e2))
            clear H2 H3
            go_wp2
            go_ret2
            exact NewR.bad HE.out (by decide) (Below.refl _ _)
          · have HZ : Hid (if 0 ≤ twS [] ws 0 then faultL ws = 8 else faultL ws = 0) := Lib.hid (by
              split
              · exact fault_twice HL.out.1 HL.out.2 HB2.out (by rw [HK2.out]; exact e2) ‹_›
              · exact fault_good HL.out.1 HL.out.2 HB2.out (by rw [HK2.out]; exact e2) ‹_›)
            generalize twS [] ws 0 = z at HZ H2
            by_cases e3 : 0 ≤ z
            · have HE : Hid (faultL ws = 8) := Lib.hid (by have := HZ.out; rwa [if_pos e3] at this)
              clear H3
              go_wp2_with fail
              refine H2.out.mono ?_
              rintro e w2 ⟨rfl, hb⟩
              go_wp2
              go_ret2
              exact NewR.bad HE.out (by decide) hb
            · have HE : Hid (faultL ws = 0) := Lib.hid (by have := HZ.out; rwa [if_neg e3] at this)
              go_wp2_with fail
              refine H2.out.mono ?_
              rintro e w2 ⟨rfl, hb⟩
              have H4 := Lib.hid (H3.out w2 hb)
              clear H2 H3
              go_wp2_with fail
              refine H4.out.mono ?_
              rintro e w3 ⟨v, rfl, hown, hb3⟩
              have d3 := hb.trans (hb3.mono hb.size)
              obtain ⟨ao, cap', rfl, hs⟩ := owns_strs hown
              have HR := Lib.hid hs
              clear hown hb3 H4 hs
              go_wp2
              go_ret2
              exact ⟨ao, cap', srt ws, by rw [HE.out]; rfl, fun _ => rfl, fun h => absurd HE.out h, HR.out, d3⟩
end Go.Proofs.Ytnechkljecdfkaa

namespace Go.Proofs.Ytnechkljecdfkaa
open Go.RowKit

theorem sclone_any (s : ByteArray) (w : World) (hs : s.size ≤ 1000000000) :
    Calls Try.prog 21 #[.string s] w fun e w' => e = .returned (.string s) ∧ Below w.heap.size w w' := by
  have H := Lib.hid (Try.stringslite_Clone s w (by omega))
  go_enter Try.func21, Try.ntmps21
  go_wp2_with fail
  refine H.out.mono ?_
  rintro e w' ⟨rfl, hb⟩
  go_wp2
  go_ret
  exact ⟨rfl, hb⟩

/-- A cell behind a call that was made where the heap was as it is here. -/
theorem cell_heap {w W w' : World} {a : Addr} {v : Value} (h : w.cell? a = some v) (hb : Below W.heap.size W w') (e : W.heap = w.heap) : w'.cell? a = some v := by
  have h1 : W.cell? a = some v := by rw [← h]; exact World.cell?_of_block (w := w) (by rw [e])
  rw [hb.cell (World.block_lt_of_cell? W a h1)]
  exact h1
theorem frozen_heap {w W w' : World} {a : Addr} {v : Value} (h : w.frozen? a = false) (hc : w.cell? a = some v) (hb : Below W.heap.size W w') (e : W.heap = w.heap) : w'.frozen? a = false := by
  have hl := World.block_lt_of_cell? w a hc
  rw [hb.frozen (by rw [e]; exact hl), World.frozen?_of_block (w := w) (by rw [e])]
  exact h
end Go.Proofs.Ytnechkljecdfkaa

namespace Go.Proofs.Ytnechkljecdfkaa
open Go.RowKit

set_option maxHeartbeats 1000000 in
theorem ptnew_bad (a : Option Addr) (len cap : Nat) (ws : List (List UInt8)) (w : World) (hlen : len ≤ 1000000) (hr : IsStrs w a len ws) (ht : ∀ t ∈ ws, t.length ≤ 1000000000) (hf : ¬ faultL ws = 0) :
    Calls Try.prog 7 #[.slice a len cap] w fun e w' => e = .returned (.tuple #[.pointer none, .int .i64 (faultL ws)]) ∧ Below w.heap.size w w' := by
  have HF := Lib.hid (ptfault_any a len cap ws w hlen hr ht)
  generalize faultL ws = f at HF hf ⊢
  clear hr ht
  go_enter Try.func7, Try.ntmps7
  go_wp2_with fail
  refine HF.out.mono ?_
  rintro e w' ⟨rfl, hb⟩
  go_wp2
  go_ret2
  exact ⟨rfl, hb⟩

/-- A set of which the first k patterns are counted. -/
def Half (base : Nat) (w : World) (b : Nat) (v : Value) (ws : List (List UInt8)) (k : Nat) : Prop :=
  w.heap[b]? = some (.cells #[v, .int .i64 (leastL (ws.take k) : Int), .int .i64 (mostL (ws.take k) : Int), .int .i64 (totalL (ws.take k) : Int)] 45 (0, 0)) ∧ w.ownsRow base 9 1 v ws.length (txCells ws) ∧ v.ownBlock ≠ some b

/-- An element is stored anew as it was. -/
theorem own_again {w : World} {base g n cap : Nat} {ws : List (List UInt8)} {k : Nat} {t : List UInt8} (h : w.ownsRow base 9 1 (.slice (some ⟨g, 0, none⟩) n cap) n (txCells ws)) (hk : ws[k]? = some t) :
    (w.setCell ⟨g, k, none⟩ (.string ⟨t.toArray⟩)).ownsRow base 9 1 (.slice (some ⟨g, 0, none⟩) n cap) n (txCells ws) := by
  have hc := own_at h hk
  obtain ⟨h1, h2 | ⟨g', cap', cur, hv, hb, hh, h3⟩⟩ := h
  · cases h2.1
  · cases hv
    refine ⟨h1, .inr ⟨g, cap, cur, rfl, hb, ?_, h3⟩⟩
    rw [set_put hh]
    rw [Lib.cell_of_heap hh] at hc
    obtain ⟨hi, e⟩ := Array.getElem?_eq_some_iff.1 hc
    congr 2
    refine Array.ext (by simp) fun i h1 h2 => ?_
    rw [Array.getElem_setIfInBounds]
    split
    · rename_i h
      subst h
      exact e.symm
    · rfl

theorem half_again {w W : World} {base b g n cap : Nat} {ws : List (List UInt8)} {k m : Nat} {t : List UInt8} (h : Half base w b (.slice (some ⟨g, 0, none⟩) n cap) ws m) (hn : ws.length = n) (hb : Below w.heap.size w W) (hk : ws[k]? = some t) :
    Half base (W.setCell ⟨g, k, none⟩ (.string ⟨t.toArray⟩)) b (.slice (some ⟨g, 0, none⟩) n cap) ws m := by
  obtain ⟨h1, h2, h3⟩ := h
  have hne : b ≠ g := fun e => h3 (by rw [e]; rfl)
  refine ⟨?_, ?_, h3⟩
  · rw [Below.heap_setCell _ _ _ _ hne]
    exact (hb.block b (heap_lt h1)).trans h1
  · rw [hn] at h2 ⊢
    exact own_again (tx_below h2 hb) hk

set_option maxHeartbeats 4000000 in
theorem ptnew_good (a : Option Addr) (len cap : Nat) (ws : List (List UInt8)) (w : World) (hlen : len ≤ 1000000) (hr : IsStrs w a len ws) (hf : faultL ws = 0) :
    Calls Try.prog 7 #[.slice a len cap] w fun e w' => ∃ b, e = .returned (.tuple #[.pointer (some ⟨b, 0, none⟩), .int .i64 0]) ∧ w.heap.size ≤ b ∧ IsSet w' b (srt ws) ∧ Below w.heap.size w w' := by
  have hP := (fault_zero ws).1 hf
  have hS := hP.srt
  have ht : ∀ t ∈ ws, t.length ≤ 1000000000 := fun t h => by have := (hP.each t h).2; omega
  have HF := Lib.hid (ptfault_any a len cap ws w hlen hr ht)
  rw [hf] at HF
  have HS := Lib.hid (fun (w2 : World) (hb : Below w.heap.size w w2) => sorted_any a len cap ws w2 hlen (hr.below hb))
  have hwl := hr.1
  have HL : Hid ((srt ws).length = len) := Lib.hid (by rw [srt_length]; exact hwl)
  have HE : Hid (∀ t ∈ srt ws, t.length ≤ 65535) := Lib.hid (fun t h => (hS.each t h).2)
  have hl1 : 1 ≤ len := by have := hP.some; omega
  have hl2 : len ≤ 65535 := by have := hP.few; omega
  have HT0 : Hid (totalL (srt ws) ≤ 16777216) := Lib.hid hS.total
  clear hP hS ht hf hr hwl
  generalize srt ws = us at HS HL HE HT0 ⊢
  go_enter Try.func7, Try.ntmps7
  go_wp2_with fail
  refine HF.out.mono ?_
  rintro e w1 ⟨rfl, hb1⟩
  have HS1 := Lib.hid (HS.out w1 hb1)
  clear HF HS
  go_wp2_with fail
  refine HS1.out.mono ?_
  rintro e w2 ⟨v, rfl, hown, hb2⟩
  have d2 := hb1.trans (hb2.mono hb1.size)
  obtain ⟨n1, rfl⟩ : ∃ n, len = n + 1 := ⟨len - 1, by omega⟩
  rw [HL.out] at hown
  obtain ⟨g, cap2, rfl⟩ := own_form hown
  have hg := hown.lt g rfl
  have hsz := d2.size
  have hown2 := owns_mono hown hb1.size
  have HH : Hid (Half w.heap.size (w2.alloc (.cells #[.slice (some ⟨g, 0, none⟩) (n1 + 1) cap2, .int .i64 65535, .int .i64 0, .int .i64 0] 45)) w2.heap.size (.slice (some ⟨g, 0, none⟩) (n1 + 1) cap2) us 0) :=
    Lib.hid ⟨heap_alloc_new w2 _, by rw [HL.out]; exact hown2.alloc _, by intro e; cases e; exact absurd hg.2 (Nat.lt_irrefl _)⟩
  have D3 : Below w.heap.size w (w2.alloc (.cells #[.slice (some ⟨g, 0, none⟩) (n1 + 1) cap2, .int .i64 65535, .int .i64 0, .int .i64 0] 45)) := d2.alloc hsz _
  have hbb : w.heap.size ≤ w2.heap.size := hsz
  obtain ⟨b, hbq⟩ : ∃ b, w2.heap.size = b := ⟨_, rfl⟩
  rw [hbq] at HH hbb
  have hgb : g ≠ b := by omega
  have hgw : w.heap.size ≤ g := by have := hb1.size; omega
  have HQ := Lib.hid hbq
  clear hown hown2 hb1 hb2 d2 hg HS1 hbq
  obtain ⟨n, hn⟩ : ∃ n, n1 + 1 = n := ⟨_, rfl⟩
  rw [hn] at HL HH D3 hl1 hl2 ⊢
  clear hn
  have z0 : min (65535 : Int) 0 = 0 := by omega
  go_wp2_with fail
  rw [HQ.out]
  go_loopw [22] (fun i wr => ∃ k : Nat, k ≤ n ∧ i = .int .i64 k ∧ Hid (Half w.heap.size wr b (.slice (some ⟨g, 0, none⟩) n cap2) us k) ∧ Below w.heap.size w wr) (fun i _ => n - (RowKit.intOf i).toNat)
  case atStart => exact ⟨0, Nat.zero_le _, rfl, HH, D3⟩
  case round =>
    obtain ⟨k, hk, rfl, HK, hbe⟩ := hrel
    by_cases hlt : k < n
    · obtain ⟨t, hf⟩ : ∃ t, us[k]? = some t := ⟨_, List.getElem?_eq_getElem (show k < us.length by rw [HL.out]; exact hlt)⟩
      have htl := HE.out t (List.mem_of_getElem? hf)
      have HS := Lib.hid (bsize t)
      have hK := HK.out
      obtain ⟨hh, ho, hne⟩ := hK
      have c0 : wr.cell? ⟨b, 0, none⟩ = some (.slice (some ⟨g, 0, none⟩) n cap2) := by rw [Lib.cell_of_heap hh]; rfl
      have hcT : wr.cell? ⟨g, k, none⟩ = some (.string ⟨t.toArray⟩) := by rw [HL.out] at ho; exact own_at ho hf
      have hfT : wr.frozen? ⟨g, k, none⟩ = false := by
        obtain ⟨_, h2 | ⟨g', cap', cur, hv, _, hh2, _⟩⟩ := ho
        · cases h2.1
        · cases hv; exact Lib.frozen_of_heap hh2 k
      have hcO : ∀ W w3 : World, Below W.heap.size W w3 → W.heap = wr.heap → w3.cell? ⟨b, 0, none⟩ = some (.slice (some ⟨g, 0, none⟩) n cap2) ∧ w3.cell? ⟨g, k, none⟩ = some (.string ⟨t.toArray⟩) ∧ w3.frozen? ⟨g, k, none⟩ = false := fun W w3 hb e => ⟨cell_heap c0 hb e, cell_heap hcT hb e, frozen_heap hfT hcT hb e⟩
      have HO := Lib.hid hcO
      have HC := Lib.hid (fun W => sclone_any ⟨t.toArray⟩ W (by rw [bsize]; omega))
      clear hh ho hne hcO
      have g0 : (0 : Int) ≤ (k : Int) := by omega
      have g1 : (k : Int) < (n : Int) := by omega
      go_wp2_with fail
      go_region_with (go_at_call 21; refine (HC.out _).mono ?_; rintro e w3 ⟨rfl, hb3⟩; (obtain ⟨q0, q1, q2⟩ := HO.out _ _ hb3 (by rfl)))
      all_goals
        have H4 := half_again (show Half w.heap.size wr.drew b (.slice (some ⟨g, 0, none⟩) n cap2) us k from HK.out) HL.out hb3 hf
        have B4 : Below w.heap.size w (w3.setCell ⟨g, k, none⟩ (.string ⟨t.toArray⟩)) := (hbe.drew.trans (hb3.mono hbe.size)).setCell hgw _
        generalize w3.setCell ⟨g, k, none⟩ (.string ⟨t.toArray⟩) = w4 at H4 B4 ⊢
        have HA : Hid ((leastL (us.take (k + 1)) : Int) = min (leastL (us.take k) : Int) (t.length : Int) ∧ (mostL (us.take (k + 1)) : Int) = max (mostL (us.take k) : Int) (t.length : Int) ∧ (totalL (us.take (k + 1)) : Int) = (totalL (us.take k) : Int) + (t.length : Int)) :=
          Lib.hid (by rw [least_snoc hf, most_snoc hf, total_snoc hf]; omega)
        have hT : totalL (us.take k) + t.length ≤ 16777216 := by
          have := total_take_le us (k + 1)
          rw [total_snoc hf] at this
          have := HT0.out
          omega
        obtain ⟨hh, ho, hne⟩ := H4
        clear hf HK hbe hb3 q0 q1 q2 c0 hcT hfT HO HC
        generalize leastL (us.take k) = L at hh HA
        generalize mostL (us.take k) = M at hh HA
        generalize totalL (us.take k) = T at hh HA hT
        obtain ⟨L2, hL2⟩ : ∃ L2, min (L : Int) (t.length : Int) = L2 := ⟨_, rfl⟩
        obtain ⟨M2, hM2⟩ : ∃ M2, max (M : Int) (t.length : Int) = M2 := ⟨_, rfl⟩
        rw [hL2, hM2] at HA
        have c1 : w4.cell? ⟨b, 1, none⟩ = some (.int .i64 (L : Int)) := by rw [Lib.cell_of_heap hh]; rfl
        have c2 : w4.cell? ⟨b, 2, none⟩ = some (.int .i64 (M : Int)) := by rw [Lib.cell_of_heap hh]; rfl
        have c3 : w4.cell? ⟨b, 3, none⟩ = some (.int .i64 (T : Int)) := by rw [Lib.cell_of_heap hh]; rfl
        have f1 : w4.frozen? ⟨b, 1, none⟩ = false := Lib.frozen_of_heap hh 1
        have f2 : w4.frozen? ⟨b, 2, none⟩ = false := Lib.frozen_of_heap hh 2
        have f3 : w4.frozen? ⟨b, 3, none⟩ = false := Lib.frozen_of_heap hh 3
        have HH4 := Lib.hid hh
        have HO4 := Lib.hid ho
        have HN4 := Lib.hid hne
        clear hh ho hne
        go_wp2_with fail
        refine ⟨⟨k + 1, by omega, by go_num, Lib.hid ⟨?_, ?_, HN4.out⟩, ((B4.setCell hbb _).setCell hbb _).setCell hbb _⟩, by simp [RowKit.intOf]; omega⟩
        · obtain ⟨a1, a2, a3⟩ := HA.out
          rw [a1, a2, a3]
          refine (set_put (set_put (set_put HH4.out _) _) _).trans ?_
          simp
        · exact ownsRow_setCell_other (ownsRow_setCell_other (ownsRow_setCell_other HO4.out HN4.out _) HN4.out _) HN4.out _
    · obtain rfl : k = n := by omega
      have HR : Hid (IsSet wr b us) := Lib.hid (by
        obtain ⟨h1, h2, _⟩ := HK.out
        rw [List.take_of_length_le (by rw [HL.out]; exact Nat.le_refl _)] at h1
        have h3 := owns_mono (base' := 0) h2 (Nat.zero_le _)
        rw [HL.out] at h3
        refine ⟨g, cap2, ?_, ?_⟩ <;> rw [HL.out]
        · exact h1
        · exact h3)
      clear HK
      go_wp2
      go_ret2
      exact ⟨b, rfl, hbb, HR.out, hbe⟩
end Go.Proofs.Ytnechkljecdfkaa

namespace Go.Proofs.Ytnechkljecdfkaa
open Go.RowKit
theorem ptnew_all (a : Option Addr) (len cap : Nat) (ws : List (List UInt8)) (w : World) (hlen : len ≤ 1000000) (hr : IsStrs w a len ws) (ht : ∀ t ∈ ws, t.length ≤ 1000000000) :
    Calls Try.prog 7 #[.slice a len cap] w fun e w' => ∃ p, e = .returned (.tuple #[.pointer p, .int .i64 (faultL ws)]) ∧ IsPats w' p (setL ws) ∧ Below w.heap.size w w' := by
  by_cases hf : faultL ws = 0
  · refine (ptnew_good a len cap ws w hlen hr hf).mono ?_
    rintro e w' ⟨b, rfl, _, hs, hb⟩
    exact ⟨_, by rw [hf], .inr ⟨b, rfl, by rw [set_good hf]; exact hs, by rw [set_good hf]; exact ((fault_zero ws).1 hf).srt⟩, hb⟩
  · refine (ptnew_bad a len cap ws w hlen hr ht hf).mono ?_
    rintro e w' ⟨rfl, hb⟩
    exact ⟨_, rfl, .inl ⟨rfl, set_bad hf⟩, hb⟩
end Go.Proofs.Ytnechkljecdfkaa

namespace Go.Proofs.Ytnechkljecdfkaa
open Go.RowKit

theorem spex_step : dnS [[], [97], [98], [97, 98]] [98] 97 = 1 := by decide +kernel
theorem spex_in : [97] ++ [98] ∈ ([[], [97], [98], [97, 98]] : List (List UInt8)) := by decide +kernel
theorem spex_at {n : Nat} (h : ([[], [97], [98], [97, 98]] : List (List UInt8))[n]? = some ([97] ++ [98])) : n = 3 := by
  match n, h with
  | 0, h => simp at h
  | 1, h => simp at h
  | 2, h => simp at h
  | 3, _ => rfl
  | n + 4, h => simp at h
theorem spex_total : totalL [[97, 98], [98]] ≤ 4194303 := by decide +kernel
set_option maxRecDepth 100000 in
set_option maxHeartbeats 2000000 in
theorem spawake_any (w : World) : Calls Try.prog 6 #[] w fun e w' => e = .returned (.bool true) ∧ Below w.heap.size w w' := by
  have hA := strs_heap (ws := [[97, 98], [98]]) (heap_alloc_new w (.cells (txCells [[97, 98], [98]]).toArray 9)) rfl
  have H1 := Lib.hid (ptnew_all (some ⟨w.heap.size, 0, none⟩) 2 2 _ _ (by omega) hA (by decide))
  rw [dnex_fault] at H1
  have c1 : Below w.heap.size w (w.alloc (.cells (txCells [[97, 98], [98]]).toArray 9)) := (Below.refl _ w).alloc (Nat.le_refl _) _
  have s1 := c1.size
  clear hA
  go_enter Try.func6, Try.ntmps6
  go_wp2_with fail
  refine H1.out.mono ?_
  rintro e w2 ⟨p, rfl, hs, hb2⟩
  have d2 := c1.trans (hb2.mono s1)
  have e2 := d2.size
  have N2 := Lib.hid (spnew_set hs (by rw [dnex_set]; exact spex_total))
  clear H1 hs hb2 c1 s1
  go_wp2_with fail
  refine N2.out.mono ?_
  rintro e w3 ⟨q, S, C, rfl, hT, hb3⟩
  have d3 := d2.trans (hb3.mono e2)
  have e3 := d3.size
  rw [dnex_set] at hT
  obtain rfl := dnex_is hT.st
  have HL := Lib.hid (sps_len hT)
  have HNx := Lib.hid (sps_next hT 1 rfl 98)
  have HSt := Lib.hid (sps_step hT 2 rfl 97)
  rw [spex_step] at HSt
  clear N2 hb3 hT e2 d2
  go_wp2_with fail
  refine HNx.out.mono ?_
  rintro e w' ⟨⟨h1, _⟩, hw'⟩
  obtain rfl := hw'.symm
  obtain ⟨n, rfl, hn⟩ := h1 spex_in
  obtain rfl := spex_at hn
  clear hw' h1 hn HNx
  go_wp2_with fail
  refine HL.out.mono ?_
  rintro e w' ⟨rfl, hw'⟩
  obtain rfl := hw'.symm
  clear hw' HL
  go_wp2_with fail
  refine HSt.out.mono ?_
  rintro e w4 ⟨rfl, hb4⟩
  have d4 := d3.trans (hb4.mono e3)
  clear HSt hb4 d3 e3
  go_wp2
  go_ret
  exact ⟨rfl, d4⟩
end Go.Proofs.Ytnechkljecdfkaa

namespace Go.Proofs.Ytnechkljecdfkaa
open Go.RowKit

/-- A text with one byte more, as a sum of two. -/
theorem plus_byteT (s : List UInt8) (c : UInt8) : (⟨s.toArray⟩ : ByteArray) ++ (⟨#[c]⟩ : ByteArray) = ⟨(s ++ [c]).toArray⟩ := by
  apply ByteArray.ext
  simp
/-- One byte as a text. -/
theorem one_textT (W : World) (X : Nat) (c : UInt8) (h : W.heap[X]? = some (.cells #[.int .u8 (c.toNat : Int)] 5 (0, 0))) : (convert 64 9 (.slice (some ⟨X, 0, none⟩) 1 1)).run Try.prog W = .ok (.string ⟨[c].toArray⟩) W := by
  refine run_convert_bytes_back W 64 9 5 _ _ [c] Try.underlying64 Try.underlying5 Try.underlying9 (fun j hj => ?_)
  have : j = 0 := by simp at hj; omega
  subst this
  rw [addPlain, Lib.cell_of_heap h]
  rfl

end Go.Proofs.Ytnechkljecdfkaa

namespace Go.Proofs.Ytnechkljecdfkaa
open Go.RowKit

/-- The bytes by which a text is gone on with among some texts. -/
def upB (S : List (List UInt8)) (s : List UInt8) : List UInt8 := S.filterMap fun q => if s ++ [q.getLastD 0] = q then some (q.getLastD 0) else none
theorem up_hit {S : List (List UInt8)} {s : List UInt8} {j : Nat} {c : UInt8} (h : S[j]? = some (s ++ [c])) : upB (S.take (j + 1)) s = upB (S.take j) s ++ [c] := by
  obtain ⟨hj, e⟩ := List.getElem?_eq_some_iff.1 h
  unfold upB
  rw [List.take_succ_eq_append_getElem hj, List.filterMap_append, e]
  simp
theorem up_miss {S : List (List UInt8)} {s q : List UInt8} {j : Nat} (h : S[j]? = some q) (hn : ∀ c, q ≠ s ++ [c]) : upB (S.take (j + 1)) s = upB (S.take j) s := by
  obtain ⟨hj, e⟩ := List.getElem?_eq_some_iff.1 h
  unfold upB
  rw [List.take_succ_eq_append_getElem hj, List.filterMap_append, e]
  have : ¬ s ++ [q.getLastD 0] = q := fun he => hn _ he.symm
  rw [List.filterMap_cons_none (by rw [if_neg this])]
  simp
theorem up_mem {S : List (List UInt8)} {s : List UInt8} {c : UInt8} : c ∈ upB S s ↔ s ++ [c] ∈ S := by
  unfold upB
  rw [List.mem_filterMap]
  constructor
  · rintro ⟨q, hq, h⟩
    split at h
    · rename_i he
      cases h
      rw [he]; exact hq
    · cases h
  · intro h
    exact ⟨_, h, by simp⟩
theorem up_rise {S : List (List UInt8)} (h : S.Pairwise slx) (s : List UInt8) : (upB S s).Pairwise (· < ·) := by
  unfold upB
  rw [List.pairwise_filterMap]
  refine h.imp fun {a b} hab c hc d hd => ?_
  split at hc
  · rename_i ha
    cases hc
    split at hd
    · rename_i hb
      cases hd
      rw [← ha, ← hb] at hab
      generalize a.getLastD 0 = x at *
      generalize b.getLastD 0 = y at *
      rcases hab with h1 | ⟨_, h1⟩
      · simp at h1
      · rcases UInt8.lt_or_lt_of_ne (a := x) (b := y) (fun e => by subst e; exact List.lt_irrefl _ h1) with h2 | h2
        · exact h2
        · exact absurd (List.lt_trans h1 (lt_after s (by rw [List.cons_lt_cons_iff]; exact .inl h2))) (List.lt_irrefl _)
    · cases hd
  · cases hc
theorem up_kids {us S : List (List UInt8)} (h : IsSt us S) (s : List UInt8) : upB S s = kidsL us s :=
  rise_unique (up_rise h.1 s) (kids_rise us s) fun c => by
    rw [up_mem, kids_mem, h.2]
    simp
theorem up_length (S : List (List UInt8)) (s : List UInt8) (j : Nat) : (upB (S.take j) s).length ≤ S.length := by
  unfold upB
  exact Nat.le_trans (List.length_filterMap_le _ _) (by rw [List.length_take]; exact Nat.min_le_right _ _)
/-- A text that is one with one byte more. -/
theorem one_more {s q : List UInt8} (hl : q.length = s.length + 1) (ht : q.take s.length = s) : q = s ++ [q[s.length]'(by omega)] := by
  have := List.take_append_drop s.length q
  rw [ht, List.drop_eq_getElem_cons (by omega), List.drop_eq_nil_of_le (by omega)] at this
  exact this.symm

set_option maxRecDepth 100000 in
set_option maxHeartbeats 4000000 in
theorem rbytes_any (a : Option Addr) (len cap : Nat) (S : List (List UInt8)) (k : Nat) (s : List UInt8) (w : World) (hlen : len ≤ 100000000) (hr : IsStrs w a len S) (hs : S[k]? = some s) (hl : ∀ t ∈ S, t.length ≤ 100000000) :
    Calls Try.prog 31 #[.slice a len cap, .int .i64 (k : Int)] w fun e w' => e = .returned (.string ⟨(upB S s).toArray⟩) ∧ Below w.heap.size w w' := by
  have hwl := hr.1
  obtain ⟨i0, hi, hz0, hz1, hz2⟩ := info_parts trbyte_info
  have HI := Lib.hid hr
  have HT := Lib.hid hl
  have hk := (List.getElem?_eq_some_iff.1 hs).1
  have HK := Lib.hid hs
  have hsl := hl s (List.mem_of_getElem? hs)
  clear hr hl hs
  go_enter Try.func31, Try.ntmps31
  go_wp2
  go_loopw [5, 6] (fun v x wr => ∃ j : Nat, j ≤ len ∧ x = .int .i64 j ∧ Hid (wr.ownsRow w.heap.size 5 1 v (upB (S.take j) s).length (Lib.byteCells (upB (S.take j) s))) ∧ Below w.heap.size w wr) (fun _ x _ => len - (RowKit.intOf x).toNat)
  case atStart =>
    exact ⟨0, Nat.zero_le _, rfl, Lib.hid ⟨rfl, .inr ⟨w.heap.size, 0, #[], rfl, Nat.le_refl _, heap_alloc_new w _, Nat.le_refl _, by decide, rfl, rfl⟩⟩, (Below.refl _ _).alloc (Nat.le_refl _) _⟩
  case round =>
    obtain ⟨j, hj, rfl, HO, hbe⟩ := hrel
    have hsz := hbe.size
    have hul := up_length S s j
    obtain ⟨ao, co, rfl⟩ := owns_slice HO.out
    by_cases hlt : j < len
    · obtain ⟨b, off, rfl, t, hf, hc⟩ := str_at HI.out hbe j hlt
      obtain ⟨b', off', he', s', hf', hc'⟩ := str_at HI.out hbe k (by omega)
      cases he'
      obtain rfl : s' = s := Option.some.inj (hf'.symm.trans HK.out)
      have HS := Lib.hid (bsize t)
      have S2 := Lib.hid (bsize s')
      have htl := HT.out t (List.mem_of_getElem? hf)
      have hx := ext_cut t 0 s'.length
      rw [List.drop_zero] at hx
      have q1 : (0 : Int) ≤ (j : Int) := by omega
      have q2 : (j : Int) < (len : Int) := by omega
      have q3 : (0 : Int) ≤ (k : Int) := by omega
      have q4 : (k : Int) < (len : Int) := by omega
      have q5 : IntKind.i64.wrap ((s'.length : Int) + 1) = (s'.length : Int) + 1 := by rw [IntKind.wrap_i64]; omega
      by_cases hlong : t.length = s'.length + 1
      · have q6 : (t.length : Int) = (s'.length : Int) + 1 := by omega
        by_cases heq : t.take s'.length = s'
        · have ht2 := one_more hlong heq
          generalize hc0 : t[s'.length]'(by omega) = c at ht2
          have HU : Hid (upB (S.take (j + 1)) s' = upB (S.take j) s' ++ [c]) := Lib.hid (up_hit (by rw [← ht2]; exact hf))
          have hzt : s'.length < (⟨t.toArray⟩ : ByteArray).size := by rw [bsize]; omega
          have HB := byteAt t s'.length (by omega) hzt
          rw [hc0] at HB
          have q7 : (s'.length : Int) < (t.length : Int) := by omega
          have q8 : (s'.length : Int) ≤ (t.length : Int) := by omega
          have q9 : (0 : Int) ≤ (s'.length : Int) := by omega
          have hown := HO.out
          obtain ⟨D, hD⟩ : ∃ D, upB (S.take j) s' = D := ⟨_, rfl⟩
          rw [hD] at hown hul HU ⊢
          have hc2 : ∀ q, (wr.drewN q).cell? ⟨b, off + j, none⟩ = some (.string ⟨t.toArray⟩) := fun q => hc
          rw [heq] at hx
          clear hf hf' hc0 ht2 HO hD
          go_wp2_with fail
          go_quiet (fail)
          go_wp2_with (at_builtin; refine wpList_append_own _ rfl _ _ 64 rfl w.heap.size 5 i0 (.int .u8 0) 1 1 Try.underlying64 hi hz0 hz1 hz2 rfl (by decide) _ _ _ rfl (World.ownsRow.alloc (w := wr.drewN nq) hown _) ⟨wr.heap.size, 0, none⟩ 1 1 [.int .u8 (c.toNat : Int)] rfl rfl (one_news (heap_alloc_new (wr.drewN nq) _)) trbyte_one (by unfold maxLen; omega) (by omega) (by simp; omega) ?_)
          intro v' w4 hown4 hgrow4 _
          have B4 : Below w.heap.size w w4 := ((below_drewS hbe nq).alloc (by show _ ≤ wr.heap.size; exact hsz) _).grown hgrow4 (by simp; omega) (fun i hi => (hown.lt i hi).1)
          obtain ⟨a4, c4, rfl⟩ := owns_slice hown4
          have e1 : (D ++ [c]).length = D.length + 1 := by simp
          have HO4 : Hid (w4.ownsRow w.heap.size 5 1 (.slice a4 (D.length + 1) c4) (upB (S.take (j + 1)) s').length (Lib.byteCells (upB (S.take (j + 1)) s'))) := Lib.hid (by
            rw [HU.out, e1, trcells_snoc]; exact hown4)
          clear hown hown4 hgrow4 e1 HB hx
          go_wp2
          exact ⟨⟨j + 1, by omega, by go_num, HO4, B4⟩, by simp [RowKit.intOf]; omega⟩
        · have HU : Hid (upB (S.take (j + 1)) s' = upB (S.take j) s') := Lib.hid (up_miss hf fun c e => heq (by rw [e]; simp))
          have hq : (t.take s'.length == s') = false := by rw [beq_eq_false_iff_ne]; exact heq
          have q8 : (s'.length : Int) ≤ (t.length : Int) := by omega
          have q9 : (0 : Int) ≤ (s'.length : Int) := by omega
          clear hf hf'
          go_wp2_with fail
          go_quiet (fail)
          go_wp2
          exact ⟨⟨j + 1, by omega, by go_num, by rw [HU.out]; exact Lib.hid (HO.out : _), below_drewS hbe nq⟩, by simp [RowKit.intOf]; omega⟩
      · have HU : Hid (upB (S.take (j + 1)) s' = upB (S.take j) s') := Lib.hid (up_miss hf fun c e => hlong (by rw [e]; simp))
        have q6 : ¬ (t.length : Int) = (s'.length : Int) + 1 := by omega
        have q7 : ((t.length : Int) == (s'.length : Int) + 1) = false := by rw [beq_eq_false_iff_ne]; exact q6
        clear hf hf'
        go_wp2_with fail
        go_quiet (fail)
        go_wp2
        exact ⟨⟨j + 1, by omega, by go_num, by rw [HU.out]; exact Lib.hid (HO.out : _), below_drewS hbe nq⟩, by simp [RowKit.intOf]; omega⟩
    · obtain rfl : j = len := by omega
      have q2 : ¬ (j : Int) < (j : Int) := by omega
      have HE : Hid (upB (S.take j) s = upB S s) := Lib.hid (by rw [List.take_of_length_le (by omega)])
      generalize upB (S.take j) s = D at *
      have hct := trown_text HO.out
      clear HO
      go_wp2
      go_ret
      exact ⟨by rw [← HE.out]; rfl, hbe⟩
end Go.Proofs.Ytnechkljecdfkaa

namespace Go.Proofs.Ytnechkljecdfkaa
open Go.RowKit

set_option maxRecDepth 100000 in
set_option maxHeartbeats 2000000 in
theorem rspnext_any (a : Option Addr) (len cap : Nat) (S : List (List UInt8)) (w : World) (hlen : len ≤ 1000000000) (hr : IsStrs w a len S) (hl : ∀ t ∈ S, t.length ≤ 10000000) (i : Nat) {s : List UInt8} (hs : S[i]? = some s) (c : UInt8) :
    Calls Try.prog 15 #[.slice a len cap, .int .i64 (i : Int), .int .u8 (c.toNat : Int)] w fun e w' => e = .returned (.int .i64 (ixL (s ++ [c]) S)) ∧ Below w.heap.size w w' := by
  have hwl := hr.1
  have hil := (List.getElem?_eq_some_iff.1 hs).1
  have hsl := hl s (List.mem_of_getElem? hs)
  have HF := Lib.hid (fun W (hb : Below w.heap.size w W) => rfind16_any a len cap S (s ++ [c]) W hlen (hr.below hb))
  obtain ⟨b, off, rfl, t, hf, hc⟩ := str_at hr (Below.refl _ _) i (by omega)
  obtain rfl : t = s := Option.some.inj (hf.symm.trans hs)
  have hbl := World.block_lt_of_cell? w _ hc
  have hcA : ∀ o, (w.alloc o).cell? ⟨b, off + i, none⟩ = some (.string ⟨t.toArray⟩) := fun o => by rw [World.cell?_alloc_lt _ _ _ hbl]; exact hc
  have hcv : ∀ W X, W.heap[X]? = some (.cells #[.int .u8 (c.toNat : Int)] 5 (0, 0)) → (convert 64 9 (.slice (some ⟨X, 0, none⟩) 1 1)).run Try.prog W = .ok (.string ⟨[c].toArray⟩) W := fun W X h => one_textT W X c h
  have hcv0 := hcv (w.alloc (.cells #[.int .u8 (c.toNat : Int)] 5)) w.heap.size (heap_alloc_new w _)
  have hcv1 := hcv (w.drew.alloc (.cells #[.int .u8 (c.toNat : Int)] 5)) w.heap.size (heap_alloc_new w.drew _)
  have hcv2 := hcv (w.alloc (.cells #[.int .u8 (c.toNat : Int)] 5)).drew w.heap.size (heap_alloc_new w _)
  have hpl := plus_byteT t c
  have hS2 : (⟨(t ++ [c]).toArray⟩ : ByteArray).size = t.length + 1 := by rw [bsize]; simp
  have HZ := Lib.hid hS2
  have HS := Lib.hid (bsize t)
  have g0 : ¬ (i : Int) < 0 := by omega
  have g1 : decide ((i : Int) < 0) = false := decide_eq_false g0
  have g2 : (0 : Int) ≤ (i : Int) := by omega
  have g3 : (i : Int) < (len : Int) := by omega
  have g4 : ¬ (len : Int) ≤ (i : Int) := by omega
  have g5 : decide ((len : Int) ≤ (i : Int)) = false := decide_eq_false g4
  have hov : ¬ 9223372036854775807 < t.length + 1 := by omega
  clear hr hl hs hf hcv hS2
  go_enter Try.func15, Try.ntmps15
  go_wp2_with fail
  go_region_with (go_at_call 33; refine (HF.out _ (by first | exact ((Below.refl _ _).alloc (Nat.le_refl _) _).drew | exact (Below.refl _ _).drew.alloc (Nat.le_refl _) _)).mono ?_; rintro e w' ⟨rfl, rfl⟩)
  all_goals
    go_simp
    go_wp2
    go_ret
    exact ⟨rfl, by first | exact ((Below.refl _ _).alloc (Nat.le_refl _) _).drew | exact (Below.refl _ _).drew.alloc (Nat.le_refl _) _⟩

set_option maxRecDepth 100000 in
set_option maxHeartbeats 2000000 in
theorem rspleading_any (a : Option Addr) (len cap : Nat) (us S : List (List UInt8)) (w : World) (hlen : len ≤ 100000000) (hr : IsStrs w a len S) (hst : IsSt us S) (hl : ∀ t ∈ S, t.length ≤ 100000000) :
    Calls Try.prog 13 #[.slice a len cap] w fun e w' => e = .returned (.int .i64 (ldN us S S.length : Int)) ∧ Below w.heap.size w w' := by
  have hwl := hr.1
  have HB := Lib.hid (fun (W : World) (hb : Below w.heap.size w W) (k : Nat) (s : List UInt8) (hs : S[k]? = some s) => rbytes_any a len cap S k s W hlen (hr.below hb) hs hl)
  have HU := Lib.hid (fun s => up_kids hst s)
  have HM := Lib.hid (fun s => Nat.le_trans (List.length_filter_le (fun c => begL us (s ++ [c])) bytU) (show bytU.length ≤ 256 by unfold bytU; simp))
  have HL := Lib.hid (fun k => ld_le us S k)
  clear hr hst hl
  go_enter Try.func13, Try.ntmps13
  go_wp2
  go_loopw [3, 4] (fun v x wr => ∃ k : Nat, k ≤ len ∧ x = .int .i64 k ∧ v = .int .i64 (ldN us S k : Int) ∧ Below w.heap.size w wr) (fun _ x _ => len - (RowKit.intOf x).toNat)
  case atStart => exact ⟨0, Nat.zero_le _, rfl, rfl, Below.refl _ _⟩
  case round =>
    obtain ⟨k, hk, rfl, rfl, hbe⟩ := hrel
    have hsz := hbe.size
    by_cases hlt : k < len
    · obtain ⟨s, hs⟩ : ∃ s, S[k]? = some s := ⟨_, List.getElem?_eq_getElem (show k < S.length by omega)⟩
      have HC := Lib.hid (HB.out wr hbe k s hs)
      rw [HU.out s] at HC
      have hkl := HM.out s
      have hld := HL.out k
      have g0 : (k : Int) < (len : Int) := by omega
      have HZ := Lib.hid (bsize (kidsL us s))
      by_cases hq : kidsL us s = []
      · have HN : Hid (ldN us S (k + 1) = ldN us S k) := Lib.hid (ld_miss hs hq)
        rw [hq] at HC HZ
        generalize ldN us S k = m at *
        clear hs hq HB HU HM HL
        go_wp2_with fail
        refine HC.out.mono ?_
        rintro e w2 ⟨rfl, hb2⟩
        have d2 := hbe.trans (hb2.mono hsz)
        clear hb2 HC hbe
        go_wp2
        exact ⟨⟨k + 1, by omega, by go_num, by rw [HN.out], d2⟩, by simp [RowKit.intOf]; omega⟩
      · have HN : Hid (ldN us S (k + 1) = ldN us S k + 1) := Lib.hid (ld_hit hs hq)
        have hpos : 0 < (kidsL us s).length := List.length_pos_iff.2 hq
        generalize ldN us S k = m at *
        generalize kidsL us s = K at *
        have g1 : (0 : Int) < (K.length : Int) := by omega
        have g2 : decide ((0 : Int) < (K.length : Int)) = true := decide_eq_true g1
        clear hs hq HB HU HM HL
        go_wp2_with fail
        refine HC.out.mono ?_
        rintro e w2 ⟨rfl, hb2⟩
        have d2 := hbe.trans (hb2.mono hsz)
        clear hb2 HC hbe
        go_wp2
        exact ⟨⟨k + 1, by omega, by go_num, by rw [HN.out]; go_num, d2⟩, by simp [RowKit.intOf]; omega⟩
    · obtain rfl : k = len := by omega
      have hz : ¬ (k : Int) < (k : Int) := by omega
      go_wp2
      go_ret
      exact ⟨rfl, hbe⟩
end Go.Proofs.Ytnechkljecdfkaa
