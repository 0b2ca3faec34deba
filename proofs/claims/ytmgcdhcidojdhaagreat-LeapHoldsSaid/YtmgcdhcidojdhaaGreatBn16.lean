/-
  Texts put together: PbEx, AfT, AfCm, AfSo, AfO, PtF, PtC, PtN, PtU.
-/
import Derived.Test.YtmgcdhcidojdhaaGreatBn4
import Derived.Test.YtmgcdhcidojdhaaGreatBn5
import Derived.Test.YtmgcdhcidojdhaaGreatBn1
import Derived.Maps.OwnOps
import Derived.Maps.Views
import Derived.Maps.OwnSet
import Derived.StringKeys
import Derived.Test.YtmgcdhcidojdhaaGreatShelf
import Derived.Sort.OwnSorted
import Derived.Test.YtmgcdhcidojdhaaGreatBn2
import Derived.Lib.MinMax
import Derived.OneCell
set_option linter.unusedSimpArgs false
set_option linter.unusedVariables false
namespace Go.Proofs.YtmgcdhcidojdhaaGreat
open Go.RowKit

theorem EvR.eq {a b : EvR} (h1 : a.k = b.k) (h2 : a.n = b.n) (h3 : a.r = b.r) (h4 : a.ids = b.ids) : a = b := by
  cases a; cases b; simp only at h1 h2 h3 h4; subst h1; subst h2; subst h3; subst h4; rfl
theorem pbex_fault : faultL [[97, 98, 99], [98, 99]] = 0 := by decide +kernel
theorem pbex_set : setL [[97, 98, 99], [98, 99]] = [[97, 98, 99], [98, 99]] := by
  rw [set_good pbex_fault, ← ins_srt]; decide +kernel
theorem pbex_one : ofR [[97, 98, 99], [98, 99]] [120] 1 true = ⟨1, 2, 1, []⟩ := EvR.eq (by decide +kernel) (by decide +kernel) (by decide +kernel) (by decide +kernel)
theorem pbex_two : ofR [[97, 98, 99], [98, 99]] [120, 97, 98, 99] 4 true = ⟨4, 0, 0, [0, 1]⟩ := EvR.eq (by decide +kernel) (by decide +kernel) (by decide +kernel) (by decide +kernel)

end Go.Proofs.YtmgcdhcidojdhaaGreat

namespace Go.Proofs.YtmgcdhcidojdhaaGreat
open Go.RowKit Go.Maps Go.WideMaps

theorem keyT : Keyed Tryz.prog 9 := string_keyed Tryz.underlying9
theorem zeroT (w : World) : (zeroValue 3).run Tryz.prog w = .ok (.int .i64 0) w := by kernel_rfl

/-- How often a text was met: the map's number at it. -/
def Cnts (D : DataW Unit) (ws : List (List UInt8)) : Prop := ∀ t : List UInt8, t.length ≤ maxLen → D.atKey (.string t) (.lit (.int .i64 0)) = .lit (.int .i64 (ws.count t : Int))

theorem lit_inj {a b : Int} (h : (DataW.lit (.int .i64 a) : DataW Unit) = .lit (.int .i64 b)) : a = b := by cases h; rfl
theorem count_snoc {ws : List (List UInt8)} {k : Nat} {t : List UInt8} (h : ws[k]? = some t) (u : List UInt8) : (ws.take (k + 1)).count u = (ws.take k).count u + (if t = u then 1 else 0) := by
  obtain ⟨hk, rfl⟩ := List.getElem?_eq_some_iff.1 h
  rw [List.take_succ_eq_append_getElem hk, List.count_append, List.count_singleton]
  simp only [beq_iff_eq]
theorem key_lit (t : List UInt8) : WideAt.IsKeyLit (.string t) := trivial
/-- One more is met. -/
theorem cnts_put {D : DataW Unit} {ws : List (List UInt8)} {k : Nat} {t : List UInt8} {c : Int} (hD : IsMap D) (h : Cnts D (ws.take k)) (hf : ws[k]? = some t) (htl : t.length ≤ maxLen) (hc : c = ((ws.take k).count t : Int) + 1) :
    Cnts (D.put (.string t) (.lit (.int .i64 c))) (ws.take (k + 1)) := fun u hu => by
  rw [count_snoc hf u]
  by_cases e : t = u
  · subst e
    rw [atKey_put_same hD (key_lit _), if_pos rfl, hc]; rfl
  · rw [atKey_put_other (fun h' => e (by cases h'; rfl)), h u hu, if_neg e, Nat.add_zero]

set_option maxHeartbeats 2000000 in
set_option maxRecDepth 100000 in
theorem twice_any (a : Option Addr) (len cap : Nat) (ws : List (List UInt8)) (w : World) (hlen : len ≤ 1000000) (hr : IsStrs w a len ws) (ht : ∀ t ∈ ws, t.length ≤ maxLen) :
    Calls Tryz.prog 48 #[.slice a len cap] w fun e w' => e = .returned (.int .i64 (twS [] ws 0)) ∧ Below w.heap.size w w' := by
  have hwl := hr.1
  obtain ⟨R, hR⟩ : ∃ R, twS [] ws 0 = R := ⟨_, rfl⟩
  have HR : Hid (twS (ws.take 0) (ws.drop 0) 0 = R) := Lib.hid hR
  rw [hR]
  have HI := Lib.hid hr
  have HT := Lib.hid ht
  have hmm := @run_makeMap Tryz.prog
  clear hR hr ht
  go_enter Tryz.func48, Tryz.ntmps48
  go_wp2
  go_loopw [9] (fun i wr => ∃ (k : Nat) (D : DataW Unit), k ≤ len ∧ i = .int .i64 k ∧ wr.ownsMap Tryz.prog 9 (plainElem Tryz.prog 3) w.heap.size k D ∧ Hid (Cnts D (ws.take k)) ∧ Hid (∀ t ∈ ws.take k, (ws.take k).count t = 1) ∧ Hid (twS (ws.take k) (ws.drop k) k = R) ∧ Below w.heap.size w wr) (fun i _ => len - (RowKit.intOf i).toNat)
  case atStart => exact ⟨0, _, Nat.zero_le _, rfl, World.ownsMap_made _ _ _ _, Lib.hid (fun t _ => rfl), Lib.hid (by simp), HR, (Below.refl _ _).alloc (Nat.le_refl _) _⟩
  case round =>
    obtain ⟨k, D, hk, rfl, hown, HC, HD, HK, hbe⟩ := hrel
    by_cases hlt : k < len
    · obtain ⟨b, off, rfl, t, hf, hc⟩ := str_at HI.out hbe k hlt
      have htl := HT.out t (List.mem_of_getElem? hf)
      have hkey : keyOf Tryz.prog 9 (.string ⟨t.toArray⟩) = some (.string t) := keyOf_string_mk Tryz.underlying9 (by rw [bsize]; exact htl)
      go_wp2_with (at_lookup; refine wpList_lookup_own_int _ rfl _ _ 117 rfl 9 3 .i64 keyT Tryz.underlying117 Tryz.underlying3 (zeroT _) w.heap.size k _ rfl hown _ _ rfl hkey ?_)
      intro c hat hwc
      have hc0 : c = ((ws.take k).count t : Int) := lit_inj (hat.symm.trans (HC.out t htl))
      have hisM := hown.isMap
      clear hat hwc
      by_cases hm : t ∈ ws.take k
      · have h1 : (ws.take k).count t = 1 := HD.out t hm
        have HE : Hid (R = k) := Lib.hid (by rw [← HK.out]; exact tw_hit hf hm)
        have HC2 := Lib.hid (cnts_put (c := 2) hisM HC.out hf htl (by rw [h1]; rfl))
        have hat2 : (D.put (.string t) (.lit (.int .i64 2))).atKey (.string t) (.lit (.int .i64 0)) = .lit (.int .i64 2) := atKey_put_same hisM (key_lit _) _ _
        have HA2 := Lib.hid hat2
        rw [h1] at hc0
        subst hc0
        clear hf HK HC HD hm h1 hat2 hisM
        go_wp2_with (at_mapUpdate; refine wpList_mapUpdate_own _ rfl _ _ _ 117 rfl 9 3 keyT Tryz.underlying117 _ w.heap.size k _ rfl hown (by unfold maxLen; omega) _ _ _ rfl rfl hkey _ [] (plainElem_int Tryz.underlying3 (by decide)) ?_)
        intro w1 hown1 hgrow1
        have hbe1 : Below w.heap.size w w1 := hbe.grown hgrow1 hbe.size (fun j hj => by cases hj; exact Nat.le_refl _)
        clear hown hgrow1 hbe
        go_wp2_with (at_lookup; refine wpList_lookup_own_int _ rfl _ _ 117 rfl 9 3 .i64 keyT Tryz.underlying117 Tryz.underlying3 (zeroT _) w.heap.size (k + 1) _ rfl hown1 _ _ rfl hkey ?_)
        intro c2 hat2 hwc2
        have hc2 : c2 = 2 := lit_inj (hat2.symm.trans HA2.out)
        subst hc2
        clear hat2 hwc2 hown1
        go_wp2
        go_ret
        exact ⟨by rw [HE.out]; rfl, hbe1⟩
      · have h1 : (ws.take k).count t = 0 := List.count_eq_zero.2 hm
        have HE : Hid (twS (ws.take (k + 1)) (ws.drop (k + 1)) (k + 1) = R) := Lib.hid (by rw [← HK.out]; exact (tw_miss hf hm).symm)
        have HC2 := Lib.hid (cnts_put (c := 1) hisM HC.out hf htl (by rw [h1]; rfl))
        have HD2 : Hid (∀ u ∈ ws.take (k + 1), (ws.take (k + 1)).count u = 1) := Lib.hid (fun u hu => by
          rw [count_snoc hf u]
          rcases mem_take_snoc hf hu with h | rfl
          · rw [HD.out u h, if_neg (fun e => hm (by rw [e]; exact h))]
          · rw [h1, if_pos rfl])
        have hat2 : (D.put (.string t) (.lit (.int .i64 1))).atKey (.string t) (.lit (.int .i64 0)) = .lit (.int .i64 1) := atKey_put_same hisM (key_lit _) _ _
        have HA2 := Lib.hid hat2
        rw [h1] at hc0
        subst hc0
        clear hf HK HC HD hm h1 hat2 hisM
        go_wp2_with (at_mapUpdate; refine wpList_mapUpdate_own _ rfl _ _ _ 117 rfl 9 3 keyT Tryz.underlying117 _ w.heap.size k _ rfl hown (by unfold maxLen; omega) _ _ _ rfl rfl hkey _ [] (plainElem_int Tryz.underlying3 (by decide)) ?_)
        intro w1 hown1 hgrow1
        have hbe1 : Below w.heap.size w w1 := hbe.grown hgrow1 hbe.size (fun j hj => by cases hj; exact Nat.le_refl _)
        clear hown hgrow1 hbe
        go_wp2_with (at_lookup; refine wpList_lookup_own_int _ rfl _ _ 117 rfl 9 3 .i64 keyT Tryz.underlying117 Tryz.underlying3 (zeroT _) w.heap.size (k + 1) _ rfl hown1 _ _ rfl hkey ?_)
        intro c2 hat2 hwc2
        have hc2 : c2 = 1 := lit_inj (hat2.symm.trans HA2.out)
        subst hc2
        clear hat2 hwc2
        go_wp2
        exact ⟨⟨k + 1, _, by omega, by go_num, hown1, HC2, HD2, HE, hbe1⟩, by simp [RowKit.intOf]; omega⟩
    · obtain rfl : k = len := by omega
      have HE : Hid (R = -1) := Lib.hid (by rw [← HK.out, ← hwl]; exact tw_end ws)
      clear HK
      go_wp2
      go_ret
      exact ⟨by rw [HE.out]; rfl, hbe⟩
end Go.Proofs.YtmgcdhcidojdhaaGreat

namespace Go.Proofs.YtmgcdhcidojdhaaGreat
open Go.RowKit

set_option maxHeartbeats 1000000 in
theorem compare_any (a b : List UInt8) (w : World) :
    Calls Tryz.prog 51 #[.string ⟨a.toArray⟩, .string ⟨b.toArray⟩] w fun e w' => e = .returned (.int .i64 (Lib.compareBytes a b)) ∧ w' = w := by
  have h := Tryz.strings_Compare ⟨a.toArray⟩ ⟨b.toArray⟩ w
  simp only at h
  generalize Lib.compareBytes a b = r at h ⊢
  have H := Lib.hid h
  clear h
  go_enter Tryz.func51, Tryz.ntmps51
  go_wp2_with fail
  refine H.out.mono ?_
  rintro e w' ⟨rfl, rfl⟩
  go_wp2
  go_ret
  exact ⟨rfl, rfl⟩
end Go.Proofs.YtmgcdhcidojdhaaGreat

namespace Go.Proofs.YtmgcdhcidojdhaaGreat
open Go.RowKit
open Go.Sort hiding Below

/-- A list of texts, owned. -/
def RetO (ws : List (List UInt8)) (w : World) (e : Ending) (w' : World) : Prop := ∃ v, e = .returned v ∧ w'.ownsRow w.heap.size 9 1 v ws.length (txCells ws) ∧ Below w.heap.size w w'

theorem clone_own (a : Option Addr) (len cap : Nat) (ws : List (List UInt8)) (w : World) (hl : len ≤ 1000000) (hr : IsStrs w a len ws) :
    Calls Tryz.prog 49 #[.slice a len cap] w (RetO ws w) := by
  have hwl := hr.1
  by_cases h0 : len = 0
  · subst h0
    obtain rfl : ws = [] := List.eq_nil_of_length_eq_zero hwl
    cases a with
    | none =>
      refine (Tryz.slices_Clone_string_nil 0 cap w).mono ?_
      rintro e w' ⟨rfl, rfl⟩
      exact ⟨_, rfl, World.ownsRow_nil _ _ _ _, Below.refl _ _⟩
    | some x =>
      refine (Tryz.slices_Clone_string_zero x cap w).mono ?_
      rintro e w' ⟨v, rfl, hown, hv, hb⟩
      exact ⟨v, rfl, hown, hb⟩
  · obtain ⟨b, off, rfl, _⟩ := str_at hr (Below.refl _ _) 0 (by omega)
    refine (Tryz.slices_Clone_string b off len cap (ws.map fun t => (⟨t.toArray⟩ : ByteArray)) w (by simp; omega) (by omega) ?_).mono ?_
    · intro j hj
      rw [List.length_map] at hj
      obtain ⟨b', off', e', t, hf, hc⟩ := str_at hr (Below.refl _ _) j (by omega)
      cases e'
      rw [hc]
      congr 2
      simp [List.getD, hf]
    · rintro e w' ⟨v, rfl, hown, hv, hb⟩
      have e1 : ((ws.map fun t => (⟨t.toArray⟩ : ByteArray)).take len).map Value.string = txCells ws := by
        rw [List.take_of_length_le (by simp; omega), List.map_map]; rfl
      rw [e1, ← hwl] at hown
      exact ⟨v, rfl, hown, hb⟩

theorem lt_of (x y : List UInt8) : ltOf Lib.compareBytes x y = decide (x < y) := by
  unfold ltOf
  rw [Bool.eq_iff_iff]
  simp only [decide_eq_true_eq]
  exact cmp_neg x y
theorem swoB : Sort.SWO (ltOf Lib.compareBytes) where
  irrefl x := by rw [lt_of]; simp [List.lt_irrefl]
  trans x y z h1 h2 := by rw [lt_of] at *; simp only [decide_eq_true_eq] at *; exact List.lt_trans h1 h2
  ntrans x y z h1 h2 := by
    rw [lt_of] at *
    simp only [decide_eq_false_iff_not, List.not_lt] at *
    exact List.le_trans h2 h1
theorem sort_is (ws : List (List UInt8)) : (ws.mergeSort fun x y => !(ltOf Lib.compareBytes) y x) = srt ws := by
  unfold srt
  congr 1
  funext x y
  rw [lt_of]
  by_cases h : x ≤ y
  · have h' : ¬ y < x := List.not_lt.2 h
    simp [h, h']
  · have h' : y < x := List.not_le.1 h
    simp [h, h']
theorem part_all (x y : List UInt8) (h1 : ltOf Lib.compareBytes x y = false) (h2 : ltOf Lib.compareBytes y x = false) : x = y := by
  rw [lt_of] at h1 h2
  simp only [decide_eq_false_iff_not, List.not_lt] at h1 h2
  exact List.le_antisymm h2 h1

theorem cmp_enters : ∀ args w, (callFunc 51 args).run Tryz.prog w = .ok (.enter 51 args) w := enters_of Tryz.func51 (by kernel_rfl) rfl
theorem cmp_reads (blk off size : Nat) (w : World) : CmpReads Tryz.prog 51 #[] encStr Lib.compareBytes blk off size w :=
  fun _ _ _ _ x y => (compare_any x y _).mono fun _ _ ⟨he, hw⟩ => ⟨he, 0, hw⟩

/-- The sort at a slice of the call's own. -/
theorem sort_own {base : Nat} (v : Value) (ws : List (List UInt8)) (w : World) (hl : ws.length ≤ 1000000) (hown : w.ownsRow base 9 1 v ws.length (txCells ws)) :
    Calls Tryz.prog 50 #[v, .func (.func 51) #[] #[]] w fun e w' => e = .returned (.tuple #[]) ∧ w'.ownsRow base 9 1 v ws.length (txCells (srt ws)) ∧ w.grownBy w' v.ownBlock := by
  rcases hown.2 with ⟨rfl, h0⟩ | ⟨g, cap, cur, rfl, hbase, hb, h1, h2, h3, h4⟩
  · obtain rfl : ws = [] := List.eq_nil_of_length_eq_zero h0
    refine (Tryz.slices_SortFunc_none (α := List UInt8) none 0 _ w).mono ?_
    rintro e w' ⟨rfl, rfl⟩
    exact ⟨rfl, by rw [show srt [] = [] from List.eq_nil_of_length_eq_zero (srt_length [])]; exact hown, ⟨rfl, rfl, rfl, Nat.le_refl _, fun _ _ _ => rfl⟩⟩
  · have hlt : g < w.heap.size := (Array.getElem?_eq_some_iff.1 hb).1
    have h := Tryz.slices_SortFunc_total encStr (fun _ => rfl) Lib.compareBytes swoB 51 #[] g 0 cap ws.toArray w cmp_enters (cmp_reads g 0 ws.toArray.size w).lays
      (holds_of_block hb (by rw [Nat.mul_one] at h4; exact h4)) hlt (by simp; omega) part_all
    simp only [List.size_toArray, List.toList_toArray] at h
    rw [sort_is] at h
    refine h.mono ?_
    rintro e w' ⟨rfl, n, os, rfl⟩
    exact ⟨rfl, ownsRow_sorted (srt_length ws) hbase hb h1 h2 h3, grownBy_sorted _⟩

set_option maxHeartbeats 1000000 in
theorem sorted_any (a : Option Addr) (len cap : Nat) (ws : List (List UInt8)) (w : World) (hl : len ≤ 1000000) (hr : IsStrs w a len ws) :
    Calls Tryz.prog 26 #[.slice a len cap] w (RetO (srt ws) w) := by
  have HC := Lib.hid (clone_own a len cap ws w hl hr)
  have hwl := hr.1
  clear hr
  go_enter Tryz.func26, Tryz.ntmps26
  go_wp2_with fail
  refine HC.out.mono ?_
  rintro e w1 ⟨v, rfl, hown, hb1⟩
  have HS := Lib.hid (sort_own v ws w1 (by omega) hown)
  go_wp2_with fail
  refine HS.out.mono ?_
  rintro e w2 ⟨rfl, hown2, hgrow⟩
  have h2 : Below w.heap.size w w2 := hb1.grown hgrow hb1.size (fun k hk => (hown.lt k hk).1)
  clear hgrow hown HC HS
  go_wp2
  go_ret
  exact ⟨v, rfl, by rw [srt_length]; exact hown2, h2⟩
end Go.Proofs.YtmgcdhcidojdhaaGreat

namespace Go.Proofs.YtmgcdhcidojdhaaGreat
open Go.RowKit

theorem owns_mono {w : World} {base base' : Nat} {e : TypeId} {size : Nat} {v : Value} {n : Nat} {xs : List Value} (h : w.ownsRow base e size v n xs) (hb : base' ≤ base) : w.ownsRow base' e size v n xs := by
  obtain ⟨h1, h2 | ⟨g, cap, cur, hv, hg, h3⟩⟩ := h
  · exact ⟨h1, .inl h2⟩
  · exact ⟨h1, .inr ⟨g, cap, cur, hv, Nat.le_trans hb hg, h3⟩⟩
theorem own_cap {w : World} {base : Nat} {e : TypeId} {g n cap : Nat} {xs : List Value} (h : w.ownsRow base e 1 (.slice (some ⟨g, 0, none⟩) n cap) n xs) : n ≤ cap ∧ cap ≤ maxLen := by
  obtain ⟨_, ⟨h1, _⟩ | ⟨g', cap', cur, hv, _, _, h1, h2, _⟩⟩ := h
  · cases h1
  · cases hv; exact ⟨h1, h2⟩
theorem own_part {w : World} {base : Nat} {e : TypeId} {g n cap : Nat} {ws : List (List UInt8)} (h : w.ownsRow base e 1 (.slice (some ⟨g, 0, none⟩) n cap) n (txCells ws)) (m : Nat) :
    ∀ j u, (txCells (ws.take m))[j]? = some u → w.cell? ((⟨g, 0, none⟩ : Addr).add j) = some u := fun j u hj => by
  refine h.cells rfl j u ?_
  unfold txCells at hj ⊢
  rw [List.map_take, List.getElem?_take] at hj
  split at hj
  · exact hj
  · cases hj
theorem own_rest {w : World} {base : Nat} {e : TypeId} {g n cap : Nat} {ws : List (List UInt8)} (h : w.ownsRow base e 1 (.slice (some ⟨g, 0, none⟩) n cap) n (txCells ws)) (m : Nat) :
    ∀ j u, (txCells (ws.drop m))[j]? = some u → w.cell? ((⟨g, m, none⟩ : Addr).add j) = some u := fun j u hj => by
  have := h.cells rfl (m + j) u (by
    unfold txCells at hj ⊢
    rw [List.map_drop, List.getElem?_drop] at hj
    exact hj)
  rw [addPlain] at this ⊢
  rwa [Nat.zero_add] at this
theorem own_at {w : World} {base : Nat} {e : TypeId} {g n cap : Nat} {ws : List (List UInt8)} (h : w.ownsRow base e 1 (.slice (some ⟨g, 0, none⟩) n cap) n (txCells ws)) {j : Nat} {t : List UInt8} (ht : ws[j]? = some t) : w.cell? ⟨g, j, none⟩ = some (.string ⟨t.toArray⟩) := by
  have := h.cells rfl j (.string ⟨t.toArray⟩) (by unfold txCells; rw [List.getElem?_map, ht]; rfl)
  rw [addPlain] at this
  rwa [Nat.zero_add] at this
theorem tx_one {ws : List (List UInt8)} : ∀ u ∈ txCells ws, u.oneCell' = true := by
  intro u hu
  unfold txCells at hu
  rw [List.mem_map] at hu
  obtain ⟨t, _, rfl⟩ := hu
  rfl
theorem own_form {w : World} {base : Nat} {e : TypeId} {v : Value} {n : Nat} {xs : List Value} (h : w.ownsRow base e 1 v (n + 1) xs) : ∃ g cap, v = .slice (some ⟨g, 0, none⟩) (n + 1) cap := by
  obtain ⟨_, ⟨_, h1⟩ | ⟨g, cap, cur, hv, _⟩⟩ := h
  · omega
  · exact ⟨g, cap, hv⟩
theorem txCells_length (ws : List (List UInt8)) : (txCells ws).length = ws.length := by simp [txCells]
theorem txCells_append (ws us : List (List UInt8)) : txCells (ws ++ us) = txCells ws ++ txCells us := by simp [txCells]
theorem insS_at {acc : List (List UInt8)} {t : List UInt8} {m : Nat} (h : posS acc t acc.length = m) : insS acc t = acc.take m ++ ([t] ++ acc.drop m) := by unfold insS; rw [h]
theorem fold_snoc {ws : List (List UInt8)} {k : Nat} {t : List UInt8} (h : ws[k]? = some t) : (ws.take (k + 1)).foldl insS [] = insS ((ws.take k).foldl insS []) t := by
  obtain ⟨hk, rfl⟩ := List.getElem?_eq_some_iff.1 h
  rw [List.take_succ_eq_append_getElem hk, List.foldl_append]; rfl

end Go.Proofs.YtmgcdhcidojdhaaGreat

namespace Go.Proofs.YtmgcdhcidojdhaaGreat
open Go.RowKit

theorem len_empty {t : List UInt8} (h : ¬ t.length = 0) : t.isEmpty = false := by cases t with | nil => simp at h | cons _ _ => rfl

set_option maxHeartbeats 2000000 in
theorem ptfault_any (a : Option Addr) (len cap : Nat) (ws : List (List UInt8)) (w : World) (hlen : len ≤ 1000000) (hr : IsStrs w a len ws) (ht : ∀ t ∈ ws, t.length ≤ 1000000000) :
    Calls Tryz.prog 25 #[.slice a len cap] w fun e w' => e = .returned (.int .i64 (faultL ws)) ∧ Below w.heap.size w w' := by
  have hwl := hr.1
  by_cases h0 : len = 0
  · have HE := Lib.hid (fault_none (ws := ws) (by omega))
    subst h0
    clear hr ht
    go_enter Tryz.func25, Tryz.ntmps25
    go_wp2
    go_ret
    exact ⟨by rw [HE.out]; rfl, Below.refl _ _⟩
  · by_cases h1 : 65535 < len
    · have HE := Lib.hid (fault_many (ws := ws) (by omega))
      clear hr ht
      go_enter Tryz.func25, Tryz.ntmps25
      go_wp2
      go_ret
      exact ⟨by rw [HE.out]; rfl, Below.refl _ _⟩
    · have HI := Lib.hid hr
      have HT := Lib.hid ht
      have HW : Hid (ws.take len = ws) := Lib.hid (List.take_of_length_le (by omega))
      have HL : Hid (¬ ws.length = 0 ∧ ¬ 65535 < ws.length) := Lib.hid (by omega)
      have H2 := Lib.hid (twice_any a len cap ws w hlen hr (fun t h => by have := ht t h; unfold maxLen; omega))
      clear hr ht
      go_enter Tryz.func25, Tryz.ntmps25
      go_wp2
      go_loop [3, 16] (fun x i => ∃ k T : Nat, k ≤ len ∧ i = .int .i64 k ∧ x = .int .i64 T ∧ T ≤ k * 65535 ∧ Hid (totalL (ws.take k) = T) ∧ Hid (badS (ws.take k) = none)) (fun _ i => len - (RowKit.intOf i).toNat)
      case atStart => exact ⟨0, 0, Nat.zero_le _, rfl, rfl, by omega, Lib.hid rfl, Lib.hid rfl⟩
      case round =>
        obtain ⟨k, T, hk, rfl, rfl, hT, HK, HB⟩ := hrel
        by_cases hlt : k < len
        · obtain ⟨b, off, rfl, t, hf, hc⟩ := str_at HI.out (Below.refl _ _) k hlt
          have HS := Lib.hid (bsize t)
          have htl := HT.out t (List.mem_of_getElem? hf)
          by_cases e0 : t.length = 0
          · have HE := Lib.hid (fault_bad HL.out.1 HL.out.2 (bad_zero HB.out hf e0))
            obtain rfl : t = [] := List.eq_nil_of_length_eq_zero e0
            clear hf HK HB H2
            go_wp2
            go_ret
            exact ⟨by rw [HE.out]; rfl, Below.refl _ _⟩
          · have g0 := len_empty e0
            by_cases e1 : 65535 < t.length
            · have HE := Lib.hid (fault_bad HL.out.1 HL.out.2 (bad_long HB.out hf e1))
              clear hf HK HB H2
              go_wp2
              go_ret
              exact ⟨by rw [HE.out]; rfl, Below.refl _ _⟩
            · have HB2 := Lib.hid (bad_snoc HB.out hf e0 e1)
              have HK2 : Hid (totalL (ws.take (k + 1)) = T + t.length) := Lib.hid (by rw [total_snoc hf, HK.out])
              clear hf HK HB H2
              go_wp2
              exact ⟨⟨k + 1, T + t.length, by omega, by go_num, by go_num, by omega, HK2, HB2⟩, by simp [RowKit.intOf]; omega⟩
        · obtain rfl : k = len := by omega
          have HK2 : Hid (totalL ws = T) := Lib.hid (by have := HK.out; rwa [HW.out] at this)
          have HB2 : Hid (badS ws = none) := Lib.hid (by have := HB.out; rwa [HW.out] at this)
          clear HK HB
          by_cases e2 : 16777216 < T
          · have HE := Lib.hid (fault_full HL.out.1 HL.out.2 HB2.out (by rw [HK2.out]; exact e2))
            clear H2
            go_wp2
            go_ret
            exact ⟨by rw [HE.out]; rfl, Below.refl _ _⟩
          · have HZ : Hid (if 0 ≤ twS [] ws 0 then faultL ws = 8 else faultL ws = 0) := Lib.hid (by
              split
              · exact fault_twice HL.out.1 HL.out.2 HB2.out (by rw [HK2.out]; exact e2) ‹_›
              · exact fault_good HL.out.1 HL.out.2 HB2.out (by rw [HK2.out]; exact e2) ‹_›)
            generalize twS [] ws 0 = z at HZ H2
            by_cases e3 : 0 ≤ z
            · have HE : Hid (faultL ws = 8) := Lib.hid (by have := HZ.out; rwa [if_pos e3] at this)
              go_wp2_with fail
              refine H2.out.mono ?_
              rintro e w2 ⟨rfl, hb⟩
              go_wp2
              go_ret
              exact ⟨by rw [HE.out]; rfl, hb⟩
            · have HE : Hid (faultL ws = 0) := Lib.hid (by have := HZ.out; rwa [if_neg e3] at this)
              go_wp2_with fail
              refine H2.out.mono ?_
              rintro e w2 ⟨rfl, hb⟩
              go_wp2
              go_ret
              exact ⟨by rw [HE.out]; rfl, hb⟩

/-- What the document's New answers. -/
def NewR (ws : List (List UInt8)) (w : World) (e : Ending) (w' : World) : Prop :=
  ∃ (a : Option Addr) (cap : Nat) (L : List (List UInt8)), e = .returned (.tuple #[.slice a L.length cap, .int .i64 (faultL ws)]) ∧ (faultL ws = 0 → L = srt ws) ∧ (¬ faultL ws = 0 → L = [] ∧ a = none ∧ cap = 0) ∧ IsStrs w' a L.length L ∧ Below w.heap.size w w'
theorem NewR.bad {ws : List (List UInt8)} {w w' : World} {k : Int} (he : faultL ws = k) (hk : ¬ k = 0) (hb : Below w.heap.size w w') : NewR ws w (.returned (.tuple #[.slice none 0 0, .int .i64 k])) w' :=
  ⟨none, 0, [], by rw [he]; rfl, fun h => absurd (he.symm.trans h) hk, fun _ => ⟨rfl, rfl, rfl⟩, ⟨rfl, .inl rfl⟩, hb⟩

end Go.Proofs.YtmgcdhcidojdhaaGreat

namespace Go.Proofs.YtmgcdhcidojdhaaGreat
open Go.RowKit

theorem sclone_any (s : ByteArray) (w : World) (hs : s.size ≤ 1000000000) :
    Calls Tryz.prog 27 #[.string s] w fun e w' => e = .returned (.string s) ∧ Below w.heap.size w w' := by
  have H := Lib.hid (Tryz.stringslite_Clone s w (by omega))
  go_enter Tryz.func27, Tryz.ntmps27
  go_wp2_with fail
  refine H.out.mono ?_
  rintro e w' ⟨rfl, hb⟩
  go_wp2
  go_ret
  exact ⟨rfl, hb⟩

/-- A cell behind a call that was made where the heap was as it is here. -/
theorem cell_heap {w W w' : World} {a : Addr} {v : Value} (h : w.cell? a = some v) (hb : Below W.heap.size W w') (e : W.heap = w.heap) : w'.cell? a = some v := by
  have h1 : W.cell? a = some v := by rw [← h]; exact World.cell?_of_block (w := w) (by rw [e])
  rw [hb.cell (World.block_lt_of_cell? W a h1)]
  exact h1
theorem frozen_heap {w W w' : World} {a : Addr} {v : Value} (h : w.frozen? a = false) (hc : w.cell? a = some v) (hb : Below W.heap.size W w') (e : W.heap = w.heap) : w'.frozen? a = false := by
  have hl := World.block_lt_of_cell? w a hc
  rw [hb.frozen (by rw [e]; exact hl), World.frozen?_of_block (w := w) (by rw [e])]
  exact h
end Go.Proofs.YtmgcdhcidojdhaaGreat

namespace Go.Proofs.YtmgcdhcidojdhaaGreat
open Go.RowKit

set_option maxHeartbeats 1000000 in
theorem ptnew_bad (a : Option Addr) (len cap : Nat) (ws : List (List UInt8)) (w : World) (hlen : len ≤ 1000000) (hr : IsStrs w a len ws) (ht : ∀ t ∈ ws, t.length ≤ 1000000000) (hf : ¬ faultL ws = 0) :
    Calls Tryz.prog 7 #[.slice a len cap] w fun e w' => e = .returned (.tuple #[.pointer none, .int .i64 (faultL ws)]) ∧ Below w.heap.size w w' := by
  have HF := Lib.hid (ptfault_any a len cap ws w hlen hr ht)
  generalize faultL ws = f at HF hf ⊢
  clear hr ht
  go_enter Tryz.func7, Tryz.ntmps7
  go_wp2_with fail
  refine HF.out.mono ?_
  rintro e w' ⟨rfl, hb⟩
  go_wp2
  go_ret2
  exact ⟨rfl, hb⟩

/-- A set of which the first k patterns are counted. -/
def Half (base : Nat) (w : World) (b : Nat) (v : Value) (ws : List (List UInt8)) (k : Nat) : Prop :=
  w.heap[b]? = some (.cells #[v, .int .i64 (leastL (ws.take k) : Int), .int .i64 (mostL (ws.take k) : Int), .int .i64 (totalL (ws.take k) : Int)] 63 (0, 0)) ∧ w.ownsRow base 9 1 v ws.length (txCells ws) ∧ v.ownBlock ≠ some b

/-- An element is stored anew as it was. -/
theorem own_again {w : World} {base g n cap : Nat} {ws : List (List UInt8)} {k : Nat} {t : List UInt8} (h : w.ownsRow base 9 1 (.slice (some ⟨g, 0, none⟩) n cap) n (txCells ws)) (hk : ws[k]? = some t) :
    (w.setCell ⟨g, k, none⟩ (.string ⟨t.toArray⟩)).ownsRow base 9 1 (.slice (some ⟨g, 0, none⟩) n cap) n (txCells ws) := by
  have hc := own_at h hk
  obtain ⟨h1, h2 | ⟨g', cap', cur, hv, hb, hh, h3⟩⟩ := h
  · cases h2.1
  · cases hv
    refine ⟨h1, .inr ⟨g, cap, cur, rfl, hb, ?_, h3⟩⟩
    rw [set_put hh]
    rw [Lib.cell_of_heap hh] at hc
    obtain ⟨hi, e⟩ := Array.getElem?_eq_some_iff.1 hc
    congr 2
    refine Array.ext (by simp) fun i h1 h2 => ?_
    rw [Array.getElem_setIfInBounds]
    split
    · rename_i h
      subst h
      exact e.symm
    · rfl

theorem half_again {w W : World} {base b g n cap : Nat} {ws : List (List UInt8)} {k m : Nat} {t : List UInt8} (h : Half base w b (.slice (some ⟨g, 0, none⟩) n cap) ws m) (hn : ws.length = n) (hb : Below w.heap.size w W) (hk : ws[k]? = some t) :
    Half base (W.setCell ⟨g, k, none⟩ (.string ⟨t.toArray⟩)) b (.slice (some ⟨g, 0, none⟩) n cap) ws m := by
  obtain ⟨h1, h2, h3⟩ := h
  have hne : b ≠ g := fun e => h3 (by rw [e]; rfl)
  refine ⟨?_, ?_, h3⟩
  · rw [Below.heap_setCell _ _ _ _ hne]
    exact (hb.block b (heap_lt h1)).trans h1
  · rw [hn] at h2 ⊢
    exact own_again (tx_below h2 hb) hk

set_option maxHeartbeats 4000000 in
theorem ptnew_good (a : Option Addr) (len cap : Nat) (ws : List (List UInt8)) (w : World) (hlen : len ≤ 1000000) (hr : IsStrs w a len ws) (hf : faultL ws = 0) :
    Calls Tryz.prog 7 #[.slice a len cap] w fun e w' => ∃ b, e = .returned (.tuple #[.pointer (some ⟨b, 0, none⟩), .int .i64 0]) ∧ w.heap.size ≤ b ∧ IsSet w' b (srt ws) ∧ Below w.heap.size w w' := by
  have hP := (fault_zero ws).1 hf
  have hS := hP.srt
  have ht : ∀ t ∈ ws, t.length ≤ 1000000000 := fun t h => by have := (hP.each t h).2; omega
  have HF := Lib.hid (ptfault_any a len cap ws w hlen hr ht)
  rw [hf] at HF
  have HS := Lib.hid (fun (w2 : World) (hb : Below w.heap.size w w2) => sorted_any a len cap ws w2 hlen (hr.below hb))
  have hwl := hr.1
  have HL : Hid ((srt ws).length = len) := Lib.hid (by rw [srt_length]; exact hwl)
  have HE : Hid (∀ t ∈ srt ws, t.length ≤ 65535) := Lib.hid (fun t h => (hS.each t h).2)
  have hl1 : 1 ≤ len := by have := hP.some; omega
  have hl2 : len ≤ 65535 := by have := hP.few; omega
  have HT0 : Hid (totalL (srt ws) ≤ 16777216) := Lib.hid hS.total
  clear hP hS ht hf hr hwl
  generalize srt ws = us at HS HL HE HT0 ⊢
  go_enter Tryz.func7, Tryz.ntmps7
  go_wp2_with fail
  refine HF.out.mono ?_
  rintro e w1 ⟨rfl, hb1⟩
  have HS1 := Lib.hid (HS.out w1 hb1)
  clear HF HS
  go_wp2_with fail
  refine HS1.out.mono ?_
  rintro e w2 ⟨v, rfl, hown, hb2⟩
  have d2 := hb1.trans (hb2.mono hb1.size)
  obtain ⟨n1, rfl⟩ : ∃ n, len = n + 1 := ⟨len - 1, by omega⟩
  rw [HL.out] at hown
  obtain ⟨g, cap2, rfl⟩ := own_form hown
  have hg := hown.lt g rfl
  have hsz := d2.size
  have hown2 := owns_mono hown hb1.size
  have HH : Hid (Half w.heap.size (w2.alloc (.cells #[.slice (some ⟨g, 0, none⟩) (n1 + 1) cap2, .int .i64 65535, .int .i64 0, .int .i64 0] 63)) w2.heap.size (.slice (some ⟨g, 0, none⟩) (n1 + 1) cap2) us 0) :=
    Lib.hid ⟨heap_alloc_new w2 _, by rw [HL.out]; exact hown2.alloc _, by intro e; cases e; exact absurd hg.2 (Nat.lt_irrefl _)⟩
  have D3 : Below w.heap.size w (w2.alloc (.cells #[.slice (some ⟨g, 0, none⟩) (n1 + 1) cap2, .int .i64 65535, .int .i64 0, .int .i64 0] 63)) := d2.alloc hsz _
  have hbb : w.heap.size ≤ w2.heap.size := hsz
  obtain ⟨b, hbq⟩ : ∃ b, w2.heap.size = b := ⟨_, rfl⟩
  rw [hbq] at HH hbb
  have hgb : g ≠ b := by omega
  have hgw : w.heap.size ≤ g := by have := hb1.size; omega
  have HQ := Lib.hid hbq
  clear hown hown2 hb1 hb2 d2 hg HS1 hbq
  obtain ⟨n, hn⟩ : ∃ n, n1 + 1 = n := ⟨_, rfl⟩
  rw [hn] at HL HH D3 hl1 hl2 ⊢
  clear hn
  have z0 : min (65535 : Int) 0 = 0 := by omega
  go_wp2_with fail
  rw [HQ.out]
  go_loopw [22] (fun i wr => ∃ k : Nat, k ≤ n ∧ i = .int .i64 k ∧ Hid (Half w.heap.size wr b (.slice (some ⟨g, 0, none⟩) n cap2) us k) ∧ Below w.heap.size w wr) (fun i _ => n - (RowKit.intOf i).toNat)
  case atStart => exact ⟨0, Nat.zero_le _, rfl, HH, D3⟩
  case round =>
    obtain ⟨k, hk, rfl, HK, hbe⟩ := hrel
    by_cases hlt : k < n
    · obtain ⟨t, hf⟩ : ∃ t, us[k]? = some t := ⟨_, List.getElem?_eq_getElem (show k < us.length by rw [HL.out]; exact hlt)⟩
      have htl := HE.out t (List.mem_of_getElem? hf)
      have HS := Lib.hid (bsize t)
      have hK := HK.out
      obtain ⟨hh, ho, hne⟩ := hK
      have c0 : wr.cell? ⟨b, 0, none⟩ = some (.slice (some ⟨g, 0, none⟩) n cap2) := by rw [Lib.cell_of_heap hh]; rfl
      have hcT : wr.cell? ⟨g, k, none⟩ = some (.string ⟨t.toArray⟩) := by rw [HL.out] at ho; exact own_at ho hf
      have hfT : wr.frozen? ⟨g, k, none⟩ = false := by
        obtain ⟨_, h2 | ⟨g', cap', cur, hv, _, hh2, _⟩⟩ := ho
        · cases h2.1
        · cases hv; exact Lib.frozen_of_heap hh2 k
      have hcO : ∀ W w3 : World, Below W.heap.size W w3 → W.heap = wr.heap → w3.cell? ⟨b, 0, none⟩ = some (.slice (some ⟨g, 0, none⟩) n cap2) ∧ w3.cell? ⟨g, k, none⟩ = some (.string ⟨t.toArray⟩) ∧ w3.frozen? ⟨g, k, none⟩ = false := fun W w3 hb e => ⟨cell_heap c0 hb e, cell_heap hcT hb e, frozen_heap hfT hcT hb e⟩
      have HO := Lib.hid hcO
      have HC := Lib.hid (fun W => sclone_any ⟨t.toArray⟩ W (by rw [bsize]; omega))
      clear hh ho hne hcO
      have g0 : (0 : Int) ≤ (k : Int) := by omega
      have g1 : (k : Int) < (n : Int) := by omega
      go_wp2_with fail
      go_region_with (go_at_call 27; refine (HC.out _).mono ?_; rintro e w3 ⟨rfl, hb3⟩; (obtain ⟨q0, q1, q2⟩ := HO.out _ _ hb3 (by rfl)))
      all_goals
        have H4 := half_again (show Half w.heap.size wr.drew b (.slice (some ⟨g, 0, none⟩) n cap2) us k from HK.out) HL.out hb3 hf
        have B4 : Below w.heap.size w (w3.setCell ⟨g, k, none⟩ (.string ⟨t.toArray⟩)) := (hbe.drew.trans (hb3.mono hbe.size)).setCell hgw _
        generalize w3.setCell ⟨g, k, none⟩ (.string ⟨t.toArray⟩) = w4 at H4 B4 ⊢
        have HA : Hid ((leastL (us.take (k + 1)) : Int) = min (leastL (us.take k) : Int) (t.length : Int) ∧ (mostL (us.take (k + 1)) : Int) = max (mostL (us.take k) : Int) (t.length : Int) ∧ (totalL (us.take (k + 1)) : Int) = (totalL (us.take k) : Int) + (t.length : Int)) :=
          Lib.hid (by rw [least_snoc hf, most_snoc hf, total_snoc hf]; omega)
        have hT : totalL (us.take k) + t.length ≤ 16777216 := by
          have := total_take_le us (k + 1)
          rw [total_snoc hf] at this
          have := HT0.out
          omega
        obtain ⟨hh, ho, hne⟩ := H4
        clear hf HK hbe hb3 q0 q1 q2 c0 hcT hfT HO HC
        generalize leastL (us.take k) = L at hh HA
        generalize mostL (us.take k) = M at hh HA
        generalize totalL (us.take k) = T at hh HA hT
        obtain ⟨L2, hL2⟩ : ∃ L2, min (L : Int) (t.length : Int) = L2 := ⟨_, rfl⟩
        obtain ⟨M2, hM2⟩ : ∃ M2, max (M : Int) (t.length : Int) = M2 := ⟨_, rfl⟩
        rw [hL2, hM2] at HA
        have c1 : w4.cell? ⟨b, 1, none⟩ = some (.int .i64 (L : Int)) := by rw [Lib.cell_of_heap hh]; rfl
        have c2 : w4.cell? ⟨b, 2, none⟩ = some (.int .i64 (M : Int)) := by rw [Lib.cell_of_heap hh]; rfl
        have c3 : w4.cell? ⟨b, 3, none⟩ = some (.int .i64 (T : Int)) := by rw [Lib.cell_of_heap hh]; rfl
        have f1 : w4.frozen? ⟨b, 1, none⟩ = false := Lib.frozen_of_heap hh 1
        have f2 : w4.frozen? ⟨b, 2, none⟩ = false := Lib.frozen_of_heap hh 2
        have f3 : w4.frozen? ⟨b, 3, none⟩ = false := Lib.frozen_of_heap hh 3
        have HH4 := Lib.hid hh
        have HO4 := Lib.hid ho
        have HN4 := Lib.hid hne
        clear hh ho hne
        go_wp2_with fail
        refine ⟨⟨k + 1, by omega, by go_num, Lib.hid ⟨?_, ?_, HN4.out⟩, ((B4.setCell hbb _).setCell hbb _).setCell hbb _⟩, by simp [RowKit.intOf]; omega⟩
        · obtain ⟨a1, a2, a3⟩ := HA.out
          rw [a1, a2, a3]
          refine (set_put (set_put (set_put HH4.out _) _) _).trans ?_
          simp
        · exact ownsRow_setCell_other (ownsRow_setCell_other (ownsRow_setCell_other HO4.out HN4.out _) HN4.out _) HN4.out _
    · obtain rfl : k = n := by omega
      have HR : Hid (IsSet wr b us) := Lib.hid (by
        obtain ⟨h1, h2, _⟩ := HK.out
        rw [List.take_of_length_le (by rw [HL.out]; exact Nat.le_refl _)] at h1
        have h3 := owns_mono (base' := 0) h2 (Nat.zero_le _)
        rw [HL.out] at h3
        refine ⟨g, cap2, ?_, ?_⟩ <;> rw [HL.out]
        · exact h1
        · exact h3)
      clear HK
      go_wp2
      go_ret2
      exact ⟨b, rfl, hbb, HR.out, hbe⟩
end Go.Proofs.YtmgcdhcidojdhaaGreat

namespace Go.Proofs.YtmgcdhcidojdhaaGreat
open Go.RowKit
theorem ptnew_all (a : Option Addr) (len cap : Nat) (ws : List (List UInt8)) (w : World) (hlen : len ≤ 1000000) (hr : IsStrs w a len ws) (ht : ∀ t ∈ ws, t.length ≤ 1000000000) :
    Calls Tryz.prog 7 #[.slice a len cap] w fun e w' => ∃ p, e = .returned (.tuple #[.pointer p, .int .i64 (faultL ws)]) ∧ IsPats w' p (setL ws) ∧ Below w.heap.size w w' := by
  by_cases hf : faultL ws = 0
  · refine (ptnew_good a len cap ws w hlen hr hf).mono ?_
    rintro e w' ⟨b, rfl, _, hs, hb⟩
    exact ⟨_, by rw [hf], .inr ⟨b, rfl, by rw [set_good hf]; exact hs, by rw [set_good hf]; exact ((fault_zero ws).1 hf).srt⟩, hb⟩
  · refine (ptnew_bad a len cap ws w hlen hr ht hf).mono ?_
    rintro e w' ⟨rfl, hb⟩
    exact ⟨_, rfl, .inl ⟨rfl, set_bad hf⟩, hb⟩
end Go.Proofs.YtmgcdhcidojdhaaGreat
