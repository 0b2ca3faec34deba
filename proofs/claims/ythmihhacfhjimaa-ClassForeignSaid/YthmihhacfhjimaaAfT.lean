/-
  affix: Twice, walked: who was met is counted in a map.
-/
import Derived.Test.YthmihhacfhjimaaAfFw
import Derived.Maps.OwnOps
import Derived.Maps.Views
import Derived.Maps.OwnSet
import Derived.StringKeys
set_option linter.unusedSimpArgs false
set_option linter.unusedVariables false
namespace Go.Proofs.Ythmihhacfhjimaa
open Go.RowKit Go.Maps Go.WideMaps

theorem keyT : Keyed Try.prog 9 := string_keyed Try.underlying9
theorem zeroT (w : World) : (zeroValue 3).run Try.prog w = .ok (.int .i64 0) w := by kernel_rfl

/-- How often a text was met: the map's number at it. -/
def Cnts (D : DataW Unit) (ws : List (List UInt8)) : Prop := ∀ t : List UInt8, t.length ≤ maxLen → D.atKey (.string t) (.lit (.int .i64 0)) = .lit (.int .i64 (ws.count t : Int))

theorem lit_inj {a b : Int} (h : (DataW.lit (.int .i64 a) : DataW Unit) = .lit (.int .i64 b)) : a = b := by cases h; rfl
theorem count_snoc {ws : List (List UInt8)} {k : Nat} {t : List UInt8} (h : ws[k]? = some t) (u : List UInt8) : (ws.take (k + 1)).count u = (ws.take k).count u + (if t = u then 1 else 0) := by
  obtain ⟨hk, rfl⟩ := List.getElem?_eq_some_iff.1 h
  rw [List.take_succ_eq_append_getElem hk, List.count_append, List.count_singleton]
  simp only [beq_iff_eq]
theorem key_lit (t : List UInt8) : WideAt.IsKeyLit (.string t) := trivial
/-- One more is met. -/
theorem cnts_put {D : DataW Unit} {ws : List (List UInt8)} {k : Nat} {t : List UInt8} {c : Int} (hD : IsMap D) (h : Cnts D (ws.take k)) (hf : ws[k]? = some t) (htl : t.length ≤ maxLen) (hc : c = ((ws.take k).count t : Int) + 1) :
    Cnts (D.put (.string t) (.lit (.int .i64 c))) (ws.take (k + 1)) := fun u hu => by
  rw [count_snoc hf u]
  by_cases e : t = u
  · subst e
    rw [atKey_put_same hD (key_lit _), if_pos rfl, hc]; rfl
  · rw [atKey_put_other (fun h' => e (by cases h'; rfl)), h u hu, if_neg e, Nat.add_zero]

set_option maxHeartbeats 2000000 in
set_option maxRecDepth 100000 in
theorem twice_any (a : Option Addr) (len cap : Nat) (ws : List (List UInt8)) (w : World) (hlen : len ≤ 1000000) (hr : IsStrs w a len ws) (ht : ∀ t ∈ ws, t.length ≤ maxLen) :
    Calls Try.prog 21 #[.slice a len cap] w fun e w' => e = .returned (.int .i64 (twS [] ws 0)) ∧ Below w.heap.size w w' := by
  have hwl := hr.1
  obtain ⟨R, hR⟩ : ∃ R, twS [] ws 0 = R := ⟨_, rfl⟩
  have HR : Hid (twS (ws.take 0) (ws.drop 0) 0 = R) := Lib.hid hR
  rw [hR]
  have HI := Lib.hid hr
  have HT := Lib.hid ht
  have hmm := @run_makeMap Try.prog
  clear hR hr ht
  go_enter Try.func21, Try.ntmps21
  go_wp2
  go_loopw [9] (fun i wr => ∃ (k : Nat) (D : DataW Unit), k ≤ len ∧ i = .int .i64 k ∧ wr.ownsMap Try.prog 9 (plainElem Try.prog 3) w.heap.size k D ∧ Hid (Cnts D (ws.take k)) ∧ Hid (∀ t ∈ ws.take k, (ws.take k).count t = 1) ∧ Hid (twS (ws.take k) (ws.drop k) k = R) ∧ Below w.heap.size w wr) (fun i _ => len - (RowKit.intOf i).toNat)
  case atStart => exact ⟨0, _, Nat.zero_le _, rfl, World.ownsMap_made _ _ _ _, Lib.hid (fun t _ => rfl), Lib.hid (by simp), HR, (Below.refl _ _).alloc (Nat.le_refl _) _⟩
  case round =>
    obtain ⟨k, D, hk, rfl, hown, HC, HD, HK, hbe⟩ := hrel
    by_cases hlt : k < len
    · obtain ⟨b, off, rfl, t, hf, hc⟩ := str_at HI.out hbe k hlt
      have htl := HT.out t (List.mem_of_getElem? hf)
      have hkey : keyOf Try.prog 9 (.string ⟨t.toArray⟩) = some (.string t) := keyOf_string_mk Try.underlying9 (by rw [bsize]; exact htl)
      go_wp2_with (at_lookup; refine wpList_lookup_own_int _ rfl _ _ 57 rfl 9 3 .i64 keyT Try.underlying57 Try.underlying3 (zeroT _) w.heap.size k _ rfl hown _ _ rfl hkey ?_)
      intro c hat hwc
      have hc0 : c = ((ws.take k).count t : Int) := lit_inj (hat.symm.trans (HC.out t htl))
      have hisM := hown.isMap
      clear hat hwc
      by_cases hm : t ∈ ws.take k
      · have h1 : (ws.take k).count t = 1 := HD.out t hm
        have HE : Hid (R = k) := Lib.hid (by rw [← HK.out]; exact tw_hit hf hm)
        have HC2 := Lib.hid (cnts_put (c := 2) hisM HC.out hf htl (by rw [h1]; rfl))
        have hat2 : (D.put (.string t) (.lit (.int .i64 2))).atKey (.string t) (.lit (.int .i64 0)) = .lit (.int .i64 2) := atKey_put_same hisM (key_lit _) _ _
        have HA2 := Lib.hid hat2
        rw [h1] at hc0
        subst hc0
        clear hf HK HC HD hm h1 hat2 hisM
        go_wp2_with (at_mapUpdate; refine wpList_mapUpdate_own _ rfl _ _ _ 57 rfl 9 3 keyT Try.underlying57 _ w.heap.size k _ rfl hown (by unfold maxLen; omega) _ _ _ rfl rfl hkey _ [] (plainElem_int Try.underlying3 (by decide)) ?_)
        intro w1 hown1 hgrow1
        have hbe1 : Below w.heap.size w w1 := hbe.grown hgrow1 hbe.size (fun j hj => by cases hj; exact Nat.le_refl _)
        clear hown hgrow1 hbe
        go_wp2_with (at_lookup; refine wpList_lookup_own_int _ rfl _ _ 57 rfl 9 3 .i64 keyT Try.underlying57 Try.underlying3 (zeroT _) w.heap.size (k + 1) _ rfl hown1 _ _ rfl hkey ?_)
        intro c2 hat2 hwc2
        have hc2 : c2 = 2 := lit_inj (hat2.symm.trans HA2.out)
        subst hc2
        clear hat2 hwc2 hown1
        go_wp2
        go_ret
        exact ⟨by rw [HE.out]; rfl, hbe1⟩
      · have h1 : (ws.take k).count t = 0 := List.count_eq_zero.2 hm
        have HE : Hid (twS (ws.take (k + 1)) (ws.drop (k + 1)) (k + 1) = R) := Lib.hid (by rw [← HK.out]; exact (tw_miss hf hm).symm)
        have HC2 := Lib.hid (cnts_put (c := 1) hisM HC.out hf htl (by rw [h1]; rfl))
        have HD2 : Hid (∀ u ∈ ws.take (k + 1), (ws.take (k + 1)).count u = 1) := Lib.hid (fun u hu => by
          rw [count_snoc hf u]
          rcases mem_take_snoc hf hu with h | rfl
          · rw [HD.out u h, if_neg (fun e => hm (by rw [e]; exact h))]
          · rw [h1, if_pos rfl])
        have hat2 : (D.put (.string t) (.lit (.int .i64 1))).atKey (.string t) (.lit (.int .i64 0)) = .lit (.int .i64 1) := atKey_put_same hisM (key_lit _) _ _
        have HA2 := Lib.hid hat2
        rw [h1] at hc0
        subst hc0
        clear hf HK HC HD hm h1 hat2 hisM
        go_wp2_with (at_mapUpdate; refine wpList_mapUpdate_own _ rfl _ _ _ 57 rfl 9 3 keyT Try.underlying57 _ w.heap.size k _ rfl hown (by unfold maxLen; omega) _ _ _ rfl rfl hkey _ [] (plainElem_int Try.underlying3 (by decide)) ?_)
        intro w1 hown1 hgrow1
        have hbe1 : Below w.heap.size w w1 := hbe.grown hgrow1 hbe.size (fun j hj => by cases hj; exact Nat.le_refl _)
        clear hown hgrow1 hbe
        go_wp2_with (at_lookup; refine wpList_lookup_own_int _ rfl _ _ 57 rfl 9 3 .i64 keyT Try.underlying57 Try.underlying3 (zeroT _) w.heap.size (k + 1) _ rfl hown1 _ _ rfl hkey ?_)
        intro c2 hat2 hwc2
        have hc2 : c2 = 1 := lit_inj (hat2.symm.trans HA2.out)
        subst hc2
        clear hat2 hwc2
        go_wp2
        exact ⟨⟨k + 1, _, by omega, by go_num, hown1, HC2, HD2, HE, hbe1⟩, by simp [RowKit.intOf]; omega⟩
    · obtain rfl : k = len := by omega
      have HE : Hid (R = -1) := Lib.hid (by rw [← HK.out, ← hwl]; exact tw_end ws)
      clear HK
      go_wp2
      go_ret
      exact ⟨by rw [HE.out]; rfl, hbe⟩
end Go.Proofs.Ythmihhacfhjimaa
