/-
  Texts put together: AfT, PtF, PtC, PtN, PtU, TbA.
-/
import Derived.Test.YtpblllpgmibkoaaGreatBn6
import Derived.Maps.OwnOps
import Derived.Maps.Views
import Derived.Maps.OwnSet
import Derived.StringKeys
import Derived.Test.YtpblllpgmibkoaaGreatBn3
import Derived.Test.YtpblllpgmibkoaaGreatBn10
import Derived.Test.YtpblllpgmibkoaaGreatBn2
import Derived.Test.YtpblllpgmibkoaaGreatShelf
import Derived.Lib.MinMax
import Derived.OneCell
import Derived.Test.YtpblllpgmibkoaaGreatBn12
import Derived.Test.YtpblllpgmibkoaaGreatTbP
set_option linter.unusedSimpArgs false
set_option linter.unusedVariables false
namespace Go.Proofs.YtpblllpgmibkoaaGreat
open Go.RowKit Go.Maps Go.WideMaps

theorem keyT : Keyed Tryz.prog 9 := string_keyed Tryz.underlying9
theorem zeroT (w : World) : (zeroValue 3).run Tryz.prog w = .ok (.int .i64 0) w := by kernel_rfl

/-- How often a text was met: the map's number at it. -/
def Cnts (D : DataW Unit) (ws : List (List UInt8)) : Prop := ∀ t : List UInt8, t.length ≤ maxLen → D.atKey (.string t) (.lit (.int .i64 0)) = .lit (.int .i64 (ws.count t : Int))

theorem lit_inj {a b : Int} (h : (DataW.lit (.int .i64 a) : DataW Unit) = .lit (.int .i64 b)) : a = b := by cases h; rfl
theorem count_snoc {ws : List (List UInt8)} {k : Nat} {t : List UInt8} (h : ws[k]? = some t) (u : List UInt8) : (ws.take (k + 1)).count u = (ws.take k).count u + (if t = u then 1 else 0) := by
  obtain ⟨hk, rfl⟩ := List.getElem?_eq_some_iff.1 h
  rw [List.take_succ_eq_append_getElem hk, List.count_append, List.count_singleton]
  simp only [beq_iff_eq]
theorem key_lit (t : List UInt8) : WideAt.IsKeyLit (.string t) := trivial
/-- One more is met. -/
theorem cnts_put {D : DataW Unit} {ws : List (List UInt8)} {k : Nat} {t : List UInt8} {c : Int} (hD : IsMap D) (h : Cnts D (ws.take k)) (hf : ws[k]? = some t) (htl : t.length ≤ maxLen) (hc : c = ((ws.take k).count t : Int) + 1) :
    Cnts (D.put (.string t) (.lit (.int .i64 c))) (ws.take (k + 1)) := fun u hu => by
  rw [count_snoc hf u]
  by_cases e : t = u
  · subst e
    rw [atKey_put_same hD (key_lit _), if_pos rfl, hc]; rfl
  · rw [atKey_put_other (fun h' => e (by cases h'; rfl)), h u hu, if_neg e, Nat.add_zero]

set_option maxHeartbeats 2000000 in
set_option maxRecDepth 100000 in
theorem twice_any (a : Option Addr) (len cap : Nat) (ws : List (List UInt8)) (w : World) (hlen : len ≤ 1000000) (hr : IsStrs w a len ws) (ht : ∀ t ∈ ws, t.length ≤ maxLen) :
    Calls Tryz.prog 50 #[.slice a len cap] w fun e w' => e = .returned (.int .i64 (twS [] ws 0)) ∧ Below w.heap.size w w' := by
  have hwl := hr.1
  obtain ⟨R, hR⟩ : ∃ R, twS [] ws 0 = R := ⟨_, rfl⟩
  have HR : Hid (twS (ws.take 0) (ws.drop 0) 0 = R) := Lib.hid hR
  rw [hR]
  have HI := Lib.hid hr
  have HT := Lib.hid ht
  have hmm := @run_makeMap Tryz.prog
  clear hR hr ht
  go_enter Tryz.func50, Tryz.ntmps50
  go_wp2
  go_loopw [9] (fun i wr => ∃ (k : Nat) (D : DataW Unit), k ≤ len ∧ i = .int .i64 k ∧ wr.ownsMap Tryz.prog 9 (plainElem Tryz.prog 3) w.heap.size k D ∧ Hid (Cnts D (ws.take k)) ∧ Hid (∀ t ∈ ws.take k, (ws.take k).count t = 1) ∧ Hid (twS (ws.take k) (ws.drop k) k = R) ∧ Below w.heap.size w wr) (fun i _ => len - (RowKit.intOf i).toNat)
  case atStart => exact ⟨0, _, Nat.zero_le _, rfl, World.ownsMap_made _ _ _ _, Lib.hid (fun t _ => rfl), Lib.hid (by simp), HR, (Below.refl _ _).alloc (Nat.le_refl _) _⟩
  case round =>
    obtain ⟨k, D, hk, rfl, hown, HC, HD, HK, hbe⟩ := hrel
    by_cases hlt : k < len
    · obtain ⟨b, off, rfl, t, hf, hc⟩ := str_at HI.out hbe k hlt
      have htl := HT.out t (List.mem_of_getElem? hf)
      have hkey : keyOf Tryz.prog 9 (.string ⟨t.toArray⟩) = some (.string t) := keyOf_string_mk Tryz.underlying9 (by rw [bsize]; exact htl)
      go_wp2_with (at_lookup; refine wpList_lookup_own_int _ rfl _ _ 122 rfl 9 3 .i64 keyT Tryz.underlying122 Tryz.underlying3 (zeroT _) w.heap.size k _ rfl hown _ _ rfl hkey ?_)
      intro c hat hwc
      have hc0 : c = ((ws.take k).count t : Int) := lit_inj (hat.symm.trans (HC.out t htl))
      have hisM := hown.isMap
      clear hat hwc
      by_cases hm : t ∈ ws.take k
      · have h1 : (ws.take k).count t = 1 := HD.out t hm
        have HE : Hid (R = k) := Lib.hid (by rw [← HK.out]; exact tw_hit hf hm)
        have HC2 := Lib.hid (cnts_put (c := 2) hisM HC.out hf htl (by rw [h1]; rfl))
        have hat2 : (D.put (.string t) (.lit (.int .i64 2))).atKey (.string t) (.lit (.int .i64 0)) = .lit (.int .i64 2) := atKey_put_same hisM (key_lit _) _ _
        have HA2 := Lib.hid hat2
        rw [h1] at hc0
        subst hc0
        clear hf HK HC HD hm h1 hat2 hisM
        go_wp2_with (at_mapUpdate; refine wpList_mapUpdate_own _ rfl _ _ _ 122 rfl 9 3 keyT Tryz.underlying122 _ w.heap.size k _ rfl hown (by unfold maxLen; omega) _ _ _ rfl rfl hkey _ [] (plainElem_int Tryz.underlying3 (by decide)) ?_)
        intro w1 hown1 hgrow1
        have hbe1 : Below w.heap.size w w1 := hbe.grown hgrow1 hbe.size (fun j hj => by cases hj; exact Nat.le_refl _)
        clear hown hgrow1 hbe
        go_wp2_with (at_lookup; refine wpList_lookup_own_int _ rfl _ _ 122 rfl 9 3 .i64 keyT Tryz.underlying122 Tryz.underlying3 (zeroT _) w.heap.size (k + 1) _ rfl hown1 _ _ rfl hkey ?_)
        intro c2 hat2 hwc2
        have hc2 : c2 = 2 := lit_inj (hat2.symm.trans HA2.out)
        subst hc2
        clear hat2 hwc2 hown1
        go_wp2
        go_ret
        exact ⟨by rw [HE.out]; rfl, hbe1⟩
      · have h1 : (ws.take k).count t = 0 := List.count_eq_zero.2 hm
        have HE : Hid (twS (ws.take (k + 1)) (ws.drop (k + 1)) (k + 1) = R) := Lib.hid (by rw [← HK.out]; exact (tw_miss hf hm).symm)
        have HC2 := Lib.hid (cnts_put (c := 1) hisM HC.out hf htl (by rw [h1]; rfl))
        have HD2 : Hid (∀ u ∈ ws.take (k + 1), (ws.take (k + 1)).count u = 1) := Lib.hid (fun u hu => by
          rw [count_snoc hf u]
          rcases mem_take_snoc hf hu with h | rfl
          · rw [HD.out u h, if_neg (fun e => hm (by rw [e]; exact h))]
          · rw [h1, if_pos rfl])
        have hat2 : (D.put (.string t) (.lit (.int .i64 1))).atKey (.string t) (.lit (.int .i64 0)) = .lit (.int .i64 1) := atKey_put_same hisM (key_lit _) _ _
        have HA2 := Lib.hid hat2
        rw [h1] at hc0
        subst hc0
        clear hf HK HC HD hm h1 hat2 hisM
        go_wp2_with (at_mapUpdate; refine wpList_mapUpdate_own _ rfl _ _ _ 122 rfl 9 3 keyT Tryz.underlying122 _ w.heap.size k _ rfl hown (by unfold maxLen; omega) _ _ _ rfl rfl hkey _ [] (plainElem_int Tryz.underlying3 (by decide)) ?_)
        intro w1 hown1 hgrow1
        have hbe1 : Below w.heap.size w w1 := hbe.grown hgrow1 hbe.size (fun j hj => by cases hj; exact Nat.le_refl _)
        clear hown hgrow1 hbe
        go_wp2_with (at_lookup; refine wpList_lookup_own_int _ rfl _ _ 122 rfl 9 3 .i64 keyT Tryz.underlying122 Tryz.underlying3 (zeroT _) w.heap.size (k + 1) _ rfl hown1 _ _ rfl hkey ?_)
        intro c2 hat2 hwc2
        have hc2 : c2 = 1 := lit_inj (hat2.symm.trans HA2.out)
        subst hc2
        clear hat2 hwc2
        go_wp2
        exact ⟨⟨k + 1, _, by omega, by go_num, hown1, HC2, HD2, HE, hbe1⟩, by simp [RowKit.intOf]; omega⟩
    · obtain rfl : k = len := by omega
      have HE : Hid (R = -1) := Lib.hid (by rw [← HK.out, ← hwl]; exact tw_end ws)
      clear HK
      go_wp2
      go_ret
      exact ⟨by rw [HE.out]; rfl, hbe⟩
end Go.Proofs.YtpblllpgmibkoaaGreat

namespace Go.Proofs.YtpblllpgmibkoaaGreat
open Go.RowKit

theorem len_empty {t : List UInt8} (h : ¬ t.length = 0) : t.isEmpty = false := by cases t with | nil => simp at h | cons _ _ => rfl

set_option maxHeartbeats 2000000 in
theorem ptfault_any (a : Option Addr) (len cap : Nat) (ws : List (List UInt8)) (w : World) (hlen : len ≤ 1000000) (hr : IsStrs w a len ws) (ht : ∀ t ∈ ws, t.length ≤ 1000000000) :
    Calls Tryz.prog 23 #[.slice a len cap] w fun e w' => e = .returned (.int .i64 (faultL ws)) ∧ Below w.heap.size w w' := by
  have hwl := hr.1
  by_cases h0 : len = 0
  · have HE := Lib.hid (fault_none (ws := ws) (by omega))
    subst h0
    clear hr ht
    go_enter Tryz.func23, Tryz.ntmps23
    go_wp2
    go_ret
    exact ⟨by rw [HE.out]; rfl, Below.refl _ _⟩
  · by_cases h1 : 65535 < len
    · have HE := Lib.hid (fault_many (ws := ws) (by omega))
      clear hr ht
      go_enter Tryz.func23, Tryz.ntmps23
      go_wp2
      go_ret
      exact ⟨by rw [HE.out]; rfl, Below.refl _ _⟩
    · have HI := Lib.hid hr
      have HT := Lib.hid ht
      have HW : Hid (ws.take len = ws) := Lib.hid (List.take_of_length_le (by omega))
      have HL : Hid (¬ ws.length = 0 ∧ ¬ 65535 < ws.length) := Lib.hid (by omega)
      have H2 := Lib.hid (twice_any a len cap ws w hlen hr (fun t h => by have := ht t h; unfold maxLen; omega))
      clear hr ht
      go_enter Tryz.func23, Tryz.ntmps23
      go_wp2
      go_loop [3, 16] (fun x i => ∃ k T : Nat, k ≤ len ∧ i = .int .i64 k ∧ x = .int .i64 T ∧ T ≤ k * 65535 ∧ Hid (totalL (ws.take k) = T) ∧ Hid (badS (ws.take k) = none)) (fun _ i => len - (RowKit.intOf i).toNat)
      case atStart => exact ⟨0, 0, Nat.zero_le _, rfl, rfl, by omega, Lib.hid rfl, Lib.hid rfl⟩
      case round =>
        obtain ⟨k, T, hk, rfl, rfl, hT, HK, HB⟩ := hrel
        by_cases hlt : k < len
        · obtain ⟨b, off, rfl, t, hf, hc⟩ := str_at HI.out (Below.refl _ _) k hlt
          have HS := Lib.hid (bsize t)
          have htl := HT.out t (List.mem_of_getElem? hf)
          by_cases e0 : t.length = 0
          · have HE := Lib.hid (fault_bad HL.out.1 HL.out.2 (bad_zero HB.out hf e0))
            obtain rfl : t = [] := List.eq_nil_of_length_eq_zero e0
            clear hf HK HB H2
            go_wp2
            go_ret
            exact ⟨by rw [HE.out]; rfl, Below.refl _ _⟩
          · have g0 := len_empty e0
            by_cases e1 : 65535 < t.length
            · have HE := Lib.hid (fault_bad HL.out.1 HL.out.2 (bad_long HB.out hf e1))
              clear hf HK HB H2
              go_wp2
              go_ret
              exact ⟨by rw [HE.out]; rfl, Below.refl _ _⟩
            · have HB2 := Lib.hid (bad_snoc HB.out hf e0 e1)
              have HK2 : Hid (totalL (ws.take (k + 1)) = T + t.length) := Lib.hid (by rw [total_snoc hf, HK.out])
              clear hf HK HB H2
              go_wp2
              exact ⟨⟨k + 1, T + t.length, by omega, by go_num, by go_num, by omega, HK2, HB2⟩, by simp [RowKit.intOf]; omega⟩
        · obtain rfl : k = len := by omega
          have HK2 : Hid (totalL ws = T) := Lib.hid (by have := HK.out; rwa [HW.out] at this)
          have HB2 : Hid (badS ws = none) := Lib.hid (by have := HB.out; rwa [HW.out] at this)
          clear HK HB
          by_cases e2 : 16777216 < T
          · have HE := Lib.hid (fault_full HL.out.1 HL.out.2 HB2.out (by rw [HK2.out]; exact e2))
            clear H2
            go_wp2
            go_ret
            exact ⟨by rw [HE.out]; rfl, Below.refl _ _⟩
          · have HZ : Hid (if 0 ≤ twS [] ws 0 then faultL ws = 8 else faultL ws = 0) := Lib.hid (by
              split
              · exact fault_twice HL.out.1 HL.out.2 HB2.out (by rw [HK2.out]; exact e2) ‹_›
              · exact fault_good HL.out.1 HL.out.2 HB2.out (by rw [HK2.out]; exact e2) ‹_›)
            generalize twS [] ws 0 = z at HZ H2
            by_cases e3 : 0 ≤ z
            · have HE : Hid (faultL ws = 8) := Lib.hid (by have := HZ.out; rwa [if_pos e3] at this)
              go_wp2_with fail
              refine H2.out.mono ?_
              rintro e w2 ⟨rfl, hb⟩
              go_wp2
              go_ret
              exact ⟨by rw [HE.out]; rfl, hb⟩
            · have HE : Hid (faultL ws = 0) := Lib.hid (by have := HZ.out; rwa [if_neg e3] at this)
              go_wp2_with fail
              refine H2.out.mono ?_
              rintro e w2 ⟨rfl, hb⟩
              go_wp2
              go_ret
              exact ⟨by rw [HE.out]; rfl, hb⟩

/-- What the document's New answers. -/
def NewR (ws : List (List UInt8)) (w : World) (e : Ending) (w' : World) : Prop :=
  ∃ (a : Option Addr) (cap : Nat) (L : List (List UInt8)), e = .returned (.tuple #[.slice a L.length cap, .int .i64 (faultL ws)]) ∧ (faultL ws = 0 → L = srt ws) ∧ (¬ faultL ws = 0 → L = [] ∧ a = none ∧ cap = 0) ∧ IsStrs w' a L.length L ∧ Below w.heap.size w w'
theorem NewR.bad {ws : List (List UInt8)} {w w' : World} {k : Int} (he : faultL ws = k) (hk : ¬ k = 0) (hb : Below w.heap.size w w') : NewR ws w (.returned (.tuple #[.slice none 0 0, .int .i64 k])) w' :=
  ⟨none, 0, [], by rw [he]; rfl, fun h => absurd (he.symm.trans h) hk, fun _ => ⟨rfl, rfl, rfl⟩, ⟨rfl, .inl rfl⟩, hb⟩

end Go.Proofs.YtpblllpgmibkoaaGreat

namespace Go.Proofs.YtpblllpgmibkoaaGreat
open Go.RowKit

theorem sclone_any (s : ByteArray) (w : World) (hs : s.size ≤ 1000000000) :
    Calls Tryz.prog 25 #[.string s] w fun e w' => e = .returned (.string s) ∧ Below w.heap.size w w' := by
  have H := Lib.hid (Tryz.stringslite_Clone s w (by omega))
  go_enter Tryz.func25, Tryz.ntmps25
  go_wp2_with fail
  refine H.out.mono ?_
  rintro e w' ⟨rfl, hb⟩
  go_wp2
  go_ret
  exact ⟨rfl, hb⟩

/-- A cell behind a call that was made where the heap was as it is here. -/
theorem cell_heap {w W w' : World} {a : Addr} {v : Value} (h : w.cell? a = some v) (hb : Below W.heap.size W w') (e : W.heap = w.heap) : w'.cell? a = some v := by
  have h1 : W.cell? a = some v := by rw [← h]; exact World.cell?_of_block (w := w) (by rw [e])
  rw [hb.cell (World.block_lt_of_cell? W a h1)]
  exact h1
theorem frozen_heap {w W w' : World} {a : Addr} {v : Value} (h : w.frozen? a = false) (hc : w.cell? a = some v) (hb : Below W.heap.size W w') (e : W.heap = w.heap) : w'.frozen? a = false := by
  have hl := World.block_lt_of_cell? w a hc
  rw [hb.frozen (by rw [e]; exact hl), World.frozen?_of_block (w := w) (by rw [e])]
  exact h
end Go.Proofs.YtpblllpgmibkoaaGreat

namespace Go.Proofs.YtpblllpgmibkoaaGreat
open Go.RowKit

set_option maxHeartbeats 1000000 in
theorem ptnew_bad (a : Option Addr) (len cap : Nat) (ws : List (List UInt8)) (w : World) (hlen : len ≤ 1000000) (hr : IsStrs w a len ws) (ht : ∀ t ∈ ws, t.length ≤ 1000000000) (hf : ¬ faultL ws = 0) :
    Calls Tryz.prog 8 #[.slice a len cap] w fun e w' => e = .returned (.tuple #[.pointer none, .int .i64 (faultL ws)]) ∧ Below w.heap.size w w' := by
  have HF := Lib.hid (ptfault_any a len cap ws w hlen hr ht)
  generalize faultL ws = f at HF hf ⊢
  clear hr ht
  go_enter Tryz.func8, Tryz.ntmps8
  go_wp2_with fail
  refine HF.out.mono ?_
  rintro e w' ⟨rfl, hb⟩
  go_wp2
  go_ret2
  exact ⟨rfl, hb⟩

/-- A set of which the first k patterns are counted. -/
def Half (base : Nat) (w : World) (b : Nat) (v : Value) (ws : List (List UInt8)) (k : Nat) : Prop :=
  w.heap[b]? = some (.cells #[v, .int .i64 (leastL (ws.take k) : Int), .int .i64 (mostL (ws.take k) : Int), .int .i64 (totalL (ws.take k) : Int)] 56 (0, 0)) ∧ w.ownsRow base 9 1 v ws.length (txCells ws) ∧ v.ownBlock ≠ some b

/-- An element is stored anew as it was. -/
theorem own_again {w : World} {base g n cap : Nat} {ws : List (List UInt8)} {k : Nat} {t : List UInt8} (h : w.ownsRow base 9 1 (.slice (some ⟨g, 0, none⟩) n cap) n (txCells ws)) (hk : ws[k]? = some t) :
    (w.setCell ⟨g, k, none⟩ (.string ⟨t.toArray⟩)).ownsRow base 9 1 (.slice (some ⟨g, 0, none⟩) n cap) n (txCells ws) := by
  have hc := own_at h hk
  obtain ⟨h1, h2 | ⟨g', cap', cur, hv, hb, hh, h3⟩⟩ := h
  · cases h2.1
  · cases hv
    refine ⟨h1, .inr ⟨g, cap, cur, rfl, hb, ?_, h3⟩⟩
    rw [set_put hh]
    rw [Lib.cell_of_heap hh] at hc
    obtain ⟨hi, e⟩ := Array.getElem?_eq_some_iff.1 hc
    congr 2
    refine Array.ext (by simp) fun i h1 h2 => ?_
    rw [Array.getElem_setIfInBounds]
    split
    · rename_i h
      subst h
      exact e.symm
    · rfl

theorem half_again {w W : World} {base b g n cap : Nat} {ws : List (List UInt8)} {k m : Nat} {t : List UInt8} (h : Half base w b (.slice (some ⟨g, 0, none⟩) n cap) ws m) (hn : ws.length = n) (hb : Below w.heap.size w W) (hk : ws[k]? = some t) :
    Half base (W.setCell ⟨g, k, none⟩ (.string ⟨t.toArray⟩)) b (.slice (some ⟨g, 0, none⟩) n cap) ws m := by
  obtain ⟨h1, h2, h3⟩ := h
  have hne : b ≠ g := fun e => h3 (by rw [e]; rfl)
  refine ⟨?_, ?_, h3⟩
  · rw [Below.heap_setCell _ _ _ _ hne]
    exact (hb.block b (heap_lt h1)).trans h1
  · rw [hn] at h2 ⊢
    exact own_again (tx_below h2 hb) hk

set_option maxHeartbeats 4000000 in
theorem ptnew_good (a : Option Addr) (len cap : Nat) (ws : List (List UInt8)) (w : World) (hlen : len ≤ 1000000) (hr : IsStrs w a len ws) (hf : faultL ws = 0) :
    Calls Tryz.prog 8 #[.slice a len cap] w fun e w' => ∃ b, e = .returned (.tuple #[.pointer (some ⟨b, 0, none⟩), .int .i64 0]) ∧ w.heap.size ≤ b ∧ IsSet w' b (srt ws) ∧ Below w.heap.size w w' := by
  have hP := (fault_zero ws).1 hf
  have hS := hP.srt
  have ht : ∀ t ∈ ws, t.length ≤ 1000000000 := fun t h => by have := (hP.each t h).2; omega
  have HF := Lib.hid (ptfault_any a len cap ws w hlen hr ht)
  rw [hf] at HF
  have HS := Lib.hid (fun (w2 : World) (hb : Below w.heap.size w w2) => sorted_any a len cap ws w2 hlen (hr.below hb))
  have hwl := hr.1
  have HL : Hid ((srt ws).length = len) := Lib.hid (by rw [srt_length]; exact hwl)
  have HE : Hid (∀ t ∈ srt ws, t.length ≤ 65535) := Lib.hid (fun t h => (hS.each t h).2)
  have hl1 : 1 ≤ len := by have := hP.some; omega
  have hl2 : len ≤ 65535 := by have := hP.few; omega
  have HT0 : Hid (totalL (srt ws) ≤ 16777216) := Lib.hid hS.total
  clear hP hS ht hf hr hwl
  generalize srt ws = us at HS HL HE HT0 ⊢
  go_enter Tryz.func8, Tryz.ntmps8
  go_wp2_with fail
  refine HF.out.mono ?_
  rintro e w1 ⟨rfl, hb1⟩
  have HS1 := Lib.hid (HS.out w1 hb1)
  clear HF HS
  go_wp2_with fail
  refine HS1.out.mono ?_
  rintro e w2 ⟨v, rfl, hown, hb2⟩
  have d2 := hb1.trans (hb2.mono hb1.size)
  obtain ⟨n1, rfl⟩ : ∃ n, len = n + 1 := ⟨len - 1, by omega⟩
  rw [HL.out] at hown
  obtain ⟨g, cap2, rfl⟩ := own_form hown
  have hg := hown.lt g rfl
  have hsz := d2.size
  have hown2 := owns_mono hown hb1.size
  have HH : Hid (Half w.heap.size (w2.alloc (.cells #[.slice (some ⟨g, 0, none⟩) (n1 + 1) cap2, .int .i64 65535, .int .i64 0, .int .i64 0] 56)) w2.heap.size (.slice (some ⟨g, 0, none⟩) (n1 + 1) cap2) us 0) :=
    Lib.hid ⟨heap_alloc_new w2 _, by rw [HL.out]; exact hown2.alloc _, by intro e; cases e; exact absurd hg.2 (Nat.lt_irrefl _)⟩
  have D3 : Below w.heap.size w (w2.alloc (.cells #[.slice (some ⟨g, 0, none⟩) (n1 + 1) cap2, .int .i64 65535, .int .i64 0, .int .i64 0] 56)) := d2.alloc hsz _
  have hbb : w.heap.size ≤ w2.heap.size := hsz
  obtain ⟨b, hbq⟩ : ∃ b, w2.heap.size = b := ⟨_, rfl⟩
  rw [hbq] at HH hbb
  have hgb : g ≠ b := by omega
  have hgw : w.heap.size ≤ g := by have := hb1.size; omega
  have HQ := Lib.hid hbq
  clear hown hown2 hb1 hb2 d2 hg HS1 hbq
  obtain ⟨n, hn⟩ : ∃ n, n1 + 1 = n := ⟨_, rfl⟩
  rw [hn] at HL HH D3 hl1 hl2 ⊢
  clear hn
  have z0 : min (65535 : Int) 0 = 0 := by omega
  go_wp2_with fail
  rw [HQ.out]
  go_loopw [22] (fun i wr => ∃ k : Nat, k ≤ n ∧ i = .int .i64 k ∧ Hid (Half w.heap.size wr b (.slice (some ⟨g, 0, none⟩) n cap2) us k) ∧ Below w.heap.size w wr) (fun i _ => n - (RowKit.intOf i).toNat)
  case atStart => exact ⟨0, Nat.zero_le _, rfl, HH, D3⟩
  case round =>
    obtain ⟨k, hk, rfl, HK, hbe⟩ := hrel
    by_cases hlt : k < n
    · obtain ⟨t, hf⟩ : ∃ t, us[k]? = some t := ⟨_, List.getElem?_eq_getElem (show k < us.length by rw [HL.out]; exact hlt)⟩
      have htl := HE.out t (List.mem_of_getElem? hf)
      have HS := Lib.hid (bsize t)
      have hK := HK.out
      obtain ⟨hh, ho, hne⟩ := hK
      have c0 : wr.cell? ⟨b, 0, none⟩ = some (.slice (some ⟨g, 0, none⟩) n cap2) := by rw [Lib.cell_of_heap hh]; rfl
      have hcT : wr.cell? ⟨g, k, none⟩ = some (.string ⟨t.toArray⟩) := by rw [HL.out] at ho; exact own_at ho hf
      have hfT : wr.frozen? ⟨g, k, none⟩ = false := by
        obtain ⟨_, h2 | ⟨g', cap', cur, hv, _, hh2, _⟩⟩ := ho
        · cases h2.1
        · cases hv; exact Lib.frozen_of_heap hh2 k
      have hcO : ∀ W w3 : World, Below W.heap.size W w3 → W.heap = wr.heap → w3.cell? ⟨b, 0, none⟩ = some (.slice (some ⟨g, 0, none⟩) n cap2) ∧ w3.cell? ⟨g, k, none⟩ = some (.string ⟨t.toArray⟩) ∧ w3.frozen? ⟨g, k, none⟩ = false := fun W w3 hb e => ⟨cell_heap c0 hb e, cell_heap hcT hb e, frozen_heap hfT hcT hb e⟩
      have HO := Lib.hid hcO
      have HC := Lib.hid (fun W => sclone_any ⟨t.toArray⟩ W (by rw [bsize]; omega))
      clear hh ho hne hcO
      have g0 : (0 : Int) ≤ (k : Int) := by omega
      have g1 : (k : Int) < (n : Int) := by omega
      go_wp2_with fail
      go_region_with (go_at_call 25; refine (HC.out _).mono ?_; rintro e w3 ⟨rfl, hb3⟩; (obtain ⟨q0, q1, q2⟩ := HO.out _ _ hb3 (by rfl)))
      all_goals
        have H4 := half_again (show Half w.heap.size wr.drew b (.slice (some ⟨g, 0, none⟩) n cap2) us k from HK.out) HL.out hb3 hf
        have B4 : Below w.heap.size w (w3.setCell ⟨g, k, none⟩ (.string ⟨t.toArray⟩)) := (hbe.drew.trans (hb3.mono hbe.size)).setCell hgw _
        generalize w3.setCell ⟨g, k, none⟩ (.string ⟨t.toArray⟩) = w4 at H4 B4 ⊢
        have HA : Hid ((leastL (us.take (k + 1)) : Int) = min (leastL (us.take k) : Int) (t.length : Int) ∧ (mostL (us.take (k + 1)) : Int) = max (mostL (us.take k) : Int) (t.length : Int) ∧ (totalL (us.take (k + 1)) : Int) = (totalL (us.take k) : Int) + (t.length : Int)) :=
          Lib.hid (by rw [least_snoc hf, most_snoc hf, total_snoc hf]; omega)
        have hT : totalL (us.take k) + t.length ≤ 16777216 := by
          have := total_take_le us (k + 1)
          rw [total_snoc hf] at this
          have := HT0.out
          omega
        obtain ⟨hh, ho, hne⟩ := H4
        clear hf HK hbe hb3 q0 q1 q2 c0 hcT hfT HO HC
        generalize leastL (us.take k) = L at hh HA
        generalize mostL (us.take k) = M at hh HA
        generalize totalL (us.take k) = T at hh HA hT
        obtain ⟨L2, hL2⟩ : ∃ L2, min (L : Int) (t.length : Int) = L2 := ⟨_, rfl⟩
        obtain ⟨M2, hM2⟩ : ∃ M2, max (M : Int) (t.length : Int) = M2 := ⟨_, rfl⟩
        rw [hL2, hM2] at HA
        have c1 : w4.cell? ⟨b, 1, none⟩ = some (.int .i64 (L : Int)) := by rw [Lib.cell_of_heap hh]; rfl
        have c2 : w4.cell? ⟨b, 2, none⟩ = some (.int .i64 (M : Int)) := by rw [Lib.cell_of_heap hh]; rfl
        have c3 : w4.cell? ⟨b, 3, none⟩ = some (.int .i64 (T : Int)) := by rw [Lib.cell_of_heap hh]; rfl
        have f1 : w4.frozen? ⟨b, 1, none⟩ = false := Lib.frozen_of_heap hh 1
        have f2 : w4.frozen? ⟨b, 2, none⟩ = false := Lib.frozen_of_heap hh 2
        have f3 : w4.frozen? ⟨b, 3, none⟩ = false := Lib.frozen_of_heap hh 3
        have HH4 := Lib.hid hh
        have HO4 := Lib.hid ho
        have HN4 := Lib.hid hne
        clear hh ho hne
        go_wp2_with fail
        refine ⟨⟨k + 1, by omega, by go_num, Lib.hid ⟨?_, ?_, HN4.out⟩, ((B4.setCell hbb _).setCell hbb _).setCell hbb _⟩, by simp [RowKit.intOf]; omega⟩
        · obtain ⟨a1, a2, a3⟩ := HA.out
          rw [a1, a2, a3]
          refine (set_put (set_put (set_put HH4.out _) _) _).trans ?_
          simp
        · exact ownsRow_setCell_other (ownsRow_setCell_other (ownsRow_setCell_other HO4.out HN4.out _) HN4.out _) HN4.out _
    · obtain rfl : k = n := by omega
      have HR : Hid (IsSet wr b us) := Lib.hid (by
        obtain ⟨h1, h2, _⟩ := HK.out
        rw [List.take_of_length_le (by rw [HL.out]; exact Nat.le_refl _)] at h1
        have h3 := owns_mono (base' := 0) h2 (Nat.zero_le _)
        rw [HL.out] at h3
        refine ⟨g, cap2, ?_, ?_⟩ <;> rw [HL.out]
        · exact h1
        · exact h3)
      clear HK
      go_wp2
      go_ret2
      exact ⟨b, rfl, hbb, HR.out, hbe⟩
end Go.Proofs.YtpblllpgmibkoaaGreat

namespace Go.Proofs.YtpblllpgmibkoaaGreat
open Go.RowKit
theorem ptnew_all (a : Option Addr) (len cap : Nat) (ws : List (List UInt8)) (w : World) (hlen : len ≤ 1000000) (hr : IsStrs w a len ws) (ht : ∀ t ∈ ws, t.length ≤ 1000000000) :
    Calls Tryz.prog 8 #[.slice a len cap] w fun e w' => ∃ p, e = .returned (.tuple #[.pointer p, .int .i64 (faultL ws)]) ∧ IsPats w' p (setL ws) ∧ Below w.heap.size w w' := by
  by_cases hf : faultL ws = 0
  · refine (ptnew_good a len cap ws w hlen hr hf).mono ?_
    rintro e w' ⟨b, rfl, _, hs, hb⟩
    exact ⟨_, by rw [hf], .inr ⟨b, rfl, by rw [set_good hf]; exact hs, by rw [set_good hf]; exact ((fault_zero ws).1 hf).srt⟩, hb⟩
  · refine (ptnew_bad a len cap ws w hlen hr ht hf).mono ?_
    rintro e w' ⟨rfl, hb⟩
    exact ⟨_, rfl, .inl ⟨rfl, set_bad hf⟩, hb⟩
end Go.Proofs.YtpblllpgmibkoaaGreat

namespace Go.Proofs.YtpblllpgmibkoaaGreat
open Go.RowKit

theorem tbex_fault : faultL [[97]] = 0 := by decide +kernel
theorem tbex_set : setL [[97]] = [[97]] := by decide +kernel
theorem tbex_beg (q : List UInt8) : (q = [] ∨ begL [[97]] q = true) ↔ q ∈ ([[], [97]] : List (List UInt8)) := by
  constructor
  · rintro (rfl | h)
    · simp
    · obtain ⟨t, ht, hp⟩ := beg_iff.1 h
      obtain rfl : t = [97] := by simpa using ht
      rw [List.prefix_cons_iff] at hp
      rcases hp with rfl | ⟨l, rfl, hl⟩
      · simp
      · rw [List.prefix_nil] at hl
        subst hl; simp
  · intro h
    rcases List.mem_cons.1 h with rfl | h
    · exact .inl rfl
    · obtain rfl : q = [97] := by simpa using h
      exact .inr (by decide)
theorem tbex_is {S : List (List UInt8)} (h : IsSt [[97]] S) : S = [[], [97]] := by
  have h0 : IsSt [[97]] [[], [97]] := ⟨by simp [slx], fun q => (tbex_beg q).symm⟩
  exact h.unique h0
theorem tbex_bytes : tbB (bcK [[97]] 256) (ofT [[97]] [[], [97]]) = [116, 97, 98, 1, 2, 1, 97, 0, 1, 1, 1] := by decide +kernel
theorem tbex_fit : fitT [[97]] [[], [97]] (bcK [[97]] 256) (ofT [[97]] [[], [97]]) = true := by decide +kernel

set_option maxRecDepth 100000 in
set_option maxHeartbeats 2000000 in
theorem tbawake_any (w : World) : Calls Tryz.prog 7 #[] w fun e w' => e = .returned (.bool true) ∧ Below w.heap.size w w' := by
  have hA := strs_heap (ws := [[97]]) (heap_alloc_new w (.cells (txCells [[97]]).toArray 9)) rfl
  have H1 := Lib.hid (ptnew_all (some ⟨w.heap.size, 0, none⟩) 1 1 _ _ (by omega) hA (by decide))
  rw [tbex_fault] at H1
  have c1 : Below w.heap.size w (w.alloc (.cells (txCells [[97]]).toArray 9)) := (Below.refl _ w).alloc (Nat.le_refl _) _
  have s1 := c1.size
  clear hA
  go_enter Tryz.func7, Tryz.ntmps7
  go_wp2_with fail
  refine H1.out.mono ?_
  rintro e w2 ⟨p, rfl, hs, hb2⟩
  have d2 := c1.trans (hb2.mono s1)
  have e2 := d2.size
  have hn := pats_nodup hs
  have hasc := set_asc [[97]]
  rw [tbex_set] at hs hn hasc
  have HS2 := Lib.hid hs
  have HO2 := Lib.hid (tbof_any hs hasc hn)
  have HF := Lib.hid (fun (W : World) (h : Below w2.heap.size w2 W) => tbof_any (hs.below h) hasc hn)
  have HFt := Lib.hid (fun (W : World) (h : Below w2.heap.size w2 W) (b : Nat) (own : List UInt8) (R : List (List Int)) (hT : IsTab W b own R) => tbfits_any hT (hs.below h) hasc hn)
  clear H1 hs hb2 c1 s1
  go_wp2_with fail
  refine HO2.out.mono ?_
  rintro e w3 ⟨b, S, rfl, hst, _, _, hT, hb3⟩
  obtain rfl := tbex_is hst
  have HP := Lib.hid (tbput_any hT (by rw [tbex_bytes]; decide))
  rw [tbex_bytes] at HP
  have d3 := d2.trans (hb3.mono e2)
  have e3 := d3.size
  have B3 := Lib.hid hb3
  clear HO2 hT hb3 hst
  go_wp2_with fail
  refine HP.out.mono ?_
  rintro e w4 ⟨rfl, hb4⟩
  have B4 := Lib.hid (B3.out.trans (hb4.mono B3.out.size))
  have HO4 := Lib.hid (HF.out w4 B4.out)
  clear HP hb4 B3 HF
  go_wp2_with fail
  refine HO4.out.mono ?_
  rintro e w5 ⟨b5, S, rfl, hst, _, _, hT, hb5⟩
  obtain rfl := tbex_is hst
  have B5 := Lib.hid (B4.out.trans (hb5.mono B4.out.size))
  have HF5 := Lib.hid (HFt.out w5 B5.out _ _ _ hT)
  clear HO4 hb5 B4 hT hst
  go_wp2_with fail
  refine HF5.out.mono ?_
  rintro e w6 ⟨S, rfl, hst, hb6⟩
  obtain rfl := tbex_is hst
  have d6 := d2.trans ((B5.out.trans (hb6.mono B5.out.size)).mono e2)
  have HT := Lib.hid tbex_fit
  clear HF5 hb6 hst
  rw [HT.out]
  go_wp2
  go_ret
  exact ⟨rfl, d6⟩
end Go.Proofs.YtpblllpgmibkoaaGreat
