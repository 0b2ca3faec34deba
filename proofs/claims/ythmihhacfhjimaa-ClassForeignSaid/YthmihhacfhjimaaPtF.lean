/-
  pats: why texts are no set: walked; and the document's own.
-/
import Derived.Test.YthmihhacfhjimaaPtM
import Derived.Test.YthmihhacfhjimaaAfT
import Derived.Test.YthmihhacfhjimaaAfO
set_option linter.unusedSimpArgs false
set_option linter.unusedVariables false
namespace Go.Proofs.Ythmihhacfhjimaa
open Go.RowKit

theorem len_empty {t : List UInt8} (h : ¬ t.length = 0) : t.isEmpty = false := by cases t with | nil => simp at h | cons _ _ => rfl

set_option maxHeartbeats 2000000 in
theorem ptfault_any (a : Option Addr) (len cap : Nat) (ws : List (List UInt8)) (w : World) (hlen : len ≤ 1000000) (hr : IsStrs w a len ws) (ht : ∀ t ∈ ws, t.length ≤ 1000000000) :
    Calls Try.prog 13 #[.slice a len cap] w fun e w' => e = .returned (.int .i64 (faultL ws)) ∧ Below w.heap.size w w' := by
  have hwl := hr.1
  by_cases h0 : len = 0
  · have HE := Lib.hid (fault_none (ws := ws) (by omega))
    subst h0
    clear hr ht
    go_enter Try.func13, Try.ntmps13
    go_wp2
    go_ret
    exact ⟨by rw [HE.out]; rfl, Below.refl _ _⟩
  · by_cases h1 : 65535 < len
    · have HE := Lib.hid (fault_many (ws := ws) (by omega))
      clear hr ht
      go_enter Try.func13, Try.ntmps13
      go_wp2
      go_ret
      exact ⟨by rw [HE.out]; rfl, Below.refl _ _⟩
    · have HI := Lib.hid hr
      have HT := Lib.hid ht
      have HW : Hid (ws.take len = ws) := Lib.hid (List.take_of_length_le (by omega))
      have HL : Hid (¬ ws.length = 0 ∧ ¬ 65535 < ws.length) := Lib.hid (by omega)
      have H2 := Lib.hid (twice_any a len cap ws w hlen hr (fun t h => by have := ht t h; unfold maxLen; omega))
      clear hr ht
      go_enter Try.func13, Try.ntmps13
      go_wp2
      go_loop [3, 16] (fun x i => ∃ k T : Nat, k ≤ len ∧ i = .int .i64 k ∧ x = .int .i64 T ∧ T ≤ k * 65535 ∧ Hid (totalL (ws.take k) = T) ∧ Hid (badS (ws.take k) = none)) (fun _ i => len - (RowKit.intOf i).toNat)
      case atStart => exact ⟨0, 0, Nat.zero_le _, rfl, rfl, by omega, Lib.hid rfl, Lib.hid rfl⟩
      case round =>
        obtain ⟨k, T, hk, rfl, rfl, hT, HK, HB⟩ := hrel
        by_cases hlt : k < len
        · obtain ⟨b, off, rfl, t, hf, hc⟩ := str_at HI.out (Below.refl _ _) k hlt
          have HS := Lib.hid (bsize t)
          have htl := HT.out t (List.mem_of_getElem? hf)
          by_cases e0 : t.length = 0
          · have HE := Lib.hid (fault_bad HL.out.1 HL.out.2 (bad_zero HB.out hf e0))
            obtain rfl : t = [] := List.eq_nil_of_length_eq_zero e0
            clear hf HK HB H2
            go_wp2
            go_ret
            exact ⟨by rw [HE.out]; rfl, Below.refl _ _⟩
          · have g0 := len_empty e0
            by_cases e1 : 65535 < t.length
            · have HE := Lib.hid (fault_bad HL.out.1 HL.out.2 (bad_long HB.out hf e1))
              clear hf HK HB H2
              go_wp2
              go_ret
              exact ⟨by rw [HE.out]; rfl, Below.refl _ _⟩
            · have HB2 := Lib.hid (bad_snoc HB.out hf e0 e1)
              have HK2 : Hid (totalL (ws.take (k + 1)) = T + t.length) := Lib.hid (by rw [total_snoc hf, HK.out])
              clear hf HK HB H2
              go_wp2
              exact ⟨⟨k + 1, T + t.length, by omega, by go_num, by go_num, by omega, HK2, HB2⟩, by simp [RowKit.intOf]; omega⟩
        · obtain rfl : k = len := by omega
          have HK2 : Hid (totalL ws = T) := Lib.hid (by have := HK.out; rwa [HW.out] at this)
          have HB2 : Hid (badS ws = none) := Lib.hid (by have := HB.out; rwa [HW.out] at this)
          clear HK HB
          by_cases e2 : 16777216 < T
          · have HE := Lib.hid (fault_full HL.out.1 HL.out.2 HB2.out (by rw [HK2.out]; exact e2))
            clear H2
            go_wp2
            go_ret
            exact ⟨by rw [HE.out]; rfl, Below.refl _ _⟩
          · have HZ : Hid (if 0 ≤ twS [] ws 0 then faultL ws = 8 else faultL ws = 0) := Lib.hid (by
              split
              · exact fault_twice HL.out.1 HL.out.2 HB2.out (by rw [HK2.out]; exact e2) ‹_›
              · exact fault_good HL.out.1 HL.out.2 HB2.out (by rw [HK2.out]; exact e2) ‹_›)
            generalize twS [] ws 0 = z at HZ H2
            by_cases e3 : 0 ≤ z
            · have HE : Hid (faultL ws = 8) := Lib.hid (by have := HZ.out; rwa [if_pos e3] at this)
              go_wp2_with fail
              refine H2.out.mono ?_
              rintro e w2 ⟨rfl, hb⟩
              go_wp2
              go_ret
              exact ⟨by rw [HE.out]; rfl, hb⟩
            · have HE : Hid (faultL ws = 0) := Lib.hid (by have := HZ.out; rwa [if_neg e3] at this)
              go_wp2_with fail
              refine H2.out.mono ?_
              rintro e w2 ⟨rfl, hb⟩
              go_wp2
              go_ret
              exact ⟨by rw [HE.out]; rfl, hb⟩

/-- What the document's New answers. -/
def NewR (ws : List (List UInt8)) (w : World) (e : Ending) (w' : World) : Prop :=
  ∃ (a : Option Addr) (cap : Nat) (L : List (List UInt8)), e = .returned (.tuple #[.slice a L.length cap, .int .i64 (faultL ws)]) ∧ (faultL ws = 0 → L = srt ws) ∧ (¬ faultL ws = 0 → L = [] ∧ a = none ∧ cap = 0) ∧ IsStrs w' a L.length L ∧ Below w.heap.size w w'
theorem NewR.bad {ws : List (List UInt8)} {w w' : World} {k : Int} (he : faultL ws = k) (hk : ¬ k = 0) (hb : Below w.heap.size w w') : NewR ws w (.returned (.tuple #[.slice none 0 0, .int .i64 k])) w' :=
  ⟨none, 0, [], by rw [he]; rfl, fun h => absurd (he.symm.trans h) hk, fun _ => ⟨rfl, rfl, rfl⟩, ⟨rfl, .inl rfl⟩, hb⟩

set_option maxHeartbeats 2000000 in
theorem rptnew_any (a : Option Addr) (len cap : Nat) (ws : List (List UInt8)) (w : World) (hlen : len ≤ 1000000) (hr : IsStrs w a len ws) (ht : ∀ t ∈ ws, t.length ≤ 1000000000) :
    Calls Try.prog 7 #[.slice a len cap] w (NewR ws w) := by
  have hwl := hr.1
  by_cases h0 : len = 0
  · have HE := Lib.hid (fault_none (ws := ws) (by omega))
    subst h0
    clear hr ht
    go_enter Try.func7, Try.ntmps7
    go_wp2
    go_ret2
    exact NewR.bad HE.out (by decide) (Below.refl _ _)
  · by_cases h1 : 65535 < len
    · have HE := Lib.hid (fault_many (ws := ws) (by omega))
      clear hr ht
      go_enter Try.func7, Try.ntmps7
      go_wp2
      go_ret2
      exact NewR.bad HE.out (by decide) (Below.refl _ _)
    · have HI := Lib.hid hr
      have HT := Lib.hid ht
      have HW : Hid (ws.take len = ws) := Lib.hid (List.take_of_length_le (by omega))
      have HL : Hid (¬ ws.length = 0 ∧ ¬ 65535 < ws.length) := Lib.hid (by omega)
      have H2 := Lib.hid (rtwice_any a len cap ws w hlen hr)
      have H3 := Lib.hid (fun (w2 : World) (hb : Below w.heap.size w w2) => rsorted_any a len cap ws w2 hlen (hr.below hb))
      clear hr ht
      go_enter Try.func7, Try.ntmps7
      go_wp2
      go_loop [4, 5] (fun x i => ∃ k T : Nat, k ≤ len ∧ i = .int .i64 k ∧ x = .int .i64 T ∧ T ≤ k * 65535 ∧ Hid (totalL (ws.take k) = T) ∧ Hid (badS (ws.take k) = none)) (fun _ i => len - (RowKit.intOf i).toNat)
      case atStart => exact ⟨0, 0, Nat.zero_le _, rfl, rfl, by omega, Lib.hid rfl, Lib.hid rfl⟩
      case round =>
        obtain ⟨k, T, hk, rfl, rfl, hT, HK, HB⟩ := hrel
        by_cases hlt : k < len
        · obtain ⟨b, off, rfl, t, hf, hc⟩ := str_at HI.out (Below.refl _ _) k hlt
          have HS := Lib.hid (bsize t)
          have htl := HT.out t (List.mem_of_getElem? hf)
          by_cases e0 : t.length = 0
          · have HE := Lib.hid (fault_bad HL.out.1 HL.out.2 (bad_zero HB.out hf e0))
            obtain rfl : t = [] := List.eq_nil_of_length_eq_zero e0
            clear hf HK HB H2 H3
            go_wp2
            go_ret2
            exact NewR.bad HE.out (by decide) (Below.refl _ _)
          · have g0 := len_empty e0
            by_cases e1 : 65535 < t.length
            · have HE := Lib.hid (fault_bad HL.out.1 HL.out.2 (bad_long HB.out hf e1))
              clear hf HK HB H2 H3
              go_wp2
              go_ret2
              exact NewR.bad HE.out (by decide) (Below.refl _ _)
            · have HB2 := Lib.hid (bad_snoc HB.out hf e0 e1)
              have HK2 : Hid (totalL (ws.take (k + 1)) = T + t.length) := Lib.hid (by rw [total_snoc hf, HK.out])
              clear hf HK HB H2 H3
              go_wp2
              exact ⟨⟨k + 1, T + t.length, by omega, by go_num, by go_num, by omega, HK2, HB2⟩, by simp [RowKit.intOf]; omega⟩
        · obtain rfl : k = len := by omega
          have HK2 : Hid (totalL ws = T) := Lib.hid (by have := HK.out; rwa [HW.out] at this)
          have HB2 : Hid (badS ws = none) := Lib.hid (by have := HB.out; rwa [HW.out] at this)
          clear HK HB
          by_cases e2 : 16777216 < T
          · have HE := Lib.hid (fault_full HL.out.1 HL.out.2 HB2.out (by rw [HK2.out]; exact e2))
            clear H2 H3
            go_wp2
            go_ret2
            exact NewR.bad HE.out (by decide) (Below.refl _ _)
          · have HZ : Hid (if 0 ≤ twS [] ws 0 then faultL ws = 8 else faultL ws = 0) := Lib.hid (by
              split
              · exact fault_twice HL.out.1 HL.out.2 HB2.out (by rw [HK2.out]; exact e2) ‹_›
              · exact fault_good HL.out.1 HL.out.2 HB2.out (by rw [HK2.out]; exact e2) ‹_›)
            generalize twS [] ws 0 = z at HZ H2
            by_cases e3 : 0 ≤ z
            · have HE : Hid (faultL ws = 8) := Lib.hid (by have := HZ.out; rwa [if_pos e3] at this)
              clear H3
              go_wp2_with fail
              refine H2.out.mono ?_
              rintro e w2 ⟨rfl, hb⟩
              go_wp2
              go_ret2
              exact NewR.bad HE.out (by decide) hb
            · have HE : Hid (faultL ws = 0) := Lib.hid (by have := HZ.out; rwa [if_neg e3] at this)
              go_wp2_with fail
              refine H2.out.mono ?_
              rintro e w2 ⟨rfl, hb⟩
              have H4 := Lib.hid (H3.out w2 hb)
              clear H2 H3
              go_wp2_with fail
              refine H4.out.mono ?_
              rintro e w3 ⟨v, rfl, hown, hb3⟩
              have d3 := hb.trans (hb3.mono hb.size)
              obtain ⟨ao, cap', rfl, hs⟩ := owns_strs hown
              have HR := Lib.hid hs
              clear hown hb3 H4 hs
              go_wp2
              go_ret2
              exact ⟨ao, cap', srt ws, by rw [HE.out]; rfl, fun _ => rfl, fun h => absurd HE.out h, HR.out, d3⟩
end Go.Proofs.Ythmihhacfhjimaa
