/-
  occ.Any: walked.
-/
import Derived.Test.YtkpmbappddlcmaaOcT
import Derived.Test.YtkpmbappddlcmaaBdE
import Derived.Test.YtkpmbappddlcmaaPtSe
set_option linter.unusedSimpArgs false
set_option linter.unusedVariables false
namespace Go.Proofs.Ytkpmbappddlcmaa
open Go.RowKit

theorem find_few' (s t : List UInt8) : (fndB s t).length ≤ s.length := by
  unfold fndB
  split
  · exact Nat.zero_le _
  · exact fnd_length s t _

set_option maxHeartbeats 1000000 in
theorem ocany_one (s t : List UInt8) (bs : Nat) (W : World) (hs : s.length ≤ 1000000) (ht : t.length ≤ 1000000) (T1 : TypeId) (v1 : Var1 W bs (.string ⟨s.toArray⟩) T1) :
    Calls Try.prog 38 #[.string ⟨t.toArray⟩, .pointer (some ⟨bs, 0, none⟩)] W fun en w' => en = .returned (.bool (decide (0 < (fndB s t).length))) ∧ Below W.heap.size W w' := by
  have c1 := v1.cell
  have HF := Lib.hid (find_any s t W (by omega) (by omega))
  have hfl := find_few' s t
  generalize fndB s t = L at HF hfl ⊢
  obtain ⟨β, hβ⟩ : ∃ β, decide (0 < L.length) = β := ⟨_, rfl⟩
  have hβ2 : decide ((0 : Int) < (L.length : Int)) = β := by
    rw [← hβ, decide_eq_decide]; omega
  have HB := Lib.hid hβ
  clear v1 hβ
  go_enter Try.func38, Try.ntmps38
  go_wp2_with fail
  refine HF.out.mono ?_
  rintro en w2 ⟨a2, cap2, rfl, hrow2, hb2⟩
  clear hrow2 HF c1
  go_wp2
  go_ret
  exact ⟨by rw [HB.out]; rfl, hb2⟩

theorem any_take {p : List UInt8 → Bool} {us : List (List UInt8)} {k : Nat} {t : List UInt8} (h : us[k]? = some t) : (us.take (k + 1)).any p = ((us.take k).any p || p t) := by
  obtain ⟨hk, rfl⟩ := List.getElem?_eq_some_iff.1 h
  rw [List.take_succ_eq_append_getElem hk, List.any_append]
  simp

set_option maxRecDepth 100000 in
set_option maxHeartbeats 1000000 in
theorem ocindex_any (g : Nat) (lb : Array Value) (eg : ∀ args w, (callFunc g args).run Try.prog w = .ok (.enter g args) w) (p : List UInt8 → Bool) (a : Option Addr) (len cap : Nat) (us : List (List UInt8)) (w : World) (hlen : len ≤ 1000000) (hr : IsStrs w a len us)
    (hP : ∀ t W, t ∈ us → Below w.heap.size w W → Calls Try.prog g (#[.string ⟨t.toArray⟩] ++ lb) W fun en w' => en = .returned (.bool (p t)) ∧ Below W.heap.size W w') :
    Calls Try.prog 51 #[.slice a len cap, .func (.func g) #[] lb] w fun en w' => ∃ n : Int, en = .returned (.int .i64 n) ∧ decide (0 ≤ n) = us.any p ∧ Below w.heap.size w w' := by
  have hwl := hr.1
  have HH := Lib.hid hr
  have HP := Lib.hid hP
  clear hr hP
  go_enter Try.func51, Try.ntmps51
  go_wp2
  go_loopw [8] (fun i wr => ∃ k : Nat, k ≤ len ∧ i = .int .i64 k ∧ Hid ((us.take k).any p = false) ∧ Below w.heap.size w wr) (fun i _ => len - (RowKit.intOf i).toNat)
  case atStart => exact ⟨0, Nat.zero_le _, rfl, Lib.hid (by simp), Below.refl _ _⟩
  case round =>
    obtain ⟨k, hk, rfl, HK, hbe⟩ := hrel
    have hsz := hbe.size
    by_cases hlt : k < len
    · obtain ⟨b, off, rfl, t, hf, hc⟩ := str_at HH.out hbe k hlt
      have HC := Lib.hid (HP.out t wr (List.mem_of_getElem? hf) hbe)
      have g0 : (0 : Int) ≤ (k : Int) := by omega
      have g1 : (k : Int) < (len : Int) := by omega
      have HA := Lib.hid (any_take (p := p) hf)
      cases hq : p t with
      | true =>
        have HE : Hid (us.any p = true) := Lib.hid (by
          rw [List.any_eq_true]
          exact ⟨t, List.mem_of_getElem? hf, hq⟩)
        rw [hq] at HC
        clear hq hf HK
        go_wp2_with fail
        refine HC.out.mono ?_
        rintro en w2 ⟨rfl, hb2⟩
        have d2 := hbe.trans (hb2.mono hsz)
        clear HC hb2 hc
        go_wp2
        go_ret
        exact ⟨(k : Int), rfl, by rw [HE.out]; exact decide_eq_true g0, d2⟩
      | false =>
        have HE : Hid ((us.take (k + 1)).any p = false) := Lib.hid (by rw [HA.out, HK.out, hq]; rfl)
        rw [hq] at HC
        clear hq hf HK
        go_wp2_with fail
        refine HC.out.mono ?_
        rintro en w2 ⟨rfl, hb2⟩
        have d2 := hbe.trans (hb2.mono hsz)
        clear HC hb2 hc
        go_wp2
        exact ⟨⟨k + 1, by omega, by go_num, HE, d2⟩, by simp [RowKit.intOf]; omega⟩
    · obtain rfl : k = len := by omega
      have hz : ¬ (k : Int) < (k : Int) := by omega
      have HE : Hid (us.any p = false) := Lib.hid (by have := HK.out; rwa [List.take_of_length_le (by omega)] at this)
      clear HK
      go_wp2
      go_ret
      exact ⟨-1, rfl, by rw [HE.out]; rfl, hbe⟩

set_option maxHeartbeats 1000000 in
theorem occontains_any (g : Nat) (lb : Array Value) (eg : ∀ args w, (callFunc g args).run Try.prog w = .ok (.enter g args) w) (p : List UInt8 → Bool) (a : Option Addr) (len cap : Nat) (us : List (List UInt8)) (w : World) (hlen : len ≤ 1000000) (hr : IsStrs w a len us)
    (hP : ∀ t W, t ∈ us → Below w.heap.size w W → Calls Try.prog g (#[.string ⟨t.toArray⟩] ++ lb) W fun en w' => en = .returned (.bool (p t)) ∧ Below W.heap.size W w') :
    Calls Try.prog 37 #[.slice a len cap, .func (.func g) #[] lb] w fun en w' => en = .returned (.bool (us.any p)) ∧ Below w.heap.size w w' := by
  have HI := Lib.hid (ocindex_any g lb eg p a len cap us w hlen hr hP)
  clear hr hP
  generalize us.any p = β at HI ⊢
  go_enter Try.func37, Try.ntmps37
  go_wp2_with fail
  refine HI.out.mono ?_
  rintro en w2 ⟨n, rfl, hn, hb2⟩
  clear HI
  go_wp2
  go_ret
  exact ⟨rfl, hb2⟩

theorem any_enters : ∀ args w, (callFunc 38 args).run Try.prog w = .ok (.enter 38 args) w := enters_of Try.func38 (by kernel_rfl) rfl
/-- A set's list, whether there is a set or none. -/
theorem ptlist_all {w : World} {p : Option Addr} {us : List (List UInt8)} (h : IsPats w p us) (hl : us.length ≤ 1000000) : Calls Try.prog 23 #[.pointer p] w (RetL us w) := by
  rcases h with ⟨rfl, rfl⟩ | ⟨b, rfl, h, _⟩
  · refine (ptlist_nil w).mono ?_
    rintro e w' ⟨rfl, rfl⟩
    exact ⟨none, 0, rfl, ⟨rfl, .inl rfl⟩, Below.refl _ _⟩
  · refine (ptlist_any h hl).mono ?_
    rintro e w' ⟨v, rfl, hown, hb⟩
    obtain ⟨ao, cap', rfl, hs⟩ := owns_strs hown
    exact ⟨ao, cap', rfl, hs, hb⟩

set_option maxHeartbeats 1000000 in
theorem ocany_any {w : World} {p : Option Addr} {us : List (List UInt8)} (h : IsPats w p us) (hl : us.length ≤ 1000000) (hu : ∀ t ∈ us, t.length ≤ 1000000) (s : List UInt8) (hs : s.length ≤ 1000000) :
    Calls Try.prog 17 #[.pointer p, .string ⟨s.toArray⟩] w fun en w' => en = .returned (.bool (us.any fun t => decide (0 < (fndB s t).length))) ∧ Below w.heap.size w w' := by
  have D1 : Below w.heap.size w (w.alloc (.cells #[.string ⟨s.toArray⟩] 9)) := (Below.refl _ w).alloc (Nat.le_refl _) _
  have V1 : Var1 (w.alloc (.cells #[.string ⟨s.toArray⟩] 9)) w.heap.size (.string ⟨s.toArray⟩) 9 := heap_alloc_new w _
  have HL := Lib.hid (ptlist_all (h.below D1) hl)
  have HC := Lib.hid (fun (w2 : World) (a : Option Addr) (cap : Nat) (hv : Var1 w2 w.heap.size (.string ⟨s.toArray⟩) 9) (hr : IsStrs w2 a us.length us) =>
    occontains_any 38 #[.pointer (some ⟨w.heap.size, 0, none⟩)] any_enters (fun t => decide (0 < (fndB s t).length)) a us.length cap us w2 hl hr (fun t W ht hb =>
      ocany_one s t w.heap.size W hs (hu t ht) 9 (by unfold Var1; rw [hb.block _ hv.lt]; exact hv)))
  have HD := Lib.hid D1
  have HV := Lib.hid V1
  clear h hu D1 V1
  generalize (us.any fun t => decide (0 < (fndB s t).length)) = β at HC ⊢
  go_enter Try.func17, Try.ntmps17
  go_wp2_with fail
  refine HL.out.mono ?_
  rintro en w2 ⟨a, cap, rfl, hr, hb2⟩
  have C2 := Lib.hid (HC.out w2 a cap (by unfold Var1; rw [hb2.block _ HV.out.lt]; exact HV.out) hr)
  have d2 := HD.out.trans (hb2.mono HD.out.size)
  have e2 := d2.size
  clear HL HC HV hr hb2 HD
  go_wp2_with fail
  refine C2.out.mono ?_
  rintro en w3 ⟨rfl, hb3⟩
  have d3 := d2.trans (hb3.mono e2)
  clear C2 hb3 d2
  go_wp2
  go_ret
  exact ⟨rfl, d3⟩
end Go.Proofs.Ytkpmbappddlcmaa
