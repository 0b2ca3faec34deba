/-
  affix.Shared, walked.
-/
import Derived.Test.YtoeakmpfkbmbcaaAfP
import Derived.Test.YtoeakmpfkbmbcaaInts
set_option linter.unusedSimpArgs false
set_option linter.unusedVariables false
namespace Go.Proofs.Ytoeakmpfkbmbcaa
open Go.RowKit

theorem shrS_snoc : ∀ (a : List UInt8) (ws : List (List UInt8)) (k : Nat) {b c : List UInt8}, (a :: ws)[k]? = some b → ws[k]? = some c → shrS a (ws.take (k + 1)) = shrS a (ws.take k) ++ [(preL b c : Int)]
  | a, t :: r, 0, b, c, h1, h2 => by simp at h1 h2; subst h1; subst h2; simp [shrS]
  | a, t :: r, k + 1, b, c, h1, h2 => by
    rw [List.getElem?_cons_succ] at h1 h2
    have := shrS_snoc t r k h1 h2
    rw [List.take_succ_cons, List.take_succ_cons, shrS, shrS, this]; rfl
theorem shr_snoc {ws : List (List UInt8)} {k : Nat} {b c : List UInt8} (h1 : ([] :: ws)[k]? = some b) (h2 : ws[k]? = some c) : shr (ws.take (k + 1)) = shr (ws.take k) ++ [(preL b c : Int)] := shrS_snoc _ _ _ h1 h2
theorem shr_all (ws : List (List UInt8)) {k : Nat} (h : ws.length = k) : shr (ws.take k) = shr ws := by rw [List.take_of_length_le (by omega)]

set_option maxHeartbeats 1000000 in
theorem shared_own (a : Option Addr) (len cap : Nat) (ws : List (List UInt8)) (w : World) (hlen : len ≤ 1000000) (hr : IsStrs w a len ws) (ht : ∀ t ∈ ws, t.length ≤ 1000000000) :
    Calls Try.prog 23 #[.slice a len cap] w (RetN (shr ws) w) := by
  have hwl := hr.1
  have HI := Lib.hid hr
  have HT := Lib.hid ht
  obtain ⟨i0, hi, hz0, hz1, hz2⟩ := info_parts int_info
  clear hr ht
  go_enter Try.func23, Try.ntmps23
  go_wp2
  go_loopw [3, 4, 9] (fun v x i wr => ∃ (k : Nat) (acc : List Int) (b : List UInt8), k ≤ len ∧ i = .int .i64 k ∧ acc.length = k ∧ x = .string ⟨b.toArray⟩ ∧ b.length ≤ 1000000000 ∧ Hid (([] :: ws)[k]? = some b) ∧ Hid (shr (ws.take k) = acc) ∧ wr.ownsRow w.heap.size 3 1 v k (inCells acc) ∧ Below w.heap.size w wr) (fun _ _ i _ => len - (RowKit.intOf i).toNat)
  case atStart => exact ⟨0, [], [], Nat.zero_le _, rfl, rfl, rfl, by simp, Lib.hid rfl, Lib.hid rfl, World.ownsRow_nil _ _ _ _, Below.refl _ _⟩
  case round =>
    obtain ⟨k, acc, b, hk, rfl, hacc, rfl, hbl, HB, HK, hown, hbe⟩ := hrel
    have hsz := hbe.size
    by_cases hlt : k < len
    · obtain ⟨g, off, rfl, t, hf, hc⟩ := str_at HI.out hbe k hlt
      have htl := HT.out t (List.mem_of_getElem? hf)
      have HB2 : Hid (([] :: ws)[k + 1]? = some t) := Lib.hid (by rw [List.getElem?_cons_succ]; exact hf)
      have HK2 : Hid (shr (ws.take (k + 1)) = acc ++ [(preL b t : Int)]) := Lib.hid (by rw [shr_snoc HB.out hf, HK.out])
      have HP := Lib.hid (prefix_any b t wr hbl htl)
      clear hf HB HK
      generalize preL b t = x at HP HK2
      go_wp2_with fail
      refine HP.out.mono ?_
      rintro e w2 ⟨rfl, hb2⟩
      have hown2 := tx_below hown hb2
      have hbe2 := hbe.trans (hb2.mono hsz)
      have hsz2 := hbe2.size
      clear HP hb2 hown hbe hc
      go_wp2_with (at_builtin; refine wpList_append_own _ rfl _ _ 55 rfl w.heap.size 3 i0 (.int .i64 0) 1 8 Try.underlying55 hi hz0 hz1 hz2 rfl (by decide) _ _ _ rfl (hown2.alloc _) ⟨w2.heap.size, 0, none⟩ 1 1 [.int .i64 (x : Int)] rfl rfl (int_news (heap_alloc_new w2 _)) int_one (by unfold maxLen; omega) (by omega) (by simp; omega) ?_)
      intro v3 w3 hown3 hgrow _
      have h3 : Below w.heap.size w w3 := (hbe2.alloc hsz2 _).grown hgrow (by simp; omega) (fun k hk => (hown2.lt k hk).1)
      clear hgrow
      go_wp2
      exact ⟨⟨k + 1, acc ++ [(x : Int)], t, by omega, by go_num, by simp [hacc], rfl, htl, HB2, HK2, by rw [inCells_snoc]; exact hown3, h3⟩, by simp [RowKit.intOf]; omega⟩
    · obtain rfl : k = len := by omega
      have HR : Hid (shr ws = acc) := Lib.hid (by rw [← HK.out, shr_all ws hwl])
      rw [← hacc] at hown
      have HV := Lib.hid hown
      clear hown HK
      go_wp2
      go_ret
      exact ⟨_, rfl, by rw [HR.out]; exact HV.out, hbe⟩

theorem shared_any (a : Option Addr) (len cap : Nat) (ws : List (List UInt8)) (w : World) (hlen : len ≤ 1000000) (hr : IsStrs w a len ws) (ht : ∀ t ∈ ws, t.length ≤ 1000000000) :
    Calls Try.prog 23 #[.slice a len cap] w (RetI (shr ws) w) := by
  have hwl := hr.1
  refine (shared_own a len cap ws w hlen hr ht).mono ?_
  rintro e w' ⟨v, rfl, hown, hb⟩
  obtain ⟨ao, cap', rfl, hR⟩ := RetI.of (w := w) rfl hown (by rw [shr_length]; unfold maxLen; omega) hb
  exact hR
end Go.Proofs.Ytoeakmpfkbmbcaa
