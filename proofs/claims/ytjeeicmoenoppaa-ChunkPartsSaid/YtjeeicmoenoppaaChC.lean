/-
  chunk.Cut and the document's Cut, walked.
-/
import Derived.Test.YtjeeicmoenoppaaStr
import Derived.Test.YtjeeicmoenoppaaChM
import Derived.Lib.MinMax
set_option linter.unusedSimpArgs false
set_option linter.unusedVariables false
namespace Go.Proofs.Ytjeeicmoenoppaa
open Go.RowKit

/-- A list of texts, as an answer: a slice of the call's own, whose capacity is no less than its length; nothing that was there is written. -/
def RetC (ws : List (List UInt8)) (w : World) (e : Ending) (w' : World) : Prop := ∃ (a : Option Addr) (cap : Nat), e = .returned (.slice a ws.length cap) ∧ ws.length ≤ cap ∧ IsStrs w' a ws.length ws ∧ Below w.heap.size w w'
theorem RetC.mk {ws R : List (List UInt8)} {w w' : World} {e : Ending} {a : Option Addr} {cap : Nat} (h : ws = R) (he : e = .returned (.slice a R.length cap)) (hc : R.length ≤ cap) (hf : IsStrs w' a R.length R) (hb : Below w.heap.size w w') : RetC ws w e w' := by
  subst h; exact ⟨a, cap, he, hc, hf, hb⟩
theorem owns_room {w : World} {base : Nat} {e : TypeId} {v : Value} {ws : List (List UInt8)} (h : w.ownsRow base e 1 v ws.length (txCells ws)) :
    ∃ ao cap, v = .slice ao ws.length cap ∧ ws.length ≤ cap ∧ IsStrs w ao ws.length ws := by
  obtain ⟨ao, cap, rfl, hf⟩ := owns_strs h
  refine ⟨ao, cap, rfl, ?_, hf⟩
  rcases h.2 with ⟨hv, h0⟩ | ⟨g, cap', cur, hv, _, _, hle, _⟩
  · have h0' : ws.length = 0 := h0
    omega
  · cases hv; exact hle

theorem head_cut (l : List UInt8) (k : Nat) : (⟨l.toArray⟩ : ByteArray).extract 0 k = ⟨(l.take k).toArray⟩ := by
  rw [ext_cut, List.drop_zero]

theorem drop_get (zs : List Int) (len k : Nat) (h : k < len) (hz : len ≤ zs.length) : (zs.take len).drop k = zs.getD k 0 :: (zs.take len).drop (k + 1) := by
  have hk : k < (zs.take len).length := by rw [List.length_take]; omega
  rw [List.drop_eq_getElem_cons hk, List.getElem_take, getD_at zs k (by omega)]

theorem full_list {l : List UInt8} (h : l ≠ []) : l.isEmpty = false := by cases l with
  | nil => exact absurd rfl h
  | cons _ _ => rfl

/-- A length that is asked for: how many bytes it comes to. -/
theorem cut_at (cur : List UInt8) (x : Int) : ∃ M : Nat, Hid ((⟨cur.toArray⟩ : ByteArray).extract 0 (min (max x 0) (cur.length : Int)).toNat = ⟨(cur.take M).toArray⟩) ∧ Hid ((⟨cur.toArray⟩ : ByteArray).extract (min (max x 0) (cur.length : Int)).toNat cur.length = ⟨(cur.drop M).toArray⟩) ∧ M ≤ cur.length ∧ cur.take x.toNat = cur.take M ∧ cur.drop x.toNat = cur.drop M := by
  refine ⟨(min (max x 0) (cur.length : Int)).toNat, Lib.hid (head_cut _ _), Lib.hid (ext_rest _ _), by omega, ?_, ?_⟩
  · by_cases h : x.toNat ≤ cur.length
    · congr 1; omega
    · rw [List.take_of_length_le (by omega), List.take_of_length_le (by omega)]
  · by_cases h : x.toNat ≤ cur.length
    · congr 1; omega
    · rw [List.drop_eq_nil_of_le (by omega), List.drop_eq_nil_of_le (by omega)]

set_option maxHeartbeats 2000000 in
set_option maxRecDepth 100000 in
theorem cut_gen (l : List UInt8) (a : Option Addr) (len cap capv : Nat) (zs : List Int) (w : World) (h : l.length ≤ 1000000000) (hlen : len ≤ 1000000000) (hr : IsRow .i64 w a len cap zs) :
    Calls Try.prog 10 #[.string ⟨l.toArray⟩, .slice a len capv] w (RetC (cutL l (zs.take len)) w) := by
  obtain ⟨i0, hi, hz0, hz1, hz2⟩ := info_parts string_info
  go_enter Try.func10, Try.ntmps10
  go_wp2
  go_loopw [0, 5, 10] (fun s v i wr => ∃ (k : Nat) (cur : List UInt8) (acc : List (List UInt8)), k ≤ len ∧ i = .int .i64 k ∧ s = .string ⟨cur.toArray⟩ ∧ Hid (cutL l (zs.take len) = acc ++ cutL cur ((zs.take len).drop k)) ∧ cur.length ≤ l.length ∧ acc.length = k ∧ wr.ownsRow w.heap.size 9 1 v acc.length (txCells acc) ∧ Below w.heap.size w wr) (fun _ _ i _ => len - (RowKit.intOf i).toNat)
  case atStart => exact ⟨0, l, [], Nat.zero_le _, rfl, rfl, Lib.hid rfl, Nat.le_refl _, rfl, World.ownsRow_nil _ _ _ _, Below.refl _ _⟩
  case round =>
    obtain ⟨k, cur, acc, hk, rfl, rfl, HW, hcu, hac, hown, hbe⟩ := hrel
    have hsz := hbe.size
    by_cases hlt : k < len
    · obtain h0 | ⟨b, off, rfl, hcap, hm, hz, hc⟩ := hr.below hbe
      · omega
      have hcell := hc k (by omega)
      have HX := Lib.hid (drop_get zs len k hlt (by omega))
      clear hc
      generalize zs.getD k 0 = x at hcell HX
      obtain ⟨M, HE, HR, hMl, HT, HD⟩ := cut_at cur x
      have HW2 : Hid (cutL l (zs.take len) = (acc ++ [cur.take M]) ++ cutL (cur.drop M) ((zs.take len).drop (k + 1))) := Lib.hid (by
        rw [HW.out, HX.out, cutL_cons, HT, HD, List.append_assoc, List.singleton_append])
      clear HX HW HT HD
      go_wp2_with (at_builtin; refine wpList_append_own _ rfl _ _ 24 rfl w.heap.size 9 i0 (.string ByteArray.empty) 1 16 Try.underlying24 hi hz0 hz1 hz2 rfl (by decide) _ _ _ rfl (hown.alloc _) ⟨wr.heap.size, 0, none⟩ 1 1 [.string ((⟨cur.toArray⟩ : ByteArray).extract 0 (min (max x 0) (cur.length : Int)).toNat)] rfl rfl ?c1 ?c2 ?c3 ?c4 ?c5 ?_)
      case c1 => exact one_news (heap_alloc_new wr _)
      case c2 => exact str_one
      case c3 => unfold maxLen; omega
      case c4 => omega
      case c5 => simp; omega
      intro v' w3 hown3 hgrow _
      rw [HE.out] at hown3
      have h3 : Below w.heap.size w w3 := (hbe.alloc (by omega) _).grown hgrow (by simp; omega) (fun k hk => (hown.lt k hk).1)
      clear hgrow
      go_wp2
      refine ⟨⟨k + 1, cur.drop M, acc ++ [cur.take M], by omega, by go_num, by rw [HR.out], HW2, by rw [List.length_drop]; omega, by rw [List.length_append, List.length_singleton]; omega, ?_, h3⟩, by simp [RowKit.intOf]; omega⟩
      rw [txCells_snoc, List.length_append, hac]
      exact hown3
    · obtain rfl : k = len := by omega
      have HW2 : Hid (cutL l (zs.take k) = acc ++ cutL cur []) := Lib.hid (by
        have := HW.out
        rwa [List.drop_eq_nil_of_le (by rw [List.length_take]; omega)] at this)
      clear HW
      by_cases h0 : cur = []
      · subst h0
        have HW3 : Hid (cutL l (zs.take k) = acc) := Lib.hid (by rw [HW2.out, cutL_nil, List.append_nil])
        obtain ⟨ao, cap', rfl, hcc, hfr⟩ := owns_room hown
        clear hown HW2
        go_wp2
        go_ret
        exact RetC.mk (a := ao) (cap := cap') HW3.out rfl hcc hfr hbe
      · have HW3 : Hid (cutL l (zs.take k) = acc ++ [cur]) := Lib.hid (by rw [HW2.out, cutL_rest h0])
        have hfull := full_list h0
        clear h0 HW2
        go_wp2_with (at_builtin; refine wpList_append_own _ rfl _ _ 24 rfl w.heap.size 9 i0 (.string ByteArray.empty) 1 16 Try.underlying24 hi hz0 hz1 hz2 rfl (by decide) _ _ _ rfl (hown.alloc _) ⟨wr.heap.size, 0, none⟩ 1 1 [.string ⟨cur.toArray⟩] rfl rfl ?c1 ?c2 ?c3 ?c4 ?c5 ?_)
        case c1 => exact one_news (heap_alloc_new wr _)
        case c2 => exact str_one
        case c3 => unfold maxLen; omega
        case c4 => omega
        case c5 => simp; omega
        intro v' w3 hown3 hgrow _
        have h3 : Below w.heap.size w w3 := (hbe.alloc (by omega) _).grown hgrow (by simp; omega) (fun k hk => (hown.lt k hk).1)
        clear hgrow
        obtain ⟨ao, cap', rfl, hcc, hfr⟩ := owns_room (ws := acc ++ [cur]) (by rw [txCells_snoc, List.length_append, hac]; exact hown3)
        clear hown hown3
        go_wp2
        go_ret
        exact RetC.mk (a := ao) (cap := cap') HW3.out rfl hcc hfr h3

theorem cut_any (l : List UInt8) (a : Option Addr) (len cap : Nat) (zs : List Int) (w : World) (h : l.length ≤ 1000000000) (hlen : len ≤ 1000000000) (hr : IsRow .i64 w a len cap zs) :
    Calls Try.prog 10 #[.string ⟨l.toArray⟩, .slice a len cap] w (RetC (cutL l (zs.take len)) w) := cut_gen l a len cap cap zs w h hlen hr
end Go.Proofs.Ytjeeicmoenoppaa
