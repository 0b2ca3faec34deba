/-
  escape.parts and Words, walked.
-/
import Derived.Test.YtoedbolmajcgpaaEsS
set_option linter.unusedSimpArgs false
set_option linter.unusedVariables false
namespace Go.Proofs.Ytoedbolmajcgpaa
open Go.RowKit

set_option maxHeartbeats 2000000 in
set_option maxRecDepth 100000 in
theorem parts_any (l : List UInt8) (w : World) (h : l.length ≤ 10000000) :
    Calls Try.prog 21 #[.string ⟨l.toArray⟩, .func (.func 22) #[] #[]] w (RetL (wds l) w) := by
  have HS := Lib.hid (bsize l)
  obtain ⟨i0, hi, hz0, hz1, hz2⟩ := info_parts string_info
  go_enter Try.func21, Try.ntmps21
  go_wp2
  go_loopw [5, 6, 10] (fun v s i wr => ∃ (k st : Nat) (acc : List (List UInt8)), k ≤ l.length ∧ st ≤ k ∧ i = .int .i64 k ∧ s = .int .i64 st ∧ Hid (wds l = wgo (l.drop k) ((l.take k).drop st) acc) ∧ acc.length ≤ k ∧ wr.ownsRow w.heap.size 9 1 v acc.length (txCells acc) ∧ Below w.heap.size w wr) (fun _ _ i _ => l.length - (RowKit.intOf i).toNat)
  case atStart => exact ⟨0, 0, [], Nat.zero_le _, Nat.le_refl _, rfl, rfl, Lib.hid rfl, Nat.le_refl _, World.ownsRow_nil _ _ _ _, Below.refl _ _⟩
  case round =>
    obtain ⟨k, st, acc, hk, hst, rfl, rfl, HW, hac, hown, hbe⟩ := hrel
    have hsz := hbe.size
    by_cases hlt : k < l.length
    · have hz : k < (⟨l.toArray⟩ : ByteArray).size := by rw [HS.out]; exact hlt
      have A0 := byteAt l k hlt hz
      have hd := drop_at8 l k hlt
      have hsn := cut_snoc l st k hlt hst
      by_cases hc : l[k].toNat = 32
      · have hb : ((l[k].toNat : Int) == 32) = true := by simp; omega
        by_cases hsk : st < k
        · have HW2 : Hid (wds l = wgo (l.drop (k + 1)) ((l.take (k + 1)).drop (k + 1)) (acc ++ [(l.take k).drop st])) := Lib.hid (by
            rw [HW.out, hd, wgo_cut _ _ _ _ hc (cut_some l st k hk hsk), cut_none])
          have HE := Lib.hid (ext_cut l st k)
          clear hd hsn hc
          generalize l[k] = c at A0 hb
          generalize (l.take k).drop st = t at HW2 HE
          go_wp2_with fail
          refine (blank_any _ _).mono ?_
          rintro e w' ⟨rfl, rfl⟩
          rw [hb]
          go_wp2_with (at_builtin; refine wpList_append_own _ rfl _ _ 30 rfl w.heap.size 9 i0 (.string ByteArray.empty) 1 16 Try.underlying30 hi hz0 hz1 hz2 rfl (by decide) _ _ _ rfl (hown.alloc _) ⟨wr.heap.size, 0, none⟩ 1 1 [.string ((⟨l.toArray⟩ : ByteArray).extract st k)] rfl rfl ?c1 ?c2 ?c3 ?c4 ?c5 ?_)
          case c1 => exact one_news (heap_alloc_new wr _)
          case c2 => exact str_one
          case c3 => unfold maxLen; omega
          case c4 => omega
          case c5 => simp; omega
          intro v' w3 hown3 hgrow _
          rw [HE.out] at hown3
          have h3 : Below w.heap.size w w3 := (hbe.alloc (by omega) _).grown hgrow (by simp; omega) (fun k hk => (hown.lt k hk).1)
          clear hgrow
          go_wp2
          refine ⟨⟨k + 1, k + 1, acc ++ [t], by omega, Nat.le_refl _, by go_num, by go_num, HW2, by rw [List.length_append, List.length_singleton]; omega, ?_, h3⟩, by simp [RowKit.intOf]; omega⟩
          rw [txCells_snoc, List.length_append]
          exact hown3
        · obtain rfl : st = k := by omega
          have HW2 : Hid (wds l = wgo (l.drop (st + 1)) ((l.take (st + 1)).drop (st + 1)) acc) := Lib.hid (by
            rw [HW.out, hd, cut_none, wgo_blank _ _ _ hc, cut_none])
          clear hd hsn hc
          generalize l[st] = c at A0 hb
          go_wp2_with fail
          refine (blank_any _ _).mono ?_
          rintro e w' ⟨rfl, rfl⟩
          rw [hb]
          go_wp2
          exact ⟨⟨st + 1, st + 1, acc, by omega, Nat.le_refl _, by go_num, by go_num, HW2, by omega, hown, hbe⟩, by simp [RowKit.intOf]; omega⟩
      · have hb : ((l[k].toNat : Int) == 32) = false := by simp; omega
        have HW2 : Hid (wds l = wgo (l.drop (k + 1)) ((l.take (k + 1)).drop st) acc) := Lib.hid (by
          rw [HW.out, hd, wgo_more _ _ _ _ hc, hsn])
        clear hd hsn hc
        generalize l[k] = c at A0 hb
        go_wp2_with fail
        refine (blank_any _ _).mono ?_
        rintro e w' ⟨rfl, rfl⟩
        rw [hb]
        go_wp2
        exact ⟨⟨k + 1, st, acc, by omega, by omega, by go_num, rfl, HW2, by omega, hown, hbe⟩, by simp [RowKit.intOf]; omega⟩
    · obtain rfl : k = l.length := by omega
      by_cases hsk : st < l.length
      · have HW2 : Hid (wds l = acc ++ [l.drop st]) := Lib.hid (by
          have := HW.out
          rw [List.drop_length, List.take_length] at this
          rw [this, wgo_last]
          exact fun e => by have := congrArg List.length e; rw [List.length_drop, List.length_nil] at this; omega)
        have HE := Lib.hid (ext_rest l st)
        generalize l.drop st = t at HW2 HE
        go_wp2_with (at_builtin; refine wpList_append_own _ rfl _ _ 30 rfl w.heap.size 9 i0 (.string ByteArray.empty) 1 16 Try.underlying30 hi hz0 hz1 hz2 rfl (by decide) _ _ _ rfl (hown.alloc _) ⟨wr.heap.size, 0, none⟩ 1 1 [.string ((⟨l.toArray⟩ : ByteArray).extract st l.length)] rfl rfl ?c1 ?c2 ?c3 ?c4 ?c5 ?_)
        case c1 => exact one_news (heap_alloc_new wr _)
        case c2 => exact str_one
        case c3 => unfold maxLen; omega
        case c4 => omega
        case c5 => simp; omega
        intro v' w3 hown3 hgrow _
        rw [HE.out] at hown3
        have h3 : Below w.heap.size w w3 := (hbe.alloc (by omega) _).grown hgrow (by simp; omega) (fun k hk => (hown.lt k hk).1)
        clear hgrow
        obtain ⟨ao, cap, rfl, hfr⟩ := owns_strs (ws := acc ++ [t]) (by rw [txCells_snoc, List.length_append]; exact hown3)
        clear hown hown3
        go_wp2
        go_ret
        exact RetL.mk (a := ao) (cap := cap) HW2.out rfl hfr h3
      · obtain rfl : st = l.length := by omega
        have HW2 : Hid (wds l = acc) := Lib.hid (by
          have := HW.out
          rw [List.drop_length, cut_none, wgo_nil] at this
          exact this)
        obtain ⟨ao, cap, rfl, hfr⟩ := owns_strs hown
        clear hown
        go_wp2
        go_ret
        exact RetL.mk (a := ao) (cap := cap) HW2.out rfl hfr hbe

theorem words_any (l : List UInt8) (w : World) (h : l.length ≤ 10000000) : Calls Try.prog 14 #[.string ⟨l.toArray⟩] w (RetL (wds l) w) := by
  go_enter Try.func14, Try.ntmps14
  go_wp2_with fail
  refine (parts_any l _ h).mono ?_
  rintro e w' ⟨a, cap, rfl, hf, hb⟩
  go_wp2
  go_ret
  exact ⟨a, cap, rfl, hf, hb⟩
end Go.Proofs.Ytoedbolmajcgpaa
