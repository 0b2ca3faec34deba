/-
  The document's own answers for layer 5: Words, walked.
-/
import Derived.Test.YtoedbolmajcgpaaEsS
set_option linter.unusedSimpArgs false
set_option linter.unusedVariables false
namespace Go.Proofs.Ytoedbolmajcgpaa
open Go.RowKit

/-- Where the loop stands: before the last byte's end, or behind it. -/
def Stands (l : List UInt8) (k : Nat) (cur : List UInt8) (acc : List (List UInt8)) : Prop := (k ≤ l.length ∧ wds l = wgo (l.drop k) cur acc) ∨ (k = l.length + 1 ∧ wds l = acc)
theorem Stands.more {l : List UInt8} {k : Nat} {cur : List UInt8} {acc : List (List UInt8)} (h : Stands l k cur acc) (hlt : k < l.length) (hc : l[k].toNat ≠ 32) : Stands l (k + 1) (cur ++ [l[k]]) acc := by
  rcases h with ⟨_, h⟩ | ⟨h, _⟩
  · exact .inl ⟨hlt, by rw [h, drop_at8 l k hlt, wgo_more _ _ _ _ hc]⟩
  · omega
theorem Stands.blank {l : List UInt8} {k : Nat} {acc : List (List UInt8)} (h : Stands l k [] acc) (hlt : k < l.length) (hc : l[k].toNat = 32) : Stands l (k + 1) [] acc := by
  rcases h with ⟨_, h⟩ | ⟨h, _⟩
  · exact .inl ⟨hlt, by rw [h, drop_at8 l k hlt, wgo_blank _ _ _ hc]⟩
  · omega
theorem Stands.cut {l : List UInt8} {k : Nat} {cur : List UInt8} {acc : List (List UInt8)} (h : Stands l k cur acc) (hlt : k < l.length) (hc : l[k].toNat = 32) (hcur : cur ≠ []) : Stands l (k + 1) [] (acc ++ [cur]) := by
  rcases h with ⟨_, h⟩ | ⟨h, _⟩
  · exact .inl ⟨hlt, by rw [h, drop_at8 l k hlt, wgo_cut _ _ _ _ hc hcur]⟩
  · omega
theorem Stands.done {l : List UInt8} {acc : List (List UInt8)} (h : Stands l l.length [] acc) : Stands l (l.length + 1) [] acc := by
  rcases h with ⟨_, h⟩ | ⟨h, _⟩
  · exact .inr ⟨rfl, by rw [h, List.drop_length, wgo_nil]⟩
  · omega
theorem Stands.last {l : List UInt8} {cur : List UInt8} {acc : List (List UInt8)} (h : Stands l l.length cur acc) (hcur : cur ≠ []) : Stands l (l.length + 1) [] (acc ++ [cur]) := by
  rcases h with ⟨_, h⟩ | ⟨h, _⟩
  · exact .inr ⟨rfl, by rw [h, List.drop_length, wgo_last _ _ hcur]⟩
  · omega

theorem ext_one (l : List UInt8) (k : Nat) (h : k < l.length) : (⟨l.toArray⟩ : ByteArray).extract k (k + 1) = ⟨#[l[k]]⟩ := by
  rw [ext_cut, cut_snoc l k k h (Nat.le_refl _), cut_none]
  rfl

set_option maxHeartbeats 2000000 in
set_option maxRecDepth 100000 in
theorem rwords_any (l : List UInt8) (w : World) (h : l.length ≤ 10000000) :
    Calls Try.prog 15 #[.string ⟨l.toArray⟩] w (RetL (wds l) w) := by
  have HS := Lib.hid (bsize l)
  obtain ⟨i0, hi, hz0, hz1, hz2⟩ := info_parts string_info
  go_enter Try.func15, Try.ntmps15
  go_wp2
  go_loopw [3, 4, 5] (fun v s i wr => ∃ (k : Nat) (cur : List UInt8) (acc : List (List UInt8)), k ≤ l.length + 1 ∧ i = .int .i64 k ∧ s = .string ⟨cur.toArray⟩ ∧ Hid (Stands l k cur acc) ∧ cur.length ≤ k ∧ acc.length ≤ k ∧ wr.ownsRow w.heap.size 9 1 v acc.length (txCells acc) ∧ Below w.heap.size w wr) (fun _ _ i _ => l.length + 1 - (RowKit.intOf i).toNat)
  case atStart => exact ⟨0, [], [], Nat.zero_le _, rfl, rfl, Lib.hid (.inl ⟨Nat.zero_le _, rfl⟩), Nat.le_refl _, Nat.le_refl _, World.ownsRow_made w #[] 0 (Nat.le_refl _) (by unfold maxLen; omega) rfl, (Below.refl _ _).alloc (Nat.le_refl _) _⟩
  case round =>
    obtain ⟨k, cur, acc, hk, rfl, rfl, HW, hcu, hac, hown, hbe⟩ := hrel
    have hsz := hbe.size
    by_cases hle : k ≤ l.length
    · by_cases hlt : k < l.length
      · have hz : k < (⟨l.toArray⟩ : ByteArray).size := by rw [HS.out]; exact hlt
        have A0 := byteAt l k hlt hz
        by_cases hc : l[k].toNat = 32
        · by_cases h0 : cur = []
          · subst h0
            have HW2 := Lib.hid (HW.out.blank hlt hc)
            have hb : (l[k].toNat : Int) = 32 := by omega
            clear hc
            generalize l[k] = c at A0 hb
            go_wp2
            exact ⟨⟨k + 1, [], acc, by omega, by go_num, rfl, HW2, by simp, by omega, hown, hbe⟩, by simp [RowKit.intOf]; omega⟩
          · have HW2 := Lib.hid (HW.out.cut hlt hc h0)
            have hb : (l[k].toNat : Int) = 32 := by omega
            have hfull := list_full h0
            clear hc h0
            generalize l[k] = c at A0 hb
            go_wp2_with (at_builtin; refine wpList_append_own _ rfl _ _ 30 rfl w.heap.size 9 i0 (.string ByteArray.empty) 1 16 Try.underlying30 hi hz0 hz1 hz2 rfl (by decide) _ _ _ rfl (hown.alloc _) ⟨wr.heap.size, 0, none⟩ 1 1 [.string ⟨cur.toArray⟩] rfl rfl ?c1 ?c2 ?c3 ?c4 ?c5 ?_)
            case c1 => exact one_news (heap_alloc_new wr _)
            case c2 => exact str_one
            case c3 => unfold maxLen; omega
            case c4 => omega
            case c5 => simp; omega
            intro v' w3 hown3 hgrow _
            have h3 : Below w.heap.size w w3 := (hbe.alloc (by omega) _).grown hgrow (by simp; omega) (fun k hk => (hown.lt k hk).1)
            clear hgrow
            go_wp2
            refine ⟨⟨k + 1, [], acc ++ [cur], by omega, by go_num, rfl, HW2, by simp, by rw [List.length_append, List.length_singleton]; omega, ?_, h3⟩, by simp [RowKit.intOf]; omega⟩
            rw [txCells_snoc, List.length_append]
            exact hown3
        · have HW2 := Lib.hid (HW.out.more hlt hc)
          have HE := Lib.hid (ext_one l k hlt)
          have hb : ¬ (l[k].toNat : Int) = 32 := by omega
          clear hc
          generalize l[k] = c at A0 hb HE HW2
          go_wp2
          refine ⟨⟨k + 1, cur ++ [c], acc, by omega, by go_num, ?_, HW2, by rw [List.length_append, List.length_singleton]; omega, by omega, hown, hbe⟩, by simp [RowKit.intOf]; omega⟩
          rw [HE.out]
          simp [ByteArray.mk_append_mk]
      · obtain rfl : k = l.length := by omega
        by_cases h0 : cur = []
        · subst h0
          have HW2 := Lib.hid HW.out.done
          go_wp2
          exact ⟨⟨l.length + 1, [], acc, by omega, by go_num, rfl, HW2, by simp, by omega, hown, hbe⟩, by simp [RowKit.intOf]⟩
        · have HW2 := Lib.hid (HW.out.last h0)
          have hfull := list_full h0
          clear h0
          go_wp2_with (at_builtin; refine wpList_append_own _ rfl _ _ 30 rfl w.heap.size 9 i0 (.string ByteArray.empty) 1 16 Try.underlying30 hi hz0 hz1 hz2 rfl (by decide) _ _ _ rfl (hown.alloc _) ⟨wr.heap.size, 0, none⟩ 1 1 [.string ⟨cur.toArray⟩] rfl rfl ?c1 ?c2 ?c3 ?c4 ?c5 ?_)
          case c1 => exact one_news (heap_alloc_new wr _)
          case c2 => exact str_one
          case c3 => unfold maxLen; omega
          case c4 => omega
          case c5 => simp; omega
          intro v' w3 hown3 hgrow _
          have h3 : Below w.heap.size w w3 := (hbe.alloc (by omega) _).grown hgrow (by simp; omega) (fun k hk => (hown.lt k hk).1)
          clear hgrow
          go_wp2
          refine ⟨⟨l.length + 1, [], acc ++ [cur], by omega, by go_num, rfl, HW2, by simp, by rw [List.length_append, List.length_singleton]; omega, ?_, h3⟩, by simp [RowKit.intOf]⟩
          rw [txCells_snoc, List.length_append]
          exact hown3
    · obtain rfl : k = l.length + 1 := by omega
      have HW2 : Hid (wds l = acc) := Lib.hid (by
        rcases HW.out with ⟨h, _⟩ | ⟨_, h⟩
        · omega
        · exact h)
      obtain ⟨ao, cap, rfl, hfr⟩ := owns_strs hown
      clear hown
      go_wp2
      go_ret
      exact RetL.mk (a := ao) (cap := cap) HW2.out rfl hfr hbe
end Go.Proofs.Ytoedbolmajcgpaa
