/-
  escape.write and Quote, walked.
-/
import Derived.Test.YtoedbolmajcgpaaEsP
import Derived.Test.YtoedbolmajcgpaaWrByte
import Derived.Test.YtoedbolmajcgpaaShelf
set_option linter.unusedSimpArgs false
set_option linter.unusedVariables false
namespace Go.Proofs.Ytoedbolmajcgpaa
open Go.RowKit

theorem hex_byte (n : Nat) (h : n < 16) (h' : n < (⟨#[48, 49, 50, 51, 52, 53, 54, 55, 56, 57, 97, 98, 99, 100, 101, 102]⟩ : ByteArray).size) : (⟨#[48, 49, 50, 51, 52, 53, 54, 55, 56, 57, 97, 98, 99, 100, 101, 102]⟩ : ByteArray)[n]'h' = hx n := by
  match n, h with
  | 0, _ => rfl
  | 1, _ => rfl
  | 2, _ => rfl
  | 3, _ => rfl
  | 4, _ => rfl
  | 5, _ => rfl
  | 6, _ => rfl
  | 7, _ => rfl
  | 8, _ => rfl
  | 9, _ => rfl
  | 10, _ => rfl
  | 11, _ => rfl
  | 12, _ => rfl
  | 13, _ => rfl
  | 14, _ => rfl
  | 15, _ => rfl
  | n + 16, h => exact absurd h (by omega)

theorem byteCells_snoc (l : List UInt8) (c : UInt8) : Lib.byteCells (l ++ [c]) = Lib.byteCells l ++ [.int .u8 (c.toNat : Int)] := by simp [Lib.byteCells]

/-- WriteByte, by the bytes. -/
theorem wbyte (B b : Nat) (l : List UInt8) (c : UInt8) (w : World) (hbu : Lib.IsBuilder 37 5 B b (Lib.byteCells l) w) (hl : l.length ≤ 1000000000) (hBw : B ≤ w.heap.size) :
    Calls Try.prog 20 #[.pointer (some ⟨b, 0, none⟩), .int .u8 (c.toNat : Int)] w fun e w' => e = .returned .nilIface ∧ (Lib.IsBuilder 37 5 B b (Lib.byteCells (l ++ [c])) w' ∧ Below B w w') := by
  refine (writeByte B b _ _ w hbu (by rw [Lib.byteCells_length]; omega) hBw).mono ?_
  rintro e w' ⟨rfl, h1, h2⟩
  exact ⟨rfl, by rw [byteCells_snoc]; exact .inr h1, h2⟩

set_option maxHeartbeats 1000000 in
theorem eswrite_any (B b : Nat) (l : List UInt8) (c : UInt8) (w : World)
    (hbu : Lib.IsBuilder 37 5 B b (Lib.byteCells l) w) (hl : l.length ≤ 100000000) (hBw : B ≤ w.heap.size) :
    Calls Try.prog 16 #[.pointer (some ⟨b, 0, none⟩), .int .u8 (c.toNat : Int)] w fun e w' => e = .returned (.tuple #[]) ∧
      Lib.IsBuilder 37 5 B b (Lib.byteCells (l ++ sgn c)) w' ∧ Below B w w' := by
  have l1 := c.toNat_lt
  have hl1 : l.length ≤ 1000000000 := by omega
  cases hp : pln c with
  | true =>
    have HS := Lib.hid (sgn_plain c hp)
    have HP : Hid (∀ w, Calls Try.prog 9 #[.int .u8 (c.toNat : Int)] w fun e w' => e = .returned (.bool true) ∧ w = w') := Lib.hid (fun w => by have := plain_any c w; rwa [hp] at this)
    clear hp
    go_enter Try.func16, Try.ntmps16
    go_wp2_with fail
    refine (HP.out _).mono ?_
    rintro e w' ⟨rfl, rfl⟩
    go_wp2_with fail
    refine (wbyte B b l c _ hbu hl1 hBw).mono ?_
    rintro e w2 ⟨rfl, hbu2, hb2⟩
    go_wp2
    go_end0
    exact ⟨rfl, by rw [HS.out]; exact hbu2, hb2⟩
  | false =>
    have HP : Hid (∀ w, Calls Try.prog 9 #[.int .u8 (c.toNat : Int)] w fun e w' => e = .returned (.bool false) ∧ w = w') := Lib.hid (fun w => by have := plain_any c w; rwa [hp] at this)
    by_cases hc : c.toNat = 92
    · have HS := Lib.hid (sgn_back c hc)
      obtain rfl : c = 92 := u8_ext hc
      clear hp hc
      go_enter Try.func16, Try.ntmps16
      go_wp2_with fail
      refine (HP.out _).mono ?_
      rintro e w' ⟨rfl, rfl⟩
      go_wp2_with fail
      refine (wbyte B b l 92 _ hbu hl1 hBw).mono ?_
      rintro e w2 ⟨rfl, hbu2, hb2⟩
      have hs2 := hb2.size
      go_wp2_with fail
      refine (wbyte B b _ 92 _ hbu2 (by rw [List.length_append, List.length_singleton]; omega) (by omega)).mono ?_
      rintro e w3 ⟨rfl, hbu3, hb3⟩
      go_wp2
      go_end0
      exact ⟨rfl, by rw [HS.out]; simpa using hbu3, hb2.trans hb3⟩
    · have HS := Lib.hid (sgn_hex c hp hc)
      have hd : ((c.toNat : Int) == 92) = false := by simp; omega
      clear hp hc
      have q1 : (c.toNat / 16) < (⟨#[48, 49, 50, 51, 52, 53, 54, 55, 56, 57, 97, 98, 99, 100, 101, 102]⟩ : ByteArray).size := by show _ < 16; omega
      have q2 : (c.toNat % 16) < (⟨#[48, 49, 50, 51, 52, 53, 54, 55, 56, 57, 97, 98, 99, 100, 101, 102]⟩ : ByteArray).size := by show _ < 16; omega
      have e1 := hex_byte (c.toNat / 16) (by omega) q1
      have e2 := hex_byte (c.toNat % 16) (by omega) q2
      go_enter Try.func16, Try.ntmps16
      go_wp2_with fail
      refine (HP.out _).mono ?_
      rintro e w' ⟨rfl, rfl⟩
      go_wp2_with fail
      refine (wbyte B b l 92 _ hbu hl1 hBw).mono ?_
      rintro e w2 ⟨rfl, hbu2, hb2⟩
      have hs2 := hb2.size
      go_wp2_with fail
      refine (wbyte B b _ 120 _ hbu2 (by rw [List.length_append, List.length_singleton]; omega) (by omega)).mono ?_
      rintro e w3 ⟨rfl, hbu3, hb3⟩
      have hb03 := hb2.trans hb3
      have hs3 := hb03.size
      clear hbu2 hb2 hb3
      go_wp2_with fail
      refine (wbyte B b _ (hx (c.toNat / 16)) _ hbu3 (by simp; omega) (by omega)).mono ?_
      rintro e w4 ⟨rfl, hbu4, hb4⟩
      have hb04 := hb03.trans hb4
      have hs4 := hb04.size
      clear hbu3 hb03 hb4
      go_wp2_with fail
      refine (wbyte B b _ (hx (c.toNat % 16)) _ hbu4 (by simp; omega) (by omega)).mono ?_
      rintro e w5 ⟨rfl, hbu5, hb5⟩
      go_wp2
      go_end0
      exact ⟨rfl, by rw [HS.out]; simpa using hbu5, hb04.trans hb5⟩

theorem take_snoc8 (l : List UInt8) (k : Nat) (h : k < l.length) : l.take (k + 1) = l.take k ++ [l[k]] := List.take_succ_eq_append_getElem h
theorem drop_at8 (l : List UInt8) (k : Nat) (h : k < l.length) : l.drop k = l[k] :: l.drop (k + 1) := List.drop_eq_getElem_cons h

theorem list_full {l : List UInt8} (h : l ≠ []) : l.isEmpty = false := by
  cases l with
  | nil => exact absurd rfl h
  | cons _ _ => rfl
theorem list_ne {l m : List UInt8} (h : l ≠ m) : (l == m) = false := beq_eq_false_iff_ne.2 h

set_option maxHeartbeats 1000000 in
theorem quote_any (l : List UInt8) (w : World) (h : l.length ≤ 1000000) :
    Calls Try.prog 7 #[.string ⟨l.toArray⟩] w fun e w' => e = .returned (.string ⟨(quo l).toArray⟩) ∧ Below w.heap.size w w' := by
  have HS := Lib.hid (bsize l)
  by_cases h0 : l = []
  · subst h0
    go_enter Try.func7, Try.ntmps7
    go_wp2
    go_ret
    exact ⟨rfl, Below.refl _ _⟩
  by_cases h1 : l = [45]
  · subst h1
    go_enter Try.func7, Try.ntmps7
    go_wp2
    go_ret
    exact ⟨rfl, Below.refl _ _⟩
  have HQ : Hid (quo l = sgns l) := Lib.hid (by unfold quo; rw [if_neg h0, if_neg h1])
  have t0 := list_full h0
  have t1 := list_ne h1
  clear h0 h1
  go_enter Try.func7, Try.ntmps7
  go_wp2
  go_loopw [12] (fun i wr => ∃ k : Nat, k ≤ l.length ∧ i = .int .i64 k ∧ Lib.IsBuilder 37 5 w.heap.size w.heap.size (Lib.byteCells (sgns (l.take k))) wr ∧ Below w.heap.size w wr) (fun i _ => l.length - (RowKit.intOf i).toNat)
  case atStart => exact ⟨0, Nat.zero_le _, rfl, Lib.fresh_isBuilder _ _ w, (Below.refl _ _).alloc (Nat.le_refl _) _⟩
  case round =>
    obtain ⟨k, hk, rfl, hbu, hbe⟩ := hrel
    have hsz := hbe.size
    by_cases hlt : k < l.length
    · have hz : k < (⟨l.toArray⟩ : ByteArray).size := by rw [HS.out]; exact hlt
      have A0 := byteAt l k hlt hz
      have HT := Lib.hid (show sgns (l.take (k + 1)) = sgns (l.take k) ++ sgn l[k] by rw [take_snoc8 l k hlt, sgns_snoc])
      have hlen := (sgns_len (l.take k)).2
      have hlk : (l.take k).length ≤ k := List.length_take_le _ _
      have hacc : (sgns (l.take k)).length ≤ 100000000 := by omega
      generalize l[k] = c at A0 HT
      generalize sgns (l.take k) = acc at HT hbu hacc
      clear hlen hlk
      go_wp2_with fail
      refine (eswrite_any _ _ acc c _ hbu hacc hsz).mono ?_
      rintro e w2 ⟨rfl, hbu2, hb2⟩
      go_wp2
      exact ⟨⟨k + 1, by omega, by go_num, by rw [HT.out]; exact hbu2, hbe.trans hb2⟩, by simp [RowKit.intOf]; omega⟩
    · obtain rfl : k = l.length := by omega
      rw [List.take_length] at hbu
      go_wp2_with (go_at_call 17; refine (Try.Builder_String_any _ _ _ _ hbu hbe.size).mono ?_; rintro e w1 ⟨rfl, hb1⟩)
      go_ret
      exact ⟨by rw [HQ.out]; rfl, hbe.trans hb1⟩
end Go.Proofs.Ytoedbolmajcgpaa
