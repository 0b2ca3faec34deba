/-
  varint.write, All and Put, walked.
-/
import Derived.Test.YtgkpeehondmalaaVarM
import Derived.Test.YtgkpeehondmalaaWrByte
import Derived.Test.YtgkpeehondmalaaShelf
import Derived.Outline
import Derived.IntWalk
set_option linter.unusedSimpArgs false
set_option linter.unusedVariables false
namespace Go.Proofs.Ytgkpeehondmalaa
open Go.RowKit

set_option maxHeartbeats 1000000 in
theorem write_neg (b : Nat) (n : Int) (w : World) (hn : n < 0) :
    Calls Try.prog 38 #[.pointer (some ⟨b, 0, none⟩), .int .i64 n] w fun e w' => e = .returned (.tuple #[]) ∧ w = w' := by
  go_enter Try.func38, Try.ntmps38
  go_wp2_with fail
  refine bodyPost_ret (v := .tuple #[]) (results_none rfl _ _ _) rfl ?_
  exact ⟨rfl, rfl⟩

set_option maxHeartbeats 1000000 in
theorem write_pos (B b : Nat) (l : List UInt8) (n : Int) (w : World) (h0 : 0 ≤ n) (h1 : n ≤ 9223372036854775807)
    (hbu : Lib.IsBuilder 53 5 B b (Lib.byteCells l) w) (hl : l.length ≤ 1000000) (hBw : B ≤ w.heap.size) :
    Calls Try.prog 38 #[.pointer (some ⟨b, 0, none⟩), .int .i64 n] w fun e w' => e = .returned (.tuple #[]) ∧
      Lib.IsBuilder 53 5 B b (Lib.byteCells (l ++ vput n)) w' ∧ Below B w w' := by
  have hn9 := vput_length n h1
  go_enter Try.func38, Try.ntmps38
  go_wp2_with fail
  go_loopw [1] (fun x wr => ∃ (q : Int) (d : List UInt8), x = .int .i64 q ∧ 0 ≤ q ∧ q ≤ n ∧ Hid (vput n = d ++ vput q) ∧ Lib.IsBuilder 53 5 B b (Lib.byteCells (l ++ d)) wr ∧ Below B w wr) (fun x _ => (RowKit.intOf x).toNat)
  case atStart => exact ⟨n, [], rfl, h0, Int.le_refl _, Lib.hid rfl, by simpa using hbu, Below.refl _ _⟩
  case round =>
    rename_i wr
    obtain ⟨q, d, rfl, hq0, hqn, HQ, hb, hbe⟩ := hrel
    have hsz := hbe.size
    have hdl : d.length ≤ 9 := by have := congrArg List.length HQ.out; rw [List.length_append] at this; omega
    have hlb : (Lib.byteCells (l ++ d)).length + 1 ≤ 140737488355328 := by rw [Lib.byteCells_length, List.length_append]; omega
    by_cases hq : 128 ≤ q
    · have e1 := vb_toNat (q % 128 + 128) (by omega) (by omega)
      have HV := Lib.hid (vput_big q hq)
      generalize vb (q % 128 + 128) = c at e1 HV
      have E1 := Lib.hid e1
      clear e1
      go_wp2_with fail
      refine (writeByte _ _ _ _ _ hb hlb (by omega)).mono ?_
      rintro e w2 ⟨rfl, hbu2, hb2⟩
      go_wp2
      refine ⟨⟨q / 128, d ++ [c], rfl, by omega, by omega, Lib.hid (by rw [HQ.out, HV.out]; simp), ?_, hbe.trans hb2⟩, by simp [RowKit.intOf]; omega⟩
      have hbu3 := Or.inr (a := Lib.BuilderAt 53 5 B b (.pointer none) (Lib.byteCells (l ++ d) ++ [.int .u8 (q % 128 + 128)]) w2) hbu2
      rw [← E1.out] at hbu3
      simpa [Lib.byteCells, Lib.IsBuilder] using hbu3
    · have e1 := vb_toNat q hq0 (by omega)
      have HV := Lib.hid (vput_small q hq0 (by omega))
      generalize vb q = c at e1 HV
      have E1 := Lib.hid e1
      clear e1
      go_wp2_with fail
      refine (writeByte _ _ _ _ _ hb hlb (by omega)).mono ?_
      rintro e w2 ⟨rfl, hbu2, hb2⟩
      go_wp2
      go_end0
      refine ⟨rfl, ?_, hbe.trans hb2⟩
      rw [HQ.out, HV.out]
      have hbu3 := Or.inr (a := Lib.BuilderAt 53 5 B b (.pointer none) (Lib.byteCells (l ++ d) ++ [.int .u8 q]) w2) hbu2
      rw [← E1.out] at hbu3
      simpa [Lib.byteCells, Lib.IsBuilder] using hbu3

theorem write_any (B b : Nat) (l : List UInt8) (n : Int) (w : World) (h1 : n ≤ 9223372036854775807)
    (hbu : Lib.IsBuilder 53 5 B b (Lib.byteCells l) w) (hl : l.length ≤ 1000000) (hBw : B ≤ w.heap.size) :
    Calls Try.prog 38 #[.pointer (some ⟨b, 0, none⟩), .int .i64 n] w fun e w' => e = .returned (.tuple #[]) ∧
      Lib.IsBuilder 53 5 B b (Lib.byteCells (l ++ vput n)) w' ∧ Below B w w' := by
  by_cases hn : n < 0
  · refine (write_neg b n w hn).mono ?_
    rintro e w' ⟨rfl, rfl⟩
    exact ⟨rfl, by rw [vput_neg n hn]; simpa using hbu, Below.refl _ _⟩
  · exact write_pos B b l n w (by omega) h1 hbu hl hBw

set_option maxHeartbeats 1000000 in
theorem all_row (a : Option Addr) (len cap t : Nat) (zs : List Int) (w : World) (h1 : len ≤ 100000)
    (hr : IsRow .i64 w a len t zs) (h64 : Int64s zs) :
    Calls Try.prog 35 #[.slice a len cap] w fun e w' => e = .returned (.string ⟨(vall (zs.take len)).toArray⟩) ∧ Below w.heap.size w w' := by
  go_enter Try.func35, Try.ntmps35
  go_wp2
  go_loopw [8] (fun i wr => ∃ k : Nat, k ≤ len ∧ i = .int .i64 k ∧ Lib.IsBuilder 53 5 w.heap.size w.heap.size (Lib.byteCells (vall (zs.take k))) wr ∧ Below w.heap.size w wr) (fun i _ => len - (RowKit.intOf i).toNat)
  case atStart => exact ⟨0, Nat.zero_le _, rfl, Lib.fresh_isBuilder _ _ w, (Below.refl _ _).alloc (Nat.le_refl _) _⟩
  case round =>
    rename_i wr
    obtain ⟨k, hk, rfl, hbu, hbe⟩ := hrel
    by_cases hlt : k < len
    · obtain h0 | ⟨b, off, rfl, hcap, hm, hz, hc⟩ := hr
      · omega
      have hlen := vall_length (zs.take k) (fun x hx => h64 x (List.mem_of_mem_take hx))
      have hlk : (zs.take k).length ≤ k := List.length_take_le _ _
      have hcell : wr.cell? ⟨b, off + k, none⟩ = some (.int .i64 (zs.getD k 0)) := by
        have h := hc k (by omega)
        rw [hbe.cell (p := ⟨b, off + k, none⟩) (World.block_lt_of_cell? w _ h)]
        exact h
      have hx := h64 (zs.getD k 0) (getD_in _ _ (by omega))
      have HS := Lib.hid (show vall (zs.take (k + 1)) = vall (zs.take k) ++ vput (zs.getD k 0) by rw [take_snoc zs k (by omega), vall_snoc])
      have HC := Lib.hid hc
      have HZ := Lib.hid hz
      clear hc hz
      generalize zs.getD k 0 = x at hcell hx HS
      have hl9 : (vall (zs.take k)).length ≤ 1000000 := by omega
      generalize vall (zs.take k) = acc at hbu hl9 HS
      have hsz := hbe.size
      clear hlen hlk
      go_wp2_with fail
      refine (write_any _ _ _ x _ hx.2 hbu hl9 hsz).mono ?_
      rintro e w2 ⟨rfl, hbu2, hb2⟩
      go_wp2
      exact ⟨⟨k + 1, by omega, by go_num, by rw [HS.out]; exact hbu2, hbe.trans hb2⟩, by simp [RowKit.intOf]; omega⟩
    · obtain rfl : k = len := by omega
      go_wp2_with (go_at_call 23; refine (Try.Builder_String_any _ _ _ _ hbu hbe.size).mono ?_; rintro e w1 ⟨rfl, hb1⟩)
      go_ret
      exact ⟨rfl, hbe.trans hb1⟩

theorem all_any (a : Option Addr) (len cap : Nat) (zs : List Int) (w : World) (h1 : len ≤ 100000)
    (hr : IsRow .i64 w a len cap zs) (h64 : Int64s zs) :
    Calls Try.prog 35 #[.slice a len cap] w fun e w' => e = .returned (.string ⟨(vall (zs.take len)).toArray⟩) ∧ Below w.heap.size w w' := all_row a len cap cap zs w h1 hr h64

end Go.Proofs.Ytgkpeehondmalaa
