/-
  digit.Row: the walk: a row's text is the numbers' texts with a comma between each two, or a - alone.
-/
import Derived.Test.YtgoidhlemmdjgaaDoorDigT
import Derived.Test.YtgoidhlemmdjgaaDoorBuild
import Derived.Test.YtgoidhlemmdjgaaDoorShelf
set_option linter.unusedSimpArgs false
set_option linter.unusedVariables false
namespace Go.Proofs.YtgoidhlemmdjgaaDoor
open Go.RowKit

theorem row_nil (a : Option Addr) (cap : Nat) (w : World) :
    Calls Tryd.prog 12 #[.slice a 0 cap] w fun e w' => e = .returned (.string ⟨([45] : List UInt8).toArray⟩) ∧ Below w.heap.size w w' := by
  go_enter Tryd.func12, Tryd.ntmps12
  go_wp2
  go_ret
  exact ⟨rfl, Below.refl _ _⟩

set_option maxHeartbeats 1000000 in
theorem row_some (b off len cap : Nat) (zs : List Int) (w : World) (h0 : 0 < len) (h1 : len ≤ 100) (hcap : len ≤ cap) (hz : zs.length = cap) (hm : cap ≤ maxLen)
    (hc : ∀ i, i < cap → w.cell? ⟨b, off + i, none⟩ = some (.int .i64 (zs.getD i 0))) (h64 : Int64s zs) :
    Calls Tryd.prog 12 #[.slice (some ⟨b, off, none⟩) len cap] w fun e w' => e = .returned (.string ⟨(rowTo (zs.take len)).toArray⟩) ∧ Below w.heap.size w w' := by
  have he : ((len : Int) == 0) = false := by simp; omega
  have HC := Lib.hid hc
  clear hc
  go_enter Tryd.func12, Tryd.ntmps12
  go_wp2
  go_loopw [11] (fun i wr => ∃ k : Nat, k ≤ len ∧ i = .int .i64 k ∧ Lib.IsBuilder 46 5 w.heap.size w.heap.size (Lib.byteCells (rowTo (zs.take k))) wr ∧ Below w.heap.size w wr) (fun i _ => len - (RowKit.intOf i).toNat)
  case atStart => exact ⟨0, Nat.zero_le _, rfl, Lib.fresh_isBuilder _ _ w, (Below.refl _ _).alloc (Nat.le_refl _) _⟩
  case round =>
    rename_i wr
    obtain ⟨k, hk, rfl, hbu, hbe⟩ := hrel
    by_cases hlt : k < len
    · have hlen := rowTo_length (zs.take k) (fun x hx => h64 x (List.mem_of_mem_take hx))
      have hlk : (zs.take k).length = k := by rw [List.length_take]; omega
      have hcell : wr.cell? ⟨b, off + k, none⟩ = some (.int .i64 (zs.getD k 0)) := by
        have h := HC.out k (by omega)
        rw [hbe.cell (p := ⟨b, off + k, none⟩) (World.block_lt_of_cell? w _ h)]
        exact h
      have hx := h64 (zs.getD k 0) (getD_in _ _ (by omega))
      have hsn := take_snoc zs k (by omega)
      generalize zs.getD k 0 = x at hcell hx hsn
      obtain ⟨hx1, hx2⟩ := hx
      have hil := Lib.itoa_length_le x hx1 hx2
      have hsz := hbe.size
      rw [hlk] at hlen
      have HLK := Lib.hid hlk
      clear hlk
      by_cases hk0 : k = 0
      · subst hk0
        have hsn' : rowTo (zs.take (0 + 1)) = Lib.itoa x := by rw [hsn, List.take_zero, List.nil_append, rowTo_one]
        have HS := Lib.hid hsn'
        clear hsn hsn'
        have hbu' : Lib.IsBuilder 46 5 w.heap.size w.heap.size [] wr := by simpa [rowTo, Lib.byteCells] using hbu
        clear hbu
        have hcell0 : wr.cell? ⟨b, off, none⟩ = some (.int .i64 x) := hcell
        clear hcell
        go_wp2_with fail
        refine (text_any x _ hx1 hx2).mono ?_
        rintro e w1 ⟨rfl, hb1⟩
        have hsz1 := hb1.size
        go_wp2_with fail
        refine (writeString _ _ _ _ _ (IsBuilder.below hbu' hb1) (by rw [bsize, List.length_nil]; omega) (by omega)).mono ?_
        rintro e w2 ⟨rfl, hbu2, hb2⟩
        go_wp2
        refine ⟨⟨1, by omega, rfl, ?_, (hbe.trans (hb1.mono hsz)).trans hb2⟩, ?_⟩
        · rw [HS.out]; exact .inr hbu2
        · simp [RowKit.intOf]; omega
      · have hsn' : rowTo (zs.take (k + 1)) = rowTo (zs.take k) ++ 44 :: Lib.itoa x := by
          rw [hsn]
          refine rowTo_more _ _ (fun e => ?_)
          have := HLK.out
          rw [e] at this
          simp at this; omega
        have HS := Lib.hid hsn'
        clear hsn hsn'
        have hpos : 0 < k := by omega
        generalize rowTo (zs.take k) = acc at hbu hlen HS
        go_wp2_with fail
        refine (writeString _ _ _ _ _ hbu (by rw [Lib.byteCells_length]; have h44 : (⟨#[44]⟩ : ByteArray).size = 1 := rfl; omega) hsz).mono ?_
        rintro e w0 ⟨rfl, hbu0, hb0⟩
        have hsz0 := hb0.size
        go_wp2_with fail
        refine (text_any x _ hx1 hx2).mono ?_
        rintro e w1 ⟨rfl, hb1⟩
        have hsz1 := hb1.size
        go_wp2_with fail
        refine (writeString _ _ _ _ _ (.inr (BuilderAt.below hbu0 hb1)) (by rw [List.length_append, Lib.byteCells_length, Lib.strCells_length, bsize (Lib.itoa x)]; have h44 : (⟨#[44]⟩ : ByteArray).size = 1 := rfl; omega) (by omega)).mono ?_
        rintro e w2 ⟨rfl, hbu2, hb2⟩
        go_wp2
        refine ⟨⟨k + 1, by omega, by go_num, ?_, ((hbe.trans hb0).trans (hb1.mono (by omega))).trans hb2⟩, ?_⟩
        · rw [HS.out]; exact .inr (by simpa [Lib.byteCells, Lib.strCells] using hbu2)
        · simp [RowKit.intOf]; omega
    · have hkl : k = len := by omega
      subst hkl
      go_wp2_with (go_at_call 19; refine (Tryd.Builder_String_any _ _ _ _ hbu hbe.size).mono ?_; rintro e w1 ⟨rfl, hb1⟩)
      go_ret
      exact ⟨rfl, hbe.trans hb1⟩
end Go.Proofs.YtgoidhlemmdjgaaDoor
