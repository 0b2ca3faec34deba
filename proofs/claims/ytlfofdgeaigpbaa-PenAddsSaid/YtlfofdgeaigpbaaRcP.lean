/-
  record.Put: walked.
-/
import Derived.Test.YtlfofdgeaigpbaaBn6
import Derived.Test.YtlfofdgeaigpbaaVarRef
import Derived.Deep.RegionWith
set_option linter.unusedSimpArgs false
set_option linter.unusedVariables false
namespace Go.Proofs.Ytlfofdgeaigpbaa
open Go.RowKit

/-- What Put answers: the bytes, or the error. -/
def RetPk (k n r : Int) (ids : List Int) (w : World) (e : Ending) (w' : World) : Prop :=
  ((okK k n r ids = true ∧ e = .returned (.tuple #[.string ⟨(putK k n r ids).toArray⟩, .int .i64 0])) ∨ (okK k n r ids = false ∧ e = .returned (.tuple #[.string ⟨#[]⟩, .int .i64 2]))) ∧ Below w.heap.size w w'

set_option maxHeartbeats 1000000 in
theorem rcput_bad (k n r : Int) (a : Option Addr) (L c : Nat) (ids : List Int) (w : World) (hl : ids.length = L) (hL : L ≤ 1000000000) (hr : IsRow .i64 w a L L ids) (hok : okK k n r ids = false) :
    Calls Try.prog 31 #[.agg #[.int .i64 k, .int .i64 n, .int .i64 r, .slice a L c]] w (RetPk k n r ids w) := by
  have hX1 := heap_alloc_new w (.cells #[.int .i64 k, .int .i64 n, .int .i64 r, .slice a L c] 34)
  have hB1 := (Below.refl w.heap.size w).alloc (Nat.le_refl _) (.cells #[.int .i64 k, .int .i64 n, .int .i64 r, .slice a L c] 34)
  obtain ⟨w1, hw1⟩ : ∃ w1, w.alloc (.cells #[.int .i64 k, .int .i64 n, .int .i64 r, .slice a L c] 34) = w1 := ⟨_, rfl⟩
  rw [hw1] at hX1 hB1
  obtain ⟨c0, c1, c2, c3⟩ := rec_reads hX1
  have HC := Lib.hid (rccheck_any k n r a L c ids w1 hl hL (hr.below hB1) false hok)
  have HB1 := Lib.hid hB1
  have HO := Lib.hid hok
  clear hX1 hB1 hl hr hok
  go_enter Try.func31, Try.ntmps31
  go_wp2_with fail
  try rw [hw1]
  refine HC.out.mono ?_
  rintro e w2 ⟨rfl, hb2⟩
  have HB2 := Lib.hid (HB1.out.trans (hb2.mono HB1.out.size))
  go_wp2
  go_ret2
  exact ⟨.inr ⟨HO.out, rfl⟩, HB2.out⟩

theorem cell_up {w w' : World} {b o : Nat} {v : Value} (h : w.cell? ⟨b, o, none⟩ = some v) (hb : Below w.heap.size w w') : w'.cell? ⟨b, o, none⟩ = some v := by
  rw [hb.cell (p := ⟨b, o, none⟩) (World.block_lt_of_cell? w _ h)]
  exact h

/-- A byte's cell, made ahead of a call. -/
theorem byte_up {w w' : World} {k : Int} {T : TypeId} (hb : Below (w.alloc (.cells #[.int .u8 k] T)).heap.size (w.alloc (.cells #[.int .u8 k] T)) w') : w'.cell? ⟨w.heap.size, 0, none⟩ = some (.int .u8 k) :=
  cell_up (by rw [World.cell?_alloc_new]; rfl) hb
theorem byte_upd {w w' : World} {k : Int} {T : TypeId} (hb : Below (w.alloc (.cells #[.int .u8 k] T)).drew.heap.size (w.alloc (.cells #[.int .u8 k] T)).drew w') : w'.cell? ⟨w.heap.size, 0, none⟩ = some (.int .u8 k) :=
  byte_up (((Below.refl _ _).drew).trans (hb.mono (by simp)))

set_option maxRecDepth 100000 in
set_option maxHeartbeats 4000000 in
theorem rcput_good (k n r : Int) (a : Option Addr) (L c : Nat) (ids : List Int) (w : World) (hl : ids.length = L) (hL : L ≤ 1000000000) (hr : IsRow .i64 w a L L ids) (hok : okK k n r ids = true) :
    Calls Try.prog 31 #[.agg #[.int .i64 k, .int .i64 n, .int .i64 r, .slice a L c]] w (RetPk k n r ids w) := by
  have hX1 := heap_alloc_new w (.cells #[.int .i64 k, .int .i64 n, .int .i64 r, .slice a L c] 34)
  have hB1 := (Below.refl w.heap.size w).alloc (Nat.le_refl _) (.cells #[.int .i64 k, .int .i64 n, .int .i64 r, .slice a L c] 34)
  obtain ⟨w1, hw1⟩ : ∃ w1, w.alloc (.cells #[.int .i64 k, .int .i64 n, .int .i64 r, .slice a L c] 34) = w1 := ⟨_, rfl⟩
  rw [hw1] at hX1 hB1
  obtain ⟨c0, c1, c2, c3⟩ := rec_reads hX1
  have HC := Lib.hid (rccheck_any k n r a L c ids w1 hl hL (hr.below hB1) true hok)
  have HB1 := Lib.hid hB1
  have HO := Lib.hid hok
  have HX1 := Lib.hid hX1
  have hk := ok_kind hok
  have HNm := Lib.hid (fun (W : World) (hW : Below w.heap.size w W) => rcnums_any k n r a L c ids W hl (hr.below hW) hok)
  have hN := nums_64 hok
  have hva := vall_length _ hN.1
  obtain ⟨N, hNl⟩ : ∃ N, numsL k n r ids = N := ⟨_, rfl⟩
  rw [hNl] at hN hva HNm
  have HAll := Lib.hid (fun (W : World) (ao : Option Addr) (cap : Nat) (h : IsRow .i64 W ao N.length N.length N) => all_row ao N.length cap N.length N W (by omega) h hN.1)
  rw [List.take_length] at HAll
  have HP : Hid (putK k n r ids = vb k :: vall N) := Lib.hid (by unfold putK; rw [hNl])
  have hlen : ¬ (9223372036854775807 : Nat) < 1 + (vall N).length := by omega
  have hlen' : ¬ (9223372036854775807 : Nat) < (vall N).length + 1 := by omega
  have e4 : IntKind.u8.wrap k = k := by rw [IntKind.wrap_u8]; omega
  have hconv : ∀ (W : World) (b : Nat), W.cell? ⟨b, 0, none⟩ = some (.int .u8 k) → (convert 55 9 (.slice (some ⟨b, 0, none⟩) 1 1)).run Try.prog W = .ok (.string ⟨#[vb k]⟩) W :=
    fun W b hc => one_back W b _ (by omega) (by omega) hc
  clear hX1 hB1 hl hr hok hk hva hN hNl
  generalize vall N = V at *
  have HE : Hid ((⟨#[vb k]⟩ : ByteArray) ++ ⟨V.toArray⟩ = ⟨(vb k :: V).toArray⟩) := Lib.hid (by simp [ByteArray.mk_append_mk])
  go_enter Try.func31, Try.ntmps31
  go_wp2_with fail
  try rw [hw1]
  refine HC.out.mono ?_
  rintro e w2 ⟨rfl, hb2⟩
  have hX2 := (hb2.block w.heap.size (heap_lt HX1.out)).trans HX1.out
  have hB2 := HB1.out.trans (hb2.mono HB1.out.size)
  have HB2 := Lib.hid hB2
  obtain ⟨d0, d1, d2, d3⟩ := rec_reads hX2
  have a0 := fun o => cell_up d0 ((Below.refl w2.heap.size w2).alloc (Nat.le_refl _) o)
  have a1 := fun o => cell_up d1 ((Below.refl w2.heap.size w2).alloc (Nat.le_refl _) o)
  have a2 := fun o => cell_up d2 ((Below.refl w2.heap.size w2).alloc (Nat.le_refl _) o)
  have a3 := fun o => cell_up d3 ((Below.refl w2.heap.size w2).alloc (Nat.le_refl _) o)
  clear hb2 hX2 hB2 c0 c1 c2 c3 HC
  go_wp2_with fail
  go_region_with (first
    | (go_at_call 40
       refine (HNm.out _ (by first | exact HB2.out.drew | exact (HB2.out.alloc HB2.out.size _).drew)).mono ?_
       rintro e w3 ⟨ao, cap, rfl, hr3, hb3⟩
       have hb23 : Below w2.heap.size w2 w3 := (by first | exact ((Below.refl _ _).drew).trans hb3 | exact (((Below.refl _ _).alloc (Nat.le_refl _) _).drew).trans (hb3.mono (by simp)))
       have m0 := cell_up d0 hb23
       have b0 := fun o => cell_up m0 ((Below.refl w3.heap.size w3).alloc (Nat.le_refl _) o)
       have HB3 := Lib.hid (HB2.out.trans (hb23.mono HB2.out.size))
       have HR3 := Lib.hid hr3
       try have z3 : w3.cell? ⟨w2.heap.size, 0, none⟩ = some (.int .u8 k) := (by first | exact byte_upd hb3 | exact byte_up hb3)
       clear hr3 hb3 hb23)
    | (go_at_call 39
       refine (HAll.out _ ao cap (by first | exact HR3.out | exact HR3.out.below ((Below.refl _ _).alloc (Nat.le_refl _) _) | exact HR3.out.below ((Below.refl _ _).drew) | exact HR3.out.below (((Below.refl _ _).alloc (Nat.le_refl _) _).drew))).mono ?_
       rintro e w4 ⟨rfl, hb4⟩
       have hb34 : Below w3.heap.size w3 w4 := (by first | exact hb4 | exact ((Below.refl _ _).drew).trans hb4 | exact ((Below.refl _ _).alloc (Nat.le_refl _) _).trans (hb4.mono (by simp)) | exact (((Below.refl _ _).alloc (Nat.le_refl _) _).drew).trans (hb4.mono (by simp)))
       have n0 := cell_up m0 hb34
       have HB4 := Lib.hid (HB3.out.trans (hb34.mono HB3.out.size))
       first
         | have z4 := cell_up z3 hb34
         | have z4 : w4.cell? ⟨w3.heap.size, 0, none⟩ = some (.int .u8 k) := (by first | exact byte_upd hb4 | exact byte_up hb4)
         | skip
       clear hb4 hb34))
  all_goals go_wp2
  all_goals go_ret2
  all_goals refine ⟨.inl ⟨HO.out, by rw [HP.out, ← HE.out]; rfl⟩, ?_⟩
  all_goals first
    | exact HB4.out
    | exact HB4.out.drew
    | exact HB4.out.alloc HB4.out.size _
    | exact (HB4.out.alloc HB4.out.size _).drew

theorem rcput_any (k n r : Int) (a : Option Addr) (L c : Nat) (ids : List Int) (w : World) (hl : ids.length = L) (hL : L ≤ 1000000000) (hr : IsRow .i64 w a L L ids) :
    Calls Try.prog 31 #[.agg #[.int .i64 k, .int .i64 n, .int .i64 r, .slice a L c]] w (RetPk k n r ids w) := by
  cases h : okK k n r ids with
  | true => exact rcput_good k n r a L c ids w hl hL hr h
  | false => exact rcput_bad k n r a L c ids w hl hL hr h
end Go.Proofs.Ytlfofdgeaigpbaa
