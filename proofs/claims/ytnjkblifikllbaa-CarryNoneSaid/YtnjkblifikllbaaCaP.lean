/-
  carry.Add, giveUp, Pass: walked.
-/
import Derived.Test.YtnjkblifikllbaaCaB
import Derived.Test.YtnjkblifikllbaaCpIn
import Derived.Test.YtnjkblifikllbaaIntoB
set_option linter.unusedSimpArgs false
set_option linter.unusedVariables false
namespace Go.Proofs.Ytnjkblifikllbaa
open Go.RowKit

theorem ca8_info : (Try.prog.info? 5).map (fun i => (i.zero, i.size, i.bytes)) = some (some (.int .u8 0), 1, 1) := by kernel_rfl
theorem ca8_size : (Try.prog.info? 5).map (·.size) = some 1 := by kernel_rfl

set_option maxHeartbeats 400000 in
theorem caadd_nil (t : ByteArray) (w : World) : Calls Try.prog 7 #[.pointer none, .string t] w fun e w' => e = .returned (.tuple #[]) ∧ w' = w := by
  go_enter Try.func7, Try.ntmps7
  go_wp2
  refine bodyPost_ret (results_none rfl _ _ _) rfl ?_
  exact ⟨rfl, rfl⟩

/-- A carry whose cells were laid anew. -/
theorem carry_done {base b keep done gone : Nat} {s : List UInt8} {v : Value} {w w' W : World} (hb : b < base) (hB : base ≤ w.heap.size) (h3 : 1 ≤ keep) (h4 : keep ≤ 65536) (h5 : done ≤ s.length) (h6 : gone ≤ done - keep) (hbut : But base b w w') (hin : Into b w' W)
    (hh : W.heap[b]? = some (.cells #[.int .i64 keep, v, .int .i64 s.length, .int .i64 done] 38 (0, 0))) (hown : w'.ownsRow base 5 1 v (s.length - gone) (Lib.byteCells (s.drop gone))) :
    IsCarry W base b keep s done ∧ But base b w W :=
  ⟨⟨hb, by have := hbut.size; have := hin.size; omega, h3, h4, h5, gone, v, h6, hh, hin.owns hb hown⟩,
    hin.os.trans hbut.os, hin.tape.trans hbut.tape, hin.output.trans hbut.output, by have := hbut.size; have := hin.size; omega, fun k hk hkb => (hin.block k hkb).trans (hbut.block k hk hkb)⟩

theorem cells_app (l t : List UInt8) : Lib.byteCells (l ++ t) = Lib.byteCells l ++ Lib.byteCells t := by simp [Lib.byteCells]
theorem cells_text (t : List UInt8) : Lib.strCells ⟨t.toArray⟩ = Lib.byteCells t := rfl

set_option maxHeartbeats 2000000 in
theorem caadd_any {w : World} {base b keep done : Nat} {s : List UInt8} (h : IsCarry w base b keep s done) (t : List UInt8) (hs : s.length + t.length ≤ 1000000000) :
    Calls Try.prog 7 #[.pointer (some ⟨b, 0, none⟩), .string ⟨t.toArray⟩] w fun e w' => e = .returned (.tuple #[]) ∧ IsCarry w' base b keep (s ++ t) done ∧ But base b w w' := by
  obtain ⟨hb, hB, h3, h4, h5, gone, v, h6, hh, hown⟩ := h
  obtain ⟨i0, hi, hz0, hz1, hz2⟩ := info_parts ca8_info
  obtain ⟨a, cap, rfl⟩ := owns_slice hown
  obtain ⟨⟨c0, c1, c2, c3⟩, _⟩ := carry_reads hh
  have hsz := bsize t
  have HS := Lib.hid hsz
  go_enter Try.func7, Try.ntmps7
  go_wp2_with (at_builtin; refine Lib.wpList_append_own_string _ rfl _ _ 36 9 rfl base 5 i0 Try.underlying36 Try.underlying9 hi hz0 hz1 hz2 _ _ _ rfl hown ⟨t.toArray⟩ rfl ?c3 ?c4 ?c5 ?_)
  case c3 => unfold maxLen; omega
  case c4 => omega
  case c5 => omega
  intro v' w2 hown' hgrow _
  have hbw : b < w.heap.size := lt_of_heap hh
  have hne : ∀ k, k < base → some k ≠ (Value.slice a (s.length - gone) cap).ownBlock := fun k hk e => by have := (hown.lt k e.symm).1; omega
  have hh2 : w2.heap[b]? = some (.cells #[.int .i64 keep, .slice a (s.length - gone) cap, .int .i64 s.length, .int .i64 done] 38 (0, 0)) := (hgrow.block b hbw (hne b hb)).trans hh
  have hb2 : But base b w w2 := ⟨hgrow.os, hgrow.tape, hgrow.output, hgrow.size, fun k hk hkb => hgrow.block k (by omega) (hne k hk)⟩
  have hlen : s.length - gone + (⟨t.toArray⟩ : ByteArray).size = (s ++ t).length - gone := by rw [hsz, List.length_append]; omega
  have hown3 : w2.ownsRow base 5 1 v' ((s ++ t).length - gone) (Lib.byteCells ((s ++ t).drop gone)) := by
    rw [List.drop_append_of_le_length (by omega), cells_app, ← hlen]
    exact hown'
  have HO := Lib.hid hown3
  have HB2 := Lib.hid hb2
  have HL : Hid (((s ++ t).length : Int) = (s.length : Int) + (t.length : Int)) := Lib.hid (by rw [List.length_append]; omega)
  clear hgrow hne hown hh c0 c1 c2 c3 hown' hown3 hb2 hlen hsz
  obtain ⟨⟨c0, c1, c2, c3⟩, f1, f2, f3⟩ := carry_reads hh2
  obtain ⟨a', cap', rfl⟩ := owns_slice HO.out
  go_wp2
  go_end0
  refine ⟨rfl, carry_done (gone := gone) hb hB h3 h4 (by have := HL.out; omega) h6 HB2.out (((Into.refl b w2).set 1 _).set 2 _) ?_ HO.out⟩
  refine (put_heap (put_heap hh2 _) _).trans ?_
  rw [HL.out]
  simp [HS.out]

theorem ca_make (n : Nat) (w : World) (hn : n ≤ 1000000000) : (Instr.makeSlice 36 (.int .i64 (n : Int)) (.int .i64 (n : Int))).run Try.prog w = .ok (.slice (some ⟨w.heap.size, 0, none⟩) n n) (w.alloc (.cells (List.replicate n (Value.int .u8 0)).toArray 5)) := by
  obtain ⟨i0, hi, hz0, hz1, hz2⟩ := info_parts ca8_info
  have h := run_make (P := Try.prog) w 36 5 i0 (.int .u8 0) Try.underlying36 hi hz0 .i64 .i64 n n (by omega) (Int.le_refl _) (by rw [hz2]; omega) (by omega)
  rw [h, hz1, Nat.mul_one, Int.toNat_natCast]
  congr 3
  show madeCells #[Value.int .u8 0] n = _
  rw [← toList_madeCells_one]

/-- No cell of a carry's own block is a byte. -/
theorem carry_ne {w : World} {b keep seen done L cap o : Nat} {a : Option Addr} {x : Int} (h : w.heap[b]? = some (.cells #[.int .i64 keep, .slice a L cap, .int .i64 seen, .int .i64 done] 38 (0, 0))) (hc : w.cell? ⟨b, o, none⟩ = some (.int .u8 x)) : False := by
  rw [Lib.cell_of_heap h] at hc
  match o, hc with
  | 0, hc => simp at hc
  | 1, hc => simp at hc
  | 2, hc => simp at hc
  | 3, hc => simp at hc
  | (o + 4), hc => simp at hc

theorem splice_all {α : Type} (L cs : List α) (h : cs.length = L.length) : splice L 0 cs = cs := by
  unfold splice
  rw [List.take_zero, List.nil_append, Nat.zero_add, h, List.drop_length, List.append_nil]

set_option maxHeartbeats 4000000 in
theorem cagive_any {w : World} {base b keep done : Nat} {s : List UInt8} (h : IsCarry w base b keep s done) (hs : s.length ≤ 1000000000) :
    Calls Try.prog 14 #[.pointer (some ⟨b, 0, none⟩)] w fun e w' => e = .returned (.tuple #[]) ∧ IsCarry w' base b keep s done ∧ But w.heap.size b w w' := by
  have H0 := Lib.hid h
  have HF := Lib.hid (fun q => Calls.quiet_of (cafirst_any (h.drewN q) hs))
  have h3 := h.2.2.1
  have h5 := h.2.2.2.2.1
  obtain ⟨v', hp, hb⟩ := cabet_any h hs (done - keep) s.length (by omega) (by omega) (by omega)
  have HB := Lib.hid (fun q => Calls.quiet_of (hb (w.drewN q) rfl))
  rw [midL_whole] at hp
  have hdl : (s.drop (done - keep)).length = s.length - (done - keep) := List.length_drop
  obtain ⟨hbb, hB, _, h4, _, gone, v, h6, hh, hown⟩ := h
  obtain ⟨a, cap, rfl⟩ := owns_slice hown
  obtain ⟨⟨c0, c1, c2, c3⟩, f1, _⟩ := carry_reads hh
  obtain ⟨a', cap', rfl, hp2⟩ := hp.cells
  clear hp
  have hp := hp2
  clear hp2
  rw [hdl] at hp HB
  have HD := Lib.hid hdl
  have HP := Lib.hid hp
  have HO := Lib.hid hown
  have HH := Lib.hid hh
  have hbw := lt_of_heap hh
  obtain ⟨f, hf⟩ : ∃ f, done - keep = f := ⟨_, rfl⟩
  have hfl : f ≤ s.length := by omega
  rw [hf] at HF HB HD HP h6
  have HFE := Lib.hid hf
  obtain ⟨n, hn⟩ : ∃ n, s.length - f = n := ⟨_, rfl⟩
  rw [hn] at HB HD HP
  obtain ⟨L, hL⟩ : ∃ L, s.length - gone = L := ⟨_, rfl⟩
  rw [hL] at c1 HO HH
  have hnl : n ≤ L := by omega
  have hLs : L ≤ 1000000000 := by omega
  have HL := Lib.hid hL
  have HN := Lib.hid hn
  clear hp hb hown hh hdl hf hL hn hs
  by_cases hstay : (L : Int) - (n : Int) ≤ (n : Int)
  · go_enter Try.func14, Try.ntmps14
    go_wp2_with fail
    go_quiet (first | with_reducible exact HF.out _ | with_reducible exact HB.out _)
    go_wp2
    refine bodyPost_ret (results_none rfl _ _ _) rfl ?_
    exact ⟨rfl, H0.out.drewN _, rfl, rfl, rfl, Nat.le_refl _, fun _ _ _ => rfl⟩
  · have hn0 : 0 < n := by
      have := HN.out
      have := HFE.out
      have := HL.out
      omega
    obtain ⟨g, off, rfl, hcap, hc⟩ := HP.out (hn0)
    have HMK := Lib.hid (fun W => ca_make n W (by omega))
    have HC := Lib.hid hc
    clear hc HP
    go_enter Try.func14, Try.ntmps14
    go_wp2_with fail
    go_quiet (first | with_reducible exact HF.out _ | with_reducible exact HB.out _)
    obtain ⟨w2, hw2, hmk⟩ : ∃ w2, w2 = (w.drewN nq).alloc (.cells (List.replicate n (Value.int .u8 0)).toArray 5) ∧ (Instr.makeSlice 36 (.int .i64 (n : Int)) (.int .i64 (n : Int))).run Try.prog (w.drewN nq) = .ok (.slice (some ⟨w.heap.size, 0, none⟩) n n) w2 := ⟨_, rfl, HMK.out (w.drewN nq)⟩
    have hh2 : w2.heap[b]? = some (.cells #[.int .i64 keep, .slice a L cap, .int .i64 s.length, .int .i64 done] 38 (0, 0)) := by
      rw [hw2]
      exact (Lib.alloc_old (w.drewN nq) _ b hbw).trans HH.out
    have hg2 : w2.heap[w.heap.size]? = some (.cells (List.replicate n (Value.int .u8 0)).toArray 5 (0, 0)) := by
      rw [hw2]
      exact heap_alloc_new (w.drewN nq) _
    have HB2 : Hid (Below w.heap.size w w2) := Lib.hid (by rw [hw2]; exact (show Below w.heap.size w (w.drewN nq) from ⟨rfl, rfl, rfl, Nat.le_refl _, fun _ _ => rfl⟩).alloc (Nat.le_refl _) _)
    clear hw2 HMK HF HB c0 c2 c3 f1
    obtain ⟨⟨_, d1, _, _⟩, f1, _⟩ := carry_reads hh2
    have HH2 := Lib.hid hh2
    have HG2 := Lib.hid hg2
    clear hh2 hg2
    go_wp2_with (refine wpList_copy_into rfl (.tmp 31) (.tmp 32) 36 36 rfl 5 Try.underlying36 ca8_size w.heap.size 0 n n ⟨g, off, none⟩ n cap' rfl rfl (List.replicate n (Value.int .u8 0)) 5 ?cg (Lib.byteCells (s.drop f)) ?cn ?cs ?cf ?c1 ?_)
    case cg => exact (put_other (by omega) _).trans HG2.out
    case cn =>
      have := HD.out
      simp only [Lib.byteCells, List.length_map]
      rw [this]
      exact (Nat.min_self n).symm
    case cs =>
      intro j u hu
      have hc := HC.out j u hu
      rw [addPlain] at hc ⊢
      have hlt := World.block_lt_of_cell? w _ hc
      have hgb : g ≠ b := by
        rintro rfl
        simp only [Lib.byteCells, List.getElem?_map, Option.map_eq_some_iff] at hu
        obtain ⟨x, _, rfl⟩ := hu
        exact carry_ne HH.out hc
      rw [World.cell?_of_block (w := w) ((put_other hgb _).trans (HB2.out.block g hlt))]
      exact hc
    case cf =>
      have := HD.out
      simp only [Lib.byteCells, List.length_map, List.length_replicate]
      omega
    case c1 =>
      intro u hu
      simp only [Lib.byteCells, List.mem_map] at hu
      obtain ⟨x, _, rfl⟩ := hu
      rfl
    intro w3 hI hG
    have hG3 : w3.heap[w.heap.size]? = some (.cells (Lib.byteCells (s.drop f)).toArray 5 (0, 0)) := by
      have := hG.out
      rwa [splice_all _ _ (by have := HD.out; simp only [Lib.byteCells, List.length_map, List.length_replicate]; exact this)] at this
    have hH3 : w3.heap[b]? = some (.cells #[.int .i64 keep, .slice (some ⟨w.heap.size, 0, none⟩) n n, .int .i64 s.length, .int .i64 done] 38 (0, 0)) := by
      rw [hI.block b (by omega), put_heap HH2.out]
      simp
    have hbut : But w.heap.size b w w3 := by
      refine ⟨hI.os.trans HB2.out.os, hI.tape.trans HB2.out.tape, hI.output.trans HB2.out.output, ?_, fun k hk hkb => ?_⟩
      · rw [hI.size]
        have := HB2.out.size
        simpa [World.setCell] using this
      · rw [hI.block k (by omega), put_other hkb]
        exact HB2.out.block k hk
    have K1 := Lib.hid hG3
    have K2 := Lib.hid hH3
    have K3 := Lib.hid hbut
    clear hG hI hG3 hH3 hbut hmk HC c1 d1
    go_wp2
    go_end0
    refine ⟨rfl, ⟨hbb, by have := K3.out.size; omega, h3, h4, h5, f, _, by rw [HFE.out]; exact Nat.le_refl _, K2.out, ?_, .inr ⟨w.heap.size, n, _, ?_, hB, K1.out, ?_, ?_, ?_, ?_⟩⟩, K3.out⟩
    · have := HD.out
      have := HN.out
      simp only [Lib.byteCells, List.length_map]
      omega
    · rw [HN.out]
    · have := HN.out
      omega
    · unfold maxLen
      omega
    · have := HD.out
      simp only [Lib.byteCells, List.size_toArray, List.length_map]
      omega
    · have := HD.out
      have := HN.out
      refine List.take_of_length_le ?_
      simp only [Lib.byteCells, List.length_map]
      omega
end Go.Proofs.Ytnjkblifikllbaa
