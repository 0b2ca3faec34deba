/-
  Texts put together: CaQ, LpC, LpL, AfM, PtM, BuM.
-/
import Derived.Test.YtmgcdhcidojdhaaBn1
import Derived.Lib.Bytealg
set_option linter.unusedSimpArgs false
set_option linter.unusedVariables false
namespace Go.Proofs.Ytmgcdhcidojdhaa
open Go.RowKit

set_option maxRecDepth 100000 in
set_option maxHeartbeats 400000 in
theorem capass_nil (e : Int) (w : World) : Calls Try.prog 26 #[.pointer none, .int .i64 e] w fun e w' => e = .returned (.int .i64 1) ∧ w' = w := by
  go_enter Try.func26, Try.ntmps26
  go_wp2
  go_ret
  exact ⟨rfl, rfl⟩
set_option maxRecDepth 100000 in
set_option maxHeartbeats 1000000 in
theorem capass_bad {w : World} {base b keep done : Nat} {s : List UInt8} (h : IsCarry w base b keep s done) (e : Int) (he : e < (done : Int) ∨ (s.length : Int) < e) :
    Calls Try.prog 26 #[.pointer (some ⟨b, 0, none⟩), .int .i64 e] w fun x w' => x = .returned (.int .i64 11) ∧ w' = w := by
  obtain ⟨_, _, h3, h4, h5, gone, v, h6, hh, hown⟩ := h
  obtain ⟨⟨c0, c1, c2, c3⟩, _⟩ := carry_reads hh
  clear h6 hh hown
  by_cases h1 : e < (done : Int)
  · go_enter Try.func26, Try.ntmps26
    go_wp2
    go_ret
    exact ⟨rfl, rfl⟩
  · have h2 : (s.length : Int) < e := by omega
    go_enter Try.func26, Try.ntmps26
    go_wp2
    go_ret
    exact ⟨rfl, rfl⟩
set_option maxRecDepth 100000 in
set_option maxHeartbeats 1000000 in
theorem capass_any {w : World} {base b keep done : Nat} {s : List UInt8} (h : IsCarry w base b keep s done) (hs : s.length ≤ 1000000000) (e : Nat) (h1 : done ≤ e) (h2 : e ≤ s.length) :
    Calls Try.prog 26 #[.pointer (some ⟨b, 0, none⟩), .int .i64 (e : Int)] w fun x w' => x = .returned (.int .i64 0) ∧ IsCarry w' base b keep s e ∧ But w.heap.size b w w' := by
  obtain ⟨hb, hB, h3, h4, h5, gone, v, h6, hh, hown⟩ := h
  have HI : Hid (IsCarry (w.setCell ⟨b, 3, none⟩ (.int .i64 (e : Int))) base b keep s e) := Lib.hid ⟨hb, by simpa [World.setCell] using hB, h3, h4, h2, gone, v, by omega, (put_heap hh _).trans (by simp), ((Into.refl b w).set 3 _).owns hb hown⟩
  have HG := Lib.hid (cagive_any HI.out hs)
  have HN : Hid (But w.heap.size b w (w.setCell ⟨b, 3, none⟩ (.int .i64 (e : Int)))) := Lib.hid ⟨rfl, rfl, rfl, by simp [World.setCell], fun k _ hk => put_other hk _⟩
  have HZ : Hid ((w.setCell ⟨b, 3, none⟩ (.int .i64 (e : Int))).heap.size = w.heap.size) := Lib.hid (by simp [World.setCell])
  obtain ⟨⟨c0, c1, c2, c3⟩, f1, f2, f3⟩ := carry_reads hh
  have k1 : ¬ (e : Int) < (done : Int) := by omega
  have k2 : ¬ (s.length : Int) < (e : Int) := by omega
  clear h6 hh hown h1 h2 h5
  go_enter Try.func26, Try.ntmps26
  go_wp2_with fail
  refine HG.out.mono ?_
  rintro e' w3 ⟨rfl, hi, hbt⟩
  have K1 := Lib.hid hi
  have K2 := Lib.hid (HN.out.trans (by rw [HZ.out] at hbt; exact hbt))
  clear hi hbt HG HI HN HZ c0 c1 c2 c3 f1 f2 f3
  go_wp2
  go_ret
  exact ⟨rfl, K1.out, K2.out⟩
end Go.Proofs.Ytmgcdhcidojdhaa

namespace Go.Proofs.Ytmgcdhcidojdhaa
open Go.RowKit

/-- A carry in block b; v: its slice of bytes. -/
def IsCarV (w : World) (base b : Nat) (v : Value) (keep : Nat) (s : List UInt8) (done : Nat) : Prop :=
  b < base ∧ base ≤ w.heap.size ∧ 1 ≤ keep ∧ keep ≤ 65536 ∧ done ≤ s.length ∧ ∃ (gone : Nat), gone ≤ done - keep ∧
    w.heap[b]? = some (.cells #[.int .i64 keep, v, .int .i64 s.length, .int .i64 done] 53 (0, 0)) ∧
    w.ownsRow base 5 1 v (s.length - gone) (Lib.byteCells (s.drop gone))
theorem IsCarV.car {w : World} {base b keep done : Nat} {s : List UInt8} {v : Value} (h : IsCarV w base b v keep s done) : IsCarry w base b keep s done := by
  obtain ⟨h1, h2, h3, h4, h5, gone, h6⟩ := h
  exact ⟨h1, h2, h3, h4, h5, gone, v, h6⟩
theorem IsCarry.carV {w : World} {base b keep done : Nat} {s : List UInt8} (h : IsCarry w base b keep s done) : ∃ v, IsCarV w base b v keep s done := by
  obtain ⟨h1, h2, h3, h4, h5, gone, v, h6⟩ := h
  exact ⟨v, h1, h2, h3, h4, h5, gone, h6⟩
theorem IsCarV.lt {w : World} {base b keep done : Nat} {s : List UInt8} {v : Value} (h : IsCarV w base b v keep s done) : b < w.heap.size := h.car.lt
theorem IsCarV.row {w : World} {base b keep done : Nat} {s : List UInt8} {v : Value} (h : IsCarV w base b v keep s done) {g : Nat} (hg : v.ownBlock = some g) : base ≤ g ∧ g < w.heap.size := by
  obtain ⟨h1, h2, h3, h4, h5, gone, h6, hh, hown⟩ := h
  exact hown.lt g hg
theorem IsCarV.same {w w' : World} {base b keep done : Nat} {s : List UInt8} {v : Value} (h : IsCarV w base b v keep s done) (hs : w.heap.size ≤ w'.heap.size) (hb : w'.heap[b]? = w.heap[b]?) (hr : ∀ g, v.ownBlock = some g → w'.heap[g]? = w.heap[g]?) : IsCarV w' base b v keep s done := by
  obtain ⟨h1, h2, h3, h4, h5, gone, h6, h7, hl, hx⟩ := h
  refine ⟨h1, by omega, h3, h4, h5, gone, h6, hb.trans h7, hl, ?_⟩
  rcases hx with hx | ⟨g, cap, cur, hv, hg, hh, r⟩
  · exact .inl hx
  · exact .inr ⟨g, cap, cur, hv, hg, (hr g (by rw [hv]; rfl)).trans hh, r⟩
theorem IsCarV.below {w w' : World} {base b keep done : Nat} {s : List UInt8} {v : Value} (h : IsCarV w base b v keep s done) (hb : Below w.heap.size w w') : IsCarV w' base b v keep s done :=
  h.same hb.size (hb.block b h.lt) (fun g hg => hb.block g (h.row hg).2)

set_option maxRecDepth 100000 in
set_option maxHeartbeats 2000000 in
theorem lpadd_any {w : World} {base b keep done : Nat} {s : List UInt8} (h : IsCarry w base b keep s done) (t : List UInt8) (hs : s.length + t.length ≤ 1000000000) :
    Calls Try.prog 7 #[.pointer (some ⟨b, 0, none⟩), .string ⟨t.toArray⟩] w fun e w' => e = .returned (.tuple #[]) ∧ (IsCarry w' base b keep (s ++ t) done ∧ But base b w w') ∧ Kept b 5 w w' := by
  obtain ⟨hb, hB, h3, h4, h5, gone, v, h6, hh, hown⟩ := h
  obtain ⟨i0, hi, hz0, hz1, hz2⟩ := info_parts ca8_info
  obtain ⟨a, cap, rfl⟩ := owns_slice hown
  obtain ⟨⟨c0, c1, c2, c3⟩, _⟩ := carry_reads hh
  have hsz := bsize t
  have HS := Lib.hid hsz
  go_enter Try.func7, Try.ntmps7
  go_wp2_with (at_builtin; refine Lib.wpList_append_own_string _ rfl _ _ 51 9 rfl base 5 i0 Try.underlying51 Try.underlying9 hi hz0 hz1 hz2 _ _ _ rfl hown ⟨t.toArray⟩ rfl ?c3 ?c4 ?c5 ?_)
  case c3 => unfold maxLen; omega
  case c4 => omega
  case c5 => omega
  intro v' w2 hown' hgrow _
  have hbw : b < w.heap.size := lt_of_heap hh
  have hne : ∀ k, k < base → some k ≠ (Value.slice a (s.length - gone) cap).ownBlock := fun k hk e => by have := (hown.lt k e.symm).1; omega
  have hh2 : w2.heap[b]? = some (.cells #[.int .i64 keep, .slice a (s.length - gone) cap, .int .i64 s.length, .int .i64 done] 53 (0, 0)) := (hgrow.block b hbw (hne b hb)).trans hh
  have hb2 : But base b w w2 := ⟨hgrow.os, hgrow.tape, hgrow.output, hgrow.size, fun k hk hkb => hgrow.block k (by omega) (hne k hk)⟩
  have hlen : s.length - gone + (⟨t.toArray⟩ : ByteArray).size = (s ++ t).length - gone := by rw [hsz, List.length_append]; omega
  have hown3 : w2.ownsRow base 5 1 v' ((s ++ t).length - gone) (Lib.byteCells ((s ++ t).drop gone)) := by
    rw [List.drop_append_of_le_length (by omega), cells_app, ← hlen]
    exact hown'
  have HO := Lib.hid hown3
  have HK := Lib.hid ((Kept.refl b 5 w).grown hown hgrow)
  have HB2 := Lib.hid hb2
  have HL : Hid (((s ++ t).length : Int) = (s.length : Int) + (t.length : Int)) := Lib.hid (by rw [List.length_append]; omega)
  clear hgrow hne hown hh c0 c1 c2 c3 hown' hown3 hb2 hlen hsz
  obtain ⟨⟨c0, c1, c2, c3⟩, f1, f2, f3⟩ := carry_reads hh2
  obtain ⟨a', cap', rfl⟩ := owns_slice HO.out
  go_wp2
  go_end0
  refine ⟨rfl, carry_done (gone := gone) hb hB h3 h4 (by have := HL.out; omega) h6 HB2.out (((Into.refl b w2).set 1 _).set 2 _) ?_ HO.out, (HK.out.setCell _ _).setCell _ _⟩
  refine (put_heap (put_heap hh2 _) _).trans ?_
  rw [HL.out]
  simp [HS.out]


set_option maxRecDepth 100000 in
set_option maxHeartbeats 4000000 in
theorem lpgive_any {w : World} {base b keep done : Nat} {s : List UInt8} {v : Value} (hV : IsCarV w base b v keep s done) (hs : s.length ≤ 1000000000) :
    Calls Try.prog 42 #[.pointer (some ⟨b, 0, none⟩)] w fun e w' => e = .returned (.tuple #[]) ∧ (∃ v', IsCarV w' base b v' keep s done ∧ (v'.ownBlock = v.ownBlock ∨ v'.ownBlock = some w.heap.size)) ∧ But w.heap.size b w w' := by
  have h := hV.car
  have H0 := Lib.hid hV
  have HF := Lib.hid (fun q => Calls.quiet_of (cafirst_any (h.drewN q) hs))
  have h3 := h.2.2.1
  have h5 := h.2.2.2.2.1
  obtain ⟨v', hp, hb⟩ := cabet_any h hs (done - keep) s.length (by omega) (by omega) (by omega)
  have HB := Lib.hid (fun q => Calls.quiet_of (hb (w.drewN q) rfl))
  rw [midL_whole] at hp
  have hdl : (s.drop (done - keep)).length = s.length - (done - keep) := List.length_drop
  clear h
  obtain ⟨hbb, hB, _, h4, _, gone, h6, hh, hown⟩ := hV
  obtain ⟨a, cap, rfl⟩ := owns_slice hown
  obtain ⟨⟨c0, c1, c2, c3⟩, f1, _⟩ := carry_reads hh
  obtain ⟨a', cap', rfl, hp2⟩ := hp.cells
  clear hp
  have hp := hp2
  clear hp2
  rw [hdl] at hp HB
  have HD := Lib.hid hdl
  have HP := Lib.hid hp
  have HO := Lib.hid hown
  have HH := Lib.hid hh
  have hbw := lt_of_heap hh
  obtain ⟨f, hf⟩ : ∃ f, done - keep = f := ⟨_, rfl⟩
  have hfl : f ≤ s.length := by omega
  rw [hf] at HF HB HD HP h6
  have HFE := Lib.hid hf
  obtain ⟨n, hn⟩ : ∃ n, s.length - f = n := ⟨_, rfl⟩
  rw [hn] at HB HD HP
  obtain ⟨L, hL⟩ : ∃ L, s.length - gone = L := ⟨_, rfl⟩
  rw [hL] at c1 HO HH
  have hnl : n ≤ L := by omega
  have hLs : L ≤ 1000000000 := by omega
  have HL := Lib.hid hL
  have HN := Lib.hid hn
  clear hp hb hown hh hdl hf hL hn hs
  by_cases hstay : (L : Int) - (n : Int) ≤ (n : Int)
  · go_enter Try.func42, Try.ntmps42
    go_wp2_with fail
    go_quiet (first | with_reducible exact HF.out _ | with_reducible exact HB.out _)
    go_wp2
    refine bodyPost_ret (results_none rfl _ _ _) rfl ?_
    exact ⟨rfl, ⟨_, H0.out, .inl rfl⟩, rfl, rfl, rfl, Nat.le_refl _, fun _ _ _ => rfl⟩
  · have hn0 : 0 < n := by
      have := HN.out
      have := HFE.out
      have := HL.out
      omega
    obtain ⟨g, off, rfl, hcap, hc⟩ := HP.out (hn0)
    have HMK := Lib.hid (fun W => ca_make n W (by omega))
    have HC := Lib.hid hc
    clear hc HP
    go_enter Try.func42, Try.ntmps42
    go_wp2_with fail
    go_quiet (first | with_reducible exact HF.out _ | with_reducible exact HB.out _)
    obtain ⟨w2, hw2, hmk⟩ : ∃ w2, w2 = (w.drewN nq).alloc (.cells (List.replicate n (Value.int .u8 0)).toArray 5) ∧ (Instr.makeSlice 51 (.int .i64 (n : Int)) (.int .i64 (n : Int))).run Try.prog (w.drewN nq) = .ok (.slice (some ⟨w.heap.size, 0, none⟩) n n) w2 := ⟨_, rfl, HMK.out (w.drewN nq)⟩
    have hh2 : w2.heap[b]? = some (.cells #[.int .i64 keep, .slice a L cap, .int .i64 s.length, .int .i64 done] 53 (0, 0)) := by
      rw [hw2]
      exact (Lib.alloc_old (w.drewN nq) _ b hbw).trans HH.out
    have hg2 : w2.heap[w.heap.size]? = some (.cells (List.replicate n (Value.int .u8 0)).toArray 5 (0, 0)) := by
      rw [hw2]
      exact heap_alloc_new (w.drewN nq) _
    have HB2 : Hid (Below w.heap.size w w2) := Lib.hid (by rw [hw2]; exact (show Below w.heap.size w (w.drewN nq) from ⟨rfl, rfl, rfl, Nat.le_refl _, fun _ _ => rfl⟩).alloc (Nat.le_refl _) _)
    clear hw2 HMK HF HB c0 c2 c3 f1
    obtain ⟨⟨_, d1, _, _⟩, f1, _⟩ := carry_reads hh2
    have HH2 := Lib.hid hh2
    have HG2 := Lib.hid hg2
    clear hh2 hg2
    go_wp2_with (refine wpList_copy_into rfl (.tmp 31) (.tmp 32) 51 51 rfl 5 Try.underlying51 ca8_size w.heap.size 0 n n ⟨g, off, none⟩ n cap' rfl rfl (List.replicate n (Value.int .u8 0)) 5 ?cg (Lib.byteCells (s.drop f)) ?cn ?cs ?cf ?c1 ?_)
    case cg => exact (put_other (by omega) _).trans HG2.out
    case cn =>
      have := HD.out
      simp only [Lib.byteCells, List.length_map]
      rw [this]
      exact (Nat.min_self n).symm
    case cs =>
      intro j u hu
      have hc := HC.out j u hu
      rw [addPlain] at hc ⊢
      have hlt := World.block_lt_of_cell? w _ hc
      have hgb : g ≠ b := by
        rintro rfl
        simp only [Lib.byteCells, List.getElem?_map, Option.map_eq_some_iff] at hu
        obtain ⟨x, _, rfl⟩ := hu
        exact carry_ne HH.out hc
      rw [World.cell?_of_block (w := w) ((put_other hgb _).trans (HB2.out.block g hlt))]
      exact hc
    case cf =>
      have := HD.out
      simp only [Lib.byteCells, List.length_map, List.length_replicate]
      omega
    case c1 =>
      intro u hu
      simp only [Lib.byteCells, List.mem_map] at hu
      obtain ⟨x, _, rfl⟩ := hu
      rfl
    intro w3 hI hG
    have hG3 : w3.heap[w.heap.size]? = some (.cells (Lib.byteCells (s.drop f)).toArray 5 (0, 0)) := by
      have := hG.out
      rwa [splice_all _ _ (by have := HD.out; simp only [Lib.byteCells, List.length_map, List.length_replicate]; exact this)] at this
    have hH3 : w3.heap[b]? = some (.cells #[.int .i64 keep, .slice (some ⟨w.heap.size, 0, none⟩) n n, .int .i64 s.length, .int .i64 done] 53 (0, 0)) := by
      rw [hI.block b (by omega), put_heap HH2.out]
      simp
    have hbut : But w.heap.size b w w3 := by
      refine ⟨hI.os.trans HB2.out.os, hI.tape.trans HB2.out.tape, hI.output.trans HB2.out.output, ?_, fun k hk hkb => ?_⟩
      · rw [hI.size]
        have := HB2.out.size
        simpa [World.setCell] using this
      · rw [hI.block k (by omega), put_other hkb]
        exact HB2.out.block k hk
    have K1 := Lib.hid hG3
    have K2 := Lib.hid hH3
    have K3 := Lib.hid hbut
    clear hG hI hG3 hH3 hbut hmk HC c1 d1
    go_wp2
    go_end0
    refine ⟨rfl, ⟨_, ⟨hbb, by have := K3.out.size; omega, h3, h4, h5, f, by rw [HFE.out]; exact Nat.le_refl _, K2.out, ?_, .inr ⟨w.heap.size, n, _, ?_, hB, K1.out, ?_, ?_, ?_, ?_⟩⟩, .inr rfl⟩, K3.out⟩
    · have := HD.out
      have := HN.out
      simp only [Lib.byteCells, List.length_map]
      omega
    · rw [HN.out]
    · have := HN.out
      omega
    · unfold maxLen
      omega
    · have := HD.out
      simp only [Lib.byteCells, List.size_toArray, List.length_map]
      omega
    · have := HD.out
      have := HN.out
      refine List.take_of_length_le ?_
      simp only [Lib.byteCells, List.length_map]
      omega

set_option maxRecDepth 100000 in
set_option maxHeartbeats 1000000 in
theorem lppass_any {w : World} {base b keep done : Nat} {s : List UInt8} {v : Value} (h : IsCarV w base b v keep s done) (hs : s.length ≤ 1000000000) (e : Nat) (h1 : done ≤ e) (h2 : e ≤ s.length) :
    Calls Try.prog 26 #[.pointer (some ⟨b, 0, none⟩), .int .i64 (e : Int)] w fun x w' => x = .returned (.int .i64 0) ∧ (∃ v', IsCarV w' base b v' keep s e ∧ (v'.ownBlock = v.ownBlock ∨ v'.ownBlock = some w.heap.size)) ∧ But w.heap.size b w w' := by
  obtain ⟨hb, hB, h3, h4, h5, gone, h6, hh, hown⟩ := h
  have HI : Hid (IsCarV (w.setCell ⟨b, 3, none⟩ (.int .i64 (e : Int))) base b v keep s e) := Lib.hid ⟨hb, by simpa [World.setCell] using hB, h3, h4, h2, gone, by omega, (put_heap hh _).trans (by simp), ((Into.refl b w).set 3 _).owns hb hown⟩
  have HG := Lib.hid (lpgive_any HI.out hs)
  have HN : Hid (But w.heap.size b w (w.setCell ⟨b, 3, none⟩ (.int .i64 (e : Int)))) := Lib.hid ⟨rfl, rfl, rfl, by simp [World.setCell], fun k _ hk => put_other hk _⟩
  have HZ : Hid ((w.setCell ⟨b, 3, none⟩ (.int .i64 (e : Int))).heap.size = w.heap.size) := Lib.hid (by simp [World.setCell])
  obtain ⟨⟨c0, c1, c2, c3⟩, f1, f2, f3⟩ := carry_reads hh
  have k1 : ¬ (e : Int) < (done : Int) := by omega
  have k2 : ¬ (s.length : Int) < (e : Int) := by omega
  clear h6 hh hown h1 h2 h5
  go_enter Try.func26, Try.ntmps26
  go_wp2_with fail
  refine HG.out.mono ?_
  rintro e' w3 ⟨rfl, hi, hbt⟩
  rw [HZ.out] at hi
  have K1 := Lib.hid hi
  have K2 := Lib.hid (HN.out.trans (by rw [HZ.out] at hbt; exact hbt))
  clear hi hbt HG HI HN HZ c0 c1 c2 c3 f1 f2 f3
  go_wp2
  go_ret
  exact ⟨rfl, K1.out, K2.out⟩
end Go.Proofs.Ytmgcdhcidojdhaa

namespace Go.Proofs.Ytmgcdhcidojdhaa
open Go.RowKit

theorem Save.refl (b : Nat) (r : Option Nat) (w : World) : Save b r w w := ⟨rfl, rfl, rfl, Nat.le_refl _, fun _ _ _ _ => rfl⟩
theorem Save.drewN {b : Nat} {r : Option Nat} {w w' : World} (h : Save b r w w') (n : Nat) : Save b r w (w'.drewN n) := ⟨h.os, h.tape, h.output, h.size, h.block⟩
theorem Save.trans {b : Nat} {r q : Option Nat} {u v w : World} (h : Save b r u v) (k : Save b q v w) (hq : q = r ∨ ∃ g, q = some g ∧ u.heap.size ≤ g) : Save b r u w :=
  ⟨k.os.trans h.os, k.tape.trans h.tape, k.output.trans h.output, Nat.le_trans h.size k.size, fun i hi h1 h2 => by
    rw [k.block i (by have := h.size; omega) h1 ?_]
    · exact h.block i hi h1 h2
    · rcases hq with rfl | ⟨g, rfl, hg⟩
      · exact h2
      · intro e
        injection e with e
        omega⟩
/-- What lies apart from a builder's two blocks. -/
def Apart (X : Nat) (r : Option Nat) (b : Nat) (v : Value) : Prop := b ≠ X ∧ some b ≠ r ∧ ∀ g, v.ownBlock = some g → g ≠ X ∧ some g ≠ r
theorem IsCarV.save {w w' : World} {base b keep done X : Nat} {r : Option Nat} {s : List UInt8} {v : Value} (h : IsCarV w base b v keep s done) (hs : Save X r w w') (ha : Apart X r b v) : IsCarV w' base b v keep s done :=
  h.same hs.size (hs.block b h.lt ha.1 ha.2.1) (fun g hg => hs.block g (h.row hg).2 (ha.2.2 g hg).1 (ha.2.2 g hg).2)

theorem byK_at {s : List UInt8} {done keep e : Nat} (h1 : done - keep < e + 1) (h2 : e < s.length) : byK s done keep ((e + 1 : Nat) : Int) = some s[e] := by
  unfold byK
  rw [if_pos (by omega), show (((e + 1 : Nat) : Int) - 1).toNat = e by omega]
  exact List.getElem?_eq_getElem h2
theorem midL_next (s : List UInt8) (f j : Nat) (h : f + j < s.length) : midL s f (f + j + 1) = midL s f (f + j) ++ [s[f + j]] := by
  refine List.ext_getElem? fun i => ?_
  have hl := midL_length s f (f + j) (by omega)
  rcases Nat.lt_trichotomy i j with h1 | h1 | h1
  · rw [midL_get s f (f + j + 1) i (by omega) (by omega), List.getElem?_append_left (by omega), midL_get s f (f + j) i (by omega) (by omega)]
  · subst h1
    rw [midL_get s f (f + i + 1) i (by omega) (by omega), List.getElem?_append_right (by omega), hl, show i - (f + i - f) = 0 by omega]
    exact List.getElem?_eq_getElem h
  · have h2 := midL_length s f (f + j + 1) (by omega)
    rw [List.getElem?_eq_none (by omega), List.getElem?_eq_none (by rw [List.length_append, hl]; simp; omega)]

set_option maxRecDepth 100000 in
set_option maxHeartbeats 4000000 in
theorem lplay_any {w : World} {B X base b keep done : Nat} {v vC : Value} {l s : List UInt8} (ht : IsText w B X v l) (hc : IsCarV w base b vC keep s done) (ha : Apart X v.ownBlock b vC) (hl : l.length + s.length ≤ 1000000) (f t : Nat) (h1 : done ≤ f + keep) (hf : f ≤ s.length) (htl : t ≤ 1000000000) :
    Calls Try.prog 25 #[.pointer (some ⟨X, 0, none⟩), .pointer (some ⟨b, 0, none⟩), .int .i64 (f : Int), .int .i64 (t : Int)] w fun E w' => E = .returned (.tuple #[]) ∧ ∃ v', IsText w' B X v' (l ++ midL s f (max f (min t s.length))) ∧ (v'.ownBlock = v.ownBlock ∨ ∃ g, v'.ownBlock = some g ∧ w.heap.size ≤ g) ∧ Save X v.ownBlock w w' := by
  have HT := Lib.hid ht
  have HC := Lib.hid hc
  have HA := Lib.hid ha
  obtain ⟨M, hM⟩ : ∃ M : Nat, min t s.length = M := ⟨_, rfl⟩
  have hM2 : min (t : Int) (s.length : Int) = (M : Int) := by omega
  have hMs : M ≤ s.length := by omega
  have wE : IntKind.i64.wrap ((f : Int) + 1) = ((f + 1 : Nat) : Int) := by rw [IntKind.wrap_i64]; omega
  have hBX := ht.1
  have hXw := ht.lt
  rw [hM]
  clear ht hc ha
  go_enter Try.func25, Try.ntmps25
  go_wp2_with fail
  go_loopw [8] (fun i wr => ∃ (j : Nat) (vj : Value), f + j ≤ max f M ∧ i = .int .i64 ((f + j + 1 : Nat) : Int) ∧ Hid (IsText wr B X vj (l ++ midL s f (f + j)) ∧ (vj.ownBlock = v.ownBlock ∨ ∃ g, vj.ownBlock = some g ∧ w.heap.size ≤ g) ∧ Save X v.ownBlock w wr)) (fun i _ => 2000000001 - (RowKit.intOf i).toNat)
  case atStart =>
    exact ⟨0, v, by omega, rfl, Lib.hid ⟨by rw [Nat.add_zero, midL_none, List.append_nil]; exact HT.out, .inl rfl, Save.refl _ _ _⟩⟩
  case round =>
    obtain ⟨j, vj, hj, rfl, HR⟩ := hrel
    have hCr : IsCarV wr base b vC keep s done := HC.out.save HR.out.2.2 HA.out
    have HS := Lib.hid (caseen_any hCr.car)
    by_cases hlt : f + j < M
    · have HB := Lib.hid (cabyte_any hCr.car (by omega) ((f + j + 1 : Nat) : Int))
      rw [byK_at (by omega) (by omega)] at HB
      dsimp only [byR, cvR] at HB
      have hnx := midL_next s f j (by omega)
      obtain ⟨c, hcc⟩ : ∃ c, s[f + j]'(by omega) = c := ⟨_, rfl⟩
      rw [hcc] at HB hnx
      have hin := HR.out.1
      have hsi := HR.out.2.2.size
      have HW : Hid (∀ q, Calls Try.prog 41 #[.pointer (some ⟨X, 0, none⟩), .int .u8 (c.toNat : Int)] (wr.drewN q) fun e w' => e = .returned .nilIface ∧ ∃ v', IsText w' B X v' (l ++ midL s f (f + j + 1)) ∧ (v'.ownBlock = vj.ownBlock ∨ ∃ g, v'.ownBlock = some g ∧ wr.heap.size ≤ g) ∧ Save X vj.ownBlock wr w') := by
        rw [hnx, ← List.append_assoc]
        refine Lib.hid fun q => (lpbyte_any (w := wr.drewN q) c hin (by rw [List.length_append, midL_length _ _ _ (by omega)]; omega) (show B ≤ wr.heap.size by omega)).mono ?_
        rintro E w' ⟨rfl, v', h1, h2, h3⟩
        exact ⟨rfl, v', h1, h2, h3.os, h3.tape, h3.output, h3.size, h3.block⟩
      clear hnx hin hsi
      have u1 : ((f + j + 1 : Nat) : Int) ≤ (M : Int) := by omega
      have HJ : Hid (f + (j + 1) ≤ max f M) := Lib.hid (by omega)
      have hbig : f + j + 1 ≤ 1000000000 := by omega
      go_wp2_with fail
      refine HS.out.mono ?_
      rintro E w' ⟨rfl, hw⟩
      obtain rfl := hw.symm
      clear hw
      go_wp2_with fail
      try rw [hM2]
      refine HB.out.mono ?_
      rintro E w' ⟨rfl, q, rfl⟩
      go_wp2_with fail
      refine (HW.out q).mono ?_
      rintro E w2 ⟨rfl, v2, h1, h2, h3⟩
      have HR2 : Hid (IsText w2 B X v2 (l ++ midL s f (f + (j + 1))) ∧ (v2.ownBlock = v.ownBlock ∨ ∃ g, v2.ownBlock = some g ∧ w.heap.size ≤ g) ∧ Save X v.ownBlock w w2) := by
        obtain ⟨g1, g2, g3⟩ := HR.out
        refine Lib.hid ⟨h1, ?_, g3.trans h3 g2⟩
        rcases h2 with h2 | ⟨g, h2, hg⟩
        · rw [h2]; exact g2
        · exact .inr ⟨g, h2, Nat.le_trans g3.size hg⟩
      clear h1 h2 h3 HB HW HS HR
      go_wp2
      have hj9 := HJ.out
      refine ⟨⟨j + 1, v2, hj9, by go_num, HR2.out⟩, by simp [RowKit.intOf]; omega⟩
    · have u1 : ¬ ((f + j + 1 : Nat) : Int) ≤ (M : Int) := by omega
      have hjm : f + j = max f M := by omega
      have HF := Lib.hid HR.out
      rw [hjm] at HF
      clear HR
      go_wp2_with fail
      refine HS.out.mono ?_
      rintro E w' ⟨rfl, hw⟩
      obtain rfl := hw.symm
      clear hw
      go_wp2_with fail
      try rw [hM2]
      go_end0
      exact ⟨rfl, vj, HF.out.1, HF.out.2.1, HF.out.2.2⟩
end Go.Proofs.Ytmgcdhcidojdhaa

namespace Go.Proofs.Ytmgcdhcidojdhaa
open Go.Lib

/-- With how many bytes two texts begin alike. -/
def preL : List UInt8 → List UInt8 → Nat
  | a :: x, b :: y => if a = b then preL x y + 1 else 0
  | _, _ => 0

theorem preL_nil (b : List UInt8) : preL [] b = 0 := by cases b <;> rfl
theorem preL_nil' (a : List UInt8) : preL a [] = 0 := by cases a <;> rfl
theorem preL_cons (a : UInt8) (x : List UInt8) (b : UInt8) (y : List UInt8) : preL (a :: x) (b :: y) = if a = b then preL x y + 1 else 0 := rfl

theorem preL_le : ∀ (a b : List UInt8), preL a b ≤ a.length ∧ preL a b ≤ b.length
  | [], b => by simp [preL_nil]
  | _ :: _, [] => by simp [preL_nil']
  | a :: x, b :: y => by
    have := preL_le x y
    rw [preL_cons]
    split <;> simp <;> omega

/-- So far they are alike, and no farther. -/
theorem preL_is : ∀ (a b : List UInt8) (n : Nat), n ≤ a.length → n ≤ b.length → (∀ i, i < n → a[i]? = b[i]?) → (n = a.length ∨ n = b.length ∨ a[n]? ≠ b[n]?) → preL a b = n
  | [], b, n, h1, _, _, _ => by simp at h1; rw [preL_nil, h1]
  | _ :: _, [], n, _, h2, _, _ => by simp at h2; rw [preL_nil', h2]
  | a :: x, b :: y, 0, _, _, _, h => by
    rw [preL_cons]
    by_cases e : a = b
    · subst e; simp at h
    · rw [if_neg e]
  | a :: x, b :: y, n + 1, h1, h2, h3, h4 => by
    have e : a = b := by simpa using h3 0 (by omega)
    subst e
    rw [preL_cons, if_pos rfl, preL_is x y n (by simpa using h1) (by simpa using h2) (fun i hi => by simpa using h3 (i + 1) (by omega)) (by simpa using h4)]

theorem preL_whole : ∀ (a b : List UInt8), (preL a b = b.length) ↔ b <+: a
  | a, [] => by simp [preL_nil']
  | [], b :: y => by simp [preL_nil]
  | a :: x, b :: y => by
    rw [preL_cons, List.cons_prefix_cons]
    by_cases e : a = b
    · subst e; simp [preL_whole x y]
    · have e' : ¬ b = a := fun h => e h.symm
      simp [e, e']

theorem preL_self (a : List UInt8) : preL a a = a.length := (preL_whole a a).2 (List.prefix_refl a)

/-- With how many bytes two texts end alike. -/
def sufL (a b : List UInt8) : Nat := preL a.reverse b.reverse
theorem sufL_le (a b : List UInt8) : sufL a b ≤ a.length ∧ sufL a b ≤ b.length := by
  have := preL_le a.reverse b.reverse
  simpa [sufL] using this
theorem sufL_whole (a b : List UInt8) : (sufL a b = b.length) ↔ b <:+ a := by
  have := preL_whole a.reverse b.reverse
  simpa [sufL, List.reverse_prefix] using this
theorem sufL_is (a b : List UInt8) (n : Nat) (h1 : n ≤ a.length) (h2 : n ≤ b.length) (h3 : ∀ i, i < n → a[a.length - 1 - i]? = b[b.length - 1 - i]?)
    (h4 : n = a.length ∨ n = b.length ∨ a[a.length - 1 - n]? ≠ b[b.length - 1 - n]?) : sufL a b = n := by
  refine preL_is a.reverse b.reverse n (by simpa using h1) (by simpa using h2) (fun i hi => ?_) ?_
  · rw [List.getElem?_reverse (by omega), List.getElem?_reverse (by omega)]
    exact h3 i hi
  · by_cases ha : n = a.length
    · exact .inl (by simpa using ha)
    · by_cases hb : n = b.length
      · exact .inr (.inl (by simpa using hb))
      · refine .inr (.inr ?_)
        rw [List.getElem?_reverse (by omega), List.getElem?_reverse (by omega)]
        rcases h4 with h4 | h4 | h4
        · exact absurd h4 ha
        · exact absurd h4 hb
        · exact h4

/-- The order, as the model says it. -/
theorem less_eq : ∀ (x y : List UInt8), Op.bytesLess x y = decide (x < y)
  | [], [] => by simp [Op.bytesLess]
  | _ :: _, [] => by simp [Op.bytesLess]
  | [], _ :: _ => by simp [Op.bytesLess]
  | a :: x, b :: y => by
    rw [Op.bytesLess, less_eq x y]
    simp only [List.cons_lt_cons_iff]
    by_cases h1 : a < b <;> by_cases h2 : a = b <;> by_cases h3 : x < y <;> simp [h1, h2, h3]

theorem cmp_cases : ∀ (x y : List UInt8), (x < y ∧ compareBytes x y = -1) ∨ (x = y ∧ compareBytes x y = 0) ∨ (y < x ∧ compareBytes x y = 1)
  | [], [] => by simp [compareBytes]
  | [], _ :: _ => by simp [compareBytes]
  | _ :: _, [] => by simp [compareBytes]
  | a :: x, b :: y => by
    unfold compareBytes
    by_cases h1 : a < b
    · simp [List.cons_lt_cons_iff, h1]
    · by_cases h2 : b < a
      · simp [List.cons_lt_cons_iff, h1, h2]
      · have e : a = b := UInt8.le_antisymm (UInt8.not_lt.1 h2) (UInt8.not_lt.1 h1)
        subst e
        have := cmp_cases x y
        simpa [List.cons_lt_cons_iff, h1] using this

theorem cmp_neg (x y : List UInt8) : compareBytes x y < 0 ↔ x < y := by
  rcases cmp_cases x y with ⟨h, e⟩ | ⟨h, e⟩ | ⟨h, e⟩
  · simp [h, e]
  · subst h; simp [e, List.lt_irrefl]
  · simp [e]; exact fun h' => List.lt_irrefl x (List.lt_trans h' h)
theorem cmp_zero (x y : List UInt8) : compareBytes x y = 0 ↔ x = y := by
  rcases cmp_cases x y with ⟨h, e⟩ | ⟨h, e⟩ | ⟨h, e⟩
  · rw [e]; simp; intro h'; subst h'; exact List.lt_irrefl x h
  · exact ⟨fun _ => h, fun _ => e⟩
  · rw [e]; simp; intro h'; subst h'; exact List.lt_irrefl x h
theorem cmp_swap (x y : List UInt8) : compareBytes y x = - compareBytes x y := by
  rcases cmp_cases x y with ⟨h, e⟩ | ⟨h, e⟩ | ⟨h, e⟩ <;> rcases cmp_cases y x with ⟨h', e'⟩ | ⟨h', e'⟩ | ⟨h', e'⟩ <;> rw [e, e'] <;> try rfl
  · exact absurd (List.lt_trans h h') (List.lt_irrefl x)
  · subst h'; exact absurd h (List.lt_irrefl _)
  · subst h; exact absurd h' (List.lt_irrefl _)
  · subst h; exact absurd h' (List.lt_irrefl _)
  · subst h'; exact absurd h (List.lt_irrefl _)
  · exact absurd (List.lt_trans h h') (List.lt_irrefl _)
theorem cmp_le (x y : List UInt8) : compareBytes x y ≤ 0 ↔ x ≤ y := by
  rw [← List.not_lt, ← cmp_neg y x, cmp_swap x y]; omega
theorem cmp_trans (x y z : List UInt8) (h1 : compareBytes x y ≤ 0) (h2 : compareBytes y z ≤ 0) : compareBytes x z ≤ 0 := by
  rw [cmp_le] at *; exact List.le_trans h1 h2

/-- Between two texts none shares less with the second one than they do. -/
theorem pre_mid : ∀ (a b d : List UInt8), compareBytes a b ≤ 0 → compareBytes b d ≤ 0 → preL a d ≤ preL a b ∧ preL a d ≤ preL b d
  | [], b, d, _, _ => by simp [preL_nil]
  | x :: a, b, [], _, _ => by simp [preL_nil']
  | x :: a, [], z :: d, h, _ => by simp [compareBytes] at h
  | x :: a, y :: b, z :: d, h1, h2 => by
    rw [preL_cons]
    by_cases e : x = z
    · subst e
      rw [if_pos rfl]
      unfold compareBytes at h1 h2
      by_cases hxy : x < y
      · have hyx : ¬ y < x := UInt8.lt_asymm hxy
        rw [if_neg hyx, if_pos hxy] at h2
        omega
      · rw [if_neg hxy] at h1
        by_cases hyx : y < x
        · rw [if_pos hyx] at h1; omega
        · have e : x = y := UInt8.le_antisymm (UInt8.not_lt.1 hyx) (UInt8.not_lt.1 hxy)
          subst e
          rw [if_neg hyx] at h1
          rw [if_neg hyx, if_neg hyx] at h2
          have := pre_mid a b d h1 h2
          rw [preL_cons, preL_cons, if_pos rfl, if_pos rfl]
          omega
    · rw [if_neg e]
      omega

/-- Texts in order. -/
def Asc (ws : List (List UInt8)) : Prop := ws.Pairwise fun x y => compareBytes x y ≤ 0

theorem Asc.at {ws : List (List UInt8)} (h : Asc ws) {i j : Nat} {a b : List UInt8} (hij : i ≤ j) (ha : ws[i]? = some a) (hb : ws[j]? = some b) : compareBytes a b ≤ 0 := by
  obtain ⟨hi, rfl⟩ := List.getElem?_eq_some_iff.1 ha
  obtain ⟨hj, rfl⟩ := List.getElem?_eq_some_iff.1 hb
  rcases Nat.lt_or_ge i j with h' | h'
  · exact List.pairwise_iff_getElem.1 h i j hi hj h'
  · have : i = j := by omega
    subst this
    rw [(cmp_zero _ _).2 rfl]; omega

/-- Of texts in order two share no more than each two neighbours between them. -/
theorem Asc.share {ws : List (List UInt8)} (h : Asc ws) {i j k : Nat} {a b c d : List UInt8} (hij : i ≤ j) (hjk : j + 1 ≤ k) (ha : ws[i]? = some a) (hb : ws[j]? = some b) (hc : ws[j + 1]? = some c) (hd : ws[k]? = some d) :
    preL a d ≤ preL b c :=
  Nat.le_trans (pre_mid a b d (h.at hij ha hb) (h.at (by omega) hb hd)).2 (pre_mid b c d (h.at (by omega) hb hc) (h.at hjk hc hd)).1

/-- The texts, in order. -/
def srt (ws : List (List UInt8)) : List (List UInt8) := ws.mergeSort fun x y => decide (x ≤ y)
theorem srt_perm (ws : List (List UInt8)) : (srt ws).Perm ws := List.mergeSort_perm ws _
theorem srt_length (ws : List (List UInt8)) : (srt ws).length = ws.length := (srt_perm ws).length_eq
theorem srt_asc (ws : List (List UInt8)) : Asc (srt ws) := by
  have h := List.pairwise_mergeSort (le := fun (x y : List UInt8) => decide (x ≤ y)) (fun a b c h1 h2 => by simp only [decide_eq_true_eq] at *; exact List.le_trans h1 h2)
    (fun a b => by simp only [Bool.or_eq_true, decide_eq_true_eq]; exact List.le_total a b) ws
  exact h.imp fun {a b} hab => (cmp_le a b).2 (by simpa using hab)
theorem asc_unique {l m : List (List UInt8)} (hl : Asc l) (hm : Asc m) (hp : l.Perm m) : l = m :=
  List.Perm.eq_of_pairwise (le := fun x y => compareBytes x y ≤ 0) (fun a b _ _ h1 h2 => by
    rw [cmp_swap a b] at h2
    exact (cmp_zero a b).1 (by omega)) hl hm hp

/-- One more, put where it belongs. -/
def posS (out : List (List UInt8)) (x : List UInt8) : Nat → Nat
  | 0 => 0
  | k + 1 => match out[k]? with
    | some t => if Op.bytesLess x t then posS out x k else k + 1
    | none => k + 1
def insS (out : List (List UInt8)) (x : List UInt8) : List (List UInt8) := out.take (posS out x out.length) ++ ([x] ++ out.drop (posS out x out.length))
theorem posS_le (out : List (List UInt8)) (x : List UInt8) : ∀ k, posS out x k ≤ k
  | 0 => Nat.le_refl _
  | k + 1 => by
    unfold posS
    have := posS_le out x k
    split
    · split <;> omega
    · omega
theorem posS_hit {out : List (List UInt8)} {x t : List UInt8} {k : Nat} (h : out[k]? = some t) (hl : Op.bytesLess x t = true) : posS out x (k + 1) = posS out x k := by
  rw [posS, h]; simp [hl]
theorem posS_miss {out : List (List UInt8)} {x t : List UInt8} {k : Nat} (h : out[k]? = some t) (hl : Op.bytesLess x t = false) : posS out x (k + 1) = k + 1 := by
  rw [posS, h]; simp [hl]

theorem insS_perm (out : List (List UInt8)) (x : List UInt8) : (insS out x).Perm (x :: out) := by
  unfold insS
  rw [List.singleton_append]
  refine List.perm_middle.trans ?_
  rw [List.take_append_drop]

theorem posS_spec (out : List (List UInt8)) (x : List UInt8) : ∀ k, k ≤ out.length → (∀ t, posS out x k ≠ 0 → out[posS out x k - 1]? = some t → compareBytes t x ≤ 0) ∧ (∀ i t, posS out x k ≤ i → i < k → out[i]? = some t → compareBytes x t ≤ 0)
  | 0, _ => by refine ⟨fun t h => absurd rfl h, fun i t _ h => by omega⟩
  | k + 1, hk => by
    have hlt : k < out.length := by omega
    have he : out[k]? = some out[k] := List.getElem?_eq_getElem hlt
    cases hl : Op.bytesLess x out[k] with
    | true =>
      rw [posS_hit he hl]
      have ih := posS_spec out x k (by omega)
      refine ⟨ih.1, fun i t h1 h2 h3 => ?_⟩
      by_cases hi : i < k
      · exact ih.2 i t h1 hi h3
      · have : i = k := by omega
        subst this
        rw [he] at h3
        obtain rfl := Option.some.inj h3
        rw [less_eq] at hl
        have := (cmp_neg x out[i]).2 (by simpa using hl)
        omega
    | false =>
      rw [posS_miss he hl]
      refine ⟨fun t _ h => ?_, fun i t h1 h2 => by omega⟩
      rw [Nat.add_sub_cancel, he] at h
      obtain rfl := Option.some.inj h
      rw [less_eq] at hl
      exact (cmp_le _ _).2 (List.not_lt.1 (by simpa using hl))

theorem insS_asc {out : List (List UInt8)} (h : Asc out) (x : List UInt8) : Asc (insS out x) := by
  have hp := posS_le out x out.length
  have hs := posS_spec out x out.length (Nat.le_refl _)
  unfold insS
  generalize posS out x out.length = p at *
  have hbef : ∀ a ∈ out.take p, compareBytes a x ≤ 0 := fun a ha => by
    obtain ⟨i, hi, rfl⟩ := List.getElem_of_mem ha
    have hi' : i < p ∧ i < out.length := by rw [List.length_take] at hi; omega
    rw [List.getElem_take]
    have h1 := h.at (i := i) (j := p - 1) (by omega) (List.getElem?_eq_getElem hi'.2) (List.getElem?_eq_getElem (by omega))
    exact cmp_trans _ _ _ h1 (hs.1 _ (by omega) (List.getElem?_eq_getElem (by omega)))
  have haft : ∀ b ∈ out.drop p, compareBytes x b ≤ 0 := fun b hb => by
    obtain ⟨i, hi, rfl⟩ := List.getElem_of_mem hb
    rw [List.length_drop] at hi
    rw [List.getElem_drop]
    exact hs.2 (p + i) _ (by omega) (by omega) (List.getElem?_eq_getElem (by omega))
  unfold Asc
  rw [List.pairwise_append]
  refine ⟨h.sublist (List.take_sublist _ _), ?_, fun a ha b hb => ?_⟩
  · rw [List.singleton_append, List.pairwise_cons]
    exact ⟨haft, h.sublist (List.drop_sublist _ _)⟩
  · rw [List.singleton_append, List.mem_cons] at hb
    rcases hb with rfl | hb
    · exact hbef a ha
    · exact cmp_trans _ _ _ (hbef a ha) (haft b hb)

theorem ins_all : ∀ (ws out : List (List UInt8)), Asc out → Asc (ws.foldl insS out) ∧ (ws.foldl insS out).Perm (ws ++ out)
  | [], out, h => ⟨h, List.Perm.refl _⟩
  | x :: r, out, h => by
    have ih := ins_all r (insS out x) (insS_asc h x)
    refine ⟨ih.1, ih.2.trans ?_⟩
    refine (List.Perm.append_left r (insS_perm out x)).trans ?_
    exact List.perm_middle
theorem ins_srt (ws : List (List UInt8)) : ws.foldl insS [] = srt ws := by
  have h := ins_all ws [] List.Pairwise.nil
  rw [List.append_nil] at h
  exact asc_unique h.1 (srt_asc ws) (h.2.trans (srt_perm ws).symm)

/-- How many of texts come ahead of one. -/
def ahdS (s : List UInt8) (ws : List (List UInt8)) : Nat := ws.countP fun x => decide (compareBytes x s < 0)
theorem ahd_snoc {ws : List (List UInt8)} {k : Nat} {t : List UInt8} (s : List UInt8) (h : ws[k]? = some t) : ahdS s (ws.take (k + 1)) = ahdS s (ws.take k) + (if Op.bytesLess t s then 1 else 0) := by
  obtain ⟨hk, rfl⟩ := List.getElem?_eq_some_iff.1 h
  unfold ahdS
  rw [List.take_succ_eq_append_getElem hk, List.countP_append, List.countP_singleton, less_eq]
  simp only [cmp_neg, decide_eq_true_eq]
theorem ahd_le (s : List UInt8) (ws : List (List UInt8)) : ahdS s ws ≤ ws.length := List.countP_le_length
theorem mem_snoc {ws : List (List UInt8)} {k : Nat} {t : List UInt8} (s : List UInt8) (h : ws[k]? = some t) : decide (s ∈ ws.take (k + 1)) = (decide (s ∈ ws.take k) || (t == s)) := by
  obtain ⟨hk, rfl⟩ := List.getElem?_eq_some_iff.1 h
  rw [List.take_succ_eq_append_getElem hk]
  have e : ∀ a b : List UInt8, (a == b) = decide (b = a) := fun a b => by
    rw [Bool.eq_iff_iff]; simp; exact eq_comm
  rw [e, Bool.eq_iff_iff]
  simp only [List.mem_append, List.mem_singleton, decide_eq_true_eq, Bool.or_eq_true]

/-- What a search tells of texts in order. -/
theorem find_there {s : List UInt8} : ∀ {ws : List (List UInt8)}, Asc ws → (decide (ahdS s ws < ws.length) && decide (compareBytes (ws[ahdS s ws]?.getD []) s = 0)) = decide (s ∈ ws)
  | [], _ => by simp [ahdS]
  | x :: r, h => by
    have hr : Asc r := (List.pairwise_cons.1 h).2
    have hx := (List.pairwise_cons.1 h).1
    by_cases hlt : compareBytes x s < 0
    · have e : ahdS s (x :: r) = ahdS s r + 1 := by
        unfold ahdS; rw [List.countP_cons_of_pos (by simpa using hlt)]
      rw [e]
      have ih := find_there (s := s) hr
      have hne : s ≠ x := fun he => by subst he; rw [(cmp_zero s s).2 rfl] at hlt; omega
      simpa [hne] using ih
    · have e : ahdS s (x :: r) = 0 := by
        unfold ahdS
        rw [List.countP_eq_zero]
        intro y hy
        simp only [decide_eq_true_eq]
        rw [List.mem_cons] at hy
        rcases hy with rfl | hy
        · exact hlt
        · have h1 := hx y hy
          intro h2
          have := cmp_trans _ _ _ h1 (Int.le_of_lt h2)
          have h3 : compareBytes x s = 0 := by omega
          have h4 := (cmp_zero x s).1 h3
          subst h4
          have h5 : compareBytes x y = 0 := by rw [cmp_swap x y] at h2; omega
          have h6 := (cmp_zero x y).1 h5
          subst h6
          omega
      rw [e]
      by_cases hs : compareBytes x s = 0
      · have := (cmp_zero x s).1 hs
        subst this
        simp [hs]
      · have hne : s ≠ x := fun he => by subst he; exact hs ((cmp_zero s s).2 rfl)
        have hnr : s ∉ r := fun hm => by have := hx s hm; omega
        simp [hs, hne, hnr]

theorem ahd_mono {s : List UInt8} {ws : List (List UInt8)} (h : Asc ws) {i j : Nat} {a b : List UInt8} (hij : i ≤ j) (ha : ws[i]? = some a) (hb : ws[j]? = some b) (hlt : compareBytes b s < 0) : compareBytes a s < 0 := by
  have h1 := h.at hij ha hb
  have h2 := cmp_trans _ _ _ h1 (Int.le_of_lt hlt)
  rcases Int.lt_or_eq_of_le h2 with h3 | h3
  · exact h3
  · have := (cmp_zero a s).1 h3
    subst this
    rw [cmp_swap b a] at h1
    omega

/-- The place of the first text that is there again. -/
def twS (seen : List (List UInt8)) : List (List UInt8) → Nat → Int
  | [], _ => -1
  | t :: r, k => if t ∈ seen then k else twS (seen ++ [t]) r (k + 1)
theorem tw_hit {ws : List (List UInt8)} {k : Nat} {t : List UInt8} (h : ws[k]? = some t) (hm : t ∈ ws.take k) : twS (ws.take k) (ws.drop k) k = k := by
  obtain ⟨hk, rfl⟩ := List.getElem?_eq_some_iff.1 h
  rw [List.drop_eq_getElem_cons hk, twS, if_pos hm]
theorem tw_miss {ws : List (List UInt8)} {k : Nat} {t : List UInt8} (h : ws[k]? = some t) (hm : t ∉ ws.take k) : twS (ws.take k) (ws.drop k) k = twS (ws.take (k + 1)) (ws.drop (k + 1)) (k + 1) := by
  obtain ⟨hk, rfl⟩ := List.getElem?_eq_some_iff.1 h
  rw [List.drop_eq_getElem_cons hk, twS, if_neg hm, List.take_succ_eq_append_getElem hk]
theorem tw_end (ws : List (List UInt8)) : twS (ws.take ws.length) (ws.drop ws.length) ws.length = -1 := by
  rw [List.drop_length]; rfl

/-- What each text shares with the one ahead. -/
def shrS : List UInt8 → List (List UInt8) → List Int
  | _, [] => []
  | a, t :: r => (preL a t : Int) :: shrS t r
def shr (ws : List (List UInt8)) : List Int := shrS [] ws
theorem shrS_length : ∀ (a : List UInt8) (ws : List (List UInt8)), (shrS a ws).length = ws.length
  | _, [] => rfl
  | a, t :: r => by simp [shrS, shrS_length t r]
theorem shr_length (ws : List (List UInt8)) : (shr ws).length = ws.length := shrS_length _ _
theorem shrS_get : ∀ (a : List UInt8) (ws : List (List UInt8)) (j : Nat) {b c : List UInt8}, (a :: ws)[j]? = some b → ws[j]? = some c → (shrS a ws)[j]? = some (preL b c : Int)
  | a, t :: r, 0, b, c, h1, h2 => by simp at h1 h2; subst h1; subst h2; rfl
  | a, t :: r, j + 1, b, c, h1, h2 => by
    rw [List.getElem?_cons_succ] at h1 h2
    have := shrS_get t r j h1 h2
    simpa [shrS] using this
theorem shr_zero {ws : List (List UInt8)} (h : 0 < ws.length) : (shr ws)[0]? = some 0 := by
  obtain ⟨c, hc⟩ : ∃ c, ws[0]? = some c := ⟨ws[0], List.getElem?_eq_getElem h⟩
  have := shrS_get [] ws 0 (b := []) rfl hc
  rw [preL_nil] at this
  exact this
theorem shr_get {ws : List (List UInt8)} {j : Nat} {b c : List UInt8} (h1 : ws[j]? = some b) (h2 : ws[j + 1]? = some c) : (shr ws)[j + 1]? = some (preL b c : Int) :=
  shrS_get [] ws (j + 1) (by rw [List.getElem?_cons_succ]; exact h1) h2
end Go.Proofs.Ytmgcdhcidojdhaa

namespace Go.Proofs.Ytmgcdhcidojdhaa

/-- How long the shortest, the longest one is, and all together. -/
def leastL (ws : List (List UInt8)) : Nat := ws.foldl (fun n t => min n t.length) 65535
def mostL (ws : List (List UInt8)) : Nat := ws.foldl (fun n t => max n t.length) 0
def totalL (ws : List (List UInt8)) : Nat := ws.foldl (fun n t => n + t.length) 0

theorem foldl_snoc {β : Type} {ws : List (List UInt8)} {k : Nat} {t : List UInt8} (f : β → List UInt8 → β) (z : β) (h : ws[k]? = some t) : (ws.take (k + 1)).foldl f z = f ((ws.take k).foldl f z) t := by
  obtain ⟨hk, rfl⟩ := List.getElem?_eq_some_iff.1 h
  rw [List.take_succ_eq_append_getElem hk, List.foldl_append]; rfl
theorem least_snoc {ws : List (List UInt8)} {k : Nat} {t : List UInt8} (h : ws[k]? = some t) : leastL (ws.take (k + 1)) = min (leastL (ws.take k)) t.length := foldl_snoc _ _ h
theorem most_snoc {ws : List (List UInt8)} {k : Nat} {t : List UInt8} (h : ws[k]? = some t) : mostL (ws.take (k + 1)) = max (mostL (ws.take k)) t.length := foldl_snoc _ _ h
theorem total_snoc {ws : List (List UInt8)} {k : Nat} {t : List UInt8} (h : ws[k]? = some t) : totalL (ws.take (k + 1)) = totalL (ws.take k) + t.length := foldl_snoc _ _ h

theorem least_le (ws : List (List UInt8)) : leastL ws ≤ 65535 := by
  suffices h : ∀ (ws : List (List UInt8)) (n : Nat), ws.foldl (fun n t => min n t.length) n ≤ n from h ws 65535
  intro ws
  induction ws with
  | nil => intro n; exact Nat.le_refl _
  | cons t r ih => intro n; exact Nat.le_trans (ih _) (Nat.min_le_left _ _)
theorem most_le {ws : List (List UInt8)} {m : Nat} (h : ∀ t ∈ ws, t.length ≤ m) : mostL ws ≤ m := by
  suffices g : ∀ (ws : List (List UInt8)) (n : Nat), n ≤ m → (∀ t ∈ ws, t.length ≤ m) → ws.foldl (fun n t => max n t.length) n ≤ m from g ws 0 (Nat.zero_le _) h
  intro ws
  induction ws with
  | nil => intro n hn _; exact hn
  | cons t r ih => intro n hn ht; exact ih _ (Nat.max_le.2 ⟨hn, ht t List.mem_cons_self⟩) (fun u hu => ht u (List.mem_cons_of_mem _ hu))
theorem foldl_total (ws : List (List UInt8)) : ∀ n : Nat, ws.foldl (fun n t => n + t.length) n = n + totalL ws := by
  unfold totalL
  induction ws with
  | nil => intro n; rfl
  | cons t r ih => intro n; rw [List.foldl_cons, List.foldl_cons, ih, ih (0 + t.length)]; omega
theorem total_cons (t : List UInt8) (r : List (List UInt8)) : totalL (t :: r) = t.length + totalL r := by
  show r.foldl (fun n t => n + t.length) (0 + t.length) = _
  rw [foldl_total, Nat.zero_add]
theorem total_append (ws us : List (List UInt8)) : totalL (ws ++ us) = totalL ws + totalL us := by
  unfold totalL
  rw [List.foldl_append]
  exact foldl_total us _
theorem total_take_le (ws : List (List UInt8)) (k : Nat) : totalL (ws.take k) ≤ totalL ws := by
  have := total_append (ws.take k) (ws.drop k)
  rw [List.take_append_drop] at this
  omega
theorem total_perm {ws us : List (List UInt8)} (h : ws.Perm us) : totalL ws = totalL us := by
  induction h with
  | nil => rfl
  | cons t _ ih => rw [total_cons, total_cons, ih]
  | swap a b r => rw [total_cons, total_cons, total_cons, total_cons]; omega
  | trans _ _ i1 i2 => exact i1.trans i2
theorem total_le {ws : List (List UInt8)} {m : Nat} (h : ∀ t ∈ ws, t.length ≤ m) : totalL ws ≤ ws.length * m := by
  induction ws with
  | nil => simp [totalL]
  | cons t r ih =>
    rw [total_cons, List.length_cons, Nat.succ_mul]
    have := ih (fun u hu => h u (List.mem_cons_of_mem _ hu))
    have := h t List.mem_cons_self
    omega

/-- The first one that is no pattern: why. -/
def badS : List (List UInt8) → Option Int
  | [] => none
  | t :: r => if t.length = 0 then some 7 else if 65535 < t.length then some 5 else badS r
theorem bad_append : ∀ (a b : List (List UInt8)), badS (a ++ b) = (badS a).or (badS b)
  | [], b => by simp [badS]
  | t :: r, b => by
    rw [List.cons_append, badS, badS]
    split
    · rfl
    · split
      · rfl
      · exact bad_append r b
theorem bad_zero {ws : List (List UInt8)} {k : Nat} {t : List UInt8} (hn : badS (ws.take k) = none) (h : ws[k]? = some t) (h0 : t.length = 0) : badS ws = some 7 := by
  obtain ⟨hk, rfl⟩ := List.getElem?_eq_some_iff.1 h
  rw [← List.take_append_drop k ws, bad_append, hn, List.drop_eq_getElem_cons hk, badS, if_pos h0]; rfl
theorem bad_long {ws : List (List UInt8)} {k : Nat} {t : List UInt8} (hn : badS (ws.take k) = none) (h : ws[k]? = some t) (h0 : 65535 < t.length) : badS ws = some 5 := by
  obtain ⟨hk, rfl⟩ := List.getElem?_eq_some_iff.1 h
  rw [← List.take_append_drop k ws, bad_append, hn, List.drop_eq_getElem_cons hk, badS, if_neg (by omega), if_pos h0]; rfl
theorem bad_snoc {ws : List (List UInt8)} {k : Nat} {t : List UInt8} (hn : badS (ws.take k) = none) (h : ws[k]? = some t) (h0 : ¬ t.length = 0) (h1 : ¬ 65535 < t.length) : badS (ws.take (k + 1)) = none := by
  obtain ⟨hk, rfl⟩ := List.getElem?_eq_some_iff.1 h
  rw [List.take_succ_eq_append_getElem hk, bad_append, hn, badS, if_neg h0, if_neg h1]; rfl
theorem bad_none : ∀ (ws : List (List UInt8)), badS ws = none ↔ ∀ t ∈ ws, 1 ≤ t.length ∧ t.length ≤ 65535
  | [] => by simp [badS]
  | t :: r => by
    rw [badS]
    have ih := bad_none r
    by_cases h0 : t.length = 0
    · rw [if_pos h0]
      simp only [reduceCtorEq, List.mem_cons, forall_eq_or_imp, false_iff]
      intro h; omega
    · by_cases h1 : 65535 < t.length
      · rw [if_neg h0, if_pos h1]
        simp only [reduceCtorEq, List.mem_cons, forall_eq_or_imp, false_iff]
        intro h; omega
      · rw [if_neg h0, if_neg h1, ih]
        simp only [List.mem_cons, forall_eq_or_imp]
        exact ⟨fun h => ⟨⟨by omega, by omega⟩, h⟩, fun h => h.2⟩

/-- Why texts are no set; 0: they are one. -/
def faultL (ws : List (List UInt8)) : Int :=
  if ws.length = 0 then 14 else if 65535 < ws.length then 6 else match badS ws with
    | some e => e
    | none => if 16777216 < totalL ws then 13 else if 0 ≤ twS [] ws 0 then 8 else 0

theorem fault_none {ws : List (List UInt8)} (h : ws.length = 0) : faultL ws = 14 := by unfold faultL; rw [if_pos h]
theorem fault_many {ws : List (List UInt8)} (h : 65535 < ws.length) : faultL ws = 6 := by unfold faultL; rw [if_neg (by omega), if_pos h]
theorem fault_bad {ws : List (List UInt8)} {e : Int} (h0 : ¬ ws.length = 0) (h1 : ¬ 65535 < ws.length) (h : badS ws = some e) : faultL ws = e := by unfold faultL; rw [if_neg h0, if_neg h1, h]
theorem fault_full {ws : List (List UInt8)} (h0 : ¬ ws.length = 0) (h1 : ¬ 65535 < ws.length) (h : badS ws = none) (h2 : 16777216 < totalL ws) : faultL ws = 13 := by unfold faultL; rw [if_neg h0, if_neg h1, h]; exact if_pos h2
theorem fault_twice {ws : List (List UInt8)} (h0 : ¬ ws.length = 0) (h1 : ¬ 65535 < ws.length) (h : badS ws = none) (h2 : ¬ 16777216 < totalL ws) (h3 : 0 ≤ twS [] ws 0) : faultL ws = 8 := by
  unfold faultL; rw [if_neg h0, if_neg h1, h]; exact (if_neg h2).trans (if_pos h3)
theorem fault_good {ws : List (List UInt8)} (h0 : ¬ ws.length = 0) (h1 : ¬ 65535 < ws.length) (h : badS ws = none) (h2 : ¬ 16777216 < totalL ws) (h3 : ¬ 0 ≤ twS [] ws 0) : faultL ws = 0 := by
  unfold faultL; rw [if_neg h0, if_neg h1, h]; exact (if_neg h2).trans (if_neg h3)

theorem tw_nodup : ∀ (ws seen : List (List UInt8)) (k : Nat), 0 ≤ twS seen ws k ↔ ¬ (ws.Nodup ∧ ∀ t ∈ ws, t ∉ seen)
  | [], seen, k => by simp [twS]
  | t :: r, seen, k => by
    rw [twS]
    by_cases h : t ∈ seen
    · rw [if_pos h]
      refine ⟨fun _ hh => hh.2 t List.mem_cons_self h, fun _ => by omega⟩
    · rw [if_neg h, tw_nodup r (seen ++ [t]) (k + 1)]
      refine not_congr ⟨fun ⟨h1, h2⟩ => ⟨List.nodup_cons.2 ⟨fun hm => ?_, h1⟩, fun u hu => ?_⟩, fun ⟨h1, h2⟩ => ⟨(List.nodup_cons.1 h1).2, fun u hu hs => ?_⟩⟩
      · exact h2 t hm (List.mem_append_right _ (List.mem_singleton.2 rfl))
      · rcases List.mem_cons.1 hu with rfl | hu
        · exact h
        · exact fun hs => h2 u hu (List.mem_append_left _ hs)
      · rcases List.mem_append.1 hs with hs | hs
        · exact h2 u (List.mem_cons_of_mem _ hu) hs
        · rw [List.mem_singleton] at hs
          subst hs
          exact (List.nodup_cons.1 h1).1 hu

/-- Texts that are a set. -/
structure Pats (ws : List (List UInt8)) : Prop where
  some : 1 ≤ ws.length
  few : ws.length ≤ 65535
  each : ∀ t ∈ ws, 1 ≤ t.length ∧ t.length ≤ 65535
  total : totalL ws ≤ 16777216
  once : ws.Nodup

theorem fault_zero (ws : List (List UInt8)) : faultL ws = 0 ↔ Pats ws := by
  by_cases h0 : ws.length = 0
  · rw [fault_none h0]
    exact ⟨fun h => absurd h (by decide), fun h => by have := h.some; omega⟩
  · by_cases h1 : 65535 < ws.length
    · rw [fault_many h1]
      exact ⟨fun h => absurd h (by decide), fun h => by have := h.few; omega⟩
    · cases hb : badS ws with
      | some e =>
        rw [fault_bad h0 h1 hb]
        have hn : ¬ badS ws = none := by rw [hb]; simp
        have he : e = 7 ∨ e = 5 := by
          clear hn h0 h1
          induction ws with
          | nil => simp [badS] at hb
          | cons t r ih =>
            rw [badS] at hb
            split at hb
            · simp at hb; exact .inl hb.symm
            · split at hb
              · simp at hb; exact .inr hb.symm
              · exact ih hb
        refine ⟨fun h => by omega, fun h => absurd ((bad_none ws).2 h.each) hn⟩
      | none =>
        by_cases h2 : 16777216 < totalL ws
        · rw [fault_full h0 h1 hb h2]
          exact ⟨fun h => absurd h (by decide), fun h => by have := h.total; omega⟩
        · have htw := tw_nodup ws [] 0
          by_cases h3 : 0 ≤ twS [] ws 0
          · rw [fault_twice h0 h1 hb h2 h3]
            exact ⟨fun h => absurd h (by decide), fun h => absurd ⟨h.once, by simp⟩ (htw.1 h3)⟩
          · rw [fault_good h0 h1 hb h2 h3]
            have hn : ws.Nodup := Classical.byContradiction fun hh => h3 (htw.2 (fun hx => hh hx.1))
            exact ⟨fun _ => ⟨by omega, by omega, (bad_none ws).1 hb, by omega, hn⟩, fun _ => rfl⟩

theorem Pats.perm {ws us : List (List UInt8)} (h : Pats ws) (hp : ws.Perm us) : Pats us :=
  ⟨by rw [← hp.length_eq]; exact h.some, by rw [← hp.length_eq]; exact h.few, fun t ht => h.each t (hp.mem_iff.2 ht), by rw [← total_perm hp]; exact h.total, hp.nodup_iff.1 h.once⟩
theorem Pats.srt {ws : List (List UInt8)} (h : Pats ws) : Pats (srt ws) := h.perm (srt_perm ws).symm
theorem srt_of_perm {ws us : List (List UInt8)} (h : ws.Perm us) : srt ws = srt us := asc_unique (srt_asc ws) (srt_asc us) ((srt_perm ws).trans (h.trans (srt_perm us).symm))
theorem srt_srt (ws : List (List UInt8)) : srt (srt ws) = srt ws := srt_of_perm (srt_perm ws)

/-- The place of a text in texts in order; -1: none. -/
def fndP (s : List UInt8) (ws : List (List UInt8)) : Int := if s ∈ ws then (ahdS s ws : Int) else -1

theorem ahd_at {s : List UInt8} {ws : List (List UInt8)} (ha : Asc ws) (hm : s ∈ ws) : ws[ahdS s ws]? = some s := by
  have h := find_there (s := s) ha
  rw [decide_eq_true hm, Bool.and_eq_true, decide_eq_true_eq, decide_eq_true_eq] at h
  have h1 := (cmp_zero _ _).1 h.2
  rw [List.getElem?_eq_getElem h.1] at h1 ⊢
  simp only [Option.getD_some] at h1
  rw [h1]
theorem ahd_is {s : List UInt8} {ws : List (List UInt8)} {k : Nat} (ha : Asc ws) (hn : ws.Nodup) (h : ws[k]? = some s) : ahdS s ws = k := by
  have hm : s ∈ ws := List.mem_of_getElem? h
  have h1 := ahd_at ha hm
  obtain ⟨i, e1⟩ := List.getElem?_eq_some_iff.1 h1
  obtain ⟨j, e2⟩ := List.getElem?_eq_some_iff.1 h
  exact (List.getElem_inj hn).1 (e1.trans e2.symm)
theorem fndp_hit {s : List UInt8} {ws : List (List UInt8)} {k : Nat} (ha : Asc ws) (hn : ws.Nodup) (h : ws[k]? = some s) : fndP s ws = k := by
  unfold fndP
  rw [if_pos (List.mem_of_getElem? h), ahd_is ha hn h]
theorem fndp_miss {s : List UInt8} {ws : List (List UInt8)} (h : s ∉ ws) : fndP s ws = -1 := if_neg h

/-- The document's least: of no texts it is 0. -/
def leastR (ws : List (List UInt8)) : Nat := if ws.length = 0 then 0 else leastL ws
theorem leastR_some {ws : List (List UInt8)} (h : Pats ws) : leastR ws = leastL ws := if_neg (by have := h.some; omega)
end Go.Proofs.Ytmgcdhcidojdhaa

namespace Go.Proofs.Ytmgcdhcidojdhaa

/-- A text's last byte. -/
def lastN (t : List UInt8) : Option Nat := t.getLast?.map UInt8.toNat
/-- Does this one of the texts end with the byte? -/
def endsN (ws : List (List UInt8)) (c k : Nat) : Bool := lastN (ws.getD k []) == some c
/-- The numbers of those of the first k texts that end with a byte. -/
def bidsK (ws : List (List UInt8)) (c : Nat) : Nat → List Int
  | 0 => []
  | k + 1 => if endsN ws c k = true then bidsK ws c k ++ [(k : Int)] else bidsK ws c k
def idsL (ws : List (List UInt8)) (c : Nat) : List Int := bidsK ws c ws.length
/-- How long one of the texts is. -/
def lenAt (ws : List (List UInt8)) (x : Int) : Nat := (ws.getD x.toNat []).length
/-- How long the shortest of the first j of these is. -/
def lstK (ws : List (List UInt8)) (ids : List Int) : Nat → Nat
  | 0 => 0
  | j + 1 => if j = 0 ∨ lenAt ws (ids.getD j 0) < lstK ws ids j then lenAt ws (ids.getD j 0) else lstK ws ids j
def lstA (ws : List (List UInt8)) (ids : List Int) : Nat := lstK ws ids ids.length
def lstL (ws : List (List UInt8)) (c : Nat) : Nat := lstA ws (idsL ws c)
/-- Those of the first n bytes with which a text ends. -/
def bytK (ws : List (List UInt8)) : Nat → List UInt8
  | 0 => []
  | n + 1 => if (idsL ws n).length = 0 then bytK ws n else bytK ws n ++ [UInt8.ofNat n]
def bytL (ws : List (List UInt8)) : List UInt8 := bytK ws 256

theorem lastN_lt {t : List UInt8} {c : Nat} (h : lastN t = some c) : c < 256 := by
  unfold lastN at h
  cases hg : t.getLast? with
  | none => simp [hg] at h
  | some x => simp [hg] at h; have := UInt8.toNat_lt x; omega
theorem lastN_some {t : List UInt8} (h : 0 < t.length) : ∃ c, c < 256 ∧ lastN t = some c ∧ (t[t.length - 1]'(by omega)).toNat = c := by
  refine ⟨(t[t.length - 1]'(by omega)).toNat, UInt8.toNat_lt _, ?_, rfl⟩
  unfold lastN
  rw [List.getLast?_eq_getElem?, List.getElem?_eq_getElem (show t.length - 1 < t.length by omega)]
  rfl
theorem lastN_at {t : List UInt8} {c : Nat} (h : 0 < t.length) : lastN t = some c ↔ (t[t.length - 1]'(by omega)).toNat = c := by
  obtain ⟨d, _, h1, h2⟩ := lastN_some h
  rw [h1, h2]
  simp
theorem lastN_nil : lastN [] = none := rfl

theorem getD_of {ws : List (List UInt8)} {k : Nat} {t : List UInt8} (h : ws[k]? = some t) : ws.getD k [] = t := by simp [List.getD, h]
theorem ends_of {ws : List (List UInt8)} {k c : Nat} {t : List UInt8} (h : ws[k]? = some t) : endsN ws c k = true ↔ lastN t = some c := by
  unfold endsN; rw [getD_of h]; simp

theorem bids_hit {ws : List (List UInt8)} {c k : Nat} (h : endsN ws c k = true) : bidsK ws c (k + 1) = bidsK ws c k ++ [(k : Int)] := if_pos h
theorem bids_miss {ws : List (List UInt8)} {c k : Nat} (h : ¬ endsN ws c k = true) : bidsK ws c (k + 1) = bidsK ws c k := if_neg h
theorem bids_length (ws : List (List UInt8)) (c : Nat) : ∀ k, (bidsK ws c k).length ≤ k
  | 0 => Nat.le_refl _
  | k + 1 => by
    have := bids_length ws c k
    unfold bidsK
    split
    · rw [List.length_append]; simp; omega
    · omega
theorem bids_mem {ws : List (List UInt8)} {c : Nat} {x : Int} : ∀ {k : Nat}, x ∈ bidsK ws c k → ∃ m : Nat, x = m ∧ m < k ∧ endsN ws c m = true
  | 0, h => by simp [bidsK] at h
  | k + 1, h => by
    unfold bidsK at h
    split at h
    · rename_i he
      rcases List.mem_append.1 h with h | h
      · obtain ⟨m, h1, h2, h3⟩ := bids_mem h
        exact ⟨m, h1, by omega, h3⟩
      · simp at h
        exact ⟨k, h, by omega, he⟩
    · obtain ⟨m, h1, h2, h3⟩ := bids_mem h
      exact ⟨m, h1, by omega, h3⟩
/-- What one of a bucket's numbers is. -/
theorem ids_at {ws : List (List UInt8)} {c j : Nat} (h : j < (idsL ws c).length) : ∃ m t, (idsL ws c).getD j 0 = ((m : Nat) : Int) ∧ ws[m]? = some t ∧ lastN t = some c ∧ 0 < t.length := by
  have hm : (idsL ws c).getD j 0 ∈ idsL ws c := by
    simp only [List.getD, List.getElem?_eq_getElem h, Option.getD_some]
    exact List.getElem_mem _
  obtain ⟨m, h1, h2, h3⟩ := bids_mem hm
  obtain ⟨t, ht⟩ : ∃ t, ws[m]? = some t := ⟨_, List.getElem?_eq_getElem h2⟩
  have hl := (ends_of ht).1 h3
  refine ⟨m, t, h1, ht, hl, ?_⟩
  rcases Nat.eq_zero_or_pos t.length with h0 | h0
  · rw [List.length_eq_zero_iff.1 h0, lastN_nil] at hl; cases hl
  · exact h0

theorem lst_congr (ws : List (List UInt8)) (ids more : List Int) : ∀ j, j ≤ ids.length → lstK ws (ids ++ more) j = lstK ws ids j
  | 0, _ => rfl
  | j + 1, h => by
    have e : (ids ++ more).getD j 0 = ids.getD j 0 := by simp only [List.getD, List.getElem?_append_left (show j < ids.length by omega)]
    unfold lstK
    rw [e, lst_congr ws ids more j (by omega)]
theorem lst_snoc (ws : List (List UInt8)) (ids : List Int) (x : Int) : lstA ws (ids ++ [x]) = if ids.length = 0 ∨ lenAt ws x < lstA ws ids then lenAt ws x else lstA ws ids := by
  unfold lstA
  rw [List.length_append, List.length_singleton]
  have e : (ids ++ [x]).getD ids.length 0 = x := by simp [List.getD]
  rw [lstK, e, lst_congr ws ids [x] _ (Nat.le_refl _)]
theorem lst_nil (ws : List (List UInt8)) : lstA ws [] = 0 := rfl
theorem lst_le {ws : List (List UInt8)} {m : Nat} (h : ∀ t ∈ ws, t.length ≤ m) (ids : List Int) : ∀ j, lstK ws ids j ≤ m
  | 0 => Nat.zero_le _
  | j + 1 => by
    have h1 : lenAt ws (ids.getD j 0) ≤ m := by
      unfold lenAt
      simp only [List.getD]
      cases hg : ws[(ids[j]?.getD 0).toNat]? with
      | none => simp
      | some t => exact h t (List.mem_of_getElem? hg)
    have := lst_le h ids j
    unfold lstK
    split <;> omega
theorem lenAt_of {ws : List (List UInt8)} {k : Nat} {t : List UInt8} (h : ws[k]? = some t) : lenAt ws (k : Int) = t.length := by
  unfold lenAt; rw [Int.toNat_natCast, getD_of h]

theorem byt_miss {ws : List (List UInt8)} {n : Nat} (h : (idsL ws n).length = 0) : bytK ws (n + 1) = bytK ws n := if_pos h
theorem byt_hit {ws : List (List UInt8)} {n : Nat} (h : ¬ (idsL ws n).length = 0) : bytK ws (n + 1) = bytK ws n ++ [UInt8.ofNat n] := if_neg h
theorem byt_length (ws : List (List UInt8)) : ∀ n, (bytK ws n).length ≤ n
  | 0 => Nat.le_refl _
  | n + 1 => by
    have := byt_length ws n
    unfold bytK
    split
    · omega
    · rw [List.length_append]; simp; omega

/-- So many patterns are in the buckets of these bytes. -/
def bcntL (ws : List (List UInt8)) : List UInt8 → Nat
  | [] => 0
  | c :: l => (idsL ws c.toNat).length + bcntL ws l
theorem cnt_append (ws : List (List UInt8)) : ∀ a b, bcntL ws (a ++ b) = bcntL ws a + bcntL ws b
  | [], b => by simp [bcntL]
  | c :: a, b => by rw [List.cons_append, bcntL, bcntL, cnt_append ws a b]; omega
theorem cnt_snoc {ws : List (List UInt8)} {l : List UInt8} {i : Nat} (h : i < l.length) : bcntL ws (l.take (i + 1)) = bcntL ws (l.take i) + (idsL ws (l[i]).toNat).length := by
  rw [List.take_succ_eq_append_getElem h, cnt_append]
  simp [bcntL]
theorem cnt_take_le (ws : List (List UInt8)) (l : List UInt8) (i : Nat) : bcntL ws (l.take i) ≤ bcntL ws l := by
  have := cnt_append ws (l.take i) (l.drop i)
  rw [List.take_append_drop] at this
  omega
/-- .. and of the first k in those of the first n bytes. -/
def sumK (ws : List (List UInt8)) (k : Nat) : Nat → Nat
  | 0 => 0
  | n + 1 => sumK ws k n + (bidsK ws n k).length
theorem sum_zero (ws : List (List UInt8)) : ∀ n, sumK ws 0 n = 0
  | 0 => rfl
  | n + 1 => by rw [sumK, sum_zero ws n]; rfl
theorem sum_miss {ws : List (List UInt8)} {k : Nat} : ∀ {n : Nat}, (∀ c, c < n → ¬ endsN ws c k = true) → sumK ws (k + 1) n = sumK ws k n
  | 0, _ => rfl
  | n + 1, h => by rw [sumK, sumK, sum_miss (fun c hc => h c (by omega)), bids_miss (h n (by omega))]
theorem sum_hit {ws : List (List UInt8)} {k c : Nat} (he : ∀ d, endsN ws d k = true ↔ d = c) : ∀ {n : Nat}, c < n → sumK ws (k + 1) n = sumK ws k n + 1
  | 0, h => by omega
  | n + 1, h => by
    rw [sumK, sumK]
    by_cases hc : c = n
    · rw [sum_miss (fun d hd => by rw [he]; omega), bids_hit ((he n).2 hc.symm), List.length_append]
      simp; omega
    · rw [sum_hit he (show c < n by omega), bids_miss (by rw [he]; omega)]
      omega
theorem sum_all {ws : List (List UInt8)} (h : ∀ t ∈ ws, 0 < t.length) : ∀ k, k ≤ ws.length → sumK ws k 256 = k
  | 0, _ => sum_zero ws 256
  | k + 1, hk => by
    obtain ⟨t, ht⟩ : ∃ t, ws[k]? = some t := ⟨_, List.getElem?_eq_getElem (by omega)⟩
    obtain ⟨c, hc, hl, _⟩ := lastN_some (h t (List.mem_of_getElem? ht))
    rw [sum_hit (c := c) (fun d => by rw [ends_of ht, hl]; simp [eq_comm]) hc, sum_all h k (by omega)]
theorem cnt_byt (ws : List (List UInt8)) : ∀ n, n ≤ 256 → bcntL ws (bytK ws n) = sumK ws ws.length n
  | 0, _ => rfl
  | n + 1, h => by
    have ih := cnt_byt ws n (by omega)
    rw [sumK]
    by_cases h0 : (idsL ws n).length = 0
    · rw [byt_miss h0, ih]
      unfold idsL at h0
      omega
    · rw [byt_hit h0, cnt_append, ih]
      simp only [bcntL, Nat.add_zero]
      rw [show (UInt8.ofNat n).toNat = n from by simp; omega]
      rfl
/-- Each pattern is in just one bucket. -/
theorem cnt_all {ws : List (List UInt8)} (h : ∀ t ∈ ws, 0 < t.length) : bcntL ws (bytL ws) = ws.length := by
  unfold bytL
  rw [cnt_byt ws 256 (Nat.le_refl _), sum_all h _ (Nat.le_refl _)]

theorem bids_none (c : Nat) : idsL [] c = [] := rfl
theorem lst_none (c : Nat) : lstL [] c = 0 := rfl
theorem byt_none : bytL [] = [] := by
  unfold bytL
  suffices h : ∀ n, bytK [] n = [] from h 256
  intro n
  induction n with
  | zero => rfl
  | succ n ih => rw [byt_miss (by rw [bids_none]; rfl), ih]
end Go.Proofs.Ytmgcdhcidojdhaa
