/-
  Links that are made: New: walked.
-/
import Derived.Test.YtkaldfcpcimacaaLkN
import Derived.Test.YtkaldfcpcimacaaInts
import Derived.Deep.RegionWith
set_option linter.unusedSimpArgs false
set_option linter.unusedVariables false
namespace Go.Proofs.Ytkaldfcpcimacaa
open Go.RowKit

theorem made_fl (n : Nat) : madeCells (Value.agg #[.int .i32 0, .int .i32 0]).cells (n * 2) = (flCells (List.replicate n (0, 0))).toArray := by
  have e : (Value.agg #[.int .i32 0, .int .i32 0]).cells = #[.int .i32 0, .int .i32 0] := by rfl
  rw [e, fl_rep]
  unfold madeCells
  apply Array.ext
  · simp
  · intro i h1 h2
    simp at h1
    have : i % 2 = 0 ∨ i % 2 = 1 := by omega
    rcases this with h | h <;> simp [h]
set_option maxRecDepth 100000 in
theorem make_falls (c : Nat) (w : World) (hc : c ≤ 16777217) : (Instr.makeSlice 59 (.int .i64 (c : Int)) (.int .i64 (c : Int))).run Try.prog w = .ok (.slice (some ⟨w.heap.size, 0, none⟩) c c) (w.alloc (.cells (flCells (List.replicate c (0, 0))).toArray 63)) := by
  obtain ⟨i0, hi, hz0, hz1, hz2⟩ := info_parts fl_info
  have h := run_make (P := Try.prog) w 59 63 i0 (.agg #[.int .i32 0, .int .i32 0]) Try.underlying59 hi hz0 .i64 .i64 c c (by omega) (Int.le_refl _) (by rw [hz2]; omega) (by omega)
  rw [h, hz1, Int.toNat_natCast, made_fl]

/-- One more state is known. -/
theorem FlOk.put {us S : List (List UInt8)} {i : Nat} {F : List (Nat × Nat)} (h : FlOk us S i F) {s : List UInt8} (hs : S[i]? = some s) {a b : Nat} (ha : S[a]? = some (fbL S s)) (hb : S[b]? = some (fbL us s)) : FlOk us S (i + 1) (F.set i (a, b)) := by
  have hil := (List.getElem?_eq_some_iff.1 hs).1
  refine ⟨by rw [List.length_set]; exact h.len, fun j t hj ht => ?_⟩
  by_cases e : j = i
  · subst e
    obtain rfl : t = s := Option.some.inj (ht.symm.trans hs)
    exact ⟨a, b, List.getElem?_set_self (by rw [h.len]; exact hil), ha, hb⟩
  · obtain ⟨x, y, h1, h2, h3⟩ := h.at_ j t (by omega) ht
    exact ⟨x, y, by rw [List.getElem?_set_ne (Ne.symm e)]; exact h1, h2, h3⟩
theorem IsLk.ne {w : World} {base b g : Nat} {q : Option Addr} {F : List (Nat × Nat)} (h : IsLk w base b g q F) : b ≠ g := fun e => by
  have h1 := h.head
  rw [e, h.row] at h1
  simp at h1
theorem IsLk.put {w : World} {base b g : Nat} {q : Option Addr} {F : List (Nat × Nat)} (h : IsLk w base b g q F) {i : Nat} (hi : i < F.length) {x y : Nat} (hx : x ≤ 16777217) (hy : y ≤ 16777217) :
    IsLk ((w.setCell ⟨g, i * 2, none⟩ (.int .i32 (x : Int))).setCell ⟨g, i * 2 + 1, none⟩ (.int .i32 (y : Int))) base b g q (F.set i (x, y)) := by
  have hne := h.ne
  refine ⟨?_, ?_, h.bb, h.gg, by rw [List.length_set]; exact h.few, fun r hr => ?_⟩
  · rw [List.length_set, put_other hne, put_other hne]; exact h.head
  · rw [put_heap (put_heap h.row _)]
    congr 2
    have := fl_set F i x y (List.getElem?_eq_getElem hi)
    rw [← this]
    simp
  · rcases List.mem_or_eq_of_mem_set hr with h1 | rfl
    · exact h.fit r h1
    · exact ⟨hx, hy⟩

set_option maxRecDepth 100000 in
set_option maxHeartbeats 4000000 in
theorem lknew_any {w : World} {p : Option Addr} {us : List (List UInt8)} (hp : IsPats w p us) (ha : Asc us) (hn : us.Nodup) :
    Calls Try.prog 10 #[.pointer p] w fun e w' => ∃ k q S F, e = .returned (.pointer k) ∧ IsLink w' k q p us S S.length F ∧ Below w.heap.size w w' := by
  have HT := Lib.hid (trnew_any hp ha hn)
  have HA := Lib.hid ha
  clear hp ha hn
  go_enter Try.func10, Try.ntmps10
  go_wp2_with fail
  refine HT.out.mono ?_
  rintro e w1 ⟨q, S, rfl, hT, hb1⟩
  have hfew := hT.few
  have HL := Lib.hid (ts_len hT)
  have hmake := make_falls S.length w1 hfew.2.2
  have hS1 := hb1.size
  have HT1 := Lib.hid hT
  clear HT hT
  go_wp2_with fail
  refine HL.out.mono ?_
  rintro e w' ⟨rfl, hw'⟩
  obtain rfl := hw'.symm
  clear hw' HL
  have hb2 : Below w1.heap.size w1 (w1.alloc (.cells (flCells (List.replicate S.length (0, 0))).toArray 63)) := (Below.refl _ _).alloc (Nat.le_refl _) _
  have hh2 := heap_alloc_new w1 (.cells (flCells (List.replicate S.length (0, 0))).toArray 63)
  have hz2 : (w1.alloc (.cells (flCells (List.replicate S.length (0, 0))).toArray 63)).heap.size = w1.heap.size + 1 := by simp
  generalize w1.alloc (.cells (flCells (List.replicate S.length (0, 0))).toArray 63) = w2 at *
  have HZ2 := Lib.hid hz2
  clear hz2
  go_wp2_with fail
  have LK0 : Hid (IsLk (w2.alloc (.cells #[.pointer q, .slice (some ⟨w1.heap.size, 0, none⟩) S.length S.length] 61)) w1.heap.size w2.heap.size w1.heap.size q (List.replicate S.length (0, 0))) := Lib.hid (by
    refine ⟨?_, ?_, hb2.size, Nat.le_refl _, by rw [List.length_replicate]; exact hfew.2.2, fun r hr => by rw [List.eq_of_mem_replicate hr]; simp⟩
    · rw [List.length_replicate]; exact heap_alloc_new w2 _
    · rw [Below.heap_alloc _ _ _ (by have := HZ2.out; omega)]; exact hh2)
  have B0 : Hid (Below w1.heap.size w1 (w2.alloc (.cells #[.pointer q, .slice (some ⟨w1.heap.size, 0, none⟩) S.length S.length] 61))) := Lib.hid (hb2.alloc hb2.size _)
  have FK0 : Hid (FlOk us S 0 (List.replicate S.length (0, 0))) := Lib.hid ⟨List.length_replicate .., fun i s hi => absurd hi (Nat.not_lt_zero _)⟩
  have c1 : (w2.alloc (.cells #[.pointer q, .slice (some ⟨w1.heap.size, 0, none⟩) S.length S.length] 61)).cell? ⟨w2.heap.size, 1, none⟩ = some (.slice (some ⟨w1.heap.size, 0, none⟩) S.length S.length) := by
    rw [Lib.cell_of_heap (heap_alloc_new w2 _)]; rfl
  clear hb2 hh2 HZ2 hmake
  generalize w2.alloc (.cells #[.pointer q, .slice (some ⟨w1.heap.size, 0, none⟩) S.length S.length] 61) = w3 at *
  generalize w2.heap.size = b at *
  obtain ⟨n, hnS⟩ : ∃ n, S.length = n := ⟨_, rfl⟩
  have HN := Lib.hid hnS
  have hn1 := hfew.2.2
  rw [hnS] at c1 hn1
  clear hfew
  rw [hnS]
  go_loopw [19] (fun x wr => ∃ (i : Nat) (F : List (Nat × Nat)), i ≤ n ∧ x = .int .i64 i ∧ Hid (IsLk wr w1.heap.size b w1.heap.size q F) ∧ Hid (FlOk us S i F) ∧ Hid (Below w1.heap.size w1 wr)) (fun x _ => n - (RowKit.intOf x).toNat)
  case atStart => exact ⟨0, _, Nat.zero_le _, rfl, LK0, FK0, B0⟩
  case round =>
    clear c1 LK0 FK0 B0
    obtain ⟨i, F, hi, rfl, HK, HF, HB⟩ := hrel
    have hFn : F.length = n := by rw [HF.out.len, hnS]
    by_cases hlt : i < n
    · obtain ⟨s, hs⟩ : ∃ s, S[i]? = some s := ⟨_, List.getElem?_eq_getElem (show i < S.length by omega)⟩
      have HI : Hid (IsLink wr (some ⟨b, 0, none⟩) q p us S i F) := Lib.hid ⟨.inr ⟨_, _, _, rfl, HK.out⟩, HT1.out.below HB.out, HA.out, HF.out⟩
      have HC := Lib.hid (fun W (hW : Below wr.heap.size wr W) => lkfall_any (HI.out.below hW) hs)
      obtain ⟨r, hr⟩ : ∃ r, F[i]? = some r := ⟨_, List.getElem?_eq_getElem (show i < F.length by omega)⟩
      have c1 := HK.out.reads.2.1
      rw [hFn] at c1
      have HO := Lib.hid (fun (W w4 : World) (hb : Below W.heap.size W w4) (e : W.heap = wr.heap) => show (w4.cell? ⟨b, 1, none⟩ = some (.slice (some ⟨w1.heap.size, 0, none⟩) n n) ∧ w4.cell? ⟨w1.heap.size, i * 2, none⟩ = some (.int .i32 (r.1 : Int)) ∧ w4.cell? ⟨w1.heap.size, i * 2 + 1, none⟩ = some (.int .i32 (r.2 : Int)) ∧ w4.frozen? ⟨w1.heap.size, i * 2, none⟩ = false ∧ w4.frozen? ⟨w1.heap.size, i * 2 + 1, none⟩ = false) from by
        have h4 := (HK.out.heap (W := W) e).below hb
        have h5 := h4.reads.2.1
        rw [hFn] at h5
        exact ⟨h5, (h4.reads.2.2 i _ hr).1, (h4.reads.2.2 i _ hr).2, Lib.frozen_of_heap h4.row _, Lib.frozen_of_heap h4.row _⟩)
      have g0 : (0 : Int) ≤ (i : Int) := by omega
      have g1 : (i : Int) < (n : Int) := by omega
      have HSi := Lib.hid hs
      have HFn := Lib.hid hFn
      clear hs HI hr hFn hnS
      generalize r.1 = z1 at HO
      generalize r.2 = z2 at HO
      go_wp2_with fail
      go_region_with (go_at_call 32; refine (HC.out _ (Below.refl _ _).drew).mono ?_; rintro e w4 ⟨x, y, he, h1, h2, hb3⟩; unfold flV at he; subst he; (obtain ⟨q0, q1, q2, q3, q4⟩ := HO.out _ _ hb3 (by rfl)))
      all_goals
        have hxl := (List.getElem?_eq_some_iff.1 h1).1
        have hyl := (List.getElem?_eq_some_iff.1 h2).1
        rw [HN.out] at hxl hyl
        have HK5 := Lib.hid (((HK.out.heap (W := wr.drew) rfl).below hb3).put (i := i) (by rw [HFn.out]; exact hlt) (x := x) (y := y) (by omega) (by omega))
        have HF5 := Lib.hid (HF.out.put HSi.out h1 h2)
        have HB5 := Lib.hid (((HB.out.drew.trans (hb3.mono HB.out.size)).setCell (p := ⟨w1.heap.size, i * 2, none⟩) (Nat.le_refl _) (.int .i32 (x : Int))).setCell (p := ⟨w1.heap.size, i * 2 + 1, none⟩) (Nat.le_refl _) (.int .i32 (y : Int)))
        generalize (w4.setCell ⟨w1.heap.size, i * 2, none⟩ (.int .i32 (x : Int))).setCell ⟨w1.heap.size, i * 2 + 1, none⟩ (.int .i32 (y : Int)) = w5 at HK5 HB5 ⊢
        clear hb3 h1 h2 HC HO HK HF HB q0 q1 q2 q3 q4 c1
        go_wp2
        exact ⟨⟨i + 1, _, by omega, by go_num, HK5, HF5, HB5⟩, by simp [RowKit.intOf]; omega⟩
    · obtain rfl : i = n := by omega
      have HE : Hid (∃ S F, IsLink wr (some ⟨b, 0, none⟩) q p us S S.length F ∧ Below w.heap.size w wr) := Lib.hid ⟨S, F, ⟨.inr ⟨_, _, _, rfl, HK.out⟩, HT1.out.below HB.out, HA.out, by rw [HN.out]; exact HF.out⟩, hb1.trans (HB.out.mono hS1)⟩
      clear HK HF HB hFn hnS
      go_wp2
      go_ret
      obtain ⟨S, F, h1, h2⟩ := HE.out
      exact ⟨_, q, S, F, rfl, h1, h2⟩
end Go.Proofs.Ytkaldfcpcimacaa
