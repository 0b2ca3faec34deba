/-
  slices.Repeat of one number; chunk.Even: walked.
-/
import Derived.Test.YtjeeicmoenoppaaChC
import Derived.Test.YtjeeicmoenoppaaChL
import Derived.Test.YtjeeicmoenoppaaCopyChk
import Derived.Test.YtjeeicmoenoppaaShelf
import Derived.Laws.CopyOwn
import Derived.Deep.RegionLaw
set_option linter.unusedSimpArgs false
set_option linter.unusedVariables false
namespace Go.Proofs.Ytjeeicmoenoppaa
open Go.RowKit

/-- A row whose first places are filled. -/
def rowR (n : Int) (c q : Nat) : List Value := List.replicate q (Value.int .i64 n) ++ List.replicate (c - q) (Value.int .i64 0)
theorem rowR_zero (n : Int) (c : Nat) : rowR n c 0 = List.replicate c (Value.int .i64 0) := by simp [rowR]
theorem rowR_full (n : Int) (c : Nat) : rowR n c c = List.replicate c (Value.int .i64 n) := by simp [rowR]
theorem rowR_length (n : Int) (c q : Nat) (h : q ≤ c) : (rowR n c q).length = c := by simp [rowR]; omega
theorem rowR_get (n : Int) (c q j : Nat) (h : j < q) : (rowR n c q)[j]? = some (Value.int .i64 n) := by
  unfold rowR
  rw [List.getElem?_append_left (by simpa using h)]
  simp [h]
theorem rowR_splice (n : Int) (c q m : Nat) (h : q + m ≤ c) : splice (rowR n c q) q (List.replicate m (Value.int .i64 n)) = rowR n c (q + m) := by
  unfold splice rowR
  rw [List.take_left' (by simp), List.drop_append, List.drop_eq_nil_of_le (by simp), List.nil_append, List.length_replicate, List.length_replicate, List.drop_replicate, ← List.append_assoc, List.replicate_append_replicate]
  congr 2
  omega
theorem reps_one {n : Int} {m : Nat} : ∀ v ∈ List.replicate m (Value.int .i64 n), v.oneCell' = true := by
  intro v hv
  rw [List.eq_of_mem_replicate hv]; rfl
theorem make_any (n : Int) (c : Nat) (w : World) (hc : c ≤ 1000000000) : (Instr.makeSlice 22 (.int .i64 (c : Int)) (.int .i64 (c : Int))).run Try.prog w = .ok (.slice (some ⟨w.heap.size, 0, none⟩) c c) (w.alloc (.cells (rowR n c 0).toArray 3)) := by
  obtain ⟨i0, hi, hz0, hz1, hz2⟩ := info_parts int_info
  have h := run_make (P := Try.prog) w 22 3 i0 (.int .i64 0) Try.underlying22 hi hz0 .i64 .i64 c c (by omega) (Int.le_refl _) (by rw [hz2]; omega) (by omega)
  rw [h, hz1, Nat.mul_one, Int.toNat_natCast, rowR_zero]
  congr 3
  show madeCells #[Value.int .i64 0] c = _
  rw [← toList_madeCells_one]

theorem cell_row {w : World} {g : Nat} {L : List Value} {T : TypeId} (h : w.heap[g]? = some (.cells L.toArray T (0, 0))) (j : Nat) (v : Value) (hj : L[j]? = some v) : w.cell? ⟨g, j, none⟩ = some v := by
  rw [Lib.cell_of_heap h]
  simpa using hj

set_option maxHeartbeats 2000000 in
set_option maxRecDepth 100000 in
theorem repeat_any (X : Nat) (n : Int) (c : Nat) (w : World) (hc : c ≤ 1000000000) (hx : w.cell? ⟨X, 0, none⟩ = some (.int .i64 n)) :
    Calls Try.prog 20 #[.slice (some ⟨X, 0, none⟩) 1 1, .int .i64 c] w fun e w' => ∃ g, e = .returned (.slice (some ⟨g, 0, none⟩) c c) ∧ w'.heap[g]? = some (.cells (List.replicate c (Value.int .i64 n)).toArray 3 (0, 0)) ∧ w.heap.size ≤ g ∧ Below w.heap.size w w' := by
  have hM := Try.bits_Mul 1 c (by omega) (by omega) w
  rw [Nat.one_mul, Nat.div_eq_of_lt (by omega), Nat.mod_eq_of_lt (by omega)] at hM
  have hmk := fun w => make_any n c w hc
  have hsz : (Try.prog.info? 3).map (·.size) = some 1 := by kernel_rfl
  go_enter Try.func20, Try.ntmps20
  have b0 : Below w.heap.size w (w.alloc (.cells (rowR n c 0).toArray 3)) := (Below.refl _ w).alloc (Nat.le_refl _) _
  have hx1 := cell_alloc hx (.cells (rowR n c 0).toArray 3)
  obtain ⟨m, hm⟩ : ∃ m, Nat.min 1 c = m := ⟨_, rfl⟩
  have hmc : m ≤ c := by rw [← hm]; exact Nat.min_le_right _ _
  have hm1 : m ≤ 1 := by rw [← hm]; exact Nat.min_le_left _ _
  have hm0 : c = 0 ∨ 1 ≤ m := by
    rcases Nat.eq_zero_or_pos c with h | h
    · exact .inl h
    · right; rw [← hm]; exact Nat.le_min.2 ⟨Nat.le_refl _, h⟩
  have hsrc : ∀ j v, (List.replicate m (Value.int .i64 n))[j]? = some v → (w.alloc (.cells (rowR n c 0).toArray 3)).cell? ⟨X, 0 + j, none⟩ = some v := fun j v hj => by
    obtain ⟨h1, h2⟩ := List.getElem?_eq_some_iff.1 hj
    rw [List.getElem_replicate] at h2
    rw [List.length_replicate] at h1
    obtain rfl : j = 0 := by omega
    rw [← h2]
    exact hx1
  have HM := Lib.hid hm
  have HSR := Lib.hid hsrc
  clear hm hsrc
  go_wp2_with (first | (go_at_call 24; refine hM.mono ?_; rintro e w' ⟨rfl, hw⟩; rw [hw]) | (refine wpList_copy_splice rfl (.tmp 31) (.tmp 32) 22 22 rfl 3 Try.underlying22 hsz _ _ _ _ _ _ rfl rfl w.heap.size 0 (rowR n c 0) 3 (heap_alloc_new w _) (List.replicate m (Value.int .i64 n)) (by rw [HM.out]; simp) (fun _ => ⟨rfl, _, rfl, fun j v hj => by rw [addPlain]; exact HSR.out j v hj⟩) (by rw [rowR_length _ _ _ (Nat.zero_le _), List.length_replicate, Nat.zero_add]; exact hmc) reps_one w.heap.size w b0 (Nat.le_refl _) ?_))
  intro w1 HG hB1
  have HG1 : Hid (w1.heap[w.heap.size]? = some (.cells (rowR n c m).toArray 3 (0, 0))) := Lib.hid (by
    have := HG.out
    rwa [rowR_splice n c 0 m (by omega), Nat.zero_add] at this)
  clear HG HSR HM hM hmk hx hx1 b0
  go_wp2
  go_loopw [8] (fun s wr => ∃ q : Nat, s = .int .i64 q ∧ q ≤ c ∧ (c = 0 ∨ 1 ≤ q) ∧ Hid (wr.heap[w.heap.size]? = some (.cells (rowR n c q).toArray 3 (0, 0))) ∧ Below w.heap.size w wr) (fun s _ => c - (RowKit.intOf s).toNat)
  case atStart => exact ⟨m, by simp, hmc, hm0, HG1, hB1⟩
  case round =>
    obtain ⟨q, rfl, hqc, hq0, HQ, hbe⟩ := hrel
    by_cases hlt : q < c
    · have hq1 : 1 ≤ q := by omega
      have g0 : (0 : Int) ≤ (q : Int) := by omega
      have g1 : (q : Int) ≤ (c : Int) := by omega
      obtain ⟨s, hs⟩ : ∃ s, Nat.min q (c - q) = s := ⟨_, rfl⟩
      have hs1 : s ≤ q := by rw [← hs]; exact Nat.min_le_left _ _
      have hs2 : s ≤ c - q := by rw [← hs]; exact Nat.min_le_right _ _
      have hs3 : 1 ≤ s := by rw [← hs]; exact Nat.le_min.2 ⟨hq1, by omega⟩
      have HS := Lib.hid hs
      have HSR : Hid (∀ j v, (List.replicate s (Value.int .i64 n))[j]? = some v → wr.cell? ⟨w.heap.size, 0 + j, none⟩ = some v) := Lib.hid (fun j v hj => by
        obtain ⟨h1, h2⟩ := List.getElem?_eq_some_iff.1 hj
        rw [List.getElem_replicate] at h2
        rw [List.length_replicate] at h1
        rw [Nat.zero_add, ← h2]
        exact cell_row HQ.out j _ (rowR_get n c q j (by omega)))
      have HF : Hid (q + (List.replicate s (Value.int .i64 n)).length ≤ (rowR n c q).length) := Lib.hid (by rw [rowR_length _ _ _ hqc, List.length_replicate]; omega)
      have HQd : Hid (wr.drew.heap[w.heap.size]? = some (.cells (rowR n c q).toArray 3 (0, 0))) := HQ
      have HSd : Hid (∀ j v, (List.replicate s (Value.int .i64 n))[j]? = some v → wr.drew.cell? ((⟨w.heap.size, 0, none⟩ : Addr).add j) = some v) := Lib.hid (fun j v hj => by rw [addPlain]; exact HSR.out j v hj)
      have HBd : Hid (Below w.heap.size w wr.drew) := Lib.hid hbe.drew
      have hne : ¬ c = q := by omega
      clear hs HSR HQ
      go_wp2_with fail
      go_region_law (refine step_copy_splice (by rfl) (.tmp 41) (.tmp 44) 22 22 (by rfl) 3 Try.underlying22 hsz (some ⟨w.heap.size, q, none⟩) (some ⟨w.heap.size, 0, none⟩) (c - q) (c - q) q c (by go_simp) (by go_simp) w.heap.size q (rowR n c q) 3 HQd.out (List.replicate s (Value.int .i64 n)) (by rw [List.length_replicate]; exact HS.out.symm) (fun _ => ⟨rfl, _, rfl, HSd.out⟩) HF.out reps_one w.heap.size w HBd.out (Nat.le_refl _) ?_; intro w4 HG4 hb4)
      have HG5 : Hid (w4.heap[w.heap.size]? = some (.cells (rowR n c (q + s)).toArray 3 (0, 0))) := Lib.hid (by
        have := HG4.out
        rwa [rowR_splice n c q s (by omega)] at this)
      clear HG4 HQd HSd HBd HF HS
      have hw : IntKind.i64.wrap ((q : Int) + (s : Int)) = ((q + s : Nat) : Int) := by rw [IntKind.wrap_i64]; omega
      go_simp
      go_wp2
      exact ⟨⟨q + s, by go_num, by omega, by omega, HG5, hb4⟩, by simp [RowKit.intOf]; omega⟩
    · obtain rfl : q = c := by omega
      have HQ2 : Hid (wr.heap[w.heap.size]? = some (.cells (List.replicate q (Value.int .i64 n)).toArray 3 (0, 0))) := Lib.hid (by rw [HQ.out, rowR_full])
      go_wp2
      go_ret
      exact ⟨_, rfl, HQ2.out, Nat.le_refl _, hbe⟩

theorem row_reps {w : World} {g c : Nat} {n : Int} {T : TypeId} (hc : c ≤ 1000000000) (h : w.heap[g]? = some (.cells (List.replicate c (Value.int .i64 n)).toArray T (0, 0))) : IsRow .i64 w (some ⟨g, 0, none⟩) c c (List.replicate c n) := by
  refine .inr ⟨g, 0, rfl, Nat.le_refl _, by unfold maxLen; omega, by simp, fun i hi => ?_⟩
  rw [Nat.zero_add]
  refine cell_row h i _ ?_
  simp [List.getD, hi]

set_option maxHeartbeats 1000000 in
theorem even_any (l : List UInt8) (n : Int) (w : World) (h : l.length ≤ 1000000000) (hn : 1 ≤ n) (hn2 : n ≤ 9223372036854775807) :
    Calls Try.prog 7 #[.string ⟨l.toArray⟩, .int .i64 n] w fun e w' => ∃ (a : Option Addr) (cap : Nat), e = .returned (.tuple #[.slice a (evL l n.toNat).length cap, .int .i64 0]) ∧ (evL l n.toNat).length ≤ cap ∧ IsStrs w' a (evL l n.toNat).length (evL l n.toNat) ∧ Below w.heap.size w w' := by
  have HS := Lib.hid (bsize l)
  obtain ⟨N, rfl⟩ : ∃ N : Nat, n = (N : Int) := ⟨n.toNat, by omega⟩
  rw [Int.toNat_natCast]
  have hq : l.length / N ≤ 1000000000 := Nat.le_trans (Nat.div_le_self _ _) h
  have hN0 : ¬ (N : Int) = 0 := by omega
  have HD : Hid ((l.length : Int) / (N : Int) = ((l.length / N : Nat) : Int)) := Lib.hid (by rw [Int.natCast_ediv])
  obtain ⟨c, hc⟩ : ∃ c, l.length / N = c := ⟨_, rfl⟩
  have HC := Lib.hid hc
  rw [hc] at hq
  have HE : Hid (evL l N = cutL l (List.replicate c (N : Int))) := Lib.hid (by rw [← hc]; rfl)
  rw [hc] at HD
  have hD := HD.out
  clear hc
  have c0 : (w.alloc (.cells #[.int .i64 (N : Int)] 3)).cell? ⟨w.heap.size, 0, none⟩ = some (.int .i64 (N : Int)) := by rw [World.cell?_alloc_new]; rfl
  have b0 : Below w.heap.size w (w.alloc (.cells #[.int .i64 (N : Int)] 3)) := (Below.refl _ w).alloc (Nat.le_refl _) _
  have hR := Lib.hid (repeat_any w.heap.size N c _ hq c0)
  clear c0
  go_enter Try.func7, Try.ntmps7
  go_wp2_with fail
  refine hR.out.mono ?_
  rintro e w1 ⟨g, rfl, hg, hge, hb1⟩
  have hrow := row_reps hq hg
  have b1 : Below w.heap.size w w1 := b0.trans (hb1.mono (by simp))
  have hcut := cut_any l _ c c _ w1 h hq hrow
  rw [List.take_of_length_le (by simp)] at hcut
  have HCut := Lib.hid hcut
  clear hcut
  clear hg hge hb1 hrow hR
  go_wp2_with fail
  refine HCut.out.mono ?_
  rintro e w2 ⟨a, cap, rfl, hcc, hf, hb2⟩
  have hb3 := b1.trans (hb2.mono b1.size)
  go_wp2
  go_ret2
  refine ⟨a, cap, ?_, by rw [HE.out]; exact hcc, ?_, hb3⟩
  · rw [HE.out]; rfl
  · rw [HE.out]; exact hf

theorem even_bad (l : List UInt8) (n : Int) (w : World) (hn : n < 1) :
    Calls Try.prog 7 #[.string ⟨l.toArray⟩, .int .i64 n] w fun e w' => e = .returned (.tuple #[.slice none 0 0, .int .i64 2]) ∧ w = w' := by
  go_enter Try.func7, Try.ntmps7
  go_wp2
  go_ret2
  exact ⟨rfl, rfl⟩
end Go.Proofs.Ytjeeicmoenoppaa
