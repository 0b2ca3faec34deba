/-
  The law PatsLong, walked.
-/
import Derived.Test.YtkhjemoojmoncaaPtA
import Derived.Test.YtkhjemoojmoncaaMask
set_option linter.unusedSimpArgs false
set_option linter.unusedVariables false
namespace Go.Proofs.Ytkhjemoojmoncaa
open Go.RowKit

theorem fault_one (x : List UInt8) : faultL [x] = if x.length = 0 then 7 else if 65535 < x.length then 5 else 0 := by
  unfold faultL
  rw [if_neg (by simp), if_neg (by simp), badS]
  by_cases h0 : x.length = 0
  · rw [if_pos h0, if_pos h0]
  · by_cases h1 : 65535 < x.length
    · rw [if_neg h0, if_neg h0, if_pos h1, if_pos h1]
    · rw [if_neg h0, if_neg h0, if_neg h1, if_neg h1, badS]
      have e : totalL [x] = x.length := by rw [total_cons]; rfl
      show (if 16777216 < totalL [x] then (13 : Int) else if 0 ≤ twS [] [x] 0 then 8 else 0) = 0
      rw [e, if_neg (by omega), if_neg (by simp [twS])]
theorem srt_one (x : List UInt8) : srt [x] = [x] := by simp [srt]
theorem most_one (x : List UInt8) : mostL [x] = x.length := by simp [mostL]
theorem total_one (x : List UInt8) : totalL [x] = x.length := by simp [totalL]

theorem pbyte_info : (Try.prog.info? 5).map (fun i => (i.zero, i.size, i.bytes)) = some (some (.int .u8 0), 1, 1) := by kernel_rfl
theorem make_bytes (n : Nat) (w : World) (hn : n ≤ 1000000000) : (Instr.makeSlice 42 (.int .i64 (n : Int)) (.int .i64 (n : Int))).run Try.prog w = .ok (.slice (some ⟨w.heap.size, 0, none⟩) n n) (w.alloc (.cells (List.replicate n (Value.int .u8 0)).toArray 5)) := by
  obtain ⟨i0, hi, hz0, hz1, hz2⟩ := info_parts pbyte_info
  have h := run_make (P := Try.prog) w 42 5 i0 (.int .u8 0) Try.underlying42 hi hz0 .i64 .i64 n n (by omega) (Int.le_refl _) (by rw [hz2]; omega) (by omega)
  rw [h, hz1, Nat.mul_one, Int.toNat_natCast]
  congr 3
  show madeCells #[Value.int .u8 0] n = _
  rw [← toList_madeCells_one]
theorem zeros_text (n : Nat) (w : World) : (convert 42 9 (.slice (some ⟨w.heap.size, 0, none⟩) n n)).run Try.prog (w.alloc (.cells (List.replicate n (Value.int .u8 0)).toArray 5)) = .ok (.string ⟨(List.replicate n (0 : UInt8)).toArray⟩) (w.alloc (.cells (List.replicate n (Value.int .u8 0)).toArray 5)) := by
  have h := run_convert_bytes_back (w.alloc (.cells (List.replicate n (Value.int .u8 0)).toArray 5)) 42 9 5 ⟨w.heap.size, 0, none⟩ n (List.replicate n (0 : UInt8)) Try.underlying42 Try.underlying5 Try.underlying9 (fun j hj => by
    rw [List.length_replicate] at hj
    rw [addPlain, Nat.zero_add, Lib.cell_of_heap (heap_alloc_new w _)]
    simp [hj])
  rw [List.length_replicate] at h
  exact h

set_option maxHeartbeats 1000000 in
theorem ptlong_big (n id : Int) (s : ByteArray) (w : World) (h : 50 < s.size) (hm : s.size ≤ 9223372036854775807) :
    Calls Try.prog 5 #[.int .i64 n, .int .i64 id, .string s] w fun e w' => e = .returned (.bool true) ∧ Below w.heap.size w w' := by
  go_enter Try.func5, Try.ntmps5
  go_wp2_with fail
  refine (ptawake_any _).mono ?_
  rintro e w' ⟨rfl, hb⟩
  go_wp2
  go_ret
  exact ⟨rfl, hb⟩

set_option maxHeartbeats 2000000 in
theorem ptlong_any (n id : Int) (s : ByteArray) (w : World) (h : s.size ≤ 50) :
    Calls Try.prog 5 #[.int .i64 n, .int .i64 id, .string s] w fun e w' => e = .returned (.bool true) ∧ Below w.heap.size w w' := by
  obtain ⟨c, hc, hmask⟩ := mask_at n 3 (by omega)
  have hmask3 : bits .and .i64 n 3 = (c : Int) := hmask
  clear hmask
  obtain ⟨m, hm⟩ : ∃ m : Nat, m = 65533 + c := ⟨_, rfl⟩
  have hw : IntKind.i64.wrap (65533 + (c : Int)) = (m : Int) := by rw [IntKind.wrap_i64]; omega
  have hm2 : 65533 ≤ m ∧ m ≤ 65536 := by omega
  have hmk := make_bytes m w (by omega)
  have hcv := zeros_text m w
  obtain ⟨x, hx⟩ : ∃ x : List UInt8, List.replicate m (0 : UInt8) = x := ⟨_, rfl⟩
  have hxl : x.length = m := by rw [← hx, List.length_replicate]
  rw [hx] at hcv
  obtain ⟨C, hC⟩ : ∃ C, (List.replicate m (Value.int .u8 0)).toArray = C := ⟨_, rfl⟩
  rw [hC] at hmk hcv
  have hA := strs_heap (ws := [x]) (heap_alloc_new (w.alloc (.cells C 5)) (.cells (txCells [x]).toArray 9)) rfl
  have c1 : Below w.heap.size w ((w.alloc (.cells C 5)).alloc (.cells (txCells [x]).toArray 9)) := ((Below.refl _ w).alloc (Nat.le_refl _) _).alloc (by simp) _
  have s1 := c1.size
  have hf := fault_one x
  rw [if_neg (by omega)] at hf
  have hsz : (w.alloc (.cells C 5)).heap.size = w.heap.size + 1 := by simp
  rw [hsz] at hA
  clear hm hx hC hc hsz
  by_cases hbig : 65535 < m
  · rw [if_pos (by omega)] at hf
    have H1 := Lib.hid (ptnew_bad (some ⟨w.heap.size + 1, 0, none⟩) 1 1 [x] _ (by omega) hA (by simp; omega) (by rw [hf]; decide))
    rw [hf] at H1
    have HX := Lib.hid hxl
    clear hA hf hxl
    go_enter Try.func5, Try.ntmps5
    go_wp2_with fail
    refine (ptat_nil _ _).mono ?_
    rintro e w' ⟨rfl, rfl⟩
    go_wp2_with fail
    refine (ptfind_nil _ _).mono ?_
    rintro e w' ⟨rfl, rfl⟩
    go_wp2_with fail
    refine (ptlen_nil _).mono ?_
    rintro e w' ⟨rfl, rfl⟩
    go_wp2_with fail
    refine (ptleast_nil _).mono ?_
    rintro e w' ⟨rfl, rfl⟩
    go_wp2_with fail
    refine (ptmost_nil _).mono ?_
    rintro e w' ⟨rfl, rfl⟩
    go_wp2_with fail
    refine (pttotal_nil _).mono ?_
    rintro e w' ⟨rfl, rfl⟩
    go_wp2_with fail
    refine (ptlist_nil _).mono ?_
    rintro e w' ⟨rfl, rfl⟩
    go_wp2_with fail
    refine H1.out.mono ?_
    rintro e w2 ⟨rfl, hb2⟩
    have d2 := c1.trans (hb2.mono s1)
    have e2 := d2.size
    clear H1 hb2 c1 s1
    go_wp2_with fail
    refine (ptawake_any _).mono ?_
    rintro e w3 ⟨rfl, hb3⟩
    have d3 := d2.trans (hb3.mono e2)
    go_wp2
    go_ret
    exact ⟨rfl, d3⟩
  · rw [if_neg (by omega)] at hf
    have H1 := Lib.hid (ptnew_good (some ⟨w.heap.size + 1, 0, none⟩) 1 1 [x] _ (by omega) hA hf)
    rw [srt_one] at H1
    have HM := Lib.hid (fun (b : Nat) (w2 : World) (h : IsSet w2 b [x]) => ptmost_any h)
    have HT := Lib.hid (fun (b : Nat) (w2 : World) (h : IsSet w2 b [x]) => pttotal_any h)
    rw [most_one, hxl] at HM
    rw [total_one, hxl] at HT
    have HX := Lib.hid hxl
    clear hA hf hxl
    go_enter Try.func5, Try.ntmps5
    go_wp2_with fail
    refine (ptat_nil _ _).mono ?_
    rintro e w' ⟨rfl, rfl⟩
    go_wp2_with fail
    refine (ptfind_nil _ _).mono ?_
    rintro e w' ⟨rfl, rfl⟩
    go_wp2_with fail
    refine (ptlen_nil _).mono ?_
    rintro e w' ⟨rfl, rfl⟩
    go_wp2_with fail
    refine (ptleast_nil _).mono ?_
    rintro e w' ⟨rfl, rfl⟩
    go_wp2_with fail
    refine (ptmost_nil _).mono ?_
    rintro e w' ⟨rfl, rfl⟩
    go_wp2_with fail
    refine (pttotal_nil _).mono ?_
    rintro e w' ⟨rfl, rfl⟩
    go_wp2_with fail
    refine (ptlist_nil _).mono ?_
    rintro e w' ⟨rfl, rfl⟩
    go_wp2_with fail
    refine H1.out.mono ?_
    rintro e w2 ⟨b, rfl, hbb, hs, hb2⟩
    have d2 := c1.trans (hb2.mono s1)
    have e2 := d2.size
    have M2 := Lib.hid (HM.out b w2 hs)
    have T2 := Lib.hid (HT.out b w2 hs)
    clear H1 hb2 c1 s1 HM HT hs
    go_wp2_with fail
    refine M2.out.mono ?_
    rintro e w' ⟨rfl, rfl⟩
    go_wp2_with fail
    refine T2.out.mono ?_
    rintro e w' ⟨rfl, rfl⟩
    go_wp2_with fail
    refine (ptawake_any _).mono ?_
    rintro e w3 ⟨rfl, hb3⟩
    have d3 := d2.trans (hb3.mono e2)
    go_wp2
    go_ret
    exact ⟨rfl, d3⟩
end Go.Proofs.Ytkhjemoojmoncaa
