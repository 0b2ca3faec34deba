/-
  shift.New: walked.
-/
import Derived.Test.YtfafbjooehachaaShW
import Derived.Test.YtfafbjooehachaaPtLa
import Derived.Laws.Tables
set_option linter.unusedSimpArgs false
set_option linter.unusedVariables false
namespace Go.Proofs.Ytfafbjooehachaa
open Go.RowKit

/-- The cells of a new table. -/
def shCells (m : Nat) : Array Value := (List.replicate 256 (Value.int .i64 0) ++ [Value.int .i64 (m : Int)]).toArray
theorem sh_built (m : Nat) : Try.prog.built 53 [(1, .int .i64 (m : Int))] = some (shCells m) := by kernel_rfl
theorem reps_at (x y : Value) (n : Nat) : (∀ c, c < n → (List.replicate n x ++ [y])[c]? = some x) ∧ (List.replicate n x ++ [y])[n]? = some y := by
  refine ⟨fun c hc => ?_, ?_⟩
  · rw [List.getElem?_append_left (by rw [List.length_replicate]; exact hc), List.getElem?_replicate, if_pos hc]
  · rw [List.getElem?_append_right (by rw [List.length_replicate]; exact Nat.le_refl _), List.length_replicate, Nat.sub_self]
    rfl
theorem shCells_at (m : Nat) : TabAt (shCells m) (fun _ => 0) m := by
  obtain ⟨h1, h2⟩ := reps_at (.int .i64 0) (.int .i64 (m : Int)) 256
  unfold shCells
  refine ⟨fun c hc => ?_, ?_⟩
  · rw [List.getElem?_toArray]; exact h1 c hc
  · rw [List.getElem?_toArray]; exact h2

theorem wpList_built1 {P : Program} {w : World} {ops : Array Oper} {rest : List Oper} {o : Oper} {a : Act} {Q : Exit → Act → World → Prop} (hg : o.guard = none) (t : TypeId) (k : Nat) (x : Operand) (ho : o.op = .build t #[(k, x)]) (v : Value) (hv : a.eval x = v) (cells : Array Value) (hc : P.built t [(k, v)] = some cells)
    (h : wpList P ops Q rest (a.put o.dst (.agg cells)) w) : wpList P ops Q (o :: rest) a w :=
  wpList_build hg t #[(k, x)] ho (by simp [hv, hc]) (by simpa [hv, hc] using h)

set_option maxRecDepth 100000 in
set_option maxHeartbeats 4000000 in
theorem shnew_by (p : Value) (ws : List (List UInt8)) (w : World) (hn : ws.length ≤ 1000000) (he : ∀ t ∈ ws, t.length ≤ 1000000)
    (hM : ∀ W, Below w.heap.size w W → Calls Try.prog 25 #[p] W fun e w' => e = .returned (.int .i64 (leastR ws : Int)) ∧ w' = W)
    (hL : ∀ W, Below w.heap.size w W → Calls Try.prog 26 #[p] W fun e w' => e = .returned (.int .i64 (ws.length : Int)) ∧ w' = W)
    (hA : ∀ (W : World) (k : Nat) (t : List UInt8), Below w.heap.size w W → ws[k]? = some t → Calls Try.prog 27 #[p, .int .i64 (k : Int)] W fun e w' => e = .returned (.tuple #[.string ⟨t.toArray⟩, .bool true]) ∧ w' = W) :
    Calls Try.prog 10 #[p] w fun e w' => ∃ b, e = .returned (.pointer (some ⟨b, 0, none⟩)) ∧ w.heap.size ≤ b ∧ IsTab w' b (fstL ws) (leastR ws) ∧ Below w.heap.size w w' := by
  have HM0 := Lib.hid (hM w (Below.refl _ _))
  have HLn := Lib.hid hL
  have HA := Lib.hid hA
  have HE := Lib.hid (fun t (ht : t ∈ ws) => (⟨leastR_le ht, he t ht⟩ : leastR ws ≤ t.length ∧ t.length ≤ 1000000))
  have HF : Hid (∀ c, fstL ws c = mn (hasD ws c) (leastR ws)) := Lib.hid (fun c => rfl)
  clear hL hA he hM
  generalize leastR ws = m at HM0 HE HF ⊢
  have hb := sh_built m
  have HZ : Hid (IsTab (w.alloc (.cells (shCells m) 53)) w.heap.size (fun _ => 0) m) := Lib.hid ⟨_, heap_alloc_new w _, shCells_at m⟩
  have B0 : Below w.heap.size w (w.alloc (.cells (shCells m) 53)) := (Below.refl _ w).alloc (Nat.le_refl _) _
  generalize shCells m = zc at hb HZ B0
  go_enter Try.func10, Try.ntmps10
  go_wp2_with fail
  refine HM0.out.mono ?_
  rintro e w' ⟨rfl, hw⟩
  obtain rfl := hw.symm
  clear hw HM0
  go_wp2_with (refine wpList_built1 rfl 53 1 _ rfl _ rfl zc hb ?_)
  obtain ⟨W0, hW0⟩ : ∃ W0, w.alloc (.cells zc 53) = W0 := ⟨_, rfl⟩
  rw [hW0] at HZ B0 ⊢
  clear hW0 hb
  obtain ⟨b, hb⟩ : ∃ b, w.heap.size = b := ⟨_, rfl⟩
  rw [hb] at HZ ⊢
  have HBE := Lib.hid hb
  clear hb
  have HB0 : Hid (Below w.heap.size w W0) := Lib.hid B0
  clear B0
  obtain ⟨n, hnn⟩ : ∃ n, ws.length = n := ⟨_, rfl⟩
  rw [hnn] at hn
  have HNN := Lib.hid hnn
  have HLN : Hid (∀ W, Below w.heap.size w W → Calls Try.prog 26 #[p] W fun e w' => e = .returned (.int .i64 (n : Int)) ∧ w' = W) := Lib.hid (fun W hW => by have := HLn.out W hW; rwa [hnn] at this)
  clear hnn HLn
  go_loopw [12] (fun i wr => ∃ k : Nat, k ≤ 256 ∧ i = .int .i64 k ∧ Hid (IsTab wr b (fun c => if c < k then m else 0) m) ∧ Hid (Below w.heap.size w wr)) (fun i _ => 256 - (RowKit.intOf i).toNat)
  case atStart => exact ⟨0, Nat.zero_le _, rfl, Lib.hid (HZ.out.congr fun c _ => rfl), HB0⟩
  case round =>
    obtain ⟨k, hk, rfl, HK, HBe⟩ := hrel
    by_cases hlt : k < 256
    · have c0 := HK.out.last
      have c1 := HK.out.cell hlt
      have f1 : wr.frozen? ⟨b, k, none⟩ = false := HK.out.free
      rw [if_neg (Nat.lt_irrefl k)] at c1
      have g0 : (0 : Int) ≤ (k : Int) := by omega
      have g1 : (k : Int) < 256 := by omega
      go_wp2_with fail
      go_region
      have HK2 : Hid (IsTab (wr.setCell ⟨b, k, none⟩ (.int .i64 (m : Int))).drew b (fun c => if c < k + 1 then m else 0) m) := Lib.hid (by
        refine ((HK.out.put hlt).congr fun d hd => ?_).heap rfl
        by_cases e : d = k
        · subst e
          simp
        · simp only [if_neg e]
          by_cases e2 : d < k
          · rw [if_pos e2, if_pos (by omega)]
          · rw [if_neg e2, if_neg (by omega)])
      have HB2 : Hid (Below w.heap.size w (wr.setCell ⟨b, k, none⟩ (.int .i64 (m : Int))).drew) := Lib.hid ((HBe.out.setCell (by rw [HBE.out]; exact Nat.le_refl _) _).drew)
      clear HK HBe
      go_wp2
      exact ⟨⟨k + 1, by omega, by go_num, HK2, HB2⟩, by simp [RowKit.intOf]; omega⟩
    · obtain rfl : k = 256 := by omega
      have HT : Hid (IsTab wr b (fun c => mn (hasD (ws.take 0) c) m) m) := Lib.hid (HK.out.congr fun c hc => by rw [if_pos hc, List.take_zero, low_start])
      obtain ⟨W1, hW1⟩ : ∃ W1, wr = W1 := ⟨_, rfl⟩
      rw [hW1] at HT HBe ⊢
      clear HK hW1
      go_wp2_with fail
      refine (HLN.out _ HBe.out).mono ?_
      rintro e w' ⟨rfl, hw⟩
      obtain rfl := hw.symm
      clear hw
      go_wp2
      go_loopw [27] (fun i wr => ∃ k : Nat, k ≤ n ∧ i = .int .i64 k ∧ Hid (IsTab wr b (fun c => mn (hasD (ws.take k) c) m) m) ∧ Hid (Below w.heap.size w wr)) (fun i _ => n - (RowKit.intOf i).toNat)
      case atStart => exact ⟨0, Nat.zero_le _, rfl, HT, HBe⟩
      case round =>
        obtain ⟨k, hk, rfl, HK, HBk⟩ := hrel
        by_cases hlt : k < n
        · obtain ⟨t, hf⟩ : ∃ t, ws[k]? = some t := ⟨_, List.getElem?_eq_getElem (show k < ws.length by rw [HNN.out]; exact hlt)⟩
          have htl := HE.out t (List.mem_of_getElem? hf)
          have HA1 := Lib.hid (HA.out wr k t HBk.out hf)
          have HLo := Lib.hid (shlower_any HK.out t htl.1 htl.2 (fun c => mn_le _ _))
          have HDn := Lib.hid (fun c => low_done (m := m) hf c)
          clear HK hf htl
          go_wp2_with fail
          refine HA1.out.mono ?_
          rintro e w' ⟨rfl, hw⟩
          obtain rfl := hw.symm
          clear hw
          go_wp2_with fail
          refine HLo.out.mono ?_
          rintro e w3 ⟨rfl, hT3, hI3⟩
          have HT3 : Hid (IsTab w3 b (fun c => mn (hasD (ws.take (k + 1)) c) m) m) := Lib.hid (hT3.congr fun c _ => HDn.out c)
          have HB3 : Hid (Below w.heap.size w w3) := Lib.hid (HBk.out.trans ⟨hI3.os, hI3.tape, hI3.output, Nat.le_of_eq hI3.size.symm, fun i hi => hI3.block i (by rw [HBE.out] at hi; omega)⟩)
          clear hT3 hI3 HBk HLo HA1
          go_wp2
          exact ⟨⟨k + 1, by omega, by go_num, HT3, HB3⟩, by simp [RowKit.intOf]; omega⟩
        · obtain rfl : k = n := by omega
          have hz : ¬ (k : Int) < (k : Int) := by omega
          have HI : Hid (IsTab wr b (fstL ws) m) := Lib.hid (HK.out.congr fun c _ => by rw [HF.out, List.take_of_length_le (by rw [HNN.out]; exact Nat.le_refl _)])
          clear HK
          go_wp2
          go_ret
          exact ⟨b, rfl, Nat.le_of_eq HBE.out, HI.out, HBk.out⟩
end Go.Proofs.Ytfafbjooehachaa
