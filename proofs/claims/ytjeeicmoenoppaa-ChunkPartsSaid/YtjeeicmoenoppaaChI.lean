/-
  chunk.through: what one goes through, part by part.
-/
import Derived.Test.YtjeeicmoenoppaaChL
import Derived.Test.YtjeeicmoenoppaaSeqBox
import Derived.RangeFuncFrom
import Derived.RangeFuncBox
import Derived.RangeFuncNested
import Derived.RangeFuncBound
import Derived.RangeFuncCalls
import Derived.RangeFuncLeaves
import Derived.Shelf.Abstract
import Derived.Shelf.RegionOpen
import Derived.WalkKit
import Derived.OwnWalkIn
import Derived.TacticsInMore
import Derived.LoopNIn
import Derived.LoopIn
import Derived.Maps.AppendAt
import Derived.Lib.Hide
set_option linter.unusedSimpArgs false
set_option linter.unusedVariables false
namespace Go.Proofs.Ytjeeicmoenoppaa
open Go.RowKit Go.Shelf

attribute [local go_sem] Oper.semAt_some

/-- Some blocks are as they were. -/
def KeepAt (S : Nat → Prop) (A B : World) : Prop := ∀ k, S k → B.heap[k]? = A.heap[k]?
theorem KeepAt.refl (S : Nat → Prop) (A : World) : KeepAt S A A := fun _ _ => rfl
theorem KeepAt.trans {S : Nat → Prop} {A B C : World} (h : KeepAt S A B) (h2 : KeepAt S B C) : KeepAt S A C := fun k hk => (h2 k hk).trans (h k hk)
theorem KeepAt.cell {S : Nat → Prop} {A B : World} (h : KeepAt S A B) {b o : Nat} (hb : S b) : B.cell? ⟨b, o, none⟩ = A.cell? ⟨b, o, none⟩ := by
  simp [World.cell?, h b hb]

def thrFunc (b : Nat) : Value := .func (.func 25) #[] #[.pointer (some ⟨b, 0, none⟩)]

theorem through_in (F : Fence) (n : Nat) (h : F.fn 21) (hro : F.round = none) (a : Option Addr) (len cap : Nat) (w : World) :
    CallsIn F n Try.prog 21 #[.slice a len cap] w fun e w' => e = .returned (thrFunc w.heap.size) ∧ w' = w.alloc (.cells #[.slice a len cap] 24) := by
  refine callsIn_of_wp Try.func21 rfl h ?_ hro
  simp only [Try.ntmps21, List.size_toArray, List.length_cons, List.length_nil, Nat.reduceAdd, Nat.reduceSub, Array.replicate_succ, Array.replicate_zero, List.push_toArray, List.append_toArray, List.nil_append, List.cons_append]
  gi_wp2
  go_ret
  exact ⟨rfl, rfl⟩

/-- What is handed over at one go. -/
def encA (x : Nat × List UInt8) : Array Value := #[.int .i64 (x.1 : Int), .string ⟨x.2.toArray⟩]

/-- What is known of it ahead. -/
def okA (x : Nat × List UInt8) : Prop := x.1 ≤ 1000000000000 ∧ x.2.length ≤ 1000000

set_option maxRecDepth 100000 in
set_option maxHeartbeats 2000000 in
theorem thr_in (F : Fence) (n : Nat) (hF : F.fn 25) (hro : F.round = none) (hn : 1 ≤ n) (l Bs : Nat) (S : Nat → Prop) (a : Option Addr) (len cap : Nat) (ws : List (List UInt8)) (hl : len ≤ 1000000) (hs : ∀ t ∈ ws, t.length ≤ 1000000)
    (hS : 0 < len → ∀ b off, a = some ⟨b, off, none⟩ → S b) (J Jx : List (Nat × List UInt8) → World → Prop)
    (hY : ∀ pre x W, J pre W → pre.length < len → okA x → YieldAt F (n - 1) Try.prog l (encA x) W fun e W' =>
      (e = .returned (.bool true) ∧ J (pre ++ [x]) W' ∧ KeepAt S W W') ∨ (e = .returned (.bool false) ∧ Jx (pre ++ [x]) W'))
    (W : World) (hBs : W.cell? ⟨Bs, 0, none⟩ = some (.slice a len cap)) (hr : IsStrs W a len ws) (h0 : J [] W) :
    CallsIn F n Try.prog 25 #[.func (.yield l) #[] #[], .pointer (some ⟨Bs, 0, none⟩)] W fun e W' => (∃ v, e = .returned v) ∧
      ((∃ ys, ys = uptoL ws len ∧ J ys W') ∨ (∃ pre, (∃ k, k ≤ len ∧ pre = uptoL ws k) ∧ Jx pre W')) := by
  have hwl := hr.1
  have HA := Lib.hid (fun k hk => ahd_all hl hs hwl k hk)
  have HL := Lib.hid hs
  clear hs
  refine callsIn_of_wp Try.func25 rfl hF ?_ hro
  simp only [Try.ntmps25, List.size_toArray, List.length_cons, List.length_nil, Nat.reduceAdd, Nat.reduceSub, Array.replicate_succ, Array.replicate_zero, List.push_toArray, List.append_toArray, List.nil_append, List.cons_append]
  gi_wp2
  gi_loopw [3, 8] (fun v i wr => ∃ k m : Nat, k ≤ len ∧ i = .int .i64 k ∧ v = .int .i64 m ∧ Hid (m = ahd ws k) ∧ Hid (J (uptoL ws k) wr) ∧ Hid (KeepAt S W wr)) (fun _ i _ => len - (intOf i).toNat)
  case atStart => exact ⟨0, 0, Nat.zero_le _, rfl, rfl, Lib.hid (ahd_zero ws).symm, Lib.hid h0, Lib.hid (KeepAt.refl _ _)⟩
  case round =>
    obtain ⟨k, m, hk, rfl, rfl, HN, HJ, HK⟩ := hrel
    by_cases hlt : k < len
    · obtain ⟨b, off, rfl, t, hf, hc⟩ := str_at hr (Below.refl _ _) k hlt
      have hcr : wr.cell? ⟨b, off + k, none⟩ = some (.string ⟨t.toArray⟩) := (HK.out.cell (hS (by omega) b off rfl)).trans hc
      have hx : allL ws k = (m, t) := by unfold allL; rw [hf, ← HN.out]; rfl
      have HU : Hid (uptoL ws k ++ [(m, t)] = uptoL ws (k + 1)) := Lib.hid (by rw [uptoL_succ, hx])
      have HN2 : Hid (m + t.length = ahd ws (k + 1)) := Lib.hid (by rw [ahd_succ hf, ← HN.out])
      have hsum : m + t.length ≤ 1000000000000 := by rw [HN2.out]; exact HA.out _ hlt
      have HSZ := Lib.hid (bsize t)
      obtain ⟨fn, tmps, assign, body, hy, hR⟩ := hY _ (m, t) wr HJ.out (by rw [uptoL_length]; exact hlt) ⟨by show m ≤ _; omega, HL.out t (List.mem_of_getElem? hf)⟩
      dsimp only [encA] at hy
      clear hf hx hc HN HJ
      gi_wp2
      refine hR.mono ?_
      rintro e W3 (⟨rfl, hJ3, hk3⟩ | ⟨rfl, hJx3⟩)
      · rw [HU.out] at hJ3
        have HJ3 := Lib.hid hJ3
        have HK3 := Lib.hid (HK.out.trans hk3)
        clear hJ3 hk3 hR hy
        gi_wp2
        go_roundw
        case rel => exact ⟨k + 1, m + t.length, by omega, by go_num, by go_num, HN2, HJ3, HK3⟩
        case measure => simp [intOf]; omega
      · rw [HU.out] at hJx3
        gi_wp2
        refine bodyPost_ret (results_none rfl _ _ _) rfl ?_
        exact ⟨⟨_, rfl⟩, .inr ⟨_, ⟨k + 1, by omega, rfl⟩, hJx3⟩⟩
    · obtain rfl : k = len := by omega
      gi_wp2
      go_end0
      exact ⟨⟨_, rfl⟩, .inl ⟨_, rfl, HJ.out⟩⟩

theorem thr_moves (F : Fence) (n : Nat) (hF : F.fn 25) (hro : F.round = none) (hn : 1 ≤ n) (Bs : Nat) (S : Nat → Prop) (a : Option Addr) (len cap : Nat) (ws : List (List UInt8)) (hl : len ≤ 1000000) (hs : ∀ t ∈ ws, t.length ≤ 1000000)
    (hS : 0 < len → ∀ b off, a = some ⟨b, off, none⟩ → S b) (w : World) (hBs : Bs < w.heap.size) (hc : w.cell? ⟨Bs, 0, none⟩ = some (.slice a len cap)) (hr : IsStrs w a len ws) :
    SeqMoves F n Try.prog 25 #[.pointer (some ⟨Bs, 0, none⟩)] encA (KeepAt S) (fun _ _ => False) okA (fun ys => ys = uptoL ws len) (fun pre => ∃ k, k ≤ len ∧ pre = uptoL ws k) len w := fun l J Jx W hW _ hY h0 =>
  thr_in F n hF hro hn l Bs S a len cap ws hl hs hS J Jx hY W ((hW.cell (p := ⟨Bs, 0, none⟩) hBs).trans hc) (hr.below hW) h0
end Go.Proofs.Ytjeeicmoenoppaa
