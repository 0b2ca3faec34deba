/-
  Texts put together: PtRl, Mask, OwnNo.
-/
import Derived.Test.YtjmlabggocfikaaGreatBn1
import Derived.Test.YtjmlabggocfikaaGreatBn2
import Derived.Laws.AppendOwn
import Derived.Laws.OwnMore
import Derived.WalkKit
import Derived.Below
set_option linter.unusedSimpArgs false
set_option linter.unusedVariables false
namespace Go.Proofs.YtjmlabggocfikaaGreat
open Go.RowKit

theorem leastR_first {ws : List (List UInt8)} {t : List UInt8} (h : ws[0]? = some t) (ht : t.length ≤ 65535) : leastR (ws.take (0 + 1)) = t.length := by
  have hlt := (List.getElem?_eq_some_iff.1 h).1
  unfold leastR
  rw [if_neg (by rw [List.length_take]; omega), least_snoc h, List.take_zero]
  show min 65535 t.length = _
  omega
theorem leastR_snoc {ws : List (List UInt8)} {k : Nat} {t : List UInt8} (hk : 0 < k) (h : ws[k]? = some t) : leastR (ws.take (k + 1)) = min (leastR (ws.take k)) t.length := by
  have hlt := (List.getElem?_eq_some_iff.1 h).1
  unfold leastR
  rw [if_neg (by rw [List.length_take]; omega), if_neg (by rw [List.length_take]; omega), least_snoc h]

set_option maxHeartbeats 1000000 in
theorem rptleast_any (a : Option Addr) (len cap : Nat) (ws : List (List UInt8)) (w : World) (hlen : len ≤ 1000000) (hr : IsStrs w a len ws) (ht : ∀ t ∈ ws, t.length ≤ 65535) :
    Calls Tryz.prog 20 #[.slice a len cap] w fun e w' => e = .returned (.int .i64 (leastR ws : Int)) ∧ w' = w := by
  have hwl := hr.1
  have HI := Lib.hid hr
  have HT := Lib.hid ht
  have HW : Hid (ws.take len = ws) := Lib.hid (List.take_of_length_le (by omega))
  clear hr ht
  go_enter Tryz.func20, Tryz.ntmps20
  go_wp2
  go_loop [3, 4] (fun x i => ∃ k n : Nat, k ≤ len ∧ i = .int .i64 k ∧ x = .int .i64 n ∧ n ≤ 65535 ∧ Hid (leastR (ws.take k) = n)) (fun _ i => len - (RowKit.intOf i).toNat)
  case atStart => exact ⟨0, 0, Nat.zero_le _, rfl, rfl, by omega, Lib.hid rfl⟩
  case round =>
    obtain ⟨k, n, hk, rfl, rfl, hn, HK⟩ := hrel
    by_cases hlt : k < len
    · obtain ⟨b, off, rfl, t, hf, hc⟩ := str_at HI.out (Below.refl _ _) k hlt
      have HS := Lib.hid (bsize t)
      have htl := HT.out t (List.mem_of_getElem? hf)
      by_cases h0 : k = 0
      · subst h0
        have HK2 := Lib.hid (leastR_first hf htl)
        rw [Nat.add_zero] at hc
        clear hf HK
        go_wp2
        exact ⟨⟨1, t.length, by omega, by go_num, rfl, htl, HK2⟩, by simp [RowKit.intOf]; omega⟩
      · have g0 : ¬ (k : Int) = 0 := by omega
        have g1 : ((k : Int) == 0) = false := by simp [h0]
        by_cases hq : t.length < n
        · have HK2 : Hid (leastR (ws.take (k + 1)) = t.length) := Lib.hid (by rw [leastR_snoc (by omega) hf, HK.out]; omega)
          clear hf HK
          go_wp2
          exact ⟨⟨k + 1, t.length, by omega, by go_num, rfl, htl, HK2⟩, by simp [RowKit.intOf]; omega⟩
        · have HK2 : Hid (leastR (ws.take (k + 1)) = n) := Lib.hid (by rw [leastR_snoc (by omega) hf, HK.out]; omega)
          clear hf HK
          go_wp2
          exact ⟨⟨k + 1, n, by omega, by go_num, rfl, hn, HK2⟩, by simp [RowKit.intOf]; omega⟩
    · obtain rfl : k = len := by omega
      have HE : Hid (leastR ws = n) := Lib.hid (by have := HK.out; rwa [HW.out] at this)
      clear HK
      go_wp2
      go_ret
      exact ⟨by rw [HE.out]; rfl, rfl⟩
end Go.Proofs.YtjmlabggocfikaaGreat

namespace Go.Proofs.YtjmlabggocfikaaGreat

/-- A mask leaves a number that is none greater. -/
theorem mask_at (x : Int) (m : Nat) (hm : m ≤ 1000000000) : ∃ c : Nat, c ≤ m ∧ bits .and .i64 x (m : Int) = (c : Int) := by
  have e : (BitVec.ofInt 64 x &&& BitVec.ofInt 64 (m : Int)).toNat ≤ m := by
    rw [BitVec.toNat_and]
    refine Nat.le_trans Nat.and_le_right ?_
    rw [BitVec.toNat_ofInt]
    omega
  refine ⟨_, e, ?_⟩
  show IntKind.i64.wrap ((BitVec.ofInt 64 x &&& BitVec.ofInt 64 (m : Int)).toNat : Int) = _
  generalize (BitVec.ofInt 64 x &&& BitVec.ofInt 64 (m : Int)).toNat = c at e
  rw [IntKind.wrap_i64]; omega
end Go.Proofs.YtjmlabggocfikaaGreat

namespace Go.Proofs.YtjmlabggocfikaaGreat
open Go.RowKit

theorem wpList_append_no {P : Program} (w : World) {ops : Array Oper} {rest : List Oper} {o : Oper} {a : Act} {Q : Exit → Act → World → Prop} (hgd : o.guard = none) (s x : Operand) (t : TypeId)
    (ho : o.op = .call { callee := .builtin .append, args := #[s, x], argTypes := #[t, t] })
    (base : Nat) (e : TypeId) (i : TypeInfo) (size : Nat) (ht : P.underlying t = some (.slice e)) (hi : P.info? e = some i) (hsize : i.size = size)
    (v : Value) (n : Nat) (xs : List Value) (hs : a.eval s = v) (hown : w.ownsRow base e size v n xs) (hx : a.eval x = .slice none 0 0)
    (h : wpList P ops Q rest (a.put o.dst v) w) : wpList P ops Q (o :: rest) a w := by
  refine wpList_plain hgd fun K hK => ?_
  have hr := run_append_owned_none (P := P) w base t o.type e i size ht hi v n xs hown
  have hK2 := hK _ _ h
  unfold Oper.wp execOp
  simp only [ho, resolve, invoke, builtin, Sem.run_bind, Sem.run_pure, Result.andThen_ok, List.map_toArray, List.map_cons, List.map_nil, hs, hx, hr]
  exact hK2
theorem grown_below {w w' : World} {B size n : Nat} {e : TypeId} {v : Value} {xs : List Value} (hB : B ≤ w.heap.size) (hown : w.ownsRow B e size v n xs) (hg : w.grownBy w' v.ownBlock) : Below B w w' :=
  ⟨hg.os, hg.tape, hg.output, hg.size, fun i hi => hg.block i (by omega) (fun e => by have := (hown.lt i e.symm).1; omega)⟩
end Go.Proofs.YtjmlabggocfikaaGreat
