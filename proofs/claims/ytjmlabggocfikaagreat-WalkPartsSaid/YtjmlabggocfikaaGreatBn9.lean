/-
  Texts put together: ApZ, SpL0.
-/
import Derived.Lib.AppendZerosOnto
import Derived.Laws.AppendOwn
import Derived.WalkKit
import Derived.Below
import Derived.Deep.RegionLaw
import Derived.Test.YtjmlabggocfikaaGreatBn8
import Derived.Test.YtjmlabggocfikaaGreatBn2
import Derived.OneCell
set_option linter.unusedSimpArgs false
set_option linter.unusedVariables false
namespace Go.Proofs.YtjmlabggocfikaaGreat
open Go.RowKit

variable {P : Program}

/-- Zero values are appended where there is room. -/
theorem run_append_room_zeros (w : World) (t tn ty e : TypeId) (i : TypeInfo) (z : Value) (kq kn : IntKind) (ht : P.underlying t = some (.slice e)) (htn : P.underlying tn = some (.int kn)) (hi : P.info? e = some i) (hz : i.zero = some z)
    (hzs : z.cells.size = i.size) (hsz : 0 < i.size) (h1 : ∀ u ∈ z.cells, u.oneCell' = true) (g sLen sCap : Nat) (cur : Array Value) (hg : w.heap[g]? = some (.cells cur e (0, 0))) (k : Nat) (h0 : 0 < k)
    (hroom : sLen + k ≤ sCap) (hfit : (sLen + k) * i.size ≤ cur.size) (h63 : ((sLen + k : Nat) : Int) ≤ 9223372036854775807) (h48 : k * i.bytes ≤ 281474976710656) :
    (Builtin.append_ #[t, tn] ty #[.slice (some ⟨g, 0, none⟩) sLen sCap, .int kq k]).run P w =
      .ok (.slice (some ⟨g, 0, none⟩) (sLen + k) sCap) (w.setRow g (cur.toList.take (sLen * i.size) ++ (Builtin.zeroCells z.cells k).toList ++ cur.toList.drop (sLen * i.size + k * i.size)).toArray) := by
  have hlen : (Builtin.zeroCells z.cells k).toList.length = k * i.size := by rw [Array.length_toList, size_zeroCells, hzs]
  have hone : ∀ u ∈ (Builtin.zeroCells z.cells k).toList, u.oneCell' = true := by
    intro u hu
    unfold Builtin.zeroCells at hu
    rw [Array.toList_map, List.mem_map] at hu
    obtain ⟨j, _, rfl⟩ := hu
    have hp : j % z.cells.size < z.cells.size := Nat.mod_lt _ (by omega)
    rw [getElem!_pos z.cells _ hp]
    exact h1 _ (Array.getElem_mem hp)
  have hst := run_storeCells_at P g (sLen * i.size) e (Builtin.zeroCells z.cells k).toList 0 cur w hg (by rw [hlen, Nat.add_zero, ← Nat.add_mul]; exact hfit) hone
  simp only [Nat.add_zero, hlen] at hst
  have hk : k ≠ 0 := by omega
  have hw : IntKind.i64.wrap (k : Int) = k := by rw [IntKind.wrap_i64]; omega
  have h48i : ¬ (281474976710656 < (k : Int) * (i.bytes : Int)) := by
    rw [← Int.natCast_mul]
    omega
  have hneg : ¬ ((k : Int) < 0) := by omega
  have hns : ¬ (k * i.size = 0) := Nat.mul_ne_zero hk (by omega)
  simp [Builtin.append_, run_underlying ht, run_underlying htn, sizeOf, typeInfo, zeroValue, hi, hz, asInt, asIntOf, hw, hneg, hns, hroom, h48i, Addr.add_lit, hst]

/-- .. to what a call owns. -/
theorem run_append_zeros (w : World) (base : Nat) (t tn ty e : TypeId) (i : TypeInfo) (z : Value) (size bytes : Nat) (kq kn : IntKind) (ht : P.underlying t = some (.slice e)) (htn : P.underlying tn = some (.int kn)) (hi : P.info? e = some i) (hz : i.zero = some z)
    (hsize : i.size = size) (hby : i.bytes = bytes) (hzs : z.cells.size = size) (hsz : 0 < size) (h1 : ∀ u ∈ z.cells, u.oneCell' = true)
    (v : Value) (n : Nat) (xs : List Value) (hown : w.ownsRow base e size v n xs) (m : Nat) (hm : 0 < m)
    (h63 : n + m ≤ maxLen) (hbytes : (n + m) * bytes ≤ 140737488355328) (hbase : base ≤ w.heap.size) :
    ∃ v' w', (Builtin.append_ #[t, tn] ty #[v, .int kq m]).run P w = .ok v' w' ∧ w'.ownsRow base e size v' (n + m) (xs ++ (Builtin.zeroCells z.cells m).toList) ∧ w.grownBy w' v.ownBlock := by
  subst hsize
  subst hby
  have hsmall : n + m ≤ 9223372036854775807 := by simp only [maxLen] at h63; omega
  have hzl : (Builtin.zeroCells z.cells m).toList.length = m * i.size := by rw [Array.length_toList, size_zeroCells, hzs]
  have hlen : (xs ++ (Builtin.zeroCells z.cells m).toList).length = (n + m) * i.size := by rw [List.length_append, hown.1, hzl, Nat.add_mul]
  have hmb : m * i.bytes ≤ 281474976710656 := by
    have := Nat.mul_le_mul_right i.bytes (show m ≤ n + m by omega)
    omega
  have grown : ∀ (old : Nat), old < n + m → ∀ (row : Option Nat),
      (w.drew.alloc (.cells (xs.toArray ++ Builtin.zeroCells z.cells m ++ Builtin.zeroCells z.cells (grownCap w (n + m) old e - (n + m))) e)).ownsRow base e i.size
        (.slice (some ⟨w.heap.size, 0, none⟩) (n + m) (grownCap w (n + m) old e)) (n + m) (xs ++ (Builtin.zeroCells z.cells m).toList) ∧
      w.grownBy (w.drew.alloc (.cells (xs.toArray ++ Builtin.zeroCells z.cells m ++ Builtin.zeroCells z.cells (grownCap w (n + m) old e - (n + m))) e)) row := by
    intro old ho row
    have hge := grownCap_ge w (n + m) old e
    have hcm : grownCap w (n + m) old e ≤ maxLen := grownCap_le_maxLen w (n + m) old e h63
    refine ⟨⟨hlen, .inr ⟨w.heap.size, _, _, rfl, hbase, heap_alloc_new w.drew _, hge, hcm, ?_, ?_⟩⟩, ⟨rfl, rfl, rfl, by simp, fun k hk _ => Below.heap_alloc w.drew _ k hk⟩⟩
    · simp only [Array.size_append, List.size_toArray, size_zeroCells, hzs, hown.1, ← Nat.add_mul]
      congr 1
      omega
    · simp only [Array.toList_append, List.append_assoc]
      rw [← List.append_assoc, ← hlen]
      exact List.take_left
  rcases hown.2 with ⟨rfl, rfl⟩ | ⟨g, cap, cur, rfl, hbg, hg, hnc, hcm, hcs, htake⟩
  · have hx : xs = [] := List.eq_nil_of_length_eq_zero (by simpa using hown.1)
    subst hx
    have hr := Lib.run_append_nil_zeros (P := P) w t tn ty e i z kq kn ht htn hi hz m hm hsz (by omega) hmb
    have hgr := grown 0 (by omega) (Value.ownBlock (.slice none 0 0))
    simp only [Nat.zero_add, List.nil_append, Array.empty_append] at hgr ⊢
    exact ⟨_, _, hr, hgr.1, hgr.2⟩
  · by_cases hroom : n + m ≤ cap
    · have hfit : (n + m) * i.size ≤ cur.size := by rw [hcs]; exact Nat.mul_le_mul_right _ hroom
      have hr := run_append_room_zeros (P := P) w t tn ty e i z kq kn ht htn hi hz hzs hsz h1 g n cap cur hg m hm hroom hfit (by omega) hmb
      refine ⟨_, _, hr, ⟨hlen, .inr ⟨g, cap, _, rfl, hbg, setRow_heap w g cur _ e _ hg, hroom, hcm, ?_, ?_⟩⟩, ⟨rfl, rfl, rfl, by simp, fun k _ hk => setRow_other w g k _ (fun e => hk (by simp [Value.ownBlock, e]))⟩⟩
      · rw [Nat.add_mul] at hfit
        simp only [List.size_toArray, List.length_append, List.length_take, List.length_drop, Array.length_toList, size_zeroCells, hzs]
        omega
      · rw [htake, ← hlen]
        exact List.take_left
    · have holds : ∀ j u, xs[j]? = some u → w.cell? ((⟨g, 0, none⟩ : Addr).add j) = some u := hown.cells (g := g) rfl
      have hf := run_firstCells_some (P := P) w.drew i.size n ⟨g, 0, none⟩ n cap xs hown.1 (by simpa using holds)
      have hr := Lib.run_append_grow_zeros (P := P) w t tn ty e i z kq kn ht htn hi hz (some ⟨g, 0, none⟩) n cap xs hf m hm hsz (by omega) (by omega) hmb (growslice_fits (by omega) hbytes)
      have hgr := grown cap (by omega) (Value.ownBlock (.slice (some ⟨g, 0, none⟩) n cap))
      exact ⟨_, _, hr, hgr.1, hgr.2⟩

theorem wpList_append_zeros (w : World) {ops : Array Oper} {rest : List Oper} {o : Oper} {a : Act} {Q : Exit → Act → World → Prop} (hgd : o.guard = none) (s x : Operand) (t tn : TypeId)
    (ho : o.op = .call { callee := .builtin .append, args := #[s, x], argTypes := #[t, tn] })
    (base : Nat) (e : TypeId) (i : TypeInfo) (z : Value) (size bytes : Nat) (kq kn : IntKind) (ht : P.underlying t = some (.slice e)) (htn : P.underlying tn = some (.int kn)) (hi : P.info? e = some i) (hz : i.zero = some z)
    (hsize : i.size = size) (hby : i.bytes = bytes) (hzs : z.cells.size = size) (hsz : 0 < size) (h1 : ∀ u ∈ z.cells, u.oneCell' = true)
    (v : Value) (n : Nat) (xs : List Value) (hs : a.eval s = v) (hown : w.ownsRow base e size v n xs) (m : Nat) (hx : a.eval x = .int kq m) (hm : 0 < m)
    (h63 : n + m ≤ maxLen) (hbytes : (n + m) * bytes ≤ 140737488355328) (hbase : base ≤ w.heap.size)
    (h : ∀ v' w', w'.ownsRow base e size v' (n + m) (xs ++ (Builtin.zeroCells z.cells m).toList) → w.grownBy w' v.ownBlock → wpList P ops Q rest (a.put o.dst v') w') : wpList P ops Q (o :: rest) a w := by
  obtain ⟨v', w', hr, h2, h3⟩ := run_append_zeros (P := P) w base t tn o.type e i z size bytes kq kn ht htn hi hz hsize hby hzs hsz h1 v n xs hown m hm h63 hbytes hbase
  exact Lib.wpList_append_run w hgd s x t tn ho v (.int kq m) hs hx v' w' hr (h v' w' h2 h3)

/-- .. as a step of a region that draws its order. -/
theorem step_append_zeros (w : World) {ops : Array Oper} {o : Oper} {a : Act} {K : Act → World → Prop} {Q : Exit → Act → World → Prop} {E : Prop} (hgd : o.guard = none) (s x : Operand) (t tn : TypeId)
    (ho : o.op = .call { callee := .builtin .append, args := #[s, x], argTypes := #[t, tn] })
    (base : Nat) (e : TypeId) (i : TypeInfo) (z : Value) (size bytes : Nat) (kq kn : IntKind) (ht : P.underlying t = some (.slice e)) (htn : P.underlying tn = some (.int kn)) (hi : P.info? e = some i) (hz : i.zero = some z)
    (hsize : i.size = size) (hby : i.bytes = bytes) (hzs : z.cells.size = size) (hsz : 0 < size) (h1 : ∀ u ∈ z.cells, u.oneCell' = true)
    (v : Value) (n : Nat) (xs : List Value) (hs : a.eval s = v) (hown : w.ownsRow base e size v n xs) (m : Nat) (hx : a.eval x = .int kq m) (hm : 0 < m)
    (h63 : n + m ≤ maxLen) (hbytes : (n + m) * bytes ≤ 140737488355328) (hbase : base ≤ w.heap.size)
    (h : ∀ v' w', w'.ownsRow base e size v' (n + m) (xs ++ (Builtin.zeroCells z.cells m).toList) → w.grownBy w' v.ownBlock → K (a.put o.dst v') w') :
    if Region.wanted o (yielded ops a.tmps) = true then Oper.wp P o a w K Q else E := by
  have hw : Region.wanted o (yielded ops a.tmps) = true := by simp [Region.wanted, hgd]
  rw [if_pos hw]
  obtain ⟨v', w', hr, h2, h3⟩ := run_append_zeros (P := P) w base t tn o.type e i z size bytes kq kn ht htn hi hz hsize hby hzs hsz h1 v n xs hown m hm h63 hbytes hbase
  exact Lib.wp_append_run w s x t tn ho v (.int kq m) hs hx v' w' hr (h v' w' h2 h3)
end Go.Proofs.YtjmlabggocfikaaGreat

namespace Go.Proofs.YtjmlabggocfikaaGreat
open Go.RowKit

/-- The blocks of a table lie apart. -/
theorem IsSp.apart {w : World} {base b pb : Nat} {k : Option Addr} {P : List Nat} {C : List (Nat × Nat)} {v : Value} (h : IsSp w base b pb k P C v) : b ≠ pb ∧ v.ownBlock ≠ some b ∧ v.ownBlock ≠ some pb := by
  refine ⟨fun e => ?_, fun e => ?_, fun e => ?_⟩
  · have h1 := h.head
    rw [e, h.row] at h1
    simp at h1
  · obtain ⟨_, ⟨hx, _⟩ | ⟨g, cap, cur, hx, _, hg, _⟩⟩ := h.own
    · rw [hx] at e; cases e
    · rw [hx] at e
      simp only [Value.ownBlock, Option.some.injEq] at e
      subst e
      have h1 := h.head
      rw [hg] at h1
      simp at h1
  · obtain ⟨_, ⟨hx, _⟩ | ⟨g, cap, cur, hx, _, hg, _⟩⟩ := h.own
    · rw [hx] at e; cases e
    · rw [hx] at e
      simp only [Value.ownBlock, Option.some.injEq] at e
      subst e
      have h1 := h.row
      rw [hg] at h1
      simp at h1
/-- A cell is put. -/
theorem IsSp.put {w : World} {base b pb g cap n : Nat} {k : Option Addr} {P : List Nat} {C : List (Nat × Nat)} (h : IsSp w base b pb k P C (.slice (some ⟨g, 0, none⟩) n cap)) (hn : n = C.length) {j : Nat} (hj : j < C.length) {o x : Nat} (ho : o ≤ 16777217) (hx : x ≤ 16777217) :
    IsSp ((w.setCell ⟨g, j * 2, none⟩ (.int .i32 (o : Int))).setCell ⟨g, j * 2 + 1, none⟩ (.int .i32 (x : Int))) base b pb k P (C.set j (o, x)) (.slice (some ⟨g, 0, none⟩) n cap) := by
  subst hn
  obtain ⟨_, hb, hp⟩ := h.apart
  have hbg : b ≠ g := fun e => hb (by rw [e]; rfl)
  have hpg : pb ≠ g := fun e => hp (by rw [e]; rfl)
  have h1 := (h.own.stored (j * 2) (.int .i32 (o : Int))).1
  have h2 := (h1.stored (j * 2 + 1) (.int .i32 (x : Int))).1
  rw [fl_set C j o x (List.getElem?_eq_getElem hj)] at h2
  refine ⟨?_, ?_, by rw [List.length_set]; exact h2, h.bb, h.bp, h.plen, by rw [List.length_set]; exact h.clen, h.pfit, fun r hr => ?_⟩
  · rw [put_other hbg, put_other hbg]; exact h.head
  · rw [put_other hpg, put_other hpg]; exact h.row
  · rcases List.mem_or_eq_of_mem_set hr with h3 | rfl
    · exact h.cfit r h3
    · exact ⟨ho, hx⟩
/-- A place is put. -/
theorem IsSp.lay {w : World} {base b pb : Nat} {k : Option Addr} {P : List Nat} {C : List (Nat × Nat)} {v : Value} (h : IsSp w base b pb k P C v) (i : Nat) {p : Nat} (hp : p ≤ 1073741824) : IsSp (w.setCell ⟨pb, i, none⟩ (.int .i32 (p : Int))) base b pb k (P.set i p) C v := by
  obtain ⟨hbp, _, hpv⟩ := h.apart
  refine ⟨?_, ?_, ownsRow_setCell_other h.own hpv _, h.bb, h.bp, by rw [List.length_set]; exact h.plen, h.clen, fun q hq => ?_, h.cfit⟩
  · rw [List.length_set, put_other hbp]; exact h.head
  · rw [put_heap h.row]
    congr 2
    unfold spCells
    rw [List.map_set]
    simp [spV]
  · rcases List.mem_or_eq_of_mem_set hq with h3 | rfl
    · exact h.pfit q h3
    · exact hp
theorem zero_fl (m : Nat) : (Builtin.zeroCells (Value.agg #[.int .i32 0, .int .i32 0]).cells m).toList = flCells (List.replicate m (0, 0)) := by
  have e : (Value.agg #[.int .i32 0, .int .i32 0]).cells = #[.int .i32 0, .int .i32 0] := by rfl
  rw [e, fl_rep]
  unfold Builtin.zeroCells
  apply List.ext_getElem
  · simp
  · intro i h1 h2
    simp at h1
    have : i % 2 = 0 ∨ i % 2 = 1 := by omega
    rcases this with h | h <;> simp [h]
theorem fl_append (C D : List (Nat × Nat)) : flCells C ++ flCells D = flCells (C ++ D) := by simp [flCells]
theorem sp_zero_one : ∀ u ∈ (Value.agg #[.int .i32 0, .int .i32 0]).cells, u.oneCell' = true := by
  intro u hu
  have e : (Value.agg #[.int .i32 0, .int .i32 0]).cells = #[.int .i32 0, .int .i32 0] := by rfl
  rw [e] at hu
  simp at hu
  subst hu; rfl
/-- There are more cells. -/
theorem IsSp.more {w w' : World} {base b pb n m : Nat} {k : Option Addr} {P : List Nat} {C : List (Nat × Nat)} {v v' : Value} (h : IsSp w base b pb k P C v) (hm : m = n - C.length) (hn : C.length ≤ n) (hmax : n ≤ 1073741824)
    (hown : w'.ownsRow base 133 2 v' (C.length + m) (flCells C ++ (Builtin.zeroCells (Value.agg #[.int .i32 0, .int .i32 0]).cells m).toList)) (hg : w.grownBy w' v.ownBlock) :
    w'.heap[b]? = w.heap[b]? ∧ IsSp (w'.setCell ⟨b, 2, none⟩ v') base b pb k P (moreC C n) v' := by
  obtain ⟨hbp, hbv, hpv⟩ := h.apart
  have hb1 := (hg.block b h.lt (Ne.symm hbv)).trans h.head
  have hp1 := (hg.block pb h.ltp (Ne.symm hpv)).trans h.row
  have hl : (moreC C n).length = C.length + m := by rw [more_length]; omega
  have hc : flCells (moreC C n) = flCells C ++ (Builtin.zeroCells (Value.agg #[.int .i32 0, .int .i32 0]).cells m).toList := by
    rw [zero_fl, fl_append, hm]; rfl
  refine ⟨hg.block b h.lt (Ne.symm hbv), ?_, ?_, ?_, h.bb, h.bp, h.plen, by rw [more_length]; have := h.clen; omega, h.pfit, fun r hr => ?_⟩
  · rw [put_heap hb1]; rfl
  · rw [put_other (Ne.symm hbp)]; exact hp1
  · rw [hl, hc]
    refine ownsRow_setCell_other hown (fun e => ?_) _
    obtain ⟨_, ⟨hx, _⟩ | ⟨g, cap, cur, hx, _, hg', _⟩⟩ := hown
    · rw [hx] at e; cases e
    · rw [hx] at e
      simp only [Value.ownBlock, Option.some.injEq] at e
      subst e
      rw [hg'] at hb1
      simp at hb1
  · unfold moreC at hr
    rcases List.mem_append.1 hr with h1 | h1
    · exact h.cfit r h1
    · rw [List.eq_of_mem_replicate h1]; simp
theorem more_none {C : List (Nat × Nat)} {n : Nat} (h : n ≤ C.length) : moreC C n = C := by
  unfold moreC
  rw [show n - C.length = 0 by omega]
  simp
/-- The last of rising bytes is the greatest one. -/
theorem rise_last {l : List UInt8} (h : l.Pairwise (· < ·)) {m : Nat} (hm : m + 1 = l.length) (hml : m < l.length) : ∀ c ∈ l, c.toNat ≤ (l[m]).toNat := by
  intro c hc
  obtain ⟨i, hi, rfl⟩ := List.getElem_of_mem hc
  by_cases e : i = m
  · subst e; exact Nat.le_refl _
  · have := List.pairwise_iff_getElem.1 h i m hi hml (by omega)
    rw [UInt8.lt_iff_toNat_lt] at this
    omega
end Go.Proofs.YtjmlabggocfikaaGreat
