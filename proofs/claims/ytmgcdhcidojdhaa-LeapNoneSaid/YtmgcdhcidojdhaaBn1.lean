/-
  Texts put together: Gen, CopyChk, OwnTo, LpF, But, LpB, CaM, CaW, CaB, CpIn, IntoB, CaP.
-/
import Derived.Lib.Builder
import Derived.Laws.IdiomStrings
import Derived.Test.YtmgcdhcidojdhaaRows
import Derived.Shelf.Strings.Builder1
import Derived.WalkKit
import Derived.WalkSpells
import Derived.WalkLawsBesides
import Derived.Lib.Hide
import Derived.Laws.AppendOwn
import Derived.Lib.FrozenHead2
import Derived.Below
import Derived.BigQuiet
import Derived.Shelf.Strings.BuilderF
import Derived.Laws.OwnMore
import Derived.Lib.UnsafeStr
import Derived.Lib.MinMax
import Derived.Lib.Strings
import Derived.Deep.QuietTactic
import Derived.Laws.CopyOwn
set_option linter.unusedSimpArgs false
set_option linter.unusedVariables false
namespace Go.Proofs.Ytmgcdhcidojdhaa
open Go.Lib

theorem bsize (l : List UInt8) : (⟨l.toArray⟩ : ByteArray).size = l.length := by simp [ByteArray.size]

theorem byteAt (d : List UInt8) (k : Nat) (h : k < d.length) (h' : k < (⟨d.toArray⟩ : ByteArray).size) : (⟨d.toArray⟩ : ByteArray)[k]'h' = d[k] := by
  show d.toArray[k] = d[k]
  simp

theorem full_of_pos (d : List UInt8) (h : 0 < d.length) : d.isEmpty = false := by
  cases d with
  | nil => simp at h
  | cons _ _ => rfl

def Int64s (l : List Int) : Prop := ∀ x ∈ l, -9223372036854775808 ≤ x ∧ x ≤ 9223372036854775807

theorem BuilderAt.below {T e : TypeId} {B b : Nat} {p : Value} {bs : List Value} {W W' : World} (h : Lib.BuilderAt T e B b p bs W) (hb : RowKit.Below W.heap.size W W') : Lib.BuilderAt T e B b p bs W' := by
  have hlt := h.lt
  obtain ⟨hB, v, hv, hown, hne⟩ := h
  exact ⟨hB, v, (hb.block b hlt).trans hv, hown.kept (row := none) ⟨hb.os, hb.tape, hb.output, hb.size, fun k hk _ => hb.block k hk⟩ (Classical.em _), hne⟩

theorem IsBuilder.below {T e : TypeId} {B b : Nat} {bs : List Value} {W W' : World} (h : Lib.IsBuilder T e B b bs W) (hb : RowKit.Below W.heap.size W W') : Lib.IsBuilder T e B b bs W' :=
  h.elim (fun x => .inl (BuilderAt.below x hb)) (fun x => .inr (BuilderAt.below x hb))

theorem IsBuilder.lt {T e : TypeId} {B b : Nat} {bs : List Value} {W : World} (h : Lib.IsBuilder T e B b bs W) : b < W.heap.size :=
  h.elim (fun x => x.lt) (fun x => x.lt)

theorem getD_at (l : List Int) (k : Nat) (h : k < l.length) : l.getD k 0 = l[k] := by simp [List.getD, h]

theorem getD_in (l : List Int) (k : Nat) (h : k < l.length) : l.getD k 0 ∈ l := by rw [getD_at l k h]; exact List.getElem_mem _

theorem take_snoc (l : List Int) (k : Nat) (h : k < l.length) : l.take (k + 1) = l.take k ++ [l.getD k 0] := by
  rw [List.take_succ_eq_append_getElem h, getD_at l k h]

/-- A slice of integers that came in: empty, or a row of 'cap' cells, the numbers 'zs' (the first 'len' are its elements). -/
def IsRow (k : IntKind) (w : World) (a : Option Addr) (len cap : Nat) (zs : List Int) : Prop :=
  len = 0 ∨ ∃ b off, a = some ⟨b, off, none⟩ ∧ len ≤ cap ∧ cap ≤ maxLen ∧ zs.length = cap ∧ (∀ i, i < cap → w.cell? ⟨b, off + i, none⟩ = some (.int k (zs.getD i 0)))

theorem IsRow.below {k : IntKind} {w w' : World} {a : Option Addr} {len cap : Nat} {zs : List Int} (h : IsRow k w a len cap zs) (hb : RowKit.Below w.heap.size w w') : IsRow k w' a len cap zs := by
  rcases h with h | ⟨b, off, ha, hl, hm, hz, hc⟩
  · exact .inl h
  · refine .inr ⟨b, off, ha, hl, hm, hz, fun i hi => ?_⟩
    have h1 := hc i hi
    rw [hb.cell (p := ⟨b, off + i, none⟩) (World.block_lt_of_cell? w _ h1)]
    exact h1

theorem heap_lt {w : World} {b : Nat} {o : Obj} (h : w.heap[b]? = some o) : b < w.heap.size := (Array.getElem?_eq_some_iff.1 h).1

theorem set_put {w : World} {b i : Nat} {cs : Array Value} {T : TypeId} (h : w.heap[b]? = some (.cells cs T (0, 0))) (u : Value) : (w.setCell ⟨b, i, none⟩ u).heap[b]? = some (.cells (cs.setIfInBounds i u) T (0, 0)) := by
  simp [World.setCell, Array.getElem?_modify, h]

theorem addPlain (b o j : Nat) : (⟨b, o, none⟩ : Addr).add j = ⟨b, o + j, none⟩ := by simp [Addr.add]

end Go.Proofs.Ytmgcdhcidojdhaa

namespace Go.Proofs.Ytmgcdhcidojdhaa
open Go.RowKit

theorem builder_info : (Try.prog.info? 64).map (·.size) = some 2 := by kernel_rfl
theorem builder_lies : liesAt Try.prog Try.prog.depth 64 (2 / Try.prog.cellsOf 64) 0 64 1 = true := by kernel_rfl
theorem byte_info : (Try.prog.info? 5).map (fun i => (i.zero, i.size, i.bytes)) = some (some (.int .u8 0), 1, 1) := by kernel_rfl

set_option maxHeartbeats 1000000 in
set_option maxRecDepth 100000 in
theorem copyCheck_used (b : Nat) (w : World) (h0 : w.cell? ⟨b, 0, none⟩ = some (.pointer (some ⟨b, 0, none⟩))) :
    Calls Try.prog 37 #[.pointer (some ⟨b, 0, none⟩)] w fun e w' => e = .returned (.tuple #[]) ∧ w' = w := by
  obtain ⟨j, hj, _⟩ := Option.map_eq_some_iff.1 builder_info
  go_enter Try.func37, Try.ntmps37
  go_wp2
  rw [Lib.run_neq_ptr_same w _ Try.underlying62 hj]
  go_wp2
  go_end0
  exact ⟨rfl, rfl⟩

set_option maxHeartbeats 1000000 in
set_option maxRecDepth 100000 in
theorem copyCheck_fresh (b : Nat) (w : World) (h0 : w.cell? ⟨b, 0, none⟩ = some (.pointer none)) (hsh : w.shape? b = some (64, 2)) (hfz : w.frozen? ⟨b, 0, none⟩ = false) :
    Calls Try.prog 37 #[.pointer (some ⟨b, 0, none⟩)] w fun e w' => e = .returned (.tuple #[]) ∧ w' = w.setCell ⟨b, 0, none⟩ (.pointer (some ⟨b, 0, none⟩)) := by
  obtain ⟨j, hj, hjs⟩ := Option.map_eq_some_iff.1 builder_info
  go_enter Try.func37, Try.ntmps37
  go_wp2
  rw [Lib.run_to_unsafe w ⟨b, 0, none⟩ Try.underlying62 Try.underlying110 hj (by rw [hjs]; decide) hsh (Nat.zero_lt_succ 1)]
  simp only [Result.andThen]
  rw [Oper.upon_value]
  go_wp2
  rw [run_callFunc_extern Try.func53 (by kernel_rfl) (by kernel_rfl) (by kernel_rfl) (e := Extern.AbiNoEscape.same) (by kernel_rfl)]
  rw [Lib.run_noEscape]
  simp only [Result.andThen]
  rw [Oper.upon_value]
  go_wp2
  rw [Lib.run_from_unsafe w ⟨b, 0, none⟩ Try.underlying110 Try.underlying62 hj hsh builder_lies]
  simp only [Result.andThen]
  rw [Oper.upon_value]
  go_wp2
  go_end0
  exact ⟨rfl, rfl⟩

/-- All blocks but b, of elements of another type, are as they were. -/
def Kept (b : Nat) (e : TypeId) (w w' : World) : Prop := ∀ x cs T fr, x ≠ b → T ≠ e → w.heap[x]? = some (.cells cs T fr) → w'.heap[x]? = some (.cells cs T fr)

theorem Kept.refl (b : Nat) (e : TypeId) (w : World) : Kept b e w w := fun _ _ _ _ _ _ h => h
theorem Kept.trans {b : Nat} {e : TypeId} {w w' w2 : World} (h : Kept b e w w') (h2 : Kept b e w' w2) : Kept b e w w2 := fun x cs T fr hx hT hh => h2 x cs T fr hx hT (h x cs T fr hx hT hh)
theorem Kept.below {b : Nat} {e : TypeId} {w w' : World} (h : Below w.heap.size w w') : Kept b e w w' := fun x cs T fr _ _ hh => by
  rw [h.block x (heap_lt hh)]; exact hh
theorem Kept.setCell {b : Nat} {e : TypeId} {w w' : World} (h : Kept b e w w') (o : Nat) (v : Value) : Kept b e w (w'.setCell ⟨b, o, none⟩ v) := fun x cs T fr hx hT hh => by
  rw [Below.heap_setCell _ _ _ _ hx]; exact h x cs T fr hx hT hh
theorem Kept.grown {b : Nat} {e : TypeId} {w w1 w' : World} {B n : Nat} {v : Value} {xs : List Value} (h : Kept b e w w1) (hown : w1.ownsRow B e 1 v n xs) (hg : w1.grownBy w' v.ownBlock) : Kept b e w w' := fun x cs T fr hx hT hh => by
  have h1 := h x cs T fr hx hT hh
  have hne := Lib.ownBlock_ne hown h1 hT
  rw [hg.block x (heap_lt h1) (fun e => hne e.symm)]; exact h1
theorem Kept.alloc {b : Nat} {e : TypeId} {w w' : World} (h : Kept b e w w') (o : Obj) : Kept b e w (w'.alloc o) := fun x cs T fr hx hT hh => by
  have h1 := h x cs T fr hx hT hh
  rw [Lib.alloc_old w' _ x (heap_lt h1)]; exact h1

/-- A cell that is there, behind a new block. -/
theorem cell_alloc {w : World} {b j : Nat} {v : Value} (h : w.cell? ⟨b, j, none⟩ = some v) (o : Obj) : (w.alloc o).cell? ⟨b, j, none⟩ = some v := by
  rw [((Below.refl w.heap.size w).alloc (Nat.le_refl _) o).cell (p := ⟨b, j, none⟩) (World.block_lt_of_cell? w _ h)]; exact h
theorem cell_below {w w' : World} {b j : Nat} {v : Value} (h : w.cell? ⟨b, j, none⟩ = some v) (hb : Below w.heap.size w w') : w'.cell? ⟨b, j, none⟩ = some v := by
  rw [hb.cell (p := ⟨b, j, none⟩) (World.block_lt_of_cell? w _ h)]; exact h

theorem copyCheckK (B b : Nat) (bs : List Value) (w : World) (h : Lib.IsBuilder 64 5 B b bs w) :
    Calls Try.prog 37 #[.pointer (some ⟨b, 0, none⟩)] w fun e w' => e = .returned (.tuple #[]) ∧ (Lib.BuilderAt 64 5 B b (.pointer (some ⟨b, 0, none⟩)) bs w' ∧ Below B w w' ∧ Kept b 5 w w') := by
  rcases h with h | h
  · refine (copyCheck_fresh b w h.cell0 h.shape h.frozen0).mono ?_
    rintro e w' ⟨rfl, rfl⟩
    exact ⟨rfl, h.used _, (Below.refl B w).setCell (p := ⟨b, 0, none⟩) h.1 _, (Kept.refl _ _ _).setCell _ _⟩
  · refine (copyCheck_used b w h.cell0).mono ?_
    rintro e w' ⟨rfl, rfl⟩
    exact ⟨rfl, h, Below.refl B _, Kept.refl _ _ _⟩

theorem copyCheck (B b : Nat) (bs : List Value) (w : World) (h : Lib.IsBuilder 64 5 B b bs w) :
    Calls Try.prog 37 #[.pointer (some ⟨b, 0, none⟩)] w fun e w' => e = .returned (.tuple #[]) ∧ (Lib.BuilderAt 64 5 B b (.pointer (some ⟨b, 0, none⟩)) bs w' ∧ Below B w w') :=
  (copyCheckK B b bs w h).mono fun _ _ ⟨a, b, c, _⟩ => ⟨a, b, c⟩

end Go.Proofs.Ytmgcdhcidojdhaa

namespace Go.Proofs.Ytmgcdhcidojdhaa

variable {P : Program}

/-- The outcome lies where the slice lay, or in the block that is made next, or nowhere. -/
theorem run_append_to {w w' : World} {v' : Value} (base : Nat) (t ty e : TypeId) (i : TypeInfo) (z : Value) (size bytes : Nat) (ht : P.underlying t = some (.slice e)) (hi : P.info? e = some i) (hz : i.zero = some z)
    (hsize : i.size = size) (hby : i.bytes = bytes) (hzs : z.cells.size = size) (hsz : 0 < size)
    (v : Value) (n : Nat) (xs : List Value) (hown : w.ownsRow base e size v n xs)
    (a : Addr) (m c : Nat) (news : List Value) (hl : news.length = m * size) (hnews : ∀ j u, news[j]? = some u → w.cell? (a.add j) = some u) (h1 : ∀ u ∈ news, u.oneCell' = true)
    (h63 : n + m ≤ maxLen) (hbytes : (n + m) * bytes ≤ 140737488355328) (hm : 0 < m)
    (hr : (Builtin.append_ #[t, t] ty #[v, .slice (some a) m c]).run P w = .ok v' w') : v'.ownBlock = v.ownBlock ∨ v'.ownBlock = some w.heap.size := by
  subst hsize hby
  have hsmall : n + m ≤ 9223372036854775807 := by simp only [maxLen] at h63; omega
  rcases hown.2 with ⟨rfl, rfl⟩ | ⟨g, cap, cur, rfl, hbg, hg, hnc, hcm, hcs, htake⟩
  · have h2 := run_append_nil (P := P) w t ty e i z ht hi hz a m c news hl hnews (by omega) (by omega) (by have hb := hbytes; simp only [Nat.zero_add] at hb; omega)
    rw [h2] at hr
    cases hr
    exact .inr rfl
  · by_cases hroom : n + m ≤ cap
    · have h2 := run_append_room (P := P) w t ty e i ht hi g n cap cur hg a m c news hl hnews h1 hroom (by rw [hl, hcs, ← Nat.add_mul]; exact Nat.mul_le_mul_right _ hroom)
      rw [h2] at hr
      cases hr
      exact .inl rfl
    · have holds : ∀ j u, xs[j]? = some u → w.cell? ((⟨g, 0, none⟩ : Addr).add j) = some u := hown.cells (g := g) rfl
      have h2 := run_append_grow (P := P) w t ty e i z ht hi hz ⟨g, 0, none⟩ n cap xs hown.1 holds a m c news hl hnews (by omega) (by omega) (growslice_fits (by omega) hbytes)
      rw [h2] at hr
      cases hr
      exact .inr rfl

theorem wpList_append_to (w : World) {ops : Array Oper} {rest : List Oper} {o : Oper} {a : Act} {Q : Exit → Act → World → Prop} (hgd : o.guard = none) (s x : Operand) (t : TypeId)
    (ho : o.op = .call { callee := .builtin .append, args := #[s, x], argTypes := #[t, t] })
    (base : Nat) (e : TypeId) (i : TypeInfo) (z : Value) (size bytes : Nat) (ht : P.underlying t = some (.slice e)) (hi : P.info? e = some i) (hz : i.zero = some z)
    (hsize : i.size = size) (hby : i.bytes = bytes) (hzs : z.cells.size = size) (hsz : 0 < size)
    (v : Value) (n : Nat) (xs : List Value) (hs : a.eval s = v) (hown : w.ownsRow base e size v n xs)
    (ad : Addr) (m c : Nat) (news : List Value) (hx : a.eval x = .slice (some ad) m c) (hl : news.length = m * size) (hnews : ∀ j u, news[j]? = some u → w.cell? (ad.add j) = some u) (h1 : ∀ u ∈ news, u.oneCell' = true)
    (h63 : n + m ≤ maxLen) (hbytes : (n + m) * bytes ≤ 140737488355328) (hbase : base ≤ w.heap.size) (hm : 0 < m)
    (h : ∀ v' w', w'.ownsRow base e size v' (n + m) (xs ++ news) → w.grownBy w' v.ownBlock → (v'.ownBlock = v.ownBlock ∨ v'.ownBlock = some w.heap.size) → wpList P ops Q rest (a.put o.dst v') w') : wpList P ops Q (o :: rest) a w := by
  refine wpList_plain hgd fun K hK => ?_
  obtain ⟨v', w', hr, h2, h3, _⟩ := run_append_own (P := P) w base t o.type e i z size bytes ht hi hz hsize hby hzs hsz v n xs hown ad m c news hl hnews h1 h63 hbytes hbase
  have h4 := run_append_to base t o.type e i z size bytes ht hi hz hsize hby hzs hsz v n xs hown ad m c news hl hnews h1 h63 hbytes hm hr
  have hK2 := hK _ _ (h v' w' h2 h3 h4)
  unfold Oper.wp execOp
  simp only [ho, resolve, invoke, builtin, Sem.run_bind, Sem.run_pure, Result.andThen_ok, List.map_toArray, List.map_cons, List.map_nil, hs, hx, hr]
  exact hK2
end Go.Proofs.Ytmgcdhcidojdhaa

namespace Go.Proofs.Ytmgcdhcidojdhaa

variable {P : Program}

/-- The outcome lies where the slice lay, or in the block that is made next. -/
theorem run_append_toF {w w' : World} {v' : Value} (base : Nat) (t ty e : TypeId) (i : TypeInfo) (z : Value) (size bytes : Nat) (ht : P.underlying t = some (.slice e)) (hi : P.info? e = some i) (hz : i.zero = some z)
    (hsize : i.size = size) (hby : i.bytes = bytes) (hzs : z.cells.size = size) (hsz : 0 < size)
    (v : Value) (n : Nat) (xs : List Value) (hown : w.ownsRowF base e size v n xs)
    (a : Addr) (m c : Nat) (news : List Value) (hl : news.length = m * size) (hnews : ∀ j u, news[j]? = some u → w.cell? (a.add j) = some u) (h1 : ∀ u ∈ news, u.oneCell' = true)
    (h63 : n + m ≤ maxLen) (hbytes : (n + m) * bytes ≤ 140737488355328) (hm : 0 < m)
    (hr : (Builtin.append_ #[t, t] ty #[v, .slice (some a) m c]).run P w = .ok v' w') : v'.ownBlock = v.ownBlock ∨ v'.ownBlock = some w.heap.size := by
  subst hsize hby
  have hsmall : n + m ≤ 9223372036854775807 := by simp only [maxLen] at h63; omega
  rcases hown.2 with ⟨rfl, rfl⟩ | ⟨g, cap, cur, fz, rfl, hbg, hg, hfz, hnc, hcm, hcs, htake⟩
  · have h2 := run_append_nil (P := P) w t ty e i z ht hi hz a m c news hl hnews (by omega) (by omega) (by have hb := hbytes; simp only [Nat.zero_add] at hb; omega)
    rw [h2] at hr
    cases hr
    exact .inr rfl
  · by_cases hroom : n + m ≤ cap
    · have h2 := run_append_roomF (P := P) w t ty e i ht hi g n cap cur fz hg hfz a m c news hl hnews h1 hroom (by rw [hl, hcs, ← Nat.add_mul]; exact Nat.mul_le_mul_right _ hroom)
      rw [h2] at hr
      cases hr
      exact .inl rfl
    · have holds : ∀ j u, xs[j]? = some u → w.cell? ((⟨g, 0, none⟩ : Addr).add j) = some u := hown.cells (g := g) rfl
      have h2 := run_append_grow (P := P) w t ty e i z ht hi hz ⟨g, 0, none⟩ n cap xs hown.1 holds a m c news hl hnews (by omega) (by omega) (growslice_fits (by omega) hbytes)
      rw [h2] at hr
      cases hr
      exact .inr rfl

theorem wpList_append_toF (w : World) {ops : Array Oper} {rest : List Oper} {o : Oper} {a : Act} {Q : Exit → Act → World → Prop} (hgd : o.guard = none) (s x : Operand) (t : TypeId)
    (ho : o.op = .call { callee := .builtin .append, args := #[s, x], argTypes := #[t, t] })
    (base : Nat) (e : TypeId) (i : TypeInfo) (z : Value) (size bytes : Nat) (ht : P.underlying t = some (.slice e)) (hi : P.info? e = some i) (hz : i.zero = some z)
    (hsize : i.size = size) (hby : i.bytes = bytes) (hzs : z.cells.size = size) (hsz : 0 < size)
    (v : Value) (n : Nat) (xs : List Value) (hs : a.eval s = v) (hown : w.ownsRowF base e size v n xs)
    (ad : Addr) (m c : Nat) (news : List Value) (hx : a.eval x = .slice (some ad) m c) (hl : news.length = m * size) (hnews : ∀ j u, news[j]? = some u → w.cell? (ad.add j) = some u) (h1 : ∀ u ∈ news, u.oneCell' = true)
    (h63 : n + m ≤ maxLen) (hbytes : (n + m) * bytes ≤ 140737488355328) (hbase : base ≤ w.heap.size) (hm : 0 < m)
    (h : ∀ v' w', w'.ownsRowF base e size v' (n + m) (xs ++ news) → w.grownBy w' v.ownBlock → (v'.ownBlock = v.ownBlock ∨ v'.ownBlock = some w.heap.size) → wpList P ops Q rest (a.put o.dst v') w') : wpList P ops Q (o :: rest) a w := by
  refine wpList_plain hgd fun K hK => ?_
  obtain ⟨v', w', hr, h2, h3, _⟩ := run_append_ownF (P := P) w base t o.type e i z size bytes ht hi hz hsize hby hzs hsz v n xs hown ad m c news hl hnews h1 h63 hbytes hbase
  have h4 := run_append_toF base t o.type e i z size bytes ht hi hz hsize hby hzs hsz v n xs hown ad m c news hl hnews h1 h63 hbytes hm hr
  have hK2 := hK _ _ (h v' w' h2 h3 h4)
  unfold Oper.wp execOp
  simp only [ho, resolve, invoke, builtin, Sem.run_bind, Sem.run_pure, Result.andThen_ok, List.map_toArray, List.map_cons, List.map_nil, hs, hx, hr]
  exact hK2
end Go.Proofs.Ytmgcdhcidojdhaa

namespace Go.Proofs.Ytmgcdhcidojdhaa
open Go.RowKit

/-- Behind a call that writes one block of its own: all others below 'base' are as they were. -/
structure But (base b : Nat) (w w' : World) : Prop where
  os : w'.os = w.os
  tape : w'.tape = w.tape
  output : w'.output = w.output
  size : w.heap.size ≤ w'.heap.size
  block : ∀ k, k < base → k ≠ b → w'.heap[k]? = w.heap[k]?

theorem But.refl (base b : Nat) (w : World) : But base b w w := ⟨rfl, rfl, rfl, Nat.le_refl _, fun _ _ _ => rfl⟩
theorem But.trans {base b : Nat} {u v w : World} (h : But base b u v) (k : But base b v w) : But base b u w :=
  ⟨k.os.trans h.os, k.tape.trans h.tape, k.output.trans h.output, Nat.le_trans h.size k.size, fun i hi hb => (k.block i hi hb).trans (h.block i hi hb)⟩
theorem But.below {base b : Nat} {w w' : World} (h : But base b w w') (hb : b ≤ base) : Below b w w' :=
  ⟨h.os, h.tape, h.output, h.size, fun k hk => h.block k (by omega) (by omega)⟩
theorem But.of {base b : Nat} {w w' : World} (h : Below base w w') : But base b w w' := ⟨h.os, h.tape, h.output, h.size, fun k hk _ => h.block k hk⟩

theorem owns_slice {w : World} {base : Nat} {e : TypeId} {v : Value} {n : Nat} {xs : List Value} (h : w.ownsRow base e 1 v n xs) : ∃ a cap, v = .slice a n cap := by
  rcases h.2 with ⟨rfl, rfl⟩ | ⟨g, cap, cur, rfl, _⟩
  · exact ⟨_, _, rfl⟩
  · exact ⟨_, _, rfl⟩

theorem owns_some {w : World} {base : Nat} {e : TypeId} {v : Value} {n : Nat} {xs : List Value} (h : w.ownsRow base e 1 v n xs) (hn : 0 < n) : ∃ g cap, base ≤ g ∧ n ≤ cap ∧ v = .slice (some ⟨g, 0, none⟩) n cap := by
  rcases h.2 with ⟨rfl, rfl⟩ | ⟨g, cap, cur, rfl, hg, _, hc, _⟩
  · omega
  · exact ⟨g, cap, hg, hc, rfl⟩

theorem put_heap {w : World} {b i : Nat} {cs : Array Value} {T : TypeId} (h : w.heap[b]? = some (.cells cs T (0, 0))) (u : Value) : (w.setCell ⟨b, i, none⟩ u).heap[b]? = some (.cells (cs.setIfInBounds i u) T (0, 0)) := by
  simp [World.setCell, Array.getElem?_modify, h]

theorem put_other {w : World} {b i k : Nat} (h : k ≠ b) (u : Value) : (w.setCell ⟨b, i, none⟩ u).heap[k]? = w.heap[k]? := Below.heap_setCell _ _ _ _ h

theorem lt_of_heap {w : World} {b : Nat} {o : Obj} (h : w.heap[b]? = some o) : b < w.heap.size := by
  rcases Nat.lt_or_ge b w.heap.size with h' | h'
  · exact h'
  · simp [Array.getElem?_eq_none h'] at h

/-- All that was stored was stored into block b. -/
structure Into (b : Nat) (w w' : World) : Prop where
  os : w'.os = w.os
  tape : w'.tape = w.tape
  output : w'.output = w.output
  size : w'.heap.size = w.heap.size
  block : ∀ k, k ≠ b → w'.heap[k]? = w.heap[k]?
theorem Into.refl (b : Nat) (w : World) : Into b w w := ⟨rfl, rfl, rfl, rfl, fun _ _ => rfl⟩
theorem Into.set {b : Nat} {w v : World} (h : Into b w v) (i : Nat) (u : Value) : Into b w (v.setCell ⟨b, i, none⟩ u) :=
  ⟨h.os, h.tape, h.output, by rw [← h.size]; simp [World.setCell], fun k hk => (put_other hk u).trans (h.block k hk)⟩
theorem Into.drewN {b : Nat} {w v : World} (h : Into b w v) (n : Nat) : Into b w (v.drewN n) := ⟨h.os, h.tape, h.output, h.size, h.block⟩

theorem Into.owns {base b : Nat} {w w' : World} {e : TypeId} {v : Value} {n : Nat} {xs : List Value} (h : Into b w w') (hb : b < base) (hown : w.ownsRow base e 1 v n xs) : w'.ownsRow base e 1 v n xs := by
  obtain ⟨hl, hx⟩ := hown
  refine ⟨hl, ?_⟩
  rcases hx with hx | ⟨g, cap, cur, hv, hg, hh, r⟩
  · exact .inl hx
  · exact .inr ⟨g, cap, cur, hv, hg, (h.block g (by omega)).trans hh, r⟩
end Go.Proofs.Ytmgcdhcidojdhaa

namespace Go.Proofs.Ytmgcdhcidojdhaa
open Go.RowKit

/-- All blocks but b and one more are as they were. -/
structure Save (b : Nat) (r : Option Nat) (w w' : World) : Prop where
  os : w'.os = w.os
  tape : w'.tape = w.tape
  output : w'.output = w.output
  size : w.heap.size ≤ w'.heap.size
  block : ∀ k, k < w.heap.size → k ≠ b → some k ≠ r → w'.heap[k]? = w.heap[k]?

/-- A builder that was written, in block X; v: its bytes. -/
def IsText (w : World) (B X : Nat) (v : Value) (l : List UInt8) : Prop :=
  B ≤ X ∧ w.heap[X]? = some (.cells #[.pointer (some ⟨X, 0, none⟩), v] 64 (0, 0)) ∧ w.ownsRowF B 5 1 v l.length (Lib.byteCells l)
theorem IsText.of {w : World} {B X : Nat} {l : List UInt8} (h : Lib.BuilderAt 64 5 B X (.pointer (some ⟨X, 0, none⟩)) (Lib.byteCells l) w) : ∃ v, IsText w B X v l := by
  obtain ⟨h1, v, h2, h3, _⟩ := h
  rw [Lib.byteCells_length] at h3
  exact ⟨v, h1, h2, World.ownsRowF_of h3⟩
theorem IsText.lt {w : World} {B X : Nat} {v : Value} {l : List UInt8} (h : IsText w B X v l) : X < w.heap.size := by
  rcases Nat.lt_or_ge X w.heap.size with h' | h'
  · exact h'
  · have := h.2.1
    simp [Array.getElem?_eq_none h'] at this
/-- Where its bytes lie. -/
theorem IsText.row {w : World} {B X : Nat} {v : Value} {l : List UInt8} (h : IsText w B X v l) {g : Nat} (hg : v.ownBlock = some g) : B ≤ g ∧ g < w.heap.size ∧ g ≠ X ∧ ∃ cs fz, w.heap[g]? = some (.cells cs 5 fz) := by
  obtain ⟨h1, h2, h3⟩ := h
  rcases h3.2 with ⟨rfl, _⟩ | ⟨g', cap, cur, fz, rfl, hb, hh, _⟩
  · simp [Value.ownBlock] at hg
  · simp only [Value.ownBlock, Option.some.injEq] at hg
    subst hg
    refine ⟨hb, ?_, ?_, cur, fz, hh⟩
    · rcases Nat.lt_or_ge g' w.heap.size with h' | h'
      · exact h'
      · simp [Array.getElem?_eq_none h'] at hh
    · rintro rfl
      rw [h2] at hh
      injection hh with hh
      injection hh with h4 h5 h6
      exact absurd h5 (by decide)
theorem IsText.same {w w' : World} {B X : Nat} {v : Value} {l : List UInt8} (h : IsText w B X v l) (hX : w'.heap[X]? = w.heap[X]?) (hr : ∀ g, v.ownBlock = some g → w'.heap[g]? = w.heap[g]?) : IsText w' B X v l := by
  obtain ⟨h1, h2, hl, hx⟩ := h
  refine ⟨h1, hX.trans h2, hl, ?_⟩
  rcases hx with hx | ⟨g, cap, cur, fz, hv, hg, hh, r⟩
  · exact .inl hx
  · exact .inr ⟨g, cap, cur, fz, hv, hg, (hr g (by rw [hv]; rfl)).trans hh, r⟩
theorem IsText.below {w w' : World} {B X : Nat} {v : Value} {l : List UInt8} (h : IsText w B X v l) (hb : Below w.heap.size w w') : IsText w' B X v l :=
  h.same (hb.block X h.lt) (fun g hg => hb.block g (h.row hg).2.1)

theorem bytesF_app (l : List UInt8) (c : UInt8) : Lib.byteCells l ++ [Value.int .u8 (c.toNat : Int)] = Lib.byteCells (l ++ [c]) := by simp [Lib.byteCells]

set_option maxHeartbeats 2000000 in
set_option maxRecDepth 100000 in
theorem lpbyte_any {B X : Nat} {v : Value} {l : List UInt8} {w : World} (c : UInt8) (h : IsText w B X v l) (hlen : l.length ≤ 1000000000) (hBw : B ≤ w.heap.size) :
    Calls Try.prog 41 #[.pointer (some ⟨X, 0, none⟩), .int .u8 (c.toNat : Int)] w fun e w' => e = .returned .nilIface ∧ ∃ v', IsText w' B X v' (l ++ [c]) ∧ (v'.ownBlock = v.ownBlock ∨ ∃ g, v'.ownBlock = some g ∧ w.heap.size ≤ g) ∧ Save X v.ownBlock w w' := by
  obtain ⟨i0, hi, hz0, hz1, hz2⟩ := info_parts byte_info
  have hX := h.lt
  have hrow := fun g hg => h.row (g := g) hg
  obtain ⟨hB, hbk, hown⟩ := h
  have c0 : w.cell? ⟨X, 0, none⟩ = some (.pointer (some ⟨X, 0, none⟩)) := by rw [Lib.cell_of_heap hbk]; rfl
  have c1 : w.cell? ⟨X, 1, none⟩ = some v := by rw [Lib.cell_of_heap hbk]; rfl
  go_enter Try.func41, Try.ntmps41
  go_wp2_with (go_at_call 37; refine (copyCheck_used X _ c0).mono ?_)
  rintro e w1 ⟨rfl, hw1⟩
  obtain rfl := hw1.symm
  clear hw1
  go_wp2_with (at_builtin; refine wpList_append_toF _ rfl _ _ 51 rfl B 5 i0 (.int .u8 0) 1 1 Try.underlying51 hi hz0 hz1 hz2 rfl (by decide) _ _ _ rfl (hown.alloc _) ⟨w.heap.size, 0, none⟩ 1 1 [.int .u8 (c.toNat : Int)] rfl rfl ?c1 ?c2 ?c3 ?c4 ?c5 ?c6 ?_)
  case c1 =>
    intro j u hj
    match j, hj with
    | 0, hj => simp at hj; subst hj; simp [Addr.add]
  case c2 => intro u hu; simp at hu; subst hu; rfl
  case c3 => unfold maxLen; omega
  case c4 => omega
  case c5 => simp; omega
  case c6 => omega
  intro v' w2 hown' hgrow hto
  have hgr : ∀ k, k < w.heap.size → some k ≠ v.ownBlock → w2.heap[k]? = w.heap[k]? := fun k hk hne => by
    rw [hgrow.block k (by simp; omega) hne, Lib.alloc_old w _ k hk]
  have hb2 : w2.heap[X]? = some (.cells #[.pointer (some ⟨X, 0, none⟩), v] 64 (0, 0)) := by
    rw [hgr X hX (fun e => (hrow X e.symm).2.2.1 rfl)]
    exact hbk
  have d0 : w2.cell? ⟨X, 0, none⟩ = some (.pointer (some ⟨X, 0, none⟩)) := by rw [Lib.cell_of_heap hb2]; rfl
  have d1 : w2.cell? ⟨X, 1, none⟩ = some v := by rw [Lib.cell_of_heap hb2]; rfl
  have f1 : w2.frozen? ⟨X, 1, none⟩ = false := Lib.frozen_of_heap hb2 1
  obtain ⟨g, cap, rfl⟩ : ∃ g cap, v' = .slice (some ⟨g, 0, none⟩) (l.length + 1) cap := by
    rcases hown'.2 with ⟨_, h0⟩ | ⟨g, cap, cur, fz, hv, _⟩
    · omega
    · exact ⟨g, cap, hv⟩
  have HO := Lib.hid hown'
  have HG := Lib.hid hgr
  have HT := Lib.hid hto
  have HS := Lib.hid hgrow
  have HB2 := Lib.hid hb2
  clear hown' hgr hto hgrow hrow hown
  go_wp2
  go_ret
  refine ⟨rfl, _, ⟨hB, (put_heap HB2.out _).trans rfl, ?_⟩, ?_, HS.out.os, HS.out.tape, HS.out.output, ?_, fun k hk h1 h2 => (put_other h1 _).trans (HG.out k hk h2)⟩
  · have e : (l ++ [c]).length = l.length + 1 := by simp
    rw [← bytesF_app, e]
    have hne : (Value.slice (some ⟨g, 0, none⟩) (l.length + 1) cap).ownBlock ≠ some X := Lib.ownBlock_neF HO.out HB2.out (by decide)
    exact HO.out.kept (row := some X) ⟨rfl, rfl, rfl, by simp [World.setCell], fun k _ hk => Below.heap_setCell _ _ _ _ (fun e => hk (by simp [e]))⟩ (Or.inr hne)
  · rcases HT.out with h | h
    · exact .inl h
    · exact .inr ⟨_, h, by simp⟩
  · have := HS.out.size
    simp [World.setCell] at this ⊢
    omega

set_option maxHeartbeats 2000000 in
set_option maxRecDepth 100000 in
/-- String: the bytes are frozen; all else is as it was. -/
theorem lpstr_any {B X : Nat} {v : Value} {l : List UInt8} {w : World} (h : IsText w B X v l) (h0 : l ≠ []) :
    Calls Try.prog 24 #[.pointer (some ⟨X, 0, none⟩)] w fun e w' => e = .returned (.string ⟨l.toArray⟩) ∧ IsText w' B X v l ∧ Save X v.ownBlock w w' := by
  have hrow := fun g hg => h.row (g := g) hg
  obtain ⟨hB, hbk, hown⟩ := h
  have hl0 : l.length ≠ 0 := by simpa using h0
  obtain ⟨g, cap, cur, fz, rfl, hbg, hg, hfz, hnc, hcm, hcs, htake⟩ : ∃ g cap cur fz, v = .slice (some ⟨g, 0, none⟩) l.length cap ∧ B ≤ g ∧ w.heap[g]? = some (.cells cur 5 fz) ∧ fz.2 ≤ l.length * 1 ∧ l.length ≤ cap ∧ cap ≤ maxLen ∧ cur.size = cap * 1 ∧ cur.toList.take (l.length * 1) = Lib.byteCells l := by
    rcases hown.2 with ⟨_, hz⟩ | ⟨g, cap, cur, fz, hv, r⟩
    · exact absurd hz hl0
    · exact ⟨g, cap, cur, fz, hv, r⟩
  have hA : Lib.BuilderAtF 64 5 B X (.pointer (some ⟨X, 0, none⟩)) (Lib.byteCells l) w.drew := ⟨hB, _, hbk, by rw [Lib.byteCells_length]; exact hown, fun e => (hrow X e).2.2.1 rfl⟩
  have c1 : w.drew.cell? ⟨X, 1, none⟩ = some (.slice (some ⟨g, 0, none⟩) l.length cap) := by
    have : w.drew.heap[X]? = some (.cells #[.pointer (some ⟨X, 0, none⟩), .slice (some ⟨g, 0, none⟩) l.length cap] 64 (0, 0)) := hbk
    rw [Lib.cell_of_heap this]; rfl
  have hF := hA.froze (g := g) (cap := cap) (by rw [Lib.byteCells_length]; exact c1)
  rw [Lib.byteCells_length] at hF
  have hgX : g ≠ X := (hrow g rfl).2.2.1
  have hSD : (Builtin.unsafeSliceData_ #[51] 89 #[.slice (some ⟨g, 0, none⟩) l.length cap]).run Try.prog w.drew = .ok (.pointer (some ⟨g, 0, none⟩)) w.drew :=
    Lib.run_unsafeSliceData_row _ _ _ _ _ _ (by omega)
  have hUS : (Builtin.unsafeString_ #[89, 3] 9 #[.pointer (some ⟨g, 0, none⟩), .int .i64 l.length]).run Try.prog w.drew = .ok (.string ⟨l.toArray⟩) (w.drew.freeze ⟨g, 0, none⟩ l.length) := by
    refine Lib.run_unsafeString_row w.drew 89 3 9 5 Try.underlying89 (by kernel_rfl) g cur.size (by have hg' : w.drew.heap[g]? = some (.cells cur 5 fz) := hg; simp [World.shape?, hg']) l h0 (by omega) (by unfold maxLen at hcm; omega) ?_
    intro j x hx
    have := hown.cells (g := g) rfl j (.int .u8 x.toNat) (by simp [Lib.byteCells, hx])
    exact this
  have hfin : IsText (w.drew.freeze ⟨g, 0, none⟩ l.length) B X (.slice (some ⟨g, 0, none⟩) l.length cap) l := by
    obtain ⟨k1, v', k2, k3, _⟩ := hF
    have e : (w.drew.freeze ⟨g, 0, none⟩ l.length).heap[X]? = w.heap[X]? := (Lib.below_freeze (B := g) (w := w.drew) (Below.refl g w.drew) (p := ⟨g, 0, none⟩) (Nat.le_refl _) l.length |> fun h => by
      unfold World.freeze
      rw [if_neg hl0]
      simp only [Array.getElem?_modify]
      rw [if_neg hgX]
      rfl)
    rw [e, hbk] at k2
    injection k2 with k2
    injection k2 with k4 k5 k6
    simp at k4
    subst k4
    rw [Lib.byteCells_length] at k3
    exact ⟨hB, e.trans hbk, k3⟩
  have hsav : Save X (some g) w (w.drew.freeze ⟨g, 0, none⟩ l.length) := by
    refine ⟨?_, ?_, ?_, ?_, fun k hk h1 h2 => ?_⟩ <;> unfold World.freeze <;> rw [if_neg hl0]
    · rfl
    · rfl
    · rfl
    · simp
    · simp only [Array.getElem?_modify]
      rw [if_neg (fun e => h2 (by rw [← e]))]
      rfl
  have HFIN := Lib.hid hfin
  have HSAV := Lib.hid hsav
  clear hfin hsav hF hA hrow
  go_enter Try.func24, Try.ntmps24
  go_wp2
  go_region
  all_goals (go_wp2; go_ret; exact ⟨rfl, HFIN.out, HSAV.out⟩)
end Go.Proofs.Ytmgcdhcidojdhaa

namespace Go.Proofs.Ytmgcdhcidojdhaa
open Go.RowKit

/-- What stands of a text behind one end, up to another one. -/
def midL (s : List UInt8) (f t : Nat) : List UInt8 := (s.take t).drop f
theorem midL_length (s : List UInt8) (f t : Nat) (ht : t ≤ s.length) : (midL s f t).length = t - f := by
  unfold midL
  rw [List.length_drop, List.length_take]
  omega
theorem midL_none (s : List UInt8) (f : Nat) : midL s f f = [] := List.eq_nil_of_length_eq_zero (by unfold midL; rw [List.length_drop, List.length_take]; omega)
theorem midL_whole (s : List UInt8) (f : Nat) : midL s f s.length = s.drop f := by unfold midL; rw [List.take_length]
theorem midL_get (s : List UInt8) (f t j : Nat) (ht : t ≤ s.length) (hj : j < t - f) : (midL s f t)[j]? = s[f + j]? := by
  unfold midL
  rw [List.getElem?_drop, List.getElem?_take, if_pos (by omega)]

/-- The byte of an end, if it is kept. -/
def byK (s : List UInt8) (done keep : Nat) (e : Int) : Option UInt8 := if (done : Int) - keep < e ∧ 0 < e ∧ e ≤ s.length then s[(e - 1).toNat]? else none
/-- The last bytes up to an end, if they are told. -/
def tlK (s : List UInt8) (done keep : Nat) (e : Int) : Option (List UInt8) := if (done : Int) ≤ e ∧ e ≤ s.length then some (midL s (e.toNat - keep) e.toNat) else none
/-- These, as an answer. -/
def byR : Option UInt8 → Value × Bool
  | none => (.int .u8 0, false)
  | some x => (.int .u8 (x.toNat : Int), true)
def tlR : Option (List UInt8) → Value × Bool
  | none => (.string ⟨#[]⟩, false)
  | some l => (.string ⟨l.toArray⟩, true)
def cvR (p : Value × Bool) : Ending := .returned (.tuple #[p.1, .bool p.2])

/-- A carry that lies in block b; its bytes lie in a block from 'base' on, if there are any. -/
def IsCarry (w : World) (base b keep : Nat) (s : List UInt8) (done : Nat) : Prop :=
  b < base ∧ base ≤ w.heap.size ∧ 1 ≤ keep ∧ keep ≤ 65536 ∧ done ≤ s.length ∧ ∃ (gone : Nat) (v : Value), gone ≤ done - keep ∧
    w.heap[b]? = some (.cells #[.int .i64 keep, v, .int .i64 s.length, .int .i64 done] 53 (0, 0)) ∧
    w.ownsRow base 5 1 v (s.length - gone) (Lib.byteCells (s.drop gone))

theorem IsCarry.drewN {w : World} {base b keep done : Nat} {s : List UInt8} (h : IsCarry w base b keep s done) (n : Nat) : IsCarry (w.drewN n) base b keep s done := h
theorem IsCarry.drew {w : World} {base b keep done : Nat} {s : List UInt8} (h : IsCarry w base b keep s done) : IsCarry w.drew base b keep s done := h
theorem IsCarry.lt {w : World} {base b keep done : Nat} {s : List UInt8} (h : IsCarry w base b keep s done) : b < w.heap.size := by
  obtain ⟨h1, h2, _⟩ := h
  omega
/-- Where its own blocks are as they were it is one still. -/
theorem IsCarry.same {w w' : World} {base b keep done : Nat} {s : List UInt8} (h : IsCarry w base b keep s done) (hs : w.heap.size ≤ w'.heap.size) (hb : w'.heap[b]? = w.heap[b]?) (hk : ∀ k, base ≤ k → k < w.heap.size → w'.heap[k]? = w.heap[k]?) : IsCarry w' base b keep s done := by
  obtain ⟨h1, h2, h3, h4, h5, gone, v, h6, h7, hl, hx⟩ := h
  refine ⟨h1, by omega, h3, h4, h5, gone, v, h6, hb.trans h7, hl, ?_⟩
  rcases hx with hx | ⟨g, cap, cur, hv, hg, hh, r⟩
  · exact .inl hx
  · exact .inr ⟨g, cap, cur, hv, hg, (hk g hg (lt_of_heap hh)).trans hh, r⟩
theorem IsCarry.below {w w' : World} {base b keep done : Nat} {s : List UInt8} (h : IsCarry w base b keep s done) (hb : Below w.heap.size w w') : IsCarry w' base b keep s done :=
  h.same hb.size (hb.block b h.lt) (fun k _ hk => hb.block k hk)
/-- .. and where another block is written, ahead of its bytes. -/
theorem IsCarry.apart {w w' : World} {base b keep done B c : Nat} {s : List UInt8} (h : IsCarry w base b keep s done) (hk : But B c w w') (hB : w.heap.size ≤ B) (hc : c < base) (hcb : c ≠ b) : IsCarry w' base b keep s done :=
  h.same hk.size (hk.block b (by have := h.lt; omega) (fun e => hcb e.symm)) (fun k h1 h2 => hk.block k (by omega) (by omega))

/-- What its cells hold. -/
theorem carry_reads {w : World} {b keep seen done : Nat} {v : Value} (h : w.heap[b]? = some (.cells #[.int .i64 keep, v, .int .i64 seen, .int .i64 done] 53 (0, 0))) :
    (w.cell? ⟨b, 0, none⟩ = some (.int .i64 keep) ∧ w.cell? ⟨b, 1, none⟩ = some v ∧ w.cell? ⟨b, 2, none⟩ = some (.int .i64 seen) ∧ w.cell? ⟨b, 3, none⟩ = some (.int .i64 done)) ∧
    w.frozen? ⟨b, 1, none⟩ = false ∧ w.frozen? ⟨b, 2, none⟩ = false ∧ w.frozen? ⟨b, 3, none⟩ = false := by
  refine ⟨⟨?_, ?_, ?_, ?_⟩, Lib.frozen_of_heap h 1, Lib.frozen_of_heap h 2, Lib.frozen_of_heap h 3⟩ <;> rw [Lib.cell_of_heap h] <;> rfl

/-- A carry to which nothing came. -/
theorem carry_new {w : World} {base b keep : Nat} (h1 : 1 ≤ keep) (h2 : keep ≤ 65536) (hb : b < base) (hB : base ≤ w.heap.size) (hh : w.heap[b]? = some (.cells #[.int .i64 keep, .slice none 0 0, .int .i64 0, .int .i64 0] 53 (0, 0))) : IsCarry w base b keep [] 0 :=
  ⟨hb, hB, h1, h2, Nat.le_refl _, 0, .slice none 0 0, by omega, hh, World.ownsRow_nil _ _ _ _⟩

/-- A slice of bytes, in memory. -/
def Piece (w : World) (v : Value) (l : List UInt8) : Prop :=
  ∃ (a : Option Addr) (cap : Nat), v = .slice a l.length cap ∧ (0 < l.length → ∃ g off, a = some ⟨g, off, none⟩ ∧ l.length ≤ cap ∧ ∀ j (hj : j < l.length), w.cell? ⟨g, off + j, none⟩ = some (.int .u8 ((l[j]'hj).toNat : Int)))
theorem Piece.heap {w w' : World} {v : Value} {l : List UInt8} (h : Piece w v l) (hw : w'.heap = w.heap) : Piece w' v l := by
  obtain ⟨a, cap, rfl, h1⟩ := h
  refine ⟨a, cap, rfl, fun hl => ?_⟩
  obtain ⟨g, off, rfl, h2, h3⟩ := h1 hl
  exact ⟨g, off, rfl, h2, fun j hj => (World.cell?_of_block (w := w) (by rw [hw])).trans (h3 j hj)⟩
/-- Its cells. -/
theorem Piece.cells {w : World} {v : Value} {l : List UInt8} (h : Piece w v l) : ∃ (a : Option Addr) (cap : Nat), v = .slice a l.length cap ∧ (0 < l.length → ∃ g off, a = some ⟨g, off, none⟩ ∧ l.length ≤ cap ∧ ∀ j u, (Lib.byteCells l)[j]? = some u → w.cell? ((⟨g, off, none⟩ : Addr).add j) = some u) := by
  obtain ⟨a, cap, rfl, h1⟩ := h
  refine ⟨a, cap, rfl, fun hl => ?_⟩
  obtain ⟨g, off, rfl, h2, h3⟩ := h1 hl
  refine ⟨g, off, rfl, h2, fun j u hu => ?_⟩
  have hj : j < l.length := by
    rcases Nat.lt_or_ge j l.length with h | h
    · exact h
    · simp [Lib.byteCells, h] at hu
  rw [addPlain, h3 j hj]
  simp only [Lib.byteCells, List.getElem?_map, List.getElem?_eq_getElem hj, Option.map_some] at hu
  exact hu
/-- .. as a string says it. -/
theorem Piece.text {w : World} {v : Value} {l : List UInt8} (h : Piece w v l) : (convert 51 9 v).run Try.prog w = .ok (.string ⟨l.toArray⟩) w := by
  obtain ⟨a, cap, rfl, h1⟩ := h
  rcases Nat.eq_zero_or_pos l.length with h0 | h0
  · obtain rfl := List.eq_nil_of_length_eq_zero h0
    cases a with
    | none =>
      rw [run_convert_bytes_string w 51 9 5 none _ cap Try.underlying51 Try.underlying5 Try.underlying9]
      rfl
    | some p => exact run_convert_bytes_back w 51 9 5 p cap [] Try.underlying51 Try.underlying5 Try.underlying9 (fun j hj => by simp at hj)
  · obtain ⟨g, off, rfl, _, h3⟩ := h1 h0
    exact run_convert_bytes_back w 51 9 5 _ cap l Try.underlying51 Try.underlying5 Try.underlying9 (fun j hj => by rw [addPlain]; exact h3 j hj)
end Go.Proofs.Ytmgcdhcidojdhaa

namespace Go.Proofs.Ytmgcdhcidojdhaa
open Go.RowKit

set_option maxRecDepth 100000 in
set_option maxHeartbeats 1000000 in
theorem canew_bad (n : Int) (w : World) (h : n < 1 ∨ 65536 < n) :
    Calls Try.prog 6 #[.int .i64 n] w fun e w' => e = .returned (.tuple #[.pointer none, .int .i64 2]) ∧ w' = w := by
  by_cases h1 : n < 1
  · go_enter Try.func6, Try.ntmps6
    go_wp2
    go_ret2
    exact ⟨rfl, rfl⟩
  · have h2 : 65536 < n := by omega
    go_enter Try.func6, Try.ntmps6
    go_wp2
    go_ret2
    exact ⟨rfl, rfl⟩

set_option maxRecDepth 100000 in
set_option maxHeartbeats 1000000 in
theorem canew_w (n : Nat) (w : World) (h1 : 1 ≤ n) (h2 : n ≤ 65536) :
    Calls Try.prog 6 #[.int .i64 n] w fun e w' => e = .returned (.tuple #[.pointer (some ⟨w.heap.size, 0, none⟩), .int .i64 0]) ∧ w' = w.alloc (.cells #[.int .i64 n, .slice none 0 0, .int .i64 0, .int .i64 0] 53) := by
  go_enter Try.func6, Try.ntmps6
  go_wp2
  go_ret2
  exact ⟨rfl, rfl⟩
set_option maxRecDepth 100000 in
theorem canew_any (n : Nat) (w : World) (h1 : 1 ≤ n) (h2 : n ≤ 65536) :
    Calls Try.prog 6 #[.int .i64 n] w fun e w' => e = .returned (.tuple #[.pointer (some ⟨w.heap.size, 0, none⟩), .int .i64 0]) ∧ IsCarry w' (w.heap.size + 1) w.heap.size n [] 0 ∧ w'.heap.size = w.heap.size + 1 ∧ Below w.heap.size w w' := by
  refine (canew_w n w h1 h2).mono ?_
  rintro e w' ⟨rfl, rfl⟩
  exact ⟨rfl, carry_new h1 h2 (by omega) (by simp) (heap_alloc_new w _), by simp, (Below.refl _ _).alloc (Nat.le_refl _) _⟩

set_option maxRecDepth 100000 in
set_option maxHeartbeats 400000 in
theorem caseen_nil (w : World) : Calls Try.prog 22 #[.pointer none] w fun e w' => e = .returned (.int .i64 0) ∧ w' = w := by
  go_enter Try.func22, Try.ntmps22
  go_wp2
  go_ret
  exact ⟨rfl, rfl⟩
set_option maxRecDepth 100000 in
set_option maxHeartbeats 400000 in
theorem caseen_any {w : World} {base b keep done : Nat} {s : List UInt8} (h : IsCarry w base b keep s done) : Calls Try.prog 22 #[.pointer (some ⟨b, 0, none⟩)] w fun e w' => e = .returned (.int .i64 s.length) ∧ w' = w := by
  obtain ⟨_, _, _, _, _, gone, v, _, hh, _⟩ := h
  obtain ⟨⟨c0, c1, c2, c3⟩, _⟩ := carry_reads hh
  clear hh
  go_enter Try.func22, Try.ntmps22
  go_wp2
  go_ret
  exact ⟨rfl, rfl⟩
set_option maxRecDepth 100000 in
set_option maxHeartbeats 1000000 in
theorem cafirst_any {w : World} {base b keep done : Nat} {s : List UInt8} (h : IsCarry w base b keep s done) (hs : s.length ≤ 1000000000) : Calls Try.prog 58 #[.pointer (some ⟨b, 0, none⟩)] w fun e w' => e = .returned (.int .i64 ((done - keep : Nat) : Int)) ∧ ∃ q, w' = w.drewN q := by
  obtain ⟨_, _, h3, h4, h5, gone, v, _, hh, _⟩ := h
  obtain ⟨⟨c0, c1, c2, c3⟩, _⟩ := carry_reads hh
  have HM : Hid (max ((done : Int) - keep) 0 = ((done - keep : Nat) : Int)) := Lib.hid (by omega)
  clear hh
  go_enter Try.func58, Try.ntmps58
  go_wp2_with fail
  go_quiet (fail)
  go_wp2
  go_ret
  exact ⟨by rw [HM.out]; rfl, _, rfl⟩
set_option maxRecDepth 100000 in
set_option maxHeartbeats 1000000 in
theorem cabet_none {w : World} {base b keep done : Nat} {s : List UInt8} (h : IsCarry w base b keep s done) (hs : s.length ≤ 1000000000) (h0 : done ≤ keep) :
    ∃ v, Piece w v [] ∧ ∀ W : World, W.heap = w.heap → Calls Try.prog 52 #[.pointer (some ⟨b, 0, none⟩), .int .i64 0, .int .i64 0] W fun e w' => e = .returned v ∧ ∃ q, w' = W.drewN q := by
  obtain ⟨_, _, h3, h4, h5, gone, v, h6, hh, hown⟩ := h
  obtain rfl : gone = 0 := by omega
  obtain ⟨a, cap, rfl⟩ := owns_slice hown
  rw [Nat.sub_zero] at hh
  rcases hown.2 with ⟨ha, hn⟩ | ⟨g, cap', cur, ha, _⟩
  · simp only [Value.slice.injEq] at ha
    obtain ⟨rfl, _, rfl⟩ := ha
    rw [Nat.sub_zero] at hn
    rw [hn] at hh
    refine ⟨.slice none 0 0, ⟨none, 0, rfl, fun h => by simp at h⟩, fun W hW => ?_⟩
    rw [← hW] at hh
    obtain ⟨⟨c0, c1, c2, c3⟩, _⟩ := carry_reads hh
    clear hh hown hW
    go_enter Try.func52, Try.ntmps52
    go_wp2_with fail
    go_quiet (fail)
    go_wp2
    go_ret
    exact ⟨rfl, _, rfl⟩
  · simp only [Value.slice.injEq] at ha
    obtain ⟨rfl, _, rfl⟩ := ha
    refine ⟨.slice (some ⟨g, 0, none⟩) 0 cap, ⟨_, _, rfl, fun h => by simp at h⟩, fun W hW => ?_⟩
    rw [← hW] at hh
    obtain ⟨⟨c0, c1, c2, c3⟩, _⟩ := carry_reads hh
    clear hh hown hW
    go_enter Try.func52, Try.ntmps52
    go_wp2_with fail
    go_quiet (fail)
    go_wp2
    go_ret
    exact ⟨rfl, _, rfl⟩
end Go.Proofs.Ytmgcdhcidojdhaa

namespace Go.Proofs.Ytmgcdhcidojdhaa
open Go.RowKit

set_option maxRecDepth 100000 in
set_option maxHeartbeats 1000000 in
theorem cabet_some {w : World} {base b keep done : Nat} {s : List UInt8} (h : IsCarry w base b keep s done) (hs : s.length ≤ 1000000000) (f t : Nat) (hf : done - keep ≤ f) (hft : f < t) (ht : t ≤ s.length) :
    ∃ v, Piece w v (midL s f t) ∧ ∀ W : World, W.heap = w.heap → Calls Try.prog 52 #[.pointer (some ⟨b, 0, none⟩), .int .i64 f, .int .i64 t] W fun e w' => e = .returned v ∧ ∃ q, w' = W.drewN q := by
  obtain ⟨_, _, h3, h4, h5, gone, v, h6, hh, hown⟩ := h
  obtain ⟨n, hn⟩ : ∃ n, s.length = gone + n := ⟨s.length - gone, by omega⟩
  obtain ⟨i, rfl⟩ : ∃ i, f = gone + i := ⟨f - gone, by omega⟩
  obtain ⟨m, rfl⟩ : ∃ m, t = gone + i + m := ⟨t - (gone + i), by omega⟩
  have hng : s.length - gone = n := by omega
  rw [hng] at hown
  obtain ⟨g, cap, _, hcap, rfl⟩ := owns_some hown (by omega)
  have HP : Piece w (.slice (some ⟨g, i, none⟩) m (cap - i)) (midL s (gone + i) (gone + i + m)) := by
    have hl := midL_length s (gone + i) (gone + i + m) ht
    have hl' : (midL s (gone + i) (gone + i + m)).length = m := by omega
    refine ⟨_, _, by rw [hl'], fun _ => ⟨g, i, rfl, by omega, fun j hj => ?_⟩⟩
    rw [hown.cellAt (i + j) (by omega)]
    have e := midL_get s (gone + i) (gone + i + m) j ht (by omega)
    rw [List.getElem?_eq_getElem hj] at e
    simp only [Lib.byteCells, List.getElem?_map, List.getElem?_drop]
    rw [show gone + (i + j) = gone + i + j by omega, ← e]
    rfl
  refine ⟨_, HP, fun W hW => ?_⟩
  rw [hn] at hh
  rw [← hW] at hh
  obtain ⟨⟨c0, c1, c2, c3⟩, _⟩ := carry_reads hh
  have k0 : (gone : Int) + n ≤ 1000000000 := by omega
  have k1 : (i : Int) + m ≤ n := by omega
  have k2 : (n : Int) ≤ cap := by omega
  have k3 : ¬ cap = i := by omega
  have k4 : ¬ cap = gone + i - gone := by omega
  have HE : Hid (gone + i - gone = i) := Lib.hid (by omega)
  have HE2 : Hid (gone + i + m - gone - i = m) := Lib.hid (by omega)
  clear HP hW hh hown hn hng ht hft hf h6 h5 hs
  go_enter Try.func52, Try.ntmps52
  go_wp2_with fail
  go_quiet (fail)
  go_wp2
  go_ret
  refine ⟨?_, _, rfl⟩
  show Ending.returned (.slice (some ⟨g, gone + i - gone, none⟩) (gone + i + m - gone - (gone + i - gone)) (cap - (gone + i - gone))) = _
  rw [HE.out, HE2.out]
set_option maxRecDepth 100000 in
theorem cabet_any {w : World} {base b keep done : Nat} {s : List UInt8} (h : IsCarry w base b keep s done) (hs : s.length ≤ 1000000000) (f t : Nat) (hf : done - keep ≤ f) (hft : f < t ∨ f = 0 ∧ t = 0) (ht : t ≤ s.length) :
    ∃ v, Piece w v (midL s f t) ∧ ∀ W : World, W.heap = w.heap → Calls Try.prog 52 #[.pointer (some ⟨b, 0, none⟩), .int .i64 f, .int .i64 t] W fun e w' => e = .returned v ∧ ∃ q, w' = W.drewN q := by
  rcases hft with h2 | ⟨rfl, rfl⟩
  · exact cabet_some h hs f t hf h2 ht
  · rw [midL_none]
    exact cabet_none h hs (by omega)

set_option maxRecDepth 100000 in
theorem byK_in {s : List UInt8} {done keep e : Nat} (h1 : done - keep < e) (h2 : e ≤ s.length) : ∃ x, byK s done keep e = some x ∧ midL s (e - 1) e = [x] := by
  have hj : e - 1 < s.length := by omega
  refine ⟨s[e - 1], ?_, List.ext_getElem? fun j => ?_⟩
  · unfold byK
    rw [if_pos (by omega), show ((e : Int) - 1).toNat = e - 1 by omega]
    exact List.getElem?_eq_getElem hj
  · rcases Nat.eq_zero_or_pos j with rfl | hp
    · rw [midL_get s (e - 1) e 0 h2 (by omega), Nat.add_zero, List.getElem?_eq_getElem hj]
      rfl
    · rw [List.getElem?_eq_none (by rw [midL_length s _ _ h2]; omega), List.getElem?_eq_none (by simp; omega)]
set_option maxRecDepth 100000 in
theorem byK_out {s : List UInt8} {done keep : Nat} {e : Int} (h : e ≤ ((done - keep : Nat) : Int) ∨ (s.length : Int) < e) : byK s done keep e = none := if_neg (by omega)

set_option maxRecDepth 100000 in
set_option maxHeartbeats 400000 in
theorem cabyte_nil (e : Int) (w : World) : Calls Try.prog 40 #[.pointer none, .int .i64 e] w fun e w' => e = .returned (.tuple #[.int .u8 0, .bool false]) ∧ w' = w := by
  go_enter Try.func40, Try.ntmps40
  go_wp2
  go_ret2
  exact ⟨rfl, rfl⟩
set_option maxRecDepth 100000 in
set_option maxHeartbeats 1000000 in
theorem cabyte_any {w : World} {base b keep done : Nat} {s : List UInt8} (h : IsCarry w base b keep s done) (hs : s.length ≤ 1000000000) (e : Int) :
    Calls Try.prog 40 #[.pointer (some ⟨b, 0, none⟩), .int .i64 e] w fun x w' => x = cvR (byR (byK s done keep e)) ∧ ∃ q, w' = w.drewN q := by
  have HF := Lib.hid (cafirst_any h hs)
  have HB := Lib.hid (fun f t => cabet_any h hs f t)
  have HX := Lib.hid (fun (n : Nat) (h1 : done - keep < n) (h2 : n ≤ s.length) => byK_in (s := s) (keep := keep) (done := done) h1 h2)
  have HN := Lib.hid (fun (h : e ≤ ((done - keep : Nat) : Int) ∨ (s.length : Int) < e) => byK_out (s := s) (done := done) (keep := keep) h)
  obtain ⟨_, _, h3, h4, h5, gone, v, h6, hh, hown⟩ := h
  obtain ⟨⟨c0, c1, c2, c3⟩, _⟩ := carry_reads hh
  clear h5 h6 hh hown
  generalize done - keep = f at *
  by_cases h1 : e ≤ (f : Int)
  · have K1 := Lib.hid (HN.out (.inl h1))
    go_enter Try.func40, Try.ntmps40
    go_wp2_with fail
    refine HF.out.mono ?_
    rintro e' w' ⟨rfl, q, rfl⟩
    go_wp2
    go_ret2
    exact ⟨by rw [K1.out]; rfl, q, rfl⟩
  · by_cases h2 : (s.length : Int) < e
    · have K1 := Lib.hid (HN.out (.inr h2))
      go_enter Try.func40, Try.ntmps40
      go_wp2_with fail
      refine HF.out.mono ?_
      rintro e' w' ⟨rfl, q, rfl⟩
      go_wp2
      go_ret2
      exact ⟨by rw [K1.out]; rfl, q, rfl⟩
    · obtain ⟨n, rfl⟩ : ∃ n : Nat, e = ((n + 1 : Nat) : Int) := ⟨(e - 1).toNat, by omega⟩
      obtain ⟨x, hx1, hx2⟩ := HX.out (n + 1) (by omega) (by omega)
      have KX := Lib.hid hx1
      obtain ⟨v', hp, hb⟩ := HB.out n (n + 1) (by omega) (by omega) (by omega)
      have KB := Lib.hid hb
      rw [show n + 1 - 1 = n by omega] at hx2
      rw [hx2] at hp
      obtain ⟨a, cap, rfl, hp⟩ := hp
      obtain ⟨g, off, rfl, hcap, hc⟩ := hp (by simp)
      have hc0 : w.cell? ⟨g, off, none⟩ = some (.int .u8 (x.toNat : Int)) := hc 0 (by simp)
      clear hc hp hb
      clear hx1 hx2 HX HB HN
      go_enter Try.func40, Try.ntmps40
      go_wp2_with fail
      refine HF.out.mono ?_
      rintro e' w' ⟨rfl, q, rfl⟩
      go_wp2_with fail
      refine (KB.out (w.drewN q) rfl).mono ?_
      rintro e' w' ⟨rfl, q2, rfl⟩
      clear KB HF
      go_wp2
      go_ret2
      exact ⟨by rw [KX.out]; rfl, _, rfl⟩

set_option maxRecDepth 100000 in
theorem tlK_out {s : List UInt8} {done keep : Nat} {e : Int} (h : e < (done : Int) ∨ (s.length : Int) < e) : tlK s done keep e = none := if_neg (by omega)
set_option maxRecDepth 100000 in
theorem tlK_in {s : List UInt8} {done keep e : Nat} (h1 : done ≤ e) (h2 : e ≤ s.length) : tlK s done keep e = some (midL s (e - keep) e) := by
  unfold tlK
  rw [if_pos (by omega), Int.toNat_natCast]

set_option maxRecDepth 100000 in
set_option maxHeartbeats 400000 in
theorem catail_nil (e : Int) (w : World) : Calls Try.prog 36 #[.pointer none, .int .i64 e] w fun e w' => e = .returned (.tuple #[.string ⟨#[]⟩, .bool false]) ∧ w' = w := by
  go_enter Try.func36, Try.ntmps36
  go_wp2
  go_ret2
  exact ⟨rfl, rfl⟩
set_option maxRecDepth 100000 in
set_option maxHeartbeats 1000000 in
theorem catail_any {w : World} {base b keep done : Nat} {s : List UInt8} (h : IsCarry w base b keep s done) (hs : s.length ≤ 1000000000) (e : Int) :
    Calls Try.prog 36 #[.pointer (some ⟨b, 0, none⟩), .int .i64 e] w fun x w' => x = cvR (tlR (tlK s done keep e)) ∧ ∃ q, w' = w.drewN q := by
  have HB := Lib.hid (fun f t => cabet_any h hs f t)
  have HX := Lib.hid (fun (n : Nat) (h1 : done ≤ n) (h2 : n ≤ s.length) => tlK_in (s := s) (keep := keep) h1 h2)
  have HN := Lib.hid (fun (h : e < (done : Int) ∨ (s.length : Int) < e) => tlK_out (s := s) (done := done) (keep := keep) h)
  obtain ⟨_, _, h3, h4, h5, gone, v, h6, hh, hown⟩ := h
  obtain ⟨⟨c0, c1, c2, c3⟩, _⟩ := carry_reads hh
  clear h6 hh hown
  by_cases h1 : e < (done : Int)
  · have K1 := Lib.hid (HN.out (.inl h1))
    clear HB HX HN
    go_enter Try.func36, Try.ntmps36
    go_wp2
    go_ret2
    exact ⟨by rw [K1.out]; rfl, 0, rfl⟩
  · by_cases h2 : (s.length : Int) < e
    · have K1 := Lib.hid (HN.out (.inr h2))
      clear HB HX HN
      go_enter Try.func36, Try.ntmps36
      go_wp2
      go_ret2
      exact ⟨by rw [K1.out]; rfl, 0, rfl⟩
    · obtain ⟨n, rfl⟩ : ∃ n : Nat, e = (n : Int) := ⟨e.toNat, by omega⟩
      have KX := Lib.hid (HX.out n (by omega) (by omega))
      obtain ⟨v', hp, hb⟩ := HB.out (n - keep) n (by omega) (by omega) (by omega)
      have KB := Lib.hid (hb w rfl)
      have HP := Lib.hid (fun q => (hp.heap (w' := w.drewN q) rfl).text)
      clear hp hb
      have KM : Hid (max ((n : Int) - keep) 0 = ((n - keep : Nat) : Int)) := Lib.hid (by omega)
      have hn : (n : Int) ≤ 1000000000 := by omega
      clear HB HX HN
      go_enter Try.func36, Try.ntmps36
      go_wp2_with fail
      rw [KM.out]
      refine KB.out.mono ?_
      rintro e' w' ⟨rfl, q, rfl⟩
      have hcv := HP.out q
      clear KB HP
      go_wp2
      go_ret2
      exact ⟨by rw [KX.out]; rfl, q, rfl⟩
end Go.Proofs.Ytmgcdhcidojdhaa

namespace Go.Proofs.Ytmgcdhcidojdhaa
open Go.RowKit


/-- 'copy' into a row of a block: all else is as it was. -/
theorem wpList_copy_into {P : Program} {w : World} {ops : Array Oper} {rest : List Oper} {o : Oper} {a : Act} {Q : Exit → Act → World → Prop} (hgd : o.guard = none) (d s : Operand) (dT sT : TypeId)
    (ho : o.op = .call { callee := .builtin .copy, args := #[d, s], argTypes := #[dT, sT] }) (elem : TypeId) (hu : P.underlying dT = some (.slice elem)) (hsz : (P.info? elem).map (·.size) = some 1)
    (g off dLen dCap : Nat) (ad : Addr) (sLen sCap : Nat) (hd : a.eval d = .slice (some ⟨g, off, none⟩) dLen dCap) (hs : a.eval s = .slice (some ad) sLen sCap)
    (cur : List Value) (t : TypeId) (hg : w.heap[g]? = some (.cells cur.toArray t (0, 0))) (cs : List Value) (hn : cs.length = Nat.min sLen dLen)
    (hsrc : ∀ j v, cs[j]? = some v → w.cell? (ad.add j) = some v) (hfit : off + cs.length ≤ cur.length) (h1 : ∀ v ∈ cs, v.oneCell' = true)
    (h : ∀ w', Into g w w' → Hid (w'.heap[g]? = some (.cells (splice cur off cs).toArray t (0, 0))) → wpList P ops Q rest (a.put o.dst (goInt cs.length)) w') : wpList P ops Q (o :: rest) a w := by
  refine wpList_copy_own hgd d s dT sT ho elem hu hsz g off dLen dCap ad sLen sCap hd hs cur.toArray t hg cs hn hsrc (by simpa using hfit) h1 ?_
  refine h _ ⟨rfl, rfl, rfl, by simp [World.setRow], fun k hk => setRow_other w g k _ hk⟩ (show _ = _ by simpa [splice] using setRow_heap w g _ _ t _ hg)

end Go.Proofs.Ytmgcdhcidojdhaa

namespace Go.Proofs.Ytmgcdhcidojdhaa
open Go.RowKit

theorem Into.trans {b : Nat} {u v w : World} (h : Into b u v) (k : Into b v w) : Into b u w := ⟨k.os.trans h.os, k.tape.trans h.tape, k.output.trans h.output, k.size.trans h.size, fun i hi => (k.block i hi).trans (h.block i hi)⟩
theorem Into.belowTo {b B : Nat} {w w' : World} (h : Into b w w') (hB : B ≤ b) : Below B w w' := ⟨h.os, h.tape, h.output, Nat.le_of_eq h.size.symm, fun k hk => h.block k (by omega)⟩
end Go.Proofs.Ytmgcdhcidojdhaa

namespace Go.Proofs.Ytmgcdhcidojdhaa
open Go.RowKit

set_option maxRecDepth 100000 in
theorem ca8_info : (Try.prog.info? 5).map (fun i => (i.zero, i.size, i.bytes)) = some (some (.int .u8 0), 1, 1) := by kernel_rfl
set_option maxRecDepth 100000 in
theorem ca8_size : (Try.prog.info? 5).map (·.size) = some 1 := by kernel_rfl

set_option maxRecDepth 100000 in
set_option maxHeartbeats 400000 in
theorem caadd_nil (t : ByteArray) (w : World) : Calls Try.prog 7 #[.pointer none, .string t] w fun e w' => e = .returned (.tuple #[]) ∧ w' = w := by
  go_enter Try.func7, Try.ntmps7
  go_wp2
  refine bodyPost_ret (results_none rfl _ _ _) rfl ?_
  exact ⟨rfl, rfl⟩

set_option maxRecDepth 100000 in
/-- A carry whose cells were laid anew. -/
theorem carry_done {base b keep done gone : Nat} {s : List UInt8} {v : Value} {w w' W : World} (hb : b < base) (hB : base ≤ w.heap.size) (h3 : 1 ≤ keep) (h4 : keep ≤ 65536) (h5 : done ≤ s.length) (h6 : gone ≤ done - keep) (hbut : But base b w w') (hin : Into b w' W)
    (hh : W.heap[b]? = some (.cells #[.int .i64 keep, v, .int .i64 s.length, .int .i64 done] 53 (0, 0))) (hown : w'.ownsRow base 5 1 v (s.length - gone) (Lib.byteCells (s.drop gone))) :
    IsCarry W base b keep s done ∧ But base b w W :=
  ⟨⟨hb, by have := hbut.size; have := hin.size; omega, h3, h4, h5, gone, v, h6, hh, hin.owns hb hown⟩,
    hin.os.trans hbut.os, hin.tape.trans hbut.tape, hin.output.trans hbut.output, by have := hbut.size; have := hin.size; omega, fun k hk hkb => (hin.block k hkb).trans (hbut.block k hk hkb)⟩

set_option maxRecDepth 100000 in
theorem cells_app (l t : List UInt8) : Lib.byteCells (l ++ t) = Lib.byteCells l ++ Lib.byteCells t := by simp [Lib.byteCells]
set_option maxRecDepth 100000 in
theorem cells_text (t : List UInt8) : Lib.strCells ⟨t.toArray⟩ = Lib.byteCells t := rfl

set_option maxRecDepth 100000 in
set_option maxHeartbeats 2000000 in
theorem caadd_any {w : World} {base b keep done : Nat} {s : List UInt8} (h : IsCarry w base b keep s done) (t : List UInt8) (hs : s.length + t.length ≤ 1000000000) :
    Calls Try.prog 7 #[.pointer (some ⟨b, 0, none⟩), .string ⟨t.toArray⟩] w fun e w' => e = .returned (.tuple #[]) ∧ IsCarry w' base b keep (s ++ t) done ∧ But base b w w' := by
  obtain ⟨hb, hB, h3, h4, h5, gone, v, h6, hh, hown⟩ := h
  obtain ⟨i0, hi, hz0, hz1, hz2⟩ := info_parts ca8_info
  obtain ⟨a, cap, rfl⟩ := owns_slice hown
  obtain ⟨⟨c0, c1, c2, c3⟩, _⟩ := carry_reads hh
  have hsz := bsize t
  have HS := Lib.hid hsz
  go_enter Try.func7, Try.ntmps7
  go_wp2_with (at_builtin; refine Lib.wpList_append_own_string _ rfl _ _ 51 9 rfl base 5 i0 Try.underlying51 Try.underlying9 hi hz0 hz1 hz2 _ _ _ rfl hown ⟨t.toArray⟩ rfl ?c3 ?c4 ?c5 ?_)
  case c3 => unfold maxLen; omega
  case c4 => omega
  case c5 => omega
  intro v' w2 hown' hgrow _
  have hbw : b < w.heap.size := lt_of_heap hh
  have hne : ∀ k, k < base → some k ≠ (Value.slice a (s.length - gone) cap).ownBlock := fun k hk e => by have := (hown.lt k e.symm).1; omega
  have hh2 : w2.heap[b]? = some (.cells #[.int .i64 keep, .slice a (s.length - gone) cap, .int .i64 s.length, .int .i64 done] 53 (0, 0)) := (hgrow.block b hbw (hne b hb)).trans hh
  have hb2 : But base b w w2 := ⟨hgrow.os, hgrow.tape, hgrow.output, hgrow.size, fun k hk hkb => hgrow.block k (by omega) (hne k hk)⟩
  have hlen : s.length - gone + (⟨t.toArray⟩ : ByteArray).size = (s ++ t).length - gone := by rw [hsz, List.length_append]; omega
  have hown3 : w2.ownsRow base 5 1 v' ((s ++ t).length - gone) (Lib.byteCells ((s ++ t).drop gone)) := by
    rw [List.drop_append_of_le_length (by omega), cells_app, ← hlen]
    exact hown'
  have HO := Lib.hid hown3
  have HB2 := Lib.hid hb2
  have HL : Hid (((s ++ t).length : Int) = (s.length : Int) + (t.length : Int)) := Lib.hid (by rw [List.length_append]; omega)
  clear hgrow hne hown hh c0 c1 c2 c3 hown' hown3 hb2 hlen hsz
  obtain ⟨⟨c0, c1, c2, c3⟩, f1, f2, f3⟩ := carry_reads hh2
  obtain ⟨a', cap', rfl⟩ := owns_slice HO.out
  go_wp2
  go_end0
  refine ⟨rfl, carry_done (gone := gone) hb hB h3 h4 (by have := HL.out; omega) h6 HB2.out (((Into.refl b w2).set 1 _).set 2 _) ?_ HO.out⟩
  refine (put_heap (put_heap hh2 _) _).trans ?_
  rw [HL.out]
  simp [HS.out]

set_option maxRecDepth 100000 in
theorem ca_make (n : Nat) (w : World) (hn : n ≤ 1000000000) : (Instr.makeSlice 51 (.int .i64 (n : Int)) (.int .i64 (n : Int))).run Try.prog w = .ok (.slice (some ⟨w.heap.size, 0, none⟩) n n) (w.alloc (.cells (List.replicate n (Value.int .u8 0)).toArray 5)) := by
  obtain ⟨i0, hi, hz0, hz1, hz2⟩ := info_parts ca8_info
  have h := run_make (P := Try.prog) w 51 5 i0 (.int .u8 0) Try.underlying51 hi hz0 .i64 .i64 n n (by omega) (Int.le_refl _) (by rw [hz2]; omega) (by omega)
  rw [h, hz1, Nat.mul_one, Int.toNat_natCast]
  congr 3
  show madeCells #[Value.int .u8 0] n = _
  rw [← toList_madeCells_one]

set_option maxRecDepth 100000 in
/-- No cell of a carry's own block is a byte. -/
theorem carry_ne {w : World} {b keep seen done L cap o : Nat} {a : Option Addr} {x : Int} (h : w.heap[b]? = some (.cells #[.int .i64 keep, .slice a L cap, .int .i64 seen, .int .i64 done] 53 (0, 0))) (hc : w.cell? ⟨b, o, none⟩ = some (.int .u8 x)) : False := by
  rw [Lib.cell_of_heap h] at hc
  match o, hc with
  | 0, hc => simp at hc
  | 1, hc => simp at hc
  | 2, hc => simp at hc
  | 3, hc => simp at hc
  | (o + 4), hc => simp at hc

set_option maxRecDepth 100000 in
theorem splice_all {α : Type} (L cs : List α) (h : cs.length = L.length) : splice L 0 cs = cs := by
  unfold splice
  rw [List.take_zero, List.nil_append, Nat.zero_add, h, List.drop_length, List.append_nil]

set_option maxRecDepth 100000 in
set_option maxHeartbeats 4000000 in
theorem cagive_any {w : World} {base b keep done : Nat} {s : List UInt8} (h : IsCarry w base b keep s done) (hs : s.length ≤ 1000000000) :
    Calls Try.prog 42 #[.pointer (some ⟨b, 0, none⟩)] w fun e w' => e = .returned (.tuple #[]) ∧ IsCarry w' base b keep s done ∧ But w.heap.size b w w' := by
  have H0 := Lib.hid h
  have HF := Lib.hid (fun q => Calls.quiet_of (cafirst_any (h.drewN q) hs))
  have h3 := h.2.2.1
  have h5 := h.2.2.2.2.1
  obtain ⟨v', hp, hb⟩ := cabet_any h hs (done - keep) s.length (by omega) (by omega) (by omega)
  have HB := Lib.hid (fun q => Calls.quiet_of (hb (w.drewN q) rfl))
  rw [midL_whole] at hp
  have hdl : (s.drop (done - keep)).length = s.length - (done - keep) := List.length_drop
  obtain ⟨hbb, hB, _, h4, _, gone, v, h6, hh, hown⟩ := h
  obtain ⟨a, cap, rfl⟩ := owns_slice hown
  obtain ⟨⟨c0, c1, c2, c3⟩, f1, _⟩ := carry_reads hh
  obtain ⟨a', cap', rfl, hp2⟩ := hp.cells
  clear hp
  have hp := hp2
  clear hp2
  rw [hdl] at hp HB
  have HD := Lib.hid hdl
  have HP := Lib.hid hp
  have HO := Lib.hid hown
  have HH := Lib.hid hh
  have hbw := lt_of_heap hh
  obtain ⟨f, hf⟩ : ∃ f, done - keep = f := ⟨_, rfl⟩
  have hfl : f ≤ s.length := by omega
  rw [hf] at HF HB HD HP h6
  have HFE := Lib.hid hf
  obtain ⟨n, hn⟩ : ∃ n, s.length - f = n := ⟨_, rfl⟩
  rw [hn] at HB HD HP
  obtain ⟨L, hL⟩ : ∃ L, s.length - gone = L := ⟨_, rfl⟩
  rw [hL] at c1 HO HH
  have hnl : n ≤ L := by omega
  have hLs : L ≤ 1000000000 := by omega
  have HL := Lib.hid hL
  have HN := Lib.hid hn
  clear hp hb hown hh hdl hf hL hn hs
  by_cases hstay : (L : Int) - (n : Int) ≤ (n : Int)
  · go_enter Try.func42, Try.ntmps42
    go_wp2_with fail
    go_quiet (first | with_reducible exact HF.out _ | with_reducible exact HB.out _)
    go_wp2
    refine bodyPost_ret (results_none rfl _ _ _) rfl ?_
    exact ⟨rfl, H0.out.drewN _, rfl, rfl, rfl, Nat.le_refl _, fun _ _ _ => rfl⟩
  · have hn0 : 0 < n := by
      have := HN.out
      have := HFE.out
      have := HL.out
      omega
    obtain ⟨g, off, rfl, hcap, hc⟩ := HP.out (hn0)
    have HMK := Lib.hid (fun W => ca_make n W (by omega))
    have HC := Lib.hid hc
    clear hc HP
    go_enter Try.func42, Try.ntmps42
    go_wp2_with fail
    go_quiet (first | with_reducible exact HF.out _ | with_reducible exact HB.out _)
    obtain ⟨w2, hw2, hmk⟩ : ∃ w2, w2 = (w.drewN nq).alloc (.cells (List.replicate n (Value.int .u8 0)).toArray 5) ∧ (Instr.makeSlice 51 (.int .i64 (n : Int)) (.int .i64 (n : Int))).run Try.prog (w.drewN nq) = .ok (.slice (some ⟨w.heap.size, 0, none⟩) n n) w2 := ⟨_, rfl, HMK.out (w.drewN nq)⟩
    have hh2 : w2.heap[b]? = some (.cells #[.int .i64 keep, .slice a L cap, .int .i64 s.length, .int .i64 done] 53 (0, 0)) := by
      rw [hw2]
      exact (Lib.alloc_old (w.drewN nq) _ b hbw).trans HH.out
    have hg2 : w2.heap[w.heap.size]? = some (.cells (List.replicate n (Value.int .u8 0)).toArray 5 (0, 0)) := by
      rw [hw2]
      exact heap_alloc_new (w.drewN nq) _
    have HB2 : Hid (Below w.heap.size w w2) := Lib.hid (by rw [hw2]; exact (show Below w.heap.size w (w.drewN nq) from ⟨rfl, rfl, rfl, Nat.le_refl _, fun _ _ => rfl⟩).alloc (Nat.le_refl _) _)
    clear hw2 HMK HF HB c0 c2 c3 f1
    obtain ⟨⟨_, d1, _, _⟩, f1, _⟩ := carry_reads hh2
    have HH2 := Lib.hid hh2
    have HG2 := Lib.hid hg2
    clear hh2 hg2
    go_wp2_with (refine wpList_copy_into rfl (.tmp 31) (.tmp 32) 51 51 rfl 5 Try.underlying51 ca8_size w.heap.size 0 n n ⟨g, off, none⟩ n cap' rfl rfl (List.replicate n (Value.int .u8 0)) 5 ?cg (Lib.byteCells (s.drop f)) ?cn ?cs ?cf ?c1 ?_)
    case cg => exact (put_other (by omega) _).trans HG2.out
    case cn =>
      have := HD.out
      simp only [Lib.byteCells, List.length_map]
      rw [this]
      exact (Nat.min_self n).symm
    case cs =>
      intro j u hu
      have hc := HC.out j u hu
      rw [addPlain] at hc ⊢
      have hlt := World.block_lt_of_cell? w _ hc
      have hgb : g ≠ b := by
        rintro rfl
        simp only [Lib.byteCells, List.getElem?_map, Option.map_eq_some_iff] at hu
        obtain ⟨x, _, rfl⟩ := hu
        exact carry_ne HH.out hc
      rw [World.cell?_of_block (w := w) ((put_other hgb _).trans (HB2.out.block g hlt))]
      exact hc
    case cf =>
      have := HD.out
      simp only [Lib.byteCells, List.length_map, List.length_replicate]
      omega
    case c1 =>
      intro u hu
      simp only [Lib.byteCells, List.mem_map] at hu
      obtain ⟨x, _, rfl⟩ := hu
      rfl
    intro w3 hI hG
    have hG3 : w3.heap[w.heap.size]? = some (.cells (Lib.byteCells (s.drop f)).toArray 5 (0, 0)) := by
      have := hG.out
      rwa [splice_all _ _ (by have := HD.out; simp only [Lib.byteCells, List.length_map, List.length_replicate]; exact this)] at this
    have hH3 : w3.heap[b]? = some (.cells #[.int .i64 keep, .slice (some ⟨w.heap.size, 0, none⟩) n n, .int .i64 s.length, .int .i64 done] 53 (0, 0)) := by
      rw [hI.block b (by omega), put_heap HH2.out]
      simp
    have hbut : But w.heap.size b w w3 := by
      refine ⟨hI.os.trans HB2.out.os, hI.tape.trans HB2.out.tape, hI.output.trans HB2.out.output, ?_, fun k hk hkb => ?_⟩
      · rw [hI.size]
        have := HB2.out.size
        simpa [World.setCell] using this
      · rw [hI.block k (by omega), put_other hkb]
        exact HB2.out.block k hk
    have K1 := Lib.hid hG3
    have K2 := Lib.hid hH3
    have K3 := Lib.hid hbut
    clear hG hI hG3 hH3 hbut hmk HC c1 d1
    go_wp2
    go_end0
    refine ⟨rfl, ⟨hbb, by have := K3.out.size; omega, h3, h4, h5, f, _, by rw [HFE.out]; exact Nat.le_refl _, K2.out, ?_, .inr ⟨w.heap.size, n, _, ?_, hB, K1.out, ?_, ?_, ?_, ?_⟩⟩, K3.out⟩
    · have := HD.out
      have := HN.out
      simp only [Lib.byteCells, List.length_map]
      omega
    · rw [HN.out]
    · have := HN.out
      omega
    · unfold maxLen
      omega
    · have := HD.out
      simp only [Lib.byteCells, List.size_toArray, List.length_map]
      omega
    · have := HD.out
      have := HN.out
      refine List.take_of_length_le ?_
      simp only [Lib.byteCells, List.length_map]
      omega
end Go.Proofs.Ytmgcdhcidojdhaa
