/-
  Texts put together: OwnQ, TrV, TrW, TrX.
-/
import Derived.Laws.AppendOwn
import Derived.Maps.AppendAt
import Derived.WalkKit
import Derived.Below
import Derived.Test.YtpblllpgmibkoaaGreatBn6
import Derived.Lib.QuietBelow
import Derived.WalkMore
import Derived.Deep.LoopGhost
import Derived.Laws.MakeOwn
import Derived.StillTailTactics
set_option linter.unusedSimpArgs false
set_option linter.unusedVariables false
namespace Go.Proofs.YtpblllpgmibkoaaGreat
open Go.RowKit

variable {P : Program}

/-- A slice that the call owns, from some place of its block on, to the block's end. -/
def OwnQ (w : World) (base : Nat) (e : TypeId) (size : Nat) (v : Value) (n : Nat) (xs : List Value) : Prop :=
  xs.length = n * size ∧ ∃ g off cap cur, v = .slice (some ⟨g, off, none⟩) n cap ∧ base ≤ g ∧ w.heap[g]? = some (.cells cur e (0, 0)) ∧ n ≤ cap ∧ cap ≤ maxLen ∧ off + cap * size ≤ cur.size ∧ (cur.toList.drop off).take (n * size) = xs

theorem OwnQ.form {w : World} {base : Nat} {e : TypeId} {size : Nat} {v : Value} {n : Nat} {xs : List Value} (h : OwnQ w base e size v n xs) :
    ∃ g off cap, v = .slice (some ⟨g, off, none⟩) n cap ∧ base ≤ g ∧ g < w.heap.size ∧ n ≤ cap ∧ cap ≤ maxLen := by
  obtain ⟨_, g, off, cap, cur, hv, hb, hg, hc, hm, _⟩ := h
  exact ⟨g, off, cap, hv, hb, (Array.getElem?_eq_some_iff.1 hg).1, hc, hm⟩
theorem OwnQ.lt {w : World} {base : Nat} {e : TypeId} {size : Nat} {v : Value} {n : Nat} {xs : List Value} (h : OwnQ w base e size v n xs) : ∀ k, v.ownBlock = some k → base ≤ k ∧ k < w.heap.size := by
  obtain ⟨g, off, cap, rfl, hb, hg, _⟩ := h.form
  intro k hk
  simp only [Value.ownBlock, Option.some.injEq] at hk
  subst hk
  exact ⟨hb, hg⟩
theorem OwnQ.of {w : World} {base : Nat} {e : TypeId} {size : Nat} {v : Value} {n : Nat} {xs : List Value} (h : w.ownsRow base e size v n xs) (hn : 0 < n) : OwnQ w base e size v n xs := by
  obtain ⟨hl, ⟨_, h0⟩ | ⟨g, cap, cur, hv, hb, hg, hc, hm, hs, ht⟩⟩ := h
  · omega
  · exact ⟨hl, g, 0, cap, cur, hv, hb, hg, hc, hm, by omega, by simpa using ht⟩
/-- .. a cell of it. -/
theorem OwnQ.cell {w : World} {base : Nat} {e : TypeId} {size : Nat} {n g off cap : Nat} {xs : List Value} (h : OwnQ w base e size (.slice (some ⟨g, off, none⟩) n cap) n xs) : ∀ j u, xs[j]? = some u → w.cell? ⟨g, off + j, none⟩ = some u := by
  intro j u hu
  obtain ⟨_, g', off', cap', cur, hv, _, hg, _, _, _, ht⟩ := h
  cases hv
  rw [cell_of_row w g (off + j) cur e (0, 0) hg]
  rw [← ht, List.getElem?_take] at hu
  split at hu
  · rw [List.getElem?_drop] at hu
    simpa using hu
  · cases hu
/-- It stays where its block is as it was. -/
theorem OwnQ.kept {w w' : World} {base : Nat} {e : TypeId} {size : Nat} {v : Value} {n : Nat} {xs : List Value} (h : OwnQ w base e size v n xs) (hk : ∀ (k : Nat) (cur : Array Value), w.heap[k]? = some (Obj.cells cur e (0, 0)) → w'.heap[k]? = w.heap[k]?) : OwnQ w' base e size v n xs := by
  obtain ⟨hl, g, off, cap, cur, hv, hb, hg, r⟩ := h
  exact ⟨hl, g, off, cap, cur, hv, hb, (hk g cur hg).trans hg, r⟩
theorem OwnQ.heap {w w' : World} {base : Nat} {e : TypeId} {size : Nat} {v : Value} {n : Nat} {xs : List Value} (h : OwnQ w base e size v n xs) (hk : w'.heap = w.heap) : OwnQ w' base e size v n xs := h.kept fun k _ _ => by rw [hk]
theorem OwnQ.alloc {w : World} {base : Nat} {e : TypeId} {size : Nat} {v : Value} {n : Nat} {xs : List Value} (h : OwnQ w base e size v n xs) (o : Obj) : OwnQ (w.alloc o) base e size v n xs :=
  h.kept fun k _ hk => heap_alloc_old w o (Array.getElem?_eq_some_iff.1 hk).1
/-- Without its first element: the rest, wherever it is said to begin. -/
theorem OwnQ.rest {w : World} {base : Nat} {e : TypeId} {size : Nat} {n g off cap : Nat} {xs : List Value} (h : OwnQ w base e size (.slice (some ⟨g, off, none⟩) (n + 1) cap) (n + 1) xs) : OwnQ w base e size (.slice (some ⟨g, off + size, none⟩) n (cap - 1)) n (xs.drop size) := by
  obtain ⟨hl, g', off', cap', cur, hv, hb, hg, hc, hm, hs, ht⟩ := h
  cases hv
  refine ⟨?_, g, off + size, cap - 1, cur, rfl, hb, hg, by omega, by omega, ?_, ?_⟩
  · rw [List.length_drop, hl, Nat.succ_mul]; omega
  · have : cap * size = (cap - 1) * size + size := by rw [← Nat.succ_mul]; congr 1; omega
    omega
  · rw [← ht, Nat.succ_mul, List.drop_take, List.drop_drop]
    congr 1
    omega
theorem OwnQ.none {w : World} {base : Nat} {e : TypeId} {size : Nat} {g off cap : Nat} {xs : List Value} (h : OwnQ w base e size (.slice (some ⟨g, off, Option.none⟩) 1 cap) 1 xs) : OwnQ w base e size (.slice (some ⟨g, off, Option.none⟩) 0 0) 0 [] := by
  obtain ⟨hl, g', off', cap', cur, hv, hb, hg, hc, hm, hs, ht⟩ := h
  cases hv
  exact ⟨by simp, g, off, 0, cur, rfl, hb, hg, Nat.le_refl _, Nat.zero_le _, by have := Nat.le_trans (Nat.le_add_right off (cap * size)) hs; omega, by simp⟩

/-- An append where there is room, from some place of a block on. -/
theorem run_append_off (w : World) (t ty e : TypeId) (i : TypeInfo) (ht : P.underlying t = some (.slice e)) (hi : P.info? e = some i)
    (g off sLen sCap : Nat) (cur : Array Value) (hg : w.heap[g]? = some (.cells cur e (0, 0)))
    (a : Addr) (m c : Nat) (news : List Value) (hl : news.length = m * i.size) (hnews : ∀ j u, news[j]? = some u → w.cell? (a.add j) = some u) (h1 : ∀ u ∈ news, u.oneCell' = true)
    (hroom : sLen + m ≤ sCap) (hfit : off + sLen * i.size + news.length ≤ cur.size) :
    (Builtin.append_ #[t, t] ty #[.slice (some ⟨g, off, none⟩) sLen sCap, .slice (some a) m c]).run P w =
      .ok (.slice (some ⟨g, off, none⟩) (sLen + m) sCap) (w.setRow g (cur.toList.take (off + sLen * i.size) ++ news ++ cur.toList.drop (off + sLen * i.size + news.length)).toArray) := by
  have hf := run_firstCells_some (P := P) w i.size m a m c news hl hnews
  have hst := run_storeCells_at P g (off + sLen * i.size) e news 0 cur w hg (by simpa using hfit) h1
  simp only [Nat.add_zero] at hst
  simp [Builtin.append_, run_underlying ht, sizeOf, typeInfo, hi, Builtin.lenOf, hroom, hf, Addr.add_lit, hst]

theorem run_append_q (w : World) (base : Nat) (t ty e : TypeId) (i : TypeInfo) (z : Value) (size bytes : Nat) (ht : P.underlying t = some (.slice e)) (hi : P.info? e = some i) (hz : i.zero = some z)
    (hsize : i.size = size) (hby : i.bytes = bytes) (hzs : z.cells.size = size) (hsz : 0 < size)
    (v : Value) (n : Nat) (xs : List Value) (hown : OwnQ w base e size v n xs)
    (a : Addr) (m c : Nat) (news : List Value) (hl : news.length = m * size) (hnews : ∀ j u, news[j]? = some u → w.cell? (a.add j) = some u) (h1 : ∀ u ∈ news, u.oneCell' = true)
    (hm : 0 < m) (h63 : n + m ≤ maxLen) (hbytes : (n + m) * bytes ≤ 140737488355328) (hbase : base ≤ w.heap.size) :
    ∃ v' w', (Builtin.append_ #[t, t] ty #[v, .slice (some a) m c]).run P w = .ok v' w' ∧ OwnQ w' base e size v' (n + m) (xs ++ news) ∧ w.grownBy w' v.ownBlock ∧ (v'.ownBlock = v.ownBlock ∨ v'.ownBlock = some w.heap.size) := by
  subst hsize
  subst hby
  have hsmall : n + m ≤ 9223372036854775807 := by simp only [maxLen] at h63; omega
  have hlen : (xs ++ news).length = (n + m) * i.size := by rw [List.length_append, hown.1, hl, Nat.add_mul]
  have hown2 := hown
  obtain ⟨hxl, g, off, cap, cur, rfl, hbg, hg, hnc, hcm, hcs, htake⟩ := hown
  by_cases hroom : n + m ≤ cap
  · have hmul : (n + m) * i.size ≤ cap * i.size := Nat.mul_le_mul_right _ hroom
    rw [Nat.add_mul] at hmul
    have hfit : off + n * i.size + news.length ≤ cur.size := by rw [hl]; omega
    have hr := run_append_off (P := P) w t ty e i ht hi g off n cap cur hg a m c news hl hnews h1 hroom hfit
    refine ⟨_, _, hr, ⟨hlen, g, off, cap, _, rfl, hbg, setRow_heap w g cur _ e _ hg, hroom, hcm, ?_, ?_⟩, ⟨rfl, rfl, rfl, by simp, fun k _ hk => setRow_other w g k _ (fun e => hk (by simp [Value.ownBlock, e]))⟩, .inl rfl⟩
    · simp only [List.size_toArray, List.length_append, List.length_take, List.length_drop, Array.length_toList]
      omega
    · have hoff : off + n * i.size ≤ cur.toList.length := by simp; omega
      have e1 : (cur.toList.take (off + n * i.size)).drop off = xs := by rw [List.drop_take, Nat.add_sub_cancel_left]; exact htake
      have e2 : off ≤ (cur.toList.take (off + n * i.size)).length := by rw [List.length_take]; omega
      show List.take _ (List.drop off (cur.toList.take (off + n * i.size) ++ news ++ cur.toList.drop (off + n * i.size + news.length))) = _
      rw [List.append_assoc, List.drop_append_of_le_length e2, e1, ← List.append_assoc, ← hlen]
      exact List.take_left
  · have holds : ∀ j u, xs[j]? = some u → w.cell? ((⟨g, off, none⟩ : Addr).add j) = some u := fun j u hu => by
      rw [Addr.add_lit]; exact hown2.cell j u hu
    have hr := run_append_grow (P := P) w t ty e i z ht hi hz ⟨g, off, none⟩ n cap xs hxl holds a m c news hl hnews (by omega) (by omega) (growslice_fits (by omega) hbytes)
    have hge := grownCap_ge w (n + m) cap e
    have hcm2 : grownCap w (n + m) cap e ≤ maxLen := grownCap_le_maxLen w (n + m) cap e h63
    refine ⟨_, _, hr, ⟨hlen, w.heap.size, 0, _, _, rfl, hbase, heap_alloc_new w.drew _, hge, hcm2, ?_, ?_⟩, ⟨rfl, rfl, rfl, by simp, fun k hk _ => heap_alloc_old w.drew _ hk⟩, .inr rfl⟩
    · have : (grownCap w (n + m) cap e - (n + m)) * i.size + (n + m) * i.size = grownCap w (n + m) cap e * i.size := by rw [← Nat.add_mul]; congr 1; omega
      simp only [Array.size_append, List.size_toArray, size_zeroCells, hzs, hxl, hl]
      rw [Nat.add_mul] at this
      omega
    · simp only [Array.toList_append, List.append_assoc, List.drop_zero]
      rw [← List.append_assoc, ← hlen]
      exact List.take_left

theorem wpList_append_q (w : World) {ops : Array Oper} {rest : List Oper} {o : Oper} {a : Act} {Q : Exit → Act → World → Prop} (hgd : o.guard = none) (s x : Operand) (t : TypeId)
    (ho : o.op = .call { callee := .builtin .append, args := #[s, x], argTypes := #[t, t] })
    (base : Nat) (e : TypeId) (i : TypeInfo) (z : Value) (size bytes : Nat) (ht : P.underlying t = some (.slice e)) (hi : P.info? e = some i) (hz : i.zero = some z)
    (hsize : i.size = size) (hby : i.bytes = bytes) (hzs : z.cells.size = size) (hsz : 0 < size)
    (v : Value) (n : Nat) (xs : List Value) (hs : a.eval s = v) (hown : OwnQ w base e size v n xs)
    (ad : Addr) (m c : Nat) (news : List Value) (hx : a.eval x = .slice (some ad) m c) (hl : news.length = m * size) (hnews : ∀ j u, news[j]? = some u → w.cell? (ad.add j) = some u) (h1 : ∀ u ∈ news, u.oneCell' = true)
    (hm : 0 < m) (h63 : n + m ≤ maxLen) (hbytes : (n + m) * bytes ≤ 140737488355328) (hbase : base ≤ w.heap.size)
    (h : ∀ v' w', OwnQ w' base e size v' (n + m) (xs ++ news) → w.grownBy w' v.ownBlock → (v'.ownBlock = v.ownBlock ∨ v'.ownBlock = some w.heap.size) → wpList P ops Q rest (a.put o.dst v') w') : wpList P ops Q (o :: rest) a w := by
  refine wpList_plain hgd fun K hK => ?_
  obtain ⟨v', w', hr, h2, h3, h4⟩ := run_append_q (P := P) w base t o.type e i z size bytes ht hi hz hsize hby hzs hsz v n xs hown ad m c news hl hnews h1 hm h63 hbytes hbase
  have hK2 := hK _ _ (h v' w' h2 h3 h4)
  unfold Oper.wp execOp
  simp only [ho, resolve, invoke, builtin, Sem.run_bind, Sem.run_pure, Result.andThen_ok, List.map_toArray, List.map_cons, List.map_nil, hs, hx, hr]
  exact hK2
end Go.Proofs.YtpblllpgmibkoaaGreat

namespace Go.Proofs.YtpblllpgmibkoaaGreat
open Go.RowKit
open Go.Sort (grow)

/-- The cells of groups. -/
def grCells (l : List (Nat × Nat × Nat)) : List Value := l.flatMap fun g => [.int .i64 (g.1 : Int), .int .i64 (g.2.1 : Int), .int .i64 (g.2.2 : Int)]
theorem grCells_snoc (l : List (Nat × Nat × Nat)) (g : Nat × Nat × Nat) : grCells (l ++ [g]) = grCells l ++ [.int .i64 (g.1 : Int), .int .i64 (g.2.1 : Int), .int .i64 (g.2.2 : Int)] := by simp [grCells]
theorem grCells_cons (g : Nat × Nat × Nat) (l : List (Nat × Nat × Nat)) : grCells (g :: l) = [.int .i64 (g.1 : Int), .int .i64 (g.2.1 : Int), .int .i64 (g.2.2 : Int)] ++ grCells l := by simp [grCells]
theorem gr_info : (Tryz.prog.info? 136).map (fun i => (i.zero, i.size, i.bytes)) = some (some (.agg #[.int .i64 0, .int .i64 0, .int .i64 0]), 3, 24) := by kernel_rfl
theorem gr_one {a b c : Int} : ∀ u ∈ [Value.int .i64 a, .int .i64 b, .int .i64 c], u.oneCell' = true := by
  intro u hu
  simp at hu
  rcases hu with rfl | rfl | rfl <;> rfl
theorem new_gr {w : World} {X : Nat} {T : TypeId} {a b c : Value} (h : w.heap[X]? = some (.cells #[a, b, c] T (0, 0))) : ∀ j x, [a, b, c][j]? = some x → w.cell? ((⟨X, 0, none⟩ : Addr).add j) = some x := by
  intro j x hj
  rw [addPlain, Nat.zero_add, Lib.cell_of_heap h, ← hj]
  simp

/-- A trie stays one where a row of groups grows. -/
theorem IsTr.grown {w w' : World} {base base' b n : Nat} {p : Option Addr} {R : List Rc} {v : Value} {xs : List Value} (h : IsTr w base b p R) (hq : OwnQ w base' 136 3 v n xs) (hg : w.grownBy w' v.ownBlock) : IsTr w' base b p R := by
  obtain ⟨g, cap, h1, h2, h3, h4⟩ := h
  obtain ⟨_, gq, off, capq, curq, rfl, _, hgq, _⟩ := hq
  refine ⟨g, cap, (hg.block b (heap_lt h1) fun e => ?_).trans h1, h2, h3.kept hg (.inr fun e => ?_), h4⟩
  · simp only [Value.ownBlock, Option.some.injEq] at e
    subst e; rw [hgq] at h1; simp at h1
  · obtain ⟨_, ⟨hx, _⟩ | ⟨g', cap', cur, hv, _, hh, r⟩⟩ := h3
    · cases hx
    · cases hv
      simp only [Value.ownBlock, Option.some.injEq] at e
      subst e; rw [hgq] at hh; simp at hh
/-- A queue stays where all groups are as they were. -/
theorem OwnQ.groups {w w' : World} {base n : Nat} {v : Value} {xs : List Value} (h : OwnQ w base 136 3 v n xs) (hg : Groups w w') : OwnQ w' base 136 3 v n xs := h.kept hg

/-- One of a trie's states with its first one below told. -/
theorem IsTr.put {w : World} {base b k g cap : Nat} {p : Option Addr} {R : List Rc} {r : Rc} {m : Nat} (hm : m ≤ 2147483647) (hr : R[k]? = some r)
    (h : w.heap[b]? = some (.cells #[.pointer p, .slice (some ⟨g, 0, none⟩) R.length cap] 131 (0, 0))) (hb : base ≤ b) (hown : w.ownsRow base 112 5 (.slice (some ⟨g, 0, none⟩) R.length cap) R.length (rcCells R)) (hf : ∀ r ∈ R, r.Fit) (hl : R.length ≤ 2147483647) :
    IsTr (w.setCell ⟨g, k * 5 + 2, none⟩ (.int .i32 (m : Int))) base b p (R.set k { r with below := m }) ∧ Groups w (w.setCell ⟨g, k * 5 + 2, none⟩ (.int .i32 (m : Int))) := by
  obtain ⟨hx, ⟨he, _⟩ | ⟨g', cap', cur, he, hbg, hg, hc, hmx, hs, ht⟩⟩ := hown
  · cases he
  · cases he
    have hbg' : b ≠ g := fun e => by subst e; rw [hg] at h; simp at h
    refine ⟨⟨g, cap, ?_, hb, ⟨?_, .inr ⟨g, cap, cur.setIfInBounds (k * 5 + 2) (.int .i32 (m : Int)), ?_, hbg, put_heap hg _, ?_, hmx, ?_, ?_⟩⟩, ?_, ?_⟩, ?_⟩
    · rw [List.length_set]; exact (put_other hbg' _).trans h
    · rw [rcCells_length]
    · rw [List.length_set]
    · rw [List.length_set]; exact hc
    · rw [Array.size_setIfInBounds]; exact hs
    · rw [List.length_set, Array.toList_setIfInBounds, List.take_set, ht, rc_set R k m hr]
    · intro x hxm
      rcases List.mem_or_eq_of_mem_set hxm with h1 | rfl
      · exact hf x h1
      · have := hf r (List.mem_of_getElem? hr)
        exact ⟨this.1, this.2.1, hm, this.2.2.2⟩
    · rw [List.length_set]; exact hl
    · intro i cs hi
      exact put_other (fun e => by subst e; rw [hg] at hi; simp at hi) _

theorem trregrown {f : FuncId} {args : Array Value} {v : Value} {w : World} (h : ∀ W, Below w.heap.size w W → Calls Tryz.prog f args W fun e w' => e = .returned v ∧ Below W.heap.size W w') (d : Nat) (os : Array Obj) :
    Calls Tryz.prog f args (grow (redrawn w d) os) fun e w'' => e = .returned v ∧ ∃ q : Regrown, w'' = grow (redrawn w q.d) q.os := Calls.regrown_of (h _ (below_regrown w d os))

/-- Is the first pattern it? -/
theorem endr_iff {us : List (List UInt8)} {q : List UInt8} {r : Rc} (ha : Asc us) (hq : q = [] ∨ begL us q = true) (h1 : r.first = frL us q) (h2 : r.depth = q.length) : EndR us r ↔ q ∈ us := by
  unfold EndR
  rw [h1, h2]
  by_cases h0 : us = []
  · subst h0
    simp
  · have hb : begL us q = true := by
      rcases hq with rfl | hq
      · cases us with
        | nil => exact absurd rfl h0
        | cons t r => exact beg_iff.2 ⟨t, List.mem_cons_self, List.nil_prefix⟩
      · exact hq
    have hr := range_pos ha hb
    have hl := to_le us q
    have hlt : frL us q < us.length := by omega
    have e1 : us[frL us q]? = some us[frL us q] := List.getElem?_eq_getElem hlt
    have hp := (in_iff ha e1).2 ⟨Nat.le_refl _, hr⟩
    have hg : us.getD (frL us q) [] = us[frL us q] := by rw [List.getD_eq_getElem?_getD, e1]; rfl
    rw [hg]
    exact ⟨fun h => (first_is ha e1 hp).1 h.2, fun h => ⟨hlt, (first_is ha e1 hp).2 h⟩⟩
end Go.Proofs.YtpblllpgmibkoaaGreat

namespace Go.Proofs.YtpblllpgmibkoaaGreat
open Go.RowKit

/-- The states that stand while a state's patterns are gone through, up to m. -/
def midS (us S : List (List UInt8)) (q : List UInt8) (m : Nat) : List (List UInt8) := S ++ (kidsL (us.take m) q).map fun c => q ++ [c]
theorem mid_length (us S : List (List UInt8)) (q : List UInt8) (m : Nat) : S.length ≤ (midS us S q m).length ∧ (midS us S q m).length ≤ S.length + 256 := by
  unfold midS kidsL bytU
  rw [List.length_append, List.length_map]
  have := List.length_filter_le (fun c => begL (us.take m) (q ++ [c])) ((List.range 256).map UInt8.ofNat)
  rw [List.length_map, List.length_range] at this
  omega
theorem mid_start {us S : List (List UInt8)} {q : List UInt8} (ha : Asc us) : midS us S q (onL us q) = S := by
  unfold midS
  rw [kids_start ha]
  simp
theorem mid_end {us S : List (List UInt8)} {q : List UInt8} (ha : Asc us) : midS us S q (toL us q) = S ++ kidsP us q := by
  unfold midS kidsP
  rw [kids_end ha]
theorem mid_snoc {us S : List (List UInt8)} {q : List UInt8} {c : UInt8} {m k : Nat} (ha : Asc us) (h : Run us q c m k) (hm : Cut us q m) : midS us S q k = midS us S q m ++ [q ++ [c]] := by
  unfold midS
  rw [h.kids ha hm, List.map_append, ← List.append_assoc]; rfl

/-- What stands in the midst of grow. -/
structure Mid (us S : List (List UInt8)) (q : List UInt8) (k : Nat) (w0 : World) (b X : Nat) (p : Option Addr) (m : Nat) (v : Value) (w : World) : Prop where
  tr : ∃ R, IsTr w w0.heap.size b p R ∧ RecOk us (midS us S q m) (k + 1) R
  que : OwnQ w w0.heap.size 136 3 v ((midS us S q m).length - (k + 1)) (grCells (grL us (k + 1) ((midS us S q m).drop (k + 1))))
  box : w.heap[X]? = some (.cells #[.int .i64 (k : Int), .int .i64 (frL us q : Int), .int .i64 (toL us q : Int)] 136 (0, 0))
  apart : v.ownBlock ≠ some X
  old : Below w0.heap.size w0 w
  late : w0.heap.size ≤ X

/-- What grow answers. -/
def RetGr (us S : List (List UInt8)) (q : List UInt8) (k : Nat) (w0 : World) (b : Nat) (p : Option Addr) (e : Ending) (w : World) : Prop :=
  ∃ v, e = .returned v ∧ (∃ R, IsTr w w0.heap.size b p R ∧ RecOk us (S ++ kidsP us q) (k + 1) R) ∧ OwnQ w w0.heap.size 136 3 v ((S ++ kidsP us q).length - (k + 1)) (grCells (grL us (k + 1) ((S ++ kidsP us q).drop (k + 1)))) ∧ Below w0.heap.size w0 w

set_option maxRecDepth 100000 in
set_option maxHeartbeats 4000000 in
theorem trgrow_any {w0 w : World} {b k : Nat} {p : Option Addr} {us S : List (List UInt8)} {q : List UInt8} {R : List Rc} {v : Value} (hp : IsPats w0 p us) (ha : Asc us) (hn : us.Nodup) (hb0 : Below w0.heap.size w0 w) (hbfs : Bfs us k S) (hq : S[k]? = some q)
    (hT : IsTr w w0.heap.size b p R) (hR : RecOk us S k R) (hv : OwnQ w w0.heap.size 136 3 v (S.length - (k + 1)) (grCells (grL us (k + 1) (S.drop (k + 1))))) :
    Calls Tryz.prog 83 #[.pointer (some ⟨b, 0, none⟩), v, .agg #[.int .i64 (k : Int), .int .i64 (frL us q : Int), .int .i64 (toL us q : Int)]] w (RetGr us S q k w0 b p) := by
  obtain ⟨he, hl, ht⟩ := pats_each hp
  have hfew := hbfs.few
  have hkl := (List.getElem?_eq_some_iff.1 hq).1
  have hfl := fr_le us q
  have htl := to_le us q
  obtain ⟨r, hr, hr1, hr2, hr3, hr4, _⟩ := hR.at hq
  have hRl := hR.1
  -- the box
  have hX := heap_alloc_new w (.cells #[.int .i64 (k : Int), .int .i64 (frL us q : Int), .int .i64 (toL us q : Int)] 136)
  have hb1 : Below w0.heap.size w0 (w.alloc (.cells #[.int .i64 (k : Int), .int .i64 (frL us q : Int), .int .i64 (toL us q : Int)] 136)) := hb0.alloc hb0.size _
  have T1 : IsTr (w.alloc (.cells #[.int .i64 (k : Int), .int .i64 (frL us q : Int), .int .i64 (toL us q : Int)] 136)) w0.heap.size b p R := hT.below ((Below.refl _ _).alloc (Nat.le_refl _) _)
  have Q1 := hv.alloc (.cells #[.int .i64 (k : Int), .int .i64 (frL us q : Int), .int .i64 (toL us q : Int)] 136)
  have hap : v.ownBlock ≠ some w.heap.size := fun e => by have := (hv.lt _ e).2; omega
  have hXl : w0.heap.size ≤ w.heap.size := hb0.size
  obtain ⟨gv, ov, cv, rfl, _⟩ := hv.form
  have hmx : Tryz.prog.follows .mixedOrders = true := by kernel_rfl
  clear hT hv hb0
  go_enter Tryz.func83, Tryz.ntmps83
  go_wp2_with fail
  go_step3
  generalize w.alloc (.cells #[.int .i64 (k : Int), .int .i64 (frL us q : Int), .int .i64 (toL us q : Int)] 136) = w1 at *
  generalize w.heap.size = X at *
  have c0 : w1.cell? ⟨X, 0, none⟩ = some (.int .i64 (k : Int)) := by rw [Lib.cell_of_heap hX]; rfl
  have c1 : w1.cell? ⟨X, 1, none⟩ = some (.int .i64 (frL us q : Int)) := by rw [Lib.cell_of_heap hX]; rfl
  have G1 := trregrown (fun W hW => trdepth_any (.inr ⟨_, b, rfl, T1.below hW⟩ : HasTr W (some ⟨b, 0, none⟩) p R) (k : Int))
  rw [rcOf_in hr, hr3] at G1
  have x0 := cell_regrown c0
  have x1 := cell_regrown c1
  go_wp2_with fail
  refine wp_region_quiet_below hmx (by kernel_rfl) ?_
  repeat (go_big_quiet_step (first | with_reducible exact G1 _ _))
  refine wpQuiet_nil ?_
  intro W6 hw6
  obtain ⟨⟨dq, osq⟩, rfl⟩ := hw6
  have b6 := below_regrown w1 dq osq
  generalize Go.Sort.grow (redrawn w1 dq) osq = w2 at b6 ⊢
  have hX2 := (b6.block X (heap_lt hX)).trans hX
  have T2 := T1.below b6
  have Q2 := Q1.groups (Groups.of b6)
  have hb2 := hb1.trans (b6.mono hb1.size)
  clear c0 c1 x0 x1 G1 T1 Q1 hb1 hX b6
  have d0 : w2.cell? ⟨X, 0, none⟩ = some (.int .i64 (k : Int)) := by rw [Lib.cell_of_heap hX2]; rfl
  obtain ⟨g, cap, hh, hbase, hown, hfit, hfew2⟩ := T2
  have e1 : w2.cell? ⟨b, 1, none⟩ = some (.slice (some ⟨g, 0, none⟩) R.length cap) := by rw [Lib.cell_of_heap hh]; rfl
  have e2 := (own_rcs hown hr).c2
  have f2 : w2.frozen? ⟨g, k * 5 + 2, none⟩ = false := by
    obtain ⟨_, ⟨hx, _⟩ | ⟨g', cap', cur, hx, _, hg, _⟩⟩ := hown
    · cases hx
    · cases hx; exact Lib.frozen_of_heap hg _
  have HPut := Lib.hid (IsTr.put (w := w2) (m := S.length) (by omega) hr hh hbase hown hfit hfew2)
  have k0 : (0 : Int) ≤ (k : Int) := by omega
  have k1 : (k : Int) < (R.length : Int) := by omega
  have ww : IntKind.i32.wrap (R.length : Int) = (R.length : Int) := by rw [IntKind.wrap_i32]; omega
  go_wp2_with fail
  go_region
  have hb3 : Below w0.heap.size w0 ((w2.setCell ⟨g, k * 5 + 2, none⟩ (.int .i32 (S.length : Int))).drew) := (hb2.setCell (by show _ ≤ g; exact (hown.lt g rfl).1) _).drew
  have T3 : IsTr ((w2.setCell ⟨g, k * 5 + 2, none⟩ (.int .i32 (S.length : Int))).drew) w0.heap.size b p (R.set k { r with below := S.length }) := HPut.out.1.heap rfl
  have hX3 : ((w2.setCell ⟨g, k * 5 + 2, none⟩ (.int .i32 (S.length : Int))).drew).heap[X]? = _ := (HPut.out.2 X _ hX2).trans hX2
  have Q3 : OwnQ ((w2.setCell ⟨g, k * 5 + 2, none⟩ (.int .i32 (S.length : Int))).drew) _ _ _ _ _ _ := (Q2.groups HPut.out.2).heap rfl
  clear HPut hh hown hfit hfew2 e1 e2 f2 hb2 hX2 Q2 d0 k1 ww
  generalize (w2.setCell ⟨g, k * 5 + 2, none⟩ (.int .i32 (S.length : Int))).drew = w3 at *
  have d0 : w3.cell? ⟨X, 0, none⟩ = some (.int .i64 (k : Int)) := by rw [Lib.cell_of_heap hX3]; rfl
  have hr1' : (R.set k { r with below := S.length })[k]? = some { r with below := S.length } := List.getElem?_set_self (by omega)
  have HE := Lib.hid (trends_in (.inr ⟨_, b, rfl, T3⟩ : HasTr w3 (some ⟨b, 0, none⟩) p _) (hp.below hb3) k _ hr1' (by omega))
  have HI := endr_iff (us := us) (q := q) (r := { r with below := S.length }) ha (by
    rcases hbfs.old (List.mem_of_getElem? hq) with h | ⟨_, _, _, _, _, h, e⟩
    · exact .inl h
    · exact .inr (by rw [e]; exact h)) hr1 hr3
  have HOk := Lib.hid (hR.tell hbfs hr)
  have M1 : Hid (∀ W, Below w3.heap.size w3 W → Mid us S q k w0 b X p (onL us q) (.slice (some ⟨gv, ov, none⟩) (S.length - (k + 1)) cv) W) := Lib.hid fun W hW => by
    refine ⟨⟨_, T3.below hW, by rw [mid_start ha]; exact HOk.out⟩, by rw [mid_start ha]; exact Q3.groups (Groups.of hW), (hW.block X (heap_lt hX3)).trans hX3, hap, hb3.trans (hW.mono hb3.size), hXl⟩
  have HQS := Lib.hid hq
  obtain ⟨i1, hi1, hy0, hy1, hy2⟩ := info_parts gr_info
  have hrf : ({ r with below := S.length } : Rc).first = frL us q := hr1
  generalize ({ r with below := S.length } : Rc) = r1 at *
  clear T3 hX3 Q3 hb3 HOk hR hr hr1 hr2 hr3 hr4 hr1' hRl hq hbfs
  by_cases hmem : q ∈ us
  · have hon : onL us q = frL us q + 1 := if_pos hmem
    go_wp2_with fail
    refine HE.out.mono ?_
    rintro e w4 ⟨⟨h1, _⟩, hb4⟩
    obtain rfl := h1 (HI.2 hmem)
    have M0 := Lib.hid (M1.out w4 hb4)
    clear h1 hb4 HE M1 d0 HI
    go_wp2
    go_step3
    go_wp2
    go_loopw [1, 8] (fun y x wr => ∃ m : Nat, x = .int .i64 m ∧ Hid (Cut us q m) ∧ Hid (Mid us S q k w0 b X p m y wr)) (fun _ x _ => toL us q - (RowKit.intOf x).toNat)
    case atStart => exact ⟨onL us q, by first | (rw [hon]; done) | (rw [hon]; go_num), Lib.hid (Cut.start ha), M0⟩
    case round =>
      obtain ⟨m, rfl, HCut, HM⟩ := hrel
      have hcut := HCut.out
      obtain ⟨⟨R', hT', hR'⟩, hQ', hX', hA', hO', hL'⟩ := HM.out
      obtain ⟨gq, oq, cq, rfl, _⟩ := hQ'.form
      have c0 : wr.cell? ⟨X, 0, none⟩ = some (.int .i64 (k : Int)) := by rw [Lib.cell_of_heap hX']; rfl
      have c2 : wr.cell? ⟨X, 2, none⟩ = some (.int .i64 (toL us q : Int)) := by rw [Lib.cell_of_heap hX']; rfl
      have HT' := Lib.hid hT'
      have HR' := Lib.hid hR'
      have HQ' := Lib.hid hQ'
      have HX' := Lib.hid hX'
      have HA' := Lib.hid hA'
      have HO' := Lib.hid hO'
      have HL' := Lib.hid hL'
      have hml := mid_length us S q m
      have hRl' : R'.length ≤ 16777217 + 256 := by rw [hR'.1]; omega
      have hS' : (midS us S q m)[k]? = some q := by unfold midS; rw [List.getElem?_append_left hkl]; exact HQS.out
      have HS' := Lib.hid hS'
      obtain ⟨r', hr', _, _, hd', _⟩ := hR'.at hS'
      clear hT' hR' hQ' hX' hA' hO' hL' HM hS'
      by_cases hlt : m < toL us q
      · have hme : us[m]? = some us[m] := List.getElem?_eq_getElem (by omega)
        obtain ⟨c, hc1, hc2⟩ := on_byte ha hn hme hcut.1 hlt
        have hql : q.length + 1 ≤ 65535 := by
          have h1 := hc2.length_le
          have h2 := he us[m] (List.getElem_mem _)
          simp at h1; omega
        have HB := Lib.hid (trbyte_any HT'.out (hp.below HO'.out) m q.length hme hc1)
        have hrun0 := Run.start hlt hme hc2
        have g1 : (m : Int) < (toL us q : Int) := by omega
        generalize us[m] = t0 at hme hc1 hc2 HB
        clear hme hc1 hc2
        go_wp2_with fail
        refine HB.out.mono ?_
        rintro e w' ⟨rfl, hw'⟩
        obtain rfl := hw'.symm
        clear hw' HB
        go_wp2
        obtain ⟨WR, hWR⟩ : ∃ W, W = wr := ⟨_, rfl⟩
        subst hWR
        go_loopw [1, 8, 12] (fun y z x wr => y = .slice (some ⟨gq, oq, none⟩) ((midS us S q m).length - (k + 1)) cq ∧ z = .int .i64 m ∧ ∃ j : Nat, x = .int .i64 j ∧ Hid (Run us q c m j) ∧ wr = WR) (fun _ _ x _ => toL us q - (RowKit.intOf x).toNat)
        case atStart => exact ⟨rfl, rfl, m + 1, by go_num, Lib.hid hrun0, rfl⟩
        case round =>
          obtain ⟨rfl, rfl, j, rfl, HRun, hwr⟩ := hrel
          obtain rfl := hwr
          have hrun := HRun.out
          clear HRun hrun0
          by_cases hj : j < toL us q
          · have hje : us[j]? = some us[j] := List.getElem?_eq_getElem (by omega)
            obtain ⟨d, hd1, hd2⟩ := on_byte ha hn hje (by have := hcut.1; have := hrun.1; omega) hj
            have HB2 := Lib.hid (trbyte_any HT'.out (hp.below HO'.out) j q.length hje hd1)
            have g2 : ¬ (j : Int) = (toL us q : Int) := by omega
            by_cases hcd : d = c
            · subst hcd
              have hrun2 := Lib.hid (hrun.more hj hje hd2)
              generalize us[j] = t1 at hje hd1 hd2 HB2
              clear hje hd1 hd2 hrun
              go_wp2_with fail
              refine HB2.out.mono ?_
              rintro e w' ⟨rfl, hw'⟩
              obtain rfl := hw'.symm
              clear hw' HB2
              go_wp2
              exact ⟨⟨rfl, rfl, j + 1, by go_num, hrun2, trivial⟩, by simp [RowKit.intOf]; omega⟩
            · have hk : ∀ t, j < toL us q → us[j]? = some t → ¬ q ++ [c] <+: t := fun t _ ht hp => by
                rw [hje] at ht
                cases ht
                have := (snoc_pre.1 hp).2
                rw [hd1] at this
                exact hcd (Option.some.inj this)
              have hcd2 : ¬ (d.toNat : Int) = (c.toNat : Int) := fun h => hcd (UInt8.toNat_inj.1 (by omega))
              have hcd3 : ((d.toNat : Int) != (c.toNat : Int)) = true := by rw [bne_iff_ne]; exact hcd2
              have g3 : ((j : Int) == (toL us q : Int)) = false := by rw [beq_eq_false_iff_ne]; exact g2
              clear hcd2 g2
              generalize us[j] = t1 at hje hd1 hd2 HB2
              clear hje hd1 hd2 hcd
              go_wp2_with fail
              refine HB2.out.mono ?_
              rintro e w' ⟨rfl, hw'⟩
              obtain rfl := hw'.symm
              clear hw' HB2
              have hrange := hrun.range ha hcut hk
              have hcut2 := hrun.cut ha hcut hk
              have HM2 := Lib.hid (mid_snoc (S := S) ha hrun hcut)
              have hjm := hrun.1
              have hjt := hrun.2.1
              have HA := Lib.hid (tradd_any HT'.out k m j r' c hr' (by omega) (by omega) (by rw [hd']; omega) (by omega))
              rw [hd'] at HA
              have HC2 := Lib.hid hcut2
              have HR2 := Lib.hid hrange
              clear hrange hcut2 hk
              go_wp2_with fail
              refine HA.out.mono ?_
              rintro e w3 ⟨rfl, hT3, hb3, hG3⟩
              have HB3 := Lib.hid hb3
              have HG3 := Lib.hid hG3
              have HT3 := Lib.hid hT3
              have hQ3 := HQ'.out.groups hG3
              have hbs3 : w0.heap.size ≤ w3.heap.size := (HO'.out.trans hb3).size
              have hX3 := (hG3 X _ HX'.out).trans HX'.out
              have HX3 := Lib.hid hX3
              have hXl3 := heap_lt hX3
              clear HA hb3 hG3 hT3 hX3
              go_wp2_with (at_builtin; refine wpList_append_q _ rfl _ _ 137 rfl w0.heap.size 136 i1 (.agg #[.int .i64 0, .int .i64 0, .int .i64 0]) 3 24 Tryz.underlying137 hi1 hy0 hy1 hy2 rfl (by decide) _ _ _ rfl (hQ3.alloc _) ⟨w3.heap.size, 0, none⟩ 1 1 [.int .i64 (R'.length : Int), .int .i64 (m : Int), .int .i64 (j : Int)] rfl rfl (new_gr (heap_alloc_new _ _)) gr_one (by decide) (by unfold maxLen; omega) (by omega) (by simp; omega) ?_)
              intro v' w4 hown4 hgrow4 hat4
              have M' : Hid (Mid us S q k w0 b X p j v' w4) := Lib.hid (by
                have hT4 := HT3.out.below ((Below.refl _ _).alloc (Nat.le_refl _) (.cells #[.int .i64 (R'.length : Int), .int .i64 (m : Int), .int .i64 (j : Int)] 136))
                have hq4 := hQ3.alloc (.cells #[.int .i64 (R'.length : Int), .int .i64 (m : Int), .int .i64 (j : Int)] 136)
                have hT5 := hT4.grown hq4 hgrow4
                refine ⟨⟨_, hT5, ?_⟩, ?_, ?_, ?_, ?_, HL'.out⟩
                · rw [HM2.out]
                  have := HR'.out.snoc (by have := mid_length us S q m; omega) HS'.out (c := c)
                  rw [HR2.out.1] at this
                  exact this
                · rw [HM2.out, List.drop_append_of_le_length (by have := mid_length us S q m; omega), gr_snoc, grCells_snoc, List.length_append, List.length_drop, HR2.out.1, HR2.out.2]
                  have e1 : (midS us S q m).length + [q ++ [c]].length - (k + 1) = (midS us S q m).length - (k + 1) + 1 := by have := mid_length us S q m; simp; omega
                  have e2 : k + 1 + ((midS us S q m).length - (k + 1)) = R'.length := by have := mid_length us S q m; rw [HR'.out.1]; omega
                  rw [e1, e2]
                  exact hown4
                · rw [hgrow4.block X (by simp; omega) (fun ee => HA'.out ee.symm), Lib.alloc_old _ _ X hXl3]
                  exact HX3.out
                · rcases hat4 with h4 | h4
                  · rw [h4]; exact HA'.out
                  · rw [h4]
                    simp only [World.size_alloc, ne_eq, Option.some.injEq]
                    omega
                · refine ((HO'.out.trans HB3.out).alloc hbs3 _).trans ⟨hgrow4.os, hgrow4.tape, hgrow4.output, hgrow4.size, fun i hi => hgrow4.block i (by simp; omega) (fun ee => by have := (hq4.lt i ee.symm).1; omega)⟩)
              obtain ⟨g4, o4, c4, rfl, _⟩ := hown4.form
              clear hown4 hgrow4 hat4 hQ3 HT3 HX3 HB3 HG3
              go_wp2
              exact ⟨⟨j, rfl, HC2.out, M'⟩, by simp [RowKit.intOf]; omega⟩
          · obtain ⟨j', hje⟩ : ∃ j', j' = toL us q := ⟨_, rfl⟩
            obtain rfl : j = toL us q := by have := hrun.2.1; omega
            have hk : ∀ t, toL us q < toL us q → us[toL us q]? = some t → ¬ q ++ [c] <+: t := fun t h => absurd h hj
            clear hje hj
            have hrange := hrun.range ha hcut hk
            have hcut2 := hrun.cut ha hcut hk
            have HM2 := Lib.hid (mid_snoc (S := S) ha hrun hcut)
            have hjm := hrun.1
            have hjt := hrun.2.1
            have HA := Lib.hid (tradd_any HT'.out k m (toL us q) r' c hr' (by omega) (by omega) (by rw [hd']; omega) (by omega))
            rw [hd'] at HA
            have HC2 := Lib.hid hcut2
            have HR2 := Lib.hid hrange
            clear hrange hcut2 hk
            go_wp2_with fail
            refine HA.out.mono ?_
            rintro e w3 ⟨rfl, hT3, hb3, hG3⟩
            have HB3 := Lib.hid hb3
            have HG3 := Lib.hid hG3
            have HT3 := Lib.hid hT3
            have hQ3 := HQ'.out.groups hG3
            have hbs3 : w0.heap.size ≤ w3.heap.size := (HO'.out.trans hb3).size
            have hX3 := (hG3 X _ HX'.out).trans HX'.out
            have HX3 := Lib.hid hX3
            have hXl3 := heap_lt hX3
            clear HA hb3 hG3 hT3 hX3
            go_wp2_with (at_builtin; refine wpList_append_q _ rfl _ _ 137 rfl w0.heap.size 136 i1 (.agg #[.int .i64 0, .int .i64 0, .int .i64 0]) 3 24 Tryz.underlying137 hi1 hy0 hy1 hy2 rfl (by decide) _ _ _ rfl (hQ3.alloc _) ⟨w3.heap.size, 0, none⟩ 1 1 [.int .i64 (R'.length : Int), .int .i64 (m : Int), .int .i64 (toL us q : Int)] rfl rfl (new_gr (heap_alloc_new _ _)) gr_one (by decide) (by unfold maxLen; omega) (by omega) (by simp; omega) ?_)
            intro v' w4 hown4 hgrow4 hat4
            have M' : Hid (Mid us S q k w0 b X p (toL us q) v' w4) := Lib.hid (by
              have hT4 := HT3.out.below ((Below.refl _ _).alloc (Nat.le_refl _) (.cells #[.int .i64 (R'.length : Int), .int .i64 (m : Int), .int .i64 (toL us q : Int)] 136))
              have hq4 := hQ3.alloc (.cells #[.int .i64 (R'.length : Int), .int .i64 (m : Int), .int .i64 (toL us q : Int)] 136)
              have hT5 := hT4.grown hq4 hgrow4
              refine ⟨⟨_, hT5, ?_⟩, ?_, ?_, ?_, ?_, HL'.out⟩
              · rw [HM2.out]
                have := HR'.out.snoc (by have := mid_length us S q m; omega) HS'.out (c := c)
                rw [HR2.out.1] at this
                exact this
              · rw [HM2.out, List.drop_append_of_le_length (by have := mid_length us S q m; omega), gr_snoc, grCells_snoc, List.length_append, List.length_drop, HR2.out.1, HR2.out.2]
                have e1 : (midS us S q m).length + [q ++ [c]].length - (k + 1) = (midS us S q m).length - (k + 1) + 1 := by have := mid_length us S q m; simp; omega
                have e2 : k + 1 + ((midS us S q m).length - (k + 1)) = R'.length := by have := mid_length us S q m; rw [HR'.out.1]; omega
                rw [e1, e2]
                exact hown4
              · rw [hgrow4.block X (by simp; omega) (fun ee => HA'.out ee.symm), Lib.alloc_old _ _ X hXl3]
                exact HX3.out
              · rcases hat4 with h4 | h4
                · rw [h4]; exact HA'.out
                · rw [h4]
                  simp only [World.size_alloc, ne_eq, Option.some.injEq]
                  omega
              · refine ((HO'.out.trans HB3.out).alloc hbs3 _).trans ⟨hgrow4.os, hgrow4.tape, hgrow4.output, hgrow4.size, fun i hi => hgrow4.block i (by simp; omega) (fun ee => by have := (hq4.lt i ee.symm).1; omega)⟩)
            obtain ⟨g4, o4, c4, rfl, _⟩ := hown4.form
            clear hown4 hgrow4 hat4 hQ3 HT3 HX3 HB3 HG3
            go_wp2
            exact ⟨⟨toL us q, rfl, HC2.out, M'⟩, by simp [RowKit.intOf]; omega⟩
      · have hme : m = toL us q := by have := hcut.2.1; omega
        have HE : Hid (RetGr us S q k w0 b p (.returned (.slice (some ⟨gq, oq, none⟩) ((midS us S q m).length - (k + 1)) cq)) wr) := Lib.hid ⟨_, rfl, ⟨R', HT'.out, by rw [← mid_end ha, ← hme]; exact HR'.out⟩, by rw [← mid_end ha, ← hme]; exact HQ'.out, HO'.out⟩
        have g1 : ¬ (m : Int) < (toL us q : Int) := by omega
        clear HT' HR' HQ' HX' HA' HO' HL' HS' hme
        go_wp2
        go_ret
        exact HE.out
  · have hon : onL us q = frL us q := if_neg hmem
    go_wp2_with fail
    refine HE.out.mono ?_
    rintro e w4 ⟨⟨_, h1⟩, hb4⟩
    obtain rfl := h1 (fun h => hmem (HI.1 h))
    have M0 := Lib.hid (M1.out w4 hb4)
    clear h1 hb4 HE M1 d0 HI
    go_wp2
    go_step3
    go_wp2
    go_loopw [1, 8] (fun y x wr => ∃ m : Nat, x = .int .i64 m ∧ Hid (Cut us q m) ∧ Hid (Mid us S q k w0 b X p m y wr)) (fun _ x _ => toL us q - (RowKit.intOf x).toNat)
    case atStart => exact ⟨onL us q, by first | (rw [hon]; done) | (rw [hon]; go_num), Lib.hid (Cut.start ha), M0⟩
    case round =>
      obtain ⟨m, rfl, HCut, HM⟩ := hrel
      have hcut := HCut.out
      obtain ⟨⟨R', hT', hR'⟩, hQ', hX', hA', hO', hL'⟩ := HM.out
      obtain ⟨gq, oq, cq, rfl, _⟩ := hQ'.form
      have c0 : wr.cell? ⟨X, 0, none⟩ = some (.int .i64 (k : Int)) := by rw [Lib.cell_of_heap hX']; rfl
      have c2 : wr.cell? ⟨X, 2, none⟩ = some (.int .i64 (toL us q : Int)) := by rw [Lib.cell_of_heap hX']; rfl
      have HT' := Lib.hid hT'
      have HR' := Lib.hid hR'
      have HQ' := Lib.hid hQ'
      have HX' := Lib.hid hX'
      have HA' := Lib.hid hA'
      have HO' := Lib.hid hO'
      have HL' := Lib.hid hL'
      have hml := mid_length us S q m
      have hRl' : R'.length ≤ 16777217 + 256 := by rw [hR'.1]; omega
      have hS' : (midS us S q m)[k]? = some q := by unfold midS; rw [List.getElem?_append_left hkl]; exact HQS.out
      have HS' := Lib.hid hS'
      obtain ⟨r', hr', _, _, hd', _⟩ := hR'.at hS'
      clear hT' hR' hQ' hX' hA' hO' hL' HM hS'
      by_cases hlt : m < toL us q
      · have hme : us[m]? = some us[m] := List.getElem?_eq_getElem (by omega)
        obtain ⟨c, hc1, hc2⟩ := on_byte ha hn hme hcut.1 hlt
        have hql : q.length + 1 ≤ 65535 := by
          have h1 := hc2.length_le
          have h2 := he us[m] (List.getElem_mem _)
          simp at h1; omega
        have HB := Lib.hid (trbyte_any HT'.out (hp.below HO'.out) m q.length hme hc1)
        have hrun0 := Run.start hlt hme hc2
        have g1 : (m : Int) < (toL us q : Int) := by omega
        generalize us[m] = t0 at hme hc1 hc2 HB
        clear hme hc1 hc2
        go_wp2_with fail
        refine HB.out.mono ?_
        rintro e w' ⟨rfl, hw'⟩
        obtain rfl := hw'.symm
        clear hw' HB
        go_wp2
        obtain ⟨WR, hWR⟩ : ∃ W, W = wr := ⟨_, rfl⟩
        subst hWR
        go_loopw [1, 8, 12] (fun y z x wr => y = .slice (some ⟨gq, oq, none⟩) ((midS us S q m).length - (k + 1)) cq ∧ z = .int .i64 m ∧ ∃ j : Nat, x = .int .i64 j ∧ Hid (Run us q c m j) ∧ wr = WR) (fun _ _ x _ => toL us q - (RowKit.intOf x).toNat)
        case atStart => exact ⟨rfl, rfl, m + 1, by go_num, Lib.hid hrun0, rfl⟩
        case round =>
          obtain ⟨rfl, rfl, j, rfl, HRun, hwr⟩ := hrel
          obtain rfl := hwr
          have hrun := HRun.out
          clear HRun hrun0
          by_cases hj : j < toL us q
          · have hje : us[j]? = some us[j] := List.getElem?_eq_getElem (by omega)
            obtain ⟨d, hd1, hd2⟩ := on_byte ha hn hje (by have := hcut.1; have := hrun.1; omega) hj
            have HB2 := Lib.hid (trbyte_any HT'.out (hp.below HO'.out) j q.length hje hd1)
            have g2 : ¬ (j : Int) = (toL us q : Int) := by omega
            by_cases hcd : d = c
            · subst hcd
              have hrun2 := Lib.hid (hrun.more hj hje hd2)
              generalize us[j] = t1 at hje hd1 hd2 HB2
              clear hje hd1 hd2 hrun
              go_wp2_with fail
              refine HB2.out.mono ?_
              rintro e w' ⟨rfl, hw'⟩
              obtain rfl := hw'.symm
              clear hw' HB2
              go_wp2
              exact ⟨⟨rfl, rfl, j + 1, by go_num, hrun2, trivial⟩, by simp [RowKit.intOf]; omega⟩
            · have hk : ∀ t, j < toL us q → us[j]? = some t → ¬ q ++ [c] <+: t := fun t _ ht hp => by
                rw [hje] at ht
                cases ht
                have := (snoc_pre.1 hp).2
                rw [hd1] at this
                exact hcd (Option.some.inj this)
              have hcd2 : ¬ (d.toNat : Int) = (c.toNat : Int) := fun h => hcd (UInt8.toNat_inj.1 (by omega))
              have hcd3 : ((d.toNat : Int) != (c.toNat : Int)) = true := by rw [bne_iff_ne]; exact hcd2
              have g3 : ((j : Int) == (toL us q : Int)) = false := by rw [beq_eq_false_iff_ne]; exact g2
              clear hcd2 g2
              generalize us[j] = t1 at hje hd1 hd2 HB2
              clear hje hd1 hd2 hcd
              go_wp2_with fail
              refine HB2.out.mono ?_
              rintro e w' ⟨rfl, hw'⟩
              obtain rfl := hw'.symm
              clear hw' HB2
              have hrange := hrun.range ha hcut hk
              have hcut2 := hrun.cut ha hcut hk
              have HM2 := Lib.hid (mid_snoc (S := S) ha hrun hcut)
              have hjm := hrun.1
              have hjt := hrun.2.1
              have HA := Lib.hid (tradd_any HT'.out k m j r' c hr' (by omega) (by omega) (by rw [hd']; omega) (by omega))
              rw [hd'] at HA
              have HC2 := Lib.hid hcut2
              have HR2 := Lib.hid hrange
              clear hrange hcut2 hk
              go_wp2_with fail
              refine HA.out.mono ?_
              rintro e w3 ⟨rfl, hT3, hb3, hG3⟩
              have HB3 := Lib.hid hb3
              have HG3 := Lib.hid hG3
              have HT3 := Lib.hid hT3
              have hQ3 := HQ'.out.groups hG3
              have hbs3 : w0.heap.size ≤ w3.heap.size := (HO'.out.trans hb3).size
              have hX3 := (hG3 X _ HX'.out).trans HX'.out
              have HX3 := Lib.hid hX3
              have hXl3 := heap_lt hX3
              clear HA hb3 hG3 hT3 hX3
              go_wp2_with (at_builtin; refine wpList_append_q _ rfl _ _ 137 rfl w0.heap.size 136 i1 (.agg #[.int .i64 0, .int .i64 0, .int .i64 0]) 3 24 Tryz.underlying137 hi1 hy0 hy1 hy2 rfl (by decide) _ _ _ rfl (hQ3.alloc _) ⟨w3.heap.size, 0, none⟩ 1 1 [.int .i64 (R'.length : Int), .int .i64 (m : Int), .int .i64 (j : Int)] rfl rfl (new_gr (heap_alloc_new _ _)) gr_one (by decide) (by unfold maxLen; omega) (by omega) (by simp; omega) ?_)
              intro v' w4 hown4 hgrow4 hat4
              have M' : Hid (Mid us S q k w0 b X p j v' w4) := Lib.hid (by
                have hT4 := HT3.out.below ((Below.refl _ _).alloc (Nat.le_refl _) (.cells #[.int .i64 (R'.length : Int), .int .i64 (m : Int), .int .i64 (j : Int)] 136))
                have hq4 := hQ3.alloc (.cells #[.int .i64 (R'.length : Int), .int .i64 (m : Int), .int .i64 (j : Int)] 136)
                have hT5 := hT4.grown hq4 hgrow4
                refine ⟨⟨_, hT5, ?_⟩, ?_, ?_, ?_, ?_, HL'.out⟩
                · rw [HM2.out]
                  have := HR'.out.snoc (by have := mid_length us S q m; omega) HS'.out (c := c)
                  rw [HR2.out.1] at this
                  exact this
                · rw [HM2.out, List.drop_append_of_le_length (by have := mid_length us S q m; omega), gr_snoc, grCells_snoc, List.length_append, List.length_drop, HR2.out.1, HR2.out.2]
                  have e1 : (midS us S q m).length + [q ++ [c]].length - (k + 1) = (midS us S q m).length - (k + 1) + 1 := by have := mid_length us S q m; simp; omega
                  have e2 : k + 1 + ((midS us S q m).length - (k + 1)) = R'.length := by have := mid_length us S q m; rw [HR'.out.1]; omega
                  rw [e1, e2]
                  exact hown4
                · rw [hgrow4.block X (by simp; omega) (fun ee => HA'.out ee.symm), Lib.alloc_old _ _ X hXl3]
                  exact HX3.out
                · rcases hat4 with h4 | h4
                  · rw [h4]; exact HA'.out
                  · rw [h4]
                    simp only [World.size_alloc, ne_eq, Option.some.injEq]
                    omega
                · refine ((HO'.out.trans HB3.out).alloc hbs3 _).trans ⟨hgrow4.os, hgrow4.tape, hgrow4.output, hgrow4.size, fun i hi => hgrow4.block i (by simp; omega) (fun ee => by have := (hq4.lt i ee.symm).1; omega)⟩)
              obtain ⟨g4, o4, c4, rfl, _⟩ := hown4.form
              clear hown4 hgrow4 hat4 hQ3 HT3 HX3 HB3 HG3
              go_wp2
              exact ⟨⟨j, rfl, HC2.out, M'⟩, by simp [RowKit.intOf]; omega⟩
          · obtain ⟨j', hje⟩ : ∃ j', j' = toL us q := ⟨_, rfl⟩
            obtain rfl : j = toL us q := by have := hrun.2.1; omega
            have hk : ∀ t, toL us q < toL us q → us[toL us q]? = some t → ¬ q ++ [c] <+: t := fun t h => absurd h hj
            clear hje hj
            have hrange := hrun.range ha hcut hk
            have hcut2 := hrun.cut ha hcut hk
            have HM2 := Lib.hid (mid_snoc (S := S) ha hrun hcut)
            have hjm := hrun.1
            have hjt := hrun.2.1
            have HA := Lib.hid (tradd_any HT'.out k m (toL us q) r' c hr' (by omega) (by omega) (by rw [hd']; omega) (by omega))
            rw [hd'] at HA
            have HC2 := Lib.hid hcut2
            have HR2 := Lib.hid hrange
            clear hrange hcut2 hk
            go_wp2_with fail
            refine HA.out.mono ?_
            rintro e w3 ⟨rfl, hT3, hb3, hG3⟩
            have HB3 := Lib.hid hb3
            have HG3 := Lib.hid hG3
            have HT3 := Lib.hid hT3
            have hQ3 := HQ'.out.groups hG3
            have hbs3 : w0.heap.size ≤ w3.heap.size := (HO'.out.trans hb3).size
            have hX3 := (hG3 X _ HX'.out).trans HX'.out
            have HX3 := Lib.hid hX3
            have hXl3 := heap_lt hX3
            clear HA hb3 hG3 hT3 hX3
            go_wp2_with (at_builtin; refine wpList_append_q _ rfl _ _ 137 rfl w0.heap.size 136 i1 (.agg #[.int .i64 0, .int .i64 0, .int .i64 0]) 3 24 Tryz.underlying137 hi1 hy0 hy1 hy2 rfl (by decide) _ _ _ rfl (hQ3.alloc _) ⟨w3.heap.size, 0, none⟩ 1 1 [.int .i64 (R'.length : Int), .int .i64 (m : Int), .int .i64 (toL us q : Int)] rfl rfl (new_gr (heap_alloc_new _ _)) gr_one (by decide) (by unfold maxLen; omega) (by omega) (by simp; omega) ?_)
            intro v' w4 hown4 hgrow4 hat4
            have M' : Hid (Mid us S q k w0 b X p (toL us q) v' w4) := Lib.hid (by
              have hT4 := HT3.out.below ((Below.refl _ _).alloc (Nat.le_refl _) (.cells #[.int .i64 (R'.length : Int), .int .i64 (m : Int), .int .i64 (toL us q : Int)] 136))
              have hq4 := hQ3.alloc (.cells #[.int .i64 (R'.length : Int), .int .i64 (m : Int), .int .i64 (toL us q : Int)] 136)
              have hT5 := hT4.grown hq4 hgrow4
              refine ⟨⟨_, hT5, ?_⟩, ?_, ?_, ?_, ?_, HL'.out⟩
              · rw [HM2.out]
                have := HR'.out.snoc (by have := mid_length us S q m; omega) HS'.out (c := c)
                rw [HR2.out.1] at this
                exact this
              · rw [HM2.out, List.drop_append_of_le_length (by have := mid_length us S q m; omega), gr_snoc, grCells_snoc, List.length_append, List.length_drop, HR2.out.1, HR2.out.2]
                have e1 : (midS us S q m).length + [q ++ [c]].length - (k + 1) = (midS us S q m).length - (k + 1) + 1 := by have := mid_length us S q m; simp; omega
                have e2 : k + 1 + ((midS us S q m).length - (k + 1)) = R'.length := by have := mid_length us S q m; rw [HR'.out.1]; omega
                rw [e1, e2]
                exact hown4
              · rw [hgrow4.block X (by simp; omega) (fun ee => HA'.out ee.symm), Lib.alloc_old _ _ X hXl3]
                exact HX3.out
              · rcases hat4 with h4 | h4
                · rw [h4]; exact HA'.out
                · rw [h4]
                  simp only [World.size_alloc, ne_eq, Option.some.injEq]
                  omega
              · refine ((HO'.out.trans HB3.out).alloc hbs3 _).trans ⟨hgrow4.os, hgrow4.tape, hgrow4.output, hgrow4.size, fun i hi => hgrow4.block i (by simp; omega) (fun ee => by have := (hq4.lt i ee.symm).1; omega)⟩)
            obtain ⟨g4, o4, c4, rfl, _⟩ := hown4.form
            clear hown4 hgrow4 hat4 hQ3 HT3 HX3 HB3 HG3
            go_wp2
            exact ⟨⟨toL us q, rfl, HC2.out, M'⟩, by simp [RowKit.intOf]; omega⟩
      · have hme : m = toL us q := by have := hcut.2.1; omega
        have HE : Hid (RetGr us S q k w0 b p (.returned (.slice (some ⟨gq, oq, none⟩) ((midS us S q m).length - (k + 1)) cq)) wr) := Lib.hid ⟨_, rfl, ⟨R', HT'.out, by rw [← mid_end ha, ← hme]; exact HR'.out⟩, by rw [← mid_end ha, ← hme]; exact HQ'.out, HO'.out⟩
        have g1 : ¬ (m : Int) < (toL us q : Int) := by omega
        clear HT' HR' HQ' HX' HA' HO' HL' HS' hme
        go_wp2
        go_ret
        exact HE.out
end Go.Proofs.YtpblllpgmibkoaaGreat

namespace Go.Proofs.YtpblllpgmibkoaaGreat
open Go.RowKit

theorem made_first (n : Nat) (hn : 1 ≤ n) : (madeCells (Value.agg #[.int .i32 0, .int .i32 0, .int .i32 0, .int .u16 0, .int .u8 0]).cells (n * 5)).toList.take (1 * 5) = rcOne ⟨0, 0, 0, 0, 0⟩ := by
  have e : (Value.agg #[.int .i32 0, .int .i32 0, .int .i32 0, .int .u16 0, .int .u8 0]).cells = #[.int .i32 0, .int .i32 0, .int .i32 0, .int .u16 0, .int .u8 0] := by rfl
  rw [e]
  unfold madeCells
  rw [Array.toList_map, Array.toList_range, ← List.map_take, List.take_range, Nat.min_eq_left (by omega)]
  rfl
theorem make_states (n : Nat) (w : World) (h1 : 1 ≤ n) (hn : n ≤ 16777217) : ∃ w', (Instr.makeSlice 129 (.int .i64 1) (.int .i64 (n : Int))).run Tryz.prog w = .ok (.slice (some ⟨w.heap.size, 0, none⟩) 1 n) w' ∧
    w'.ownsRow w.heap.size 112 5 (.slice (some ⟨w.heap.size, 0, none⟩) 1 n) 1 (rcCells [⟨0, 0, 0, 0, 0⟩]) ∧ Below w.heap.size w w' ∧ w'.heap.size = w.heap.size + 1 := by
  obtain ⟨i0, hi, hz0, hz1, hz2⟩ := info_parts rc_info
  have h := run_make (P := Tryz.prog) w 129 112 i0 _ Tryz.underlying129 hi hz0 .i64 .i64 1 n (by omega) (by omega) (by rw [hz2]; omega) (by omega)
  rw [hz1, Int.toNat_natCast] at h
  refine ⟨_, h, ⟨rfl, .inr ⟨w.heap.size, n, _, rfl, Nat.le_refl _, heap_alloc_new w _, h1, by unfold maxLen; omega, size_madeCells _ _, ?_⟩⟩, (Below.refl _ _).alloc (Nat.le_refl _) _, by simp⟩
  rw [made_first n h1]
  rfl

/-- A trie of a set, behind a pointer: its states. -/
def IsTrie (w : World) (q p : Option Addr) (us S : List (List UInt8)) : Prop :=
  ∃ R, HasTr w q p R ∧ RecOk us S S.length R ∧ Bfs us S.length S ∧ IsPats w p us
/-- What stands while the states are gone through. -/
structure Made (us : List (List UInt8)) (w0 : World) (b : Nat) (p : Option Addr) (k : Nat) (S : List (List UInt8)) (v : Value) (w : World) : Prop where
  bfs : Bfs us k S
  tr : ∃ R, IsTr w w0.heap.size b p R ∧ RecOk us S k R
  que : OwnQ w w0.heap.size 136 3 v (S.length - k) (grCells (grL us k (S.drop k)))
  old : Below w0.heap.size w0 w

set_option maxRecDepth 100000 in
set_option maxHeartbeats 4000000 in
theorem trnew_any {w : World} {p : Option Addr} {us : List (List UInt8)} (hp : IsPats w p us) (ha : Asc us) (hn : us.Nodup) :
    Calls Tryz.prog 59 #[.pointer p] w fun e w' => ∃ q S, e = .returned (.pointer q) ∧ IsTrie w' q p us S ∧ Below w.heap.size w w' := by
  obtain ⟨he, hl, ht⟩ := pats_each hp
  have HC := Lib.hid (trcount_any hp)
  have HP := Lib.hid hp
  clear hp
  go_enter Tryz.func59, Tryz.ntmps59
  go_wp2_with fail
  refine HC.out.mono ?_
  rintro e w1 ⟨n, q1, rfl, hn1, hn2, rfl⟩
  obtain ⟨w2, hmake, hown2, hb2, hs2⟩ := make_states n (w.drewN q1) hn1 hn2
  have HL := Lib.hid (ptlen_all ((HP.out.heap (W := w.drewN q1) rfl).below hb2))
  clear HC
  go_wp2_with fail
  have hT0 : IsTr (w2.alloc (.cells #[.pointer p, .slice (some ⟨w.heap.size, 0, none⟩) 1 n] 131)) w.heap.size (w.heap.size + 1) p [⟨0, 0, 0, 0, 0⟩] := by
    have hx := heap_alloc_new w2 (.cells #[.pointer p, .slice (some ⟨w.heap.size, 0, none⟩) 1 n] 131)
    rw [hs2] at hx
    exact ⟨w.heap.size, n, hx, by omega, hown2.alloc _, fun r hr => by rw [List.mem_singleton] at hr; subst hr; unfold Rc.Fit; simp, by simp⟩
  have hb3 : Below w.heap.size w (w2.alloc (.cells #[.pointer p, .slice (some ⟨w.heap.size, 0, none⟩) 1 n] 131)) := ((below_drewS (Below.refl _ _) q1).trans hb2).alloc (by rw [hs2]; exact Nat.le_succ _) _
  have HL2 := Lib.hid (ptlen_all (HP.out.below hb3))
  have HT0 := Lib.hid hT0
  clear hT0 HL hown2 hb2 hs2 hmake
  generalize w2.alloc (.cells #[.pointer p, .slice (some ⟨w.heap.size, 0, none⟩) 1 n] 131) = w3 at *
  generalize w.heap.size + 1 = b at *
  have hs3 := hb3.size
  refine HL2.out.mono ?_
  rintro e w' ⟨rfl, hw'⟩
  obtain rfl := hw'.symm
  clear hw' HL2
  go_wp2
  have M0 : Hid (Made us w b p 0 [[]] (.slice (some ⟨w3.heap.size, 0, none⟩) 1 1) (w3.alloc (.cells #[.int .i64 0, .int .i64 0, .int .i64 (us.length : Int)] 136))) := Lib.hid
    ⟨.zero, ⟨_, HT0.out.below ((Below.refl _ _).alloc (Nat.le_refl _) _), RecOk.start us⟩, OwnQ.of (by
      refine ⟨rfl, .inr ⟨w3.heap.size, 1, _, rfl, hs3, heap_alloc_new w3 _, Nat.le_refl _, by decide, rfl, ?_⟩⟩
      show [Value.int .i64 0, .int .i64 0, .int .i64 (us.length : Int)] = grCells [(0, frL us [], toL us [])]
      rw [(root_range us).1, (root_range us).2]; rfl) (by simp), hb3.alloc hs3 _⟩
  clear HT0
  go_loopg [4] 16777300 (fun gx y wr => ∃ (k : Nat) (S : List (List UInt8)), gx = 16777300 - k ∧ Hid (Made us w b p k S y wr))
  case atStart => exact ⟨0, [[]], rfl, M0⟩
  case round =>
    clear M0
    obtain ⟨k, S, rfl, HM⟩ := hrel
    obtain ⟨hbfs, ⟨R, hT, hR⟩, hQ, hB⟩ := HM.out
    obtain ⟨gq, oq, cq, rfl, hgb, hgl, hnc, hcm⟩ := hQ.form
    have hkl := hbfs.le.1
    have hfew := hbfs.few
    by_cases hlt : k < S.length
    · obtain ⟨l, hl'⟩ : ∃ l, S.length - k = l + 1 := ⟨S.length - k - 1, by omega⟩
      obtain ⟨q, hq⟩ : ∃ q, S[k]? = some q := ⟨S[k], List.getElem?_eq_getElem hlt⟩
      have hdrop : S.drop k = q :: S.drop (k + 1) := by rw [List.drop_eq_getElem_cons hlt, (List.getElem?_eq_some_iff.1 hq).2]
      rw [hl', hdrop, grL, grCells_cons] at hQ
      rw [hl'] at hnc ⊢
      have d0 : wr.cell? ⟨gq, oq, none⟩ = some (.int .i64 (k : Int)) := hQ.cell 0 _ rfl
      have d1 : wr.cell? ⟨gq, oq + 1, none⟩ = some (.int .i64 (frL us q : Int)) := hQ.cell 1 _ rfl
      have d2 : wr.cell? ⟨gq, oq + 2, none⟩ = some (.int .i64 (toL us q : Int)) := hQ.cell 2 _ rfl
      have g1 : (1 : Int) ≤ (cq : Int) := by omega
      have g2 : (1 : Int) ≤ (l : Int) + 1 := by omega
      have g3 : (l : Int) + 1 ≤ (cq : Int) := by omega
      have g4 : (0 : Int) ≤ (l : Int) := by omega
      have HB := Lib.hid hB
      have hlen : S.length - (k + 1) = l := by omega
      have HR : ∀ v, OwnQ wr w.heap.size 136 3 v l (grCells (grL us (k + 1) (S.drop (k + 1)))) → Hid (Calls Tryz.prog 83 #[.pointer (some ⟨b, 0, none⟩), v, .agg #[.int .i64 (k : Int), .int .i64 (frL us q : Int), .int .i64 (toL us q : Int)]] wr.drew (RetGr us S q k w b p)) := fun v hv =>
        Lib.hid (trgrow_any (w := wr.drew) HP.out ha hn hB.drew hbfs hq (hT.heap rfl) hR (by rw [hlen]; exact hv.heap rfl))
      have HS := Lib.hid (Bfs.step hbfs hq)
      by_cases hc1 : cq = 1
      · have hl0 : l = 0 := by omega
        subst hl0
        subst hc1
        have HG := HR _ (by
          have h0 : S.drop (k + 1) = [] := List.drop_eq_nil_of_le (by omega)
          rw [h0]
          exact OwnQ.none hQ)
        clear HR hQ hT hR hB HM hdrop
        go_wp2_with fail
        go_still_tail 6, (by kernel_rfl)
        change wpList _ _ _ _ _ wr.drew
        generalize wr.drew = w5 at HG ⊢
        go_wp2_with fail
        refine HG.out.mono ?_
        rintro e w6 ⟨v, rfl, hR6, hQ6, hB6⟩
        generalize S ++ kidsP us q = T at hR6 hQ6 HS
        obtain ⟨g6, o6, c6, rfl, _⟩ := hQ6.form
        have M6 := Lib.hid (⟨HS.out, hR6, hQ6, hB6⟩ : Made us w b p (k + 1) T _ w6)
        clear hR6 hQ6 hB6 HG HS HB
        go_wp2
        go_roundg (16777300 - (k + 1))
        case measure => omega
        case rel => exact ⟨k + 1, _, rfl, M6⟩
      · have HG := HR _ (by
          have := OwnQ.rest hQ
          exact this)
        clear HR hQ hT hR hB HM hdrop
        go_wp2_with fail
        go_still_tail 6, (by kernel_rfl)
        change wpList _ _ _ _ _ wr.drew
        generalize wr.drew = w5 at HG ⊢
        go_wp2_with fail
        refine HG.out.mono ?_
        rintro e w6 ⟨v, rfl, hR6, hQ6, hB6⟩
        generalize S ++ kidsP us q = T at hR6 hQ6 HS
        obtain ⟨g6, o6, c6, rfl, _⟩ := hQ6.form
        have M6 := Lib.hid (⟨HS.out, hR6, hQ6, hB6⟩ : Made us w b p (k + 1) T _ w6)
        clear hR6 hQ6 hB6 HG HS HB
        go_wp2
        go_roundg (16777300 - (k + 1))
        case measure => omega
        case rel => exact ⟨k + 1, _, rfl, M6⟩
    · have hk : k = S.length := by omega
      subst hk
      have hz : S.length - S.length = 0 := Nat.sub_self _
      have HE : Hid (IsTrie wr (some ⟨b, 0, none⟩) p us S ∧ Below w.heap.size w wr) := Lib.hid ⟨⟨R, .inr ⟨_, b, rfl, hT⟩, hR, hbfs, HP.out.below hB⟩, hB⟩
      clear hT hR hQ hB HM
      go_wp2
      go_ret
      exact ⟨_, S, rfl, HE.out⟩
end Go.Proofs.YtpblllpgmibkoaaGreat
