/-
  Texts put together: TrE, TrK, StepAp, TrN, OwnQ, TrV.
-/
import Derived.Test.YtjmlabggocfikaaGreatBn4
import Derived.Lib.MinMax
import Derived.Laws.AppendOwn
import Derived.WalkKit
import Derived.Maps.AppendAt
import Derived.Deep.RegionLaw
import Derived.Deep.AppendLies
import Derived.Test.YtjmlabggocfikaaGreatBn2
import Derived.BigRegion
import Derived.Laws.BitsLemmas
import Derived.Laws.BitsAllLaws
import Derived.Below
import Derived.Lib.QuietBelow
set_option linter.unusedSimpArgs false
set_option linter.unusedVariables false
namespace Go.Proofs.YtjmlabggocfikaaGreat
open Go.RowKit

/-- A pattern by any number. -/
theorem ptat_pats {w : World} {p : Option Addr} {us : List (List UInt8)} (h : IsPats w p us) (k : Nat) : Calls Tryz.prog 83 #[.pointer p, .int .i64 (k : Int)] w fun e w' =>
    e = .returned (.tuple #[.string ⟨(us.getD k []).toArray⟩, .bool (decide (k < us.length))]) ∧ w' = w := by
  by_cases hk : k < us.length
  · have e : us[k]? = some (us.getD k []) := by rw [List.getD_eq_getElem?_getD, List.getElem?_eq_getElem hk]; rfl
    rw [decide_eq_true hk]
    exact ptat_all h k _ e
  · have e : us.getD k [] = [] := by rw [List.getD_eq_getElem?_getD, List.getElem?_eq_none (by omega)]; rfl
    rw [decide_eq_false hk, e]
    rcases h with ⟨rfl, _⟩ | ⟨b, rfl, h, _⟩
    · exact ptat_nil _ w
    · exact ptat_out h _ (.inr (by omega))

/-- Is the first pattern of a state it? -/
def EndR (us : List (List UInt8)) (r : Rc) : Prop := r.first < us.length ∧ (us.getD r.first []).length = r.depth
set_option maxHeartbeats 1000000 in
theorem trends_out {w : World} {q p : Option Addr} {R : List Rc} (h : HasTr w q p R) (s : Int) (hs : s < 0 ∨ (R.length : Int) ≤ s) : Calls Tryz.prog 68 #[.pointer q, .int .i64 s] w fun e w' => e = .returned (.tuple #[.int .i64 0, .bool false]) ∧ w' = w := by
  have HS := Lib.hid (tris_out h s hs)
  clear h hs
  go_enter Tryz.func68, Tryz.ntmps68
  go_wp2_with fail
  refine HS.out.mono ?_
  rintro e w' ⟨rfl, rfl⟩
  go_wp2
  go_ret2
  exact ⟨rfl, rfl⟩
set_option maxHeartbeats 2000000 in
theorem trends_in {w : World} {q p : Option Addr} {R : List Rc} {us : List (List UInt8)} (h : HasTr w q p R) (hp : IsPats w p us) (k : Nat) (r : Rc) (hr : R[k]? = some r) (hl : us.length ≤ 1000000) :
    Calls Tryz.prog 68 #[.pointer q, .int .i64 (k : Int)] w fun e w' => ((EndR us r → e = .returned (.tuple #[.int .i64 (r.first : Int), .bool true])) ∧ (¬ EndR us r → e = .returned (.tuple #[.int .i64 0, .bool false]))) ∧ Below w.heap.size w w' := by
  have hk := (List.getElem?_eq_some_iff.1 hr).1
  have HS := Lib.hid (tris_in h k hk)
  obtain ⟨base, b, rfl, ht⟩ := h.some hk
  obtain ⟨g, cap, c0, c1, hcap, _, hg, hat⟩ := ht.reads
  have ha := hat k r hr
  obtain ⟨e0, e1, e2, e3, e4⟩ := ha
  obtain ⟨f1, _, _, f4⟩ := ht.fit hr
  have HP := Lib.hid (fun W (hW : Below w.heap.size w W) => ptat_pats (hp.below hW) r.first)
  have d0 : ∀ o, (w.alloc o).cell? ⟨b, 0, none⟩ = some (.pointer p) := fun o => by rw [World.cell?_alloc_lt _ _ _ ht.lt]; exact c0
  have g0 : (0 : Int) ≤ (k : Int) := by omega
  have g1 : (k : Int) < (R.length : Int) := by omega
  have hw : IntKind.i64.wrap (r.first : Int) = (r.first : Int) := by rw [IntKind.wrap_i64]; omega
  have hw2 : IntKind.i64.wrap (r.depth : Int) = (r.depth : Int) := by rw [IntKind.wrap_i64]; omega
  have hS := Lib.hid (bsize (us.getD r.first []))
  unfold EndR
  generalize us.getD r.first [] = t at *
  generalize us.length = n at *
  clear h ht hat hr hp
  by_cases hn : r.first < n
  · rw [decide_eq_true hn] at HP
    by_cases hq : t.length = r.depth
    · go_enter Tryz.func68, Tryz.ntmps68
      go_wp2_with fail
      refine HS.out.mono ?_
      rintro e w' ⟨rfl, rfl⟩
      go_wp2_with fail
      go_quiet (first | with_reducible exact Calls.quiet_of_same (HP.out _ (below_drewS ((Below.refl _ _).alloc (Nat.le_refl _) _) _)))
      go_wp2
      go_ret2
      exact ⟨⟨fun _ => rfl, fun hh => absurd ⟨hn, hq⟩ hh⟩, below_drewS ((Below.refl _ _).alloc (Nat.le_refl _) _) _⟩
    · have hq2 : ¬ (t.length : Int) = (r.depth : Int) := by omega
      go_enter Tryz.func68, Tryz.ntmps68
      go_wp2_with fail
      refine HS.out.mono ?_
      rintro e w' ⟨rfl, rfl⟩
      go_wp2_with fail
      go_quiet (first | with_reducible exact Calls.quiet_of_same (HP.out _ (below_drewS ((Below.refl _ _).alloc (Nat.le_refl _) _) _)))
      go_wp2
      go_ret2
      exact ⟨⟨fun hh => absurd hh.2 hq, fun _ => rfl⟩, below_drewS ((Below.refl _ _).alloc (Nat.le_refl _) _) _⟩
  · rw [decide_eq_false hn] at HP
    go_enter Tryz.func68, Tryz.ntmps68
    go_wp2_with fail
    refine HS.out.mono ?_
    rintro e w' ⟨rfl, rfl⟩
    go_wp2_with fail
    go_quiet (first | with_reducible exact Calls.quiet_of_same (HP.out _ (below_drewS ((Below.refl _ _).alloc (Nat.le_refl _) _) _)))
    go_wp2
    go_ret2
    exact ⟨⟨fun hh => absurd hh.1 hn, fun _ => rfl⟩, below_drewS ((Below.refl _ _).alloc (Nat.le_refl _) _) _⟩

set_option maxHeartbeats 1000000 in
theorem trbyte_any {w : World} {base b : Nat} {p : Option Addr} {R : List Rc} {us : List (List UInt8)} (h : IsTr w base b p R) (hp : IsPats w p us) (k j : Nat) {t : List UInt8} {c : UInt8} (ht : us[k]? = some t) (hc : t[j]? = some c) :
    Calls Tryz.prog 103 #[.pointer (some ⟨b, 0, none⟩), .int .i64 (k : Int), .int .i64 (j : Int)] w fun e w' => e = .returned (.int .u8 (c.toNat : Int)) ∧ w' = w := by
  have HP := Lib.hid (ptat_all hp k t ht)
  obtain ⟨g, cap, c0, c1, _⟩ := h.reads
  obtain ⟨hj, rfl⟩ := List.getElem?_eq_some_iff.1 hc
  have hS := Lib.hid (bsize t)
  have hb := byteAt t j hj (by rw [bsize]; exact hj)
  have g0 : (0 : Int) ≤ (j : Int) := by omega
  have g1 : (j : Int) < (t.length : Int) := by omega
  clear h hp ht hc
  go_enter Tryz.func103, Tryz.ntmps103
  go_wp2_with fail
  refine HP.out.mono ?_
  rintro e w' ⟨rfl, rfl⟩
  go_wp2
  go_ret
  exact ⟨rfl, rfl⟩
end Go.Proofs.YtjmlabggocfikaaGreat

namespace Go.Proofs.YtjmlabggocfikaaGreat
open Go.RowKit

/-- A number that is none too great, after some draws. -/
def RetAl (m : Nat) (w : World) (e : Ending) (w' : World) : Prop := ∃ n q : Nat, e = .returned (.int .i64 (n : Int)) ∧ n ≤ m ∧ w' = w.drewN q
theorem trdrew_all (w : World) (n m : Nat) : (w.drewN n).drewN m = w.drewN (n + m) := by simp [World.drewN, Nat.add_assoc]

set_option maxHeartbeats 1000000 in
theorem tralike_any (a b : List UInt8) (w : World) (ha : a.length ≤ 1000000000) (hb : b.length ≤ 1000000000) :
    Calls Tryz.prog 102 #[.string ⟨a.toArray⟩, .string ⟨b.toArray⟩] w (RetAl b.length w) := by
  have S1 := Lib.hid (bsize a)
  have S2 := Lib.hid (bsize b)
  obtain ⟨m, hm, hma, hmb⟩ : ∃ m : Nat, min (a.length : Int) (b.length : Int) = (m : Int) ∧ m ≤ a.length ∧ m ≤ b.length := ⟨min a.length b.length, by omega, by omega, by omega⟩
  go_enter Tryz.func102, Tryz.ntmps102
  go_wp2
  go_loopw [5] (fun i wr => ∃ k : Nat, k ≤ m ∧ i = .int .i64 k ∧ ∃ q, wr = w.drewN q) (fun i _ => m - (RowKit.intOf i).toNat)
  case atStart => exact ⟨0, Nat.zero_le _, rfl, 0, rfl⟩
  case round =>
    obtain ⟨k, hk, rfl, q, rfl⟩ := hrel
    by_cases hlt : k < m
    · have g1 : (k : Int) < (m : Int) := by omega
      have g2 : k < a.length := by omega
      have g3 : k < b.length := by omega
      have hza : k < (⟨a.toArray⟩ : ByteArray).size := by rw [bsize]; omega
      have hzb : k < (⟨b.toArray⟩ : ByteArray).size := by rw [bsize]; omega
      have HA := byteAt a k (by omega) hza
      have HB := byteAt b k (by omega) hzb
      by_cases hc : a[k] = b[k]
      · have hq : (((((⟨a.toArray⟩ : ByteArray)[k]'hza).toNat : Int)) = ((((⟨b.toArray⟩ : ByteArray)[k]'hzb).toNat : Int))) := by rw [HA, HB, hc]
        clear HA HB hc
        go_wp2_with fail
        go_quiet (fail)
        go_wp2
        exact ⟨⟨k + 1, by omega, by go_num, _, rfl⟩, by simp [RowKit.intOf]; omega⟩
      · have hq : ¬ (((((⟨a.toArray⟩ : ByteArray)[k]'hza).toNat : Int)) = ((((⟨b.toArray⟩ : ByteArray)[k]'hzb).toNat : Int))) := by
          rw [HA, HB]
          exact fun e => hc (UInt8.toNat_inj.1 (by omega))
        clear HA HB hc
        go_wp2_with fail
        go_quiet (fail)
        go_wp2
        go_ret
        exact ⟨k, _, rfl, by omega, trdrew_all _ _ _⟩
    · obtain rfl : k = m := by omega
      have g1 : ¬ (k : Int) < (k : Int) := by omega
      go_wp2_with fail
      go_quiet (fail)
      go_wp2
      go_ret
      exact ⟨k, _, rfl, by omega, trdrew_all _ _ _⟩

theorem pats_each {w : World} {p : Option Addr} {us : List (List UInt8)} (h : IsPats w p us) : (∀ t ∈ us, t.length ≤ 65535) ∧ us.length ≤ 65535 ∧ totalL us ≤ 16777216 := by
  rcases h with ⟨_, rfl⟩ | ⟨b, _, _, h⟩
  · simp [totalL]
  · exact ⟨fun t ht => (h.each t ht).2, h.few, h.total⟩

set_option maxHeartbeats 1000000 in
theorem trcount_any {w : World} {p : Option Addr} {us : List (List UInt8)} (h : IsPats w p us) : Calls Tryz.prog 86 #[.pointer p] w fun e w' => ∃ n q : Nat, e = .returned (.int .i64 (n : Int)) ∧ 1 ≤ n ∧ n ≤ 16777217 ∧ w' = w.drewN q := by
  obtain ⟨he, hf, ht⟩ := pats_each h
  have HE := Lib.hid he
  have HL := Lib.hid (ptlen_all h)
  have HA : Hid (∀ (q k : Nat) t, us[k]? = some t → _) := Lib.hid fun q k t ht => ptat_all (h.heap (W := w.drewN q) rfl) k t ht
  have HT : Hid (∀ k, totalL (us.take k) ≤ totalL us) := Lib.hid (total_take_le us)
  clear he h
  go_enter Tryz.func86, Tryz.ntmps86
  go_wp2_with fail
  refine HL.out.mono ?_
  rintro e w' ⟨rfl, rfl⟩
  go_wp2
  go_loopw [3, 4, 10] (fun x y i wr => ∃ (k n : Nat) (a : List UInt8), k ≤ us.length ∧ i = .int .i64 k ∧ x = .int .i64 n ∧ y = .string ⟨a.toArray⟩ ∧ a.length ≤ 65535 ∧ 1 ≤ n ∧ Hid (n ≤ totalL (us.take k) + 1) ∧ ∃ q, wr = w'.drewN q) (fun _ _ i _ => us.length - (RowKit.intOf i).toNat)
  case atStart => exact ⟨0, 1, [], Nat.zero_le _, rfl, rfl, rfl, by simp, by omega, Lib.hid (by omega), 0, rfl⟩
  case round =>
    obtain ⟨k, n, a, hk, rfl, rfl, rfl, ha, hn, HN, q, rfl⟩ := hrel
    have hnt := HN.out
    have htk := HT.out k
    by_cases hlt : k < us.length
    · obtain ⟨t, hft⟩ : ∃ t, us[k]? = some t := ⟨us[k], List.getElem?_eq_getElem hlt⟩
      have htl := HE.out t (List.mem_of_getElem? hft)
      have HA2 := Lib.hid (HA.out q k t hft)
      have HK := Lib.hid (tralike_any a t (w'.drewN q) (by omega) (by omega))
      have HS := Lib.hid (bsize t)
      have hts := total_snoc hft
      have htk2 := HT.out (k + 1)
      have g1 : (k : Int) < (us.length : Int) := by omega
      clear hft
      have hs2 : ∀ m : Nat, m ≤ t.length → (n + (t.length - m) ≤ totalL (us.take (k + 1)) + 1) := fun m hm => by omega
      have HS2 := Lib.hid hs2
      have hbig : n ≤ 16777217 := by omega
      clear hts htk2 htk hnt HN hs2
      go_wp2_with fail
      refine HA2.out.mono ?_
      rintro e w2 ⟨rfl, rfl⟩
      go_wp2_with fail
      refine HK.out.mono ?_
      rintro e w3 ⟨m, q2, rfl, hm, rfl⟩
      have w1 : IntKind.i64.wrap ((t.length : Int) - (m : Int)) = ((t.length - m : Nat) : Int) := by rw [IntKind.wrap_i64]; omega
      have w2 : IntKind.i64.wrap ((n : Int) + ((t.length - m : Nat) : Int)) = ((n + (t.length - m) : Nat) : Int) := by rw [IntKind.wrap_i64]; omega
      clear HA2 HK
      go_wp2
      exact ⟨⟨k + 1, n + (t.length - m), t, by omega, by go_num, by rw [show ((n + (t.length - m) : Nat) : Int) = (n : Int) + ((t.length - m : Nat) : Int) by omega], rfl, htl, by omega, Lib.hid (HS2.out m hm), _, rfl⟩, by simp [RowKit.intOf]; omega⟩
    · obtain rfl : k = us.length := by omega
      have g1 : ¬ (us.length : Int) < (us.length : Int) := by omega
      have hbig : n ≤ 16777217 := by omega
      clear hnt htk HN
      go_wp2
      go_ret
      exact ⟨n, rfl, hn, hbig, q, rfl⟩
end Go.Proofs.YtjmlabggocfikaaGreat

namespace Go.Proofs.YtjmlabggocfikaaGreat
open Go.RowKit

/-- An append to what the call owns, of so many elements as may be (none, too), as a step of a region that draws its order. -/
theorem step_append_any {P : Program} {w : World} {ops : Array Oper} {o : Oper} {a : Act} {K : Act → World → Prop} {Q : Exit → Act → World → Prop} {E : Prop} (hgd : o.guard = none) (s x : Operand) (t : TypeId)
    (ho : o.op = .call { callee := .builtin .append, args := #[s, x], argTypes := #[t, t] })
    (base : Nat) (e : TypeId) (i : TypeInfo) (z : Value) (size bytes : Nat) (ht : P.underlying t = some (.slice e)) (hi : P.info? e = some i) (hz : i.zero = some z)
    (hsize : i.size = size) (hby : i.bytes = bytes) (hzs : z.cells.size = size) (hsz : 0 < size)
    (v : Value) (n : Nat) (xs : List Value) (hs : a.eval s = v) (hown : w.ownsRow base e size v n xs)
    (ad : Addr) (m c : Nat) (news : List Value) (hx : a.eval x = .slice (some ad) m c) (hl : news.length = m * size) (hnews : ∀ j u, news[j]? = some u → w.cell? (ad.add j) = some u) (h1 : ∀ u ∈ news, u.oneCell' = true)
    (h63 : n + m ≤ maxLen) (hbytes : (n + m) * bytes ≤ 140737488355328) (hbase : base ≤ w.heap.size)
    (h : ∀ v' w', w'.ownsRow base e size v' (n + m) (xs ++ news) → w.grownBy w' v.ownBlock → K (a.put o.dst v') w') :
    if Region.wanted o (yielded ops a.tmps) = true then Oper.wp P o a w K Q else E := by
  have hw : Region.wanted o (yielded ops a.tmps) = true := by simp [Region.wanted, hgd]
  rw [if_pos hw]
  obtain ⟨v', w', hr, h2, h3, _, _⟩ := run_append_own_at (P := P) w base t o.type e i z size bytes ht hi hz hsize hby hzs hsz v n xs hown ad m c news hl hnews h1 h63 hbytes hbase
  unfold Oper.wp execOp
  simp only [ho, resolve, invoke, builtin, Sem.run_bind, Sem.run_pure, Result.andThen_ok, List.map_toArray, List.map_cons, List.map_nil, hs, hx, hr]
  exact h v' w' h2 h3
end Go.Proofs.YtjmlabggocfikaaGreat

namespace Go.Proofs.YtjmlabggocfikaaGreat
open Go.RowKit

/-- All blocks of groups are as they were. -/
def Groups (w w' : World) : Prop := ∀ (k : Nat) (cur : Array Value), w.heap[k]? = some (Obj.cells cur 136 (0, 0)) → w'.heap[k]? = w.heap[k]?
theorem Groups.refl (w : World) : Groups w w := fun _ _ _ => rfl
theorem Groups.trans {u v w : World} (h : Groups u v) (k : Groups v w) : Groups u w := fun i cur hi => (k i cur ((h i cur hi).trans hi)).trans (h i cur hi)
theorem Groups.of {w w' : World} (h : Below w.heap.size w w') : Groups w w' := fun k _ hk => h.block k (heap_lt hk)

/-- A trie stays one where a block of a group is written. -/
theorem IsTr.others {w w' : World} {base b X : Nat} {p : Option Addr} {R : List Rc} {cs : Array Value} (h : IsTr w base b p R) (hX : w.heap[X]? = some (.cells cs 136 (0, 0))) (hk : ∀ k, k ≠ X → w'.heap[k]? = w.heap[k]?) : IsTr w' base b p R := by
  obtain ⟨g, cap, h1, h2, h3, h4⟩ := h
  refine ⟨g, cap, (hk b fun e => ?_).trans h1, h2, ?_, h4⟩
  · subst e; rw [hX] at h1; simp at h1
  · obtain ⟨hl, hx⟩ := h3
    refine ⟨hl, ?_⟩
    rcases hx with hx | ⟨g', cap', cur, hv, hg, hh, r⟩
    · exact .inl hx
    · exact .inr ⟨g', cap', cur, hv, hg, (hk g' fun e => by subst e; rw [hX] at hh; simp at hh).trans hh, r⟩

theorem new_rc {w : World} {X : Nat} {T : TypeId} {r : Rc} (h : w.heap[X]? = some (.cells (rcOne r).toArray T (0, 0))) : ∀ j x, (rcOne r)[j]? = some x → w.cell? ((⟨X, 0, none⟩ : Addr).add j) = some x := by
  intro j x hj
  rw [addPlain, Nat.zero_add, Lib.cell_of_heap h, List.getElem?_toArray]
  exact hj

set_option maxRecDepth 100000 in
set_option maxHeartbeats 4000000 in
theorem tradd_any {w : World} {base b : Nat} {p : Option Addr} {R : List Rc} (h : IsTr w base b p R) (s f e : Nat) (r : Rc) (c : UInt8) (hr : R[s]? = some r) (hf : f ≤ 65535) (he : e ≤ 65535) (hd : r.depth + 1 ≤ 65535) (hR : R.length + 1 ≤ 2147483647) :
    Calls Tryz.prog 104 #[.pointer (some ⟨b, 0, none⟩), .int .i64 (s : Int), .int .u8 (c.toNat : Int), .int .i64 (f : Int), .int .i64 (e : Int)] w fun en w' =>
      en = .returned (.agg #[.int .i64 (R.length : Int), .int .i64 (f : Int), .int .i64 (e : Int)]) ∧ IsTr w' base b p (R ++ [⟨f, s, 0, r.depth + 1, c⟩]) ∧ Below base w w' ∧ Groups w w' := by
  obtain ⟨i0, hi, hz0, hz1, hz2⟩ := info_parts rc_info
  have hs := (List.getElem?_eq_some_iff.1 hr).1
  obtain ⟨g0, cap0, hh, hbase, hown, hfit, hfew⟩ := h
  have hblt := heap_lt hh
  have e3 := (own_rcs hown hr).c3
  have hglt := (hown.lt g0 rfl).2
  have c1 : w.cell? ⟨b, 1, none⟩ = some (.slice (some ⟨g0, 0, none⟩) R.length cap0) := by rw [Lib.cell_of_heap hh]; rfl
  have d1 : ∀ o, (w.alloc o).cell? ⟨b, 1, none⟩ = some (.slice (some ⟨g0, 0, none⟩) R.length cap0) := fun o => by rw [World.cell?_alloc_lt _ _ _ hblt]; exact c1
  have d3 : ∀ o, (w.alloc o).cell? ⟨g0, s * 5 + 3, none⟩ = some (.int .u16 (r.depth : Int)) := fun o => by rw [World.cell?_alloc_lt _ _ _ hglt]; exact e3
  have x1 : ∀ o o', ((w.alloc o).alloc o').cell? ⟨b, 1, none⟩ = some (.slice (some ⟨g0, 0, none⟩) R.length cap0) := fun o o' => by rw [World.cell?_alloc_lt _ _ _ (by simp; omega)]; exact d1 o
  have x3 : ∀ o o', ((w.alloc o).alloc o').cell? ⟨g0, s * 5 + 3, none⟩ = some (.int .u16 (r.depth : Int)) := fun o o' => by rw [World.cell?_alloc_lt _ _ _ (by simp; omega)]; exact d3 o
  have w1 : IntKind.i32.wrap (f : Int) = (f : Int) := by rw [IntKind.wrap_i32]; omega
  have w2 : IntKind.i32.wrap (s : Int) = (s : Int) := by rw [IntKind.wrap_i32]; omega
  have w3 : IntKind.u16.wrap ((r.depth : Int) + 1) = (r.depth : Int) + 1 := by rw [IntKind.wrap_u16]; omega
  have k0 : (0 : Int) ≤ (s : Int) := by omega
  have k1 : (s : Int) < (R.length : Int) := by omega
  go_enter Tryz.func104, Tryz.ntmps104
  go_wp2_with fail
  have hX : ∀ (o : Obj), ((w.alloc o).alloc (.cells (rcOne ⟨f, s, 0, r.depth + 1, c⟩).toArray 109)).drew.heap[w.heap.size + 1]? = some (.cells (rcOne ⟨f, s, 0, r.depth + 1, c⟩).toArray 109 (0, 0)) := fun o => by
    have := heap_alloc_new (w.alloc o) (.cells (rcOne ⟨f, s, 0, r.depth + 1, c⟩).toArray 109)
    rwa [show (w.alloc o).heap.size = w.heap.size + 1 by simp] at this
  have hne : (Value.slice (some ⟨g0, 0, none⟩) R.length cap0).ownBlock ≠ some b := fun e => by
    obtain ⟨_, ⟨hx, _⟩ | ⟨g, cap, cur, hx, _, hg, _⟩⟩ := hown
    · cases hx
    · cases hx
      simp only [Value.ownBlock, Option.some.injEq] at e
      subst e
      rw [hg] at hh
      simp at hh
  have HO := Lib.hid hown
  have HH := Lib.hid hh
  go_region_law (first
    | (refine step_append_any rfl (.tmp 21) (.tmp 37) _ rfl base 109 i0 (.agg #[.int .i32 0, .int .i32 0, .int .i32 0, .int .u16 0, .int .u8 0]) 5 16 Tryz.underlying128 hi hz0 hz1 hz2 rfl (by omega) (.slice (some ⟨g0, 0, none⟩) R.length cap0) R.length (rcCells R) (by simp [Act.eval, Act.put]) (((hown.alloc _).alloc _).drew) ⟨w.heap.size + 1, 0, none⟩ 1 1 (rcOne ⟨f, s, 0, r.depth + 1, c⟩) (by simp [Act.eval, Act.put]) rfl (new_rc (hX _)) rc_one (by unfold maxLen; omega) (by omega) (by simp; omega) ?_
       intro v3 w3 own3 grow3
       have V3 : w3.heap[b]? = some (.cells #[.pointer p, .slice (some ⟨g0, 0, none⟩) R.length cap0] 130 (0, 0)) := by
         rw [grow3.block b (by simp; omega) (fun ee => hne ee.symm)]
         show ((w.alloc _).alloc _).heap[b]? = _
         rw [Lib.alloc_old _ _ b (by simp; omega), Lib.alloc_old _ _ b hblt]
         exact HH.out
       have N3 : w3.heap[w.heap.size]? = some (.cells #[.int .i64 0, .int .i64 0, .int .i64 0] 136 (0, 0)) := by
         rw [grow3.block w.heap.size (by simp; omega) (fun ee => by simp only [Value.ownBlock, Option.some.injEq] at ee; omega)]
         show ((w.alloc _).alloc _).heap[w.heap.size]? = _
         rw [Lib.alloc_old _ _ w.heap.size (by simp)]
         exact heap_alloc_new w _
       have C3 : w3.cell? ⟨b, 1, none⟩ = some (.slice (some ⟨g0, 0, none⟩) R.length cap0) := by rw [Lib.cell_of_heap V3]; rfl
       have F3 := Lib.frozen_of_heap V3 1
       obtain ⟨g3, cap3, rfl, hb3, hg3⟩ := World.ownsRow.form own3 (by omega)))
  all_goals
    have hB3 : Below base w w3 := (((Below.refl base w).alloc (by omega) _).alloc (by simp; omega) _).drew.grown grow3 (by simp; omega) (fun j hj => (hown.lt j hj).1)
    have hG3 : Groups w w3 := fun k cur hk => by
      have hkl := heap_lt hk
      have hkb : some k ≠ (Value.slice (some ⟨g0, 0, none⟩) R.length cap0).ownBlock := fun ee => by
        obtain ⟨_, ⟨hx, _⟩ | ⟨g, cap, cur', hx, _, hg, _⟩⟩ := HO.out
        · cases hx
        · cases hx
          simp only [Value.ownBlock, Option.some.injEq] at ee
          subst ee
          rw [hk] at hg
          simp at hg
      rw [grow3.block k (by simp; omega) hkb]
      show ((w.alloc _).alloc _).heap[k]? = _
      rw [Lib.alloc_old _ _ k (by simp; omega), Lib.alloc_old _ _ k hkl]
    have hbg : b ≠ g3 := fun ee => by
      subst ee
      obtain ⟨_, ⟨hx, _⟩ | ⟨g, cap, cur', hx, _, hg, _⟩⟩ := own3
      · cases hx
      · cases hx
        rw [V3] at hg
        simp at hg
    have HT : IsTr (w3.setCell ⟨b, 1, none⟩ (.slice (some ⟨g3, 0, none⟩) (R.length + 1) cap3)) base b p (R ++ [⟨f, s, 0, r.depth + 1, c⟩]) := by
      refine ⟨g3, cap3, by rw [put_heap V3, List.length_append]; rfl, hbase, ?_, ?_, by rw [List.length_append]; simpa using hR⟩
      · rw [List.length_append, rc_snoc]
        refine own3.kept (row := some b) ⟨rfl, rfl, rfl, by simp [World.setCell], fun k hk hkb => put_other (fun ee => hkb (by rw [ee])) _⟩ (.inr ?_)
        simp only [Value.ownBlock, ne_eq, Option.some.injEq]
        exact fun ee => hbg ee.symm
      · intro x hx
        rcases List.mem_append.1 hx with hx | hx
        · exact hfit x hx
        · rw [List.mem_singleton] at hx
          subst hx
          exact ⟨by show f ≤ _; omega, by show s ≤ _; omega, by show 0 ≤ _; omega, hd⟩
    have N4 : (w3.setCell ⟨b, 1, none⟩ (.slice (some ⟨g3, 0, none⟩) (R.length + 1) cap3)).heap[w.heap.size]? = some (.cells #[.int .i64 0, .int .i64 0, .int .i64 0] 136 (0, 0)) := (put_other (by omega) _).trans N3
    have B4 : Below base w (w3.setCell ⟨b, 1, none⟩ (.slice (some ⟨g3, 0, none⟩) (R.length + 1) cap3)) := hB3.setCell hbase _
    have G4 : Groups w (w3.setCell ⟨b, 1, none⟩ (.slice (some ⟨g3, 0, none⟩) (R.length + 1) cap3)) := fun k cur hk => (put_other (fun ee => by subst ee; rw [hk] at hh; simp at hh) _).trans (hG3 k cur hk)
    clear hB3 hG3 N3 V3 own3 grow3 C3 F3 HO HH hX hh hown hfit c1 d1 d3 x1 x3 e3 hbg hne
    generalize w3.setCell ⟨b, 1, none⟩ (.slice (some ⟨g3, 0, none⟩) (R.length + 1) cap3) = w4 at *
    have n0 : w4.cell? ⟨w.heap.size, 0, none⟩ = some (.int .i64 0) := by rw [Lib.cell_of_heap N4]; rfl
    have n1 : w4.cell? ⟨w.heap.size, 1, none⟩ = some (.int .i64 0) := by rw [Lib.cell_of_heap N4]; rfl
    have n2 : w4.cell? ⟨w.heap.size, 2, none⟩ = some (.int .i64 0) := by rw [Lib.cell_of_heap N4]; rfl
    have z0 : w4.frozen? ⟨w.heap.size, 0, none⟩ = false := Lib.frozen_of_heap N4 0
    have z1 : w4.frozen? ⟨w.heap.size, 1, none⟩ = false := Lib.frozen_of_heap N4 1
    have z2 : w4.frozen? ⟨w.heap.size, 2, none⟩ = false := Lib.frozen_of_heap N4 2
    go_wp2
    have N5 := put_heap (put_heap (put_heap N4 (i := 0) (.int .i64 (R.length : Int))) (i := 1) (.int .i64 (f : Int))) (i := 2) (.int .i64 (e : Int))
    have O5 : ∀ k, k ≠ w.heap.size → (((w4.setCell ⟨w.heap.size, 0, none⟩ (.int .i64 (R.length : Int))).setCell ⟨w.heap.size, 1, none⟩ (.int .i64 (f : Int))).setCell ⟨w.heap.size, 2, none⟩ (.int .i64 (e : Int))).heap[k]? = w4.heap[k]? := fun k hk => by
      rw [put_other hk, put_other hk, put_other hk]
    have B5 := ((B4.setCell (p := ⟨w.heap.size, 0, none⟩) (by show base ≤ w.heap.size; omega) (.int .i64 (R.length : Int))).setCell (p := ⟨w.heap.size, 1, none⟩) (by show base ≤ w.heap.size; omega) (.int .i64 (f : Int))).setCell (p := ⟨w.heap.size, 2, none⟩) (by show base ≤ w.heap.size; omega) (.int .i64 (e : Int))
    have T5 := HT.others N4 O5
    generalize ((w4.setCell ⟨w.heap.size, 0, none⟩ (.int .i64 (R.length : Int))).setCell ⟨w.heap.size, 1, none⟩ (.int .i64 (f : Int))).setCell ⟨w.heap.size, 2, none⟩ (.int .i64 (e : Int)) = w5 at *
    have m0 : w5.cell? ⟨w.heap.size, 0, none⟩ = some (.int .i64 (R.length : Int)) := by rw [Lib.cell_of_heap N5]; rfl
    have m1 : w5.cell? ⟨w.heap.size, 1, none⟩ = some (.int .i64 (f : Int)) := by rw [Lib.cell_of_heap N5]; rfl
    have m2 : w5.cell? ⟨w.heap.size, 2, none⟩ = some (.int .i64 (e : Int)) := by rw [Lib.cell_of_heap N5]; rfl
    refine bodyPost_ret (v := .agg #[.int .i64 (R.length : Int), .int .i64 (f : Int), .int .i64 (e : Int)]) (by simp [results, Tryz.results104, go_sem, m0, m1, m2]) rfl ?_
    exact ⟨rfl, T5, B5, fun k cur hk => (O5 k (by have := heap_lt hk; omega)).trans (G4 k cur hk)⟩
end Go.Proofs.YtjmlabggocfikaaGreat

namespace Go.Proofs.YtjmlabggocfikaaGreat
open Go.RowKit

variable {P : Program}

/-- A slice that the call owns, from some place of its block on, to the block's end. -/
def OwnQ (w : World) (base : Nat) (e : TypeId) (size : Nat) (v : Value) (n : Nat) (xs : List Value) : Prop :=
  xs.length = n * size ∧ ∃ g off cap cur, v = .slice (some ⟨g, off, none⟩) n cap ∧ base ≤ g ∧ w.heap[g]? = some (.cells cur e (0, 0)) ∧ n ≤ cap ∧ cap ≤ maxLen ∧ off + cap * size ≤ cur.size ∧ (cur.toList.drop off).take (n * size) = xs

theorem OwnQ.form {w : World} {base : Nat} {e : TypeId} {size : Nat} {v : Value} {n : Nat} {xs : List Value} (h : OwnQ w base e size v n xs) :
    ∃ g off cap, v = .slice (some ⟨g, off, none⟩) n cap ∧ base ≤ g ∧ g < w.heap.size ∧ n ≤ cap ∧ cap ≤ maxLen := by
  obtain ⟨_, g, off, cap, cur, hv, hb, hg, hc, hm, _⟩ := h
  exact ⟨g, off, cap, hv, hb, (Array.getElem?_eq_some_iff.1 hg).1, hc, hm⟩
theorem OwnQ.lt {w : World} {base : Nat} {e : TypeId} {size : Nat} {v : Value} {n : Nat} {xs : List Value} (h : OwnQ w base e size v n xs) : ∀ k, v.ownBlock = some k → base ≤ k ∧ k < w.heap.size := by
  obtain ⟨g, off, cap, rfl, hb, hg, _⟩ := h.form
  intro k hk
  simp only [Value.ownBlock, Option.some.injEq] at hk
  subst hk
  exact ⟨hb, hg⟩
theorem OwnQ.of {w : World} {base : Nat} {e : TypeId} {size : Nat} {v : Value} {n : Nat} {xs : List Value} (h : w.ownsRow base e size v n xs) (hn : 0 < n) : OwnQ w base e size v n xs := by
  obtain ⟨hl, ⟨_, h0⟩ | ⟨g, cap, cur, hv, hb, hg, hc, hm, hs, ht⟩⟩ := h
  · omega
  · exact ⟨hl, g, 0, cap, cur, hv, hb, hg, hc, hm, by omega, by simpa using ht⟩
/-- .. a cell of it. -/
theorem OwnQ.cell {w : World} {base : Nat} {e : TypeId} {size : Nat} {n g off cap : Nat} {xs : List Value} (h : OwnQ w base e size (.slice (some ⟨g, off, none⟩) n cap) n xs) : ∀ j u, xs[j]? = some u → w.cell? ⟨g, off + j, none⟩ = some u := by
  intro j u hu
  obtain ⟨_, g', off', cap', cur, hv, _, hg, _, _, _, ht⟩ := h
  cases hv
  rw [cell_of_row w g (off + j) cur e (0, 0) hg]
  rw [← ht, List.getElem?_take] at hu
  split at hu
  · rw [List.getElem?_drop] at hu
    simpa using hu
  · cases hu
/-- It stays where its block is as it was. -/
theorem OwnQ.kept {w w' : World} {base : Nat} {e : TypeId} {size : Nat} {v : Value} {n : Nat} {xs : List Value} (h : OwnQ w base e size v n xs) (hk : ∀ (k : Nat) (cur : Array Value), w.heap[k]? = some (Obj.cells cur e (0, 0)) → w'.heap[k]? = w.heap[k]?) : OwnQ w' base e size v n xs := by
  obtain ⟨hl, g, off, cap, cur, hv, hb, hg, r⟩ := h
  exact ⟨hl, g, off, cap, cur, hv, hb, (hk g cur hg).trans hg, r⟩
theorem OwnQ.heap {w w' : World} {base : Nat} {e : TypeId} {size : Nat} {v : Value} {n : Nat} {xs : List Value} (h : OwnQ w base e size v n xs) (hk : w'.heap = w.heap) : OwnQ w' base e size v n xs := h.kept fun k _ _ => by rw [hk]
theorem OwnQ.alloc {w : World} {base : Nat} {e : TypeId} {size : Nat} {v : Value} {n : Nat} {xs : List Value} (h : OwnQ w base e size v n xs) (o : Obj) : OwnQ (w.alloc o) base e size v n xs :=
  h.kept fun k _ hk => heap_alloc_old w o (Array.getElem?_eq_some_iff.1 hk).1
/-- Without its first element: the rest, wherever it is said to begin. -/
theorem OwnQ.rest {w : World} {base : Nat} {e : TypeId} {size : Nat} {n g off cap : Nat} {xs : List Value} (h : OwnQ w base e size (.slice (some ⟨g, off, none⟩) (n + 1) cap) (n + 1) xs) : OwnQ w base e size (.slice (some ⟨g, off + size, none⟩) n (cap - 1)) n (xs.drop size) := by
  obtain ⟨hl, g', off', cap', cur, hv, hb, hg, hc, hm, hs, ht⟩ := h
  cases hv
  refine ⟨?_, g, off + size, cap - 1, cur, rfl, hb, hg, by omega, by omega, ?_, ?_⟩
  · rw [List.length_drop, hl, Nat.succ_mul]; omega
  · have : cap * size = (cap - 1) * size + size := by rw [← Nat.succ_mul]; congr 1; omega
    omega
  · rw [← ht, Nat.succ_mul, List.drop_take, List.drop_drop]
    congr 1
    omega
theorem OwnQ.none {w : World} {base : Nat} {e : TypeId} {size : Nat} {g off cap : Nat} {xs : List Value} (h : OwnQ w base e size (.slice (some ⟨g, off, Option.none⟩) 1 cap) 1 xs) : OwnQ w base e size (.slice (some ⟨g, off, Option.none⟩) 0 0) 0 [] := by
  obtain ⟨hl, g', off', cap', cur, hv, hb, hg, hc, hm, hs, ht⟩ := h
  cases hv
  exact ⟨by simp, g, off, 0, cur, rfl, hb, hg, Nat.le_refl _, Nat.zero_le _, by have := Nat.le_trans (Nat.le_add_right off (cap * size)) hs; omega, by simp⟩

/-- An append where there is room, from some place of a block on. -/
theorem run_append_off (w : World) (t ty e : TypeId) (i : TypeInfo) (ht : P.underlying t = some (.slice e)) (hi : P.info? e = some i)
    (g off sLen sCap : Nat) (cur : Array Value) (hg : w.heap[g]? = some (.cells cur e (0, 0)))
    (a : Addr) (m c : Nat) (news : List Value) (hl : news.length = m * i.size) (hnews : ∀ j u, news[j]? = some u → w.cell? (a.add j) = some u) (h1 : ∀ u ∈ news, u.oneCell' = true)
    (hroom : sLen + m ≤ sCap) (hfit : off + sLen * i.size + news.length ≤ cur.size) :
    (Builtin.append_ #[t, t] ty #[.slice (some ⟨g, off, none⟩) sLen sCap, .slice (some a) m c]).run P w =
      .ok (.slice (some ⟨g, off, none⟩) (sLen + m) sCap) (w.setRow g (cur.toList.take (off + sLen * i.size) ++ news ++ cur.toList.drop (off + sLen * i.size + news.length)).toArray) := by
  have hf := run_firstCells_some (P := P) w i.size m a m c news hl hnews
  have hst := run_storeCells_at P g (off + sLen * i.size) e news 0 cur w hg (by simpa using hfit) h1
  simp only [Nat.add_zero] at hst
  simp [Builtin.append_, run_underlying ht, sizeOf, typeInfo, hi, Builtin.lenOf, hroom, hf, Addr.add_lit, hst]

theorem run_append_q (w : World) (base : Nat) (t ty e : TypeId) (i : TypeInfo) (z : Value) (size bytes : Nat) (ht : P.underlying t = some (.slice e)) (hi : P.info? e = some i) (hz : i.zero = some z)
    (hsize : i.size = size) (hby : i.bytes = bytes) (hzs : z.cells.size = size) (hsz : 0 < size)
    (v : Value) (n : Nat) (xs : List Value) (hown : OwnQ w base e size v n xs)
    (a : Addr) (m c : Nat) (news : List Value) (hl : news.length = m * size) (hnews : ∀ j u, news[j]? = some u → w.cell? (a.add j) = some u) (h1 : ∀ u ∈ news, u.oneCell' = true)
    (hm : 0 < m) (h63 : n + m ≤ maxLen) (hbytes : (n + m) * bytes ≤ 140737488355328) (hbase : base ≤ w.heap.size) :
    ∃ v' w', (Builtin.append_ #[t, t] ty #[v, .slice (some a) m c]).run P w = .ok v' w' ∧ OwnQ w' base e size v' (n + m) (xs ++ news) ∧ w.grownBy w' v.ownBlock ∧ (v'.ownBlock = v.ownBlock ∨ v'.ownBlock = some w.heap.size) := by
  subst hsize
  subst hby
  have hsmall : n + m ≤ 9223372036854775807 := by simp only [maxLen] at h63; omega
  have hlen : (xs ++ news).length = (n + m) * i.size := by rw [List.length_append, hown.1, hl, Nat.add_mul]
  have hown2 := hown
  obtain ⟨hxl, g, off, cap, cur, rfl, hbg, hg, hnc, hcm, hcs, htake⟩ := hown
  by_cases hroom : n + m ≤ cap
  · have hmul : (n + m) * i.size ≤ cap * i.size := Nat.mul_le_mul_right _ hroom
    rw [Nat.add_mul] at hmul
    have hfit : off + n * i.size + news.length ≤ cur.size := by rw [hl]; omega
    have hr := run_append_off (P := P) w t ty e i ht hi g off n cap cur hg a m c news hl hnews h1 hroom hfit
    refine ⟨_, _, hr, ⟨hlen, g, off, cap, _, rfl, hbg, setRow_heap w g cur _ e _ hg, hroom, hcm, ?_, ?_⟩, ⟨rfl, rfl, rfl, by simp, fun k _ hk => setRow_other w g k _ (fun e => hk (by simp [Value.ownBlock, e]))⟩, .inl rfl⟩
    · simp only [List.size_toArray, List.length_append, List.length_take, List.length_drop, Array.length_toList]
      omega
    · have hoff : off + n * i.size ≤ cur.toList.length := by simp; omega
      have e1 : (cur.toList.take (off + n * i.size)).drop off = xs := by rw [List.drop_take, Nat.add_sub_cancel_left]; exact htake
      have e2 : off ≤ (cur.toList.take (off + n * i.size)).length := by rw [List.length_take]; omega
      show List.take _ (List.drop off (cur.toList.take (off + n * i.size) ++ news ++ cur.toList.drop (off + n * i.size + news.length))) = _
      rw [List.append_assoc, List.drop_append_of_le_length e2, e1, ← List.append_assoc, ← hlen]
      exact List.take_left
  · have holds : ∀ j u, xs[j]? = some u → w.cell? ((⟨g, off, none⟩ : Addr).add j) = some u := fun j u hu => by
      rw [Addr.add_lit]; exact hown2.cell j u hu
    have hr := run_append_grow (P := P) w t ty e i z ht hi hz ⟨g, off, none⟩ n cap xs hxl holds a m c news hl hnews (by omega) (by omega) (growslice_fits (by omega) hbytes)
    have hge := grownCap_ge w (n + m) cap e
    have hcm2 : grownCap w (n + m) cap e ≤ maxLen := grownCap_le_maxLen w (n + m) cap e h63
    refine ⟨_, _, hr, ⟨hlen, w.heap.size, 0, _, _, rfl, hbase, heap_alloc_new w.drew _, hge, hcm2, ?_, ?_⟩, ⟨rfl, rfl, rfl, by simp, fun k hk _ => heap_alloc_old w.drew _ hk⟩, .inr rfl⟩
    · have : (grownCap w (n + m) cap e - (n + m)) * i.size + (n + m) * i.size = grownCap w (n + m) cap e * i.size := by rw [← Nat.add_mul]; congr 1; omega
      simp only [Array.size_append, List.size_toArray, size_zeroCells, hzs, hxl, hl]
      rw [Nat.add_mul] at this
      omega
    · simp only [Array.toList_append, List.append_assoc, List.drop_zero]
      rw [← List.append_assoc, ← hlen]
      exact List.take_left

theorem wpList_append_q (w : World) {ops : Array Oper} {rest : List Oper} {o : Oper} {a : Act} {Q : Exit → Act → World → Prop} (hgd : o.guard = none) (s x : Operand) (t : TypeId)
    (ho : o.op = .call { callee := .builtin .append, args := #[s, x], argTypes := #[t, t] })
    (base : Nat) (e : TypeId) (i : TypeInfo) (z : Value) (size bytes : Nat) (ht : P.underlying t = some (.slice e)) (hi : P.info? e = some i) (hz : i.zero = some z)
    (hsize : i.size = size) (hby : i.bytes = bytes) (hzs : z.cells.size = size) (hsz : 0 < size)
    (v : Value) (n : Nat) (xs : List Value) (hs : a.eval s = v) (hown : OwnQ w base e size v n xs)
    (ad : Addr) (m c : Nat) (news : List Value) (hx : a.eval x = .slice (some ad) m c) (hl : news.length = m * size) (hnews : ∀ j u, news[j]? = some u → w.cell? (ad.add j) = some u) (h1 : ∀ u ∈ news, u.oneCell' = true)
    (hm : 0 < m) (h63 : n + m ≤ maxLen) (hbytes : (n + m) * bytes ≤ 140737488355328) (hbase : base ≤ w.heap.size)
    (h : ∀ v' w', OwnQ w' base e size v' (n + m) (xs ++ news) → w.grownBy w' v.ownBlock → (v'.ownBlock = v.ownBlock ∨ v'.ownBlock = some w.heap.size) → wpList P ops Q rest (a.put o.dst v') w') : wpList P ops Q (o :: rest) a w := by
  refine wpList_plain hgd fun K hK => ?_
  obtain ⟨v', w', hr, h2, h3, h4⟩ := run_append_q (P := P) w base t o.type e i z size bytes ht hi hz hsize hby hzs hsz v n xs hown ad m c news hl hnews h1 hm h63 hbytes hbase
  have hK2 := hK _ _ (h v' w' h2 h3 h4)
  unfold Oper.wp execOp
  simp only [ho, resolve, invoke, builtin, Sem.run_bind, Sem.run_pure, Result.andThen_ok, List.map_toArray, List.map_cons, List.map_nil, hs, hx, hr]
  exact hK2
end Go.Proofs.YtjmlabggocfikaaGreat

namespace Go.Proofs.YtjmlabggocfikaaGreat
open Go.RowKit
open Go.Sort (grow)

/-- The cells of groups. -/
def grCells (l : List (Nat × Nat × Nat)) : List Value := l.flatMap fun g => [.int .i64 (g.1 : Int), .int .i64 (g.2.1 : Int), .int .i64 (g.2.2 : Int)]
theorem grCells_snoc (l : List (Nat × Nat × Nat)) (g : Nat × Nat × Nat) : grCells (l ++ [g]) = grCells l ++ [.int .i64 (g.1 : Int), .int .i64 (g.2.1 : Int), .int .i64 (g.2.2 : Int)] := by simp [grCells]
theorem grCells_cons (g : Nat × Nat × Nat) (l : List (Nat × Nat × Nat)) : grCells (g :: l) = [.int .i64 (g.1 : Int), .int .i64 (g.2.1 : Int), .int .i64 (g.2.2 : Int)] ++ grCells l := by simp [grCells]
theorem gr_info : (Tryz.prog.info? 136).map (fun i => (i.zero, i.size, i.bytes)) = some (some (.agg #[.int .i64 0, .int .i64 0, .int .i64 0]), 3, 24) := by kernel_rfl
theorem gr_one {a b c : Int} : ∀ u ∈ [Value.int .i64 a, .int .i64 b, .int .i64 c], u.oneCell' = true := by
  intro u hu
  simp at hu
  rcases hu with rfl | rfl | rfl <;> rfl
theorem new_gr {w : World} {X : Nat} {T : TypeId} {a b c : Value} (h : w.heap[X]? = some (.cells #[a, b, c] T (0, 0))) : ∀ j x, [a, b, c][j]? = some x → w.cell? ((⟨X, 0, none⟩ : Addr).add j) = some x := by
  intro j x hj
  rw [addPlain, Nat.zero_add, Lib.cell_of_heap h, ← hj]
  simp

/-- A trie stays one where a row of groups grows. -/
theorem IsTr.grown {w w' : World} {base base' b n : Nat} {p : Option Addr} {R : List Rc} {v : Value} {xs : List Value} (h : IsTr w base b p R) (hq : OwnQ w base' 136 3 v n xs) (hg : w.grownBy w' v.ownBlock) : IsTr w' base b p R := by
  obtain ⟨g, cap, h1, h2, h3, h4⟩ := h
  obtain ⟨_, gq, off, capq, curq, rfl, _, hgq, _⟩ := hq
  refine ⟨g, cap, (hg.block b (heap_lt h1) fun e => ?_).trans h1, h2, h3.kept hg (.inr fun e => ?_), h4⟩
  · simp only [Value.ownBlock, Option.some.injEq] at e
    subst e; rw [hgq] at h1; simp at h1
  · obtain ⟨_, ⟨hx, _⟩ | ⟨g', cap', cur, hv, _, hh, r⟩⟩ := h3
    · cases hx
    · cases hv
      simp only [Value.ownBlock, Option.some.injEq] at e
      subst e; rw [hgq] at hh; simp at hh
/-- A queue stays where all groups are as they were. -/
theorem OwnQ.groups {w w' : World} {base n : Nat} {v : Value} {xs : List Value} (h : OwnQ w base 136 3 v n xs) (hg : Groups w w') : OwnQ w' base 136 3 v n xs := h.kept hg

/-- One of a trie's states with its first one below told. -/
theorem IsTr.put {w : World} {base b k g cap : Nat} {p : Option Addr} {R : List Rc} {r : Rc} {m : Nat} (hm : m ≤ 2147483647) (hr : R[k]? = some r)
    (h : w.heap[b]? = some (.cells #[.pointer p, .slice (some ⟨g, 0, none⟩) R.length cap] 130 (0, 0))) (hb : base ≤ b) (hown : w.ownsRow base 109 5 (.slice (some ⟨g, 0, none⟩) R.length cap) R.length (rcCells R)) (hf : ∀ r ∈ R, r.Fit) (hl : R.length ≤ 2147483647) :
    IsTr (w.setCell ⟨g, k * 5 + 2, none⟩ (.int .i32 (m : Int))) base b p (R.set k { r with below := m }) ∧ Groups w (w.setCell ⟨g, k * 5 + 2, none⟩ (.int .i32 (m : Int))) := by
  obtain ⟨hx, ⟨he, _⟩ | ⟨g', cap', cur, he, hbg, hg, hc, hmx, hs, ht⟩⟩ := hown
  · cases he
  · cases he
    have hbg' : b ≠ g := fun e => by subst e; rw [hg] at h; simp at h
    refine ⟨⟨g, cap, ?_, hb, ⟨?_, .inr ⟨g, cap, cur.setIfInBounds (k * 5 + 2) (.int .i32 (m : Int)), ?_, hbg, put_heap hg _, ?_, hmx, ?_, ?_⟩⟩, ?_, ?_⟩, ?_⟩
    · rw [List.length_set]; exact (put_other hbg' _).trans h
    · rw [rcCells_length]
    · rw [List.length_set]
    · rw [List.length_set]; exact hc
    · rw [Array.size_setIfInBounds]; exact hs
    · rw [List.length_set, Array.toList_setIfInBounds, List.take_set, ht, rc_set R k m hr]
    · intro x hxm
      rcases List.mem_or_eq_of_mem_set hxm with h1 | rfl
      · exact hf x h1
      · have := hf r (List.mem_of_getElem? hr)
        exact ⟨this.1, this.2.1, hm, this.2.2.2⟩
    · rw [List.length_set]; exact hl
    · intro i cs hi
      exact put_other (fun e => by subst e; rw [hg] at hi; simp at hi) _

theorem trregrown {f : FuncId} {args : Array Value} {v : Value} {w : World} (h : ∀ W, Below w.heap.size w W → Calls Tryz.prog f args W fun e w' => e = .returned v ∧ Below W.heap.size W w') (d : Nat) (os : Array Obj) :
    Calls Tryz.prog f args (grow (redrawn w d) os) fun e w'' => e = .returned v ∧ ∃ q : Regrown, w'' = grow (redrawn w q.d) q.os := Calls.regrown_of (h _ (below_regrown w d os))

/-- Is the first pattern it? -/
theorem endr_iff {us : List (List UInt8)} {q : List UInt8} {r : Rc} (ha : Asc us) (hq : q = [] ∨ begL us q = true) (h1 : r.first = frL us q) (h2 : r.depth = q.length) : EndR us r ↔ q ∈ us := by
  unfold EndR
  rw [h1, h2]
  by_cases h0 : us = []
  · subst h0
    simp
  · have hb : begL us q = true := by
      rcases hq with rfl | hq
      · cases us with
        | nil => exact absurd rfl h0
        | cons t r => exact beg_iff.2 ⟨t, List.mem_cons_self, List.nil_prefix⟩
      · exact hq
    have hr := range_pos ha hb
    have hl := to_le us q
    have hlt : frL us q < us.length := by omega
    have e1 : us[frL us q]? = some us[frL us q] := List.getElem?_eq_getElem hlt
    have hp := (in_iff ha e1).2 ⟨Nat.le_refl _, hr⟩
    have hg : us.getD (frL us q) [] = us[frL us q] := by rw [List.getD_eq_getElem?_getD, e1]; rfl
    rw [hg]
    exact ⟨fun h => (first_is ha e1 hp).1 h.2, fun h => ⟨hlt, (first_is ha e1 hp).2 h⟩⟩
end Go.Proofs.YtjmlabggocfikaaGreat
