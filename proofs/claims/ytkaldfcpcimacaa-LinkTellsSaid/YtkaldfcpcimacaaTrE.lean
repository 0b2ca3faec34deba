/-
  A trie, read: Path, Ends, byteAt: walked.
-/
import Derived.Test.YtkaldfcpcimacaaTrD
set_option linter.unusedSimpArgs false
set_option linter.unusedVariables false
namespace Go.Proofs.Ytkaldfcpcimacaa
open Go.RowKit

/-- A pattern by any number. -/
theorem ptat_pats {w : World} {p : Option Addr} {us : List (List UInt8)} (h : IsPats w p us) (k : Nat) : Calls Try.prog 54 #[.pointer p, .int .i64 (k : Int)] w fun e w' =>
    e = .returned (.tuple #[.string ⟨(us.getD k []).toArray⟩, .bool (decide (k < us.length))]) ∧ w' = w := by
  by_cases hk : k < us.length
  · have e : us[k]? = some (us.getD k []) := by rw [List.getD_eq_getElem?_getD, List.getElem?_eq_getElem hk]; rfl
    rw [decide_eq_true hk]
    exact ptat_all h k _ e
  · have e : us.getD k [] = [] := by rw [List.getD_eq_getElem?_getD, List.getElem?_eq_none (by omega)]; rfl
    rw [decide_eq_false hk, e]
    rcases h with ⟨rfl, _⟩ | ⟨b, rfl, h, _⟩
    · exact ptat_nil _ w
    · exact ptat_out h _ (.inr (by omega))

/-- Is the first pattern of a state it? -/
def EndR (us : List (List UInt8)) (r : Rc) : Prop := r.first < us.length ∧ (us.getD r.first []).length = r.depth
set_option maxHeartbeats 1000000 in
theorem trends_out {w : World} {q p : Option Addr} {R : List Rc} (h : HasTr w q p R) (s : Int) (hs : s < 0 ∨ (R.length : Int) ≤ s) : Calls Try.prog 38 #[.pointer q, .int .i64 s] w fun e w' => e = .returned (.tuple #[.int .i64 0, .bool false]) ∧ w' = w := by
  have HS := Lib.hid (tris_out h s hs)
  clear h hs
  go_enter Try.func38, Try.ntmps38
  go_wp2_with fail
  refine HS.out.mono ?_
  rintro e w' ⟨rfl, rfl⟩
  go_wp2
  go_ret2
  exact ⟨rfl, rfl⟩
set_option maxHeartbeats 2000000 in
theorem trends_in {w : World} {q p : Option Addr} {R : List Rc} {us : List (List UInt8)} (h : HasTr w q p R) (hp : IsPats w p us) (k : Nat) (r : Rc) (hr : R[k]? = some r) (hl : us.length ≤ 1000000) :
    Calls Try.prog 38 #[.pointer q, .int .i64 (k : Int)] w fun e w' => ((EndR us r → e = .returned (.tuple #[.int .i64 (r.first : Int), .bool true])) ∧ (¬ EndR us r → e = .returned (.tuple #[.int .i64 0, .bool false]))) ∧ Below w.heap.size w w' := by
  have hk := (List.getElem?_eq_some_iff.1 hr).1
  have HS := Lib.hid (tris_in h k hk)
  obtain ⟨base, b, rfl, ht⟩ := h.some hk
  obtain ⟨g, cap, c0, c1, hcap, _, hg, hat⟩ := ht.reads
  have ha := hat k r hr
  obtain ⟨e0, e1, e2, e3, e4⟩ := ha
  obtain ⟨f1, _, _, f4⟩ := ht.fit hr
  have HP := Lib.hid (fun W (hW : Below w.heap.size w W) => ptat_pats (hp.below hW) r.first)
  have d0 : ∀ o, (w.alloc o).cell? ⟨b, 0, none⟩ = some (.pointer p) := fun o => by rw [World.cell?_alloc_lt _ _ _ ht.lt]; exact c0
  have g0 : (0 : Int) ≤ (k : Int) := by omega
  have g1 : (k : Int) < (R.length : Int) := by omega
  have hw : IntKind.i64.wrap (r.first : Int) = (r.first : Int) := by rw [IntKind.wrap_i64]; omega
  have hw2 : IntKind.i64.wrap (r.depth : Int) = (r.depth : Int) := by rw [IntKind.wrap_i64]; omega
  have hS := Lib.hid (bsize (us.getD r.first []))
  unfold EndR
  generalize us.getD r.first [] = t at *
  generalize us.length = n at *
  clear h ht hat hr hp
  by_cases hn : r.first < n
  · rw [decide_eq_true hn] at HP
    by_cases hq : t.length = r.depth
    · go_enter Try.func38, Try.ntmps38
      go_wp2_with fail
      refine HS.out.mono ?_
      rintro e w' ⟨rfl, rfl⟩
      go_wp2_with fail
      go_quiet (first | with_reducible exact Calls.quiet_of_same (HP.out _ (below_drewS ((Below.refl _ _).alloc (Nat.le_refl _) _) _)))
      go_wp2
      go_ret2
      exact ⟨⟨fun _ => rfl, fun hh => absurd ⟨hn, hq⟩ hh⟩, below_drewS ((Below.refl _ _).alloc (Nat.le_refl _) _) _⟩
    · have hq2 : ¬ (t.length : Int) = (r.depth : Int) := by omega
      go_enter Try.func38, Try.ntmps38
      go_wp2_with fail
      refine HS.out.mono ?_
      rintro e w' ⟨rfl, rfl⟩
      go_wp2_with fail
      go_quiet (first | with_reducible exact Calls.quiet_of_same (HP.out _ (below_drewS ((Below.refl _ _).alloc (Nat.le_refl _) _) _)))
      go_wp2
      go_ret2
      exact ⟨⟨fun hh => absurd hh.2 hq, fun _ => rfl⟩, below_drewS ((Below.refl _ _).alloc (Nat.le_refl _) _) _⟩
  · rw [decide_eq_false hn] at HP
    go_enter Try.func38, Try.ntmps38
    go_wp2_with fail
    refine HS.out.mono ?_
    rintro e w' ⟨rfl, rfl⟩
    go_wp2_with fail
    go_quiet (first | with_reducible exact Calls.quiet_of_same (HP.out _ (below_drewS ((Below.refl _ _).alloc (Nat.le_refl _) _) _)))
    go_wp2
    go_ret2
    exact ⟨⟨fun hh => absurd hh.1 hn, fun _ => rfl⟩, below_drewS ((Below.refl _ _).alloc (Nat.le_refl _) _) _⟩

set_option maxHeartbeats 1000000 in
theorem trbyte_any {w : World} {base b : Nat} {p : Option Addr} {R : List Rc} {us : List (List UInt8)} (h : IsTr w base b p R) (hp : IsPats w p us) (k j : Nat) {t : List UInt8} {c : UInt8} (ht : us[k]? = some t) (hc : t[j]? = some c) :
    Calls Try.prog 60 #[.pointer (some ⟨b, 0, none⟩), .int .i64 (k : Int), .int .i64 (j : Int)] w fun e w' => e = .returned (.int .u8 (c.toNat : Int)) ∧ w' = w := by
  have HP := Lib.hid (ptat_all hp k t ht)
  obtain ⟨g, cap, c0, c1, _⟩ := h.reads
  obtain ⟨hj, rfl⟩ := List.getElem?_eq_some_iff.1 hc
  have hS := Lib.hid (bsize t)
  have hb := byteAt t j hj (by rw [bsize]; exact hj)
  have g0 : (0 : Int) ≤ (j : Int) := by omega
  have g1 : (j : Int) < (t.length : Int) := by omega
  clear h hp ht hc
  go_enter Try.func60, Try.ntmps60
  go_wp2_with fail
  refine HP.out.mono ?_
  rintro e w' ⟨rfl, rfl⟩
  go_wp2
  go_ret
  exact ⟨rfl, rfl⟩
end Go.Proofs.Ytkaldfcpcimacaa
