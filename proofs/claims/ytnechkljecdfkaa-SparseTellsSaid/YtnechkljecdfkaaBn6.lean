/-
  Texts put together: TrX, TrB, TrC, TrT, TrN0, LkS, SpW, ApZ, SpL0, TrCb, TrTb.
-/
import Derived.Test.YtnechkljecdfkaaBn5
import Derived.Laws.MakeOwn
import Derived.StillTailTactics
import Derived.Shelf.Abstract
import Derived.Test.YtnechkljecdfkaaBn4
import Derived.Test.YtnechkljecdfkaaBn2
import Derived.Lib.Builder
import Derived.Laws.IdiomStrings
import Derived.Test.YtnechkljecdfkaaBn3
import Derived.Laws.OwnMore
import Derived.Lib.Hide
import Derived.Lib.AppendZerosOnto
import Derived.Laws.AppendOwn
import Derived.WalkKit
import Derived.Below
import Derived.Deep.RegionLaw
import Derived.OneCell
set_option linter.unusedSimpArgs false
set_option linter.unusedVariables false
namespace Go.Proofs.Ytnechkljecdfkaa
open Go.RowKit

theorem made_first (n : Nat) (hn : 1 ≤ n) : (madeCells (Value.agg #[.int .i32 0, .int .i32 0, .int .i32 0, .int .u16 0, .int .u8 0]).cells (n * 5)).toList.take (1 * 5) = rcOne ⟨0, 0, 0, 0, 0⟩ := by
  have e : (Value.agg #[.int .i32 0, .int .i32 0, .int .i32 0, .int .u16 0, .int .u8 0]).cells = #[.int .i32 0, .int .i32 0, .int .i32 0, .int .u16 0, .int .u8 0] := by rfl
  rw [e]
  unfold madeCells
  rw [Array.toList_map, Array.toList_range, ← List.map_take, List.take_range, Nat.min_eq_left (by omega)]
  rfl
theorem make_states (n : Nat) (w : World) (h1 : 1 ≤ n) (hn : n ≤ 16777217) : ∃ w', (Instr.makeSlice 74 (.int .i64 1) (.int .i64 (n : Int))).run Try.prog w = .ok (.slice (some ⟨w.heap.size, 0, none⟩) 1 n) w' ∧
    w'.ownsRow w.heap.size 80 5 (.slice (some ⟨w.heap.size, 0, none⟩) 1 n) 1 (rcCells [⟨0, 0, 0, 0, 0⟩]) ∧ Below w.heap.size w w' ∧ w'.heap.size = w.heap.size + 1 := by
  obtain ⟨i0, hi, hz0, hz1, hz2⟩ := info_parts rc_info
  have h := run_make (P := Try.prog) w 74 80 i0 _ Try.underlying74 hi hz0 .i64 .i64 1 n (by omega) (by omega) (by rw [hz2]; omega) (by omega)
  rw [hz1, Int.toNat_natCast] at h
  refine ⟨_, h, ⟨rfl, .inr ⟨w.heap.size, n, _, rfl, Nat.le_refl _, heap_alloc_new w _, h1, by unfold maxLen; omega, size_madeCells _ _, ?_⟩⟩, (Below.refl _ _).alloc (Nat.le_refl _) _, by simp⟩
  rw [made_first n h1]
  rfl

/-- A trie of a set, behind a pointer: its states. -/
def IsTrie (w : World) (q p : Option Addr) (us S : List (List UInt8)) : Prop :=
  ∃ R, HasTr w q p R ∧ RecOk us S S.length R ∧ Bfs us S.length S ∧ IsPats w p us
/-- What stands while the states are gone through. -/
structure Made (us : List (List UInt8)) (w0 : World) (b : Nat) (p : Option Addr) (k : Nat) (S : List (List UInt8)) (v : Value) (w : World) : Prop where
  bfs : Bfs us k S
  tr : ∃ R, IsTr w w0.heap.size b p R ∧ RecOk us S k R
  que : OwnQ w w0.heap.size 88 3 v (S.length - k) (grCells (grL us k (S.drop k)))
  old : Below w0.heap.size w0 w

set_option maxRecDepth 100000 in
set_option maxHeartbeats 4000000 in
theorem trnew_any {w : World} {p : Option Addr} {us : List (List UInt8)} (hp : IsPats w p us) (ha : Asc us) (hn : us.Nodup) :
    Calls Try.prog 40 #[.pointer p] w fun e w' => ∃ q S, e = .returned (.pointer q) ∧ IsTrie w' q p us S ∧ Below w.heap.size w w' := by
  obtain ⟨he, hl, ht⟩ := pats_each hp
  have HC := Lib.hid (trcount_any hp)
  have HP := Lib.hid hp
  clear hp
  go_enter Try.func40, Try.ntmps40
  go_wp2_with fail
  refine HC.out.mono ?_
  rintro e w1 ⟨n, q1, rfl, hn1, hn2, rfl⟩
  obtain ⟨w2, hmake, hown2, hb2, hs2⟩ := make_states n (w.drewN q1) hn1 hn2
  have HL := Lib.hid (ptlen_all ((HP.out.heap (W := w.drewN q1) rfl).below hb2))
  clear HC
  go_wp2_with fail
  have hT0 : IsTr (w2.alloc (.cells #[.pointer p, .slice (some ⟨w.heap.size, 0, none⟩) 1 n] 76)) w.heap.size (w.heap.size + 1) p [⟨0, 0, 0, 0, 0⟩] := by
    have hx := heap_alloc_new w2 (.cells #[.pointer p, .slice (some ⟨w.heap.size, 0, none⟩) 1 n] 76)
    rw [hs2] at hx
    exact ⟨w.heap.size, n, hx, by omega, hown2.alloc _, fun r hr => by rw [List.mem_singleton] at hr; subst hr; unfold Rc.Fit; simp, by simp⟩
  have hb3 : Below w.heap.size w (w2.alloc (.cells #[.pointer p, .slice (some ⟨w.heap.size, 0, none⟩) 1 n] 76)) := ((below_drewS (Below.refl _ _) q1).trans hb2).alloc (by rw [hs2]; exact Nat.le_succ _) _
  have HL2 := Lib.hid (ptlen_all (HP.out.below hb3))
  have HT0 := Lib.hid hT0
  clear hT0 HL hown2 hb2 hs2 hmake
  generalize w2.alloc (.cells #[.pointer p, .slice (some ⟨w.heap.size, 0, none⟩) 1 n] 76) = w3 at *
  generalize w.heap.size + 1 = b at *
  have hs3 := hb3.size
  refine HL2.out.mono ?_
  rintro e w' ⟨rfl, hw'⟩
  obtain rfl := hw'.symm
  clear hw' HL2
  go_wp2
  have M0 : Hid (Made us w b p 0 [[]] (.slice (some ⟨w3.heap.size, 0, none⟩) 1 1) (w3.alloc (.cells #[.int .i64 0, .int .i64 0, .int .i64 (us.length : Int)] 88))) := Lib.hid
    ⟨.zero, ⟨_, HT0.out.below ((Below.refl _ _).alloc (Nat.le_refl _) _), RecOk.start us⟩, OwnQ.of (by
      refine ⟨rfl, .inr ⟨w3.heap.size, 1, _, rfl, hs3, heap_alloc_new w3 _, Nat.le_refl _, by decide, rfl, ?_⟩⟩
      show [Value.int .i64 0, .int .i64 0, .int .i64 (us.length : Int)] = grCells [(0, frL us [], toL us [])]
      rw [(root_range us).1, (root_range us).2]; rfl) (by simp), hb3.alloc hs3 _⟩
  clear HT0
  go_loopg [4] 16777300 (fun gx y wr => ∃ (k : Nat) (S : List (List UInt8)), gx = 16777300 - k ∧ Hid (Made us w b p k S y wr))
  case atStart => exact ⟨0, [[]], rfl, M0⟩
  case round =>
    clear M0
    obtain ⟨k, S, rfl, HM⟩ := hrel
    obtain ⟨hbfs, ⟨R, hT, hR⟩, hQ, hB⟩ := HM.out
    obtain ⟨gq, oq, cq, rfl, hgb, hgl, hnc, hcm⟩ := hQ.form
    have hkl := hbfs.le.1
    have hfew := hbfs.few
    by_cases hlt : k < S.length
    · obtain ⟨l, hl'⟩ : ∃ l, S.length - k = l + 1 := ⟨S.length - k - 1, by omega⟩
      obtain ⟨q, hq⟩ : ∃ q, S[k]? = some q := ⟨S[k], List.getElem?_eq_getElem hlt⟩
      have hdrop : S.drop k = q :: S.drop (k + 1) := by rw [List.drop_eq_getElem_cons hlt, (List.getElem?_eq_some_iff.1 hq).2]
      rw [hl', hdrop, grL, grCells_cons] at hQ
      rw [hl'] at hnc ⊢
      have d0 : wr.cell? ⟨gq, oq, none⟩ = some (.int .i64 (k : Int)) := hQ.cell 0 _ rfl
      have d1 : wr.cell? ⟨gq, oq + 1, none⟩ = some (.int .i64 (frL us q : Int)) := hQ.cell 1 _ rfl
      have d2 : wr.cell? ⟨gq, oq + 2, none⟩ = some (.int .i64 (toL us q : Int)) := hQ.cell 2 _ rfl
      have g1 : (1 : Int) ≤ (cq : Int) := by omega
      have g2 : (1 : Int) ≤ (l : Int) + 1 := by omega
      have g3 : (l : Int) + 1 ≤ (cq : Int) := by omega
      have g4 : (0 : Int) ≤ (l : Int) := by omega
      have HB := Lib.hid hB
      have hlen : S.length - (k + 1) = l := by omega
      have HR : ∀ v, OwnQ wr w.heap.size 88 3 v l (grCells (grL us (k + 1) (S.drop (k + 1)))) → Hid (Calls Try.prog 50 #[.pointer (some ⟨b, 0, none⟩), v, .agg #[.int .i64 (k : Int), .int .i64 (frL us q : Int), .int .i64 (toL us q : Int)]] wr.drew (RetGr us S q k w b p)) := fun v hv =>
        Lib.hid (trgrow_any (w := wr.drew) HP.out ha hn hB.drew hbfs hq (hT.heap rfl) hR (by rw [hlen]; exact hv.heap rfl))
      have HS := Lib.hid (Bfs.step hbfs hq)
      by_cases hc1 : cq = 1
      · have hl0 : l = 0 := by omega
        subst hl0
        subst hc1
        have HG := HR _ (by
          have h0 : S.drop (k + 1) = [] := List.drop_eq_nil_of_le (by omega)
          rw [h0]
          exact OwnQ.none hQ)
        clear HR hQ hT hR hB HM hdrop
        go_wp2_with fail
        go_still_tail 6, (by kernel_rfl)
        change wpList _ _ _ _ _ wr.drew
        generalize wr.drew = w5 at HG ⊢
        go_wp2_with fail
        refine HG.out.mono ?_
        rintro e w6 ⟨v, rfl, hR6, hQ6, hB6⟩
        generalize S ++ kidsP us q = T at hR6 hQ6 HS
        obtain ⟨g6, o6, c6, rfl, _⟩ := hQ6.form
        have M6 := Lib.hid (⟨HS.out, hR6, hQ6, hB6⟩ : Made us w b p (k + 1) T _ w6)
        clear hR6 hQ6 hB6 HG HS HB
        go_wp2
        go_roundg (16777300 - (k + 1))
        case measure => omega
        case rel => exact ⟨k + 1, _, rfl, M6⟩
      · have HG := HR _ (by
          have := OwnQ.rest hQ
          exact this)
        clear HR hQ hT hR hB HM hdrop
        go_wp2_with fail
        go_still_tail 6, (by kernel_rfl)
        change wpList _ _ _ _ _ wr.drew
        generalize wr.drew = w5 at HG ⊢
        go_wp2_with fail
        refine HG.out.mono ?_
        rintro e w6 ⟨v, rfl, hR6, hQ6, hB6⟩
        generalize S ++ kidsP us q = T at hR6 hQ6 HS
        obtain ⟨g6, o6, c6, rfl, _⟩ := hQ6.form
        have M6 := Lib.hid (⟨HS.out, hR6, hQ6, hB6⟩ : Made us w b p (k + 1) T _ w6)
        clear hR6 hQ6 hB6 HG HS HB
        go_wp2
        go_roundg (16777300 - (k + 1))
        case measure => omega
        case rel => exact ⟨k + 1, _, rfl, M6⟩
    · have hk : k = S.length := by omega
      subst hk
      have hz : S.length - S.length = 0 := Nat.sub_self _
      have HE : Hid (IsTrie wr (some ⟨b, 0, none⟩) p us S ∧ Below w.heap.size w wr) := Lib.hid ⟨⟨R, .inr ⟨_, b, rfl, hT⟩, hR, hbfs, HP.out.below hB⟩, hB⟩
      clear hT hR hQ hB HM
      go_wp2
      go_ret
      exact ⟨_, S, rfl, HE.out⟩
end Go.Proofs.Ytnechkljecdfkaa

namespace Go.Proofs.Ytnechkljecdfkaa
open Go.RowKit

set_option maxHeartbeats 1000000 in
theorem trbelow_out {w : World} {q p : Option Addr} {R : List Rc} (h : HasTr w q p R) (s : Int) (hs : s < 0 ∨ (R.length : Int) ≤ s + 1) : Calls Try.prog 42 #[.pointer q, .int .i64 s] w fun e w' => e = .returned (.slice none 0 0) ∧ w' = w := by
  have hm := h.few
  by_cases h1 : s < 0 ∨ (R.length : Int) ≤ s
  · have HS := Lib.hid (tris_out h s h1)
    clear h hs h1
    go_enter Try.func42, Try.ntmps42
    go_wp2_with fail
    refine HS.out.mono ?_
    rintro e w' ⟨rfl, rfl⟩
    go_wp2
    go_ret
    exact ⟨rfl, rfl⟩
  · obtain ⟨k, rfl⟩ : ∃ k : Nat, s = k := ⟨s.toNat, by omega⟩
    have HS := Lib.hid (tris_in h k (by omega))
    have HT := Lib.hid (tris_out h ((k : Int) + 1) (.inr (by omega)))
    have hw : IntKind.i64.wrap ((k : Int) + 1) = (k : Int) + 1 := by rw [IntKind.wrap_i64]; omega
    clear h hs h1
    go_enter Try.func42, Try.ntmps42
    go_wp2_with fail
    refine HS.out.mono ?_
    rintro e w' ⟨rfl, rfl⟩
    go_wp2_with fail
    refine HT.out.mono ?_
    rintro e w' ⟨rfl, rfl⟩
    go_wp2
    go_ret
    exact ⟨rfl, rfl⟩

/-- The states below one, as an answer: to be read. -/
def RetB (n : Nat) (L : List Rc) (w : World) (e : Ending) (w' : World) : Prop := (∃ a cap, e = .returned (.slice a n cap) ∧ IsRcs w a n L) ∧ ∃ m, w' = w.drewN m
set_option maxHeartbeats 2000000 in
theorem trbelow_in {w : World} {q p : Option Addr} {R : List Rc} (h : HasTr w q p R) (k : Nat) (r r' : Rc) (hr : R[k]? = some r) (hr' : R[k + 1]? = some r') (h1 : r.below ≤ r'.below) (h2 : r'.below ≤ R.length) :
    Calls Try.prog 42 #[.pointer q, .int .i64 (k : Int)] w (RetB (r'.below - r.below) ((R.drop r.below).take (r'.below - r.below)) w) := by
  have hk := (List.getElem?_eq_some_iff.1 hr').1
  have hm := h.few
  have HS := Lib.hid (tris_in h k (by omega))
  have HT := tris_in h (k + 1) hk
  rw [show ((k + 1 : Nat) : Int) = (k : Int) + 1 by omega] at HT
  have HT := Lib.hid HT
  obtain ⟨base, b, rfl, ht⟩ := h.some hk
  obtain ⟨g, cap, c0, c1, hcap, _, hg, hat⟩ := ht.reads
  have e2 := (hat k r hr).c2
  have e2' := (hat (k + 1) r' hr').c2
  have hw : IntKind.i64.wrap ((k : Int) + 1) = (k : Int) + 1 := by rw [IntKind.wrap_i64]; omega
  have g0 : (0 : Int) ≤ (k : Int) := by omega
  have g1 : (k : Int) < (R.length : Int) := by omega
  have g2 : (0 : Int) ≤ (k : Int) + 1 := by omega
  have g3 : (k : Int) + 1 < (R.length : Int) := by omega
  have g4 : (0 : Int) ≤ (r.below : Int) := by omega
  have g5 : (r.below : Int) ≤ (r'.below : Int) := by omega
  have g6 : (r'.below : Int) ≤ (cap : Int) := by omega
  have HI : Hid (∀ (i : Nat) x, ((R.drop r.below).take (r'.below - r.below))[i]? = some x → RcAt w g (r.below * 5 + i * 5) x) := Lib.hid fun i x hx => by
    rw [List.getElem?_take] at hx
    split at hx
    · rw [List.getElem?_drop] at hx
      have := hat _ _ hx
      rwa [show (r.below + i) * 5 = r.below * 5 + i * 5 by omega] at this
    · cases hx
  have HL : Hid (((R.drop r.below).take (r'.below - r.below)).length = r'.below - r.below) := Lib.hid (by rw [List.length_take, List.length_drop]; omega)
  have hn : ((k : Int) + 1).toNat = k + 1 := by omega
  generalize (R.drop r.below).take (r'.below - r.below) = L at *
  clear h ht hat hr hr'
  by_cases hcb : cap = r.below
  · have hz : r'.below - r.below = 0 := by omega
    go_enter Try.func42, Try.ntmps42
    go_wp2_with fail
    refine HS.out.mono ?_
    rintro e w' ⟨rfl, rfl⟩
    go_wp2_with fail
    refine HT.out.mono ?_
    rintro e w' ⟨rfl, rfl⟩
    go_wp2_with fail
    go_quiet (fail)
    go_wp2
    go_ret
    exact ⟨⟨some ⟨g, 0, none⟩, 0, by rw [hz]; rfl, HL.out, .inl hz⟩, nq, rfl⟩
  · go_enter Try.func42, Try.ntmps42
    go_wp2_with fail
    refine HS.out.mono ?_
    rintro e w' ⟨rfl, rfl⟩
    go_wp2_with fail
    refine HT.out.mono ?_
    rintro e w' ⟨rfl, rfl⟩
    go_wp2_with fail
    go_quiet (fail)
    go_wp2
    go_ret
    exact ⟨⟨_, _, rfl, HL.out, .inr ⟨g, _, rfl, HI.out⟩⟩, nq, rfl⟩

/-- The closure of the search: a state's byte less the one that is sought. -/
theorem trcmp_any (r : Rc) (c : UInt8) (w : World) : Calls Try.prog 56 #[rcV r, .int .u8 (c.toNat : Int)] w fun e w' => e = .returned (.int .i64 ((r.last.toNat : Int) - (c.toNat : Int))) ∧ Below w.heap.size w w' := by
  have h1 := UInt8.toNat_lt r.last
  have h2 := UInt8.toNat_lt c
  have w1 : IntKind.i64.wrap (r.last.toNat : Int) = (r.last.toNat : Int) := by rw [IntKind.wrap_i64]; omega
  have w2 : IntKind.i64.wrap (c.toNat : Int) = (c.toNat : Int) := by rw [IntKind.wrap_i64]; omega
  have w3 : IntKind.i64.wrap ((r.last.toNat : Int) - (c.toNat : Int)) = (r.last.toNat : Int) - (c.toNat : Int) := by rw [IntKind.wrap_i64]; omega
  unfold rcV
  go_enter Try.func56, Try.ntmps56
  go_wp2
  go_ret
  exact ⟨rfl, (Below.refl _ _).alloc (Nat.le_refl _) _⟩
theorem trcmp_enters : ∀ args w, (callFunc 56 args).run Try.prog w = .ok (.enter 56 args) w := enters_of Try.func56 (by kernel_rfl) rfl

/-- One of some states: where it lies. -/
theorem rc_at {w wr : World} {a : Option Addr} {len : Nat} {rs : List Rc} (h : IsRcs w a len rs) (hb : Below w.heap.size w wr) (k : Nat) (hk : k < len) : ∃ b off, a = some ⟨b, off, none⟩ ∧ ∃ r, rs[k]? = some r ∧ RcAt wr b (off + k * 5) r := by
  obtain ⟨hl, h⟩ := h.below hb
  rcases h with h | ⟨b, off, ha, hc⟩
  · omega
  · have hkl : k < rs.length := by omega
    exact ⟨b, off, ha, rs[k], List.getElem?_eq_getElem hkl, hc k _ (List.getElem?_eq_getElem hkl)⟩

/-- What a search for a byte tells of rising ones. -/
def Sought (bs : List UInt8) (c : UInt8) (n : Nat) (b : Bool) : Prop := b = decide (c ∈ bs) ∧ (c ∈ bs → bs[n]? = some c)
def RetSk (bs : List UInt8) (c : UInt8) (w : World) (e : Ending) (w' : World) : Prop := ∃ (n : Nat) (b : Bool), e = .returned (.tuple #[.int .i64 (n : Int), .bool b]) ∧ Sought bs c n b ∧ Below w.heap.size w w'
/-- All ahead of lo are less, all from hi on are not. -/
def Halves (bs : List UInt8) (c : UInt8) (lo hi : Nat) : Prop := (∀ (i : Nat) d, i < lo → bs[i]? = some d → d < c) ∧ (∀ (i : Nat) d, hi ≤ i → bs[i]? = some d → c ≤ d)
theorem rise_at {bs : List UInt8} (h : bs.Pairwise (· < ·)) {i j : Nat} {c d : UInt8} (hij : i ≤ j) (hc : bs[i]? = some c) (hd : bs[j]? = some d) : c ≤ d := by
  obtain ⟨hi, rfl⟩ := List.getElem?_eq_some_iff.1 hc
  obtain ⟨hj, rfl⟩ := List.getElem?_eq_some_iff.1 hd
  rcases Nat.lt_or_ge i j with h' | h'
  · exact UInt8.le_of_lt (List.pairwise_iff_getElem.1 h i j hi hj h')
  · obtain rfl : i = j := by omega
    exact UInt8.le_refl _
theorem Halves.up {bs : List UInt8} {c d : UInt8} {lo hi m : Nat} (hr : bs.Pairwise (· < ·)) (h : Halves bs c lo hi) (hm : bs[m]? = some d) (hd : d < c) : Halves bs c (m + 1) hi :=
  ⟨fun i e hi he => UInt8.lt_of_le_of_lt (rise_at hr (by omega) he hm) hd, h.2⟩
theorem Halves.down {bs : List UInt8} {c d : UInt8} {lo hi m : Nat} (hr : bs.Pairwise (· < ·)) (h : Halves bs c lo hi) (hm : bs[m]? = some d) (hd : ¬ d < c) : Halves bs c lo m :=
  ⟨h.1, fun i e hi he => UInt8.le_trans (UInt8.not_lt.1 hd) (rise_at hr hi hm he)⟩
theorem Halves.hit {bs : List UInt8} {c : UInt8} {n : Nat} (hm : bs[n]? = some c) : Sought bs c n true :=
  ⟨(decide_eq_true (List.mem_of_getElem? hm)).symm, fun _ => hm⟩
theorem Halves.miss {bs : List UInt8} {c : UInt8} {n : Nat} (hr : bs.Pairwise (· < ·)) (h : Halves bs c n n) (hm : bs[n]? ≠ some c) : Sought bs c n false := by
  have hn : c ∉ bs := fun hc => by
    obtain ⟨i, hi⟩ := List.mem_iff_getElem?.1 hc
    rcases Nat.lt_trichotomy i n with h1 | h1 | h1
    · exact UInt8.lt_irrefl _ (h.1 i c h1 hi)
    · subst h1; exact hm hi
    · have hl := (List.getElem?_eq_some_iff.1 hi).1
      have he : bs[n]? = some (bs[n]'(by omega)) := List.getElem?_eq_getElem (by omega)
      have h2 := h.2 n _ (Nat.le_refl _) he
      have h3 := rise_at hr (Nat.le_of_lt h1) he hi
      rw [UInt8.le_antisymm h3 h2] at he
      exact hm he
  exact ⟨(decide_eq_false hn).symm, fun hc => absurd hc hn⟩

set_option maxHeartbeats 2000000 in
set_option maxRecDepth 100000 in
theorem trseek_any {w : World} {a : Option Addr} {len cap : Nat} {rs : List Rc} (h : IsRcs w a len rs) (hlen : len ≤ 2147483647) (c : UInt8) (hr : (rs.map Rc.last).Pairwise (· < ·)) :
    Calls Try.prog 55 #[.slice a len cap, .int .u8 (c.toNat : Int), .func (.func 56) #[] #[]] w (RetSk (rs.map Rc.last) c w) := by
  have eg := trcmp_enters
  have hl := h.1
  have HH := Lib.hid h
  have HR := Lib.hid hr
  have HC := Lib.hid trcmp_any
  clear h hr
  go_enter Try.func55, Try.ntmps55
  go_wp2
  go_loopw [9, 10] (fun x y wr => ∃ lo hi : Nat, x = .int .i64 lo ∧ y = .int .i64 hi ∧ lo ≤ hi ∧ hi ≤ len ∧ Hid (Halves (rs.map Rc.last) c lo hi) ∧ Below w.heap.size w wr) (fun x y _ => (RowKit.intOf y).toNat - (RowKit.intOf x).toNat)
  case atStart => exact ⟨0, len, rfl, rfl, Nat.zero_le _, Nat.le_refl _, Lib.hid ⟨fun i d hi _ => by omega, fun i d hi hd => by have := (List.getElem?_eq_some_iff.1 hd).1; rw [List.length_map] at this; omega⟩, Below.refl _ _⟩
  case round =>
    obtain ⟨lo, hi, rfl, rfl, hlh, hin, HV, hbe⟩ := hrel
    have hsz := hbe.size
    by_cases hlt : lo < hi
    · obtain ⟨b, off, rfl, r, hf, hat⟩ := rc_at HH.out hbe ((lo + hi) / 2) (by omega)
      obtain ⟨e0, e1, e2, e3, e4⟩ := hat
      have HK := Lib.hid (HC.out r c wr)
      have hm : (rs.map Rc.last)[(lo + hi) / 2]? = some r.last := by rw [List.getElem?_map, hf]; rfl
      unfold rcV at HK
      by_cases hq : r.last < c
      · have HV2 := Lib.hid (HV.out.up HR.out hm hq)
        have hq2 : (r.last.toNat : Int) - (c.toNat : Int) < 0 := by rw [UInt8.lt_iff_toNat_lt] at hq; omega
        clear hf hm hq HV
        go_wp2_with fail
        refine HK.out.mono ?_
        rintro e w2 ⟨rfl, hb2⟩
        have d2 := Lib.hid (hbe.trans (hb2.mono hsz))
        clear HK hb2 e0 e1 e2 e3 e4 hbe
        go_wp2
        exact ⟨⟨(lo + hi) / 2 + 1, hi, by rw [show ((lo : Int) + (hi : Int)) / 2 + 1 = (((lo + hi) / 2 + 1 : Nat) : Int) by omega], rfl, by omega, hin, HV2, d2.out⟩, by simp [RowKit.intOf]; omega⟩
      · have HV2 := Lib.hid (HV.out.down HR.out hm hq)
        have hq2 : ¬ (r.last.toNat : Int) - (c.toNat : Int) < 0 := by rw [UInt8.lt_iff_toNat_lt] at hq; omega
        clear hf hm hq HV
        go_wp2_with fail
        refine HK.out.mono ?_
        rintro e w2 ⟨rfl, hb2⟩
        have d2 := Lib.hid (hbe.trans (hb2.mono hsz))
        clear HK hb2 e0 e1 e2 e3 e4 hbe
        go_wp2
        exact ⟨⟨lo, (lo + hi) / 2, rfl, by rw [show ((lo : Int) + (hi : Int)) / 2 = (((lo + hi) / 2 : Nat) : Int) by omega], by omega, by omega, HV2, d2.out⟩, by simp [RowKit.intOf]; omega⟩
    · obtain rfl : hi = lo := by omega
      by_cases hn : hi < len
      · obtain ⟨b, off, rfl, r, hf, hat⟩ := rc_at HH.out hbe hi hn
        obtain ⟨e0, e1, e2, e3, e4⟩ := hat
        have HK := Lib.hid (HC.out r c wr)
        have hm : (rs.map Rc.last)[hi]? = some r.last := by rw [List.getElem?_map, hf]; rfl
        unfold rcV at HK
        have g0 : (0 : Int) ≤ (hi : Int) := by omega
        have g1 : (hi : Int) < (len : Int) := by omega
        by_cases hq : r.last = c
        · have HS := Lib.hid (Halves.hit (c := c) (by rw [hm, hq]))
          have hq2 : (r.last.toNat : Int) - (c.toNat : Int) = 0 := by rw [hq]; omega
          clear hf hm hq HV
          go_wp2_with fail
          refine HK.out.mono ?_
          rintro e w2 ⟨rfl, hb2⟩
          have d2 := Lib.hid (hbe.trans (hb2.mono hsz))
          clear HK hb2 e0 e1 e2 e3 e4 hbe
          go_wp2
          go_ret2
          exact ⟨hi, true, rfl, HS.out, d2.out⟩
        · have HS := Lib.hid (HV.out.miss HR.out (by rw [hm]; simpa using hq))
          have hq2 : ¬ (r.last.toNat : Int) - (c.toNat : Int) = 0 := fun h0 => hq (UInt8.toNat_inj.1 (by omega))
          have hq3 : ((r.last.toNat : Int) - (c.toNat : Int) == 0) = false := by simpa using hq2
          clear hf hm hq HV
          go_wp2_with fail
          refine HK.out.mono ?_
          rintro e w2 ⟨rfl, hb2⟩
          have d2 := Lib.hid (hbe.trans (hb2.mono hsz))
          clear HK hb2 e0 e1 e2 e3 e4 hbe
          go_wp2
          go_ret2
          exact ⟨hi, false, rfl, HS.out, d2.out⟩
      · have HS := Lib.hid (HV.out.miss HR.out (by rw [List.getElem?_eq_none (by rw [List.length_map]; omega)]; simp))
        have g1 : ¬ (hi : Int) < (len : Int) := by omega
        clear HV
        go_wp2
        go_ret2
        exact ⟨hi, false, rfl, HS.out, hbe⟩

/-- What Next tells of a state's bytes. -/
def RetNx (bs : List UInt8) (o : Nat) (c : UInt8) (w : World) (e : Ending) (w' : World) : Prop :=
  ((c ∈ bs → ∃ n : Nat, e = .returned (.tuple #[.int .i64 ((o + n : Nat) : Int), .bool true]) ∧ bs[n]? = some c) ∧ (c ∉ bs → e = .returned (.tuple #[.int .i64 0, .bool false]))) ∧ Below w.heap.size w w'
set_option maxHeartbeats 1000000 in
theorem trnext_out {w : World} {q p : Option Addr} {R : List Rc} (h : HasTr w q p R) (s : Int) (hs : s < 0 ∨ (R.length : Int) ≤ s + 1) (c : UInt8) : Calls Try.prog 43 #[.pointer q, .int .i64 s, .int .u8 (c.toNat : Int)] w fun e w' => e = .returned (.tuple #[.int .i64 0, .bool false]) ∧ Below w.heap.size w w' := by
  have HS := Lib.hid (trbelow_out h s hs)
  have HK := Lib.hid (trseek_any (w := w) (a := none) (len := 0) (cap := 0) (rs := []) ⟨rfl, .inl rfl⟩ (by omega) c (by simp))
  clear h hs
  go_enter Try.func43, Try.ntmps43
  go_wp2_with fail
  refine HS.out.mono ?_
  rintro e w' ⟨rfl, rfl⟩
  go_wp2_with fail
  refine HK.out.mono ?_
  rintro e w2 ⟨n, β, rfl, ⟨hβ, _⟩, hb⟩
  simp only [List.map_nil, List.not_mem_nil, decide_false] at hβ
  subst hβ
  clear HK
  go_wp2
  go_ret2
  exact ⟨rfl, hb⟩
set_option maxHeartbeats 1000000 in
theorem trnext_in {w : World} {q p : Option Addr} {R : List Rc} (h : HasTr w q p R) (k : Nat) (r r' : Rc) (hr : R[k]? = some r) (hr' : R[k + 1]? = some r') (h1 : r.below ≤ r'.below) (h2 : r'.below ≤ R.length) (c : UInt8)
    (hrise : (((R.drop r.below).take (r'.below - r.below)).map Rc.last).Pairwise (· < ·)) :
    Calls Try.prog 43 #[.pointer q, .int .i64 (k : Int), .int .u8 (c.toNat : Int)] w (RetNx (((R.drop r.below).take (r'.below - r.below)).map Rc.last) r.below c w) := by
  have hm := h.few
  have HB := Lib.hid (trbelow_in h k r r' hr hr' h1 h2)
  have hk := (List.getElem?_eq_some_iff.1 hr).1
  obtain ⟨base, b, rfl, ht⟩ := h.some hk
  obtain ⟨g, cap, c0, c1, hcap, _, hg, hat⟩ := ht.reads
  have e2 := (hat k r hr).c2
  have hblt := ht.lt
  have g0 : (0 : Int) ≤ (k : Int) := by omega
  have g1 : (k : Int) < (R.length : Int) := by omega
  have HK : Hid (∀ (a : Option Addr) (cap : Nat) (W : World), IsRcs W a (r'.below - r.below) ((R.drop r.below).take (r'.below - r.below)) → _) := Lib.hid fun a cap W hW => trseek_any (cap := cap) hW (by omega) c hrise
  have hlen : ((R.drop r.below).take (r'.below - r.below)).length ≤ R.length := by rw [List.length_take, List.length_drop]; omega
  generalize (R.drop r.below).take (r'.below - r.below) = L at *
  generalize r'.below - r.below = n at *
  clear h ht hat hr hr' hrise
  go_enter Try.func43, Try.ntmps43
  go_wp2_with fail
  refine HB.out.mono ?_
  rintro e w' ⟨⟨a, cap', rfl, hL⟩, m, rfl⟩
  have HL := Lib.hid (HK.out a cap' (w.drewN m) (hL.below (below_drewS (Below.refl _ _) m)))
  clear HK HB hL
  go_wp2_with fail
  refine HL.out.mono ?_
  rintro e w2 ⟨i, β, rfl, ⟨hβ, hi⟩, hb⟩
  clear HL
  have hb' : Below w.heap.size w w2 := (below_drewS (Below.refl _ _) m).trans hb
  have d1 : w2.cell? ⟨b, 1, none⟩ = some (.slice (some ⟨g, 0, none⟩) R.length cap) := (hb'.cell (p := ⟨b, 1, none⟩) hblt).trans c1
  have d2 : w2.cell? ⟨g, k * 5 + 2, none⟩ = some (.int .i32 (r.below : Int)) := (hb'.cell (p := ⟨g, k * 5 + 2, none⟩) hg).trans e2
  have HB := Lib.hid hb'
  clear hb hb' c0 c1 e2
  by_cases hc : c ∈ L.map Rc.last
  · have hi2 := Lib.hid (hi hc)
    rw [decide_eq_true hc] at hβ
    subst hβ
    have hil := (List.getElem?_eq_some_iff.1 (hi hc)).1
    rw [List.length_map] at hil
    have hw : IntKind.i64.wrap (r.below : Int) = (r.below : Int) := by rw [IntKind.wrap_i64]; omega
    have hw2 : IntKind.i64.wrap ((r.below : Int) + (i : Int)) = (r.below : Int) + (i : Int) := by rw [IntKind.wrap_i64]; omega
    have HC := Lib.hid hc
    clear hc hi
    go_wp2
    go_ret2
    exact ⟨⟨fun _ => ⟨i, by rw [show ((r.below + i : Nat) : Int) = (r.below : Int) + (i : Int) by omega]; rfl, hi2.out⟩, fun hh => absurd HC.out hh⟩, HB.out⟩
  · rw [decide_eq_false hc] at hβ
    subst hβ
    have HC := Lib.hid hc
    clear hc hi
    go_wp2
    go_ret2
    exact ⟨⟨fun hh => absurd hh HC.out, fun _ => rfl⟩, HB.out⟩
end Go.Proofs.Ytnechkljecdfkaa

namespace Go.Proofs.Ytnechkljecdfkaa
open Go.RowKit

theorem trbyte_info : (Try.prog.info? 5).map (fun i => (i.zero, i.size, i.bytes)) = some (some (.int .u8 0), 1, 1) := by kernel_rfl
theorem trbyte_one {x : Int} : ∀ v ∈ [Value.int .u8 x], v.oneCell' = true := by
  intro v hv
  simp at hv
  subst hv; rfl
theorem trcells_snoc (l : List UInt8) (c : UInt8) : Lib.byteCells (l ++ [c]) = Lib.byteCells l ++ [.int .u8 (c.toNat : Int)] := by simp [Lib.byteCells]
/-- A slice of bytes of the call's own, as a string says it. -/
theorem trown_text {w : World} {base : Nat} {v : Value} {l : List UInt8} (h : w.ownsRow base 5 1 v l.length (Lib.byteCells l)) : (convert 64 9 v).run Try.prog w = .ok (.string ⟨l.toArray⟩) w := by
  rcases h.2 with ⟨rfl, h0⟩ | ⟨g, cap, cur, rfl, _⟩
  · obtain rfl := List.length_eq_zero_iff.1 h0
    rw [run_convert_bytes_string w 64 9 5 none 0 0 Try.underlying64 Try.underlying5 Try.underlying9]
    rfl
  · refine run_convert_bytes_back w 64 9 5 _ _ l Try.underlying64 Try.underlying5 Try.underlying9 (fun j hj => ?_)
    exact h.cells (g := g) rfl j _ (by simp [Lib.byteCells, List.getElem?_eq_getElem hj])
end Go.Proofs.Ytnechkljecdfkaa

namespace Go.Proofs.Ytnechkljecdfkaa
open Go.RowKit

theorem IsTrie.below {w w' : World} {q p : Option Addr} {us S : List (List UInt8)} (h : IsTrie w q p us S) (hb : Below w.heap.size w w') : IsTrie w' q p us S := by
  obtain ⟨R, h1, h2, h3, h4⟩ := h
  exact ⟨R, h1.below hb, h2, h3, h4.below hb⟩
theorem IsTrie.st {w : World} {q p : Option Addr} {us S : List (List UInt8)} (h : IsTrie w q p us S) : IsSt us S := by
  obtain ⟨R, h1, h2, h3, h4⟩ := h
  exact h3.done
theorem IsTrie.few {w : World} {q p : Option Addr} {us S : List (List UInt8)} (h : IsTrie w q p us S) : 1 ≤ S.length ∧ S.length ≤ totalL us + 1 ∧ S.length ≤ 16777217 := by
  obtain ⟨R, h1, h2, h3, h4⟩ := h
  have := (pats_each h4).2.2
  exact ⟨h3.le.2, h3.few, by have := h3.few; omega⟩
theorem ts_len {w : World} {q p : Option Addr} {us S : List (List UInt8)} (h : IsTrie w q p us S) : Calls Try.prog 26 #[.pointer q] w fun e w' => e = .returned (.int .i64 (S.length : Int)) ∧ w' = w := by
  obtain ⟨R, h1, h2, h3, h4⟩ := h
  rw [← h2.1]
  exact trlen_any h1
theorem ts_depth {w : World} {q p : Option Addr} {us S : List (List UInt8)} (h : IsTrie w q p us S) (k : Nat) {s : List UInt8} (hs : S[k]? = some s) : Calls Try.prog 71 #[.pointer q, .int .i64 (k : Int)] w fun e w' => e = .returned (.int .i64 (s.length : Int)) ∧ Below w.heap.size w w' := by
  obtain ⟨R, h1, h2, h3, h4⟩ := h
  obtain ⟨r, hr, _, _, hd, _⟩ := h2.at hs
  have := trdepth_any h1 (k : Int)
  rw [rcOf_in hr, hd] at this
  exact this
theorem ts_above {w : World} {q p : Option Addr} {us S : List (List UInt8)} (h : IsTrie w q p us S) (k : Nat) {s : List UInt8} (hs : S[k]? = some s) : ∃ a : Nat, S[a]? = some s.dropLast ∧ a ≤ k ∧
    Calls Try.prog 51 #[.pointer q, .int .i64 (k : Int)] w fun e w' => e = .returned (.tuple #[.int .i64 (a : Int), .int .u8 ((s.getLastD 0).toNat : Int), .bool (decide (0 < s.length))]) ∧ Below w.heap.size w w' := by
  obtain ⟨R, h1, h2, h3, h4⟩ := h
  obtain ⟨r, hr, _, _, hd, hl, ha, hk⟩ := h2.at hs
  have := trabove_any h1 (k : Int)
  rw [rcOf_in hr, hd, hl] at this
  exact ⟨_, ha, hk, this⟩
/-- The first pattern of a state begins with it. -/
theorem first_take {us S : List (List UInt8)} (ha : Asc us) (h : IsSt us S) {s : List UInt8} (hs : s ∈ S) : s.length ≤ (us.getD (frL us s) []).length ∧ (us.getD (frL us s) []).take s.length = s := by
  rcases (h.2 s).1 hs with rfl | hb
  · simp
  · have hr := range_pos ha hb
    have hl := to_le us s
    have e1 : us[frL us s]? = some (us[frL us s]'(by omega)) := List.getElem?_eq_getElem (by omega)
    have hp := (in_iff ha e1).2 ⟨Nat.le_refl _, hr⟩
    rw [List.getD_eq_getElem?_getD, e1]
    exact ⟨hp.length_le, (List.prefix_iff_eq_take.1 hp).symm⟩
theorem ts_ends {w : World} {q p : Option Addr} {us S : List (List UInt8)} (h : IsTrie w q p us S) (ha : Asc us) (k : Nat) {s : List UInt8} (hs : S[k]? = some s) : Calls Try.prog 53 #[.pointer q, .int .i64 (k : Int)] w fun e w' =>
    ((s ∈ us → e = .returned (.tuple #[.int .i64 (frL us s : Int), .bool true])) ∧ (s ∉ us → e = .returned (.tuple #[.int .i64 0, .bool false]))) ∧ Below w.heap.size w w' := by
  have hst := h.st
  obtain ⟨R, h1, h2, h3, h4⟩ := h
  obtain ⟨r, hr, hf, _, hd, _⟩ := h2.at hs
  have hi := endr_iff ha ((hst.2 s).1 (List.mem_of_getElem? hs)) hf hd
  refine (trends_in h1 h4 k r hr (by have := (pats_each h4).2.1; omega)).mono ?_
  rintro e w' ⟨⟨e1, e2⟩, hb⟩
  rw [hf] at e1
  exact ⟨⟨fun hm => e1 (hi.2 hm), fun hm => e2 fun he => hm (hi.1 he)⟩, hb⟩
/-- Where a pattern stands that a state is. -/
theorem ends_at {us : List (List UInt8)} (ha : Asc us) {s : List UInt8} (hs : s ∈ us) : us[frL us s]? = some s := by
  have hb : begL us s = true := beg_iff.2 ⟨s, hs, List.prefix_refl s⟩
  have hr := range_pos ha hb
  have hl := to_le us s
  have e1 : us[frL us s]? = some (us[frL us s]'(by omega)) := List.getElem?_eq_getElem (by omega)
  have hp := (in_iff ha e1).2 ⟨Nat.le_refl _, hr⟩
  exact e1.trans (congrArg some (hp.eq_of_length ((first_is ha e1 hp).2 hs).symm).symm)

/-- What is kept of the states below one. -/
theorem kids_kept {us S : List (List UInt8)} {R : List Rc} (hb : Bfs us S.length S) (hR : RecOk us S S.length R) {k : Nat} {s s' : List UInt8} (hs : S[k]? = some s) (hs' : S[k + 1]? = some s') : ∃ r r', R[k]? = some r ∧ R[k + 1]? = some r' ∧ r.below = offL us S k ∧
    r.below ≤ r'.below ∧ r'.below ≤ R.length ∧ ((R.drop r.below).take (r'.below - r.below)).map Rc.last = kidsL us s := by
  have hk := (List.getElem?_eq_some_iff.1 hs').1
  obtain ⟨r, hr, _, h2, _⟩ := hR.at hs
  obtain ⟨r', hr', _, h2', _⟩ := hR.at hs'
  rw [if_pos (by omega)] at h2 h2'
  have ho := off_snoc (us := us) hs
  have hle := off_le hb (i := k + 1) (by omega)
  refine ⟨r, r', hr, hr', h2, by omega, by rw [hR.1]; omega, ?_⟩
  rw [h2, h2', ho, Nat.add_sub_cancel_left]
  refine List.ext_getElem? fun j => ?_
  rw [List.getElem?_map, List.getElem?_take]
  by_cases hj : j < (kidsL us s).length
  · rw [if_pos hj, List.getElem?_drop]
    have hc : (kidsL us s)[j]? = some (kidsL us s)[j] := List.getElem?_eq_getElem hj
    obtain ⟨x, hx, _, _, _, hxl, _⟩ := hR.at (hb.at (by omega) hs hc)
    rw [hx, hc, Option.map_some, hxl]
    simp
  · rw [if_neg hj, List.getElem?_eq_none (by omega)]; rfl
theorem ts_next {w : World} {q p : Option Addr} {us S : List (List UInt8)} (h : IsTrie w q p us S) (k : Nat) {s : List UInt8} (hs : S[k]? = some s) (c : UInt8) : Calls Try.prog 43 #[.pointer q, .int .i64 (k : Int), .int .u8 (c.toNat : Int)] w fun e w' =>
    ((s ++ [c] ∈ S → ∃ n : Nat, e = .returned (.tuple #[.int .i64 (n : Int), .bool true]) ∧ S[n]? = some (s ++ [c])) ∧ (s ++ [c] ∉ S → e = .returned (.tuple #[.int .i64 0, .bool false]))) ∧ Below w.heap.size w w' := by
  have hst := h.st
  obtain ⟨R, h1, h2, h3, h4⟩ := h
  have hk := (List.getElem?_eq_some_iff.1 hs).1
  have hi : s ++ [c] ∈ S ↔ c ∈ kidsL us s := by
    rw [hst.2, kids_mem]
    simp
  by_cases hl : k + 1 < S.length
  · obtain ⟨r, r', hr, hr', ho, hle1, hle2, hm⟩ := kids_kept h3 h2 hs (List.getElem?_eq_getElem hl)
    refine (trnext_in h1 k r r' hr hr' hle1 hle2 c (by rw [hm]; exact kids_rise us s)).mono ?_
    rintro e w' ⟨⟨e1, e2⟩, hb⟩
    rw [hm] at e1 e2
    refine ⟨⟨fun hh => ?_, fun hh => e2 fun hx => hh (hi.2 hx)⟩, hb⟩
    obtain ⟨n, he, hn⟩ := e1 (hi.1 hh)
    rw [ho] at he
    exact ⟨_, he, h3.at hk hs hn⟩
  · have hkk : k = S.length - 1 := by omega
    have hn := last_none hst (by rw [← hkk]; exact hs)
    refine (trnext_out h1 (k : Int) (.inr (by rw [h2.1]; omega)) c).mono ?_
    rintro e w' ⟨he, hb⟩
    exact ⟨⟨fun hh => by rw [hi, hn] at hh; simp at hh, fun _ => he⟩, hb⟩
theorem st_take {us S : List (List UInt8)} (h : IsSt us S) {t : List UInt8} (ht : t ∈ S) (n : Nat) : t.take n ∈ S := by
  rcases (h.2 t).1 ht with rfl | hb
  · simpa using ht
  · exact (h.2 _).2 (.inr (beg_short hb (List.take_prefix n t)))
end Go.Proofs.Ytnechkljecdfkaa

namespace Go.Proofs.Ytnechkljecdfkaa
open Go.RowKit

theorem pats_nodup {w : World} {p : Option Addr} {us : List (List UInt8)} (h : IsPats w p us) : us.Nodup := by
  rcases h with ⟨_, rfl⟩ | ⟨b, _, _, h⟩
  · exact List.Pairwise.nil
  · exact h.once
/-- A new trie of a set that texts make. -/
theorem trnew_set {w : World} {p : Option Addr} {ws : List (List UInt8)} (h : IsPats w p (setL ws)) :
    Calls Try.prog 40 #[.pointer p] w fun e w' => ∃ q S, e = .returned (.pointer q) ∧ IsTrie w' q p (setL ws) S ∧ Below w.heap.size w w' := trnew_any h (set_asc ws) (pats_nodup h)
end Go.Proofs.Ytnechkljecdfkaa

namespace Go.Proofs.Ytnechkljecdfkaa
open Go.RowKit

/-- Of the first m states it is known where they fall back to. -/
structure FlOk (us S : List (List UInt8)) (m : Nat) (F : List (Nat × Nat)) : Prop where
  len : F.length = S.length
  at_ : ∀ (i : Nat) (s : List UInt8), i < m → S[i]? = some s → ∃ a b : Nat, F[i]? = some (a, b) ∧ S[a]? = some (fbL S s) ∧ S[b]? = some (fbL us s)
/-- Links of a trie of a set: of the first m states it is known where they fall back to. -/
structure IsLink (w : World) (k q p : Option Addr) (us S : List (List UInt8)) (m : Nat) (F : List (Nat × Nat)) : Prop where
  has : HasLk w k q F
  tr : IsTrie w q p us S
  asc : Asc us
  ok : FlOk us S m F
theorem IsLink.below {w w' : World} {k q p : Option Addr} {us S : List (List UInt8)} {m : Nat} {F : List (Nat × Nat)} (h : IsLink w k q p us S m F) (hb : Below w.heap.size w w') : IsLink w' k q p us S m F :=
  ⟨h.has.below hb, h.tr.below hb, h.asc, h.ok⟩
theorem IsLink.root {w : World} {k q p : Option Addr} {us S : List (List UInt8)} {m : Nat} {F : List (Nat × Nat)} (h : IsLink w k q p us S m F) : S[0]? = some [] := by
  obtain ⟨R, _, _, h3, _⟩ := h.tr
  exact h3.root
theorem IsLink.zero {w : World} {k q p : Option Addr} {us S : List (List UInt8)} {m : Nat} {F : List (Nat × Nat)} (h : IsLink w k q p us S m F) {i : Nat} {s : List UInt8} (hs : S[i]? = some s) : i = 0 ↔ s = [] := by
  constructor
  · rintro rfl
    rw [h.root] at hs
    exact (Option.some.inj hs).symm
  · rintro rfl
    exact rise_same h.tr.st.1 hs h.root
theorem IsLink.less {w : World} {k q p : Option Addr} {us S : List (List UInt8)} {m : Nat} {F : List (Nat × Nat)} (h : IsLink w k q p us S m F) {i j : Nat} {s t : List UInt8} (hs : S[i]? = some s) (ht : S[j]? = some t) (hl : s.length < t.length) : i < j := rise_lt h.tr.st.1 hs ht (.inl hl)
theorem IsLink.mem {w : World} {k q p : Option Addr} {us S : List (List UInt8)} {m : Nat} {F : List (Nat × Nat)} (h : IsLink w k q p us S m F) : [] ∈ S := st_root h.tr.st
theorem IsLink.flen {w : World} {k q p : Option Addr} {us S : List (List UInt8)} {m : Nat} {F : List (Nat × Nat)} (h : IsLink w k q p us S m F) : F.length = S.length := h.ok.len

set_option maxHeartbeats 1000000 in
theorem lkstep_out {w : World} {k q : Option Addr} {F : List (Nat × Nat)} (h : HasLk w k q F) (s : Int) (hs : s < 0 ∨ (F.length : Int) ≤ s) (c : UInt8) : Calls Try.prog 52 #[.pointer k, .int .i64 s, .int .u8 (c.toNat : Int)] w fun e w' => e = .returned (.int .i64 0) ∧ w' = w := by
  have HS := Lib.hid (lkis_out h s hs)
  clear h hs
  go_enter Try.func52, Try.ntmps52
  go_wp2_with fail
  refine HS.out.mono ?_
  rintro e w' ⟨rfl, rfl⟩
  go_wp2
  go_ret
  exact ⟨rfl, rfl⟩

set_option maxHeartbeats 2000000 in
theorem lkstep_in {w : World} {k q p : Option Addr} {us S : List (List UInt8)} {m : Nat} {F : List (Nat × Nat)} (h : IsLink w k q p us S m F) (i : Nat) {s : List UInt8} (hs : S[i]? = some s) (hi : i < m) (c : UInt8) :
    Calls Try.prog 52 #[.pointer k, .int .i64 (i : Int), .int .u8 (c.toNat : Int)] w fun e w' => ∃ n : Nat, e = .returned (.int .i64 (n : Int)) ∧ S[n]? = some (lgL S (s ++ [c])) ∧ Below w.heap.size w w' := by
  have hil := (List.getElem?_eq_some_iff.1 hs).1
  have HS := Lib.hid (lkis_in h.has i (by rw [h.flen]; exact hil))
  obtain ⟨base, b, g, rfl, hk⟩ := h.has.some (i := i) (by rw [h.flen]; exact hil)
  have HH := Lib.hid h
  have HK := Lib.hid hk
  have c0 := hk.reads.1
  have hi0 := Lib.hid hi
  have hs0 := Lib.hid hs
  clear h hk hil hi hs
  go_enter Try.func52, Try.ntmps52
  go_wp2_with fail
  refine HS.out.mono ?_
  rintro e w' ⟨rfl, hw'⟩
  obtain rfl := hw'.symm
  clear hw' HS
  go_wp2
  go_loopw [1, 7, 8] (fun x _ _ wr => ∃ (j : Nat) (t : List UInt8), x = .int .i64 j ∧ Hid (j < m) ∧ Hid (S[j]? = some t) ∧ Hid (lgL S (s ++ [c]) = lgL S (t ++ [c])) ∧ Below w.heap.size w wr) (fun x _ _ _ => (RowKit.intOf x).toNat)
  case atStart => exact ⟨i, s, rfl, hi0, hs0, Lib.hid rfl, Below.refl _ _⟩
  case round =>
    clear hi0 hs0 c0
    obtain ⟨j, t, rfl, hj, ht, hg, hbe⟩ := hrel
    have hsz := hbe.size
    have c0 := (HK.out.below hbe).reads.1
    have HN := Lib.hid (ts_next (HH.out.below hbe).tr j ht.out c)
    by_cases hm : t ++ [c] ∈ S
    · go_wp2_with fail
      refine HN.out.mono ?_
      rintro e w2 ⟨⟨h1, _⟩, hb2⟩
      obtain ⟨n, rfl, hn⟩ := h1 hm
      have HE := Lib.hid (show S[n]? = some (lgL S (s ++ [c])) by rw [hg.out, lg_hit hm]; exact hn)
      have d2 := Lib.hid (hbe.trans (hb2.mono hsz))
      clear h1 hb2 HN hn hm hbe hg ht
      go_wp2
      go_ret
      exact ⟨n, rfl, HE.out, d2.out⟩
    · by_cases h0 : j = 0
      · have e0 := (HH.out.zero ht.out).1 h0
        subst h0
        have HE := Lib.hid (show S[0]? = some (lgL S (s ++ [c])) by
          rw [hg.out, lg_miss hm, e0]; exact HH.out.root)
        go_wp2_with fail
        refine HN.out.mono ?_
        rintro e w2 ⟨⟨_, h1⟩, hb2⟩
        obtain rfl := h1 hm
        have d2 := Lib.hid (hbe.trans (hb2.mono hsz))
        clear h1 hb2 HN hm hbe hg ht e0
        go_wp2
        go_ret
        exact ⟨0, rfl, HE.out, d2.out⟩
      · have e0 : t ≠ [] := fun e => h0 ((HH.out.zero ht.out).2 e)
        have g0 : ((j : Int) == 0) = false := by simp; omega
        have g1 : ¬ (j : Int) = 0 := by omega
        have g2 : (j == 0) = false := by simp; omega
        obtain ⟨a, a', hF, ha, _⟩ := HH.out.ok.at_ j t hj.out ht.out
        have hlt := HH.out.less ha ht.out (fb_less e0)
        have HF := Lib.hid (fun W hb => lkfail_any ((HH.out.below (w' := W) hb).has) (j : Int))
        rw [flOf_in hF] at HF
        have HE := Lib.hid (show lgL S (s ++ [c]) = lgL S (fbL S t ++ [c]) by
          rw [hg.out]; exact lg_step HH.out.tr.st c e0 hm)
        have hj2 := Lib.hid (Nat.lt_trans hlt hj.out)
        have ha2 := Lib.hid ha
        go_wp2_with fail
        refine HN.out.mono ?_
        rintro e w2 ⟨⟨_, h1⟩, hb2⟩
        obtain rfl := h1 hm
        have d2 := Lib.hid (hbe.trans (hb2.mono hsz))
        have HF2 := Lib.hid (HF.out w2 d2.out)
        clear h1 hb2 HN hm hbe hg ht e0 ha hF hj HF hsz
        go_wp2_with fail
        refine HF2.out.mono ?_
        rintro e w3 ⟨rfl, hb3⟩
        have d3 := Lib.hid (d2.out.trans (hb3.mono d2.out.size))
        clear hb3 HF2
        go_wp2
        exact ⟨⟨a, _, rfl, hj2, ha2, HE, d3.out⟩, by simp [RowKit.intOf]; omega⟩
end Go.Proofs.Ytnechkljecdfkaa

namespace Go.Proofs.Ytnechkljecdfkaa
open Go.RowKit

/-- The cells of places. -/
def spV (n : Nat) : Value := .int .i32 (n : Int)
def spCells (P : List Nat) : List Value := P.map spV
theorem spCells_length (P : List Nat) : (spCells P).length = P.length := List.length_map _
theorem sp_info : (Try.prog.info? 62).map (fun i => (i.zero, i.size, i.bytes)) = some (some (.agg #[.int .i32 0, .int .i32 0]), 2, 8) := by kernel_rfl

/-- What is owned is a slice. -/
theorem owns_sl {w : World} {base size : Nat} {e : TypeId} {v : Value} {n : Nat} {xs : List Value} (h : w.ownsRow base e size v n xs) : ∃ a cap, v = .slice a n cap := by
  rcases h.2 with ⟨rfl, rfl⟩ | ⟨g, cap, cur, rfl, _⟩
  · exact ⟨_, _, rfl⟩
  · exact ⟨_, _, rfl⟩

/-- A table in block b, its places in block p; what it owns lies from 'base' on. -/
structure IsSp (w : World) (base b pb : Nat) (k : Option Addr) (P : List Nat) (C : List (Nat × Nat)) (v : Value) : Prop where
  head : w.heap[b]? = some (.cells #[.pointer k, .slice (some ⟨pb, 0, none⟩) P.length P.length, v] 54 (0, 0))
  row : w.heap[pb]? = some (.cells (spCells P).toArray 21 (0, 0))
  own : w.ownsRow base 62 2 v C.length (flCells C)
  bb : base ≤ b
  bp : base ≤ pb
  plen : P.length ≤ 4194304
  clen : C.length ≤ 1073741824
  pfit : ∀ p ∈ P, p ≤ 1073741824
  cfit : ∀ r ∈ C, r.1 ≤ 16777217 ∧ r.2 ≤ 16777217
theorem IsSp.lt {w : World} {base b pb : Nat} {k : Option Addr} {P : List Nat} {C : List (Nat × Nat)} {v : Value} (h : IsSp w base b pb k P C v) : b < w.heap.size := heap_lt h.head
theorem IsSp.ltp {w : World} {base b pb : Nat} {k : Option Addr} {P : List Nat} {C : List (Nat × Nat)} {v : Value} (h : IsSp w base b pb k P C v) : pb < w.heap.size := heap_lt h.row
theorem IsSp.below {w w' : World} {base b pb : Nat} {k : Option Addr} {P : List Nat} {C : List (Nat × Nat)} {v : Value} (h : IsSp w base b pb k P C v) (hb : Below w.heap.size w w') : IsSp w' base b pb k P C v :=
  ⟨(hb.block b h.lt).trans h.head, (hb.block pb h.ltp).trans h.row, tx_below h.own hb, h.bb, h.bp, h.plen, h.clen, h.pfit, h.cfit⟩
theorem IsSp.heap {w W : World} {base b pb : Nat} {k : Option Addr} {P : List Nat} {C : List (Nat × Nat)} {v : Value} (h : IsSp w base b pb k P C v) (e : W.heap = w.heap) : IsSp W base b pb k P C v :=
  ⟨by rw [e]; exact h.head, by rw [e]; exact h.row, by have := h.own; unfold World.ownsRow at *; rw [e]; exact this, h.bb, h.bp, h.plen, h.clen, h.pfit, h.cfit⟩
theorem IsSp.reads {w : World} {base b pb : Nat} {k : Option Addr} {P : List Nat} {C : List (Nat × Nat)} {v : Value} (h : IsSp w base b pb k P C v) : w.cell? ⟨b, 0, none⟩ = some (.pointer k) ∧ w.cell? ⟨b, 1, none⟩ = some (.slice (some ⟨pb, 0, none⟩) P.length P.length) ∧ w.cell? ⟨b, 2, none⟩ = some v := by
  refine ⟨?_, ?_, ?_⟩ <;> rw [Lib.cell_of_heap h.head] <;> rfl
theorem IsSp.place {w : World} {base b pb : Nat} {k : Option Addr} {P : List Nat} {C : List (Nat × Nat)} {v : Value} (h : IsSp w base b pb k P C v) {i p : Nat} (hp : P[i]? = some p) : p ≤ 1073741824 ∧ w.cell? ⟨pb, i, none⟩ = some (.int .i32 (p : Int)) := by
  refine ⟨h.pfit p (List.mem_of_getElem? hp), ?_⟩
  rw [Lib.cell_of_heap h.row]
  simp [spCells, hp, spV]
/-- A cell is read. -/
theorem IsSp.at {w : World} {base b pb : Nat} {k : Option Addr} {P : List Nat} {C : List (Nat × Nat)} {v : Value} (h : IsSp w base b pb k P C v) {j o x : Nat} (hj : C[j]? = some (o, x)) : ∃ g cap, v = .slice (some ⟨g, 0, none⟩) C.length cap ∧ g < w.heap.size ∧ o ≤ 16777217 ∧ x ≤ 16777217 ∧
    w.cell? ⟨g, j * 2, none⟩ = some (.int .i32 (o : Int)) ∧ w.cell? ⟨g, j * 2 + 1, none⟩ = some (.int .i32 (x : Int)) := by
  have hl := (List.getElem?_eq_some_iff.1 hj).1
  obtain ⟨g, cap, rfl, _⟩ := World.ownsRow.form h.own (by omega)
  have hf := h.cfit _ (List.mem_of_getElem? hj)
  refine ⟨g, cap, rfl, (h.own.lt g rfl).2, hf.1, hf.2, ?_, ?_⟩
  · rw [h.own.cellAt (j * 2) (by omega)]
    exact flCells_at C j 0 hj (by omega)
  · rw [h.own.cellAt (j * 2 + 1) (by omega)]
    exact flCells_at C j 1 hj (by omega)
theorem IsSp.sl {w : World} {base b pb : Nat} {k : Option Addr} {P : List Nat} {C : List (Nat × Nat)} {v : Value} (h : IsSp w base b pb k P C v) : ∃ a cap, v = .slice a C.length cap := owns_sl h.own

/-- A table of a set: its links, and the rows of all states. -/
structure IsSparse (w : World) (p : Option Addr) (us S : List (List UInt8)) (C : List (Nat × Nat)) : Prop where
  tab : ∃ base b pb k q y F P v, p = some ⟨b, 0, none⟩ ∧ IsSp w base b pb k P C v ∧ IsLink w k q y us S S.length F ∧ SpOk us S S.length P C
theorem IsSparse.below {w w' : World} {p : Option Addr} {us S : List (List UInt8)} {C : List (Nat × Nat)} (h : IsSparse w p us S C) (hb : Below w.heap.size w w') : IsSparse w' p us S C := by
  obtain ⟨base, b, pb, k, q, y, F, P, v, h1, h2, h3, h4⟩ := h.tab
  exact ⟨base, b, pb, k, q, y, F, P, v, h1, h2.below hb, h3.below hb, h4⟩
end Go.Proofs.Ytnechkljecdfkaa

namespace Go.Proofs.Ytnechkljecdfkaa
open Go.RowKit

variable {P : Program}

/-- Zero values are appended where there is room. -/
theorem run_append_room_zeros (w : World) (t tn ty e : TypeId) (i : TypeInfo) (z : Value) (kq kn : IntKind) (ht : P.underlying t = some (.slice e)) (htn : P.underlying tn = some (.int kn)) (hi : P.info? e = some i) (hz : i.zero = some z)
    (hzs : z.cells.size = i.size) (hsz : 0 < i.size) (h1 : ∀ u ∈ z.cells, u.oneCell' = true) (g sLen sCap : Nat) (cur : Array Value) (hg : w.heap[g]? = some (.cells cur e (0, 0))) (k : Nat) (h0 : 0 < k)
    (hroom : sLen + k ≤ sCap) (hfit : (sLen + k) * i.size ≤ cur.size) (h63 : ((sLen + k : Nat) : Int) ≤ 9223372036854775807) (h48 : k * i.bytes ≤ 281474976710656) :
    (Builtin.append_ #[t, tn] ty #[.slice (some ⟨g, 0, none⟩) sLen sCap, .int kq k]).run P w =
      .ok (.slice (some ⟨g, 0, none⟩) (sLen + k) sCap) (w.setRow g (cur.toList.take (sLen * i.size) ++ (Builtin.zeroCells z.cells k).toList ++ cur.toList.drop (sLen * i.size + k * i.size)).toArray) := by
  have hlen : (Builtin.zeroCells z.cells k).toList.length = k * i.size := by rw [Array.length_toList, size_zeroCells, hzs]
  have hone : ∀ u ∈ (Builtin.zeroCells z.cells k).toList, u.oneCell' = true := by
    intro u hu
    unfold Builtin.zeroCells at hu
    rw [Array.toList_map, List.mem_map] at hu
    obtain ⟨j, _, rfl⟩ := hu
    have hp : j % z.cells.size < z.cells.size := Nat.mod_lt _ (by omega)
    rw [getElem!_pos z.cells _ hp]
    exact h1 _ (Array.getElem_mem hp)
  have hst := run_storeCells_at P g (sLen * i.size) e (Builtin.zeroCells z.cells k).toList 0 cur w hg (by rw [hlen, Nat.add_zero, ← Nat.add_mul]; exact hfit) hone
  simp only [Nat.add_zero, hlen] at hst
  have hk : k ≠ 0 := by omega
  have hw : IntKind.i64.wrap (k : Int) = k := by rw [IntKind.wrap_i64]; omega
  have h48i : ¬ (281474976710656 < (k : Int) * (i.bytes : Int)) := by
    rw [← Int.natCast_mul]
    omega
  have hneg : ¬ ((k : Int) < 0) := by omega
  have hns : ¬ (k * i.size = 0) := Nat.mul_ne_zero hk (by omega)
  simp [Builtin.append_, run_underlying ht, run_underlying htn, sizeOf, typeInfo, zeroValue, hi, hz, asInt, asIntOf, hw, hneg, hns, hroom, h48i, Addr.add_lit, hst]

/-- .. to what a call owns. -/
theorem run_append_zeros (w : World) (base : Nat) (t tn ty e : TypeId) (i : TypeInfo) (z : Value) (size bytes : Nat) (kq kn : IntKind) (ht : P.underlying t = some (.slice e)) (htn : P.underlying tn = some (.int kn)) (hi : P.info? e = some i) (hz : i.zero = some z)
    (hsize : i.size = size) (hby : i.bytes = bytes) (hzs : z.cells.size = size) (hsz : 0 < size) (h1 : ∀ u ∈ z.cells, u.oneCell' = true)
    (v : Value) (n : Nat) (xs : List Value) (hown : w.ownsRow base e size v n xs) (m : Nat) (hm : 0 < m)
    (h63 : n + m ≤ maxLen) (hbytes : (n + m) * bytes ≤ 140737488355328) (hbase : base ≤ w.heap.size) :
    ∃ v' w', (Builtin.append_ #[t, tn] ty #[v, .int kq m]).run P w = .ok v' w' ∧ w'.ownsRow base e size v' (n + m) (xs ++ (Builtin.zeroCells z.cells m).toList) ∧ w.grownBy w' v.ownBlock := by
  subst hsize
  subst hby
  have hsmall : n + m ≤ 9223372036854775807 := by simp only [maxLen] at h63; omega
  have hzl : (Builtin.zeroCells z.cells m).toList.length = m * i.size := by rw [Array.length_toList, size_zeroCells, hzs]
  have hlen : (xs ++ (Builtin.zeroCells z.cells m).toList).length = (n + m) * i.size := by rw [List.length_append, hown.1, hzl, Nat.add_mul]
  have hmb : m * i.bytes ≤ 281474976710656 := by
    have := Nat.mul_le_mul_right i.bytes (show m ≤ n + m by omega)
    omega
  have grown : ∀ (old : Nat), old < n + m → ∀ (row : Option Nat),
      (w.drew.alloc (.cells (xs.toArray ++ Builtin.zeroCells z.cells m ++ Builtin.zeroCells z.cells (grownCap w (n + m) old e - (n + m))) e)).ownsRow base e i.size
        (.slice (some ⟨w.heap.size, 0, none⟩) (n + m) (grownCap w (n + m) old e)) (n + m) (xs ++ (Builtin.zeroCells z.cells m).toList) ∧
      w.grownBy (w.drew.alloc (.cells (xs.toArray ++ Builtin.zeroCells z.cells m ++ Builtin.zeroCells z.cells (grownCap w (n + m) old e - (n + m))) e)) row := by
    intro old ho row
    have hge := grownCap_ge w (n + m) old e
    have hcm : grownCap w (n + m) old e ≤ maxLen := grownCap_le_maxLen w (n + m) old e h63
    refine ⟨⟨hlen, .inr ⟨w.heap.size, _, _, rfl, hbase, heap_alloc_new w.drew _, hge, hcm, ?_, ?_⟩⟩, ⟨rfl, rfl, rfl, by simp, fun k hk _ => Below.heap_alloc w.drew _ k hk⟩⟩
    · simp only [Array.size_append, List.size_toArray, size_zeroCells, hzs, hown.1, ← Nat.add_mul]
      congr 1
      omega
    · simp only [Array.toList_append, List.append_assoc]
      rw [← List.append_assoc, ← hlen]
      exact List.take_left
  rcases hown.2 with ⟨rfl, rfl⟩ | ⟨g, cap, cur, rfl, hbg, hg, hnc, hcm, hcs, htake⟩
  · have hx : xs = [] := List.eq_nil_of_length_eq_zero (by simpa using hown.1)
    subst hx
    have hr := Lib.run_append_nil_zeros (P := P) w t tn ty e i z kq kn ht htn hi hz m hm hsz (by omega) hmb
    have hgr := grown 0 (by omega) (Value.ownBlock (.slice none 0 0))
    simp only [Nat.zero_add, List.nil_append, Array.empty_append] at hgr ⊢
    exact ⟨_, _, hr, hgr.1, hgr.2⟩
  · by_cases hroom : n + m ≤ cap
    · have hfit : (n + m) * i.size ≤ cur.size := by rw [hcs]; exact Nat.mul_le_mul_right _ hroom
      have hr := run_append_room_zeros (P := P) w t tn ty e i z kq kn ht htn hi hz hzs hsz h1 g n cap cur hg m hm hroom hfit (by omega) hmb
      refine ⟨_, _, hr, ⟨hlen, .inr ⟨g, cap, _, rfl, hbg, setRow_heap w g cur _ e _ hg, hroom, hcm, ?_, ?_⟩⟩, ⟨rfl, rfl, rfl, by simp, fun k _ hk => setRow_other w g k _ (fun e => hk (by simp [Value.ownBlock, e]))⟩⟩
      · rw [Nat.add_mul] at hfit
        simp only [List.size_toArray, List.length_append, List.length_take, List.length_drop, Array.length_toList, size_zeroCells, hzs]
        omega
      · rw [htake, ← hlen]
        exact List.take_left
    · have holds : ∀ j u, xs[j]? = some u → w.cell? ((⟨g, 0, none⟩ : Addr).add j) = some u := hown.cells (g := g) rfl
      have hf := run_firstCells_some (P := P) w.drew i.size n ⟨g, 0, none⟩ n cap xs hown.1 (by simpa using holds)
      have hr := Lib.run_append_grow_zeros (P := P) w t tn ty e i z kq kn ht htn hi hz (some ⟨g, 0, none⟩) n cap xs hf m hm hsz (by omega) (by omega) hmb (growslice_fits (by omega) hbytes)
      have hgr := grown cap (by omega) (Value.ownBlock (.slice (some ⟨g, 0, none⟩) n cap))
      exact ⟨_, _, hr, hgr.1, hgr.2⟩

theorem wpList_append_zeros (w : World) {ops : Array Oper} {rest : List Oper} {o : Oper} {a : Act} {Q : Exit → Act → World → Prop} (hgd : o.guard = none) (s x : Operand) (t tn : TypeId)
    (ho : o.op = .call { callee := .builtin .append, args := #[s, x], argTypes := #[t, tn] })
    (base : Nat) (e : TypeId) (i : TypeInfo) (z : Value) (size bytes : Nat) (kq kn : IntKind) (ht : P.underlying t = some (.slice e)) (htn : P.underlying tn = some (.int kn)) (hi : P.info? e = some i) (hz : i.zero = some z)
    (hsize : i.size = size) (hby : i.bytes = bytes) (hzs : z.cells.size = size) (hsz : 0 < size) (h1 : ∀ u ∈ z.cells, u.oneCell' = true)
    (v : Value) (n : Nat) (xs : List Value) (hs : a.eval s = v) (hown : w.ownsRow base e size v n xs) (m : Nat) (hx : a.eval x = .int kq m) (hm : 0 < m)
    (h63 : n + m ≤ maxLen) (hbytes : (n + m) * bytes ≤ 140737488355328) (hbase : base ≤ w.heap.size)
    (h : ∀ v' w', w'.ownsRow base e size v' (n + m) (xs ++ (Builtin.zeroCells z.cells m).toList) → w.grownBy w' v.ownBlock → wpList P ops Q rest (a.put o.dst v') w') : wpList P ops Q (o :: rest) a w := by
  obtain ⟨v', w', hr, h2, h3⟩ := run_append_zeros (P := P) w base t tn o.type e i z size bytes kq kn ht htn hi hz hsize hby hzs hsz h1 v n xs hown m hm h63 hbytes hbase
  exact Lib.wpList_append_run w hgd s x t tn ho v (.int kq m) hs hx v' w' hr (h v' w' h2 h3)

/-- .. as a step of a region that draws its order. -/
theorem step_append_zeros (w : World) {ops : Array Oper} {o : Oper} {a : Act} {K : Act → World → Prop} {Q : Exit → Act → World → Prop} {E : Prop} (hgd : o.guard = none) (s x : Operand) (t tn : TypeId)
    (ho : o.op = .call { callee := .builtin .append, args := #[s, x], argTypes := #[t, tn] })
    (base : Nat) (e : TypeId) (i : TypeInfo) (z : Value) (size bytes : Nat) (kq kn : IntKind) (ht : P.underlying t = some (.slice e)) (htn : P.underlying tn = some (.int kn)) (hi : P.info? e = some i) (hz : i.zero = some z)
    (hsize : i.size = size) (hby : i.bytes = bytes) (hzs : z.cells.size = size) (hsz : 0 < size) (h1 : ∀ u ∈ z.cells, u.oneCell' = true)
    (v : Value) (n : Nat) (xs : List Value) (hs : a.eval s = v) (hown : w.ownsRow base e size v n xs) (m : Nat) (hx : a.eval x = .int kq m) (hm : 0 < m)
    (h63 : n + m ≤ maxLen) (hbytes : (n + m) * bytes ≤ 140737488355328) (hbase : base ≤ w.heap.size)
    (h : ∀ v' w', w'.ownsRow base e size v' (n + m) (xs ++ (Builtin.zeroCells z.cells m).toList) → w.grownBy w' v.ownBlock → K (a.put o.dst v') w') :
    if Region.wanted o (yielded ops a.tmps) = true then Oper.wp P o a w K Q else E := by
  have hw : Region.wanted o (yielded ops a.tmps) = true := by simp [Region.wanted, hgd]
  rw [if_pos hw]
  obtain ⟨v', w', hr, h2, h3⟩ := run_append_zeros (P := P) w base t tn o.type e i z size bytes kq kn ht htn hi hz hsize hby hzs hsz h1 v n xs hown m hm h63 hbytes hbase
  exact Lib.wp_append_run w s x t tn ho v (.int kq m) hs hx v' w' hr (h v' w' h2 h3)
end Go.Proofs.Ytnechkljecdfkaa

namespace Go.Proofs.Ytnechkljecdfkaa
open Go.RowKit

/-- The blocks of a table lie apart. -/
theorem IsSp.apart {w : World} {base b pb : Nat} {k : Option Addr} {P : List Nat} {C : List (Nat × Nat)} {v : Value} (h : IsSp w base b pb k P C v) : b ≠ pb ∧ v.ownBlock ≠ some b ∧ v.ownBlock ≠ some pb := by
  refine ⟨fun e => ?_, fun e => ?_, fun e => ?_⟩
  · have h1 := h.head
    rw [e, h.row] at h1
    simp at h1
  · obtain ⟨_, ⟨hx, _⟩ | ⟨g, cap, cur, hx, _, hg, _⟩⟩ := h.own
    · rw [hx] at e; cases e
    · rw [hx] at e
      simp only [Value.ownBlock, Option.some.injEq] at e
      subst e
      have h1 := h.head
      rw [hg] at h1
      simp at h1
  · obtain ⟨_, ⟨hx, _⟩ | ⟨g, cap, cur, hx, _, hg, _⟩⟩ := h.own
    · rw [hx] at e; cases e
    · rw [hx] at e
      simp only [Value.ownBlock, Option.some.injEq] at e
      subst e
      have h1 := h.row
      rw [hg] at h1
      simp at h1
/-- A cell is put. -/
theorem IsSp.put {w : World} {base b pb g cap n : Nat} {k : Option Addr} {P : List Nat} {C : List (Nat × Nat)} (h : IsSp w base b pb k P C (.slice (some ⟨g, 0, none⟩) n cap)) (hn : n = C.length) {j : Nat} (hj : j < C.length) {o x : Nat} (ho : o ≤ 16777217) (hx : x ≤ 16777217) :
    IsSp ((w.setCell ⟨g, j * 2, none⟩ (.int .i32 (o : Int))).setCell ⟨g, j * 2 + 1, none⟩ (.int .i32 (x : Int))) base b pb k P (C.set j (o, x)) (.slice (some ⟨g, 0, none⟩) n cap) := by
  subst hn
  obtain ⟨_, hb, hp⟩ := h.apart
  have hbg : b ≠ g := fun e => hb (by rw [e]; rfl)
  have hpg : pb ≠ g := fun e => hp (by rw [e]; rfl)
  have h1 := (h.own.stored (j * 2) (.int .i32 (o : Int))).1
  have h2 := (h1.stored (j * 2 + 1) (.int .i32 (x : Int))).1
  rw [fl_set C j o x (List.getElem?_eq_getElem hj)] at h2
  refine ⟨?_, ?_, by rw [List.length_set]; exact h2, h.bb, h.bp, h.plen, by rw [List.length_set]; exact h.clen, h.pfit, fun r hr => ?_⟩
  · rw [put_other hbg, put_other hbg]; exact h.head
  · rw [put_other hpg, put_other hpg]; exact h.row
  · rcases List.mem_or_eq_of_mem_set hr with h3 | rfl
    · exact h.cfit r h3
    · exact ⟨ho, hx⟩
/-- A place is put. -/
theorem IsSp.lay {w : World} {base b pb : Nat} {k : Option Addr} {P : List Nat} {C : List (Nat × Nat)} {v : Value} (h : IsSp w base b pb k P C v) (i : Nat) {p : Nat} (hp : p ≤ 1073741824) : IsSp (w.setCell ⟨pb, i, none⟩ (.int .i32 (p : Int))) base b pb k (P.set i p) C v := by
  obtain ⟨hbp, _, hpv⟩ := h.apart
  refine ⟨?_, ?_, ownsRow_setCell_other h.own hpv _, h.bb, h.bp, by rw [List.length_set]; exact h.plen, h.clen, fun q hq => ?_, h.cfit⟩
  · rw [List.length_set, put_other hbp]; exact h.head
  · rw [put_heap h.row]
    congr 2
    unfold spCells
    rw [List.map_set]
    simp [spV]
  · rcases List.mem_or_eq_of_mem_set hq with h3 | rfl
    · exact h.pfit q h3
    · exact hp
theorem zero_fl (m : Nat) : (Builtin.zeroCells (Value.agg #[.int .i32 0, .int .i32 0]).cells m).toList = flCells (List.replicate m (0, 0)) := by
  have e : (Value.agg #[.int .i32 0, .int .i32 0]).cells = #[.int .i32 0, .int .i32 0] := by rfl
  rw [e, fl_rep]
  unfold Builtin.zeroCells
  apply List.ext_getElem
  · simp
  · intro i h1 h2
    simp at h1
    have : i % 2 = 0 ∨ i % 2 = 1 := by omega
    rcases this with h | h <;> simp [h]
theorem fl_append (C D : List (Nat × Nat)) : flCells C ++ flCells D = flCells (C ++ D) := by simp [flCells]
theorem sp_zero_one : ∀ u ∈ (Value.agg #[.int .i32 0, .int .i32 0]).cells, u.oneCell' = true := by
  intro u hu
  have e : (Value.agg #[.int .i32 0, .int .i32 0]).cells = #[.int .i32 0, .int .i32 0] := by rfl
  rw [e] at hu
  simp at hu
  subst hu; rfl
/-- There are more cells. -/
theorem IsSp.more {w w' : World} {base b pb n m : Nat} {k : Option Addr} {P : List Nat} {C : List (Nat × Nat)} {v v' : Value} (h : IsSp w base b pb k P C v) (hm : m = n - C.length) (hn : C.length ≤ n) (hmax : n ≤ 1073741824)
    (hown : w'.ownsRow base 62 2 v' (C.length + m) (flCells C ++ (Builtin.zeroCells (Value.agg #[.int .i32 0, .int .i32 0]).cells m).toList)) (hg : w.grownBy w' v.ownBlock) :
    w'.heap[b]? = w.heap[b]? ∧ IsSp (w'.setCell ⟨b, 2, none⟩ v') base b pb k P (moreC C n) v' := by
  obtain ⟨hbp, hbv, hpv⟩ := h.apart
  have hb1 := (hg.block b h.lt (Ne.symm hbv)).trans h.head
  have hp1 := (hg.block pb h.ltp (Ne.symm hpv)).trans h.row
  have hl : (moreC C n).length = C.length + m := by rw [more_length]; omega
  have hc : flCells (moreC C n) = flCells C ++ (Builtin.zeroCells (Value.agg #[.int .i32 0, .int .i32 0]).cells m).toList := by
    rw [zero_fl, fl_append, hm]; rfl
  refine ⟨hg.block b h.lt (Ne.symm hbv), ?_, ?_, ?_, h.bb, h.bp, h.plen, by rw [more_length]; have := h.clen; omega, h.pfit, fun r hr => ?_⟩
  · rw [put_heap hb1]; rfl
  · rw [put_other (Ne.symm hbp)]; exact hp1
  · rw [hl, hc]
    refine ownsRow_setCell_other hown (fun e => ?_) _
    obtain ⟨_, ⟨hx, _⟩ | ⟨g, cap, cur, hx, _, hg', _⟩⟩ := hown
    · rw [hx] at e; cases e
    · rw [hx] at e
      simp only [Value.ownBlock, Option.some.injEq] at e
      subst e
      rw [hg'] at hb1
      simp at hb1
  · unfold moreC at hr
    rcases List.mem_append.1 hr with h1 | h1
    · exact h.cfit r h1
    · rw [List.eq_of_mem_replicate h1]; simp
theorem more_none {C : List (Nat × Nat)} {n : Nat} (h : n ≤ C.length) : moreC C n = C := by
  unfold moreC
  rw [show n - C.length = 0 by omega]
  simp
/-- The last of rising bytes is the greatest one. -/
theorem rise_last {l : List UInt8} (h : l.Pairwise (· < ·)) {m : Nat} (hm : m + 1 = l.length) (hml : m < l.length) : ∀ c ∈ l, c.toNat ≤ (l[m]).toNat := by
  intro c hc
  obtain ⟨i, hi, rfl⟩ := List.getElem_of_mem hc
  by_cases e : i = m
  · subst e; exact Nat.le_refl _
  · have := List.pairwise_iff_getElem.1 h i m hi hml (by omega)
    rw [UInt8.lt_iff_toNat_lt] at this
    omega
end Go.Proofs.Ytnechkljecdfkaa

namespace Go.Proofs.Ytnechkljecdfkaa
open Go.RowKit

set_option maxHeartbeats 1000000 in
theorem trbytes_out {w : World} {q p : Option Addr} {R : List Rc} (h : HasTr w q p R) (s : Int) (hs : s < 0 ∨ (R.length : Int) ≤ s + 1) : Calls Try.prog 27 #[.pointer q, .int .i64 s] w fun e w' => e = .returned (.string ByteArray.empty) ∧ Below w.heap.size w w' := by
  have HS := Lib.hid (trbelow_out h s hs)
  have hct := fun W : World => trown_text (w := W) (base := 0) (v := .slice none 0 0) (l := []) (World.ownsRow_nil _ _ _ _)
  clear h hs
  go_enter Try.func27, Try.ntmps27
  go_wp2_with fail
  refine HS.out.mono ?_
  rintro e w' ⟨rfl, rfl⟩
  go_wp2
  go_loopw [5, 12] (fun v i wr => v = .slice none 0 0 ∧ i = .int .i64 0 ∧ wr = w') (fun _ _ _ => 0)
  case atStart => exact ⟨rfl, rfl, rfl⟩
  case round =>
    obtain ⟨rfl, rfl, rfl⟩ := hrel
    go_wp2
    go_ret
    exact ⟨rfl, Below.refl _ _⟩

set_option maxRecDepth 100000 in
set_option maxHeartbeats 2000000 in
theorem trbytes_in {w : World} {q p : Option Addr} {R : List Rc} (h : HasTr w q p R) (k : Nat) (r r' : Rc) (hr : R[k]? = some r) (hr' : R[k + 1]? = some r') (h1 : r.below ≤ r'.below) (h2 : r'.below ≤ R.length) :
    Calls Try.prog 27 #[.pointer q, .int .i64 (k : Int)] w fun e w' => e = .returned (.string ⟨((((R.drop r.below).take (r'.below - r.below)).map Rc.last)).toArray⟩) ∧ Below w.heap.size w w' := by
  obtain ⟨i0, hi, hz0, hz1, hz2⟩ := info_parts trbyte_info
  have hm := h.few
  have HB := Lib.hid (trbelow_in h k r r' hr hr' h1 h2)
  generalize (R.drop r.below).take (r'.below - r.below) = L at *
  have hn : r'.below - r.below ≤ 2147483647 := by omega
  generalize r'.below - r.below = n at *
  clear h hr hr' h1 h2
  go_enter Try.func27, Try.ntmps27
  go_wp2_with fail
  refine HB.out.mono ?_
  rintro e w' ⟨⟨a, cap', rfl, hL⟩, m, rfl⟩
  have HL := Lib.hid hL
  have hl := hL.1
  clear hL HB
  go_wp2
  go_loopw [5, 12] (fun v i wr => ∃ j : Nat, j ≤ n ∧ i = .int .i64 j ∧ Hid (wr.ownsRow w.heap.size 5 1 v ((L.take j).map Rc.last).length (Lib.byteCells ((L.take j).map Rc.last))) ∧ Below w.heap.size w wr) (fun _ i _ => n - (RowKit.intOf i).toNat)
  case atStart => exact ⟨0, Nat.zero_le _, rfl, Lib.hid (World.ownsRow_nil _ _ _ _), below_drewS (Below.refl _ _) m⟩
  case round =>
    obtain ⟨j, hj, rfl, HO, hbe⟩ := hrel
    have hsz := hbe.size
    obtain ⟨ao, co, rfl⟩ := owns_slice HO.out
    by_cases hlt : j < n
    · obtain ⟨b, off, rfl, x, hf, hat⟩ := rc_at HL.out hbe j hlt
      obtain ⟨e0, e1, e2, e3, e4⟩ := hat
      have HN : Hid ((L.take (j + 1)).map Rc.last = (L.take j).map Rc.last ++ [x.last]) := Lib.hid (by
        obtain ⟨hk, rfl⟩ := List.getElem?_eq_some_iff.1 hf
        rw [List.take_succ_eq_append_getElem hk, List.map_append]; rfl)
      have hlen : ((L.take j).map Rc.last).length = j := by rw [List.length_map, List.length_take]; omega
      generalize (L.take j).map Rc.last = D at *
      have hown := HO.out
      have g0 : (0 : Int) ≤ (j : Int) := by omega
      have g1 : (j : Int) < (n : Int) := by omega
      have HD := Lib.hid hlen
      clear hlen
      clear hf HO
      have hX : ∀ (o : Obj) (u : Value), ((wr.alloc o).alloc (.cells #[u] 5)).heap[wr.heap.size + 1]? = some (.cells #[u] 5 (0, 0)) := fun o u => by
        have := heap_alloc_new (wr.alloc o) (.cells #[u] 5)
        rwa [show (wr.alloc o).heap.size = wr.heap.size + 1 by simp] at this
      go_wp2_with (at_builtin; refine wpList_append_own _ rfl _ _ 64 rfl w.heap.size 5 i0 (.int .u8 0) 1 1 Try.underlying64 hi hz0 hz1 hz2 rfl (by decide) _ _ _ rfl ((hown.alloc _).alloc _) ⟨wr.heap.size + 1, 0, none⟩ 1 1 [.int .u8 (x.last.toNat : Int)] rfl rfl (one_news (hX _ _)) trbyte_one (by have := HD.out; unfold maxLen; omega) (by have := HD.out; omega) (by simp; omega) ?_)
      intro v' w3 hown3 hgrow _
      obtain ⟨a3, cap3, rfl⟩ := owns_slice hown3
      have B3 : Below w.heap.size w w3 := ((hbe.alloc hsz _).alloc (by simp; omega) _).trans ⟨hgrow.os, hgrow.tape, hgrow.output, Nat.le_trans (by simp) hgrow.size, fun i hi => by
        rw [hgrow.block i (by simp; omega) (fun e => by have := (hown.lt i e.symm).1; omega)]⟩
      have HW : Hid (w3.ownsRow w.heap.size 5 1 (.slice a3 (D.length + 1) cap3) ((L.take (j + 1)).map Rc.last).length (Lib.byteCells ((L.take (j + 1)).map Rc.last))) := Lib.hid (by
        rw [HN.out, trcells_snoc, List.length_append]; exact hown3)
      clear hown hown3 hgrow hX e0 e1 e2 e3 e4
      go_wp2
      exact ⟨⟨j + 1, by omega, by go_num, HW, B3⟩, by simp [RowKit.intOf]; omega⟩
    · obtain rfl : j = n := by omega
      have HE : Hid ((L.take j).map Rc.last = L.map Rc.last) := Lib.hid (by rw [List.take_of_length_le (by omega)])
      generalize (L.take j).map Rc.last = D at *
      have hct := trown_text HO.out
      have hz : ¬ (j : Int) < (j : Int) := by omega
      clear HO
      go_wp2
      go_ret
      exact ⟨by rw [← HE.out]; rfl, hbe⟩
end Go.Proofs.Ytnechkljecdfkaa

namespace Go.Proofs.Ytnechkljecdfkaa
open Go.RowKit

theorem ts_bytes {w : World} {q p : Option Addr} {us S : List (List UInt8)} (h : IsTrie w q p us S) (k : Nat) {s : List UInt8} (hs : S[k]? = some s) : Calls Try.prog 27 #[.pointer q, .int .i64 (k : Int)] w fun e w' =>
    e = .returned (.string ⟨(kidsL us s).toArray⟩) ∧ Below w.heap.size w w' := by
  have hst := h.st
  obtain ⟨R, h1, h2, h3, h4⟩ := h
  have hk := (List.getElem?_eq_some_iff.1 hs).1
  by_cases hl : k + 1 < S.length
  · obtain ⟨r, r', hr, hr', ho, hle1, hle2, hm⟩ := kids_kept h3 h2 hs (List.getElem?_eq_getElem hl)
    have := trbytes_in h1 k r r' hr hr' hle1 hle2
    rw [hm] at this
    exact this
  · have hkk : k = S.length - 1 := by omega
    have hn := last_none hst (by rw [← hkk]; exact hs)
    rw [hn]
    exact trbytes_out h1 (k : Int) (.inr (by rw [h2.1]; omega))
end Go.Proofs.Ytnechkljecdfkaa
