/-
  A trie that is made: New: walked.
-/
import Derived.Test.YtkaldfcpcimacaaTrW
import Derived.Laws.MakeOwn
import Derived.StillTailTactics
set_option linter.unusedSimpArgs false
set_option linter.unusedVariables false
namespace Go.Proofs.Ytkaldfcpcimacaa
open Go.RowKit

theorem made_first (n : Nat) (hn : 1 ≤ n) : (madeCells (Value.agg #[.int .i32 0, .int .i32 0, .int .i32 0, .int .u16 0, .int .u8 0]).cells (n * 5)).toList.take (1 * 5) = rcOne ⟨0, 0, 0, 0, 0⟩ := by
  have e : (Value.agg #[.int .i32 0, .int .i32 0, .int .i32 0, .int .u16 0, .int .u8 0]).cells = #[.int .i32 0, .int .i32 0, .int .i32 0, .int .u16 0, .int .u8 0] := by rfl
  rw [e]
  unfold madeCells
  rw [Array.toList_map, Array.toList_range, ← List.map_take, List.take_range, Nat.min_eq_left (by omega)]
  rfl
theorem make_states (n : Nat) (w : World) (h1 : 1 ≤ n) (hn : n ≤ 16777217) : ∃ w', (Instr.makeSlice 70 (.int .i64 1) (.int .i64 (n : Int))).run Try.prog w = .ok (.slice (some ⟨w.heap.size, 0, none⟩) 1 n) w' ∧
    w'.ownsRow w.heap.size 75 5 (.slice (some ⟨w.heap.size, 0, none⟩) 1 n) 1 (rcCells [⟨0, 0, 0, 0, 0⟩]) ∧ Below w.heap.size w w' ∧ w'.heap.size = w.heap.size + 1 := by
  obtain ⟨i0, hi, hz0, hz1, hz2⟩ := info_parts rc_info
  have h := run_make (P := Try.prog) w 70 75 i0 _ Try.underlying70 hi hz0 .i64 .i64 1 n (by omega) (by omega) (by rw [hz2]; omega) (by omega)
  rw [hz1, Int.toNat_natCast] at h
  refine ⟨_, h, ⟨rfl, .inr ⟨w.heap.size, n, _, rfl, Nat.le_refl _, heap_alloc_new w _, h1, by unfold maxLen; omega, size_madeCells _ _, ?_⟩⟩, (Below.refl _ _).alloc (Nat.le_refl _) _, by simp⟩
  rw [made_first n h1]
  rfl

/-- A trie of a set, behind a pointer: its states. -/
def IsTrie (w : World) (q p : Option Addr) (us S : List (List UInt8)) : Prop :=
  ∃ R, HasTr w q p R ∧ RecOk us S S.length R ∧ Bfs us S.length S ∧ IsPats w p us
/-- What stands while the states are gone through. -/
structure Made (us : List (List UInt8)) (w0 : World) (b : Nat) (p : Option Addr) (k : Nat) (S : List (List UInt8)) (v : Value) (w : World) : Prop where
  bfs : Bfs us k S
  tr : ∃ R, IsTr w w0.heap.size b p R ∧ RecOk us S k R
  que : OwnQ w w0.heap.size 81 3 v (S.length - k) (grCells (grL us k (S.drop k)))
  old : Below w0.heap.size w0 w

set_option maxRecDepth 100000 in
set_option maxHeartbeats 4000000 in
theorem trnew_any {w : World} {p : Option Addr} {us : List (List UInt8)} (hp : IsPats w p us) (ha : Asc us) (hn : us.Nodup) :
    Calls Try.prog 31 #[.pointer p] w fun e w' => ∃ q S, e = .returned (.pointer q) ∧ IsTrie w' q p us S ∧ Below w.heap.size w w' := by
  obtain ⟨he, hl, ht⟩ := pats_each hp
  have HC := Lib.hid (trcount_any hp)
  have HP := Lib.hid hp
  clear hp
  go_enter Try.func31, Try.ntmps31
  go_wp2_with fail
  refine HC.out.mono ?_
  rintro e w1 ⟨n, q1, rfl, hn1, hn2, rfl⟩
  obtain ⟨w2, hmake, hown2, hb2, hs2⟩ := make_states n (w.drewN q1) hn1 hn2
  have HL := Lib.hid (ptlen_all ((HP.out.heap (W := w.drewN q1) rfl).below hb2))
  clear HC
  go_wp2_with fail
  have hT0 : IsTr (w2.alloc (.cells #[.pointer p, .slice (some ⟨w.heap.size, 0, none⟩) 1 n] 72)) w.heap.size (w.heap.size + 1) p [⟨0, 0, 0, 0, 0⟩] := by
    have hx := heap_alloc_new w2 (.cells #[.pointer p, .slice (some ⟨w.heap.size, 0, none⟩) 1 n] 72)
    rw [hs2] at hx
    exact ⟨w.heap.size, n, hx, by omega, hown2.alloc _, fun r hr => by rw [List.mem_singleton] at hr; subst hr; unfold Rc.Fit; simp, by simp⟩
  have hb3 : Below w.heap.size w (w2.alloc (.cells #[.pointer p, .slice (some ⟨w.heap.size, 0, none⟩) 1 n] 72)) := ((below_drewS (Below.refl _ _) q1).trans hb2).alloc (by rw [hs2]; exact Nat.le_succ _) _
  have HL2 := Lib.hid (ptlen_all (HP.out.below hb3))
  have HT0 := Lib.hid hT0
  clear hT0 HL hown2 hb2 hs2 hmake
  generalize w2.alloc (.cells #[.pointer p, .slice (some ⟨w.heap.size, 0, none⟩) 1 n] 72) = w3 at *
  generalize w.heap.size + 1 = b at *
  have hs3 := hb3.size
  refine HL2.out.mono ?_
  rintro e w' ⟨rfl, hw'⟩
  obtain rfl := hw'.symm
  clear hw' HL2
  go_wp2
  have M0 : Hid (Made us w b p 0 [[]] (.slice (some ⟨w3.heap.size, 0, none⟩) 1 1) (w3.alloc (.cells #[.int .i64 0, .int .i64 0, .int .i64 (us.length : Int)] 81))) := Lib.hid
    ⟨.zero, ⟨_, HT0.out.below ((Below.refl _ _).alloc (Nat.le_refl _) _), RecOk.start us⟩, OwnQ.of (by
      refine ⟨rfl, .inr ⟨w3.heap.size, 1, _, rfl, hs3, heap_alloc_new w3 _, Nat.le_refl _, by decide, rfl, ?_⟩⟩
      show [Value.int .i64 0, .int .i64 0, .int .i64 (us.length : Int)] = grCells [(0, frL us [], toL us [])]
      rw [(root_range us).1, (root_range us).2]; rfl) (by simp), hb3.alloc hs3 _⟩
  clear HT0
  go_loopg [4] 16777300 (fun gx y wr => ∃ (k : Nat) (S : List (List UInt8)), gx = 16777300 - k ∧ Hid (Made us w b p k S y wr))
  case atStart => exact ⟨0, [[]], rfl, M0⟩
  case round =>
    clear M0
    obtain ⟨k, S, rfl, HM⟩ := hrel
    obtain ⟨hbfs, ⟨R, hT, hR⟩, hQ, hB⟩ := HM.out
    obtain ⟨gq, oq, cq, rfl, hgb, hgl, hnc, hcm⟩ := hQ.form
    have hkl := hbfs.le.1
    have hfew := hbfs.few
    by_cases hlt : k < S.length
    · obtain ⟨l, hl'⟩ : ∃ l, S.length - k = l + 1 := ⟨S.length - k - 1, by omega⟩
      obtain ⟨q, hq⟩ : ∃ q, S[k]? = some q := ⟨S[k], List.getElem?_eq_getElem hlt⟩
      have hdrop : S.drop k = q :: S.drop (k + 1) := by rw [List.drop_eq_getElem_cons hlt, (List.getElem?_eq_some_iff.1 hq).2]
      rw [hl', hdrop, grL, grCells_cons] at hQ
      rw [hl'] at hnc ⊢
      have d0 : wr.cell? ⟨gq, oq, none⟩ = some (.int .i64 (k : Int)) := hQ.cell 0 _ rfl
      have d1 : wr.cell? ⟨gq, oq + 1, none⟩ = some (.int .i64 (frL us q : Int)) := hQ.cell 1 _ rfl
      have d2 : wr.cell? ⟨gq, oq + 2, none⟩ = some (.int .i64 (toL us q : Int)) := hQ.cell 2 _ rfl
      have g1 : (1 : Int) ≤ (cq : Int) := by omega
      have g2 : (1 : Int) ≤ (l : Int) + 1 := by omega
      have g3 : (l : Int) + 1 ≤ (cq : Int) := by omega
      have g4 : (0 : Int) ≤ (l : Int) := by omega
      have HB := Lib.hid hB
      have hlen : S.length - (k + 1) = l := by omega
      have HR : ∀ v, OwnQ wr w.heap.size 81 3 v l (grCells (grL us (k + 1) (S.drop (k + 1)))) → Hid (Calls Try.prog 49 #[.pointer (some ⟨b, 0, none⟩), v, .agg #[.int .i64 (k : Int), .int .i64 (frL us q : Int), .int .i64 (toL us q : Int)]] wr.drew (RetGr us S q k w b p)) := fun v hv =>
        Lib.hid (trgrow_any (w := wr.drew) HP.out ha hn hB.drew hbfs hq (hT.heap rfl) hR (by rw [hlen]; exact hv.heap rfl))
      have HS := Lib.hid (Bfs.step hbfs hq)
      by_cases hc1 : cq = 1
      · have hl0 : l = 0 := by omega
        subst hl0
        subst hc1
        have HG := HR _ (by
          have h0 : S.drop (k + 1) = [] := List.drop_eq_nil_of_le (by omega)
          rw [h0]
          exact OwnQ.none hQ)
        clear HR hQ hT hR hB HM hdrop
        go_wp2_with fail
        go_still_tail 6, (by kernel_rfl)
        change wpList _ _ _ _ _ wr.drew
        generalize wr.drew = w5 at HG ⊢
        go_wp2_with fail
        refine HG.out.mono ?_
        rintro e w6 ⟨v, rfl, hR6, hQ6, hB6⟩
        generalize S ++ kidsP us q = T at hR6 hQ6 HS
        obtain ⟨g6, o6, c6, rfl, _⟩ := hQ6.form
        have M6 := Lib.hid (⟨HS.out, hR6, hQ6, hB6⟩ : Made us w b p (k + 1) T _ w6)
        clear hR6 hQ6 hB6 HG HS HB
        go_wp2
        go_roundg (16777300 - (k + 1))
        case measure => omega
        case rel => exact ⟨k + 1, _, rfl, M6⟩
      · have HG := HR _ (by
          have := OwnQ.rest hQ
          exact this)
        clear HR hQ hT hR hB HM hdrop
        go_wp2_with fail
        go_still_tail 6, (by kernel_rfl)
        change wpList _ _ _ _ _ wr.drew
        generalize wr.drew = w5 at HG ⊢
        go_wp2_with fail
        refine HG.out.mono ?_
        rintro e w6 ⟨v, rfl, hR6, hQ6, hB6⟩
        generalize S ++ kidsP us q = T at hR6 hQ6 HS
        obtain ⟨g6, o6, c6, rfl, _⟩ := hQ6.form
        have M6 := Lib.hid (⟨HS.out, hR6, hQ6, hB6⟩ : Made us w b p (k + 1) T _ w6)
        clear hR6 hQ6 hB6 HG HS HB
        go_wp2
        go_roundg (16777300 - (k + 1))
        case measure => omega
        case rel => exact ⟨k + 1, _, rfl, M6⟩
    · have hk : k = S.length := by omega
      subst hk
      have hz : S.length - S.length = 0 := Nat.sub_self _
      have HE : Hid (IsTrie wr (some ⟨b, 0, none⟩) p us S ∧ Below w.heap.size w wr) := Lib.hid ⟨⟨R, .inr ⟨_, b, rfl, hT⟩, hR, hbfs, HP.out.below hB⟩, hB⟩
      clear hT hR hQ hB HM
      go_wp2
      go_ret
      exact ⟨_, S, rfl, HE.out⟩
end Go.Proofs.Ytkaldfcpcimacaa
