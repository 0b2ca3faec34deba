/-
  Texts put together: SpN, SpS, AuW, LkFo, LkH, AuH, DnNs, ApZ, SpL0.
-/
import Derived.Test.YtlbgigkkjlfklaaGreatBn7
import Derived.Test.YtlbgigkkjlfklaaGreatBn3
import Derived.Test.YtlbgigkkjlfklaaGreatBn6
import Derived.Test.YtlbgigkkjlfklaaGreatBn4
import Derived.Test.YtlbgigkkjlfklaaGreatShelf
import Derived.Lib.SlKeysI
import Derived.Deep.LoopGhost
import Derived.Lib.AppendZerosOnto
import Derived.Laws.AppendOwn
import Derived.WalkKit
import Derived.Below
import Derived.Deep.RegionLaw
import Derived.Test.YtlbgigkkjlfklaaGreatBn2
import Derived.OneCell
set_option linter.unusedSimpArgs false
set_option linter.unusedVariables false
namespace Go.Proofs.YtlbgigkkjlfklaaGreat
open Go.RowKit

/-- Of what is no state nothing is told. -/
def NoNext (w : World) (p : Option Addr) (s : Int) : Prop := ∀ W, W.heap = w.heap → ∃ n : Int, Calls Tryz.prog 54 #[.pointer p] W (fun e w' => e = .returned (.int .i64 n) ∧ w' = W) ∧ (s < 0 ∨ n ≤ s)
theorem nonext_nil (w : World) (s : Int) : NoNext w none s := fun W _ => ⟨0, splen_nil W, by omega⟩
theorem nonext_out {w : World} {base b pb : Nat} {k : Option Addr} {P : List Nat} {C : List (Nat × Nat)} {v : Value} (h : IsSp w base b pb k P C v) {s : Int} (hs : s < 0 ∨ (P.length : Int) ≤ s) : NoNext w (some ⟨b, 0, none⟩) s := fun W e => ⟨_, splen_any (h.heap e), hs⟩

set_option maxRecDepth 100000 in
set_option maxHeartbeats 1000000 in
theorem spnext_none {w : World} {p : Option Addr} {s : Int} (h : NoNext w p s) (c : UInt8) : Calls Tryz.prog 53 #[.pointer p, .int .i64 s, .int .u8 (c.toNat : Int)] w fun e w' => e = .returned (.tuple #[.int .i64 0, .bool false]) ∧ w' = w := by
  obtain ⟨n, HL0, hs⟩ := h w rfl
  have HL := Lib.hid HL0
  clear h HL0
  go_enter Tryz.func53, Tryz.ntmps53
  by_cases g0 : s < 0
  · have g1 : decide (s < 0) = true := decide_eq_true g0
    go_wp2
    go_ret2
    exact ⟨rfl, rfl⟩
  · have g1 : decide (s < 0) = false := decide_eq_false g0
    have g2 : n ≤ s := by omega
    have g3 : decide (n ≤ s) = true := decide_eq_true g2
    go_wp2_with fail
    refine HL.out.mono ?_
    rintro e w' ⟨rfl, rfl⟩
    go_wp2
    go_ret2
    exact ⟨rfl, rfl⟩
set_option maxRecDepth 100000 in
set_option maxHeartbeats 1000000 in
theorem spstep_none {w : World} {p : Option Addr} {s : Int} (h : NoNext w p s) (c : UInt8) : Calls Tryz.prog 28 #[.pointer p, .int .i64 s, .int .u8 (c.toNat : Int)] w fun e w' => e = .returned (.int .i64 0) ∧ w' = w := by
  have HN := Lib.hid (spnext_none h c)
  obtain ⟨n, HL0, hs⟩ := h w rfl
  have HL := Lib.hid HL0
  clear h HL0
  go_enter Tryz.func28, Tryz.ntmps28
  go_wp2_with fail
  go_loopw [1, 7, 8] (fun x _ _ wr => x = .int .i64 s ∧ wr = w) (fun _ _ _ _ => 0)
  case atStart => exact ⟨rfl, rfl⟩
  case round =>
    obtain ⟨rfl, hwr⟩ := hrel
    obtain rfl := hwr.symm
    clear hwr
    go_wp2_with fail
    refine HN.out.mono ?_
    rintro e w' ⟨rfl, hw'⟩
    obtain rfl := hw'.symm
    clear hw' HN
    by_cases g0 : s ≤ 0
    · have g1 : decide (s ≤ 0) = true := decide_eq_true g0
      go_wp2
      go_ret
      exact ⟨rfl, rfl⟩
    · have g1 : decide (s ≤ 0) = false := decide_eq_false g0
      have g2 : n ≤ s := by omega
      have g3 : decide (n ≤ s) = true := decide_eq_true g2
      go_wp2_with fail
      refine HL.out.mono ?_
      rintro e w' ⟨rfl, hw'⟩
      obtain rfl := hw'.symm
      clear hw'
      go_wp2
      go_ret
      exact ⟨rfl, rfl⟩

/-- A cell that is another one's, or free. -/
theorem spnext_miss {w : World} {base b pb : Nat} {k : Option Addr} {P : List Nat} {C : List (Nat × Nat)} {v : Value} (h : IsSp w base b pb k P C v) (i p : Nat) (hp : P[i]? = some p) (c : UInt8) (hm : ∀ o x, C[p + c.toNat]? = some (o, x) → x = 0 ∨ o ≠ i) : Calls Tryz.prog 53 #[.pointer (some ⟨b, 0, none⟩), .int .i64 (i : Int), .int .u8 (c.toNat : Int)] w fun e w' => e = .returned (.tuple #[.int .i64 0, .bool false]) ∧ w' = w := by
  have hil := (List.getElem?_eq_some_iff.1 hp).1
  have HL := Lib.hid (splen_any h)
  have HT := Lib.hid (sptaken_any h (p + c.toNat))
  have c1 := h.reads.2.1
  have c2 := h.reads.2.2
  obtain ⟨hpl, e0⟩ := h.place hp
  have hcl := c.toNat_lt
  have g0 : ¬ (i : Int) < 0 := by omega
  have g1 : decide ((i : Int) < 0) = false := decide_eq_false g0
  have g2 : ¬ (P.length : Int) ≤ (i : Int) := by omega
  have g3 : decide ((P.length : Int) ≤ (i : Int)) = false := decide_eq_false g2
  have g4 : (0 : Int) ≤ (i : Int) := by omega
  have g5 : (i : Int) < (P.length : Int) := by omega
  have w0 : IntKind.i64.wrap (p : Int) = (p : Int) := by rw [IntKind.wrap_i64]; omega
  have w1 : IntKind.i64.wrap ((p : Int) + (c.toNat : Int)) = ((p + c.toNat : Nat) : Int) := by rw [IntKind.wrap_i64]; omega
  cases hq : tkC C (p + c.toNat) with
  | false =>
    rw [hq] at HT
    clear h hp hm c2
    generalize P.length = n at *
    go_enter Tryz.func53, Tryz.ntmps53
    go_wp2_with fail
    refine HL.out.mono ?_
    rintro e w' ⟨rfl, hw'⟩
    obtain rfl := hw'.symm
    clear hw' HL
    go_wp2_with fail
    refine HT.out.mono ?_
    rintro e w' ⟨rfl, hw'⟩
    obtain rfl := hw'.symm
    clear hw' HT
    go_wp2
    go_ret2
    exact ⟨rfl, rfl⟩
  | true =>
    rw [hq] at HT
    have hlt : p + c.toNat < C.length := by
      rcases Nat.lt_or_ge (p + c.toNat) C.length with h1 | h1
      · exact h1
      · rw [tk_out h1] at hq; cases hq
    obtain ⟨o, x, hx⟩ : ∃ o x, C[p + c.toNat]? = some (o, x) := ⟨_, _, List.getElem?_eq_getElem hlt⟩
    have hne : o ≠ i := by
      rw [tk_in hx] at hq
      have : 0 < x := by simpa using hq
      rcases hm o x hx with h1 | h1
      · omega
      · exact h1
    obtain ⟨g, cap, rfl, hg, ho, hxl, e1, e2⟩ := h.at hx
    clear h hp hm hx hq
    have g6 : (0 : Int) ≤ ((p + c.toNat : Nat) : Int) := by omega
    have g7 : ((p + c.toNat : Nat) : Int) < (C.length : Int) := by omega
    have w2 : IntKind.i64.wrap (o : Int) = (o : Int) := by rw [IntKind.wrap_i64]; omega
    have g8 : ((o : Int) != (i : Int)) = true := by simp; omega
    have g9 : ¬ (o : Int) = (i : Int) := by omega
    have g10 : ((o : Int) == (i : Int)) = false := by simp; omega
    generalize P.length = n at *
    generalize C.length = m at *
    generalize p + c.toNat = q at *
    go_enter Tryz.func53, Tryz.ntmps53
    go_wp2_with fail
    refine HL.out.mono ?_
    rintro e w' ⟨rfl, hw'⟩
    obtain rfl := hw'.symm
    clear hw' HL
    go_wp2_with fail
    refine HT.out.mono ?_
    rintro e w' ⟨rfl, hw'⟩
    obtain rfl := hw'.symm
    clear hw' HT
    go_wp2
    go_ret2
    exact ⟨rfl, rfl⟩
theorem spnext_hit {w : World} {base b pb : Nat} {k : Option Addr} {P : List Nat} {C : List (Nat × Nat)} {v : Value} (h : IsSp w base b pb k P C v) (i p x : Nat) (hp : P[i]? = some p) (c : UInt8) (hx : C[p + c.toNat]? = some (i, x)) (h0 : 0 < x) : Calls Tryz.prog 53 #[.pointer (some ⟨b, 0, none⟩), .int .i64 (i : Int), .int .u8 (c.toNat : Int)] w fun e w' => e = .returned (.tuple #[.int .i64 (x : Int), .bool true]) ∧ w' = w := by
  have hil := (List.getElem?_eq_some_iff.1 hp).1
  have HL := Lib.hid (splen_any h)
  have HT := Lib.hid (sptaken_any h (p + c.toNat))
  rw [tk_in hx, decide_eq_true h0] at HT
  have c1 := h.reads.2.1
  have c2 := h.reads.2.2
  obtain ⟨hpl, e0⟩ := h.place hp
  have hcl := c.toNat_lt
  have hlt := (List.getElem?_eq_some_iff.1 hx).1
  have g0 : ¬ (i : Int) < 0 := by omega
  have g1 : decide ((i : Int) < 0) = false := decide_eq_false g0
  have g2 : ¬ (P.length : Int) ≤ (i : Int) := by omega
  have g3 : decide ((P.length : Int) ≤ (i : Int)) = false := decide_eq_false g2
  have g4 : (0 : Int) ≤ (i : Int) := by omega
  have g5 : (i : Int) < (P.length : Int) := by omega
  have w0 : IntKind.i64.wrap (p : Int) = (p : Int) := by rw [IntKind.wrap_i64]; omega
  have w1 : IntKind.i64.wrap ((p : Int) + (c.toNat : Int)) = ((p + c.toNat : Nat) : Int) := by rw [IntKind.wrap_i64]; omega
  obtain ⟨g, cap, rfl, hg, ho, hxl, e1, e2⟩ := h.at hx
  clear h hp hx
  have g6 : (0 : Int) ≤ ((p + c.toNat : Nat) : Int) := by omega
  have g7 : ((p + c.toNat : Nat) : Int) < (C.length : Int) := by omega
  have w2 : IntKind.i64.wrap (i : Int) = (i : Int) := by rw [IntKind.wrap_i64]; omega
  have w3 : IntKind.i64.wrap (x : Int) = (x : Int) := by rw [IntKind.wrap_i64]; omega
  generalize P.length = n at *
  generalize C.length = m at *
  generalize p + c.toNat = q at *
  go_enter Tryz.func53, Tryz.ntmps53
  go_wp2_with fail
  refine HL.out.mono ?_
  rintro e w' ⟨rfl, hw'⟩
  obtain rfl := hw'.symm
  clear hw' HL
  go_wp2_with fail
  refine HT.out.mono ?_
  rintro e w' ⟨rfl, hw'⟩
  obtain rfl := hw'.symm
  clear hw' HT
  go_wp2
  go_ret2
  exact ⟨rfl, rfl⟩
end Go.Proofs.YtlbgigkkjlfklaaGreat

namespace Go.Proofs.YtlbgigkkjlfklaaGreat
open Go.RowKit

theorem IsSparse.st {w : World} {p : Option Addr} {us S : List (List UInt8)} {C : List (Nat × Nat)} (h : IsSparse w p us S C) : IsSt us S := by
  obtain ⟨base, b, pb, k, q, y, F, P, v, h1, h2, h3, h4⟩ := h.tab
  exact h3.tr.st
theorem IsSparse.root {w : World} {p : Option Addr} {us S : List (List UInt8)} {C : List (Nat × Nat)} (h : IsSparse w p us S C) : S[0]? = some [] := by
  obtain ⟨base, b, pb, k, q, y, F, P, v, h1, h2, h3, h4⟩ := h.tab
  exact h3.root
theorem IsSparse.nodup {w : World} {p : Option Addr} {us S : List (List UInt8)} {C : List (Nat × Nat)} (h : IsSparse w p us S C) : S.Nodup := slx_nodup h.st.1
theorem IsSparse.mem {w : World} {p : Option Addr} {us S : List (List UInt8)} {C : List (Nat × Nat)} (h : IsSparse w p us S C) : [] ∈ S := st_root h.st
/-- How many cells there are. -/
theorem IsSparse.cells {w : World} {p : Option Addr} {us S : List (List UInt8)} {C : List (Nat × Nat)} (h : IsSparse w p us S C) : S.length ≤ C.length + 1 ∧ C.length ≤ 256 * ldN us S S.length ∧ C.length ≤ 1073741824 ∧ S.length ≤ 4194304 := by
  have hr := h.root
  have hst := h.st
  obtain ⟨base, b, pb, k, q, y, F, P, v, h1, h2, h3, h4⟩ := h.tab
  have := h2.plen
  rw [h4.plen] at this
  exact ⟨h4.least hst hr, h4.few, h2.clen, this⟩
theorem sps_len {w : World} {p : Option Addr} {us S : List (List UInt8)} {C : List (Nat × Nat)} (h : IsSparse w p us S C) : Calls Tryz.prog 54 #[.pointer p] w fun e w' => e = .returned (.int .i64 (S.length : Int)) ∧ w' = w := by
  obtain ⟨base, b, pb, k, q, y, F, P, v, rfl, h2, h3, h4⟩ := h.tab
  rw [← h4.plen]
  exact splen_any h2
theorem sps_cells {w : World} {p : Option Addr} {us S : List (List UInt8)} {C : List (Nat × Nat)} (h : IsSparse w p us S C) : Calls Tryz.prog 32 #[.pointer p] w fun e w' => e = .returned (.int .i64 (C.length : Int)) ∧ w' = w := by
  obtain ⟨base, b, pb, k, q, y, F, P, v, rfl, h2, h3, h4⟩ := h.tab
  exact spcells_any h2
theorem sps_nonext {w : World} {p : Option Addr} {us S : List (List UInt8)} {C : List (Nat × Nat)} (h : IsSparse w p us S C) {s : Int} (hs : s < 0 ∨ (S.length : Int) ≤ s) : NoNext w p s := by
  obtain ⟨base, b, pb, k, q, y, F, P, v, rfl, h2, h3, h4⟩ := h.tab
  exact nonext_out h2 (by rw [h4.plen]; exact hs)
theorem sps_next {w : World} {p : Option Addr} {us S : List (List UInt8)} {C : List (Nat × Nat)} (h : IsSparse w p us S C) (i : Nat) {s : List UInt8} (hs : S[i]? = some s) (c : UInt8) : Calls Tryz.prog 53 #[.pointer p, .int .i64 (i : Int), .int .u8 (c.toNat : Int)] w fun e w' =>
    ((s ++ [c] ∈ S → ∃ n : Nat, e = .returned (.tuple #[.int .i64 (n : Int), .bool true]) ∧ S[n]? = some (s ++ [c])) ∧ (s ++ [c] ∉ S → e = .returned (.tuple #[.int .i64 0, .bool false]))) ∧ w' = w := by
  have hst := h.st
  have hr := h.root
  have hil := (List.getElem?_eq_some_iff.1 hs).1
  obtain ⟨base, b, pb, k, q, y, F, P, v, rfl, h2, h3, h4⟩ := h.tab
  by_cases hm : s ++ [c] ∈ S
  · obtain ⟨p, x, hp, hx, hxs⟩ := h4.hit hst hs hm
    have h0 : 0 < x := by
      rcases Nat.eq_zero_or_pos x with e | e
      · subst e; rw [hr] at hxs; simp at hxs
      · exact e
    refine (spnext_hit h2 i p x hp c hx h0).mono ?_
    rintro e w' ⟨rfl, rfl⟩
    exact ⟨⟨fun _ => ⟨x, rfl, hxs⟩, fun hn => absurd hm hn⟩, rfl⟩
  · obtain ⟨p, hp⟩ : ∃ p, P[i]? = some p := ⟨_, List.getElem?_eq_getElem (by rw [h4.plen]; exact hil)⟩
    refine (spnext_miss h2 i p hp c fun o x hx => h4.miss hst hs hm hp hx).mono ?_
    rintro e w' ⟨rfl, rfl⟩
    exact ⟨⟨fun hn => absurd hn hm, fun _ => rfl⟩, rfl⟩

set_option maxRecDepth 100000 in
set_option maxHeartbeats 2000000 in
theorem sps_stepn {w : World} {p : Option Addr} {us S : List (List UInt8)} {C : List (Nat × Nat)} (h : IsSparse w p us S C) (i : Nat) {s : List UInt8} (hs : S[i]? = some s) (c : UInt8) :
    Calls Tryz.prog 28 #[.pointer p, .int .i64 (i : Int), .int .u8 (c.toNat : Int)] w fun e w' => ∃ n : Nat, e = .returned (.int .i64 (n : Int)) ∧ S[n]? = some (lgL S (s ++ [c])) ∧ Below w.heap.size w w' := by
  have HH := Lib.hid h
  have hSl := h.cells.2.2.2
  obtain ⟨base, b, pb, k, q, y, F, P, v, rfl, h2, h3, h4⟩ := h.tab
  have HL := Lib.hid h3
  have HSP := Lib.hid h2
  have hs0 := Lib.hid hs
  clear h h2 h3 h4 hs
  go_enter Tryz.func28, Tryz.ntmps28
  go_wp2_with fail
  go_loopw [1, 7, 8] (fun x _ _ wr => ∃ (j : Nat) (t : List UInt8), x = .int .i64 j ∧ Hid (S[j]? = some t) ∧ Hid (lgL S (s ++ [c]) = lgL S (t ++ [c])) ∧ Below w.heap.size w wr) (fun x _ _ _ => (RowKit.intOf x).toNat)
  case atStart => exact ⟨i, s, rfl, hs0, Lib.hid rfl, Below.refl _ _⟩
  case round =>
    clear hs0
    obtain ⟨j, t, rfl, ht, hg, hbe⟩ := hrel
    have hsz := hbe.size
    have hjl := (List.getElem?_eq_some_iff.1 ht.out).1
    have HN := Lib.hid (sps_next (HH.out.below hbe) j ht.out c)
    by_cases hm : t ++ [c] ∈ S
    · go_wp2_with fail
      refine HN.out.mono ?_
      rintro e w2 ⟨⟨h1, _⟩, hw2⟩
      obtain rfl := hw2.symm
      obtain ⟨n, rfl, hn⟩ := h1 hm
      have HE := Lib.hid (show S[n]? = some (lgL S (s ++ [c])) by rw [hg.out, lg_hit hm]; exact hn)
      have d2 := Lib.hid hbe
      clear h1 hw2 HN hn hm hbe hg ht
      go_wp2
      go_ret
      exact ⟨n, rfl, HE.out, d2.out⟩
    · by_cases h0 : j = 0
      · have e0 := (HL.out.zero ht.out).1 h0
        subst h0
        have HE := Lib.hid (show S[0]? = some (lgL S (s ++ [c])) by
          rw [hg.out, lg_miss hm, e0]; exact HL.out.root)
        go_wp2_with fail
        refine HN.out.mono ?_
        rintro e w2 ⟨⟨_, h1⟩, hw2⟩
        obtain rfl := hw2.symm
        obtain rfl := h1 hm
        have d2 := Lib.hid hbe
        clear h1 hw2 HN hm hbe hg ht e0
        go_wp2
        go_ret
        exact ⟨0, rfl, HE.out, d2.out⟩
      · have e0 : t ≠ [] := fun e => h0 ((HL.out.zero ht.out).2 e)
        have g1 : ¬ (j : Int) ≤ 0 := by omega
        have g2 : decide ((j : Int) ≤ 0) = false := decide_eq_false g1
        have g3 : ¬ (S.length : Int) ≤ (j : Int) := by omega
        have g4 : decide ((S.length : Int) ≤ (j : Int)) = false := decide_eq_false g3
        obtain ⟨a, a', hF, ha, _⟩ := HL.out.ok.at_ j t hjl ht.out
        have hlt := HL.out.less ha ht.out (fb_less e0)
        have HFl := Lib.hid (lkfail_any (HL.out.below hbe).has (j : Int))
        rw [flOf_in hF] at HFl
        have HLen := Lib.hid (sps_len (HH.out.below hbe))
        have c0 := (HSP.out.below hbe).reads.1
        have HE := Lib.hid (show lgL S (s ++ [c]) = lgL S (fbL S t ++ [c]) by
          rw [hg.out]; exact lg_step HL.out.tr.st c e0 hm)
        have ha2 := Lib.hid ha
        go_wp2_with fail
        refine HN.out.mono ?_
        rintro e w2 ⟨⟨_, h1⟩, hw2⟩
        obtain rfl := hw2.symm
        obtain rfl := h1 hm
        clear h1 hw2 HN hm hg ht e0 ha hF
        go_wp2_with fail
        refine HLen.out.mono ?_
        rintro e w2 ⟨rfl, hw2⟩
        obtain rfl := hw2.symm
        clear hw2 HLen
        go_wp2_with fail
        refine HFl.out.mono ?_
        rintro e w3 ⟨rfl, hb3⟩
        have d3 := Lib.hid (hbe.trans (hb3.mono hsz))
        clear hb3 HFl hbe hsz c0
        go_wp2
        exact ⟨⟨a, _, rfl, ha2, HE, d3.out⟩, by simp [RowKit.intOf]; omega⟩
/-- .. by the number of the state. -/
theorem sps_step {w : World} {p : Option Addr} {us S : List (List UInt8)} {C : List (Nat × Nat)} (h : IsSparse w p us S C) (i : Nat) {s : List UInt8} (hs : S[i]? = some s) (c : UInt8) :
    Calls Tryz.prog 28 #[.pointer p, .int .i64 (i : Int), .int .u8 (c.toNat : Int)] w fun e w' => e = .returned (.int .i64 (dnS S s c : Int)) ∧ Below w.heap.size w w' := by
  have hn := h.nodup
  refine (sps_stepn h i hs c).mono ?_
  rintro e w' ⟨n, rfl, h1, h2⟩
  rw [dn_is hn h1]
  exact ⟨rfl, h2⟩
end Go.Proofs.YtlbgigkkjlfklaaGreat

namespace Go.Proofs.YtlbgigkkjlfklaaGreat
open Go.RowKit

/-- An automaton of a set (whose block is y) behind a pointer, by a kind of table: its states. -/
structure IsAuto (w : World) (p y : Option Addr) (us S : List (List UInt8)) (kind : Int) : Prop where
  tab : ∃ b k q d z F, p = some ⟨b, 0, none⟩ ∧ w.heap[b]? = some (.cells #[.int .i64 kind, .pointer k, .pointer d, .pointer z] 49 (0, 0)) ∧ IsLink w k q y us S S.length F ∧
    (kind = 1 → ∃ t g pc L, d = some ⟨t, 0, none⟩ ∧ IsDense w t g pc us S L) ∧ (kind = 2 → ∃ C, IsSparse w z us S C)
  one : kind = 1 ∨ kind = 2 ∨ kind = 3
theorem IsAuto.below {w w' : World} {p y : Option Addr} {us S : List (List UInt8)} {kind : Int} (h : IsAuto w p y us S kind) (hb : Below w.heap.size w w') : IsAuto w' p y us S kind := by
  obtain ⟨⟨b, k, q, d, z, F, h1, h2, h3, h4, h5⟩, h6⟩ := h
  refine ⟨⟨b, k, q, d, z, F, h1, (hb.block b (heap_lt h2)).trans h2, h3.below hb, fun e => ?_, fun e => ?_⟩, h6⟩
  · obtain ⟨t, g, pc, L, e1, e2⟩ := h4 e
    exact ⟨t, g, pc, L, e1, e2.below hb⟩
  · obtain ⟨C, e1⟩ := h5 e
    exact ⟨C, e1.below hb⟩
theorem IsAuto.other {T : TypeId} {w w' : World} {p y : Option Addr} {us S : List (List UInt8)} {kind : Int} (h : IsAuto w p y us S kind) (ho : Other T w w') (hA : 49 ≠ T) (hT : OthT T) (hD : OthD T) (hS : OthS T) : IsAuto w' p y us S kind := by
  obtain ⟨⟨b, k, q, d, z, F, h1, h2, h3, h4, h5⟩, h6⟩ := h
  refine ⟨⟨b, k, q, d, z, F, h1, ho _ _ _ _ hA h2, h3.other ho hT, fun e => ?_, fun e => ?_⟩, h6⟩
  · obtain ⟨t, g, pc, L, e1, e2⟩ := h4 e
    exact ⟨t, g, pc, L, e1, e2.other ho hD⟩
  · obtain ⟨C, e1⟩ := h5 e
    exact ⟨C, e1.other ho hS hT⟩
theorem IsAuto.st {w : World} {p y : Option Addr} {us S : List (List UInt8)} {kind : Int} (h : IsAuto w p y us S kind) : IsSt us S := by
  obtain ⟨⟨b, k, q, d, z, F, h1, h2, h3, h4⟩, h6⟩ := h
  exact h3.tr.st
theorem IsAuto.root {w : World} {p y : Option Addr} {us S : List (List UInt8)} {kind : Int} (h : IsAuto w p y us S kind) : S[0]? = some [] := by
  obtain ⟨⟨b, k, q, d, z, F, h1, h2, h3, h4⟩, h6⟩ := h
  exact h3.root
theorem IsAuto.few {w : World} {p y : Option Addr} {us S : List (List UInt8)} {kind : Int} (h : IsAuto w p y us S kind) : S.length ≤ 16777217 := by
  obtain ⟨⟨b, k, q, d, z, F, h1, h2, h3, h4⟩, h6⟩ := h
  exact h3.tr.few.2.2
theorem IsAuto.pats {w : World} {p y : Option Addr} {us S : List (List UInt8)} {kind : Int} (h : IsAuto w p y us S kind) : IsPats w y us := by
  obtain ⟨⟨b, k, q, d, z, F, h1, h2, h3, h4⟩, h6⟩ := h
  obtain ⟨R, _, _, _, h⟩ := h3.tr
  exact h
theorem IsAuto.nodup {w : World} {p y : Option Addr} {us S : List (List UInt8)} {kind : Int} (h : IsAuto w p y us S kind) : S.Nodup := slx_nodup h.st.1
theorem IsAuto.mem {w : World} {p y : Option Addr} {us S : List (List UInt8)} {kind : Int} (h : IsAuto w p y us S kind) : [] ∈ S := st_root h.st

/-- What each table tells of any number. -/
theorem ds_stepz {w : World} {b g : Nat} {pc : Option Addr} {us S : List (List UInt8)} {L : List Nat} (h : IsDense w b g pc us S L) (s : Int) (c : UInt8) :
    Calls Tryz.prog 27 #[.pointer (some ⟨b, 0, none⟩), .int .i64 s, .int .u8 (c.toNat : Int)] w fun e w' => e = .returned (.int .i64 (auN S s c : Int)) ∧ Below w.heap.size w w' := by
  rcases au_in_out S s with ⟨i, rfl, t, ht⟩ | hs
  · rw [auN_in ht]
    refine (ds_step h i ht c).mono ?_
    rintro e w' ⟨rfl, rfl⟩
    exact ⟨rfl, Below.refl _ _⟩
  · rw [auN_out hs]
    refine (dnstep_none (ds_norow h hs) c).mono ?_
    rintro e w' ⟨rfl, rfl⟩
    exact ⟨rfl, Below.refl _ _⟩
theorem sps_stepz {w : World} {p : Option Addr} {us S : List (List UInt8)} {C : List (Nat × Nat)} (h : IsSparse w p us S C) (s : Int) (c : UInt8) :
    Calls Tryz.prog 28 #[.pointer p, .int .i64 s, .int .u8 (c.toNat : Int)] w fun e w' => e = .returned (.int .i64 (auN S s c : Int)) ∧ Below w.heap.size w w' := by
  rcases au_in_out S s with ⟨i, rfl, t, ht⟩ | hs
  · rw [auN_in ht]
    exact sps_step h i ht c
  · rw [auN_out hs]
    refine (spstep_none (sps_nonext h hs) c).mono ?_
    rintro e w' ⟨rfl, rfl⟩
    exact ⟨rfl, Below.refl _ _⟩
theorem lks_stepz {w : World} {k q p : Option Addr} {us S : List (List UInt8)} {F : List (Nat × Nat)} (h : IsLink w k q p us S S.length F) (s : Int) (c : UInt8) :
    Calls Tryz.prog 29 #[.pointer k, .int .i64 s, .int .u8 (c.toNat : Int)] w fun e w' => e = .returned (.int .i64 (auN S s c : Int)) ∧ Below w.heap.size w w' := by
  rcases au_in_out S s with ⟨i, rfl, t, ht⟩ | hs
  · rw [auN_in ht]
    refine (lkstep_in h i ht (List.getElem?_eq_some_iff.1 ht).1 c).mono ?_
    rintro e w' ⟨n, rfl, h1, h2⟩
    rw [dn_is (slx_nodup h.tr.st.1) h1]
    exact ⟨rfl, h2⟩
  · rw [auN_out hs]
    refine (lkstep_out h.has s (by rw [h.flen]; exact hs) c).mono ?_
    rintro e w' ⟨rfl, rfl⟩
    exact ⟨rfl, Below.refl _ _⟩
theorem ts_depthz {w : World} {q p : Option Addr} {us S : List (List UInt8)} (h : IsTrie w q p us S) (s : Int) :
    Calls Tryz.prog 25 #[.pointer q, .int .i64 s] w fun e w' => e = .returned (.int .i64 (auD S s : Int)) ∧ Below w.heap.size w w' := by
  rcases au_in_out S s with ⟨i, rfl, t, ht⟩ | hs
  · rw [auD_in ht]
    exact ts_depth h i ht
  · rw [auD_out hs]
    obtain ⟨R, h1, h2, _⟩ := h
    have := trdepth_any h1 s
    rw [rcOf_out (by rw [h2.1]; exact hs)] at this
    exact this
theorem aukind_any {w : World} {p y : Option Addr} {us S : List (List UInt8)} {kind : Int} (h : IsAuto w p y us S kind) : Calls Tryz.prog 12 #[.pointer p] w fun e w' => e = .returned (.int .i64 kind) ∧ w' = w := by
  obtain ⟨⟨b, k, q, d, z, F, rfl, h2, h3, h4⟩, h6⟩ := h
  have c0 : w.cell? ⟨b, 0, none⟩ = some (.int .i64 kind) := by rw [Lib.cell_of_heap h2]; rfl
  clear h2 h3 h4 h6
  go_enter Tryz.func12, Tryz.ntmps12
  go_wp2
  go_ret
  exact ⟨rfl, rfl⟩
theorem aukind_nil (w : World) : Calls Tryz.prog 12 #[.pointer none] w fun e w' => e = .returned (.int .i64 0) ∧ w' = w := by
  go_enter Tryz.func12, Tryz.ntmps12
  go_wp2
  go_ret
  exact ⟨rfl, rfl⟩
theorem aufalls_any {w : World} {p y : Option Addr} {us S : List (List UInt8)} {kind : Int} (h : IsAuto w p y us S kind) : ∃ k q F, IsLink w k q y us S S.length F ∧ Calls Tryz.prog 22 #[.pointer p] w fun e w' => e = .returned (.pointer k) ∧ w' = w := by
  obtain ⟨⟨b, k, q, d, z, F, rfl, h2, h3, h4⟩, h6⟩ := h
  refine ⟨k, q, F, h3, ?_⟩
  have c0 : w.cell? ⟨b, 1, none⟩ = some (.pointer k) := by rw [Lib.cell_of_heap h2]; rfl
  clear h2 h3 h4 h6
  go_enter Tryz.func22, Tryz.ntmps22
  go_wp2
  go_ret
  exact ⟨rfl, rfl⟩
theorem aufalls_nil (w : World) : Calls Tryz.prog 22 #[.pointer none] w fun e w' => e = .returned (.pointer none) ∧ w' = w := by
  go_enter Tryz.func22, Tryz.ntmps22
  go_wp2
  go_ret
  exact ⟨rfl, rfl⟩

theorem aulen_any {w : World} {p y : Option Addr} {us S : List (List UInt8)} {kind : Int} (h : IsAuto w p y us S kind) : Calls Tryz.prog 13 #[.pointer p] w fun e w' => e = .returned (.int .i64 (S.length : Int)) ∧ w' = w := by
  obtain ⟨k, q, F, h1, h2⟩ := aufalls_any h
  have HF := Lib.hid h2
  have HT := Lib.hid (lktrie_any h1.has)
  have HL := Lib.hid (ts_len h1.tr)
  clear h h1 h2
  go_enter Tryz.func13, Tryz.ntmps13
  go_wp2_with fail
  refine HF.out.mono ?_
  rintro e w' ⟨rfl, rfl⟩
  go_wp2_with fail
  refine HT.out.mono ?_
  rintro e w' ⟨rfl, rfl⟩
  go_wp2_with fail
  refine HL.out.mono ?_
  rintro e w' ⟨rfl, rfl⟩
  go_wp2
  go_ret
  exact ⟨rfl, rfl⟩
theorem aulen_nil (w : World) : Calls Tryz.prog 13 #[.pointer none] w fun e w' => e = .returned (.int .i64 0) ∧ w' = w := by
  have HF := Lib.hid (aufalls_nil w)
  have HT := Lib.hid (lktrie_any (HasLk.nil w))
  have HL := Lib.hid (trlen_any (w := w) (q := none) (p := none) (R := []) (.inl ⟨rfl, rfl⟩))
  go_enter Tryz.func13, Tryz.ntmps13
  go_wp2_with fail
  refine HF.out.mono ?_
  rintro e w' ⟨rfl, rfl⟩
  go_wp2_with fail
  refine HT.out.mono ?_
  rintro e w' ⟨rfl, rfl⟩
  go_wp2_with fail
  refine HL.out.mono ?_
  rintro e w' ⟨rfl, rfl⟩
  go_wp2
  go_ret
  exact ⟨rfl, rfl⟩
theorem audepth_any {w : World} {p y : Option Addr} {us S : List (List UInt8)} {kind : Int} (h : IsAuto w p y us S kind) (s : Int) : Calls Tryz.prog 11 #[.pointer p, .int .i64 s] w fun e w' => e = .returned (.int .i64 (auD S s : Int)) ∧ Below w.heap.size w w' := by
  obtain ⟨k, q, F, h1, h2⟩ := aufalls_any h
  have HF := Lib.hid h2
  have HT := Lib.hid (lktrie_any h1.has)
  have HL := Lib.hid (ts_depthz h1.tr s)
  clear h h1 h2
  go_enter Tryz.func11, Tryz.ntmps11
  go_wp2_with fail
  refine HF.out.mono ?_
  rintro e w' ⟨rfl, rfl⟩
  go_wp2_with fail
  refine HT.out.mono ?_
  rintro e w' ⟨rfl, rfl⟩
  go_wp2_with fail
  refine HL.out.mono ?_
  rintro e w' ⟨rfl, hb⟩
  go_wp2
  go_ret
  exact ⟨rfl, hb⟩
theorem audepth_nil (s : Int) (w : World) : Calls Tryz.prog 11 #[.pointer none, .int .i64 s] w fun e w' => e = .returned (.int .i64 0) ∧ Below w.heap.size w w' := by
  have HF := Lib.hid (aufalls_nil w)
  have HT := Lib.hid (lktrie_any (HasLk.nil w))
  have hL := trdepth_any (w := w) (q := none) (p := none) (R := []) (.inl ⟨rfl, rfl⟩) s
  rw [rcOf_out (by simp; omega)] at hL
  have HL := Lib.hid hL
  clear hL
  go_enter Tryz.func11, Tryz.ntmps11
  go_wp2_with fail
  refine HF.out.mono ?_
  rintro e w' ⟨rfl, rfl⟩
  go_wp2_with fail
  refine HT.out.mono ?_
  rintro e w' ⟨rfl, rfl⟩
  go_wp2_with fail
  refine HL.out.mono ?_
  rintro e w' ⟨rfl, hb⟩
  go_wp2
  go_ret
  exact ⟨rfl, hb⟩
set_option maxHeartbeats 1000000 in
theorem austep_any {w : World} {p y : Option Addr} {us S : List (List UInt8)} {kind : Int} (h : IsAuto w p y us S kind) (s : Int) (c : UInt8) : Calls Tryz.prog 14 #[.pointer p, .int .i64 s, .int .u8 (c.toNat : Int)] w fun e w' => e = .returned (.int .i64 (auN S s c : Int)) ∧ Below w.heap.size w w' := by
  have HK := Lib.hid (aukind_any h)
  obtain ⟨⟨b, k, q, d, z, F, rfl, h2, h3, h4, h5⟩, h6⟩ := h
  have c1 : w.cell? ⟨b, 1, none⟩ = some (.pointer k) := by rw [Lib.cell_of_heap h2]; rfl
  have c2 : w.cell? ⟨b, 2, none⟩ = some (.pointer d) := by rw [Lib.cell_of_heap h2]; rfl
  have c3 : w.cell? ⟨b, 3, none⟩ = some (.pointer z) := by rw [Lib.cell_of_heap h2]; rfl
  have HL := Lib.hid (lks_stepz h3 s c)
  clear h2 h3
  rcases h6 with rfl | rfl | rfl
  · obtain ⟨t, g, pc, L, rfl, hd⟩ := h4 rfl
    have HD := Lib.hid (ds_stepz hd s c)
    clear h4 h5 hd HL
    go_enter Tryz.func14, Tryz.ntmps14
    go_wp2_with fail
    refine HK.out.mono ?_
    rintro e w' ⟨rfl, rfl⟩
    go_wp2_with fail
    refine HD.out.mono ?_
    rintro e w' ⟨rfl, hb⟩
    go_wp2
    go_ret
    exact ⟨rfl, hb⟩
  · obtain ⟨C, hd⟩ := h5 rfl
    have HD := Lib.hid (sps_stepz hd s c)
    clear h4 h5 hd HL
    go_enter Tryz.func14, Tryz.ntmps14
    go_wp2_with fail
    refine HK.out.mono ?_
    rintro e w' ⟨rfl, rfl⟩
    go_wp2_with fail
    refine HD.out.mono ?_
    rintro e w' ⟨rfl, hb⟩
    go_wp2
    go_ret
    exact ⟨rfl, hb⟩
  · clear h4 h5
    go_enter Tryz.func14, Tryz.ntmps14
    go_wp2_with fail
    refine HK.out.mono ?_
    rintro e w' ⟨rfl, rfl⟩
    go_wp2_with fail
    refine HL.out.mono ?_
    rintro e w' ⟨rfl, hb⟩
    go_wp2
    go_ret
    exact ⟨rfl, hb⟩
theorem austep_nil (s : Int) (c : UInt8) (w : World) : Calls Tryz.prog 14 #[.pointer none, .int .i64 s, .int .u8 (c.toNat : Int)] w fun e w' => e = .returned (.int .i64 0) ∧ w' = w := by
  have HK := Lib.hid (aukind_nil w)
  go_enter Tryz.func14, Tryz.ntmps14
  go_wp2_with fail
  refine HK.out.mono ?_
  rintro e w' ⟨rfl, rfl⟩
  go_wp2
  go_ret
  exact ⟨rfl, rfl⟩
theorem aucells_nil (w : World) : Calls Tryz.prog 15 #[.pointer none] w fun e w' => e = .returned (.int .i64 0) ∧ w' = w := by
  have HK := Lib.hid (aukind_nil w)
  have HL := Lib.hid (aulen_nil w)
  go_enter Tryz.func15, Tryz.ntmps15
  go_wp2_with fail
  refine HK.out.mono ?_
  rintro e w' ⟨rfl, rfl⟩
  go_wp2_with fail
  refine HL.out.mono ?_
  rintro e w' ⟨rfl, rfl⟩
  go_wp2
  go_ret
  exact ⟨rfl, rfl⟩

set_option maxHeartbeats 1000000 in
theorem aurun_any {w : World} {p y : Option Addr} {us S : List (List UInt8)} {kind : Int} (h : IsAuto w p y us S kind) (s : Int) (t : List UInt8) (ht : t.length ≤ 4611686018427387904) : Calls Tryz.prog 8 #[.pointer p, .int .i64 s, .string ⟨t.toArray⟩] w fun e w' => e = .returned (.int .i64 (auR S s t)) ∧ Below w.heap.size w w' := by
  have HZ := Lib.hid (bsize t)
  have HH := Lib.hid h
  clear h
  go_enter Tryz.func8, Tryz.ntmps8
  go_wp2
  go_loopw [1, 10] (fun x i wr => ∃ k : Nat, k ≤ t.length ∧ i = .int .i64 k ∧ x = .int .i64 (auR S s (t.take k)) ∧ Below w.heap.size w wr) (fun _ i _ => t.length - (RowKit.intOf i).toNat)
  case atStart => exact ⟨0, Nat.zero_le _, rfl, rfl, Below.refl _ _⟩
  case round =>
    obtain ⟨k, hk, rfl, rfl, hbe⟩ := hrel
    have hsz := hbe.size
    by_cases hlt : k < t.length
    · have hzb : k < (⟨t.toArray⟩ : ByteArray).size := by rw [bsize]; omega
      have hb := byteAt t k (by omega) hzb
      have HS := Lib.hid (austep_any (HH.out.below hbe) (auR S s (t.take k)) t[k])
      rw [← auR_take S s hlt] at HS
      obtain ⟨r1, hr1⟩ : ∃ r1, auR S s (t.take (k + 1)) = r1 := ⟨_, rfl⟩
      rw [hr1] at HS
      have HR1 := Lib.hid hr1
      clear hr1
      generalize auR S s (t.take k) = r at *
      generalize t[k] = x at *
      have g0 : (0 : Int) ≤ (k : Int) := by omega
      have g1 : (k : Int) < (t.length : Int) := by omega
      go_wp2_with fail
      refine HS.out.mono ?_
      rintro e w5 ⟨rfl, hb5⟩
      have d5 := hbe.trans (hb5.mono hsz)
      clear hb5 HS hbe
      go_wp2
      exact ⟨⟨k + 1, by omega, by go_num, by rw [HR1.out], d5⟩, by simp [RowKit.intOf]; omega⟩
    · obtain rfl : k = t.length := by omega
      have hz : ¬ (t.length : Int) < (t.length : Int) := by omega
      rw [List.take_length]
      go_wp2
      go_ret
      exact ⟨rfl, hbe⟩
theorem aurun_none (p : Option Addr) (s : Int) (w : World) : Calls Tryz.prog 8 #[.pointer p, .int .i64 s, .string ⟨#[]⟩] w fun e w' => e = .returned (.int .i64 s) ∧ w' = w := by
  go_enter Tryz.func8, Tryz.ntmps8
  go_wp2
  go_loopw [1, 10] (fun x i wr => i = .int .i64 0 ∧ x = .int .i64 s ∧ wr = w) (fun _ i _ => 0)
  case atStart => exact ⟨rfl, rfl, rfl⟩
  case round =>
    obtain ⟨rfl, rfl, rfl⟩ := hrel
    go_wp2
    go_ret
    exact ⟨rfl, rfl⟩
end Go.Proofs.YtlbgigkkjlfklaaGreat

namespace Go.Proofs.YtlbgigkkjlfklaaGreat
open Go.RowKit

set_option maxHeartbeats 1000000 in
theorem lkout_any {w : World} {k q : Option Addr} {F : List (Nat × Nat)} (h : HasLk w k q F) (s : Int) : Calls Tryz.prog 47 #[.pointer k, .int .i64 s] w fun e w' => e = .returned (.tuple #[.int .i64 ((flOf F s).2 : Int), .bool (decide (0 < (flOf F s).2))]) ∧ Below w.heap.size w w' := by
  have HO := Lib.hid (lkof_any h s)
  have hf := flOf_fit h s
  generalize flOf F s = r at *
  obtain ⟨_, h1⟩ := hf
  have FD := flfield1 (.int .i32 (r.1 : Int)) (.int .i32 (r.2 : Int))
  have hw : IntKind.i64.wrap (r.2 : Int) = (r.2 : Int) := by rw [IntKind.wrap_i64]; omega
  clear h
  go_enter Tryz.func47, Tryz.ntmps47
  go_wp2_with fail
  refine HO.out.mono ?_
  rintro e w' ⟨rfl, hb⟩
  unfold flV
  go_wp2
  go_ret2
  exact ⟨rfl, hb⟩
end Go.Proofs.YtlbgigkkjlfklaaGreat

namespace Go.Proofs.YtlbgigkkjlfklaaGreat
open Go.RowKit

/-- slices.Sort at a slice of the call's own. -/
theorem sorti_own {base : Nat} (v : Value) (zs : List Int) (w : World) (hl : zs.length ≤ 1000000000) (hown : w.ownsRow base 3 1 v zs.length (inCells zs)) :
    Calls Tryz.prog 49 #[v] w fun e w' => e = .returned (.tuple #[]) ∧ w'.ownsRow base 3 1 v zs.length (inCells (zs.mergeSort fun x y => decide (x ≤ y))) ∧ w.grownBy w' v.ownBlock := by
  rcases hown.2 with ⟨rfl, h0⟩ | ⟨g, cap, cur, rfl, hbase, hb, h1, h2, h3, h4⟩
  · obtain rfl : zs = [] := List.eq_nil_of_length_eq_zero h0
    refine (Tryz.slices_Sort_int_none none 0 w).mono ?_
    rintro e w' ⟨rfl, rfl⟩
    exact ⟨rfl, by rw [List.mergeSort_nil]; exact hown, ⟨rfl, rfl, rfl, Nat.le_refl _, fun _ _ _ => rfl⟩⟩
  · have hlt : g < w.heap.size := (Array.getElem?_eq_some_iff.1 hb).1
    refine (Tryz.slices_Sort_int g 0 cap zs w (holds_of_block_i hb (by rw [Nat.mul_one] at h4; exact h4)) hlt (by omega)).mono ?_
    rintro e w' ⟨rfl, n, os, rfl⟩
    exact ⟨rfl, ownsRow_sorted_i (List.length_mergeSort _) hbase hb h1 h2 h3, grownBy_sorted_i _⟩

theorem pats_some {w : World} {p : Option Addr} {us : List (List UInt8)} (h : IsPats w p us) : [] ∉ us := by
  rcases h with ⟨_, rfl⟩ | ⟨b, _, _, h⟩
  · simp
  · intro hm
    have := (h.each _ hm).1
    simp at this
theorem tl_few (U : List (List UInt8)) : ∀ q : List UInt8, (tlL U q).length ≤ q.length
  | [] => Nat.le_refl _
  | c :: q => by
    have := tl_few U q
    unfold tlL
    split <;> simp only [List.length_cons] <;> omega
theorem nu_length (us l : List (List UInt8)) : (nuL us l).length = l.length := List.length_map _
theorem nu_snoc (us l : List (List UInt8)) (t : List UInt8) : nuL us (l ++ [t]) = nuL us l ++ [(frL us t : Int)] := by simp [nuL]

set_option maxHeartbeats 2000000 in
theorem lkhits_out {w : World} {k q p : Option Addr} {F : List (Nat × Nat)} {R : List Rc} (h : HasLk w k q F) (ht : HasTr w q p R) (he : R.length = F.length) (s : Int) (hs : s < 0 ∨ (F.length : Int) ≤ s) :
    Calls Tryz.prog 23 #[.pointer k, .int .i64 s] w fun e w' => e = .returned (.slice none 0 0) ∧ Below w.heap.size w w' := by
  have HT := Lib.hid (lktrie_any h)
  have HE := Lib.hid (trends_out ht s (by rw [he]; exact hs))
  have HO := Lib.hid (lkout_any h s)
  rw [flOf_out hs] at HO
  have HS := Lib.hid (fun W => Tryz.slices_Sort_int_none none 0 W)
  clear h ht he hs
  go_enter Tryz.func23, Tryz.ntmps23
  go_wp2
  go_loopg [1, 5, 6] 1 (fun g x y z wr => (g = 1 ∧ x = .int .i64 s ∧ y = .slice none 0 0 ∧ z = .bool true ∧ wr = w) ∨ (g = 0 ∧ y = .slice none 0 0 ∧ z = .bool false ∧ Below w.heap.size w wr))
  case atStart => exact .inl ⟨rfl, rfl, rfl, rfl, rfl⟩
  case round =>
    rcases hrel with ⟨rfl, rfl, rfl, rfl, rfl⟩ | ⟨rfl, rfl, rfl, hb⟩
    · go_wp2_with fail
      refine HT.out.mono ?_
      rintro e w' ⟨rfl, hw'⟩
      obtain rfl := hw'.symm
      clear hw' HT
      go_wp2_with fail
      refine HE.out.mono ?_
      rintro e w' ⟨rfl, hw'⟩
      obtain rfl := hw'.symm
      clear hw' HE
      go_wp2_with fail
      refine HO.out.mono ?_
      rintro e w' ⟨rfl, hb⟩
      clear HO
      go_wp2
      go_roundg 0
      case measure => omega
      case rel => exact .inr ⟨rfl, rfl, rfl, hb⟩
    · clear HT HE HO
      go_wp2_with fail
      refine (HS.out _).mono ?_
      rintro e w' ⟨rfl, rfl⟩
      go_wp2
      go_ret
      exact ⟨rfl, hb⟩

/-- What stands while a state's hits are gone through. -/
def HitSt (us S : List (List UInt8)) (s : List UInt8) (w0 : World) (g : Nat) (x y z : Value) (w : World) : Prop :=
  ∃ D : List (List UInt8), w.ownsRow w0.heap.size 3 1 y (nuL us D).length (inCells (nuL us D)) ∧ Below w0.heap.size w0 w ∧
    ((∃ (j : Nat) (t : List UInt8), x = .int .i64 (j : Int) ∧ z = .bool true ∧ S[j]? = some t ∧ tlL us s = D ++ tlL us t ∧ g = t.length + 1) ∨ (∃ j : Nat, x = .int .i64 (j : Int) ∧ z = .bool false ∧ tlL us s = D ∧ g = 0))

set_option maxRecDepth 100000 in
set_option maxHeartbeats 4000000 in
theorem lkhits_in {w : World} {k q p : Option Addr} {us S : List (List UInt8)} {F : List (Nat × Nat)} (h : IsLink w k q p us S S.length F) (hp : IsPats w p us) (hn : us.Nodup) (i : Nat) {s : List UInt8} (hs : S[i]? = some s) :
    Calls Tryz.prog 23 #[.pointer k, .int .i64 (i : Int)] w (RetN (hsL us s) w) := by
  obtain ⟨i0, hi, hz0, hz1, hz2⟩ := info_parts int_info
  obtain ⟨hep, hlp, htp⟩ := pats_each hp
  have hsl : s.length ≤ 65535 := by
    rcases (h.tr.st.2 s).1 (List.mem_of_getElem? hs) with rfl | hb
    · simp
    · obtain ⟨t, ht, hpr⟩ := beg_iff.1 hb
      have := hep t ht
      have := hpr.length_le
      omega
  have hne := pats_some hp
  have HSort := Lib.hid (nu_sorts (fun t ht e => by subst e; exact hne ht) hn (fun t ht => ends_at h.asc ht) s)
  have HH := Lib.hid h
  have HS := Lib.hid hs
  have HNE := Lib.hid hne
  have hfew := tl_few us s
  clear h hp hn hs hep hlp htp hne
  go_enter Tryz.func23, Tryz.ntmps23
  go_wp2
  go_loopg [1, 5, 6] (s.length + 1) (fun g x y z wr => Hid (HitSt us S s w g x y z wr))
  case atStart => exact Lib.hid ⟨[], World.ownsRow_nil _ _ _ _, Below.refl _ _, .inl ⟨i, s, rfl, rfl, HS.out, rfl, rfl⟩⟩
  case round =>
    obtain ⟨D, hown, hbe, ⟨j, t, rfl, rfl, hj, htl, rfl⟩ | ⟨j, rfl, rfl, htl, rfl⟩⟩ := hrel.out
    · clear hrel
      have hI := HH.out.below hbe
      have hsz := hbe.size
      obtain ⟨a1, b1, hF, _, hb⟩ := HH.out.ok.at_ j t (List.getElem?_eq_some_iff.1 hj).1 hj
      have HT := Lib.hid (lktrie_any hI.has)
      have HE := Lib.hid (ts_ends hI.tr hI.asc j hj)
      have HO := Lib.hid (fun W (hb : Below w.heap.size w W) => lkout_any (HH.out.below hb).has (j : Int))
      rw [flOf_in hF] at HO
      have hz := HH.out.zero hb
      have hat := tl_at HNE.out t
      obtain ⟨a2, cap2, rfl⟩ := owns_slice hown
      have hDl : (nuL us D).length ≤ 65535 := by
        rw [nu_length]
        have := congrArg List.length htl
        rw [List.length_append] at this
        omega
      have hless : t ≠ [] → (fbL us t).length < t.length := fb_less
      have HA := Lib.hid hat
      have HL := Lib.hid hless
      have HTL := Lib.hid htl
      have HB := Lib.hid hb
      have HZ := Lib.hid hz
      have HD := Lib.hid hbe
      clear hI hF hj hat hless htl hb hz hbe
      by_cases hu : t ∈ us
      · go_wp2_with fail
        refine HT.out.mono ?_
        rintro e w' ⟨rfl, hw'⟩
        obtain rfl := hw'.symm
        clear hw' HT
        go_wp2_with fail
        refine HE.out.mono ?_
        rintro e w2 ⟨⟨h1, _⟩, hb2⟩
        obtain rfl := h1 hu
        have hown2 := tx_below hown hb2
        have d2 := HD.out.trans (hb2.mono hsz)
        have s2 := d2.size
        have htl3 : tlL us s = (D ++ [t]) ++ tlL us (fbL us t) := by rw [HTL.out, HA.out, if_pos hu, List.append_assoc]
        clear h1 hb2 HE hown
        go_wp2_with (at_builtin; refine wpList_append_own _ rfl _ _ 34 rfl w.heap.size 3 i0 (.int .i64 0) 1 8 Tryz.underlying34 hi hz0 hz1 hz2 rfl (by decide) _ _ _ rfl (hown2.alloc _) ⟨w2.heap.size, 0, none⟩ 1 1 [.int .i64 (frL us t : Int)] rfl rfl (int_news (heap_alloc_new _ _)) int_one (by unfold maxLen; omega) (by omega) (by simp; omega) ?_)
        intro v3 w3 hown3 hgrow3 _
        have d3 : Below w.heap.size w w3 := own_below d2 hown2 (Nat.le_refl _) hgrow3
        rw [← inCells_snoc, ← nu_snoc, show (nuL us D).length + 1 = (nuL us (D ++ [t])).length by rw [nu_length, nu_length]; simp] at hown3
        clear hgrow3 hown2 d2 s2 hDl
        have HO3 := Lib.hid (HO.out w3 d3)
        have s3 := d3.size
        have HE3 := Lib.hid htl3
        have HW3 := Lib.hid hown3
        clear HO htl3 hown3
        go_wp2_with fail
        refine HO3.out.mono ?_
        rintro e w4 ⟨rfl, hb4⟩
        have d4 := d3.trans (hb4.mono s3)
        have hown4 := tx_below HW3.out hb4
        by_cases hb0 : b1 = 0
        · have ef := HZ.out.1 hb0
          have hE : Hid (HitSt us S s w 0 (.int .i64 (b1 : Int)) v3 (.bool false) w4) := Lib.hid ⟨_, hown4, d4, .inr ⟨b1, rfl, rfl, by rw [HE3.out, ef]; exact List.append_nil _, rfl⟩⟩
          have hdec : decide (0 < b1) = false := decide_eq_false (by omega)
          clear HZ HB hown4 d4 hb4 HE3 HW3 HO3 d3
          rw [hdec]
          clear hdec hb0
          go_wp2
          go_roundg 0
          case measure => omega
          case rel => exact hE
        · have ef : fbL us t ≠ [] := fun e => hb0 (HZ.out.2 e)
          have et : t ≠ [] := fun e => ef (by rw [e]; rfl)
          have hE : Hid (HitSt us S s w ((fbL us t).length + 1) (.int .i64 (b1 : Int)) v3 (.bool true) w4) := Lib.hid ⟨_, hown4, d4, .inl ⟨b1, _, rfl, rfl, HB.out, HE3.out, rfl⟩⟩
          have hlt := HL.out et
          have hdec : decide (0 < b1) = true := decide_eq_true (by omega)
          clear HZ HB hown4 d4 hb4 HE3 HW3 HO3 d3
          rw [hdec]
          clear hdec hb0
          go_wp2
          go_roundg ((fbL us t).length + 1)
          case measure => omega
          case rel => exact hE
      · go_wp2_with fail
        refine HT.out.mono ?_
        rintro e w' ⟨rfl, hw'⟩
        obtain rfl := hw'.symm
        clear hw' HT
        go_wp2_with fail
        refine HE.out.mono ?_
        rintro e w3 ⟨⟨_, h1⟩, hb2⟩
        obtain rfl := h1 hu
        have hown3 := tx_below hown hb2
        have d3 := HD.out.trans (hb2.mono hsz)
        have htl3 : tlL us s = D ++ tlL us (fbL us t) := by rw [HTL.out, HA.out, if_neg hu, List.nil_append]
        clear h1 hb2 HE hown hDl
        generalize hv3 : Value.slice a2 (nuL us D).length cap2 = v3 at hown3
        have HO3 := Lib.hid (HO.out w3 d3)
        have s3 := d3.size
        have HE3 := Lib.hid htl3
        have HW3 := Lib.hid hown3
        clear HO htl3 hown3
        go_wp2_with fail
        refine HO3.out.mono ?_
        rintro e w4 ⟨rfl, hb4⟩
        have d4 := d3.trans (hb4.mono s3)
        have hown4 := tx_below HW3.out hb4
        by_cases hb0 : b1 = 0
        · have ef := HZ.out.1 hb0
          have hE : Hid (HitSt us S s w 0 (.int .i64 (b1 : Int)) v3 (.bool false) w4) := Lib.hid ⟨_, hown4, d4, .inr ⟨b1, rfl, rfl, by rw [HE3.out, ef]; exact List.append_nil _, rfl⟩⟩
          have hdec : decide (0 < b1) = false := decide_eq_false (by omega)
          clear HZ HB hown4 d4 hb4 HE3 HW3 HO3 d3
          rw [hdec]
          clear hdec hb0
          go_wp2
          go_roundg 0
          case measure => omega
          case rel => exact hE
        · have ef : fbL us t ≠ [] := fun e => hb0 (HZ.out.2 e)
          have et : t ≠ [] := fun e => ef (by rw [e]; rfl)
          have hE : Hid (HitSt us S s w ((fbL us t).length + 1) (.int .i64 (b1 : Int)) v3 (.bool true) w4) := Lib.hid ⟨_, hown4, d4, .inl ⟨b1, _, rfl, rfl, HB.out, HE3.out, rfl⟩⟩
          have hlt := HL.out et
          have hdec : decide (0 < b1) = true := decide_eq_true (by omega)
          clear HZ HB hown4 d4 hb4 HE3 HW3 HO3 d3
          rw [hdec]
          clear hdec hb0
          go_wp2
          go_roundg ((fbL us t).length + 1)
          case measure => omega
          case rel => exact hE
    · clear hrel
      subst htl
      have HSo := Lib.hid (sorti_own u5 (nuL us (tlL us s)) wr (by rw [nu_length]; omega) hown)
      have HB := Lib.hid (fun (W : World) (hg : wr.grownBy W u5.ownBlock) => hbe.grown hg hbe.size (fun k hk => (hown.lt k hk).1))
      rw [HSort.out] at HSo
      have HLn := Lib.hid (show (nuL us (tlL us s)).length = (hsL us s).length by rw [← HSort.out, List.length_mergeSort])
      clear hown hbe
      go_wp2_with fail
      refine HSo.out.mono ?_
      rintro e w2 ⟨rfl, hown2, hg⟩
      have d2 := HB.out _ hg
      rw [HLn.out] at hown2
      clear hg HB HSo
      have HO := Lib.hid hown2
      clear hown2
      go_wp2
      go_ret
      exact ⟨_, rfl, HO.out, d2⟩
end Go.Proofs.YtlbgigkkjlfklaaGreat

namespace Go.Proofs.YtlbgigkkjlfklaaGreat
open Go.RowKit

theorem lks_hitsz {w : World} {k q p : Option Addr} {us S : List (List UInt8)} {F : List (Nat × Nat)} (h : IsLink w k q p us S S.length F) (s : Int) :
    Calls Tryz.prog 23 #[.pointer k, .int .i64 s] w (RetN (auH us S s) w) := by
  obtain ⟨R, h1, h2, _, hp⟩ := h.tr
  rcases au_in_out S s with ⟨i, rfl, t, ht⟩ | hs
  · rw [auH_in ht]
    exact lkhits_in h hp (pats_nodup hp) i ht
  · rw [auH_out hs]
    refine (lkhits_out h.has h1 (by rw [h2.1, h.flen]) s (by rw [h.flen]; exact hs)).mono ?_
    rintro e w' ⟨rfl, hb⟩
    exact ⟨_, rfl, World.ownsRow_nil _ _ _ _, hb⟩

theorem auhits_any {w : World} {p y : Option Addr} {us S : List (List UInt8)} {kind : Int} (h : IsAuto w p y us S kind) (s : Int) : Calls Tryz.prog 10 #[.pointer p, .int .i64 s] w (RetN (auH us S s) w) := by
  obtain ⟨k, q, F, h1, h2⟩ := aufalls_any h
  have HF := Lib.hid h2
  have HL := Lib.hid (lks_hitsz h1 s)
  clear h h1 h2
  go_enter Tryz.func10, Tryz.ntmps10
  go_wp2_with fail
  refine HF.out.mono ?_
  rintro e w' ⟨rfl, rfl⟩
  go_wp2_with fail
  refine HL.out.mono ?_
  rintro e w' ⟨v, rfl, ho, hb⟩
  obtain ⟨a, cap, rfl⟩ := owns_slice ho
  go_wp2
  go_ret
  exact ⟨_, rfl, ho, hb⟩
theorem auhits_nil (s : Int) (w : World) : Calls Tryz.prog 10 #[.pointer none, .int .i64 s] w fun e w' => e = .returned (.slice none 0 0) ∧ Below w.heap.size w w' := by
  have HF := Lib.hid (aufalls_nil w)
  have HL := Lib.hid (lkhits_out (HasLk.nil w) (p := none) (R := []) (.inl ⟨rfl, rfl⟩) rfl s (by simp; omega))
  go_enter Tryz.func10, Tryz.ntmps10
  go_wp2_with fail
  refine HF.out.mono ?_
  rintro e w' ⟨rfl, rfl⟩
  go_wp2_with fail
  refine HL.out.mono ?_
  rintro e w' ⟨rfl, hb⟩
  go_wp2
  go_ret
  exact ⟨rfl, hb⟩

end Go.Proofs.YtlbgigkkjlfklaaGreat

namespace Go.Proofs.YtlbgigkkjlfklaaGreat
open Go.RowKit

theorem dnnew_set {w : World} {p : Option Addr} {ws : List (List UInt8)} (h : IsPats w p (setL ws)) :
    Calls Tryz.prog 19 #[.pointer p] w fun e w' => ∃ b g pc S L, e = .returned (.pointer (some ⟨b, 0, none⟩)) ∧ IsDense w' b g pc (setL ws) S L ∧ Below w.heap.size w w' := dnnew_any h (set_asc ws) (pats_nodup h)
end Go.Proofs.YtlbgigkkjlfklaaGreat

namespace Go.Proofs.YtlbgigkkjlfklaaGreat
open Go.RowKit

variable {P : Program}

/-- Zero values are appended where there is room. -/
theorem run_append_room_zeros (w : World) (t tn ty e : TypeId) (i : TypeInfo) (z : Value) (kq kn : IntKind) (ht : P.underlying t = some (.slice e)) (htn : P.underlying tn = some (.int kn)) (hi : P.info? e = some i) (hz : i.zero = some z)
    (hzs : z.cells.size = i.size) (hsz : 0 < i.size) (h1 : ∀ u ∈ z.cells, u.oneCell' = true) (g sLen sCap : Nat) (cur : Array Value) (hg : w.heap[g]? = some (.cells cur e (0, 0))) (k : Nat) (h0 : 0 < k)
    (hroom : sLen + k ≤ sCap) (hfit : (sLen + k) * i.size ≤ cur.size) (h63 : ((sLen + k : Nat) : Int) ≤ 9223372036854775807) (h48 : k * i.bytes ≤ 281474976710656) :
    (Builtin.append_ #[t, tn] ty #[.slice (some ⟨g, 0, none⟩) sLen sCap, .int kq k]).run P w =
      .ok (.slice (some ⟨g, 0, none⟩) (sLen + k) sCap) (w.setRow g (cur.toList.take (sLen * i.size) ++ (Builtin.zeroCells z.cells k).toList ++ cur.toList.drop (sLen * i.size + k * i.size)).toArray) := by
  have hlen : (Builtin.zeroCells z.cells k).toList.length = k * i.size := by rw [Array.length_toList, size_zeroCells, hzs]
  have hone : ∀ u ∈ (Builtin.zeroCells z.cells k).toList, u.oneCell' = true := by
    intro u hu
    unfold Builtin.zeroCells at hu
    rw [Array.toList_map, List.mem_map] at hu
    obtain ⟨j, _, rfl⟩ := hu
    have hp : j % z.cells.size < z.cells.size := Nat.mod_lt _ (by omega)
    rw [getElem!_pos z.cells _ hp]
    exact h1 _ (Array.getElem_mem hp)
  have hst := run_storeCells_at P g (sLen * i.size) e (Builtin.zeroCells z.cells k).toList 0 cur w hg (by rw [hlen, Nat.add_zero, ← Nat.add_mul]; exact hfit) hone
  simp only [Nat.add_zero, hlen] at hst
  have hk : k ≠ 0 := by omega
  have hw : IntKind.i64.wrap (k : Int) = k := by rw [IntKind.wrap_i64]; omega
  have h48i : ¬ (281474976710656 < (k : Int) * (i.bytes : Int)) := by
    rw [← Int.natCast_mul]
    omega
  have hneg : ¬ ((k : Int) < 0) := by omega
  have hns : ¬ (k * i.size = 0) := Nat.mul_ne_zero hk (by omega)
  simp [Builtin.append_, run_underlying ht, run_underlying htn, sizeOf, typeInfo, zeroValue, hi, hz, asInt, asIntOf, hw, hneg, hns, hroom, h48i, Addr.add_lit, hst]

/-- .. to what a call owns. -/
theorem run_append_zeros (w : World) (base : Nat) (t tn ty e : TypeId) (i : TypeInfo) (z : Value) (size bytes : Nat) (kq kn : IntKind) (ht : P.underlying t = some (.slice e)) (htn : P.underlying tn = some (.int kn)) (hi : P.info? e = some i) (hz : i.zero = some z)
    (hsize : i.size = size) (hby : i.bytes = bytes) (hzs : z.cells.size = size) (hsz : 0 < size) (h1 : ∀ u ∈ z.cells, u.oneCell' = true)
    (v : Value) (n : Nat) (xs : List Value) (hown : w.ownsRow base e size v n xs) (m : Nat) (hm : 0 < m)
    (h63 : n + m ≤ maxLen) (hbytes : (n + m) * bytes ≤ 140737488355328) (hbase : base ≤ w.heap.size) :
    ∃ v' w', (Builtin.append_ #[t, tn] ty #[v, .int kq m]).run P w = .ok v' w' ∧ w'.ownsRow base e size v' (n + m) (xs ++ (Builtin.zeroCells z.cells m).toList) ∧ w.grownBy w' v.ownBlock := by
  subst hsize
  subst hby
  have hsmall : n + m ≤ 9223372036854775807 := by simp only [maxLen] at h63; omega
  have hzl : (Builtin.zeroCells z.cells m).toList.length = m * i.size := by rw [Array.length_toList, size_zeroCells, hzs]
  have hlen : (xs ++ (Builtin.zeroCells z.cells m).toList).length = (n + m) * i.size := by rw [List.length_append, hown.1, hzl, Nat.add_mul]
  have hmb : m * i.bytes ≤ 281474976710656 := by
    have := Nat.mul_le_mul_right i.bytes (show m ≤ n + m by omega)
    omega
  have grown : ∀ (old : Nat), old < n + m → ∀ (row : Option Nat),
      (w.drew.alloc (.cells (xs.toArray ++ Builtin.zeroCells z.cells m ++ Builtin.zeroCells z.cells (grownCap w (n + m) old e - (n + m))) e)).ownsRow base e i.size
        (.slice (some ⟨w.heap.size, 0, none⟩) (n + m) (grownCap w (n + m) old e)) (n + m) (xs ++ (Builtin.zeroCells z.cells m).toList) ∧
      w.grownBy (w.drew.alloc (.cells (xs.toArray ++ Builtin.zeroCells z.cells m ++ Builtin.zeroCells z.cells (grownCap w (n + m) old e - (n + m))) e)) row := by
    intro old ho row
    have hge := grownCap_ge w (n + m) old e
    have hcm : grownCap w (n + m) old e ≤ maxLen := grownCap_le_maxLen w (n + m) old e h63
    refine ⟨⟨hlen, .inr ⟨w.heap.size, _, _, rfl, hbase, heap_alloc_new w.drew _, hge, hcm, ?_, ?_⟩⟩, ⟨rfl, rfl, rfl, by simp, fun k hk _ => Below.heap_alloc w.drew _ k hk⟩⟩
    · simp only [Array.size_append, List.size_toArray, size_zeroCells, hzs, hown.1, ← Nat.add_mul]
      congr 1
      omega
    · simp only [Array.toList_append, List.append_assoc]
      rw [← List.append_assoc, ← hlen]
      exact List.take_left
  rcases hown.2 with ⟨rfl, rfl⟩ | ⟨g, cap, cur, rfl, hbg, hg, hnc, hcm, hcs, htake⟩
  · have hx : xs = [] := List.eq_nil_of_length_eq_zero (by simpa using hown.1)
    subst hx
    have hr := Lib.run_append_nil_zeros (P := P) w t tn ty e i z kq kn ht htn hi hz m hm hsz (by omega) hmb
    have hgr := grown 0 (by omega) (Value.ownBlock (.slice none 0 0))
    simp only [Nat.zero_add, List.nil_append, Array.empty_append] at hgr ⊢
    exact ⟨_, _, hr, hgr.1, hgr.2⟩
  · by_cases hroom : n + m ≤ cap
    · have hfit : (n + m) * i.size ≤ cur.size := by rw [hcs]; exact Nat.mul_le_mul_right _ hroom
      have hr := run_append_room_zeros (P := P) w t tn ty e i z kq kn ht htn hi hz hzs hsz h1 g n cap cur hg m hm hroom hfit (by omega) hmb
      refine ⟨_, _, hr, ⟨hlen, .inr ⟨g, cap, _, rfl, hbg, setRow_heap w g cur _ e _ hg, hroom, hcm, ?_, ?_⟩⟩, ⟨rfl, rfl, rfl, by simp, fun k _ hk => setRow_other w g k _ (fun e => hk (by simp [Value.ownBlock, e]))⟩⟩
      · rw [Nat.add_mul] at hfit
        simp only [List.size_toArray, List.length_append, List.length_take, List.length_drop, Array.length_toList, size_zeroCells, hzs]
        omega
      · rw [htake, ← hlen]
        exact List.take_left
    · have holds : ∀ j u, xs[j]? = some u → w.cell? ((⟨g, 0, none⟩ : Addr).add j) = some u := hown.cells (g := g) rfl
      have hf := run_firstCells_some (P := P) w.drew i.size n ⟨g, 0, none⟩ n cap xs hown.1 (by simpa using holds)
      have hr := Lib.run_append_grow_zeros (P := P) w t tn ty e i z kq kn ht htn hi hz (some ⟨g, 0, none⟩) n cap xs hf m hm hsz (by omega) (by omega) hmb (growslice_fits (by omega) hbytes)
      have hgr := grown cap (by omega) (Value.ownBlock (.slice (some ⟨g, 0, none⟩) n cap))
      exact ⟨_, _, hr, hgr.1, hgr.2⟩

theorem wpList_append_zeros (w : World) {ops : Array Oper} {rest : List Oper} {o : Oper} {a : Act} {Q : Exit → Act → World → Prop} (hgd : o.guard = none) (s x : Operand) (t tn : TypeId)
    (ho : o.op = .call { callee := .builtin .append, args := #[s, x], argTypes := #[t, tn] })
    (base : Nat) (e : TypeId) (i : TypeInfo) (z : Value) (size bytes : Nat) (kq kn : IntKind) (ht : P.underlying t = some (.slice e)) (htn : P.underlying tn = some (.int kn)) (hi : P.info? e = some i) (hz : i.zero = some z)
    (hsize : i.size = size) (hby : i.bytes = bytes) (hzs : z.cells.size = size) (hsz : 0 < size) (h1 : ∀ u ∈ z.cells, u.oneCell' = true)
    (v : Value) (n : Nat) (xs : List Value) (hs : a.eval s = v) (hown : w.ownsRow base e size v n xs) (m : Nat) (hx : a.eval x = .int kq m) (hm : 0 < m)
    (h63 : n + m ≤ maxLen) (hbytes : (n + m) * bytes ≤ 140737488355328) (hbase : base ≤ w.heap.size)
    (h : ∀ v' w', w'.ownsRow base e size v' (n + m) (xs ++ (Builtin.zeroCells z.cells m).toList) → w.grownBy w' v.ownBlock → wpList P ops Q rest (a.put o.dst v') w') : wpList P ops Q (o :: rest) a w := by
  obtain ⟨v', w', hr, h2, h3⟩ := run_append_zeros (P := P) w base t tn o.type e i z size bytes kq kn ht htn hi hz hsize hby hzs hsz h1 v n xs hown m hm h63 hbytes hbase
  exact Lib.wpList_append_run w hgd s x t tn ho v (.int kq m) hs hx v' w' hr (h v' w' h2 h3)

/-- .. as a step of a region that draws its order. -/
theorem step_append_zeros (w : World) {ops : Array Oper} {o : Oper} {a : Act} {K : Act → World → Prop} {Q : Exit → Act → World → Prop} {E : Prop} (hgd : o.guard = none) (s x : Operand) (t tn : TypeId)
    (ho : o.op = .call { callee := .builtin .append, args := #[s, x], argTypes := #[t, tn] })
    (base : Nat) (e : TypeId) (i : TypeInfo) (z : Value) (size bytes : Nat) (kq kn : IntKind) (ht : P.underlying t = some (.slice e)) (htn : P.underlying tn = some (.int kn)) (hi : P.info? e = some i) (hz : i.zero = some z)
    (hsize : i.size = size) (hby : i.bytes = bytes) (hzs : z.cells.size = size) (hsz : 0 < size) (h1 : ∀ u ∈ z.cells, u.oneCell' = true)
    (v : Value) (n : Nat) (xs : List Value) (hs : a.eval s = v) (hown : w.ownsRow base e size v n xs) (m : Nat) (hx : a.eval x = .int kq m) (hm : 0 < m)
    (h63 : n + m ≤ maxLen) (hbytes : (n + m) * bytes ≤ 140737488355328) (hbase : base ≤ w.heap.size)
    (h : ∀ v' w', w'.ownsRow base e size v' (n + m) (xs ++ (Builtin.zeroCells z.cells m).toList) → w.grownBy w' v.ownBlock → K (a.put o.dst v') w') :
    if Region.wanted o (yielded ops a.tmps) = true then Oper.wp P o a w K Q else E := by
  have hw : Region.wanted o (yielded ops a.tmps) = true := by simp [Region.wanted, hgd]
  rw [if_pos hw]
  obtain ⟨v', w', hr, h2, h3⟩ := run_append_zeros (P := P) w base t tn o.type e i z size bytes kq kn ht htn hi hz hsize hby hzs hsz h1 v n xs hown m hm h63 hbytes hbase
  exact Lib.wp_append_run w s x t tn ho v (.int kq m) hs hx v' w' hr (h v' w' h2 h3)
end Go.Proofs.YtlbgigkkjlfklaaGreat

namespace Go.Proofs.YtlbgigkkjlfklaaGreat
open Go.RowKit

/-- The blocks of a table lie apart. -/
theorem IsSp.apart {w : World} {base b pb : Nat} {k : Option Addr} {P : List Nat} {C : List (Nat × Nat)} {v : Value} (h : IsSp w base b pb k P C v) : b ≠ pb ∧ v.ownBlock ≠ some b ∧ v.ownBlock ≠ some pb := by
  refine ⟨fun e => ?_, fun e => ?_, fun e => ?_⟩
  · have h1 := h.head
    rw [e, h.row] at h1
    simp at h1
  · obtain ⟨_, ⟨hx, _⟩ | ⟨g, cap, cur, hx, _, hg, _⟩⟩ := h.own
    · rw [hx] at e; cases e
    · rw [hx] at e
      simp only [Value.ownBlock, Option.some.injEq] at e
      subst e
      have h1 := h.head
      rw [hg] at h1
      simp at h1
  · obtain ⟨_, ⟨hx, _⟩ | ⟨g, cap, cur, hx, _, hg, _⟩⟩ := h.own
    · rw [hx] at e; cases e
    · rw [hx] at e
      simp only [Value.ownBlock, Option.some.injEq] at e
      subst e
      have h1 := h.row
      rw [hg] at h1
      simp at h1
/-- A cell is put. -/
theorem IsSp.put {w : World} {base b pb g cap n : Nat} {k : Option Addr} {P : List Nat} {C : List (Nat × Nat)} (h : IsSp w base b pb k P C (.slice (some ⟨g, 0, none⟩) n cap)) (hn : n = C.length) {j : Nat} (hj : j < C.length) {o x : Nat} (ho : o ≤ 16777217) (hx : x ≤ 16777217) :
    IsSp ((w.setCell ⟨g, j * 2, none⟩ (.int .i32 (o : Int))).setCell ⟨g, j * 2 + 1, none⟩ (.int .i32 (x : Int))) base b pb k P (C.set j (o, x)) (.slice (some ⟨g, 0, none⟩) n cap) := by
  subst hn
  obtain ⟨_, hb, hp⟩ := h.apart
  have hbg : b ≠ g := fun e => hb (by rw [e]; rfl)
  have hpg : pb ≠ g := fun e => hp (by rw [e]; rfl)
  have h1 := (h.own.stored (j * 2) (.int .i32 (o : Int))).1
  have h2 := (h1.stored (j * 2 + 1) (.int .i32 (x : Int))).1
  rw [fl_set C j o x (List.getElem?_eq_getElem hj)] at h2
  refine ⟨?_, ?_, by rw [List.length_set]; exact h2, h.bb, h.bp, h.plen, by rw [List.length_set]; exact h.clen, h.pfit, fun r hr => ?_⟩
  · rw [put_other hbg, put_other hbg]; exact h.head
  · rw [put_other hpg, put_other hpg]; exact h.row
  · rcases List.mem_or_eq_of_mem_set hr with h3 | rfl
    · exact h.cfit r h3
    · exact ⟨ho, hx⟩
/-- A place is put. -/
theorem IsSp.lay {w : World} {base b pb : Nat} {k : Option Addr} {P : List Nat} {C : List (Nat × Nat)} {v : Value} (h : IsSp w base b pb k P C v) (i : Nat) {p : Nat} (hp : p ≤ 1073741824) : IsSp (w.setCell ⟨pb, i, none⟩ (.int .i32 (p : Int))) base b pb k (P.set i p) C v := by
  obtain ⟨hbp, _, hpv⟩ := h.apart
  refine ⟨?_, ?_, ownsRow_setCell_other h.own hpv _, h.bb, h.bp, by rw [List.length_set]; exact h.plen, h.clen, fun q hq => ?_, h.cfit⟩
  · rw [List.length_set, put_other hbp]; exact h.head
  · rw [put_heap h.row]
    congr 2
    unfold spCells
    rw [List.map_set]
    simp [spV]
  · rcases List.mem_or_eq_of_mem_set hq with h3 | rfl
    · exact h.pfit q h3
    · exact hp
theorem zero_fl (m : Nat) : (Builtin.zeroCells (Value.agg #[.int .i32 0, .int .i32 0]).cells m).toList = flCells (List.replicate m (0, 0)) := by
  have e : (Value.agg #[.int .i32 0, .int .i32 0]).cells = #[.int .i32 0, .int .i32 0] := by rfl
  rw [e, fl_rep]
  unfold Builtin.zeroCells
  apply List.ext_getElem
  · simp
  · intro i h1 h2
    simp at h1
    have : i % 2 = 0 ∨ i % 2 = 1 := by omega
    rcases this with h | h <;> simp [h]
theorem fl_append (C D : List (Nat × Nat)) : flCells C ++ flCells D = flCells (C ++ D) := by simp [flCells]
theorem sp_zero_one : ∀ u ∈ (Value.agg #[.int .i32 0, .int .i32 0]).cells, u.oneCell' = true := by
  intro u hu
  have e : (Value.agg #[.int .i32 0, .int .i32 0]).cells = #[.int .i32 0, .int .i32 0] := by rfl
  rw [e] at hu
  simp at hu
  subst hu; rfl
/-- There are more cells. -/
theorem IsSp.more {w w' : World} {base b pb n m : Nat} {k : Option Addr} {P : List Nat} {C : List (Nat × Nat)} {v v' : Value} (h : IsSp w base b pb k P C v) (hm : m = n - C.length) (hn : C.length ≤ n) (hmax : n ≤ 1073741824)
    (hown : w'.ownsRow base 107 2 v' (C.length + m) (flCells C ++ (Builtin.zeroCells (Value.agg #[.int .i32 0, .int .i32 0]).cells m).toList)) (hg : w.grownBy w' v.ownBlock) :
    w'.heap[b]? = w.heap[b]? ∧ IsSp (w'.setCell ⟨b, 2, none⟩ v') base b pb k P (moreC C n) v' := by
  obtain ⟨hbp, hbv, hpv⟩ := h.apart
  have hb1 := (hg.block b h.lt (Ne.symm hbv)).trans h.head
  have hp1 := (hg.block pb h.ltp (Ne.symm hpv)).trans h.row
  have hl : (moreC C n).length = C.length + m := by rw [more_length]; omega
  have hc : flCells (moreC C n) = flCells C ++ (Builtin.zeroCells (Value.agg #[.int .i32 0, .int .i32 0]).cells m).toList := by
    rw [zero_fl, fl_append, hm]; rfl
  refine ⟨hg.block b h.lt (Ne.symm hbv), ?_, ?_, ?_, h.bb, h.bp, h.plen, by rw [more_length]; have := h.clen; omega, h.pfit, fun r hr => ?_⟩
  · rw [put_heap hb1]; rfl
  · rw [put_other (Ne.symm hbp)]; exact hp1
  · rw [hl, hc]
    refine ownsRow_setCell_other hown (fun e => ?_) _
    obtain ⟨_, ⟨hx, _⟩ | ⟨g, cap, cur, hx, _, hg', _⟩⟩ := hown
    · rw [hx] at e; cases e
    · rw [hx] at e
      simp only [Value.ownBlock, Option.some.injEq] at e
      subst e
      rw [hg'] at hb1
      simp at hb1
  · unfold moreC at hr
    rcases List.mem_append.1 hr with h1 | h1
    · exact h.cfit r h1
    · rw [List.eq_of_mem_replicate h1]; simp
theorem more_none {C : List (Nat × Nat)} {n : Nat} (h : n ≤ C.length) : moreC C n = C := by
  unfold moreC
  rw [show n - C.length = 0 by omega]
  simp
/-- The last of rising bytes is the greatest one. -/
theorem rise_last {l : List UInt8} (h : l.Pairwise (· < ·)) {m : Nat} (hm : m + 1 = l.length) (hml : m < l.length) : ∀ c ∈ l, c.toNat ≤ (l[m]).toNat := by
  intro c hc
  obtain ⟨i, hi, rfl⟩ := List.getElem_of_mem hc
  by_cases e : i = m
  · subst e; exact Nat.le_refl _
  · have := List.pairwise_iff_getElem.1 h i m hi hml (by omega)
    rw [UInt8.lt_iff_toNat_lt] at this
    omega
end Go.Proofs.YtlbgigkkjlfklaaGreat
