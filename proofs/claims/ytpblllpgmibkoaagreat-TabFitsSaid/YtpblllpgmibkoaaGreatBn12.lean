/-
  Texts put together: TbE, CopyChk, Build, Wst, WrByte, VarW.
-/
import Derived.Test.YtpblllpgmibkoaaGreatTbO
import Derived.Test.YtpblllpgmibkoaaGreatRows
import Derived.Test.YtpblllpgmibkoaaGreatBn1
import Derived.Shelf.Strings.Builder1
import Derived.WalkKit
import Derived.WalkSpells
import Derived.WalkLawsBesides
import Derived.Lib.Hide
import Derived.Test.YtpblllpgmibkoaaGreatBn5
import Derived.Test.YtpblllpgmibkoaaGreatVarM
import Derived.Test.YtpblllpgmibkoaaGreatShelf
import Derived.Outline
import Derived.IntWalk
set_option linter.unusedSimpArgs false
set_option linter.unusedVariables false
namespace Go.Proofs.YtpblllpgmibkoaaGreat
open Go.RowKit

theorem take_eq_snoc {xs ys : List Int} {i : Nat} (hx : i < xs.length) (hy : i < ys.length) (h : xs.take i = ys.take i) (he : xs.getD i 0 = ys.getD i 0) : xs.take (i + 1) = ys.take (i + 1) := by
  rw [take_snoc xs i hx, take_snoc ys i hy, h, he]

set_option maxRecDepth 100000 in
set_option maxHeartbeats 2000000 in
theorem equal_any {w : World} {g1 o1 g2 o2 n m c1 c2 : Nat} (xs ys : List Int) (hx : xs.length = n) (hy : ys.length = m) (h1 : ∀ i, i < n → w.cell? ⟨g1, o1 + i, none⟩ = some (.int .i32 (xs.getD i 0))) (h2 : ∀ i, i < m → w.cell? ⟨g2, o2 + i, none⟩ = some (.int .i32 (ys.getD i 0))) (hn : n ≤ 4311744769) (hm : m ≤ 4311744769) :
    Calls Tryz.prog 45 #[.slice (some ⟨g1, o1, none⟩) n c1, .slice (some ⟨g2, o2, none⟩) m c2] w fun e w' => e = .returned (.bool (decide (xs = ys))) ∧ ∃ q, w' = w.drewN q := by
  by_cases hnm : n = m
  · subst hnm
    have H1 := Lib.hid h1
    have H2 := Lib.hid h2
    have HX := Lib.hid hx
    have HY := Lib.hid hy
    have r0 : ((n : Int) != (n : Int)) = false := by simp
    clear h1 h2 hx hy
    go_enter Tryz.func45, Tryz.ntmps45
    go_wp2_with fail
    go_loopw [13] (fun i wr => ∃ (k q : Nat), k ≤ n ∧ i = .int .i64 k ∧ Hid (xs.take k = ys.take k) ∧ wr = w.drewN q) (fun i _ => n - (RowKit.intOf i).toNat)
    case atStart => exact ⟨0, 0, Nat.zero_le _, rfl, Lib.hid rfl, rfl⟩
    case round =>
      obtain ⟨k, q, hk, rfl, HE, hwr⟩ := hrel
      subst hwr
      by_cases hlt : k < n
      · have a1 : (w.drewN q).cell? ⟨g1, o1 + k, none⟩ = some (.int .i32 (xs.getD k 0)) := H1.out k hlt
        have a2 : (w.drewN q).cell? ⟨g2, o2 + k, none⟩ = some (.int .i32 (ys.getD k 0)) := H2.out k hlt
        have g0 : (0 : Int) ≤ (k : Int) := by omega
        have gl : (k : Int) < (n : Int) := by omega
        by_cases hxy : xs.getD k 0 = ys.getD k 0
        · have HE2 := Lib.hid (take_eq_snoc (by rw [HX.out]; exact hlt) (by rw [HY.out]; exact hlt) HE.out hxy)
          rw [hxy] at a1
          generalize ys.getD k 0 = y at *
          have r1 : (y != y) = false := by simp
          obtain ⟨w1, hw1⟩ : ∃ w1, w.drewN q = w1 := ⟨_, rfl⟩
          have HW1 := Lib.hid hw1
          rw [hw1] at a1 a2 ⊢
          clear hw1 hxy
          go_wp2_with fail
          go_quiet (fail)
          have HW2 : Hid (w1.drewN nq = w.drewN (q + nq)) := Lib.hid (by rw [← HW1.out, World.drewN_drewN])
          go_wp2
          exact ⟨⟨k + 1, q + nq, by omega, by go_num, HE2, HW2.out⟩, by simp [RowKit.intOf]; omega⟩
        · have HF : Hid (decide (xs = ys) = false) := Lib.hid (decide_eq_false (fun e => hxy (by rw [e])))
          generalize ys.getD k 0 = y at *
          generalize xs.getD k 0 = x at *
          have r1 : (x != y) = true := by simpa using hxy
          obtain ⟨w1, hw1⟩ : ∃ w1, w.drewN q = w1 := ⟨_, rfl⟩
          have HW1 := Lib.hid hw1
          rw [hw1] at a1 a2 ⊢
          clear hw1 hxy
          go_wp2_with fail
          go_quiet (fail)
          have HW2 : Hid (w1.drewN nq = w.drewN (q + nq)) := Lib.hid (by rw [← HW1.out, World.drewN_drewN])
          go_wp2
          go_ret
          exact ⟨by rw [HF.out]; rfl, _, HW2.out⟩
      · have hkn : k = n := by omega
        subst hkn
        have hz : ¬ (k : Int) < (k : Int) := by omega
        have HF : Hid (decide (xs = ys) = true) := Lib.hid (decide_eq_true (by
          have := HE.out
          rwa [List.take_of_length_le (by rw [HX.out]; exact Nat.le_refl _), List.take_of_length_le (by rw [HY.out]; exact Nat.le_refl _)] at this))
        go_wp2
        go_ret
        exact ⟨by rw [HF.out]; rfl, q, rfl⟩
  · have r0 : ((n : Int) != (m : Int)) = true := by simp; omega
    have HF : Hid (decide (xs = ys) = false) := Lib.hid (decide_eq_false (fun e => hnm (by rw [← hx, ← hy, e])))
    clear h1 h2 hx hy
    go_enter Tryz.func45, Tryz.ntmps45
    go_wp2
    go_ret
    exact ⟨by rw [HF.out]; rfl, 0, rfl⟩

theorem tbfits_nil (p : Option Addr) (w : World) : Calls Tryz.prog 15 #[.pointer none, .pointer p] w fun e w' => e = .returned (.bool false) ∧ w' = w := by
  go_enter Tryz.func15, Tryz.ntmps15
  go_wp2
  go_ret
  exact ⟨rfl, rfl⟩

/-- Do rows fit a set, whose states these are? -/
def fitT (us S : List (List UInt8)) (own : List UInt8) (R : List (List Int)) : Bool := decide (own = bcK us 256) && decide (R.flatten = (ofT us S).flatten)
theorem fit_eq {own own2 : List UInt8} {R Q : List (List Int)} (h : GoodT own R) (k : GoodT own2 Q) : (decide (own = own2) && decide (R.flatten = Q.flatten)) = true ↔ own = own2 ∧ R = Q := by
  rw [Bool.and_eq_true, decide_eq_true_eq, decide_eq_true_eq]
  constructor
  · rintro ⟨h1, h2⟩
    subst h1
    exact ⟨rfl, flat_inj (Nat.succ_pos _) h.len k.len h2⟩
  · rintro ⟨h1, h2⟩
    exact ⟨h1, by rw [h2]⟩
theorem fit_iff {us S : List (List UInt8)} {own : List UInt8} {R : List (List Int)} (h : GoodT own R) (k : GoodT (bcK us 256) (ofT us S)) : fitT us S own R = true ↔ own = bcK us 256 ∧ R = ofT us S := fit_eq h k

set_option maxRecDepth 100000 in
set_option maxHeartbeats 4000000 in
theorem tbfits_any {w : World} {b : Nat} {own : List UInt8} {R : List (List Int)} {p : Option Addr} {us : List (List UInt8)} (h : IsTab w b own R) (hp : IsPats w p us) (ha : Asc us) (hn : us.Nodup) :
    Calls Tryz.prog 15 #[.pointer (some ⟨b, 0, none⟩), .pointer p] w fun e w' => ∃ S, e = .returned (.bool (fitT us S own R)) ∧ IsSt us S ∧ Below w.heap.size w w' := by
  have HO := Lib.hid (tbof_any hp ha hn)
  have HT := Lib.hid h
  clear h hp ha hn
  go_enter Tryz.func15, Tryz.ntmps15
  go_wp2_with fail
  refine HO.out.mono ?_
  rintro e w1 ⟨b2, S, rfl, hst, _, _, hT2, hb⟩
  have hT1 := HT.out.below hb
  obtain ⟨m1, f1, s1, l1⟩ := hT1.most
  obtain ⟨m2, f2, s2, l2⟩ := hT2.most
  have q1 := flat_len hT1.good.len
  have q2 := flat_len hT2.good.len
  obtain ⟨g1, o1, cap1, h1, _, _, hc1⟩ := hT1.head
  obtain ⟨g2, o2, cap2, h2, _, _, hc2⟩ := hT2.head
  have HEq := Lib.hid (fun q => Calls.quiet_of (equal_any (w := w1.drewN q) (c1 := cap1) (c2 := cap2) R.flatten (ofT us S).flatten q1 q2 hc1 hc2 m1 m2))
  have x0 : w1.cell? ⟨b, 0, none⟩ = some (.string ⟨own.toArray⟩) := by rw [Lib.cell_of_heap h1]; rfl
  have x1 : w1.cell? ⟨b, 1, none⟩ = some (.slice (some ⟨g1, o1, none⟩) (R.length * (own.length + 1)) cap1) := by rw [Lib.cell_of_heap h1]; rfl
  have y0 : w1.cell? ⟨b2, 0, none⟩ = some (.string ⟨(bcK us 256).toArray⟩) := by rw [Lib.cell_of_heap h2]; rfl
  have y1 : w1.cell? ⟨b2, 1, none⟩ = some (.slice (some ⟨g2, o2, none⟩) ((ofT us S).length * ((bcK us 256).length + 1)) cap2) := by rw [Lib.cell_of_heap h2]; rfl
  have HF : Hid (fitT us S own R = (decide (own = bcK us 256) && decide (R.flatten = (ofT us S).flatten))) := Lib.hid rfl
  have HS := Lib.hid hst
  have HB := Lib.hid hb
  obtain ⟨own2, ho2⟩ : ∃ o, bcK us 256 = o := ⟨_, rfl⟩
  rw [ho2] at y0 y1 HEq HF
  generalize decide (R.flatten = (ofT us S).flatten) = β at *
  generalize R.length * (own.length + 1) = n1 at *
  generalize (ofT us S).length * (own2.length + 1) = n2 at *
  clear hT1 hT2 h1 h2 hc1 hc2 q1 q2 hst hb HO ho2 f1 f2 s1 s2 l1 l2
  by_cases hown : own = own2
  · have hd : (own == own2) = true := by simpa using hown
    rw [decide_eq_true hown, Bool.true_and] at HF
    subst hown
    go_wp2_with fail
    go_quiet (with_reducible exact HEq.out _)
    go_wp2
    go_ret
    exact ⟨S, by rw [HF.out]; rfl, HS.out, below_drewS HB.out _⟩
  · have hd : (own == own2) = false := by simpa using hown
    rw [decide_eq_false hown, Bool.false_and] at HF
    go_wp2_with fail
    go_quiet (fail)
    go_wp2
    go_ret
    exact ⟨S, by rw [HF.out]; rfl, HS.out, below_drewS HB.out _⟩
end Go.Proofs.YtpblllpgmibkoaaGreat

namespace Go.Proofs.YtpblllpgmibkoaaGreat
open Go.RowKit

theorem builder_info : (Tryz.prog.info? 73).map (·.size) = some 2 := by kernel_rfl
theorem builder_lies : liesAt Tryz.prog Tryz.prog.depth 73 (2 / Tryz.prog.cellsOf 73) 0 73 1 = true := by kernel_rfl
theorem byte_info : (Tryz.prog.info? 5).map (fun i => (i.zero, i.size, i.bytes)) = some (some (.int .u8 0), 1, 1) := by kernel_rfl

set_option maxHeartbeats 1000000 in
set_option maxRecDepth 100000 in
theorem copyCheck_used (b : Nat) (w : World) (h0 : w.cell? ⟨b, 0, none⟩ = some (.pointer (some ⟨b, 0, none⟩))) :
    Calls Tryz.prog 64 #[.pointer (some ⟨b, 0, none⟩)] w fun e w' => e = .returned (.tuple #[]) ∧ w' = w := by
  obtain ⟨j, hj, _⟩ := Option.map_eq_some_iff.1 builder_info
  go_enter Tryz.func64, Tryz.ntmps64
  go_wp2
  rw [Lib.run_neq_ptr_same w _ Tryz.underlying71 hj]
  go_wp2
  go_end0
  exact ⟨rfl, rfl⟩

set_option maxHeartbeats 1000000 in
set_option maxRecDepth 100000 in
theorem copyCheck_fresh (b : Nat) (w : World) (h0 : w.cell? ⟨b, 0, none⟩ = some (.pointer none)) (hsh : w.shape? b = some (73, 2)) (hfz : w.frozen? ⟨b, 0, none⟩ = false) :
    Calls Tryz.prog 64 #[.pointer (some ⟨b, 0, none⟩)] w fun e w' => e = .returned (.tuple #[]) ∧ w' = w.setCell ⟨b, 0, none⟩ (.pointer (some ⟨b, 0, none⟩)) := by
  obtain ⟨j, hj, hjs⟩ := Option.map_eq_some_iff.1 builder_info
  go_enter Tryz.func64, Tryz.ntmps64
  go_wp2
  rw [Lib.run_to_unsafe w ⟨b, 0, none⟩ Tryz.underlying71 Tryz.underlying143 hj (by rw [hjs]; decide) hsh (Nat.zero_lt_succ 1)]
  simp only [Result.andThen]
  rw [Oper.upon_value]
  go_wp2
  rw [run_callFunc_extern Tryz.func90 (by kernel_rfl) (by kernel_rfl) (by kernel_rfl) (e := Extern.AbiNoEscape.same) (by kernel_rfl)]
  rw [Lib.run_noEscape]
  simp only [Result.andThen]
  rw [Oper.upon_value]
  go_wp2
  rw [Lib.run_from_unsafe w ⟨b, 0, none⟩ Tryz.underlying143 Tryz.underlying71 hj hsh builder_lies]
  simp only [Result.andThen]
  rw [Oper.upon_value]
  go_wp2
  go_end0
  exact ⟨rfl, rfl⟩

/-- All blocks but b, of elements of another type, are as they were. -/
def Kept (b : Nat) (e : TypeId) (w w' : World) : Prop := ∀ x cs T fr, x ≠ b → T ≠ e → w.heap[x]? = some (.cells cs T fr) → w'.heap[x]? = some (.cells cs T fr)

theorem Kept.refl (b : Nat) (e : TypeId) (w : World) : Kept b e w w := fun _ _ _ _ _ _ h => h
theorem Kept.trans {b : Nat} {e : TypeId} {w w' w2 : World} (h : Kept b e w w') (h2 : Kept b e w' w2) : Kept b e w w2 := fun x cs T fr hx hT hh => h2 x cs T fr hx hT (h x cs T fr hx hT hh)
theorem Kept.below {b : Nat} {e : TypeId} {w w' : World} (h : Below w.heap.size w w') : Kept b e w w' := fun x cs T fr _ _ hh => by
  rw [h.block x (heap_lt hh)]; exact hh
theorem Kept.setCell {b : Nat} {e : TypeId} {w w' : World} (h : Kept b e w w') (o : Nat) (v : Value) : Kept b e w (w'.setCell ⟨b, o, none⟩ v) := fun x cs T fr hx hT hh => by
  rw [Below.heap_setCell _ _ _ _ hx]; exact h x cs T fr hx hT hh
theorem Kept.grown {b : Nat} {e : TypeId} {w w1 w' : World} {B n : Nat} {v : Value} {xs : List Value} (h : Kept b e w w1) (hown : w1.ownsRow B e 1 v n xs) (hg : w1.grownBy w' v.ownBlock) : Kept b e w w' := fun x cs T fr hx hT hh => by
  have h1 := h x cs T fr hx hT hh
  have hne := Lib.ownBlock_ne hown h1 hT
  rw [hg.block x (heap_lt h1) (fun e => hne e.symm)]; exact h1
theorem Kept.alloc {b : Nat} {e : TypeId} {w w' : World} (h : Kept b e w w') (o : Obj) : Kept b e w (w'.alloc o) := fun x cs T fr hx hT hh => by
  have h1 := h x cs T fr hx hT hh
  rw [Lib.alloc_old w' _ x (heap_lt h1)]; exact h1

/-- A cell that is there, behind a new block. -/
theorem cell_alloc {w : World} {b j : Nat} {v : Value} (h : w.cell? ⟨b, j, none⟩ = some v) (o : Obj) : (w.alloc o).cell? ⟨b, j, none⟩ = some v := by
  rw [((Below.refl w.heap.size w).alloc (Nat.le_refl _) o).cell (p := ⟨b, j, none⟩) (World.block_lt_of_cell? w _ h)]; exact h
theorem cell_below {w w' : World} {b j : Nat} {v : Value} (h : w.cell? ⟨b, j, none⟩ = some v) (hb : Below w.heap.size w w') : w'.cell? ⟨b, j, none⟩ = some v := by
  rw [hb.cell (p := ⟨b, j, none⟩) (World.block_lt_of_cell? w _ h)]; exact h

theorem copyCheckK (B b : Nat) (bs : List Value) (w : World) (h : Lib.IsBuilder 73 5 B b bs w) :
    Calls Tryz.prog 64 #[.pointer (some ⟨b, 0, none⟩)] w fun e w' => e = .returned (.tuple #[]) ∧ (Lib.BuilderAt 73 5 B b (.pointer (some ⟨b, 0, none⟩)) bs w' ∧ Below B w w' ∧ Kept b 5 w w') := by
  rcases h with h | h
  · refine (copyCheck_fresh b w h.cell0 h.shape h.frozen0).mono ?_
    rintro e w' ⟨rfl, rfl⟩
    exact ⟨rfl, h.used _, (Below.refl B w).setCell (p := ⟨b, 0, none⟩) h.1 _, (Kept.refl _ _ _).setCell _ _⟩
  · refine (copyCheck_used b w h.cell0).mono ?_
    rintro e w' ⟨rfl, rfl⟩
    exact ⟨rfl, h, Below.refl B _, Kept.refl _ _ _⟩

theorem copyCheck (B b : Nat) (bs : List Value) (w : World) (h : Lib.IsBuilder 73 5 B b bs w) :
    Calls Tryz.prog 64 #[.pointer (some ⟨b, 0, none⟩)] w fun e w' => e = .returned (.tuple #[]) ∧ (Lib.BuilderAt 73 5 B b (.pointer (some ⟨b, 0, none⟩)) bs w' ∧ Below B w w') :=
  (copyCheckK B b bs w h).mono fun _ _ ⟨a, b, c, _⟩ => ⟨a, b, c⟩

end Go.Proofs.YtpblllpgmibkoaaGreat

namespace Go.Proofs.YtpblllpgmibkoaaGreat
open Go.RowKit

set_option maxHeartbeats 2000000 in
set_option maxRecDepth 100000 in
theorem writeStringK (B b : Nat) (bs : List Value) (s : ByteArray) (w : World) (h : Lib.IsBuilder 73 5 B b bs w) (hlen : bs.length + s.size ≤ 140737488355328) (hBw : B ≤ w.heap.size) :
    Calls Tryz.prog 36 #[.pointer (some ⟨b, 0, none⟩), .string s] w fun e w' => e = .returned (.tuple #[.int .i64 s.size, .nilIface]) ∧ (Lib.BuilderAt 73 5 B b (.pointer (some ⟨b, 0, none⟩)) (bs ++ Lib.strCells s) w' ∧ Below B w w' ∧ Kept b 5 w w') := by
  obtain ⟨i0, hi, hz0, hz1, hz2⟩ := info_parts byte_info
  go_enter Tryz.func36, Tryz.ntmps36
  go_wp2_with (go_at_call 64; refine (copyCheckK B b bs _ h).mono ?_)
  rintro e w1 ⟨rfl, h1, hb1, hk1⟩
  obtain ⟨hB, v, hbk, hown, hne⟩ := h1
  have c0 : w1.cell? ⟨b, 0, none⟩ = some (.pointer (some ⟨b, 0, none⟩)) := by rw [Lib.cell_of_heap hbk]; rfl
  have c1 : w1.cell? ⟨b, 1, none⟩ = some v := by rw [Lib.cell_of_heap hbk]; rfl
  go_wp2_with (at_builtin; refine Lib.wpList_append_own_string _ rfl _ _ 70 9 rfl B 5 i0 Tryz.underlying70 Tryz.underlying9 hi hz0 hz1 hz2 _ _ _ rfl hown s rfl ?c3 ?c4 ?c5 ?_)
  case c3 => unfold maxLen; omega
  case c4 => omega
  case c5 => have := hb1.size; omega
  intro v' w2 hown' hgrow _
  have hlt : b < w1.heap.size := by
    rcases Nat.lt_or_ge b w1.heap.size with h' | h'
    · exact h'
    · simp [Array.getElem?_eq_none h'] at hbk
  have hb2 : w2.heap[b]? = some (.cells #[.pointer (some ⟨b, 0, none⟩), v] 73 (0, 0)) := by
    rw [hgrow.block b hlt (fun e => hne e.symm)]
    exact hbk
  have d0 : w2.cell? ⟨b, 0, none⟩ = some (.pointer (some ⟨b, 0, none⟩)) := by rw [Lib.cell_of_heap hb2]; rfl
  have d1 : w2.cell? ⟨b, 1, none⟩ = some v := by rw [Lib.cell_of_heap hb2]; rfl
  have f1 : w2.frozen? ⟨b, 1, none⟩ = false := Lib.frozen_of_heap hb2 1
  obtain ⟨ao, n', cap, rfl⟩ : ∃ ao n' cap, v' = .slice ao n' cap := by
    rcases hown'.2 with ⟨hv, _⟩ | ⟨g, cap, cur, hv, _⟩
    · exact ⟨_, _, _, hv⟩
    · exact ⟨_, _, _, hv⟩
  go_wp2
  go_ret2
  refine ⟨rfl, ?_, ?_, ?_⟩
  · exact Lib.BuilderAt.put (T := 73) (e := 5) hB hb2 (bs' := bs ++ Lib.strCells s) (by simpa [Lib.strCells_length] using hown') (by decide)
  · exact (hb1.grown hgrow (by have := hb1.size; omega) (fun k hk => (hown.lt k hk).1)).setCell (p := ⟨b, 1, none⟩) hB _
  · exact (hk1.grown hown hgrow).setCell _ _

theorem writeString (B b : Nat) (bs : List Value) (s : ByteArray) (w : World) (h : Lib.IsBuilder 73 5 B b bs w) (hlen : bs.length + s.size ≤ 140737488355328) (hBw : B ≤ w.heap.size) :
    Calls Tryz.prog 36 #[.pointer (some ⟨b, 0, none⟩), .string s] w fun e w' => e = .returned (.tuple #[.int .i64 s.size, .nilIface]) ∧ (Lib.BuilderAt 73 5 B b (.pointer (some ⟨b, 0, none⟩)) (bs ++ Lib.strCells s) w' ∧ Below B w w') :=
  (writeStringK B b bs s w h hlen hBw).mono fun _ _ ⟨a, b, c, _⟩ => ⟨a, b, c⟩

end Go.Proofs.YtpblllpgmibkoaaGreat

namespace Go.Proofs.YtpblllpgmibkoaaGreat
open Go.RowKit

theorem cells_app (a b : List UInt8) : Lib.byteCells a ++ Lib.strCells ⟨b.toArray⟩ = Lib.byteCells (a ++ b) := by
  simp [Lib.byteCells, Lib.strCells]

/-- WriteString, by bytes. -/
theorem wstr (B b : Nat) (l s : List UInt8) (w : World) (h : Lib.IsBuilder 73 5 B b (Lib.byteCells l) w) (hlen : l.length + s.length ≤ 1000000000) (hBw : B ≤ w.heap.size) :
    Calls Tryz.prog 36 #[.pointer (some ⟨b, 0, none⟩), .string ⟨s.toArray⟩] w fun e w' => (∃ n : Int, e = .returned (.tuple #[.int .i64 n, .nilIface])) ∧ (Lib.IsBuilder 73 5 B b (Lib.byteCells (l ++ s)) w' ∧ Below B w w' ∧ Kept b 5 w w') := by
  refine (writeStringK B b _ _ w h (by rw [Lib.byteCells_length, bsize]; omega) hBw).mono ?_
  rintro e w' ⟨rfl, h1, h2⟩
  rw [cells_app] at h1
  exact ⟨⟨_, rfl⟩, .inr h1, h2⟩

theorem own_kept {w w' : World} {base b : Nat} {e E : TypeId} {v : Value} {n : Nat} {xs : List Value} (h : w.ownsRow base e 1 v n xs) (hk : Kept b E w w') (hT : e ≠ E) (hb : b < base) : w'.ownsRow base e 1 v n xs := by
  obtain ⟨h1, h2 | ⟨g, cap, cur, hv, hg, hh, h3⟩⟩ := h
  · exact ⟨h1, .inl h2⟩
  · exact ⟨h1, .inr ⟨g, cap, cur, hv, hg, hk g _ _ _ (by omega) hT hh, h3⟩⟩

theorem row_cell {w : World} {base : Nat} {e : TypeId} {g n cap k : Nat} {zs : List Int} {x : Int} (h : w.ownsRow base e 1 (.slice (some ⟨g, 0, none⟩) n cap) n (inCells zs)) (hz : zs[k]? = some x) : w.cell? ⟨g, k, none⟩ = some (.int .i64 x) := by
  have hc := h.cells (g := g) rfl k (.int .i64 x) (by unfold inCells; rw [List.getElem?_map, hz]; rfl)
  rwa [addPlain, Nat.zero_add] at hc
theorem own_formI {w : World} {base : Nat} {e : TypeId} {v : Value} {n : Nat} {xs : List Value} (h : w.ownsRow base e 1 v n xs) (hn : 1 ≤ n) : ∃ g cap, v = .slice (some ⟨g, 0, none⟩) n cap := by
  obtain ⟨_, ⟨_, h1⟩ | ⟨g, cap, cur, hv, _⟩⟩ := h
  · omega
  · exact ⟨g, cap, hv⟩

/-- Two numbers, in one block of their own. -/
theorem bkrow2 (w : World) (x y : Int) (T : TypeId) : IsRow .i64 (w.alloc (.cells #[.int .i64 x, .int .i64 y] T)) (some ⟨w.heap.size, 0, none⟩) 2 2 [x, y] := by
  refine .inr ⟨w.heap.size, 0, rfl, by omega, by unfold maxLen; omega, rfl, fun i hi => ?_⟩
  rw [Nat.zero_add, World.cell?_alloc_new]
  match i, hi with
  | 0, _ => rfl
  | 1, _ => rfl

end Go.Proofs.YtpblllpgmibkoaaGreat

namespace Go.Proofs.YtpblllpgmibkoaaGreat
open Go.RowKit

set_option maxHeartbeats 2000000 in
set_option maxRecDepth 100000 in
theorem writeByteK (B b : Nat) (bs : List Value) (c : Int) (w : World) (h : Lib.IsBuilder 73 5 B b bs w) (hlen : bs.length + 1 ≤ 140737488355328) (hBw : B ≤ w.heap.size) :
    Calls Tryz.prog 91 #[.pointer (some ⟨b, 0, none⟩), .int .u8 c] w fun e w' => e = .returned .nilIface ∧ (Lib.BuilderAt 73 5 B b (.pointer (some ⟨b, 0, none⟩)) (bs ++ [.int .u8 c]) w' ∧ Below B w w' ∧ Kept b 5 w w') := by
  obtain ⟨i0, hi, hz0, hz1, hz2⟩ := info_parts byte_info
  go_enter Tryz.func91, Tryz.ntmps91
  go_wp2_with (go_at_call 64; refine (copyCheckK B b bs _ h).mono ?_)
  rintro e w1 ⟨rfl, h1, hb1, hk1⟩
  obtain ⟨hB, v, hbk, hown, hne⟩ := h1
  have c0 : w1.cell? ⟨b, 0, none⟩ = some (.pointer (some ⟨b, 0, none⟩)) := by rw [Lib.cell_of_heap hbk]; rfl
  have c1 : w1.cell? ⟨b, 1, none⟩ = some v := by rw [Lib.cell_of_heap hbk]; rfl
  go_wp2_with (at_builtin; refine wpList_append_own _ rfl _ _ 70 rfl B 5 i0 (.int .u8 0) 1 1 Tryz.underlying70 hi hz0 hz1 hz2 rfl (by decide) _ _ _ rfl (hown.alloc _) ⟨w1.heap.size, 0, none⟩ 1 1 [.int .u8 c] rfl rfl ?c1 ?c2 ?c3 ?c4 ?c5 ?_)
  case c1 =>
    intro j u hj
    match j, hj with
    | 0, hj => simp at hj; subst hj; simp [Addr.add]
  case c2 => intro u hu; simp at hu; subst hu; rfl
  case c3 => unfold maxLen; omega
  case c4 => omega
  case c5 => have := hb1.size; simp; omega
  intro v' w2 hown' hgrow _
  have hlt : b < w1.heap.size := by
    rcases Nat.lt_or_ge b w1.heap.size with h' | h'
    · exact h'
    · simp [Array.getElem?_eq_none h'] at hbk
  have hb2 : w2.heap[b]? = some (.cells #[.pointer (some ⟨b, 0, none⟩), v] 73 (0, 0)) := by
    rw [hgrow.block b (by simp; omega) (fun e => hne e.symm), Lib.alloc_old w1 _ b hlt]
    exact hbk
  have d0 : w2.cell? ⟨b, 0, none⟩ = some (.pointer (some ⟨b, 0, none⟩)) := by rw [Lib.cell_of_heap hb2]; rfl
  have d1 : w2.cell? ⟨b, 1, none⟩ = some v := by rw [Lib.cell_of_heap hb2]; rfl
  have f1 : w2.frozen? ⟨b, 1, none⟩ = false := Lib.frozen_of_heap hb2 1
  obtain ⟨g, cap, rfl⟩ : ∃ g cap, v' = .slice (some ⟨g, 0, none⟩) (bs.length + 1) cap := by
    rcases hown'.2 with ⟨_, h0⟩ | ⟨g, cap, cur, hv, _⟩
    · omega
    · exact ⟨g, cap, hv⟩
  go_wp2
  go_ret
  refine ⟨rfl, ?_, ?_, ?_⟩
  · exact Lib.BuilderAt.put (T := 73) (e := 5) hB hb2 (bs' := bs ++ [.int .u8 c]) (by simpa using hown') (by decide)
  · exact ((hb1.alloc (by have := hb1.size; omega) _).grown hgrow (by have := hb1.size; simp; omega) (fun k hk => (hown.lt k hk).1)).setCell (p := ⟨b, 1, none⟩) hB _
  · exact ((hk1.alloc _).grown (hown.alloc _) hgrow).setCell _ _

theorem writeByte (B b : Nat) (bs : List Value) (c : Int) (w : World) (h : Lib.IsBuilder 73 5 B b bs w) (hlen : bs.length + 1 ≤ 140737488355328) (hBw : B ≤ w.heap.size) :
    Calls Tryz.prog 91 #[.pointer (some ⟨b, 0, none⟩), .int .u8 c] w fun e w' => e = .returned .nilIface ∧ (Lib.BuilderAt 73 5 B b (.pointer (some ⟨b, 0, none⟩)) (bs ++ [.int .u8 c]) w' ∧ Below B w w') :=
  (writeByteK B b bs c w h hlen hBw).mono fun _ _ ⟨a, b, c, _⟩ => ⟨a, b, c⟩

end Go.Proofs.YtpblllpgmibkoaaGreat

namespace Go.Proofs.YtpblllpgmibkoaaGreat
open Go.RowKit

set_option maxHeartbeats 1000000 in
theorem write_neg (b : Nat) (n : Int) (w : World) (hn : n < 0) :
    Calls Tryz.prog 65 #[.pointer (some ⟨b, 0, none⟩), .int .i64 n] w fun e w' => e = .returned (.tuple #[]) ∧ w = w' := by
  go_enter Tryz.func65, Tryz.ntmps65
  go_wp2_with fail
  refine bodyPost_ret (v := .tuple #[]) (results_none rfl _ _ _) rfl ?_
  exact ⟨rfl, rfl⟩

set_option maxHeartbeats 1000000 in
theorem write_pos (B b : Nat) (l : List UInt8) (n : Int) (w : World) (h0 : 0 ≤ n) (h1 : n ≤ 9223372036854775807)
    (hbu : Lib.IsBuilder 73 5 B b (Lib.byteCells l) w) (hl : l.length ≤ 1000000) (hBw : B ≤ w.heap.size) :
    Calls Tryz.prog 65 #[.pointer (some ⟨b, 0, none⟩), .int .i64 n] w fun e w' => e = .returned (.tuple #[]) ∧
      Lib.IsBuilder 73 5 B b (Lib.byteCells (l ++ vput n)) w' ∧ Below B w w' := by
  have hn9 := vput_length n h1
  go_enter Tryz.func65, Tryz.ntmps65
  go_wp2_with fail
  go_loopw [1] (fun x wr => ∃ (q : Int) (d : List UInt8), x = .int .i64 q ∧ 0 ≤ q ∧ q ≤ n ∧ Hid (vput n = d ++ vput q) ∧ Lib.IsBuilder 73 5 B b (Lib.byteCells (l ++ d)) wr ∧ Below B w wr) (fun x _ => (RowKit.intOf x).toNat)
  case atStart => exact ⟨n, [], rfl, h0, Int.le_refl _, Lib.hid rfl, by simpa using hbu, Below.refl _ _⟩
  case round =>
    rename_i wr
    obtain ⟨q, d, rfl, hq0, hqn, HQ, hb, hbe⟩ := hrel
    have hsz := hbe.size
    have hdl : d.length ≤ 9 := by have := congrArg List.length HQ.out; rw [List.length_append] at this; omega
    have hlb : (Lib.byteCells (l ++ d)).length + 1 ≤ 140737488355328 := by rw [Lib.byteCells_length, List.length_append]; omega
    by_cases hq : 128 ≤ q
    · have e1 := vb_toNat (q % 128 + 128) (by omega) (by omega)
      have HV := Lib.hid (vput_big q hq)
      generalize vb (q % 128 + 128) = c at e1 HV
      have E1 := Lib.hid e1
      clear e1
      go_wp2_with fail
      refine (writeByte _ _ _ _ _ hb hlb (by omega)).mono ?_
      rintro e w2 ⟨rfl, hbu2, hb2⟩
      go_wp2
      refine ⟨⟨q / 128, d ++ [c], rfl, by omega, by omega, Lib.hid (by rw [HQ.out, HV.out]; simp), ?_, hbe.trans hb2⟩, by simp [RowKit.intOf]; omega⟩
      have hbu3 := Or.inr (a := Lib.BuilderAt 73 5 B b (.pointer none) (Lib.byteCells (l ++ d) ++ [.int .u8 (q % 128 + 128)]) w2) hbu2
      rw [← E1.out] at hbu3
      simpa [Lib.byteCells, Lib.IsBuilder] using hbu3
    · have e1 := vb_toNat q hq0 (by omega)
      have HV := Lib.hid (vput_small q hq0 (by omega))
      generalize vb q = c at e1 HV
      have E1 := Lib.hid e1
      clear e1
      go_wp2_with fail
      refine (writeByte _ _ _ _ _ hb hlb (by omega)).mono ?_
      rintro e w2 ⟨rfl, hbu2, hb2⟩
      go_wp2
      go_end0
      refine ⟨rfl, ?_, hbe.trans hb2⟩
      rw [HQ.out, HV.out]
      have hbu3 := Or.inr (a := Lib.BuilderAt 73 5 B b (.pointer none) (Lib.byteCells (l ++ d) ++ [.int .u8 q]) w2) hbu2
      rw [← E1.out] at hbu3
      simpa [Lib.byteCells, Lib.IsBuilder] using hbu3

theorem write_any (B b : Nat) (l : List UInt8) (n : Int) (w : World) (h1 : n ≤ 9223372036854775807)
    (hbu : Lib.IsBuilder 73 5 B b (Lib.byteCells l) w) (hl : l.length ≤ 1000000) (hBw : B ≤ w.heap.size) :
    Calls Tryz.prog 65 #[.pointer (some ⟨b, 0, none⟩), .int .i64 n] w fun e w' => e = .returned (.tuple #[]) ∧
      Lib.IsBuilder 73 5 B b (Lib.byteCells (l ++ vput n)) w' ∧ Below B w w' := by
  by_cases hn : n < 0
  · refine (write_neg b n w hn).mono ?_
    rintro e w' ⟨rfl, rfl⟩
    exact ⟨rfl, by rw [vput_neg n hn]; simpa using hbu, Below.refl _ _⟩
  · exact write_pos B b l n w (by omega) h1 hbu hl hBw

set_option maxHeartbeats 1000000 in
theorem all_any (a : Option Addr) (len cap : Nat) (zs : List Int) (w : World) (h1 : len ≤ 100000)
    (hr : IsRow .i64 w a len cap zs) (h64 : Int64s zs) :
    Calls Tryz.prog 37 #[.slice a len cap] w fun e w' => e = .returned (.string ⟨(vall (zs.take len)).toArray⟩) ∧ Below w.heap.size w w' := by
  go_enter Tryz.func37, Tryz.ntmps37
  go_wp2
  go_loopw [8] (fun i wr => ∃ k : Nat, k ≤ len ∧ i = .int .i64 k ∧ Lib.IsBuilder 73 5 w.heap.size w.heap.size (Lib.byteCells (vall (zs.take k))) wr ∧ Below w.heap.size w wr) (fun i _ => len - (RowKit.intOf i).toNat)
  case atStart => exact ⟨0, Nat.zero_le _, rfl, Lib.fresh_isBuilder _ _ w, (Below.refl _ _).alloc (Nat.le_refl _) _⟩
  case round =>
    rename_i wr
    obtain ⟨k, hk, rfl, hbu, hbe⟩ := hrel
    by_cases hlt : k < len
    · obtain h0 | ⟨b, off, rfl, hcap, hm, hz, hc⟩ := hr
      · omega
      have hlen := vall_length (zs.take k) (fun x hx => h64 x (List.mem_of_mem_take hx))
      have hlk : (zs.take k).length ≤ k := List.length_take_le _ _
      have hcell : wr.cell? ⟨b, off + k, none⟩ = some (.int .i64 (zs.getD k 0)) := by
        have h := hc k (by omega)
        rw [hbe.cell (p := ⟨b, off + k, none⟩) (World.block_lt_of_cell? w _ h)]
        exact h
      have hx := h64 (zs.getD k 0) (getD_in _ _ (by omega))
      have HS := Lib.hid (show vall (zs.take (k + 1)) = vall (zs.take k) ++ vput (zs.getD k 0) by rw [take_snoc zs k (by omega), vall_snoc])
      have HC := Lib.hid hc
      have HZ := Lib.hid hz
      clear hc hz
      generalize zs.getD k 0 = x at hcell hx HS
      have hl9 : (vall (zs.take k)).length ≤ 1000000 := by omega
      generalize vall (zs.take k) = acc at hbu hl9 HS
      have hsz := hbe.size
      clear hlen hlk
      go_wp2_with fail
      refine (write_any _ _ _ x _ hx.2 hbu hl9 hsz).mono ?_
      rintro e w2 ⟨rfl, hbu2, hb2⟩
      go_wp2
      exact ⟨⟨k + 1, by omega, by go_num, by rw [HS.out]; exact hbu2, hbe.trans hb2⟩, by simp [RowKit.intOf]; omega⟩
    · obtain rfl : k = len := by omega
      go_wp2_with (go_at_call 40; refine (Tryz.Builder_String_any _ _ _ _ hbu hbe.size).mono ?_; rintro e w1 ⟨rfl, hb1⟩)
      go_ret
      exact ⟨rfl, hbe.trans hb1⟩

end Go.Proofs.YtpblllpgmibkoaaGreat
