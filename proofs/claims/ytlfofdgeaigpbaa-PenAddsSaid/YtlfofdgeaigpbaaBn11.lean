/-
  Texts put together: HdM, VarPu, FrG, Build, FrW, HdP, PnP, PnC, PnF.
-/
import Derived.Test.YtlfofdgeaigpbaaFrM
import Derived.Test.YtlfofdgeaigpbaaBn1
import Derived.Test.YtlfofdgeaigpbaaBn6
import Derived.Below
import Derived.Laws.AppendOwn
import Derived.Shelf.Strings.Builder1
import Derived.WalkKit
import Derived.WalkSpells
import Derived.WalkLawsBesides
import Derived.Lib.Hide
import Derived.Deep.QuietTactic
import Derived.BigQuiet
import Derived.Test.YtlfofdgeaigpbaaBn4
import Derived.Test.YtlfofdgeaigpbaaBn10
import Derived.Test.YtlfofdgeaigpbaaMgAo
import Derived.Test.YtlfofdgeaigpbaaRcP
import Derived.Test.YtlfofdgeaigpbaaBn5
set_option linter.unusedSimpArgs false
set_option linter.unusedVariables false
namespace Go.Proofs.Ytlfofdgeaigpbaa
open Go.Lib

/-- The mark. -/
def hcM : List UInt8 := [99, 101, 114, 116, 1]
/-- A file's frame. -/
def hcF (l : List UInt8) : Fr := (1, ⟨l.toArray⟩)
/-- Why it has no head, or 0. -/
def hcE (l : List UInt8) : Int := frE (hcF l)
/-- Its head. -/
def hcB (l : List UInt8) : List UInt8 := hcM ++ frB (hcF l)
/-- What Put answers. -/
def hcP (l : List UInt8) : List UInt8 := if hcE l = 0 then hcB l else []

theorem hcE_ok (l : List UInt8) (h : l.length ≤ 67108864) : hcE l = 0 := by
  unfold hcE
  refine frE_ok _ ?_ ?_ ?_
  · show ¬ (1 : Int) < 1; omega
  · show ¬ 127 < (1 : Int); omega
  · show ¬ 67108864 < l.length; omega
theorem hcP_ok (l : List UInt8) (h : hcE l = 0) : hcP l = hcB l := by unfold hcP; rw [if_pos h]
theorem hcP_bad (l : List UInt8) (h : hcE l ≠ 0) : hcP l = [] := by unfold hcP; rw [if_neg h]
theorem hcB_length (l : List UInt8) (h : hcE l = 0) : (hcB l).length ≤ l.length + 15 := by
  have := frB_length (hcF l) h
  have e : (hcF l).2.size = l.length := rfl
  unfold hcB
  rw [List.length_append, show hcM.length = 5 from rfl]
  omega

/-- Take's error. -/
def hcTE (s : List UInt8) : Int := if hasPrefix s hcM = true then (if tkE (s.drop 5) ≠ 0 then tkE (s.drop 5) else if tkK (s.drop 5) ≠ 1 then 15 else 0) else if hasPrefix hcM s = true then 4 else 15
/-- The file. -/
def hcTF (s : List UInt8) : ByteArray := if hcTE s = 0 then tkB (s.drop 5) else ByteArray.empty
/-- How many bytes the head has. -/
def hcTN (s : List UInt8) : Int := if hcTE s = 0 then 5 + tkS (s.drop 5) else 0

theorem hct_bad (s : List UInt8) (x : Int) (h : hcTE s = x) (hx : x ≠ 0) : hcTE s = x ∧ hcTF s = ByteArray.empty ∧ hcTN s = 0 := by
  subst h
  exact ⟨rfl, by unfold hcTF; rw [if_neg hx], by unfold hcTN; rw [if_neg hx]⟩
theorem hct_short (s : List UInt8) (h : hasPrefix s hcM = false) (h' : hasPrefix hcM s = true) : hcTE s = 4 := by
  unfold hcTE; rw [h, h']; rfl
theorem hct_not (s : List UInt8) (h : hasPrefix s hcM = false) (h' : hasPrefix hcM s = false) : hcTE s = 15 := by
  unfold hcTE; rw [h, h']; rfl
theorem hct_err (s : List UInt8) (h : hasPrefix s hcM = true) (h' : tkE (s.drop 5) ≠ 0) : hcTE s = tkE (s.drop 5) := by
  unfold hcTE; rw [if_pos h, if_pos h']
theorem hct_kind (s : List UInt8) (h : hasPrefix s hcM = true) (h' : tkE (s.drop 5) = 0) (h2 : tkK (s.drop 5) ≠ 1) : hcTE s = 15 := by
  unfold hcTE; rw [if_pos h, if_neg (by simp [h']), if_pos h2]
theorem hct_ok (s : List UInt8) (h : hasPrefix s hcM = true) (h' : tkE (s.drop 5) = 0) (h2 : tkK (s.drop 5) = 1) : hcTE s = 0 ∧ hcTF s = tkB (s.drop 5) ∧ hcTN s = 5 + tkS (s.drop 5) := by
  have e : hcTE s = 0 := by unfold hcTE; rw [if_pos h, if_neg (by simp [h']), if_neg (by simp [h2])]
  exact ⟨e, by unfold hcTF; rw [if_pos e], by unfold hcTN; rw [if_pos e]⟩

theorem hp_iff (a b : List UInt8) : hasPrefix a b = true ↔ b <+: a := by simp [hasPrefix, List.isPrefixOf_iff_prefix]
theorem hp_len {s : List UInt8} (h : hasPrefix s hcM = true) : 5 ≤ s.length := ((hp_iff _ _).1 h).length_le

theorem preL_comm : ∀ (a b : List UInt8), preL a b = preL b a
  | [], b => by rw [preL_nil, preL_nil']
  | a :: x, [] => by rw [preL_nil, preL_nil']
  | a :: x, b :: y => by
    rw [preL_cons, preL_cons, preL_comm x y]
    by_cases e : a = b
    · rw [if_pos e, if_pos e.symm]
    · rw [if_neg e, if_neg (fun h => e h.symm)]

/-- With how many bytes of the mark bytes begin: what it says of them. -/
theorem hp_five (s : List UInt8) (h : hasPrefix s hcM = true) : preL s hcM = 5 := (preL_whole s hcM).2 ((hp_iff _ _).1 h)
theorem hp_less (s : List UInt8) (h : hasPrefix s hcM = false) : preL s hcM < 5 := by
  have h1 := (preL_le s hcM).2
  have h2 : preL s hcM ≠ 5 := fun e => by
    have := (hp_iff s hcM).2 ((preL_whole s hcM).1 e)
    rw [h] at this; cases this
  rw [show hcM.length = 5 from rfl] at h1
  omega
theorem hp_all (s : List UInt8) (h : hasPrefix hcM s = true) : preL s hcM = s.length := by
  rw [preL_comm]; exact (preL_whole hcM s).2 ((hp_iff _ _).1 h)
theorem hp_some (s : List UInt8) (h : hasPrefix hcM s = false) : preL s hcM ≠ s.length := fun e => by
  rw [preL_comm] at e
  have := (hp_iff hcM s).2 ((preL_whole hcM s).1 e)
  rw [h] at this; cases this

/-- What was put is taken as it was, whatever stands behind. -/
theorem hct_put (l : List UInt8) (h : hcE l = 0) (z : List UInt8) : hcTE (hcB l ++ z) = 0 ∧ hcTF (hcB l ++ z) = ⟨l.toArray⟩ ∧ hcTN (hcB l ++ z) = ((hcB l).length : Int) := by
  obtain ⟨t1, t2, t3, t4⟩ := tk_put (hcF l) h z
  have e : (hcB l ++ z).drop 5 = frB (hcF l) ++ z := rfl
  have hp : hasPrefix (hcB l ++ z) hcM = true := by
    rw [hp_iff]
    unfold hcB
    rw [List.append_assoc]
    exact List.prefix_append _ _
  obtain ⟨o1, o2, o3⟩ := hct_ok (hcB l ++ z) hp (by rw [e]; exact t1) (by rw [e, t3]; rfl)
  refine ⟨o1, ?_, ?_⟩
  · rw [o2, e, t4]; rfl
  · rw [o3, e, t2]
    unfold hcB
    rw [List.length_append, show hcM.length = 5 from rfl]
    omega

theorem text_inj {a b : List UInt8} (h : (⟨a.toArray⟩ : ByteArray) = ⟨b.toArray⟩) : a = b := by
  have := congrArg (fun d => d.data.toList) h
  simpa using this

/-- The bytes of two heads, whatever stands behind them: the files are one. -/
theorem hcB_inj {a b x y : List UInt8} (ha : hcE a = 0) (hb : hcE b = 0) (h : hcB a ++ x = hcB b ++ y) : a = b := by
  obtain ⟨_, h1, _⟩ := hct_put a ha x
  obtain ⟨_, h2, _⟩ := hct_put b hb y
  rw [h] at h1
  exact text_inj (h1.symm.trans h2)

theorem bind_self (a z : List UInt8) : preL a (a ++ z) = a.length := by
  rw [preL_comm]
  exact (preL_whole _ _).2 (List.prefix_append _ _)
/-- Another file's head, and whatever stands behind: it ends in neither. -/
theorem bind_other {a b : List UInt8} (ha : hcE a = 0) (hb : hcE b = 0) (hn : a ≠ b) (z : List UInt8) : preL (hcB a) (hcB b ++ z) < (hcB a).length ∧ preL (hcB a) (hcB b ++ z) < (hcB b ++ z).length := by
  have hl := preL_le (hcB a) (hcB b ++ z)
  have h1 : preL (hcB a) (hcB b ++ z) ≠ (hcB a).length := fun e => by
    rw [preL_comm] at e
    obtain ⟨r, hr⟩ := (preL_whole _ _).1 e
    exact hn (hcB_inj ha hb hr)
  have h2 : preL (hcB a) (hcB b ++ z) ≠ (hcB b ++ z).length := fun e => by
    obtain ⟨r, hr⟩ := (preL_whole _ _).1 e
    rw [List.append_assoc] at hr
    exact hn.symm (hcB_inj hb ha (hr.trans (List.append_nil _).symm))
  omega
end Go.Proofs.Ytlfofdgeaigpbaa

namespace Go.Proofs.Ytlfofdgeaigpbaa
open Go.RowKit

set_option maxHeartbeats 400000 in
theorem put_any (n : Int) (w : World) (h1 : -9223372036854775808 ≤ n) (h2 : n ≤ 9223372036854775807) :
    Calls Try.prog 46 #[.int .i64 n] w fun e w' => e = .returned (.string ⟨(vput n).toArray⟩) ∧ Below w.heap.size w w' := by
  go_enter Try.func46, Try.ntmps46
  go_wp2_with fail
  refine (all_any _ 1 1 [n] _ (by omega) ?_ ?_).mono ?_
  · refine .inr ⟨w.heap.size, 0, rfl, by omega, by unfold maxLen; omega, rfl, fun i hi => ?_⟩
    obtain rfl : i = 0 := by omega
    rw [Nat.zero_add, World.cell?_alloc_new]
    rfl
  · intro x hx
    simp at hx
    omega
  rintro e w' ⟨rfl, hb⟩
  go_wp2
  go_ret
  exact ⟨by simp [vall], ((Below.refl _ _).alloc (Nat.le_refl _) _).trans (hb.mono (by simp))⟩
end Go.Proofs.Ytlfofdgeaigpbaa

namespace Go.Proofs.Ytlfofdgeaigpbaa
open Go.RowKit

/-- A slice that holds these frames. -/
def IsFrames (w : World) (a : Option Addr) (len : Nat) (fs : List Fr) : Prop :=
  fs.length = len ∧ (len = 0 ∨ ∃ b off, a = some ⟨b, off, none⟩ ∧ ∀ i (h : i < fs.length), w.cell? ⟨b, off + i * 2, none⟩ = some (.int .i64 (fs[i]'h).1) ∧ w.cell? ⟨b, off + i * 2 + 1, none⟩ = some (.string (fs[i]'h).2))

theorem IsFrames.below {w w' : World} {a : Option Addr} {len : Nat} {fs : List Fr} (h : IsFrames w a len fs) (hb : Below w.heap.size w w') : IsFrames w' a len fs := by
  obtain ⟨hl, h⟩ := h
  refine ⟨hl, ?_⟩
  rcases h with h | ⟨b, off, ha, hc⟩
  · exact .inl h
  · refine .inr ⟨b, off, ha, fun i hi => ?_⟩
    obtain ⟨h1, h2⟩ := hc i hi
    rw [hb.cell (p := ⟨b, off + i * 2, none⟩) (World.block_lt_of_cell? w _ h1), hb.cell (p := ⟨b, off + i * 2 + 1, none⟩) (World.block_lt_of_cell? w _ h2)]
    exact ⟨h1, h2⟩

/-- One of them: where it lies. -/
theorem IsFrames.get {w : World} {a : Option Addr} {len : Nat} {fs : List Fr} (h : IsFrames w a len fs) (k : Nat) (hk : k < len) :
    ∃ b off, a = some ⟨b, off, none⟩ ∧ ∃ f, fs[k]? = some f ∧ w.cell? ⟨b, off + k * 2, none⟩ = some (.int .i64 f.1) ∧ w.cell? ⟨b, off + k * 2 + 1, none⟩ = some (.string f.2) := by
  obtain ⟨hl, h⟩ := h
  rcases h with h | ⟨b, off, ha, hc⟩
  · omega
  · have hkl : k < fs.length := by omega
    obtain ⟨h1, h2⟩ := hc k hkl
    exact ⟨b, off, ha, fs[k], List.getElem?_eq_getElem hkl, h1, h2⟩

/-- The cells of frames. -/
def frCells (fs : List Fr) : List Value := fs.flatMap fun f => [.int .i64 f.1, .string f.2]

theorem frCells_snoc (fs : List Fr) (f : Fr) : frCells (fs ++ [f]) = frCells fs ++ [.int .i64 f.1, .string f.2] := by simp [frCells]

theorem frCells_at : ∀ (fs : List Fr) (i : Nat) (h : i < fs.length), (frCells fs)[i * 2]? = some (.int .i64 (fs[i]'h).1) ∧ (frCells fs)[i * 2 + 1]? = some (.string (fs[i]'h).2)
  | f :: r, 0, _ => by simp [frCells]
  | f :: r, i + 1, h => by
    have ih := frCells_at r i (by simpa using h)
    have e : frCells (f :: r) = .int .i64 f.1 :: .string f.2 :: frCells r := by simp [frCells]
    rw [e, show (i + 1) * 2 = i * 2 + 1 + 1 by omega]
    simpa using ih

theorem owns_frames {w : World} {base : Nat} {e : TypeId} {v : Value} {n : Nat} {fs : List Fr} (h : w.ownsRow base e 2 v n (frCells fs)) (hn : fs.length = n) :
    ∃ ao cap, v = .slice ao n cap ∧ IsFrames w ao n fs := by
  rcases h.2 with ⟨hv, h0⟩ | ⟨g, cap, cur, hv, _⟩
  · have h0' : n = 0 := h0
    subst h0'
    exact ⟨none, 0, hv, hn, .inl rfl⟩
  · refine ⟨some ⟨g, 0, none⟩, cap, hv, hn, .inr ⟨g, 0, rfl, fun i hi => ?_⟩⟩
    have hc := h.cells (g := g) (by rw [hv]; rfl)
    obtain ⟨h1, h2⟩ := frCells_at fs i hi
    have c1 := hc _ _ h1
    have c2 := hc _ _ h2
    rw [addPlain] at c1 c2
    simpa using And.intro c1 c2

theorem owns_below {w w' : World} {base : Nat} {e : TypeId} {size : Nat} {v : Value} {n : Nat} {xs : List Value} (h : w.ownsRow base e size v n xs) (hb : Below w.heap.size w w') : w'.ownsRow base e size v n xs :=
  h.kept (row := none) ⟨hb.os, hb.tape, hb.output, hb.size, fun k hk _ => hb.block k hk⟩ (Classical.em _)

/-- A frame's two cells, in a block of their own. -/
theorem pair_news {w : World} {X : Nat} {T : TypeId} {u v : Value} (h : w.heap[X]? = some (.cells #[u, v] T (0, 0))) : ∀ j x, [u, v][j]? = some x → w.cell? ((⟨X, 0, none⟩ : Addr).add j) = some x := by
  intro j x hj
  match j, hj with
  | 0, hj => simp at hj; subst hj; simp [Addr.add, World.cell?, h]
  | 1, hj => simp at hj; subst hj; simp [Addr.add, World.cell?, h]
theorem pair_one {k : Int} {d : ByteArray} : ∀ x ∈ [Value.int .i64 k, .string d], x.oneCell' = true := by
  intro x hx
  simp at hx
  rcases hx with rfl | rfl <;> rfl
end Go.Proofs.Ytlfofdgeaigpbaa

namespace Go.Proofs.Ytlfofdgeaigpbaa
open Go.RowKit

set_option maxHeartbeats 2000000 in
set_option maxRecDepth 100000 in
theorem writeStringK (B b : Nat) (bs : List Value) (s : ByteArray) (w : World) (h : Lib.IsBuilder 57 5 B b bs w) (hlen : bs.length + s.size ≤ 140737488355328) (hBw : B ≤ w.heap.size) :
    Calls Try.prog 25 #[.pointer (some ⟨b, 0, none⟩), .string s] w fun e w' => e = .returned (.tuple #[.int .i64 s.size, .nilIface]) ∧ (Lib.BuilderAt 57 5 B b (.pointer (some ⟨b, 0, none⟩)) (bs ++ Lib.strCells s) w' ∧ Below B w w' ∧ Kept b 5 w w') := by
  obtain ⟨i0, hi, hz0, hz1, hz2⟩ := info_parts byte_info
  go_enter Try.func25, Try.ntmps25
  go_wp2_with (go_at_call 34; refine (copyCheckK B b bs _ h).mono ?_)
  rintro e w1 ⟨rfl, h1, hb1, hk1⟩
  obtain ⟨hB, v, hbk, hown, hne⟩ := h1
  have c0 : w1.cell? ⟨b, 0, none⟩ = some (.pointer (some ⟨b, 0, none⟩)) := by rw [Lib.cell_of_heap hbk]; rfl
  have c1 : w1.cell? ⟨b, 1, none⟩ = some v := by rw [Lib.cell_of_heap hbk]; rfl
  go_wp2_with (at_builtin; refine Lib.wpList_append_own_string _ rfl _ _ 55 9 rfl B 5 i0 Try.underlying55 Try.underlying9 hi hz0 hz1 hz2 _ _ _ rfl hown s rfl ?c3 ?c4 ?c5 ?_)
  case c3 => unfold maxLen; omega
  case c4 => omega
  case c5 => have := hb1.size; omega
  intro v' w2 hown' hgrow _
  have hlt : b < w1.heap.size := by
    rcases Nat.lt_or_ge b w1.heap.size with h' | h'
    · exact h'
    · simp [Array.getElem?_eq_none h'] at hbk
  have hb2 : w2.heap[b]? = some (.cells #[.pointer (some ⟨b, 0, none⟩), v] 57 (0, 0)) := by
    rw [hgrow.block b hlt (fun e => hne e.symm)]
    exact hbk
  have d0 : w2.cell? ⟨b, 0, none⟩ = some (.pointer (some ⟨b, 0, none⟩)) := by rw [Lib.cell_of_heap hb2]; rfl
  have d1 : w2.cell? ⟨b, 1, none⟩ = some v := by rw [Lib.cell_of_heap hb2]; rfl
  have f1 : w2.frozen? ⟨b, 1, none⟩ = false := Lib.frozen_of_heap hb2 1
  obtain ⟨ao, n', cap, rfl⟩ : ∃ ao n' cap, v' = .slice ao n' cap := by
    rcases hown'.2 with ⟨hv, _⟩ | ⟨g, cap, cur, hv, _⟩
    · exact ⟨_, _, _, hv⟩
    · exact ⟨_, _, _, hv⟩
  go_wp2
  go_ret2
  refine ⟨rfl, ?_, ?_, ?_⟩
  · exact Lib.BuilderAt.put (T := 57) (e := 5) hB hb2 (bs' := bs ++ Lib.strCells s) (by simpa [Lib.strCells_length] using hown') (by decide)
  · exact (hb1.grown hgrow (by have := hb1.size; omega) (fun k hk => (hown.lt k hk).1)).setCell (p := ⟨b, 1, none⟩) hB _
  · exact (hk1.grown hown hgrow).setCell _ _

theorem writeString (B b : Nat) (bs : List Value) (s : ByteArray) (w : World) (h : Lib.IsBuilder 57 5 B b bs w) (hlen : bs.length + s.size ≤ 140737488355328) (hBw : B ≤ w.heap.size) :
    Calls Try.prog 25 #[.pointer (some ⟨b, 0, none⟩), .string s] w fun e w' => e = .returned (.tuple #[.int .i64 s.size, .nilIface]) ∧ (Lib.BuilderAt 57 5 B b (.pointer (some ⟨b, 0, none⟩)) (bs ++ Lib.strCells s) w' ∧ Below B w w') :=
  (writeStringK B b bs s w h hlen hBw).mono fun _ _ ⟨a, b, c, _⟩ => ⟨a, b, c⟩

end Go.Proofs.Ytlfofdgeaigpbaa

namespace Go.Proofs.Ytlfofdgeaigpbaa
open Go.RowKit

theorem kind_yes (n : Int) (w : World) (h0 : 1 ≤ n) (h1 : n ≤ 127) : Calls Try.prog 44 #[.int .i64 n] w fun e w' => e = .returned (.bool true) ∧ w = w' := by
  go_enter Try.func44, Try.ntmps44
  go_wp2
  go_ret
  exact ⟨rfl, rfl⟩

theorem kind_no (n : Int) (w : World) (h : n < 1 ∨ 127 < n) : Calls Try.prog 44 #[.int .i64 n] w fun e w' => e = .returned (.bool false) ∧ w = w' := by
  by_cases h1 : 1 ≤ n
  · have hd : decide (n ≤ 127) = false := by simp; omega
    go_enter Try.func44, Try.ntmps44
    go_wp2
    go_ret
    exact ⟨rfl, rfl⟩
  · go_enter Try.func44, Try.ntmps44
    go_wp2
    go_ret
    exact ⟨rfl, rfl⟩

set_option maxHeartbeats 400000 in
theorem fault_any (f : Fr) (w : World) (hs : f.2.size ≤ 9223372036854775807) :
    Calls Try.prog 35 #[.agg #[.int .i64 f.1, .string f.2]] w fun e w' => e = .returned (.int .i64 (frE f)) ∧ Below w.heap.size w w' := by
  by_cases h0 : f.1 < 1
  · have he := Lib.hid (frE_low f h0)
    obtain ⟨k, d⟩ := f
    simp only at h0 hs ⊢
    go_enter Try.func35, Try.ntmps35
    go_wp2_with fail
    refine (kind_no k _ (by omega)).mono ?_
    rintro e w' ⟨rfl, rfl⟩
    go_wp2
    go_ret
    exact ⟨by rw [he.out]; rfl, (Below.refl _ _).alloc (Nat.le_refl _) _⟩
  by_cases h1 : 127 < f.1
  · have he := Lib.hid (frE_high f h0 h1)
    obtain ⟨k, d⟩ := f
    simp only at h0 h1 hs ⊢
    go_enter Try.func35, Try.ntmps35
    go_wp2_with fail
    refine (kind_no k _ (by omega)).mono ?_
    rintro e w' ⟨rfl, rfl⟩
    go_wp2
    go_ret
    exact ⟨by rw [he.out]; rfl, (Below.refl _ _).alloc (Nat.le_refl _) _⟩
  by_cases h2 : 67108864 < f.2.size
  · have he := Lib.hid (frE_long f h0 h1 h2)
    obtain ⟨k, d⟩ := f
    simp only at h0 h1 h2 hs ⊢
    go_enter Try.func35, Try.ntmps35
    go_wp2_with fail
    refine (kind_yes k _ (by omega) (by omega)).mono ?_
    rintro e w' ⟨rfl, rfl⟩
    go_wp2
    go_ret
    exact ⟨by rw [he.out]; rfl, (Below.refl _ _).alloc (Nat.le_refl _) _⟩
  · have he := Lib.hid (frE_ok f h0 h1 h2)
    obtain ⟨k, d⟩ := f
    simp only at h0 h1 h2 hs ⊢
    go_enter Try.func35, Try.ntmps35
    go_wp2_with fail
    refine (kind_yes k _ (by omega) (by omega)).mono ?_
    rintro e w' ⟨rfl, rfl⟩
    go_wp2
    go_ret
    exact ⟨by rw [he.out]; rfl, (Below.refl _ _).alloc (Nat.le_refl _) _⟩

theorem strCells_eq (s : ByteArray) : Lib.strCells s = Lib.byteCells s.data.toList := rfl

set_option maxHeartbeats 1000000 in
theorem frwrite_any (B b : Nat) (l : List UInt8) (f : Fr) (w : World) (he : frE f = 0)
    (hbu : Lib.IsBuilder 57 5 B b (Lib.byteCells l) w) (hl : l.length ≤ 1000000000) (hBw : B ≤ w.heap.size) :
    Calls Try.prog 36 #[.pointer (some ⟨b, 0, none⟩), .agg #[.int .i64 f.1, .string f.2]] w fun e w' => e = .returned (.tuple #[]) ∧
      Lib.IsBuilder 57 5 B b (Lib.byteCells (l ++ frB f)) w' ∧ Below B w w' := by
  obtain ⟨h1, h2, h3⟩ := frE_parts f he
  clear he
  obtain ⟨k, d⟩ := f
  simp only at h1 h2 h3
  have hV := vput_length (d.size : Int) (by omega)
  have hvb := vb_toNat k (by omega) (by omega)
  go_enter Try.func36, Try.ntmps36
  go_wp2_with fail
  have hbo := Lib.hid (heap_alloc_new w (.cells #[.int .i64 k, .string d] 65))
  have hlt := IsBuilder.lt hbu
  refine (writeByteK B b (Lib.byteCells l) _ _ (IsBuilder.below hbu ((Below.refl _ _).alloc (Nat.le_refl _) _)) (by rw [Lib.byteCells_length]; omega) (by simp; omega)).mono ?_
  rintro e w1 ⟨rfl, hbu1, hb1, hk1⟩
  have hx1 := Lib.hid (hk1 _ _ _ _ (by omega) (by decide) hbo.out)
  have hsz1 := hb1.size
  have hc0 : w1.cell? ⟨w.heap.size, 0, none⟩ = some (.int .i64 k) := by rw [Lib.cell_of_heap hx1.out]; rfl
  have hc1 : w1.cell? ⟨w.heap.size, 1, none⟩ = some (.string d) := by rw [Lib.cell_of_heap hx1.out]; rfl
  go_wp2_with fail
  refine (put_any (d.size : Int) _ (by omega) (by omega)).mono ?_
  rintro e w2 ⟨rfl, hb2⟩
  have hx2 := Lib.hid (Kept.below (b := b) (e := 5) hb2 _ _ _ _ (by omega) (by decide) hx1.out)
  have hsz2 := hb2.size
  go_wp2_with fail
  refine (writeStringK B b _ _ _ (IsBuilder.below (Or.inr hbu1) hb2) ?_ ?_).mono ?_
  · rw [List.length_append, Lib.byteCells_length, bsize]; simp; omega
  · simp at hsz1; omega
  rintro e w3 ⟨rfl, hbu3, hb3, hk3⟩
  have hx3 := Lib.hid (hk3 _ _ _ _ (by omega) (by decide) hx2.out)
  have hd0 : w3.cell? ⟨w.heap.size, 0, none⟩ = some (.int .i64 k) := by rw [Lib.cell_of_heap hx3.out]; rfl
  have hd1 : w3.cell? ⟨w.heap.size, 1, none⟩ = some (.string d) := by rw [Lib.cell_of_heap hx3.out]; rfl
  go_wp2_with fail
  refine (writeString B b _ _ _ (Or.inr hbu3) ?_ ?_).mono ?_
  · rw [List.length_append, List.length_append, Lib.byteCells_length, Lib.strCells_length, bsize]; simp; omega
  · have := hb3.size; simp at hsz1; omega
  rintro e w4 ⟨rfl, hbu4, hb4⟩
  go_wp2
  go_end0
  refine ⟨rfl, ?_, ?_⟩
  · have hbu5 : Lib.IsBuilder 57 5 B b _ w4 := Or.inr hbu4
    simpa [frB, Lib.byteCells, Lib.strCells, Lib.IsBuilder, hvb] using hbu5
  · exact (((((Below.refl _ _).alloc hBw _).trans hb1).trans (hb2.mono (by simp at hsz1; omega))).trans hb3).trans hb4

set_option maxHeartbeats 1000000 in
theorem frput_any (f : Fr) (w : World) (hs : f.2.size ≤ 9223372036854775807) :
    Calls Try.prog 28 #[.agg #[.int .i64 f.1, .string f.2]] w fun e w' => e = .returned (.tuple #[.string ⟨(putB f).toArray⟩, .int .i64 (frE f)]) ∧ Below w.heap.size w w' := by
  have hF : Hid (∀ W, Calls Try.prog 35 #[.agg #[.int .i64 f.1, .string f.2]] W fun e w' => e = .returned (.int .i64 (frE f)) ∧ Below W.heap.size W w') := Lib.hid (fun W => fault_any f W hs)
  by_cases he : frE f = 0
  · have hp : Hid (putB f = frB f) := Lib.hid (by unfold putB; rw [if_pos he])
    have hW : Hid (∀ B b W, Lib.IsBuilder 57 5 B b (Lib.byteCells []) W → B ≤ W.heap.size → Calls Try.prog 36 #[.pointer (some ⟨b, 0, none⟩), .agg #[.int .i64 f.1, .string f.2]] W fun e w' => e = .returned (.tuple #[]) ∧
      Lib.IsBuilder 57 5 B b (Lib.byteCells (frB f)) w' ∧ Below B W w') := Lib.hid (fun B b W h1 h2 => frwrite_any B b [] f W he h1 (by simp) h2)
    rw [he] at hF ⊢
    rw [hp.out]
    clear he
    generalize frB f = bs at hW
    obtain ⟨k, d⟩ := f
    simp only at hs hF hW ⊢
    go_enter Try.func28, Try.ntmps28
    go_wp2_with fail
    refine (hF.out _).mono ?_
    rintro e w1 ⟨rfl, hb1⟩
    have hsz1 := hb1.size
    have hc0 : ∀ o, (w1.alloc o).cell? ⟨w.heap.size, 0, none⟩ = some (.int .i64 k) := fun o => cell_alloc (cell_below (Lib.cell_of_heap (heap_alloc_new w _) 0) hb1) o
    have hc1 : ∀ o, (w1.alloc o).cell? ⟨w.heap.size, 1, none⟩ = some (.string d) := fun o => cell_alloc (cell_below (Lib.cell_of_heap (heap_alloc_new w _) 1) hb1) o
    go_wp2_with fail
    refine (hW.out w1.heap.size _ _ ?_ ?_).mono ?_
    · exact Lib.fresh_isBuilder _ _ w1
    · simp
    rintro e w2 ⟨rfl, hbu2, hb2⟩
    have hsz2 := hb2.size
    have hbe : Below w1.heap.size w1 w2 := ((Below.refl _ _).alloc (Nat.le_refl _) _).trans hb2
    go_wp2_with (go_at_call 26; refine (Try.Builder_String_any _ _ _ _ hbu2 hbe.size).mono ?_; rintro e w3 ⟨rfl, hb3⟩)
    go_ret2
    exact ⟨rfl, ((Below.refl _ _).alloc (Nat.le_refl _) _).trans ((hb1.mono (by simp)).trans ((hbe.trans hb3).mono (by simp at hsz1; omega)))⟩
  · have hp : Hid (putB f = []) := Lib.hid (by unfold putB; rw [if_neg he])
    rw [hp.out]
    have he' : (frE f == 0) = false := by simpa using he
    generalize frE f = x at *
    obtain ⟨k, d⟩ := f
    simp only at hs hF ⊢
    clear he
    go_enter Try.func28, Try.ntmps28
    go_wp2_with fail
    refine (hF.out _).mono ?_
    rintro e w1 ⟨rfl, hb1⟩
    go_wp2
    go_ret2
    exact ⟨rfl, ((Below.refl _ _).alloc (Nat.le_refl _) _).trans (hb1.mono (by simp))⟩
end Go.Proofs.Ytlfofdgeaigpbaa

namespace Go.Proofs.Ytlfofdgeaigpbaa
open Go.RowKit

/-- Put's answer: the head, or why there is none. -/
def RetHp (l : List UInt8) (w : World) (e : Ending) (w' : World) : Prop := e = .returned (.tuple #[.string ⟨(hcP l).toArray⟩, .int .i64 (hcE l)]) ∧ Below w.heap.size w w'

theorem hd_plus (t : List UInt8) : (⟨#[99, 101, 114, 116, 1]⟩ : ByteArray) ++ (⟨t.toArray⟩ : ByteArray) = ⟨(hcM ++ t).toArray⟩ := by
  apply ByteArray.ext
  simp [hcM]

/-- frame.Put of a file's frame. -/
theorem hd_frame (l : List UInt8) (w : World) (hs : l.length ≤ 1000000000) :
    Calls Try.prog 28 #[.agg #[.int .i64 1, .string ⟨l.toArray⟩]] w fun e w' => e = .returned (.tuple #[.string ⟨(putB (hcF l)).toArray⟩, .int .i64 (hcE l)]) ∧ Below w.heap.size w w' :=
  frput_any (hcF l) w (by show l.length ≤ 9223372036854775807; omega)

set_option maxHeartbeats 1000000 in
theorem hdput_any (l : List UInt8) (w : World) (hs : l.length ≤ 1000000000) : Calls Try.prog 17 #[.string ⟨l.toArray⟩] w (RetHp l w) := by
  have HF := Lib.hid (hd_frame l w hs)
  by_cases he : hcE l = 0
  · have hp := hcP_ok l he
    have hlen := hcB_length l he
    unfold hcB at hp hlen
    rw [show putB (hcF l) = frB (hcF l) from if_pos he, he] at HF
    delta RetHp
    rw [hp, he]
    have hadd := hd_plus (frB (hcF l))
    rw [List.length_append, show hcM.length = 5 from rfl] at hlen
    generalize frB (hcF l) = t at *
    have hz : (⟨t.toArray⟩ : ByteArray).size = t.length := bsize t
    clear he hp
    go_enter Try.func17, Try.ntmps17
    go_wp2_with fail
    refine HF.out.mono ?_
    rintro e w1 ⟨rfl, hb1⟩
    go_wp2
    go_ret2
    exact ⟨rfl, hb1⟩
  · have hp := hcP_bad l he
    rw [show putB (hcF l) = [] from if_neg he] at HF
    delta RetHp
    rw [hp]
    have he' : (hcE l == 0) = false := by simpa using he
    generalize hcE l = x at *
    clear hp
    go_enter Try.func17, Try.ntmps17
    go_wp2_with fail
    refine HF.out.mono ?_
    rintro e w1 ⟨rfl, hb1⟩
    go_wp2
    go_ret2
    exact ⟨rfl, hb1⟩

end Go.Proofs.Ytlfofdgeaigpbaa

namespace Go.Proofs.Ytlfofdgeaigpbaa
open Go.RowKit

/-- A pen in block b: its merger, and the kind of the last record that came. -/
def IsPen (w W : World) (b : Nat) (came : List Rv) : Prop :=
  ∃ (cs : Array Value) (y : Rv) (s : Bool), IsMo W b 0 44 cs y s ∧ cs[5]? = some (.int .i64 (lastK came)) ∧ PnHeld w W came y s
theorem IsPen.keep {w W W' : World} {b : Nat} {came : List Rv} (h : IsPen w W b came) (hi : Keep 3 W W') (hp : Keep 44 W W') : IsPen w W' b came := by
  obtain ⟨cs, y, s, h1, h2, h3⟩ := h
  exact ⟨cs, y, s, h1.same (by rw [h1.1]; exact hp b _ _ h1.1), h2, h3.keep hi⟩
theorem IsPen.below {w W W' : World} {b : Nat} {came : List Rv} (h : IsPen w W b came) (hb : Below W.heap.size W W') : IsPen w W' b came := h.keep (.below hb) (.below hb)
theorem IsPen.typ {w W : World} {b : Nat} {came : List Rv} (h : IsPen w W b came) : ∃ cs, W.heap[b]? = some (.cells cs 44 (0, 0)) := by
  obtain ⟨cs, y, s, h1, h2, h3⟩ := h
  exact ⟨cs, h1.1⟩
theorem IsPen.lt {w W : World} {b : Nat} {came : List Rv} (h : IsPen w W b came) : b < W.heap.size := by
  obtain ⟨cs, h⟩ := h.typ
  exact heap_lt h

set_option maxHeartbeats 1000000 in
theorem pnnew_any (w W : World) (f : List UInt8) (hfl : f.length ≤ 1000) : Calls Try.prog 7 #[.string ⟨f.toArray⟩] W fun e W' => ∃ b, e = .returned (.tuple #[.pointer (some ⟨b, 0, none⟩), .string ⟨(hcB f).toArray⟩, .int .i64 0]) ∧ W.heap.size ≤ b ∧ IsPen w W' b [] ∧ Below W.heap.size W W' := by
  have he := hcE_ok f (by omega)
  have HP : Hid (Calls Try.prog 17 #[.string ⟨f.toArray⟩] W fun e W' => e = .returned (.tuple #[.string ⟨(hcP f).toArray⟩, .int .i64 (hcE f)]) ∧ Below W.heap.size W W') := Lib.hid (hdput_any f W (by omega))
  rw [he, hcP_ok f he] at HP
  generalize hcB f = B at *
  clear he
  go_enter Try.func7, Try.ntmps7
  go_wp2_with fail
  refine HP.out.mono ?_
  rintro e w1 ⟨rfl, hb1⟩
  have hX := heap_alloc_new w1 (.cells #[.int .i64 0, .int .i64 0, .int .i64 0, .slice none 0 0, .bool false, .int .i64 0] 44)
  have HB : Hid (Below W.heap.size W (w1.alloc (.cells #[.int .i64 0, .int .i64 0, .int .i64 0, .slice none 0 0, .bool false, .int .i64 0] 44))) := Lib.hid (hb1.alloc hb1.size _)
  have HX : Hid (IsPen w (w1.alloc (.cells #[.int .i64 0, .int .i64 0, .int .i64 0, .slice none 0 0, .bool false, .int .i64 0] 44)) w1.heap.size []) := Lib.hid ⟨_, rv0, false, ⟨hX, rfl, rfl, rfl, rfl, rfl⟩, rfl, PnHeld.start _ _⟩
  have hsz := hb1.size
  clear HP hb1 hX
  go_wp2
  go_ret3
  exact ⟨w1.heap.size, rfl, hsz, HX.out, HB.out⟩

theorem pnended_nil (w : World) : Calls Try.prog 12 #[.pointer none] w fun e w' => e = .returned (.bool false) ∧ w' = w := by
  go_enter Try.func12, Try.ntmps12
  go_wp2
  go_ret
  exact ⟨rfl, rfl⟩
theorem pnended_any {w W : World} {b : Nat} {came : List Rv} (h : IsPen w W b came) : Calls Try.prog 12 #[.pointer (some ⟨b, 0, none⟩)] W fun e W' => e = .returned (.bool (decide (lastK came = 6))) ∧ ∃ q, W' = W.drewN q := by
  obtain ⟨cs, y, s, h1, h2, h3⟩ := h
  have c5 : W.cell? ⟨b, 5, none⟩ = some (.int .i64 (lastK came)) := by rw [Lib.cell_of_heap h1.1]; exact h2
  have HQ : Hid ((lastK came == 6) = decide (lastK came = 6)) := Lib.hid (by by_cases h : lastK came = 6 <;> simp [h])
  generalize decide (lastK came = 6) = q at HQ ⊢
  generalize lastK came = k at *
  clear h1 h2 h3
  go_enter Try.func12, Try.ntmps12
  go_wp2
  go_ret
  exact ⟨by rw [← HQ.out]; rfl, 0, rfl⟩
end Go.Proofs.Ytlfofdgeaigpbaa

namespace Go.Proofs.Ytlfofdgeaigpbaa
open Go.RowKit

theorem pn_check {w W : World} {k n r : Int} {a : Option Addr} {L c : Nat} (hl : L ≤ 1000000) (h1 : (rvI w ⟨k, n, r, a, L, c⟩).length = L) (h2 : IsRow .i64 W a L L (rvI w ⟨k, n, r, a, L, c⟩)) :
    Calls Try.prog 30 #[.agg #[.int .i64 k, .int .i64 n, .int .i64 r, .slice a L c]] W fun e W' => e = .returned (.bool (rvOk w ⟨k, n, r, a, L, c⟩)) ∧ Below W.heap.size W W' :=
  rccheck_any k n r a L c _ W h1 (by omega) h2 _ rfl
/-- What is held is written as what came. -/
theorem pn_hput {w W : World} {came : List Rv} {x' : Rv} {k n r : Int} {a : Option Addr} {L c : Nat} (hf : Fits w came) (hok : mayS (rvOk w) [] came = 0) (hm : x' ∈ mgAll came) (hc : Cp w W x' ⟨k, n, r, a, L, c⟩) :
    Calls Try.prog 31 #[.agg #[.int .i64 k, .int .i64 n, .int .i64 r, .slice a L c]] W fun e W' => e = .returned (.tuple #[.string ⟨(rvB w x').toArray⟩, .int .i64 0]) ∧ Below W.heap.size W W' := by
  obtain ⟨h0, h1, h2, h3, h4, h5⟩ := PnHeld.row hf hok hm hc
  dsimp only at h0 h1 h2 h3 h4
  refine (rcput_any k n r a L c _ W h1 (by omega) h2).mono fun e W' h => ?_
  rcases h with ⟨⟨_, e1⟩ | ⟨e1, _⟩, hb⟩
  · rw [h4] at e1
    exact ⟨e1, hb⟩
  · rw [h3] at e1; cases e1

/-- What Add of a pen's merger answers: whether a record is told, which one; what is held then. -/
def RetMo (w : World) (b : Nat) (T : TypeId) (cs : Array Value) (came : List Rv) (x : Rv) (W : World) (e : Ending) (W' : World) : Prop :=
  ∃ (D z : Rv) (q s' : Bool) (cs' : Array Value), e = .returned (.tuple #[.agg #[.int .i64 D.k, .int .i64 D.n, .int .i64 D.r, .slice D.a D.len D.cap], .bool q]) ∧ But W.heap.size b W W' ∧ IsMo W' b 0 T cs' z s' ∧ Rest 0 cs cs' ∧ PnHeld w W' (came ++ [x]) z s' ∧
    (x.k = 6 → s' = true ∧ Cp w W' x z) ∧
    ((q = false ∧ pnNew (rvB w) (mgAll came) x = if x.k = 6 then rvB w x else []) ∨ (q = true ∧ ∃ x', Cp w W' x' D ∧ x' ∈ mgAll came ∧ pnNew (rvB w) (mgAll came) x = rvB w x' ++ (if x.k = 6 then rvB w x else [])))
theorem pn_madd {w W : World} (hwW : Below w.heap.size w W) {b : Nat} (hwb : w.heap.size ≤ b) {T : TypeId} (hT : 3 ≠ T) {cs : Array Value} {came : List Rv} {y : Rv} {s : Bool} (hm : IsMo W b 0 T cs y s) (hh : PnHeld w W came y s)
    {k n r : Int} {a : Option Addr} {L c : Nat} (hrd : Rd w ⟨k, n, r, a, L, c⟩) (hl : L ≤ 1000000) (he : mayE (rvOk w) came ⟨k, n, r, a, L, c⟩ = 0) :
    Calls Try.prog 21 #[.pointer (some ⟨b, 0, none⟩), .agg #[.int .i64 k, .int .i64 n, .int .i64 r, .slice a L c]] W (RetMo w b T cs came ⟨k, n, r, a, L, c⟩ W) := by
  obtain ⟨yk, yn, yr, ya, yl, yc⟩ := y
  refine (mgadd_at hT hwW hwb yk yn yr ya yl yc s hm k n r a L c hrd hl).mono fun e W' h => ?_
  obtain ⟨hb, h⟩ := h
  have hi : Keep 3 W W' := Keep.but hb hm.1 hT
  rcases h with ⟨ht, rfl, cs', h1, h2⟩ | ⟨ht, rfl, z, cs', h1, h2, h3⟩
  · obtain ⟨p1, p2, p3, p4⟩ := hh.hit he ht hi
    exact ⟨rv0, _, false, s, cs', rfl, hb, h1, h2, p1, fun h => absurd h p3, .inl ⟨rfl, by rw [if_neg p3]; exact p2⟩⟩
  · obtain ⟨p1, p2⟩ := hh.miss he ht hi h3
    refine ⟨⟨yk, yn, yr, ya, yl, yc⟩, z, s, true, cs', rfl, hb, h1, h2, p1, fun _ => ⟨rfl, h3⟩, ?_⟩
    rcases p2 with ⟨_, q1, q2⟩ | ⟨_, q1, x', q2, q3, q4⟩
    · exact .inl ⟨q1, q2⟩
    · exact .inr ⟨q1, x', q2, q3, q4⟩

/-- Behind such an Add: what was told, what is held. -/
structure MoAt (w W wx : World) (b : Nat) (T : TypeId) (cs cs' : Array Value) (came : List Rv) (x D z : Rv) (q s' : Bool) : Prop where
  but : But W.heap.size b W wx
  ism : IsMo wx b 0 T cs' z s'
  rest : Rest 0 cs cs'
  held : PnHeld w wx (came ++ [x]) z s'
  fin : x.k = 6 → s' = true ∧ Cp w wx x z
  told : (q = false ∧ pnNew (rvB w) (mgAll came) x = if x.k = 6 then rvB w x else []) ∨ (q = true ∧ ∃ x', Cp w wx x' D ∧ x' ∈ mgAll came ∧ pnNew (rvB w) (mgAll came) x = rvB w x' ++ (if x.k = 6 then rvB w x else []))
theorem MoAt.step {w W wx wy : World} {b : Nat} {T : TypeId} {cs cs' : Array Value} {came : List Rv} {x D z : Rv} {q s' : Bool} (h : MoAt w W wx b T cs cs' came x D z q s') (hb : But W.heap.size b wx wy) (hk : Keep 3 wx wy) (he : wy.heap[b]? = wx.heap[b]?) : MoAt w W wy b T cs cs' came x D z q s' :=
  ⟨h.but.trans hb, h.ism.same he, h.rest, h.held.keep hk, fun e => ⟨(h.fin e).1, (h.fin e).2.keep hk⟩, h.told.elim .inl fun ⟨e, x', c, m, e2⟩ => .inr ⟨e, x', c.keep hk, m, e2⟩⟩
theorem MoAt.below {w W wx wy : World} {b : Nat} {T : TypeId} {cs cs' : Array Value} {came : List Rv} {x D z : Rv} {q s' : Bool} (h : MoAt w W wx b T cs cs' came x D z q s') (hb : Below wx.heap.size wx wy) : MoAt w W wy b T cs cs' came x D z q s' :=
  h.step (But.of (hb.mono h.but.size)) (.below hb) (hb.block _ h.ism.lt)
/-- A record is stored into another block. -/
theorem MoAt.put {w W wx : World} {b : Nat} {T : TypeId} {cs cs' : Array Value} {came : List Rv} {x D z : Rv} {q s' : Bool} (h : MoAt w W wx b T cs cs' came x D z q s') {rb : Nat} {u0 u1 u2 u3 : Value} (hr : wx.heap[rb]? = some (.cells #[u0, u1, u2, u3] 34 (0, 0))) (hW : W.heap.size ≤ rb) (hne : b ≠ rb) (x0 x1 x2 x3 : Value) :
    MoAt w W ((((wx.setCell ⟨rb, 0, none⟩ x0).setCell ⟨rb, 1, none⟩ x1).setCell ⟨rb, 2, none⟩ x2).setCell ⟨rb, 3, none⟩ x3) b T cs cs' came x D z q s' :=
  h.step (But.of (below_rec (Below.refl _ _) hW x0 x1 x2 x3)) (Keep.into (into4 wx rb x0 x1 x2 x3) hr (by decide)) ((into4 wx rb x0 x1 x2 x3).block _ hne)
/-- Of the call's answer. -/
theorem MoAt.of {w W W1 w2 : World} {b : Nat} {T : TypeId} {cs : Array Value} {came : List Rv} {x : Rv} {e : Ending} (h0 : But W.heap.size b W W1) (h : RetMo w b T cs came x W1 e w2) :
    ∃ (D z : Rv) (q s' : Bool) (cs' : Array Value), e = .returned (.tuple #[.agg #[.int .i64 D.k, .int .i64 D.n, .int .i64 D.r, .slice D.a D.len D.cap], .bool q]) ∧ But W1.heap.size b W1 w2 ∧ MoAt w W w2 b T cs cs' came x D z q s' := by
  obtain ⟨D, z, q, s', cs', e1, hb, h1, h2, h3, h4, h5⟩ := h
  exact ⟨D, z, q, s', cs', e1, hb, h0.trans (hb.less h0.size), h1, h2, h3, h4, h5⟩
end Go.Proofs.Ytlfofdgeaigpbaa

namespace Go.Proofs.Ytlfofdgeaigpbaa
open Go.RowKit

set_option maxHeartbeats 1000000 in
theorem pnfault_nil (k n r : Int) (a : Option Addr) (len cap : Nat) (w : World) : Calls Try.prog 19 #[.pointer none, .agg #[.int .i64 k, .int .i64 n, .int .i64 r, .slice a len cap]] w fun e w' => e = .returned (.int .i64 1) ∧ Below w.heap.size w w' := by
  have HB := Lib.hid ((Below.refl w.heap.size w).alloc (Nat.le_refl _) (.cells #[.int .i64 k, .int .i64 n, .int .i64 r, .slice a len cap] 34))
  go_enter Try.func19, Try.ntmps19
  go_wp2
  go_ret
  exact ⟨rfl, HB.out⟩

set_option maxRecDepth 100000 in
set_option maxHeartbeats 4000000 in
theorem pnfault_any {w W : World} (hwW : Below w.heap.size w W) {b : Nat} {came : List Rv} (h : IsPen w W b came) {k n r : Int} {a : Option Addr} {len cap : Nat} (hrd : Rd w ⟨k, n, r, a, len, cap⟩) (hl : len ≤ 1000000) :
    Calls Try.prog 19 #[.pointer (some ⟨b, 0, none⟩), .agg #[.int .i64 k, .int .i64 n, .int .i64 r, .slice a len cap]] W fun e W' => e = .returned (.int .i64 (mayE (rvOk w) came ⟨k, n, r, a, len, cap⟩)) ∧ Below W.heap.size W W' := by
  have hX := heap_alloc_new W (.cells #[.int .i64 k, .int .i64 n, .int .i64 r, .slice a len cap] 34)
  have hB := (Below.refl W.heap.size W).alloc (Nat.le_refl _) (.cells #[.int .i64 k, .int .i64 n, .int .i64 r, .slice a len cap] 34)
  obtain ⟨W1, hW1⟩ : ∃ W1, W.alloc (.cells #[.int .i64 k, .int .i64 n, .int .i64 r, .slice a len cap] 34) = W1 := ⟨_, rfl⟩
  rw [hW1] at hX hB
  have h1 := h.below hB
  have hed := pnended_any h1
  obtain ⟨cs, y, s, m1, m2, m3⟩ := h1
  have c5 : W1.cell? ⟨b, 5, none⟩ = some (.int .i64 (lastK came)) := by rw [Lib.cell_of_heap m1.1]; exact m2
  obtain ⟨c0, c1, c2, c3⟩ := rec_reads hX
  have HC := Lib.hid (fun (V : World) (hV : Below W1.heap.size W1 V) => pn_check (w := w) (W := V) hl (rvi_row hrd).1 ((rvi_row hrd).2.below (hwW.trans ((hB.trans (hV.mono hB.size)).mono hwW.size))))
  have HB := Lib.hid hB
  have HKd : Hid (came ≠ [] → 1 ≤ lastK came ∧ lastK came ≤ 6) := Lib.hid (came_kind m3.ok)
  have HK0 : Hid (came = [] → lastK came = 0) := Lib.hid (fun e => by rw [e]; rfl)
  have HL0 : Hid (came.length = 0 ↔ came = []) := Lib.hid List.length_eq_zero_iff
  have HM := Lib.hid (fun e => may_end (ok := rvOk w) (l := came) (x := ⟨k, n, r, a, len, cap⟩) e)
  have HM2 := Lib.hid (fun e f => may_bad (ok := rvOk w) (l := came) (x := ⟨k, n, r, a, len, cap⟩) e f)
  have HM3 := Lib.hid (fun e f g => may_order (ok := rvOk w) (l := came) (x := ⟨k, n, r, a, len, cap⟩) e f g)
  have HM4 := Lib.hid (fun e f g => may_ok (ok := rvOk w) (l := came) (x := ⟨k, n, r, a, len, cap⟩) e f g)
  dsimp only at HM3 HM4
  generalize mayE (rvOk w) came ⟨k, n, r, a, len, cap⟩ = E at HM HM2 HM3 HM4 ⊢
  generalize rvOk w ⟨k, n, r, a, len, cap⟩ = q at HC HM2 HM3 HM4
  have HED : Hid (Calls Try.prog 12 #[.pointer (some ⟨b, 0, none⟩)] W1 fun e W' => e = .returned (.bool (decide (lastK came = 6))) ∧ Below W1.heap.size W1 W') := Lib.hid (hed.mono fun e W' h => by
    obtain ⟨h1, q, rfl⟩ := h
    exact ⟨h1, below_drewS (Below.refl W1.heap.size W1) q⟩)
  generalize lastK came = k0 at *
  clear hX hB h m1 m2 m3 hwW hrd hed
  by_cases h6 : k0 = 6
  · subst h6
    have HE := Lib.hid (HM.out rfl)
    rw [decide_eq_true rfl] at HED
    clear HM HM2 HM3 HM4 HC HKd HK0 HL0
    go_enter Try.func19, Try.ntmps19
    go_wp2_with fail
    try rw [hW1]
    refine HED.out.mono ?_
    rintro e W2 ⟨rfl, hb⟩
    have HB2 := Lib.hid (HB.out.trans (hb.mono HB.out.size))
    clear hb HED hW1 c0 c1 c2 c3 c5
    go_wp2
    go_ret
    exact ⟨by rw [HE.out]; rfl, HB2.out⟩
  rw [decide_eq_false h6] at HED
  cases q with
  | false =>
    have HE := Lib.hid (HM2.out h6 rfl)
    clear HM HM2 HM3 HM4 HKd HK0 HL0 h6
    go_enter Try.func19, Try.ntmps19
    go_wp2_with fail
    try rw [hW1]
    refine HED.out.mono ?_
    rintro e W2 ⟨rfl, hb⟩
    have HB2 := Lib.hid (HB.out.trans (hb.mono HB.out.size))
    have HC2 := Lib.hid (HC.out W2 hb)
    have c0 := cells_below c0 hb
    have c1 := cells_below c1 hb
    have c2 := cells_below c2 hb
    have c3 := cells_below c3 hb
    clear hb HED hW1 c5 HC
    go_wp2_with fail
    refine HC2.out.mono ?_
    rintro e W3 ⟨rfl, hb⟩
    have HB3 := Lib.hid (HB2.out.trans (hb.mono HB2.out.size))
    clear hb HC2 c0 c1 c2 c3
    go_wp2
    go_ret
    exact ⟨by rw [HE.out]; rfl, HB3.out⟩
  | true =>
    by_cases h5 : k = 5
    · subst h5
      by_cases h0 : k0 = 0
      · subst h0
        have hnil : came = [] := by
          by_cases hc : came = []
          · exact hc
          · have := HKd.out hc; omega
        have HE := Lib.hid (HM3.out h6 rfl ⟨rfl, .inl (HL0.out.2 hnil)⟩)
        clear HM HM2 HM3 HM4 HKd HK0 HL0 h6 hnil
        go_enter Try.func19, Try.ntmps19
        go_wp2_with fail
        try rw [hW1]
        refine HED.out.mono ?_
        rintro e W2 ⟨rfl, hb⟩
        have HB2 := Lib.hid (HB.out.trans (hb.mono HB.out.size))
        have HC2 := Lib.hid (HC.out W2 hb)
        have c0 := cells_below c0 hb
        have c1 := cells_below c1 hb
        have c2 := cells_below c2 hb
        have c3 := cells_below c3 hb
        have c5 := cells_below c5 hb
        clear hb HED hW1 HC
        go_wp2_with fail
        refine HC2.out.mono ?_
        rintro e W3 ⟨rfl, hb⟩
        have HB3 := Lib.hid (HB2.out.trans (hb.mono HB2.out.size))
        have c0 := cells_below c0 hb
        have c5 := cells_below c5 hb
        clear hb HC2 c1 c2 c3
        go_wp2
        go_ret
        exact ⟨by rw [HE.out]; rfl, HB3.out⟩
      · by_cases h7 : k0 = 5
        · subst h7
          have HE := Lib.hid (HM3.out h6 rfl ⟨rfl, .inr rfl⟩)
          clear HM HM2 HM3 HM4 HKd HK0 HL0 h6
          go_enter Try.func19, Try.ntmps19
          go_wp2_with fail
          try rw [hW1]
          refine HED.out.mono ?_
          rintro e W2 ⟨rfl, hb⟩
          have HB2 := Lib.hid (HB.out.trans (hb.mono HB.out.size))
          have HC2 := Lib.hid (HC.out W2 hb)
          have c0 := cells_below c0 hb
          have c1 := cells_below c1 hb
          have c2 := cells_below c2 hb
          have c3 := cells_below c3 hb
          have c5 := cells_below c5 hb
          clear hb HED hW1 HC
          go_wp2_with fail
          refine HC2.out.mono ?_
          rintro e W3 ⟨rfl, hb⟩
          have HB3 := Lib.hid (HB2.out.trans (hb.mono HB2.out.size))
          have c0 := cells_below c0 hb
          have c5 := cells_below c5 hb
          clear hb HC2 c1 c2 c3
          go_wp2
          go_ret
          exact ⟨by rw [HE.out]; rfl, HB3.out⟩
        · have g0 : (k0 == 0) = false := by simpa using h0
          have g7 : (k0 == 5) = false := by simpa using h7
          have HE := Lib.hid (HM4.out h6 rfl (fun h => h.2.elim (fun h => h0 (HK0.out (HL0.out.1 h))) h7))
          clear HM HM2 HM3 HM4 HKd HK0 HL0 h6 h0 h7
          go_enter Try.func19, Try.ntmps19
          go_wp2_with fail
          try rw [hW1]
          refine HED.out.mono ?_
          rintro e W2 ⟨rfl, hb⟩
          have HB2 := Lib.hid (HB.out.trans (hb.mono HB.out.size))
          have HC2 := Lib.hid (HC.out W2 hb)
          have c0 := cells_below c0 hb
          have c1 := cells_below c1 hb
          have c2 := cells_below c2 hb
          have c3 := cells_below c3 hb
          have c5 := cells_below c5 hb
          clear hb HED hW1 HC
          go_wp2_with fail
          refine HC2.out.mono ?_
          rintro e W3 ⟨rfl, hb⟩
          have HB3 := Lib.hid (HB2.out.trans (hb.mono HB2.out.size))
          have c0 := cells_below c0 hb
          have c5 := cells_below c5 hb
          clear hb HC2 c1 c2 c3
          go_wp2
          go_ret
          exact ⟨by rw [HE.out]; rfl, HB3.out⟩
    · have g5 : (k == 5) = false := by simpa using h5
      have HE := Lib.hid (HM4.out h6 rfl (fun h => h5 h.1))
      clear HM HM2 HM3 HM4 HKd HK0 HL0 h6 h5
      go_enter Try.func19, Try.ntmps19
      go_wp2_with fail
      try rw [hW1]
      refine HED.out.mono ?_
      rintro e W2 ⟨rfl, hb⟩
      have HB2 := Lib.hid (HB.out.trans (hb.mono HB.out.size))
      have HC2 := Lib.hid (HC.out W2 hb)
      have c0 := cells_below c0 hb
      have c1 := cells_below c1 hb
      have c2 := cells_below c2 hb
      have c3 := cells_below c3 hb
      have c5 := cells_below c5 hb
      clear hb HED hW1 HC
      go_wp2_with fail
      refine HC2.out.mono ?_
      rintro e W3 ⟨rfl, hb⟩
      have HB3 := Lib.hid (HB2.out.trans (hb.mono HB2.out.size))
      have c0 := cells_below c0 hb
      have c5 := cells_below c5 hb
      clear hb HC2 c1 c2 c3
      go_wp2
      go_ret
      exact ⟨by rw [HE.out]; rfl, HB3.out⟩

set_option maxHeartbeats 1000000 in
theorem pnbytes_no (k n r : Int) (a : Option Addr) (len cap : Nat) (w : World) : Calls Try.prog 20 #[.agg #[.int .i64 k, .int .i64 n, .int .i64 r, .slice a len cap], .bool false] w fun e w' => e = .returned (.string ⟨#[]⟩) ∧ Below w.heap.size w w' := by
  have HB := Lib.hid ((Below.refl w.heap.size w).alloc (Nat.le_refl _) (.cells #[.int .i64 k, .int .i64 n, .int .i64 r, .slice a len cap] 34))
  go_enter Try.func20, Try.ntmps20
  go_wp2
  go_ret
  exact ⟨rfl, HB.out⟩
set_option maxHeartbeats 1000000 in
/-- What is held is written as what came. -/
theorem pnbytes_any {w W : World} {came : List Rv} {x' : Rv} {k n r : Int} {a : Option Addr} {L c : Nat} (hf : Fits w came) (hok : mayS (rvOk w) [] came = 0) (hm : x' ∈ mgAll came) (hc : Cp w W x' ⟨k, n, r, a, L, c⟩) :
    Calls Try.prog 20 #[.agg #[.int .i64 k, .int .i64 n, .int .i64 r, .slice a L c], .bool true] W fun e W' => e = .returned (.string ⟨(rvB w x').toArray⟩) ∧ Below W.heap.size W W' := by
  have hX := heap_alloc_new W (.cells #[.int .i64 k, .int .i64 n, .int .i64 r, .slice a L c] 34)
  have hB := (Below.refl W.heap.size W).alloc (Nat.le_refl _) (.cells #[.int .i64 k, .int .i64 n, .int .i64 r, .slice a L c] 34)
  obtain ⟨W1, hW1⟩ : ∃ W1, W.alloc (.cells #[.int .i64 k, .int .i64 n, .int .i64 r, .slice a L c] 34) = W1 := ⟨_, rfl⟩
  rw [hW1] at hX hB
  obtain ⟨c0, c1, c2, c3⟩ := rec_reads hX
  have HP := Lib.hid (pn_hput hf hok hm (hc.keep (Keep.below hB)))
  have HB := Lib.hid hB
  generalize rvB w x' = u at *
  clear hX hB hf hok hm hc
  go_enter Try.func20, Try.ntmps20
  go_wp2_with fail
  try rw [hW1]
  refine HP.out.mono ?_
  rintro e W2 ⟨rfl, hb⟩
  have HB2 := Lib.hid (HB.out.trans (hb.mono HB.out.size))
  clear hb HP hW1 c0 c1 c2 c3
  go_wp2
  go_ret
  exact ⟨rfl, HB2.out⟩
/-- What Add of the merger told, as bytes. -/
theorem pnbytes_mo {w W wx : World} {b : Nat} {T : TypeId} {cs cs' : Array Value} {came : List Rv} {x D z : Rv} {q s' : Bool} (hf : Fits w came) (hok : mayS (rvOk w) [] came = 0) (h : MoAt w W wx b T cs cs' came x D z q s') :
    Calls Try.prog 20 #[.agg #[.int .i64 D.k, .int .i64 D.n, .int .i64 D.r, .slice D.a D.len D.cap], .bool q] wx fun e W' => ∃ t : List UInt8, e = .returned (.string ⟨t.toArray⟩) ∧ t.length ≤ 300 ∧ pnNew (rvB w) (mgAll came) x = t ++ (if x.k = 6 then rvB w x else []) ∧ Below wx.heap.size wx W' := by
  obtain ⟨Dk, Dn, Dr, Da, Dl, Dc⟩ := D
  rcases h.told with ⟨rfl, ht⟩ | ⟨rfl, x', hcx, hmx, ht⟩
  · exact (pnbytes_no Dk Dn Dr Da Dl Dc wx).mono fun e W' h => ⟨[], h.1, by simp, ht, h.2⟩
  · obtain ⟨_, _, _, _, _, hl⟩ := PnHeld.row hf hok hmx hcx
    exact (pnbytes_any hf hok hmx hcx).mono fun e W' h => ⟨_, h.1, hl, ht, h.2⟩
end Go.Proofs.Ytlfofdgeaigpbaa
