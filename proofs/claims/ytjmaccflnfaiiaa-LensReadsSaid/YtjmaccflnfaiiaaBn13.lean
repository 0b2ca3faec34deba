/-
  Texts put together: HdM, HdPr, Kept.
-/
import Derived.Test.YtjmaccflnfaiiaaFrM
import Derived.Test.YtjmaccflnfaiiaaBn1
import Derived.Test.YtjmaccflnfaiiaaBn4
set_option linter.unusedSimpArgs false
set_option linter.unusedVariables false
namespace Go.Proofs.Ytjmaccflnfaiiaa
open Go.Lib

/-- The mark. -/
def hcM : List UInt8 := [99, 101, 114, 116, 1]
/-- A file's frame. -/
def hcF (l : List UInt8) : Fr := (1, ⟨l.toArray⟩)
/-- Why it has no head, or 0. -/
def hcE (l : List UInt8) : Int := frE (hcF l)
/-- Its head. -/
def hcB (l : List UInt8) : List UInt8 := hcM ++ frB (hcF l)
/-- What Put answers. -/
def hcP (l : List UInt8) : List UInt8 := if hcE l = 0 then hcB l else []

theorem hcE_ok (l : List UInt8) (h : l.length ≤ 67108864) : hcE l = 0 := by
  unfold hcE
  refine frE_ok _ ?_ ?_ ?_
  · show ¬ (1 : Int) < 1; omega
  · show ¬ 127 < (1 : Int); omega
  · show ¬ 67108864 < l.length; omega
theorem hcP_ok (l : List UInt8) (h : hcE l = 0) : hcP l = hcB l := by unfold hcP; rw [if_pos h]
theorem hcP_bad (l : List UInt8) (h : hcE l ≠ 0) : hcP l = [] := by unfold hcP; rw [if_neg h]
theorem hcB_length (l : List UInt8) (h : hcE l = 0) : (hcB l).length ≤ l.length + 15 := by
  have := frB_length (hcF l) h
  have e : (hcF l).2.size = l.length := rfl
  unfold hcB
  rw [List.length_append, show hcM.length = 5 from rfl]
  omega

/-- Take's error. -/
def hcTE (s : List UInt8) : Int := if hasPrefix s hcM = true then (if tkE (s.drop 5) ≠ 0 then tkE (s.drop 5) else if tkK (s.drop 5) ≠ 1 then 15 else 0) else if hasPrefix hcM s = true then 4 else 15
/-- The file. -/
def hcTF (s : List UInt8) : ByteArray := if hcTE s = 0 then tkB (s.drop 5) else ByteArray.empty
/-- How many bytes the head has. -/
def hcTN (s : List UInt8) : Int := if hcTE s = 0 then 5 + tkS (s.drop 5) else 0

theorem hct_bad (s : List UInt8) (x : Int) (h : hcTE s = x) (hx : x ≠ 0) : hcTE s = x ∧ hcTF s = ByteArray.empty ∧ hcTN s = 0 := by
  subst h
  exact ⟨rfl, by unfold hcTF; rw [if_neg hx], by unfold hcTN; rw [if_neg hx]⟩
theorem hct_short (s : List UInt8) (h : hasPrefix s hcM = false) (h' : hasPrefix hcM s = true) : hcTE s = 4 := by
  unfold hcTE; rw [h, h']; rfl
theorem hct_not (s : List UInt8) (h : hasPrefix s hcM = false) (h' : hasPrefix hcM s = false) : hcTE s = 15 := by
  unfold hcTE; rw [h, h']; rfl
theorem hct_err (s : List UInt8) (h : hasPrefix s hcM = true) (h' : tkE (s.drop 5) ≠ 0) : hcTE s = tkE (s.drop 5) := by
  unfold hcTE; rw [if_pos h, if_pos h']
theorem hct_kind (s : List UInt8) (h : hasPrefix s hcM = true) (h' : tkE (s.drop 5) = 0) (h2 : tkK (s.drop 5) ≠ 1) : hcTE s = 15 := by
  unfold hcTE; rw [if_pos h, if_neg (by simp [h']), if_pos h2]
theorem hct_ok (s : List UInt8) (h : hasPrefix s hcM = true) (h' : tkE (s.drop 5) = 0) (h2 : tkK (s.drop 5) = 1) : hcTE s = 0 ∧ hcTF s = tkB (s.drop 5) ∧ hcTN s = 5 + tkS (s.drop 5) := by
  have e : hcTE s = 0 := by unfold hcTE; rw [if_pos h, if_neg (by simp [h']), if_neg (by simp [h2])]
  exact ⟨e, by unfold hcTF; rw [if_pos e], by unfold hcTN; rw [if_pos e]⟩

theorem hp_iff (a b : List UInt8) : hasPrefix a b = true ↔ b <+: a := by simp [hasPrefix, List.isPrefixOf_iff_prefix]
theorem hp_len {s : List UInt8} (h : hasPrefix s hcM = true) : 5 ≤ s.length := ((hp_iff _ _).1 h).length_le

theorem preL_comm : ∀ (a b : List UInt8), preL a b = preL b a
  | [], b => by rw [preL_nil, preL_nil']
  | a :: x, [] => by rw [preL_nil, preL_nil']
  | a :: x, b :: y => by
    rw [preL_cons, preL_cons, preL_comm x y]
    by_cases e : a = b
    · rw [if_pos e, if_pos e.symm]
    · rw [if_neg e, if_neg (fun h => e h.symm)]

/-- With how many bytes of the mark bytes begin: what it says of them. -/
theorem hp_five (s : List UInt8) (h : hasPrefix s hcM = true) : preL s hcM = 5 := (preL_whole s hcM).2 ((hp_iff _ _).1 h)
theorem hp_less (s : List UInt8) (h : hasPrefix s hcM = false) : preL s hcM < 5 := by
  have h1 := (preL_le s hcM).2
  have h2 : preL s hcM ≠ 5 := fun e => by
    have := (hp_iff s hcM).2 ((preL_whole s hcM).1 e)
    rw [h] at this; cases this
  rw [show hcM.length = 5 from rfl] at h1
  omega
theorem hp_all (s : List UInt8) (h : hasPrefix hcM s = true) : preL s hcM = s.length := by
  rw [preL_comm]; exact (preL_whole hcM s).2 ((hp_iff _ _).1 h)
theorem hp_some (s : List UInt8) (h : hasPrefix hcM s = false) : preL s hcM ≠ s.length := fun e => by
  rw [preL_comm] at e
  have := (hp_iff hcM s).2 ((preL_whole hcM s).1 e)
  rw [h] at this; cases this

/-- What was put is taken as it was, whatever stands behind. -/
theorem hct_put (l : List UInt8) (h : hcE l = 0) (z : List UInt8) : hcTE (hcB l ++ z) = 0 ∧ hcTF (hcB l ++ z) = ⟨l.toArray⟩ ∧ hcTN (hcB l ++ z) = ((hcB l).length : Int) := by
  obtain ⟨t1, t2, t3, t4⟩ := tk_put (hcF l) h z
  have e : (hcB l ++ z).drop 5 = frB (hcF l) ++ z := rfl
  have hp : hasPrefix (hcB l ++ z) hcM = true := by
    rw [hp_iff]
    unfold hcB
    rw [List.append_assoc]
    exact List.prefix_append _ _
  obtain ⟨o1, o2, o3⟩ := hct_ok (hcB l ++ z) hp (by rw [e]; exact t1) (by rw [e, t3]; rfl)
  refine ⟨o1, ?_, ?_⟩
  · rw [o2, e, t4]; rfl
  · rw [o3, e, t2]
    unfold hcB
    rw [List.length_append, show hcM.length = 5 from rfl]
    omega

theorem text_inj {a b : List UInt8} (h : (⟨a.toArray⟩ : ByteArray) = ⟨b.toArray⟩) : a = b := by
  have := congrArg (fun d => d.data.toList) h
  simpa using this

/-- The bytes of two heads, whatever stands behind them: the files are one. -/
theorem hcB_inj {a b x y : List UInt8} (ha : hcE a = 0) (hb : hcE b = 0) (h : hcB a ++ x = hcB b ++ y) : a = b := by
  obtain ⟨_, h1, _⟩ := hct_put a ha x
  obtain ⟨_, h2, _⟩ := hct_put b hb y
  rw [h] at h1
  exact text_inj (h1.symm.trans h2)

theorem bind_self (a z : List UInt8) : preL a (a ++ z) = a.length := by
  rw [preL_comm]
  exact (preL_whole _ _).2 (List.prefix_append _ _)
/-- Another file's head, and whatever stands behind: it ends in neither. -/
theorem bind_other {a b : List UInt8} (ha : hcE a = 0) (hb : hcE b = 0) (hn : a ≠ b) (z : List UInt8) : preL (hcB a) (hcB b ++ z) < (hcB a).length ∧ preL (hcB a) (hcB b ++ z) < (hcB b ++ z).length := by
  have hl := preL_le (hcB a) (hcB b ++ z)
  have h1 : preL (hcB a) (hcB b ++ z) ≠ (hcB a).length := fun e => by
    rw [preL_comm] at e
    obtain ⟨r, hr⟩ := (preL_whole _ _).1 e
    exact hn (hcB_inj ha hb hr)
  have h2 : preL (hcB a) (hcB b ++ z) ≠ (hcB b ++ z).length := fun e => by
    obtain ⟨r, hr⟩ := (preL_whole _ _).1 e
    rw [List.append_assoc] at hr
    exact hn.symm (hcB_inj hb ha (hr.trans (List.append_nil _).symm))
  omega
end Go.Proofs.Ytjmaccflnfaiiaa

namespace Go.Proofs.Ytjmaccflnfaiiaa
open Go.RowKit


/-- Put's answer: the head, or why there is none. -/
def RetHp (l : List UInt8) (w : World) (e : Ending) (w' : World) : Prop := e = .returned (.tuple #[.string ⟨(hcP l).toArray⟩, .int .i64 (hcE l)]) ∧ Below w.heap.size w w'

theorem hd_plus (t : List UInt8) : (⟨#[99, 101, 114, 116, 1]⟩ : ByteArray) ++ (⟨t.toArray⟩ : ByteArray) = ⟨(hcM ++ t).toArray⟩ := by
  apply ByteArray.ext
  simp [hcM]

end Go.Proofs.Ytjmaccflnfaiiaa

namespace Go.Proofs.Ytjmaccflnfaiiaa
open Go.RowKit

/-- All blocks but b, of elements of another type, are as they were. -/
def Kept (b : Nat) (e : TypeId) (w w' : World) : Prop := ∀ x cs T fr, x ≠ b → T ≠ e → w.heap[x]? = some (.cells cs T fr) → w'.heap[x]? = some (.cells cs T fr)

theorem Kept.refl (b : Nat) (e : TypeId) (w : World) : Kept b e w w := fun _ _ _ _ _ _ h => h
theorem Kept.trans {b : Nat} {e : TypeId} {w w' w2 : World} (h : Kept b e w w') (h2 : Kept b e w' w2) : Kept b e w w2 := fun x cs T fr hx hT hh => h2 x cs T fr hx hT (h x cs T fr hx hT hh)
theorem Kept.below {b : Nat} {e : TypeId} {w w' : World} (h : Below w.heap.size w w') : Kept b e w w' := fun x cs T fr _ _ hh => by
  rw [h.block x (heap_lt hh)]; exact hh
theorem Kept.setCell {b : Nat} {e : TypeId} {w w' : World} (h : Kept b e w w') (o : Nat) (v : Value) : Kept b e w (w'.setCell ⟨b, o, none⟩ v) := fun x cs T fr hx hT hh => by
  rw [Below.heap_setCell _ _ _ _ hx]; exact h x cs T fr hx hT hh
theorem Kept.grown {b : Nat} {e : TypeId} {w w1 w' : World} {B n : Nat} {v : Value} {xs : List Value} (h : Kept b e w w1) (hown : w1.ownsRow B e 1 v n xs) (hg : w1.grownBy w' v.ownBlock) : Kept b e w w' := fun x cs T fr hx hT hh => by
  have h1 := h x cs T fr hx hT hh
  have hne := Lib.ownBlock_ne hown h1 hT
  rw [hg.block x (heap_lt h1) (fun e => hne e.symm)]; exact h1
theorem Kept.alloc {b : Nat} {e : TypeId} {w w' : World} (h : Kept b e w w') (o : Obj) : Kept b e w (w'.alloc o) := fun x cs T fr hx hT hh => by
  have h1 := h x cs T fr hx hT hh
  rw [Lib.alloc_old w' _ x (heap_lt h1)]; exact h1

/-- A cell that is there, behind a new block. -/
theorem cell_alloc {w : World} {b j : Nat} {v : Value} (h : w.cell? ⟨b, j, none⟩ = some v) (o : Obj) : (w.alloc o).cell? ⟨b, j, none⟩ = some v := by
  rw [((Below.refl w.heap.size w).alloc (Nat.le_refl _) o).cell (p := ⟨b, j, none⟩) (World.block_lt_of_cell? w _ h)]; exact h
theorem cell_below {w w' : World} {b j : Nat} {v : Value} (h : w.cell? ⟨b, j, none⟩ = some v) (hb : Below w.heap.size w w') : w'.cell? ⟨b, j, none⟩ = some v := by
  rw [hb.cell (p := ⟨b, j, none⟩) (World.block_lt_of_cell? w _ h)]; exact h

end Go.Proofs.Ytjmaccflnfaiiaa
