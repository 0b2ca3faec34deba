/-
  Texts put together: TbM, VarRef, VarT, But, IntoB, Str, TbR, TbI.
-/
import Derived.Test.YtpblllpgmibkoaaGreatVarM
import Derived.Test.YtpblllpgmibkoaaGreatRows
import Derived.WalkKit
import Derived.WalkSpells
import Derived.WalkLawsBesides
import Derived.Lib.Hide
import Derived.Outline
import Derived.IntWalk
import Derived.Lib.UnsafeStr
import Derived.Deep.RegionWith
import Derived.BigQuiet
import Derived.Deep.QuietTactic
import Derived.Test.YtpblllpgmibkoaaGreatBn1
import Derived.Below
import Derived.Laws.AppendOwn
import Derived.Lib.Strings
import Derived.Lib.Bytealg
set_option linter.unusedSimpArgs false
set_option linter.unusedVariables false
namespace Go.Proofs.YtpblllpgmibkoaaGreat

/-- How the bytes of rows begin. -/
def hdT : List UInt8 := [116, 97, 98, 1]
/-- What is behind a number. -/
def pasT (s : List UInt8) : List UInt8 := s.drop (tS s).toNat
/-- What is wrong with a number that is to be at most so great. -/
def nmE (m : Int) (s : List UInt8) : Int := if tE s = 0 then (if m < tN s then 11 else 0) else tE s

theorem pas_le (s : List UInt8) : (pasT s).length ≤ s.length := by unfold pasT; rw [List.length_drop]; omega

theorem nm_put (m n : Int) (h0 : 0 ≤ n) (h1 : n ≤ m) (hm : m ≤ 9223372036854775807) (s : List UInt8) : nmE m (vput n ++ s) = 0 ∧ tN (vput n ++ s) = n ∧ pasT (vput n ++ s) = s := by
  obtain ⟨a, b, c⟩ := take_put n h0 (by omega) s
  refine ⟨?_, a, ?_⟩
  · unfold nmE; rw [if_pos c, a, if_neg (by omega)]
  · unfold pasT; rw [b, Int.toNat_natCast, List.drop_left]

theorem nm_ok {m : Int} {s : List UInt8} (h : nmE m s = 0) : tE s = 0 ∧ 0 ≤ tN s ∧ tN s ≤ m := by
  have hb := tN_bounds s
  unfold nmE at h
  by_cases h1 : tE s = 0
  · rw [if_pos h1] at h
    by_cases h2 : m < tN s
    · rw [if_pos h2] at h; omega
    · exact ⟨h1, hb.1, by omega⟩
  · rw [if_neg h1] at h; exact absurd h h1

theorem nm_take {m : Int} {s : List UInt8} (h : nmE m s = 0) : s = vput (tN s) ++ pasT s := by
  obtain ⟨p1, p2, p3⟩ := put_take s (nm_ok h).1
  rw [p3]
  unfold pasT
  rw [List.take_append_drop]

theorem nm_pos {m : Int} {s : List UInt8} (h : nmE m s = 0) : 1 ≤ tS s ∧ tS s ≤ s.length ∧ (pasT s).length + 1 ≤ s.length := by
  obtain ⟨p1, p2, p3⟩ := put_take s (nm_ok h).1
  refine ⟨p1, p2, ?_⟩
  unfold pasT
  rw [List.length_drop]
  omega

/-- Do bytes rise, so many of them? -/
def riseK (l : List UInt8) : Nat → Bool
  | 0 => true
  | k + 1 => riseK l k && (k == 0 || decide (l.getD (k - 1) 0 < l.getD k 0))
def riseT (l : List UInt8) : Bool := riseK l l.length

/-- So many numbers are read, each at most so great: the error, the numbers, what is left. -/
def rdN (m : Int) : Nat → List Int → List UInt8 → Int × List Int × List UInt8
  | 0, L, t => (0, L, t)
  | k + 1, L, t => if nmE m t = 0 then rdN m k (L ++ [tN t]) (pasT t) else (nmE m t, L, t)

/-- So many states are read, each with so many numbers behind its depth: the error, the states. -/
def rdS (m : Int) (K : Nat) : Nat → List (List Int) → List UInt8 → Int × List (List Int)
  | 0, R, t => (if t.length = 0 then 0 else 20, R)
  | k + 1, R, t =>
    if nmE 65535 t = 0 then
      if (tN t = 0) ↔ (R.length = 0) then
        if (rdN m K [tN t] (pasT t)).1 = 0 then rdS m K k (R ++ [(rdN m K [tN t] (pasT t)).2.1]) (rdN m K [tN t] (pasT t)).2.2 else ((rdN m K [tN t] (pasT t)).1, [])
      else (3, [])
    else (nmE 65535 t, [])

/-- What is wrong ahead of the states. -/
def hdE (s : List UInt8) : Int :=
  if s.take 4 = hdT then
    if nmE 16777217 (s.drop 4) = 0 then
      if tN (s.drop 4) = 0 then 14
      else if nmE 256 (pasT (s.drop 4)) = 0 then
        if (pasT (pasT (s.drop 4))).length < (tN (pasT (s.drop 4))).toNat then 4
        else if riseT ((pasT (pasT (s.drop 4))).take (tN (pasT (s.drop 4))).toNat) = true then 0 else 9
      else nmE 256 (pasT (s.drop 4))
    else nmE 16777217 (s.drop 4)
  else 15
/-- How many states there are, how many bytes, these, what is behind them. -/
def hdN (s : List UInt8) : Nat := (tN (s.drop 4)).toNat
def hdK (s : List UInt8) : Nat := (tN (pasT (s.drop 4))).toNat
def hdO (s : List UInt8) : List UInt8 := (pasT (pasT (s.drop 4))).take (hdK s)
def hdR (s : List UInt8) : List UInt8 := (pasT (pasT (s.drop 4))).drop (hdK s)
/-- What Take tells: the error, the states. -/
def tbT (s : List UInt8) : Int × List (List Int) := if hdE s = 0 then rdS ((hdN s : Int) - 1) (hdK s) (hdN s) [] (hdR s) else (hdE s, [])

/-- The bytes of rows. -/
def tbB (own : List UInt8) (R : List (List Int)) : List UInt8 := hdT ++ (vput (R.length : Int) ++ (vput (own.length : Int) ++ (own ++ vall R.flatten)))

/-- One state's numbers, as they may be. -/
def rowG (m : Int) (K j : Nat) (r : List Int) : Prop := ∃ d l, r = d :: l ∧ 0 ≤ d ∧ d ≤ 65535 ∧ (d = 0 ↔ j = 0) ∧ l.length = K ∧ ∀ x ∈ l, 0 ≤ x ∧ x ≤ m
/-- Rows as they may be. -/
structure GoodT (own : List UInt8) (R : List (List Int)) : Prop where
  few : own.length ≤ 256
  rise : riseT own = true
  some : 1 ≤ R.length
  most : R.length ≤ 16777217
  row : ∀ j r, R[j]? = Option.some r → rowG ((R.length : Int) - 1) own.length j r

theorem vall_append (a b : List Int) : vall (a ++ b) = vall a ++ vall b := by
  induction a with
  | nil => rfl
  | cons x r ih => simp [vall, ih]

theorem rdN_put (m : Int) (hm : m ≤ 9223372036854775807) : ∀ (l L : List Int) (s : List UInt8), (∀ x ∈ l, 0 ≤ x ∧ x ≤ m) → rdN m l.length L (vall l ++ s) = (0, L ++ l, s)
  | [], L, s, _ => by simp [rdN, vall]
  | x :: l, L, s, h => by
    obtain ⟨h0, h1⟩ := h x (by simp)
    obtain ⟨a, b, c⟩ := nm_put m x h0 h1 hm (vall l ++ s)
    rw [List.length_cons, rdN, show vall (x :: l) = vput x ++ vall l from rfl, List.append_assoc, if_pos a, b, c, rdN_put m hm l _ s (fun y hy => h y (by simp [hy]))]
    simp

theorem rdN_take (m : Int) : ∀ (k : Nat) (L : List Int) (t : List UInt8), (rdN m k L t).1 = 0 → ∃ l, (rdN m k L t).2.1 = L ++ l ∧ l.length = k ∧ (∀ x ∈ l, 0 ≤ x ∧ x ≤ m) ∧ t = vall l ++ (rdN m k L t).2.2
  | 0, L, t, _ => ⟨[], by simp [rdN], rfl, by simp, by simp [rdN, vall]⟩
  | k + 1, L, t, h => by
    rw [rdN] at h ⊢
    by_cases hn : nmE m t = 0
    · rw [if_pos hn] at h ⊢
      obtain ⟨l, h1, h2, h3, h4⟩ := rdN_take m k _ _ h
      have hok := nm_ok hn
      refine ⟨tN t :: l, by rw [h1]; simp, by simp [h2], fun x hx => ?_, ?_⟩
      · rcases List.mem_cons.1 hx with rfl | hx
        · exact hok.2
        · exact h3 x hx
      · have e : vall (tN t :: l) = vput (tN t) ++ vall l := rfl
        rw [e, List.append_assoc, ← h4]
        exact nm_take hn
    · rw [if_neg hn] at h
      exact absurd h hn

theorem rdS_put (m : Int) (hm : m ≤ 9223372036854775807) (K : Nat) : ∀ (Q P : List (List Int)), (∀ j r, Q[j]? = some r → rowG m K (P.length + j) r) → rdS m K Q.length P (vall Q.flatten) = (0, P ++ Q)
  | [], P, _ => by simp [rdS, vall]
  | r :: Q, P, h => by
    obtain ⟨d, l, rfl, h0, h1, h2, h3, h4⟩ := h 0 r rfl
    obtain ⟨a, b, c⟩ := nm_put 65535 d h0 h1 (by omega) (vall l ++ vall Q.flatten)
    have e : vall ((d :: l) :: Q).flatten = vput d ++ (vall l ++ vall Q.flatten) := by
      rw [List.flatten_cons, vall_append]
      show (vput d ++ vall l) ++ _ = _
      rw [List.append_assoc]
    have eN := rdN_put m hm l [d] (vall Q.flatten) h4
    rw [h3] at eN
    rw [List.length_cons, rdS, e, a, b, c, if_pos rfl, if_pos (by rw [h2]; simp), eN, if_pos rfl]
    rw [rdS_put m hm K Q (P ++ [[d] ++ l]) (fun j r' hr => by
      have := h (j + 1) r' (by simpa using hr)
      rw [List.length_append, List.length_singleton]
      rw [show P.length + 1 + j = P.length + (j + 1) by omega]
      exact this)]
    simp

theorem rdS_take (m : Int) (K : Nat) : ∀ (k : Nat) (P : List (List Int)) (t : List UInt8), (rdS m K k P t).1 = 0 → ∃ Q, (rdS m K k P t).2 = P ++ Q ∧ Q.length = k ∧ t = vall Q.flatten ∧ ∀ j r, Q[j]? = some r → rowG m K (P.length + j) r
  | 0, P, t, h => by
    rw [rdS] at h
    refine ⟨[], by simp [rdS], rfl, ?_, by simp⟩
    by_cases h0 : t.length = 0
    · rw [List.eq_nil_of_length_eq_zero h0]; rfl
    · rw [if_neg h0] at h
      exact absurd h (show ¬ (20 : Int) = 0 by decide)
  | k + 1, P, t, h => by
    rw [rdS] at h ⊢
    by_cases h1 : nmE 65535 t = 0
    · rw [if_pos h1] at h ⊢
      by_cases h2 : (tN t = 0) ↔ (P.length = 0)
      · rw [if_pos h2] at h ⊢
        by_cases h3 : (rdN m K [tN t] (pasT t)).1 = 0
        · rw [if_pos h3] at h ⊢
          obtain ⟨l, a1, a2, a3, a4⟩ := rdN_take m K _ _ h3
          obtain ⟨Q, b1, b2, b3, b4⟩ := rdS_take m K k _ _ h
          have hok := nm_ok h1
          rw [a1] at b1 b4
          refine ⟨(tN t :: l) :: Q, ?_, by simp [b2], ?_, fun j r hr => ?_⟩
          · rw [a1, b1]; simp
          · rw [List.flatten_cons, vall_append, ← b3]
            show t = (vput (tN t) ++ vall l) ++ _
            rw [List.append_assoc, ← a4]
            exact nm_take h1
          · cases j with
            | zero =>
              obtain rfl : tN t :: l = r := by simpa using hr
              exact ⟨_, _, rfl, hok.2.1, hok.2.2, by simpa using h2, a2, a3⟩
            | succ j =>
              have := b4 j r (by simpa using hr)
              rw [List.length_append, List.length_singleton, show P.length + 1 + j = P.length + (j + 1) by omega] at this
              exact this
        · rw [if_neg h3] at h
          exact absurd h h3
      · rw [if_neg h2] at h
        exact absurd h (show ¬ (3 : Int) = 0 by decide)
    · rw [if_neg h1] at h
      exact absurd h h1

/-- What was put is taken as it was. -/
theorem tb_put {own : List UInt8} {R : List (List Int)} (h : GoodT own R) : hdE (tbB own R) = 0 ∧ hdN (tbB own R) = R.length ∧ hdK (tbB own R) = own.length ∧ hdO (tbB own R) = own ∧ tbT (tbB own R) = (0, R) := by
  have hs := h.some
  have hm := h.most
  have hf := h.few
  have e0 : (tbB own R).take 4 = hdT := rfl
  have e1 : (tbB own R).drop 4 = vput (R.length : Int) ++ (vput (own.length : Int) ++ (own ++ vall R.flatten)) := rfl
  obtain ⟨a1, a2, a3⟩ := nm_put 16777217 (R.length : Int) (by omega) (by omega) (by omega) (vput (own.length : Int) ++ (own ++ vall R.flatten))
  obtain ⟨b1, b2, b3⟩ := nm_put 256 (own.length : Int) (by omega) (by omega) (by omega) (own ++ vall R.flatten)
  have eN : hdN (tbB own R) = R.length := by unfold hdN; rw [e1, a2]; omega
  have eK : hdK (tbB own R) = own.length := by unfold hdK; rw [e1, a3, b2]; omega
  have eO : hdO (tbB own R) = own := by unfold hdO; rw [eK, e1, a3, b3, List.take_left]
  have eR : hdR (tbB own R) = vall R.flatten := by unfold hdR; rw [eK, e1, a3, b3, List.drop_left]
  have eE : hdE (tbB own R) = 0 := by
    unfold hdE
    rw [if_pos e0, e1, if_pos a1, a2, if_neg (by omega), a3, if_pos b1, b2, b3, Int.toNat_natCast, if_neg (by simp), List.take_left, if_pos h.rise]
  refine ⟨eE, eN, eK, eO, ?_⟩
  unfold tbT
  rw [if_pos eE, eN, eK, eR]
  have := rdS_put ((R.length : Int) - 1) (by omega) own.length R [] (fun j r hr => by simpa using h.row j r hr)
  simpa using this

/-- No other bytes lead there. -/
theorem tb_take {s : List UInt8} (h : (tbT s).1 = 0) : hdE s = 0 ∧ GoodT (hdO s) (tbT s).2 ∧ s = tbB (hdO s) (tbT s).2 ∧ (tbT s).2.length = hdN s ∧ (hdO s).length = hdK s := by
  have hE : hdE s = 0 := by
    unfold tbT at h
    by_cases h0 : hdE s = 0
    · exact h0
    · rw [if_neg h0] at h; exact absurd h h0
  have e0 : tbT s = rdS ((hdN s : Int) - 1) (hdK s) (hdN s) [] (hdR s) := by unfold tbT; rw [if_pos hE]
  rw [e0] at h
  obtain ⟨Q, q1, q2, q3, q4⟩ := rdS_take _ _ _ _ _ h
  rw [List.nil_append] at q1
  rw [e0, q1]
  have hE2 := hE
  unfold hdE at hE2
  by_cases c0 : s.take 4 = hdT
  · rw [if_pos c0] at hE2
    by_cases c1 : nmE 16777217 (s.drop 4) = 0
    · rw [if_pos c1] at hE2
      by_cases c2 : tN (s.drop 4) = 0
      · rw [if_pos c2] at hE2; exact absurd hE2 (by decide)
      · rw [if_neg c2] at hE2
        by_cases c3 : nmE 256 (pasT (s.drop 4)) = 0
        · rw [if_pos c3] at hE2
          by_cases c4 : (pasT (pasT (s.drop 4))).length < (tN (pasT (s.drop 4))).toNat
          · rw [if_pos c4] at hE2; exact absurd hE2 (by decide)
          · rw [if_neg c4] at hE2
            by_cases c5 : riseT ((pasT (pasT (s.drop 4))).take (tN (pasT (s.drop 4))).toNat) = true
            · have n1 := nm_ok c1
              have n2 := nm_ok c3
              have hOl : (hdO s).length = hdK s := by unfold hdO hdK; rw [List.length_take]; omega
              have hNn : (hdN s : Int) = tN (s.drop 4) := by unfold hdN; omega
              have hKn : (hdK s : Int) = tN (pasT (s.drop 4)) := by unfold hdK; omega
              refine ⟨hE, ⟨by omega, c5, by omega, by omega, fun j r hr => ?_⟩, ?_, q2, hOl⟩
              · rw [q2, hOl]
                simpa using q4 j r hr
              · unfold tbB
                rw [q2, hOl, hNn, hKn, ← q3]
                have e5 : hdO s ++ hdR s = pasT (pasT (s.drop 4)) := List.take_append_drop _ _
                rw [e5, ← nm_take c3, ← nm_take c1, ← c0, List.take_append_drop]
            · rw [if_neg c5] at hE2; exact absurd hE2 (by decide)
        · rw [if_neg c3] at hE2; exact absurd hE2 c3
    · rw [if_neg c1] at hE2; exact absurd hE2 c1
  · rw [if_neg c0] at hE2; exact absurd hE2 (by decide)

theorem GoodT.len {own : List UInt8} {R : List (List Int)} (h : GoodT own R) : ∀ r ∈ R, r.length = own.length + 1 := fun r hr => by
  obtain ⟨j, hj⟩ := List.mem_iff_getElem?.1 hr
  obtain ⟨d, l, rfl, _, _, _, hl, _⟩ := h.row j r hj
  rw [List.length_cons, hl]

/-- Rows of one width, one behind the other. -/
theorem flat_len {W : Nat} : ∀ {R : List (List Int)}, (∀ r ∈ R, r.length = W) → R.flatten.length = R.length * W
  | [], _ => by simp
  | r :: R, h => by
    rw [List.flatten_cons, List.length_append, h r (by simp), flat_len (fun x hx => h x (by simp [hx])), List.length_cons, Nat.succ_mul]
    omega
theorem flat_at {W : Nat} : ∀ {R : List (List Int)}, (∀ r ∈ R, r.length = W) → ∀ (j i : Nat) (r : List Int), R[j]? = some r → i < W → R.flatten[j * W + i]? = r[i]?
  | [], _, _, _, _, h, _ => by simp at h
  | q :: R, h, 0, i, r, hr, hi => by
    obtain rfl : q = r := by simpa using hr
    have := h q (by simp)
    rw [List.flatten_cons, Nat.zero_mul, Nat.zero_add, List.getElem?_append_left (by omega)]
  | q :: R, h, j + 1, i, r, hr, hi => by
    have hq := h q (by simp)
    rw [List.flatten_cons, List.getElem?_append_right (by rw [hq, Nat.succ_mul]; omega), hq]
    rw [show (j + 1) * W + i - W = j * W + i by rw [Nat.succ_mul]; omega]
    exact flat_at (fun x hx => h x (by simp [hx])) j i r (by simpa using hr) hi
/-- Rows of one width are known by what stands in them. -/
theorem flat_inj {W : Nat} (hW : 0 < W) : ∀ {R Q : List (List Int)}, (∀ r ∈ R, r.length = W) → (∀ r ∈ Q, r.length = W) → R.flatten = Q.flatten → R = Q
  | [], [], _, _, _ => rfl
  | [], q :: Q, _, h, e => by
    have := congrArg List.length e
    have hq := h q (by simp)
    rw [List.flatten_cons, List.length_append, List.flatten_nil, List.length_nil] at this
    omega
  | r :: R, [], h, _, e => by
    have := congrArg List.length e
    have hr := h r (by simp)
    rw [List.flatten_cons, List.length_append, List.flatten_nil, List.length_nil] at this
    omega
  | r :: R, q :: Q, h, k, e => by
    have hr := h r (by simp)
    have hq := k q (by simp)
    rw [List.flatten_cons, List.flatten_cons] at e
    obtain ⟨e1, e2⟩ := List.append_inj e (hr.trans hq.symm)
    rw [e1, flat_inj hW (fun x hx => h x (by simp [hx])) (fun x hx => k x (by simp [hx])) e2]

end Go.Proofs.YtpblllpgmibkoaaGreat

namespace Go.Proofs.YtpblllpgmibkoaaGreat
open Go.RowKit

/-- 'string(b)' of a slice that holds one byte. -/
theorem one_back (W : World) (b : Nat) (n : Int) (h0 : 0 ≤ n) (h : n < 256) (hc : W.cell? ⟨b, 0, none⟩ = some (.int .u8 n)) :
    (convert 70 9 (.slice (some ⟨b, 0, none⟩) 1 1)).run Tryz.prog W = .ok (.string ⟨#[vb n]⟩) W := by
  refine run_convert_bytes_back W 70 9 5 ⟨b, 0, none⟩ 1 [vb n] Tryz.underlying70 Tryz.underlying5 Tryz.underlying9 (fun j hj => ?_)
  obtain rfl : j = 0 := by simp at hj; omega
  rw [show (⟨b, 0, none⟩ : Addr).add 0 = ⟨b, 0, none⟩ from by simp [Addr.add]]
  simp only [List.getElem_cons_zero]
  rw [vb_toNat n h0 h]
  exact hc

theorem bcell {W w1 : World} (hb : Below W.heap.size W w1) : (∀ b o, b < W.heap.size → w1.cell? ⟨b, o, none⟩ = W.cell? ⟨b, o, none⟩) ∧ (∀ b o, b < W.heap.size → w1.frozen? ⟨b, o, none⟩ = W.frozen? ⟨b, o, none⟩) :=
  ⟨fun b o h => hb.cell (p := ⟨b, o, none⟩) h, fun b o h => hb.frozen (p := ⟨b, o, none⟩) h⟩

theorem below_o1 {w w1 : World} {o : Obj} (hb : Below (w.alloc o).drew.heap.size (w.alloc o).drew w1) : Below w.heap.size w w1 :=
  ((Below.refl _ _).alloc (Nat.le_refl _) _).drew.trans (hb.mono (by simp))
theorem below_o3 {w w1 : World} (hb : Below w.drew.heap.size w.drew w1) (o : Obj) : Below w.heap.size w (w1.alloc o) :=
  ((Below.refl _ _).drew.trans hb).alloc (by have := hb.size; simpa using this) _

set_option maxHeartbeats 400000 in
set_option maxRecDepth 100000 in
theorem refput_neg (n : Int) (w : World) (hn : n < 0) :
    Calls Tryz.prog 42 #[.int .i64 n] w fun e w' => e = .returned (.string ⟨(vput n).toArray⟩) ∧ Below w.heap.size w w' := by
  have hv := Lib.hid (vput_neg n hn)
  go_enter Tryz.func42, Tryz.ntmps42
  go_wp2_with fail
  go_ret
  exact ⟨by rw [hv.out]; rfl, Below.refl _ _⟩

set_option maxHeartbeats 400000 in
set_option maxRecDepth 100000 in
theorem refput_small (n : Int) (w : World) (h0 : 0 ≤ n) (hn : n < 128) :
    Calls Tryz.prog 42 #[.int .i64 n] w fun e w' => e = .returned (.string ⟨(vput n).toArray⟩) ∧ Below w.heap.size w w' := by
  have hv := Lib.hid (vput_small n h0 hn)
  go_enter Tryz.func42, Tryz.ntmps42
  go_wp2_with fail
  rw [one_back (w.alloc (.cells #[.int .u8 n] 5)) w.heap.size n h0 (by omega) (by rw [World.cell?_alloc_new]; rfl)]
  simp only [Result.andThen]
  rw [Oper.upon_value]
  go_wp2
  go_ret
  exact ⟨by rw [hv.out]; rfl, (Below.refl _ _).alloc (Nat.le_refl _) _⟩

set_option maxHeartbeats 1000000 in
set_option maxRecDepth 100000 in
theorem refput_any (k : Nat) : ∀ (n : Int) (w : World), n.toNat ≤ k → n ≤ 9223372036854775807 →
    Calls Tryz.prog 42 #[.int .i64 n] w fun e w' => e = .returned (.string ⟨(vput n).toArray⟩) ∧ Below w.heap.size w w' := by
  induction k with
  | zero =>
    intro n w hk h1
    by_cases hn : n < 0
    · exact refput_neg n w hn
    · exact refput_small n w (by omega) (by omega)
  | succ k ih =>
    intro n w hk h1
    by_cases hn : n < 0
    · exact refput_neg n w hn
    · by_cases h128 : n < 128
      · exact refput_small n w (by omega) h128
      · have IH := Lib.hid (fun w => ih (n / 128) w (by omega) (by omega))
        clear ih
        have hv := Lib.hid (vput_big n (by omega))
        have hlen := vput_length (n / 128) (by omega)
        have e1 : n.tmod 128 = n % 128 := Int.tmod_eq_emod_of_nonneg (by omega)
        have e2 : n.tdiv 128 = n / 128 := Int.tdiv_eq_ediv_of_nonneg (by omega)
        have e3 : IntKind.i64.wrap (n % 128 + 128) = n % 128 + 128 := IntWalk.i64_in _ (by omega)
        have e4 : IntKind.u8.wrap (n % 128 + 128) = n % 128 + 128 := by rw [IntKind.wrap_u8]; omega
        have e5 : IntKind.i64.wrap (n / 128) = n / 128 := IntWalk.i64_in _ (by omega)
        have hconv : ∀ (W : World) (b : Nat), W.cell? ⟨b, 0, none⟩ = some (.int .u8 (n % 128 + 128)) → (convert 70 9 (.slice (some ⟨b, 0, none⟩) 1 1)).run Tryz.prog W = .ok (.string ⟨#[vb (n % 128 + 128)]⟩) W :=
          fun W b hc => one_back W b _ (by omega) (by omega) hc
        go_enter Tryz.func42, Tryz.ntmps42
        go_wp2_with fail
        go_region_with (go_at_call 42; refine (IH.out _).mono ?_; rintro e w1 ⟨rfl, hb1⟩; obtain ⟨hc, hf⟩ := bcell hb1)
        all_goals go_wp2
        all_goals go_ret
        all_goals refine ⟨by rw [hv.out]; simp [ByteArray.mk_append_mk]; rfl, ?_⟩
        all_goals first | exact below_o1 hb1 | exact below_o3 hb1 _

/-- Take's answer: number, size, error; the world as it was. -/
def RetT (n s x : Int) (w : World) (e : Ending) (w' : World) : Prop := e = .returned (.tuple #[.int .i64 n, .int .i64 s, .int .i64 x]) ∧ w = w'

theorem RetT.mk {n s x : Int} {w : World} {e : Ending} (h : e = .returned (.tuple #[.int .i64 n, .int .i64 s, .int .i64 x])) : RetT n s x w e w := ⟨h, rfl⟩

theorem digit_sum (v : Nat) (c : UInt8) (h : v < 72057594037927936) : wrap64 ((v : Int) * 128 + (wrap64 (c.toNat : Int)).tmod 128) = ((c.toNat % 128 + 128 * v : Nat) : Int) := by
  have hc := c.toNat_lt
  rw [IntWalk.wrap64_in (c.toNat : Int) ⟨by omega, by omega⟩, Int.tmod_eq_emod_of_nonneg (by omega), IntWalk.wrap64_in _ ⟨by omega, by omega⟩]
  omega

set_option maxHeartbeats 1000000 in
set_option maxRecDepth 100000 in
theorem reftake_any (l : List UInt8) (w : World) (hlen : l.length ≤ 9223372036854775807) :
    Calls Tryz.prog 72 #[.string ⟨l.toArray⟩] w (RetT (tN l) (tS l) (tE l) w) := by
  have HS := Lib.hid (bsize l)
  have hle := hi_le l
  go_enter Tryz.func72, Tryz.ntmps72
  go_wp2
  go_loop [5] (fun i => ∃ k : Nat, k ≤ hi l ∧ i = .int .i64 k) (fun i => hi l - (RowKit.intOf i).toNat)
  case atStart => exact ⟨0, Nat.zero_le _, rfl⟩
  case round =>
    obtain ⟨k, hk, rfl⟩ := hrel
    by_cases hlt : k < hi l
    · have hb := hi_high l k (by omega) hlt
      have hsz : k < (⟨l.toArray⟩ : ByteArray).size := by rw [HS.out]; omega
      have ha := byteAt l k (by omega) hsz
      have hg : 128 ≤ (((⟨l.toArray⟩ : ByteArray)[k]'hsz).toNat : Int) := by rw [ha]; omega
      clear ha
      go_wp2
      exact ⟨⟨k + 1, by omega, by go_num⟩, by simp [RowKit.intOf]; omega⟩
    · obtain rfl : k = hi l := by omega
      clear hk hlt
      by_cases hend : hi l = l.length
      · have hsz : ¬ hi l < (⟨l.toArray⟩ : ByteArray).size := by rw [HS.out]; omega
        by_cases h9 : 9 ≤ hi l
        · have HT := Lib.hid (t_long l h9)
          clear hend
          go_wp2
          go_ret3
          exact RetT.mk (by rw [HT.out.1, HT.out.2.1, HT.out.2.2]; rfl)
        · have HT := Lib.hid (t_short l h9 hend)
          have HE := Lib.hid hend
          clear hend
          have he : ((hi l : Int) == (l.length : Int)) = true := by rw [HE.out]; simp
          go_wp2
          go_ret3
          exact RetT.mk (by rw [HT.out.1, HT.out.2.1, HT.out.2.2]; rfl)
      · have hlt : hi l < l.length := by omega
        have hsz : hi l < (⟨l.toArray⟩ : ByteArray).size := by rw [HS.out]; omega
        have ha := byteAt l (hi l) hlt hsz
        have hg : ¬ 128 ≤ (((⟨l.toArray⟩ : ByteArray)[hi l]'hsz).toNat : Int) := by rw [ha]; have := hi_low l hlt; omega
        have he : ((hi l : Int) == (l.length : Int)) = false := by simp; omega
        by_cases h9 : 9 ≤ hi l
        · have HT := Lib.hid (t_long l h9)
          clear ha
          go_wp2
          go_ret3
          exact RetT.mk (by rw [HT.out.1, HT.out.2.1, HT.out.2.2]; rfl)
        · by_cases hz : l[hi l].toNat = 0 ∧ 0 < hi l
          · have HT := Lib.hid (t_form l h9 hlt hz.1 hz.2)
            have hpos := hz.2
            have hq : ((((⟨l.toArray⟩ : ByteArray)[hi l]'hsz).toNat : Int) == 0) = true := by rw [ha, hz.1]; rfl
            clear ha hz
            go_wp2
            go_ret3
            exact RetT.mk (by rw [HT.out.1, HT.out.2.1, HT.out.2.2]; rfl)
          · have HT := Lib.hid (t_ok l h9 hlt (by omega))
            have hw : ∃ b : Bool, ((((⟨l.toArray⟩ : ByteArray)[hi l]'hsz).toNat : Int) == 0) = b ∧ (b = true → ¬ 0 < hi l) :=
              ⟨_, rfl, fun h hp => hz ⟨by rw [ha] at h; simpa using h, hp⟩⟩
            obtain ⟨b, hq, hp⟩ := hw
            clear ha hz
            cases b
            · clear hp
              go_wp2
              go_loop [6, 7] (fun n i => ∃ j : Nat, j ≤ hi l + 1 ∧ i = .int .i64 ((j : Int) - 1) ∧ n = .int .i64 (upto l j)) (fun _ i => (RowKit.intOf i + 1).toNat)
              case atStart => exact ⟨hi l + 1, Nat.le_refl _, by go_num, by rw [upto_end]; rfl⟩
              case round =>
                obtain ⟨j, hj, rfl, rfl⟩ := hrel
                by_cases h0 : j = 0
                · subst h0
                  have HV := Lib.hid (upto_all l)
                  rw [show (((0 : Nat) : Int) - 1) = -1 from rfl]
                  go_wp2
                  go_ret3
                  exact RetT.mk (by rw [HT.out.1, HT.out.2.1, HT.out.2.2, ← HV.out]; rfl)
                · obtain ⟨i, rfl⟩ : ∃ i, j = i + 1 := ⟨j - 1, by omega⟩
                  have hub := upto_lt l (i + 1) (by omega) h9
                  have HU := Lib.hid (upto_step l i (by omega) hlt)
                  have hsi : i < (⟨l.toArray⟩ : ByteArray).size := by rw [HS.out]; omega
                  have HA := Lib.hid (byteAt l i (by omega) hsi)
                  rw [show (((i + 1 : Nat) : Int) - 1) = (i : Int) from by omega]
                  generalize upto l (i + 1) = v at hub HU
                  go_wp2
                  exact ⟨⟨i, by omega, rfl, by rw [digit_sum _ _ hub, HU.out, HA.out]⟩, by simp [RowKit.intOf]⟩
            · have hpos := hp rfl
              clear hp
              go_wp2
              go_loop [6, 7] (fun n i => ∃ j : Nat, j ≤ hi l + 1 ∧ i = .int .i64 ((j : Int) - 1) ∧ n = .int .i64 (upto l j)) (fun _ i => (RowKit.intOf i + 1).toNat)
              case atStart => exact ⟨hi l + 1, Nat.le_refl _, by go_num, by rw [upto_end]; rfl⟩
              case round =>
                obtain ⟨j, hj, rfl, rfl⟩ := hrel
                by_cases h0 : j = 0
                · subst h0
                  have HV := Lib.hid (upto_all l)
                  rw [show (((0 : Nat) : Int) - 1) = -1 from rfl]
                  go_wp2
                  go_ret3
                  exact RetT.mk (by rw [HT.out.1, HT.out.2.1, HT.out.2.2, ← HV.out]; rfl)
                · obtain ⟨i, rfl⟩ : ∃ i, j = i + 1 := ⟨j - 1, by omega⟩
                  have hub := upto_lt l (i + 1) (by omega) h9
                  have HU := Lib.hid (upto_step l i (by omega) hlt)
                  have hsi : i < (⟨l.toArray⟩ : ByteArray).size := by rw [HS.out]; omega
                  have HA := Lib.hid (byteAt l i (by omega) hsi)
                  rw [show (((i + 1 : Nat) : Int) - 1) = (i : Int) from by omega]
                  generalize upto l (i + 1) = v at hub HU
                  go_wp2
                  exact ⟨⟨i, by omega, rfl, by rw [digit_sum _ _ hub, HU.out, HA.out]⟩, by simp [RowKit.intOf]⟩
end Go.Proofs.YtpblllpgmibkoaaGreat

namespace Go.Proofs.YtpblllpgmibkoaaGreat
open Go.RowKit

/-- extent's answer: the size, the error; the world as it was. -/
def RetX (s x : Int) (w : World) (e : Ending) (w' : World) : Prop := e = .returned (.tuple #[.int .i64 s, .int .i64 x]) ∧ w = w'

theorem RetX.mk {s x : Int} {w : World} {e : Ending} (h : e = .returned (.tuple #[.int .i64 s, .int .i64 x])) : RetX s x w e w := ⟨h, rfl⟩

set_option maxHeartbeats 1000000 in
set_option maxRecDepth 100000 in
theorem extent_any (l : List UInt8) (w : World) (hlen : l.length ≤ 9223372036854775807) :
    Calls Tryz.prog 113 #[.string ⟨l.toArray⟩] w (RetX (tS l) (tE l) w) := by
  have HS := Lib.hid (bsize l)
  have hle := hi_le l
  by_cases hL : 9 < l.length
  all_goals
    go_enter Tryz.func113, Tryz.ntmps113
    go_wp2
    go_loop [8] (fun i => ∃ k : Nat, k ≤ 9 ∧ k ≤ hi l ∧ i = .int .i64 k) (fun i => 9 - (RowKit.intOf i).toNat)
    case atStart => exact ⟨0, by omega, by omega, rfl⟩
    case round =>
      obtain ⟨k, hk9, hkl, rfl⟩ := hrel
      by_cases hend : k = 9 ∨ k = l.length
      · by_cases h9 : 9 ≤ hi l
        · have hk : k = 9 := by omega
          subst hk
          have HT := Lib.hid (t_long l h9)
          go_wp2
          go_ret2
          exact RetX.mk (by rw [HT.out.1, HT.out.2.1]; rfl)
        · first
            | (exfalso; omega)
            | (have hk : k = l.length := by omega
               have HT := Lib.hid (t_short l h9 (by omega))
               have HK := Lib.hid hk
               have hn : ¬ (k : Int) < (l.length : Int) := by omega
               have hn9 : l.length < 9 := by omega
               clear hk
               go_wp2
               go_ret2
               exact RetX.mk (by rw [HT.out.1, HT.out.2.1]; rfl))
      · have hlt : k < l.length := by omega
        have hk9' : k < 9 := by omega
        clear hend
        have hsz : k < (⟨l.toArray⟩ : ByteArray).size := by rw [HS.out]; omega
        have ha := byteAt l k hlt hsz
        by_cases hh : k < hi l
        · have hg : 128 ≤ (((⟨l.toArray⟩ : ByteArray)[k]'hsz).toNat : Int) := by rw [ha]; have := hi_high l k hlt hh; omega
          clear ha
          go_wp2
          exact ⟨⟨k + 1, by omega, by omega, by go_num⟩, by simp [RowKit.intOf]; omega⟩
        · obtain rfl : k = hi l := by omega
          have hg : ¬ 128 ≤ (((⟨l.toArray⟩ : ByteArray)[hi l]'hsz).toNat : Int) := by rw [ha]; have := hi_low l hlt; omega
          have h9 : ¬ 9 ≤ hi l := by omega
          by_cases hz : l[hi l].toNat = 0 ∧ 0 < hi l
          · have HT := Lib.hid (t_form l h9 hlt hz.1 hz.2)
            have hpos := hz.2
            have hq : ((((⟨l.toArray⟩ : ByteArray)[hi l]'hsz).toNat : Int) == 0) = true := by rw [ha, hz.1]; rfl
            clear ha hz
            go_wp2
            go_ret2
            exact RetX.mk (by rw [HT.out.1, HT.out.2.1]; rfl)
          · have HT := Lib.hid (t_ok l h9 hlt (by omega))
            have hw : ∃ b : Bool, ((((⟨l.toArray⟩ : ByteArray)[hi l]'hsz).toNat : Int) == 0) = b ∧ (b = true → ¬ 0 < hi l) :=
              ⟨_, rfl, fun h hp => hz ⟨by rw [ha] at h; simpa using h, hp⟩⟩
            obtain ⟨b, hq, hp⟩ := hw
            clear ha hz
            cases b
            · clear hp
              go_wp2
              go_ret2
              exact RetX.mk (by rw [HT.out.1, HT.out.2.1]; rfl)
            · have hpos := hp rfl
              clear hp
              go_wp2
              go_ret2
              exact RetX.mk (by rw [HT.out.1, HT.out.2.1]; rfl)

theorem or_seven (v : Nat) (c : UInt8) (h : v < 72057594037927936) : bits .or .i64 ((v : Int) * 128) ((c.toNat : Int) % 128) = ((c.toNat % 128 + 128 * v : Nat) : Int) := by
  rw [or_i64_seven _ _ (by omega) (by omega) (by omega) (by omega)]
  omega

set_option maxHeartbeats 1000000 in
set_option maxRecDepth 100000 in
theorem take_any (l : List UInt8) (w : World) (hlen : l.length ≤ 9223372036854775807) :
    Calls Tryz.prog 93 #[.string ⟨l.toArray⟩] w (RetT (tN l) (tS l) (tE l) w) := by
  have HS := Lib.hid (bsize l)
  have hle := hi_le l
  by_cases ht : tE l = 0
  · have HX := extent_any l w hlen
    have h9 : ¬ 9 ≤ hi l := fun h => by have := (t_long l h).1; omega
    have hlt : hi l < l.length := by
      rcases Nat.lt_or_ge (hi l) l.length with h | h
      · exact h
      · have := (t_short l h9 (by omega)).1; omega
    have hs : tS l = (hi l : Int) + 1 := by unfold tS; rw [if_pos ht]
    have hn : tN l = (val (l.take (hi l + 1)) : Int) := by unfold tN; rw [if_pos ht]
    rw [ht, hs] at HX
    rw [ht, hs, hn]
    clear ht hs hn
    go_enter Tryz.func93, Tryz.ntmps93
    go_wp2_with fail
    refine HX.mono ?_
    rintro e w' ⟨rfl, rfl⟩
    go_wp2
    go_loop [2, 5] (fun n i => ∃ j : Nat, j ≤ hi l + 1 ∧ i = .int .i64 ((j : Int) - 1) ∧ n = .int .i64 (upto l j)) (fun _ i => (RowKit.intOf i + 1).toNat)
    case atStart => exact ⟨hi l + 1, Nat.le_refl _, by go_num, by rw [upto_end]; rfl⟩
    case round =>
      obtain ⟨j, hj, rfl, rfl⟩ := hrel
      by_cases h0 : j = 0
      · subst h0
        have HV := Lib.hid (upto_all l)
        rw [show (((0 : Nat) : Int) - 1) = -1 from rfl]
        go_wp2
        go_ret3
        exact RetT.mk (by rw [← HV.out]; rfl)
      · obtain ⟨i, rfl⟩ : ∃ i, j = i + 1 := ⟨j - 1, by omega⟩
        have hub := upto_lt l (i + 1) (by omega) h9
        have HU := Lib.hid (upto_step l i (by omega) hlt)
        have hsi : i < (⟨l.toArray⟩ : ByteArray).size := by rw [HS.out]; omega
        have HA := Lib.hid (byteAt l i (by omega) hsi)
        rw [show (((i + 1 : Nat) : Int) - 1) = (i : Int) from by omega]
        generalize upto l (i + 1) = v at hub HU
        go_wp2
        exact ⟨⟨i, by omega, rfl, by rw [or_seven _ _ hub, HU.out, HA.out]⟩, by simp [RowKit.intOf]⟩
  · have HX := extent_any l w hlen
    have hs : tS l = 0 := by unfold tS; rw [if_neg ht]
    have hn : tN l = 0 := by unfold tN; rw [if_neg ht]
    rw [hs] at HX
    rw [hs, hn]
    generalize tE l = x at HX ht ⊢
    have ht' : (x == 0) = false := by simpa using ht
    clear hs hn ht
    go_enter Tryz.func93, Tryz.ntmps93
    go_wp2_with fail
    refine HX.mono ?_
    rintro e w' ⟨rfl, rfl⟩
    go_wp2
    go_ret3
    exact RetT.mk rfl
end Go.Proofs.YtpblllpgmibkoaaGreat

namespace Go.Proofs.YtpblllpgmibkoaaGreat
open Go.RowKit

/-- Behind a call that writes one block of its own: all others below 'base' are as they were. -/
structure But (base b : Nat) (w w' : World) : Prop where
  os : w'.os = w.os
  tape : w'.tape = w.tape
  output : w'.output = w.output
  size : w.heap.size ≤ w'.heap.size
  block : ∀ k, k < base → k ≠ b → w'.heap[k]? = w.heap[k]?

theorem But.refl (base b : Nat) (w : World) : But base b w w := ⟨rfl, rfl, rfl, Nat.le_refl _, fun _ _ _ => rfl⟩
theorem But.trans {base b : Nat} {u v w : World} (h : But base b u v) (k : But base b v w) : But base b u w :=
  ⟨k.os.trans h.os, k.tape.trans h.tape, k.output.trans h.output, Nat.le_trans h.size k.size, fun i hi hb => (k.block i hi hb).trans (h.block i hi hb)⟩
theorem But.below {base b : Nat} {w w' : World} (h : But base b w w') (hb : b ≤ base) : Below b w w' :=
  ⟨h.os, h.tape, h.output, h.size, fun k hk => h.block k (by omega) (by omega)⟩
theorem But.of {base b : Nat} {w w' : World} (h : Below base w w') : But base b w w' := ⟨h.os, h.tape, h.output, h.size, fun k hk _ => h.block k hk⟩

theorem owns_slice {w : World} {base : Nat} {e : TypeId} {v : Value} {n : Nat} {xs : List Value} (h : w.ownsRow base e 1 v n xs) : ∃ a cap, v = .slice a n cap := by
  rcases h.2 with ⟨rfl, rfl⟩ | ⟨g, cap, cur, rfl, _⟩
  · exact ⟨_, _, rfl⟩
  · exact ⟨_, _, rfl⟩

theorem owns_some {w : World} {base : Nat} {e : TypeId} {v : Value} {n : Nat} {xs : List Value} (h : w.ownsRow base e 1 v n xs) (hn : 0 < n) : ∃ g cap, base ≤ g ∧ n ≤ cap ∧ v = .slice (some ⟨g, 0, none⟩) n cap := by
  rcases h.2 with ⟨rfl, rfl⟩ | ⟨g, cap, cur, rfl, hg, _, hc, _⟩
  · omega
  · exact ⟨g, cap, hg, hc, rfl⟩

theorem put_heap {w : World} {b i : Nat} {cs : Array Value} {T : TypeId} (h : w.heap[b]? = some (.cells cs T (0, 0))) (u : Value) : (w.setCell ⟨b, i, none⟩ u).heap[b]? = some (.cells (cs.setIfInBounds i u) T (0, 0)) := by
  simp [World.setCell, Array.getElem?_modify, h]

theorem put_other {w : World} {b i k : Nat} (h : k ≠ b) (u : Value) : (w.setCell ⟨b, i, none⟩ u).heap[k]? = w.heap[k]? := Below.heap_setCell _ _ _ _ h

theorem lt_of_heap {w : World} {b : Nat} {o : Obj} (h : w.heap[b]? = some o) : b < w.heap.size := by
  rcases Nat.lt_or_ge b w.heap.size with h' | h'
  · exact h'
  · simp [Array.getElem?_eq_none h'] at h

/-- All that was stored was stored into block b. -/
structure Into (b : Nat) (w w' : World) : Prop where
  os : w'.os = w.os
  tape : w'.tape = w.tape
  output : w'.output = w.output
  size : w'.heap.size = w.heap.size
  block : ∀ k, k ≠ b → w'.heap[k]? = w.heap[k]?
theorem Into.refl (b : Nat) (w : World) : Into b w w := ⟨rfl, rfl, rfl, rfl, fun _ _ => rfl⟩
theorem Into.set {b : Nat} {w v : World} (h : Into b w v) (i : Nat) (u : Value) : Into b w (v.setCell ⟨b, i, none⟩ u) :=
  ⟨h.os, h.tape, h.output, by rw [← h.size]; simp [World.setCell], fun k hk => (put_other hk u).trans (h.block k hk)⟩
theorem Into.drewN {b : Nat} {w v : World} (h : Into b w v) (n : Nat) : Into b w (v.drewN n) := ⟨h.os, h.tape, h.output, h.size, h.block⟩

theorem Into.owns {base b : Nat} {w w' : World} {e : TypeId} {v : Value} {n : Nat} {xs : List Value} (h : Into b w w') (hb : b < base) (hown : w.ownsRow base e 1 v n xs) : w'.ownsRow base e 1 v n xs := by
  obtain ⟨hl, hx⟩ := hown
  refine ⟨hl, ?_⟩
  rcases hx with hx | ⟨g, cap, cur, hv, hg, hh, r⟩
  · exact .inl hx
  · exact .inr ⟨g, cap, cur, hv, hg, (h.block g (by omega)).trans hh, r⟩
end Go.Proofs.YtpblllpgmibkoaaGreat

namespace Go.Proofs.YtpblllpgmibkoaaGreat
open Go.RowKit

theorem Into.trans {b : Nat} {u v w : World} (h : Into b u v) (k : Into b v w) : Into b u w := ⟨k.os.trans h.os, k.tape.trans h.tape, k.output.trans h.output, k.size.trans h.size, fun i hi => (k.block i hi).trans (h.block i hi)⟩
theorem Into.belowTo {b B : Nat} {w w' : World} (h : Into b w w') (hB : B ≤ b) : Below B w w' := ⟨h.os, h.tape, h.output, Nat.le_of_eq h.size.symm, fun k hk => h.block k (by omega)⟩
end Go.Proofs.YtpblllpgmibkoaaGreat

namespace Go.Proofs.YtpblllpgmibkoaaGreat
open Go.RowKit

/-- A slice that holds these texts. -/
def IsStrs (w : World) (a : Option Addr) (len : Nat) (ws : List (List UInt8)) : Prop :=
  ws.length = len ∧ (len = 0 ∨ ∃ b off, a = some ⟨b, off, none⟩ ∧ ∀ i (h : i < ws.length), w.cell? ⟨b, off + i, none⟩ = some (.string ⟨(ws[i]'h).toArray⟩))

theorem IsStrs.below {w w' : World} {a : Option Addr} {len : Nat} {ws : List (List UInt8)} (h : IsStrs w a len ws) (hb : Below w.heap.size w w') : IsStrs w' a len ws := by
  obtain ⟨hl, h⟩ := h
  refine ⟨hl, ?_⟩
  rcases h with h | ⟨b, off, ha, hc⟩
  · exact .inl h
  · refine .inr ⟨b, off, ha, fun i hi => ?_⟩
    have h1 := hc i hi
    rw [hb.cell (p := ⟨b, off + i, none⟩) (World.block_lt_of_cell? w _ h1)]
    exact h1

/-- One of them: where it lies. -/
theorem str_at {w wr : World} {a : Option Addr} {len : Nat} {ws : List (List UInt8)} (h : IsStrs w a len ws) (hb : Below w.heap.size w wr) (k : Nat) (hk : k < len) :
    ∃ b off, a = some ⟨b, off, none⟩ ∧ ∃ t, ws[k]? = some t ∧ wr.cell? ⟨b, off + k, none⟩ = some (.string ⟨t.toArray⟩) := by
  obtain ⟨hl, h⟩ := h.below hb
  rcases h with h | ⟨b, off, ha, hc⟩
  · omega
  · have hkl : k < ws.length := by omega
    exact ⟨b, off, ha, ws[k], List.getElem?_eq_getElem hkl, hc k hkl⟩

/-- The cells of texts. -/
def txCells (ws : List (List UInt8)) : List Value := ws.map fun t => .string ⟨t.toArray⟩
theorem txCells_snoc (ws : List (List UInt8)) (t : List UInt8) : txCells (ws ++ [t]) = txCells ws ++ [.string ⟨t.toArray⟩] := by simp [txCells]

theorem owns_strs {w : World} {base : Nat} {e : TypeId} {v : Value} {ws : List (List UInt8)} (h : w.ownsRow base e 1 v ws.length (txCells ws)) :
    ∃ ao cap, v = .slice ao ws.length cap ∧ IsStrs w ao ws.length ws := by
  rcases h.2 with ⟨hv, h0⟩ | ⟨g, cap, cur, hv, _⟩
  · have h0' : ws.length = 0 := h0
    exact ⟨none, 0, by rw [h0']; exact hv, rfl, .inl h0'⟩
  · refine ⟨some ⟨g, 0, none⟩, cap, hv, rfl, .inr ⟨g, 0, rfl, fun i hi => ?_⟩⟩
    have hc := h.cells (g := g) (by rw [hv]; rfl) i (.string ⟨(ws[i]'hi).toArray⟩) (by simp [txCells, List.getElem?_eq_getElem hi])
    rwa [addPlain] at hc

theorem tx_below {w w' : World} {base : Nat} {e : TypeId} {size : Nat} {v : Value} {n : Nat} {xs : List Value} (h : w.ownsRow base e size v n xs) (hb : Below w.heap.size w w') : w'.ownsRow base e size v n xs :=
  h.kept (row := none) ⟨hb.os, hb.tape, hb.output, hb.size, fun k hk _ => hb.block k hk⟩ (Classical.em _)

theorem below_drewS {B : Nat} {a w : World} (h : Below B a w) (n : Nat) : Below B a (w.drewN n) := h.trans ⟨rfl, rfl, rfl, Nat.le_refl _, fun _ _ => rfl⟩

/-- A list of words, as an answer: a slice of the call's own; nothing that was there is written. -/
def RetL (ws : List (List UInt8)) (w : World) (e : Ending) (w' : World) : Prop := ∃ (a : Option Addr) (cap : Nat), e = .returned (.slice a ws.length cap) ∧ IsStrs w' a ws.length ws ∧ Below w.heap.size w w'
theorem RetL.mk {ws R : List (List UInt8)} {w w' : World} {e : Ending} {a : Option Addr} {cap : Nat} (h : ws = R) (he : e = .returned (.slice a R.length cap)) (hf : IsStrs w' a R.length R) (hb : Below w.heap.size w w') : RetL ws w e w' := by
  subst h; exact ⟨a, cap, he, hf, hb⟩

theorem string_info : (Tryz.prog.info? 9).map (fun i => (i.zero, i.size, i.bytes)) = some (some (.string ByteArray.empty), 1, 16) := by kernel_rfl

/-- A text's one cell, in a block of its own. -/
theorem one_news {w : World} {X : Nat} {T : TypeId} {u : Value} (h : w.heap[X]? = some (.cells #[u] T (0, 0))) : ∀ j x, [u][j]? = some x → w.cell? ((⟨X, 0, none⟩ : Addr).add j) = some x := by
  intro j x hj
  match j, hj with
  | 0, hj => simp at hj; subst hj; simp [Addr.add, World.cell?, h]
theorem str_one {d : ByteArray} : ∀ x ∈ [Value.string d], x.oneCell' = true := by
  intro x hx
  simp at hx
  subst hx; rfl

theorem ext_cut (l : List UInt8) (st k : Nat) : (⟨l.toArray⟩ : ByteArray).extract st k = ⟨((l.take k).drop st).toArray⟩ := by
  rw [Lib.extract_eq]
  simp only [ByteArray.mk.injEq]
  rw [List.drop_take]
theorem ext_rest (l : List UInt8) (st : Nat) : (⟨l.toArray⟩ : ByteArray).extract st l.length = ⟨(l.drop st).toArray⟩ := by
  rw [ext_cut, List.take_length]
theorem cut_none (l : List UInt8) (k : Nat) : (l.take k).drop k = [] := List.drop_eq_nil_of_le (List.length_take_le _ _)

/-- Texts in one block of their own. -/
theorem strs_heap {w : World} {g n : Nat} {ws : List (List UInt8)} {T : TypeId} (h : w.heap[g]? = some (.cells (txCells ws).toArray T (0, 0))) (hn : ws.length = n) : IsStrs w (some ⟨g, 0, none⟩) n ws := by
  refine ⟨hn, .inr ⟨g, 0, rfl, fun i hi => ?_⟩⟩
  rw [Nat.zero_add, Lib.cell_of_heap h]
  simp [txCells, List.getElem?_eq_getElem hi]
end Go.Proofs.YtpblllpgmibkoaaGreat

namespace Go.Proofs.YtpblllpgmibkoaaGreat
open Go.RowKit

/-- In block b lies what is left, and what was wrong first. -/
def IsRd (w : World) (b : Nat) (s : List UInt8) (x : Int) : Prop := w.heap[b]? = some (.cells #[.string ⟨s.toArray⟩, .int .i64 x] 82 (0, 0))
theorem IsRd.reads {w : World} {b : Nat} {s : List UInt8} {x : Int} (h : IsRd w b s x) : w.cell? ⟨b, 0, none⟩ = some (.string ⟨s.toArray⟩) ∧ w.cell? ⟨b, 1, none⟩ = some (.int .i64 x) ∧ w.frozen? ⟨b, 0, none⟩ = false ∧ w.frozen? ⟨b, 1, none⟩ = false := by
  refine ⟨?_, ?_, Lib.frozen_of_heap h 0, Lib.frozen_of_heap h 1⟩ <;> rw [Lib.cell_of_heap h] <;> rfl
theorem IsRd.err {w : World} {b : Nat} {s : List UInt8} {x : Int} (h : IsRd w b s x) (y : Int) : IsRd (w.setCell ⟨b, 1, none⟩ (.int .i64 y)) b s y := by
  unfold IsRd at h ⊢; rw [put_heap h]; rfl
theorem IsRd.left {w : World} {b : Nat} {s : List UInt8} {x : Int} (h : IsRd w b s x) (t : List UInt8) : IsRd (w.setCell ⟨b, 0, none⟩ (.string ⟨t.toArray⟩)) b t x := by
  unfold IsRd at h ⊢; rw [put_heap h]; rfl
theorem IsRd.drewN {w : World} {b : Nat} {s : List UInt8} {x : Int} (h : IsRd w b s x) (q : Nat) : IsRd (w.drewN q) b s x := h
/-- What was wrong first, behind one more thing that is asked. -/
def askX (x : Int) (q : Bool) (e : Int) : Int := if x = 0 ∧ q = false then e else x
theorem ask_zero {x : Int} {q : Bool} {e : Int} (he : e ≠ 0) : askX x q e = 0 ↔ x = 0 ∧ q = true := by
  unfold askX
  cases q <;> simp
  by_cases hx : x = 0 <;> simp [hx, he]
theorem ask_true (x e : Int) : askX x true e = x := by unfold askX; simp
theorem ask_two {x e : Int} (he : e ≠ 0) (p q : Bool) : askX (askX x p e) q e = askX x (p && q) e := by
  unfold askX
  cases p <;> cases q <;> by_cases hx : x = 0 <;> simp [hx, he]

set_option maxHeartbeats 1000000 in
theorem tbask_any {w : World} {b : Nat} {s : List UInt8} {x : Int} (h : IsRd w b s x) (q : Bool) (e : Int) :
    Calls Tryz.prog 66 #[.pointer (some ⟨b, 0, none⟩), .bool q, .int .i64 e] w fun r w' => r = .returned (.tuple #[]) ∧ IsRd w' b s (askX x q e) ∧ Into b w w' := by
  obtain ⟨c0, c1, f0, f1⟩ := h.reads
  have H := Lib.hid h
  clear h
  by_cases hx : x = 0
  · subst hx
    cases q with
    | true =>
      go_enter Tryz.func66, Tryz.ntmps66
      go_wp2
      go_end0
      exact ⟨rfl, by rw [ask_true]; exact H.out, Into.refl _ _⟩
    | false =>
      go_enter Tryz.func66, Tryz.ntmps66
      go_wp2
      go_end0
      exact ⟨rfl, H.out.err e, (Into.refl _ _).set _ _⟩
  · have g : (x == 0) = false := by simpa using hx
    have E : Hid (askX x q e = x) := Lib.hid (by unfold askX; rw [if_neg (fun hh => hx hh.1)])
    go_enter Tryz.func66, Tryz.ntmps66
    go_wp2
    go_end0
    exact ⟨rfl, by rw [E.out]; exact H.out, Into.refl _ _⟩

set_option maxHeartbeats 1000000 in
theorem tbtext_any {w : World} {b : Nat} {s : List UInt8} {x : Int} (h : IsRd w b s x) (k : Nat) (hk : k ≤ 1000000000) (y : Int) (hy : askX x (decide (k ≤ s.length)) 4 = y) (hs : s.length ≤ 1000000000) :
    Calls Tryz.prog 68 #[.pointer (some ⟨b, 0, none⟩), .int .i64 (k : Int)] w fun r w' => r = .returned (.string ⟨(if y = 0 then s.take k else []).toArray⟩) ∧ IsRd w' b (if y = 0 then s.drop k else s) y ∧ Into b w w' := by
  obtain ⟨c0, c1, f0, f1⟩ := h.reads
  have HZ := Lib.hid (bsize s)
  have H1 := Lib.hid (tbask_any h (decide (k ≤ s.length)) 4)
  rw [hy] at H1
  have hd : decide ((k : Int) ≤ (s.length : Int)) = decide (k ≤ s.length) := by simp
  have HE : Hid (y = 0 → k ≤ s.length) := Lib.hid (fun h0 => by rw [h0, ask_zero (by decide)] at hy; simpa using hy.2)
  clear h hy
  obtain ⟨q, hq⟩ : ∃ q, decide (k ≤ s.length) = q := ⟨_, rfl⟩
  rw [hq] at H1 hd
  have x1 : (⟨s.toArray⟩ : ByteArray).extract 0 k = ⟨(s.take k).toArray⟩ := by rw [ext_cut]; rfl
  have x2 := ext_rest s k
  by_cases h0 : y = 0
  · rw [if_pos h0, if_pos h0]
    subst h0
    go_enter Tryz.func68, Tryz.ntmps68
    go_wp2_with fail
    refine H1.out.mono ?_
    rintro e w1 ⟨rfl, hr, hi⟩
    obtain ⟨c0, c1, f0, f1⟩ := hr.reads
    have HR := Lib.hid hr
    have HI := Lib.hid hi
    have g2 := HE.out (by simp)
    have g1 : (k : Int) ≤ (s.length : Int) := by omega
    clear hr hi H1 HE
    go_wp2
    go_ret
    exact ⟨rfl, HR.out.left _, HI.out.set _ _⟩
  · have g1 : (y == 0) = false := by simpa using h0
    rw [if_neg h0, if_neg h0]
    clear HE
    go_enter Tryz.func68, Tryz.ntmps68
    go_wp2_with fail
    refine H1.out.mono ?_
    rintro e w1 ⟨rfl, hr, hi⟩
    obtain ⟨c0, c1, f0, f1⟩ := hr.reads
    have HR := Lib.hid hr
    have HI := Lib.hid hi
    clear hr hi H1
    go_wp2
    go_ret
    exact ⟨rfl, HR.out, HI.out⟩

/-- What was wrong first, behind one more number. -/
def numX (x m : Int) (s : List UInt8) : Int := if x = 0 then nmE m s else x

set_option maxHeartbeats 2000000 in
theorem tbnum_any {w : World} {b : Nat} {s : List UInt8} {x : Int} (h : IsRd w b s x) (m : Int) (hm : 0 ≤ m) (y : Int) (hy : numX x m s = y) (hs : s.length ≤ 1000000000) :
    Calls Tryz.prog 69 #[.pointer (some ⟨b, 0, none⟩), .int .i64 m] w fun r w' => r = .returned (.int .i64 (if y = 0 then tN s else 0)) ∧ IsRd w' b (if y = 0 then pasT s else s) y ∧ Into b w w' := by
  obtain ⟨c0, c1, f0, f1⟩ := h.reads
  by_cases hx : x = 0
  · subst hx
    rw [numX, if_pos rfl] at hy
    have HT := Lib.hid (take_any s w (by omega))
    by_cases h1 : tE s = 0
    · obtain ⟨p1, p2, _⟩ := put_take s h1
      obtain ⟨k, hk⟩ : ∃ k : Nat, tS s = (k : Int) := ⟨(tS s).toNat, by omega⟩
      have HP : Hid (pasT s = s.drop k) := Lib.hid (by unfold pasT; rw [hk, Int.toNat_natCast])
      rw [hk] at HT p2
      rw [h1] at HT
      have HZ := Lib.hid (bsize s)
      have x2 := ext_rest s k
      have g3 : (k : Int) ≤ (s.length : Int) := by omega
      have HA := Lib.hid (tbask_any h true 0)
      rw [ask_true] at HA
      by_cases h2 : m < tN s
      · have e : y = 11 := by rw [← hy]; unfold nmE; rw [if_pos h1, if_pos h2]
        subst e
        have HB := Lib.hid (fun (W : World) (hW : IsRd W b s 0) => tbask_any hW false 11)
        have hd : decide (tN s ≤ m) = false := decide_eq_false (by omega)
        rw [if_neg (by decide), if_neg (by decide)]
        generalize tN s = n at *
        clear h hy h1 p1 p2 hk HP x2 g3
        go_enter Tryz.func69, Tryz.ntmps69
        go_wp2_with fail
        refine HT.out.mono ?_
        rintro e w' ⟨rfl, hw⟩
        obtain rfl := hw.symm
        clear hw
        go_wp2_with fail
        refine HA.out.mono ?_
        rintro e w1 ⟨rfl, hr1, hi1⟩
        have HB1 := Lib.hid (HB.out w1 hr1)
        go_wp2_with fail
        refine HB1.out.mono ?_
        rintro e w2 ⟨rfl, hr2, hi2⟩
        obtain ⟨c0, c1, f0, f1⟩ := hr2.reads
        have HR := Lib.hid hr2
        have HI := Lib.hid (hi1.trans hi2)
        clear hr1 hr2 hi1 hi2 HA HB HB1
        go_wp2
        go_ret
        exact ⟨rfl, HR.out, HI.out⟩
      · have e : y = 0 := by rw [← hy]; unfold nmE; rw [if_pos h1, if_neg h2]
        subst e
        have HB := Lib.hid (fun (W : World) (hW : IsRd W b s 0) => tbask_any hW true 11)
        have hd : decide (tN s ≤ m) = true := decide_eq_true (by omega)
        rw [if_pos rfl, if_pos rfl, HP.out]
        generalize tN s = n at *
        clear h hy h1 p1 p2 hk HP
        go_enter Tryz.func69, Tryz.ntmps69
        go_wp2_with fail
        refine HT.out.mono ?_
        rintro e w' ⟨rfl, hw⟩
        obtain rfl := hw.symm
        clear hw
        go_wp2_with fail
        refine HA.out.mono ?_
        rintro e w1 ⟨rfl, hr1, hi1⟩
        have HB1 := Lib.hid (HB.out w1 hr1)
        go_wp2_with fail
        refine HB1.out.mono ?_
        rintro e w2 ⟨rfl, hr2, hi2⟩
        rw [ask_true] at hr2
        obtain ⟨c0, c1, f0, f1⟩ := hr2.reads
        have HR := Lib.hid hr2
        have HI := Lib.hid (hi1.trans hi2)
        clear hr1 hr2 hi1 hi2 HA HB HB1
        go_wp2
        go_ret
        exact ⟨rfl, HR.out.left _, HI.out.set _ _⟩
    · have e : y = tE s := by rw [← hy]; unfold nmE; rw [if_neg h1]
      subst e
      have hs0 : tS s = 0 := by unfold tS; rw [if_neg h1]
      have hn : tN s = 0 := by unfold tN; rw [if_neg h1]
      rw [hs0, hn] at HT
      rw [if_neg h1, if_neg h1]
      have HA := Lib.hid (tbask_any h false (tE s))
      have hd : decide ((0 : Int) ≤ m) = true := decide_eq_true hm
      have HB := Lib.hid (fun (W : World) (hW : IsRd W b s (tE s)) => tbask_any hW true 11)
      rw [show askX 0 false (tE s) = tE s from rfl] at HA
      generalize tE s = y at *
      have g1 : (y == 0) = false := by simpa using h1
      clear h hy hs0 hn h1
      go_enter Tryz.func69, Tryz.ntmps69
      go_wp2_with fail
      refine HT.out.mono ?_
      rintro e w' ⟨rfl, hw⟩
      obtain rfl := hw.symm
      clear hw
      go_wp2_with fail
      refine HA.out.mono ?_
      rintro e w1 ⟨rfl, hr1, hi1⟩
      have HB1 := Lib.hid (HB.out w1 hr1)
      go_wp2_with fail
      refine HB1.out.mono ?_
      rintro e w2 ⟨rfl, hr2, hi2⟩
      rw [ask_true] at hr2
      obtain ⟨c0, c1, f0, f1⟩ := hr2.reads
      have HR := Lib.hid hr2
      have HI := Lib.hid (hi1.trans hi2)
      clear hr1 hr2 hi1 hi2 HA HB HB1
      go_wp2
      go_ret
      exact ⟨rfl, HR.out, HI.out⟩
  · have e : y = x := by rw [← hy]; unfold numX; rw [if_neg hx]
    subst e
    have g1 : (y == 0) = false := by simpa using hx
    rw [if_neg hx, if_neg hx]
    have H := Lib.hid h
    clear h hy
    go_enter Tryz.func69, Tryz.ntmps69
    go_wp2
    go_ret
    exact ⟨rfl, H.out, Into.refl _ _⟩

theorem rise_end (l : List UInt8) (k : Nat) (h1 : l.length ≤ k + 1) (h2 : k + 1 ≤ l.length ∨ k = 0) : riseK l (k + 1) = riseT l := by
  unfold riseT
  rcases h2 with h2 | rfl
  · rw [show l.length = k + 1 by omega]
  · rcases Nat.lt_or_ge 0 l.length with h | h
    · rw [show l.length = 0 + 1 by omega]
    · rw [show l.length = 0 by omega]; rfl

set_option maxHeartbeats 2000000 in
theorem tbrise_any {w : World} {b : Nat} {s : List UInt8} {x : Int} (h : IsRd w b s x) (l : List UInt8) (hl : l.length ≤ 1000000000) :
    Calls Tryz.prog 70 #[.pointer (some ⟨b, 0, none⟩), .string ⟨l.toArray⟩] w fun r w' => r = .returned (.tuple #[]) ∧ IsRd w' b s (askX x (riseT l) 9) ∧ Into b w w' := by
  have H := Lib.hid h
  have HZ := Lib.hid (bsize l)
  clear h
  go_enter Tryz.func70, Tryz.ntmps70
  go_wp2_with fail
  go_loopw [4] (fun i wr => ∃ k : Nat, i = .int .i64 ((k + 1 : Nat) : Int) ∧ (k + 1 ≤ l.length ∨ k = 0) ∧ Hid (IsRd wr b s (askX x (riseK l (k + 1)) 9)) ∧ Hid (Into b w wr)) (fun i _ => l.length - (RowKit.intOf i).toNat)
  case atStart => exact ⟨0, rfl, .inr rfl, Lib.hid (by rw [show riseK l (0 + 1) = true from rfl, ask_true]; exact H.out), Lib.hid (Into.refl _ _)⟩
  case round =>
    obtain ⟨k, rfl, hk, HR, HI⟩ := hrel
    by_cases hlt : k + 1 < l.length
    · have z1 : k < (⟨l.toArray⟩ : ByteArray).size := by rw [HZ.out]; omega
      have z2 : k + 1 < (⟨l.toArray⟩ : ByteArray).size := by rw [HZ.out]; omega
      have a1 := byteAt l k (by omega) z1
      have a2 := byteAt l (k + 1) (by omega) z2
      have e1 : ((k + 1 : Nat) : Int) = (k : Int) + 1 := by omega
      have HQ : Hid (riseK l (k + 1 + 1) = (riseK l (k + 1) && decide ((l[k]'(by omega)).toNat < (l[k + 1]'(by omega)).toNat))) := Lib.hid (by
        rw [riseK]
        congr 1
        rw [show (k + 1 == 0) = false from by simp, Bool.false_or, Nat.add_sub_cancel]
        simp only [List.getD, List.getElem?_eq_getElem (show k < l.length by omega), List.getElem?_eq_getElem hlt, Option.getD_some, UInt8.lt_iff_toNat_lt])
      have hd : decide ((((⟨l.toArray⟩ : ByteArray)[k]'z1).toNat : Int) < (((⟨l.toArray⟩ : ByteArray)[k + 1]'z2).toNat : Int)) = decide ((l[k]'(by omega)).toNat < (l[k + 1]'(by omega)).toNat) := by rw [a1, a2]; simp
      have hd2 : decide (((⟨l.toArray⟩ : ByteArray)[k]'z1).toNat < ((⟨l.toArray⟩ : ByteArray)[k + 1]'z2).toNat) = decide ((l[k]'(by omega)).toNat < (l[k + 1]'(by omega)).toNat) := by rw [a1, a2]
      have hd3 : decide (((⟨l.toArray⟩ : ByteArray)[k]'z1) < ((⟨l.toArray⟩ : ByteArray)[k + 1]'z2)) = decide ((l[k]'(by omega)).toNat < (l[k + 1]'(by omega)).toNat) := by rw [a1, a2]; simp [UInt8.lt_iff_toNat_lt]
      generalize decide ((l[k]'(by omega)).toNat < (l[k + 1]'(by omega)).toNat) = q at HQ hd hd2 hd3
      have HA0 := fun (W : World) (hW : W.heap = wr.heap) => tbask_any (show IsRd W b s (askX x (riseK l (k + 1)) 9) from by unfold IsRd; rw [hW]; exact HR.out) q 9
      rw [ask_two (by decide), ← HQ.out] at HA0
      have HA := Lib.hid HA0
      clear HA0
      have w1 : IntKind.i64.wrap (k : Int) = (k : Int) := by rw [IntKind.wrap_i64]; omega
      have w2 : IntKind.i64.wrap ((k : Int) + 1 - 1) = (k : Int) := by rw [IntKind.wrap_i64]; omega
      have g0 : (0 : Int) ≤ (k : Int) := by omega
      have g1 : (k : Int) < (l.length : Int) := by omega
      have g2 : (k : Int) + 1 < (l.length : Int) := by omega
      have g3 : ((k : Int) + 1).toNat = k + 1 := by omega
      have g4 : (0 : Int) ≤ (k : Int) + 1 := by omega
      clear a1 a2 hk HR HQ
      rw [e1]
      go_wp2_with fail
      go_region_with (go_at_call 66; refine (HA.out _ (by rfl)).mono ?_; rintro e w1 ⟨rfl, hr1, hi1⟩; have HR1 := Lib.hid hr1; have HI1 := Lib.hid ((HI.out.drewN 1).trans hi1); clear hr1 hi1)
      all_goals go_wp2
      all_goals exact ⟨⟨k + 1, by go_num, .inl (by omega), HR1, HI1⟩, by simp [RowKit.intOf]; omega⟩
    · have E : Hid (riseK l (k + 1) = riseT l) := Lib.hid (rise_end l k (by omega) hk)
      have e1 : ((k + 1 : Nat) : Int) = (k : Int) + 1 := by omega
      rw [e1]
      go_wp2
      go_end0
      exact ⟨rfl, by rw [← E.out]; exact HR.out, HI.out⟩
end Go.Proofs.YtpblllpgmibkoaaGreat

namespace Go.Proofs.YtpblllpgmibkoaaGreat

/-- A state's depth; 0 of what is none. -/
def dptT (R : List (List Int)) (no : Int) : Int := if 0 ≤ no ∧ no.toNat < R.length then (R.getD no.toNat []).getD 0 0 else 0
/-- Where a byte leads from a state; 0 of what is none, and by a byte that is none of them. -/
def stpT (own : List UInt8) (R : List (List Int)) (no : Int) (c : UInt8) : Int := if 0 ≤ no ∧ no.toNat < R.length ∧ 0 ≤ Lib.indexByte own c then (R.getD no.toNat []).getD (1 + (Lib.indexByte own c).toNat) 0 else 0
theorem dpt_in {R : List (List Int)} {j : Nat} {r : List Int} (h : R[j]? = some r) : dptT R (j : Int) = r.getD 0 0 := by
  have hl := (List.getElem?_eq_some_iff.1 h).1
  unfold dptT
  rw [if_pos ⟨by omega, by simpa using hl⟩, Int.toNat_natCast]
  simp [List.getD, h]
theorem dpt_out {R : List (List Int)} {no : Int} (h : no < 0 ∨ (R.length : Int) ≤ no) : dptT R no = 0 := by
  unfold dptT; rw [if_neg (by omega)]
theorem stp_in {own : List UInt8} {R : List (List Int)} {j i : Nat} {r : List Int} {c : UInt8} (h : R[j]? = some r) (hi : Lib.indexByte own c = (i : Int)) : stpT own R (j : Int) c = r.getD (1 + i) 0 := by
  have hl := (List.getElem?_eq_some_iff.1 h).1
  unfold stpT
  rw [if_pos ⟨by omega, by simpa using hl, by omega⟩, Int.toNat_natCast, hi, Int.toNat_natCast]
  simp [List.getD, h]
theorem stp_out {own : List UInt8} {R : List (List Int)} {no : Int} {c : UInt8} (h : no < 0 ∨ (R.length : Int) ≤ no) : stpT own R no c = 0 := by
  unfold stpT; rw [if_neg (by omega)]
theorem stp_none {own : List UInt8} {R : List (List Int)} {no : Int} {c : UInt8} (h : Lib.indexByte own c < 0) : stpT own R no c = 0 := by
  unfold stpT; rw [if_neg (by omega)]
/-- Where a byte stands first. -/
theorem index_hit : ∀ {l : List UInt8} {c : UInt8} {k : Nat}, l[k]? = some c → (∀ i, i < k → l[i]? ≠ some c) → Lib.indexByte l c = (k : Int)
  | [], c, k, h, _ => by simp at h
  | b :: l, c, 0, h, _ => by
    obtain rfl : b = c := by simpa using h
    simp [Lib.indexByte]
  | b :: l, c, k + 1, h, hn => by
    have hb : ¬ b = c := fun e => hn 0 (by omega) (by simp [e])
    have ih := index_hit (l := l) (c := c) (k := k) (by simpa using h) (fun i hi => by have := hn (i + 1) (by omega); simpa using this)
    unfold Lib.indexByte
    rw [ih]
    have h1 : (b == c) = false := by simpa using hb
    have h2 : (((k : Int)) == -1) = false := by simp
    rw [h1, h2]
    simp
theorem index_miss : ∀ {l : List UInt8} {c : UInt8}, c ∉ l → Lib.indexByte l c = -1
  | [], c, _ => rfl
  | b :: l, c, h => by
    have hb : ¬ b = c := fun e => h (by simp [e])
    have ih := index_miss (l := l) (c := c) (fun hh => h (by simp [hh]))
    unfold Lib.indexByte
    rw [ih]
    have h1 : (b == c) = false := by simpa using hb
    rw [h1]
    simp
theorem index_at {l : List UInt8} {c : UInt8} {k : Nat} (h : Lib.indexByte l c = (k : Int)) : l[k]? = some c := by
  induction l generalizing k with
  | nil => simp [Lib.indexByte] at h
  | cons b l ih =>
    unfold Lib.indexByte at h
    by_cases hb : b = c
    · subst hb
      simp at h
      have : k = 0 := by omega
      subst this
      simp
    · have h1 : (b == c) = false := by simpa using hb
      rw [h1] at h
      simp only [Bool.false_eq_true, if_false] at h
      by_cases h2 : Lib.indexByte l c = -1
      · rw [h2] at h; simp at h
      · have h3 : (Lib.indexByte l c == -1) = false := by simpa using h2
        rw [h3] at h
        simp only [Bool.false_eq_true, if_false] at h
        obtain ⟨j, rfl⟩ : ∃ j, k = j + 1 := ⟨k - 1, by have := Lib.indexByte_ge l c; omega⟩
        have := ih (k := j) (by omega)
        simpa using this
theorem index_cases (l : List UInt8) (c : UInt8) : (Lib.indexByte l c = -1 ∧ c ∉ l) ∨ ∃ k : Nat, Lib.indexByte l c = (k : Int) ∧ l[k]? = some c ∧ k < l.length := by
  by_cases h : c ∈ l
  · right
    have h0 : ¬ Lib.indexByte l c < 0 := by
      intro hlt
      have hge := Lib.indexByte_ge l c
      have e : Lib.indexByte l c = -1 := by omega
      obtain ⟨i, hi⟩ := List.mem_iff_getElem?.1 h
      induction l generalizing i with
      | nil => simp at h
      | cons b l ih =>
        unfold Lib.indexByte at e
        by_cases hb : b = c
        · subst hb; simp at e
        · have h1 : (b == c) = false := by simpa using hb
          rw [h1] at e
          simp only [Bool.false_eq_true, if_false] at e
          have hm : c ∈ l := by simpa [Ne.symm hb] using h
          by_cases h2 : Lib.indexByte l c = -1
          · obtain ⟨i2, hi2⟩ := List.mem_iff_getElem?.1 hm
            exact ih hm (by omega) (Lib.indexByte_ge l c) h2 i2 hi2
          · have h3 : (Lib.indexByte l c == -1) = false := by simpa using h2
            rw [h3] at e
            simp only [Bool.false_eq_true, if_false] at e
            have := Lib.indexByte_ge l c
            omega
    obtain ⟨k, hk⟩ : ∃ k : Nat, Lib.indexByte l c = (k : Int) := ⟨(Lib.indexByte l c).toNat, by omega⟩
    have := index_at hk
    exact ⟨k, hk, this, (List.getElem?_eq_some_iff.1 this).1⟩
  · exact .inl ⟨index_miss h, h⟩
end Go.Proofs.YtpblllpgmibkoaaGreat
