/-
  Sets of patterns, made or not: one contract for both ways.
-/
import Derived.Test.YthmihhacfhjimaaPtN
import Derived.Test.YthmihhacfhjimaaPtLa
set_option linter.unusedSimpArgs false
set_option linter.unusedVariables false
namespace Go.Proofs.Ythmihhacfhjimaa
open Go.RowKit

/-- The patterns of the set that texts make; none, if they make none. -/
def setL (ws : List (List UInt8)) : List (List UInt8) := if faultL ws = 0 then srt ws else []
theorem set_good {ws : List (List UInt8)} (h : faultL ws = 0) : setL ws = srt ws := if_pos h
theorem set_bad {ws : List (List UInt8)} (h : ¬ faultL ws = 0) : setL ws = [] := if_neg h
theorem set_length (ws : List (List UInt8)) : (setL ws).length ≤ ws.length := by
  unfold setL
  split
  · rw [srt_length]; exact Nat.le_refl _
  · exact Nat.zero_le _
theorem set_mem {ws : List (List UInt8)} {t : List UInt8} (h : t ∈ setL ws) : t ∈ ws ∧ 1 ≤ t.length ∧ t.length ≤ 65535 := by
  by_cases hf : faultL ws = 0
  · rw [set_good hf] at h
    have hm := (srt_perm ws).mem_iff.1 h
    exact ⟨hm, ((fault_zero ws).1 hf).each t hm⟩
  · rw [set_bad hf] at h; cases h
theorem set_asc (ws : List (List UInt8)) : Asc (setL ws) := by
  by_cases hf : faultL ws = 0
  · rw [set_good hf]; exact srt_asc ws
  · rw [set_bad hf]; exact List.Pairwise.nil

/-- A set behind a pointer, or none. -/
def IsPats (w : World) (p : Option Addr) (us : List (List UInt8)) : Prop := (p = none ∧ us = []) ∨ ∃ b, p = some ⟨b, 0, none⟩ ∧ IsSet w b us ∧ Pats us
theorem IsPats.below {w w' : World} {p : Option Addr} {us : List (List UInt8)} (h : IsPats w p us) (hb : Below w.heap.size w w') : IsPats w' p us :=
  h.elim .inl (fun ⟨b, h1, h2, h3⟩ => .inr ⟨b, h1, h2.below hb, h3⟩)

theorem IsPats.heap {w W : World} {p : Option Addr} {us : List (List UInt8)} (h : IsPats w p us) (e : W.heap = w.heap) : IsPats W p us := by
  unfold IsPats IsSet World.ownsRow at *
  rw [e]
  exact h

theorem ptnew_all (a : Option Addr) (len cap : Nat) (ws : List (List UInt8)) (w : World) (hlen : len ≤ 1000000) (hr : IsStrs w a len ws) (ht : ∀ t ∈ ws, t.length ≤ 1000000000) :
    Calls Try.prog 6 #[.slice a len cap] w fun e w' => ∃ p, e = .returned (.tuple #[.pointer p, .int .i64 (faultL ws)]) ∧ IsPats w' p (setL ws) ∧ Below w.heap.size w w' := by
  by_cases hf : faultL ws = 0
  · refine (ptnew_good a len cap ws w hlen hr hf).mono ?_
    rintro e w' ⟨b, rfl, _, hs, hb⟩
    exact ⟨_, by rw [hf], .inr ⟨b, rfl, by rw [set_good hf]; exact hs, by rw [set_good hf]; exact ((fault_zero ws).1 hf).srt⟩, hb⟩
  · refine (ptnew_bad a len cap ws w hlen hr ht hf).mono ?_
    rintro e w' ⟨rfl, hb⟩
    exact ⟨_, rfl, .inl ⟨rfl, set_bad hf⟩, hb⟩
theorem ptlen_all {w : World} {p : Option Addr} {us : List (List UInt8)} (h : IsPats w p us) : Calls Try.prog 18 #[.pointer p] w fun e w' => e = .returned (.int .i64 (us.length : Int)) ∧ w' = w := by
  rcases h with ⟨rfl, rfl⟩ | ⟨b, rfl, h, _⟩
  · exact ptlen_nil w
  · exact ptlen_any h
theorem ptat_all {w : World} {p : Option Addr} {us : List (List UInt8)} (h : IsPats w p us) (k : Nat) (t : List UInt8) (ht : us[k]? = some t) : Calls Try.prog 19 #[.pointer p, .int .i64 (k : Int)] w fun e w' => e = .returned (.tuple #[.string ⟨t.toArray⟩, .bool true]) ∧ w' = w := by
  rcases h with ⟨rfl, rfl⟩ | ⟨b, rfl, h, _⟩
  · simp at ht
  · exact ptat_in h k t ht
end Go.Proofs.Ythmihhacfhjimaa
