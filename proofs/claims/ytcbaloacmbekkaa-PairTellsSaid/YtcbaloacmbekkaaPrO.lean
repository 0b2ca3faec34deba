/-
  pair: Near, Far, Len, Clear: walked.
-/
import Derived.Test.YtcbaloacmbekkaaPrT
set_option linter.unusedSimpArgs false
set_option linter.unusedVariables false
namespace Go.Proofs.Ytcbaloacmbekkaa
open Go.RowKit Go.Maps

/-- A table behind a pointer, or none: then all shifts are 0. -/
def HasPt (w : World) (p : Option Addr) (F : Nat → Nat) (m l : Nat) : Prop := (p = none ∧ (∀ c, F c = 0) ∧ m = 0 ∧ l = 0) ∨ ∃ b g n D, p = some ⟨b, 0, none⟩ ∧ IsPt w b g n m D ∧ Says D F m ∧ (∀ c, F c ≤ m) ∧ Maps.size D = l
theorem HasPt.below {w w' : World} {p : Option Addr} {F : Nat → Nat} {m l : Nat} (h : HasPt w p F m l) (hb : Below w.heap.size w w') : HasPt w' p F m l :=
  h.elim .inl (fun ⟨b, g, n, D, h1, h2, h3⟩ => .inr ⟨b, g, n, D, h1, h2.below hb, h3⟩)
theorem HasPt.heap {w W : World} {p : Option Addr} {F : Nat → Nat} {m l : Nat} (h : HasPt w p F m l) (e : W.heap = w.heap) : HasPt W p F m l := by
  unfold HasPt IsPt World.ownsMap at *
  rw [e]
  exact h
theorem pt_none (w : World) : HasPt w none (fun _ => 0) 0 0 := .inl ⟨rfl, fun _ => rfl, rfl, rfl⟩

theorem prnear_any {w : World} {p : Option Addr} {F : Nat → Nat} {m l : Nat} (h : HasPt w p F m l) {x y : Nat} (hx : x < 256) (hy : y < 256) :
    Calls Try.prog 11 #[.pointer p, .int .u8 (x : Int), .int .u8 (y : Int)] w fun e w' => e = .returned (.int .i64 (F (two x y) : Int)) ∧ w' = w := by
  rcases h with ⟨rfl, h, _⟩ | ⟨b, g, n, D, rfl, h, hS, hle, _⟩
  · rw [h (two x y)]
    clear h
    go_enter Try.func11, Try.ntmps11
    go_wp2
    go_ret
    exact ⟨rfl, rfl⟩
  · have c0 := h.cell0
    have c1 := h.cell1
    obtain ⟨c, hrun, hc⟩ := look_two h.2 hS hx hy
    have hl := hle (two x y)
    clear h hS hle
    generalize F (two x y) = v at hrun hc hl ⊢
    by_cases hin : v < m
    · rw [decide_eq_true hin] at hrun
      obtain rfl := hc hin
      clear hc
      go_enter Try.func11, Try.ntmps11
      go_wp2
      go_ret
      exact ⟨rfl, rfl⟩
    · rw [decide_eq_false hin] at hrun
      obtain rfl : v = m := by omega
      clear hc
      go_enter Try.func11, Try.ntmps11
      go_wp2
      go_ret
      exact ⟨rfl, rfl⟩
theorem prfar_any {w : World} {p : Option Addr} {F : Nat → Nat} {m l : Nat} (h : HasPt w p F m l) :
    Calls Try.prog 12 #[.pointer p] w fun e w' => e = .returned (.int .i64 (m : Int)) ∧ w' = w := by
  rcases h with ⟨rfl, _, rfl, _⟩ | ⟨b, g, n, D, rfl, h, _⟩
  · go_enter Try.func12, Try.ntmps12
    go_wp2
    go_ret
    exact ⟨rfl, rfl⟩
  · have c1 := h.cell1
    clear h
    go_enter Try.func12, Try.ntmps12
    go_wp2
    go_ret
    exact ⟨rfl, rfl⟩
theorem prlen_any {w : World} {p : Option Addr} {F : Nat → Nat} {m l : Nat} (h : HasPt w p F m l) :
    Calls Try.prog 14 #[.pointer p] w fun e w' => e = .returned (.int .i64 (l : Int)) ∧ w' = w := by
  rcases h with ⟨rfl, _, _, rfl⟩ | ⟨b, g, n, D, rfl, h, _, _, hl⟩
  · go_enter Try.func14, Try.ntmps14
    go_wp2
    go_ret
    exact ⟨rfl, rfl⟩
  · have c0 := h.cell0
    have hown := h.2
    clear h
    go_enter Try.func14, Try.ntmps14
    go_wp2_with (at_len; refine wpList_len_own _ rfl _ 48 rfl 56 3 Try.underlying48 _ g n D rfl hown ?_)
    go_ret
    exact ⟨rfl, rfl⟩

/-- What is cleared ahead of an end. -/
def clrP (F : Nat → Nat) (s : List UInt8) (e : Int) : Nat := if 2 ≤ e ∧ e ≤ (s.length : Int) then F (prS s e.toNat) else 0
theorem prclear_any {w : World} {p : Option Addr} {F : Nat → Nat} {m l : Nat} (h : HasPt w p F m l) (s : List UInt8) (hs : s.length ≤ 1000000) (e : Int) :
    Calls Try.prog 16 #[.pointer p, .string ⟨s.toArray⟩, .int .i64 e] w fun E w' => E = .returned (.int .i64 (clrP F s e : Int)) ∧ ∃ q, w' = w.drewN q := by
  have S1 := Lib.hid (bsize s)
  by_cases h2 : e < 2
  · have he : clrP F s e = 0 := if_neg (by omega)
    rw [he]
    clear he h
    go_enter Try.func16, Try.ntmps16
    go_wp2
    go_ret
    exact ⟨rfl, 0, rfl⟩
  · by_cases h3 : (s.length : Int) < e
    · have he : clrP F s e = 0 := if_neg (by omega)
      rw [he]
      clear he h
      go_enter Try.func16, Try.ntmps16
      go_wp2
      go_ret
      exact ⟨rfl, 0, rfl⟩
    · obtain ⟨k, rfl⟩ : ∃ k : Nat, e = (k : Int) := ⟨e.toNat, by omega⟩
      have he : clrP F s (k : Int) = F (prS s k) := if_pos (by omega)
      rw [he]
      obtain ⟨i, hi⟩ : ∃ i, i + 2 = k := ⟨k - 2, by omega⟩
      obtain ⟨j, hj⟩ : ∃ j, j + 1 = k := ⟨k - 1, by omega⟩
      have hjl : j < s.length := by omega
      have hil : i < s.length := by omega
      have hjz : j < (⟨s.toArray⟩ : ByteArray).size := by rw [bsize]; omega
      have hiz : i < (⟨s.toArray⟩ : ByteArray).size := by rw [bsize]; omega
      have w1 : IntKind.i64.wrap ((k : Int) - 2) = (i : Int) := by rw [IntKind.wrap_i64]; omega
      have w2 : IntKind.i64.wrap ((k : Int) - 1) = (j : Int) := by rw [IntKind.wrap_i64]; omega
      obtain ⟨y, hyy⟩ : ∃ y, (s[j]).toNat = y := ⟨_, rfl⟩
      obtain ⟨x, hxx⟩ : ∃ x, (s[i]).toNat = x := ⟨_, rfl⟩
      have hy : y < 256 := by rw [← hyy]; exact UInt8.toNat_lt _
      have hx : x < 256 := by rw [← hxx]; exact UInt8.toNat_lt _
      have hqy : ((⟨s.toArray⟩ : ByteArray)[j]'hjz).toNat = y := by rw [byteAt s j hjl hjz, hyy]
      have hqx : ((⟨s.toArray⟩ : ByteArray)[i]'hiz).toNat = x := by rw [byteAt s i hil hiz, hxx]
      have hc : prS s k = two x y := by
        unfold prS byN
        rw [show k - 2 = i by omega, show k - 1 = j by omega]
        simp only [List.getD, List.getElem?_eq_getElem hjl, List.getElem?_eq_getElem hil, Option.getD_some, hxx, hyy]
      rw [hc]
      have HNr := Lib.hid (fun (W : World) (hW : W.heap = w.heap) => prnear_any (h.heap hW) hx hy)
      have HI := Lib.hid hi
      have HJ := Lib.hid hj
      have h4 : ¬ (k : Int) > (s.length : Int) := h3
      clear he hc hyy hxx h hi hj
      go_enter Try.func16, Try.ntmps16
      go_wp2_with fail
      go_quiet (first | with_reducible exact Calls.quiet_of_same (HNr.out _ rfl))
      go_wp2
      go_ret
      exact ⟨rfl, _, rfl⟩
end Go.Proofs.Ytcbaloacmbekkaa
