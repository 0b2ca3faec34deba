/-
  Classes in memory: Of, Len, Foreign: walked.
-/
import Derived.Test.YthmihhacfhjimaaClM
import Derived.Test.YthmihhacfhjimaaBut
import Derived.Test.YthmihhacfhjimaaStr
import Derived.Lib.Hide
set_option linter.unusedSimpArgs false
set_option linter.unusedVariables false
namespace Go.Proofs.Ythmihhacfhjimaa
open Go.RowKit

/-- The cells of classes: each byte's class, and the bytes that have one. -/
def ClsAt (cs : Array Value) (F : Nat → Nat) (B : List UInt8) : Prop := (∀ c, c < 256 → cs[c]? = some (.int .i64 (F c : Int))) ∧ cs[256]? = some (.string ⟨B.toArray⟩)
/-- Classes in block b. -/
def IsCls (w : World) (b : Nat) (F : Nat → Nat) (B : List UInt8) : Prop := ∃ cs : Array Value, w.heap[b]? = some (.cells cs 52 (0, 0)) ∧ ClsAt cs F B
theorem IsCls.lt {w : World} {b : Nat} {F : Nat → Nat} {B : List UInt8} (h : IsCls w b F B) : b < w.heap.size := by
  obtain ⟨cs, h, _⟩ := h
  exact heap_lt h
theorem IsCls.below {w w' : World} {b : Nat} {F : Nat → Nat} {B : List UInt8} (h : IsCls w b F B) (hb : Below w.heap.size w w') : IsCls w' b F B := by
  have hlt := h.lt
  obtain ⟨cs, h1, h2⟩ := h
  exact ⟨cs, (hb.block b hlt).trans h1, h2⟩
theorem IsCls.heap {w W : World} {b : Nat} {F : Nat → Nat} {B : List UInt8} (h : IsCls w b F B) (e : W.heap = w.heap) : IsCls W b F B := by
  unfold IsCls at *
  rw [e]
  exact h
theorem IsCls.congr {w : World} {b : Nat} {F G : Nat → Nat} {B : List UInt8} (h : IsCls w b F B) (e : ∀ c, c < 256 → F c = G c) : IsCls w b G B := by
  obtain ⟨cs, h1, h2, h3⟩ := h
  exact ⟨cs, h1, fun c hc => by rw [← e c hc]; exact h2 c hc, h3⟩
theorem IsCls.put {w : World} {b c n : Nat} {F : Nat → Nat} {B : List UInt8} (h : IsCls w b F B) (hc : c < 256) : IsCls (w.setCell ⟨b, c, none⟩ (.int .i64 (n : Int))) b (fun d => if d = c then n else F d) B := by
  obtain ⟨cs, h1, h2, h3⟩ := h
  refine ⟨_, put_heap h1 _, fun d hd => ?_, ?_⟩
  · have hl := (Array.getElem?_eq_some_iff.1 (h2 d hd)).1
    by_cases e : d = c
    · subst e
      simp only [↓reduceIte]
      rw [Array.getElem?_setIfInBounds_self_of_lt hl]
    · simp only [if_neg e]
      rw [Array.getElem?_setIfInBounds_ne (by omega)]
      exact h2 d hd
  · rw [Array.getElem?_setIfInBounds_ne (by omega)]
    exact h3
theorem IsCls.putB {w : World} {b : Nat} {F : Nat → Nat} {B : List UInt8} (h : IsCls w b F B) (L : List UInt8) : IsCls (w.setCell ⟨b, 256, none⟩ (.string ⟨L.toArray⟩)) b F L := by
  obtain ⟨cs, h1, h2, h3⟩ := h
  have hl := (Array.getElem?_eq_some_iff.1 h3).1
  refine ⟨_, put_heap h1 _, fun d hd => ?_, ?_⟩
  · rw [Array.getElem?_setIfInBounds_ne (by omega)]
    exact h2 d hd
  · rw [Array.getElem?_setIfInBounds_self_of_lt hl]
theorem IsCls.cell {w : World} {b c : Nat} {F : Nat → Nat} {B : List UInt8} (h : IsCls w b F B) (hc : c < 256) : w.cell? ⟨b, c, none⟩ = some (.int .i64 (F c : Int)) := by
  obtain ⟨cs, h1, h2, _⟩ := h
  rw [Lib.cell_of_heap h1]
  exact h2 c hc
theorem IsCls.last {w : World} {b : Nat} {F : Nat → Nat} {B : List UInt8} (h : IsCls w b F B) : w.cell? ⟨b, 256, none⟩ = some (.string ⟨B.toArray⟩) := by
  obtain ⟨cs, h1, _, h3⟩ := h
  rw [Lib.cell_of_heap h1]
  exact h3
theorem IsCls.free {w : World} {b i : Nat} {F : Nat → Nat} {B : List UInt8} (h : IsCls w b F B) : w.frozen? ⟨b, i, none⟩ = false := by
  obtain ⟨cs, h1, _⟩ := h
  exact Lib.frozen_of_heap h1 _

/-- Classes behind a pointer, or none: then all bytes are foreign; how many there are. -/
def HasCls (w : World) (p : Option Addr) (F : Nat → Nat) (B : List UInt8) (n : Nat) : Prop := (p = none ∧ (∀ c, F c = 0) ∧ B = [] ∧ n = 0) ∨ ∃ b, p = some ⟨b, 0, none⟩ ∧ IsCls w b F B ∧ n = B.length + 1
theorem HasCls.below {w w' : World} {p : Option Addr} {F : Nat → Nat} {B : List UInt8} {n : Nat} (h : HasCls w p F B n) (hb : Below w.heap.size w w') : HasCls w' p F B n :=
  h.elim .inl (fun ⟨b, h1, h2, h3⟩ => .inr ⟨b, h1, h2.below hb, h3⟩)
theorem HasCls.heap {w W : World} {p : Option Addr} {F : Nat → Nat} {B : List UInt8} {n : Nat} (h : HasCls w p F B n) (e : W.heap = w.heap) : HasCls W p F B n :=
  h.elim .inl (fun ⟨b, h1, h2, h3⟩ => .inr ⟨b, h1, h2.heap e, h3⟩)

theorem clof_any {w : World} {p : Option Addr} {F : Nat → Nat} {B : List UInt8} {n : Nat} (h : HasCls w p F B n) (c : Nat) (hc : c < 256) :
    Calls Try.prog 9 #[.pointer p, .int .u8 (c : Int)] w fun e w' => e = .returned (.int .i64 (F c : Int)) ∧ w' = w := by
  rcases h with ⟨rfl, h, _⟩ | ⟨b, rfl, h, _⟩
  · rw [h c]
    clear h
    go_enter Try.func9, Try.ntmps9
    go_wp2
    go_ret
    exact ⟨rfl, rfl⟩
  · have c0 := h.cell hc
    clear h
    have g0 : (0 : Int) ≤ (c : Int) := by omega
    have g1 : (c : Int) < 256 := by omega
    go_enter Try.func9, Try.ntmps9
    go_wp2
    go_ret
    exact ⟨rfl, rfl⟩
theorem cllen_any {w : World} {p : Option Addr} {F : Nat → Nat} {B : List UInt8} {n : Nat} (h : HasCls w p F B n) (hB : B.length ≤ 1000000) :
    Calls Try.prog 11 #[.pointer p] w fun e w' => e = .returned (.int .i64 (n : Int)) ∧ w' = w := by
  rcases h with ⟨rfl, _, _, rfl⟩ | ⟨b, rfl, h, rfl⟩
  · go_enter Try.func11, Try.ntmps11
    go_wp2
    go_ret
    exact ⟨rfl, rfl⟩
  · have c0 := h.last
    have S1 := Lib.hid (bsize B)
    clear h
    have hs := bsize B
    have g0 : IntKind.i64.wrap (1 + (B.length : Int)) = ((B.length + 1 : Nat) : Int) := by rw [IntKind.wrap_i64]; omega
    go_enter Try.func11, Try.ntmps11
    go_wp2
    go_ret
    refine ⟨?_, rfl⟩
    try go_num
    try rfl

set_option maxRecDepth 100000 in
set_option maxHeartbeats 2000000 in
theorem clforeign_any {w : World} {p : Option Addr} {F : Nat → Nat} {B : List UInt8} {n : Nat} (h : HasCls w p F B n) (s : List UInt8) (hs : s.length ≤ 1000000) :
    Calls Try.prog 12 #[.pointer p, .string ⟨s.toArray⟩] w fun e w' => e = .returned (.int .i64 (forL F s : Int)) ∧ Below w.heap.size w w' := by
  have HO := Lib.hid (fun (c : Nat) (hc : c < 256) => clof_any h c hc)
  have S1 := Lib.hid (bsize s)
  clear h
  go_enter Try.func12, Try.ntmps12
  go_wp2
  go_loopw [5] (fun i wr => ∃ k : Nat, k ≤ s.length ∧ i = .int .i64 k ∧ Hid (∀ d, d < k → F (s.getD (s.length - 1 - d) 0).toNat = 0) ∧ w = wr) (fun i _ => s.length - (RowKit.intOf i).toNat)
  case atStart => exact ⟨0, Nat.zero_le _, rfl, Lib.hid (fun d hd => by omega), rfl⟩
  case round =>
    obtain ⟨k, hk, rfl, HK, rfl⟩ := hrel
    by_cases hlt : k < s.length
    · obtain ⟨j, hj⟩ : ∃ j, j + k + 1 = s.length := ⟨s.length - 1 - k, by omega⟩
      have hjl : j < s.length := by omega
      have hjz : j < (⟨s.toArray⟩ : ByteArray).size := by rw [bsize]; exact hjl
      have hb := byteAt s j hjl hjz
      obtain ⟨x, hx⟩ : ∃ x, s[j] = x := ⟨_, rfl⟩
      rw [hx] at hb
      have hxl := x.toNat_lt
      have HX : Hid (s.getD (s.length - 1 - k) 0 = x) := Lib.hid (by
        rw [show s.length - 1 - k = j by omega]
        simp only [List.getD, List.getElem?_eq_getElem hjl, Option.getD_some, hx])
      have HC := Lib.hid (HO.out x.toNat hxl)
      have q1 : IntKind.i64.wrap ((s.length : Int) - 1) = (s.length : Int) - 1 := by rw [IntKind.wrap_i64]; omega
      have q2 : IntKind.i64.wrap ((s.length : Int) - 1 - (k : Int)) = (j : Int) := by rw [IntKind.wrap_i64]; omega
      have g0 : (k : Int) < (s.length : Int) := by omega
      have g1 : (j : Int) < (s.length : Int) := by omega
      have g2 : (0 : Int) ≤ (j : Int) := by omega
      have HJ := Lib.hid hj
      clear hj hx
      by_cases h0 : F x.toNat = 0
      · have HN : Hid (∀ d, d < k + 1 → F (s.getD (s.length - 1 - d) 0).toNat = 0) := Lib.hid (fun d hd => by
          by_cases e : d = k
          · subst e; rw [HX.out]; exact h0
          · exact HK.out d (by omega))
        rw [h0] at HC
        clear HK h0 HX
        go_wp2_with fail
        refine HC.out.mono ?_
        rintro e w' ⟨rfl, rfl⟩
        go_wp2
        exact ⟨⟨k + 1, by omega, by go_num, HN, trivial⟩, by simp [RowKit.intOf]; omega⟩
      · have HE : Hid (forL F s = k) := Lib.hid (forL_is hk HK.out (fun _ => by rw [HX.out]; omega))
        have h1 : ((F x.toNat : Int) == 0) = false := by rw [beq_eq_false_iff_ne]; omega
        clear HK HX h0
        go_wp2_with fail
        refine HC.out.mono ?_
        rintro e w' ⟨rfl, rfl⟩
        go_wp2
        go_ret
        exact ⟨by rw [HE.out]; rfl, Below.refl _ _⟩
    · obtain rfl : k = s.length := by omega
      have HE : Hid (forL F s = s.length) := Lib.hid (forL_is (Nat.le_refl _) HK.out (fun h => by omega))
      have hz : ¬ ((s.length : Int)) < (s.length : Int) := by omega
      clear HK
      go_wp2
      go_ret
      exact ⟨by rw [HE.out]; rfl, Below.refl _ _⟩
end Go.Proofs.Ythmihhacfhjimaa
