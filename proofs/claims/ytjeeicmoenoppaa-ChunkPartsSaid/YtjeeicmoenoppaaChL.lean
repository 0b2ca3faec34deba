/-
  chunk.Lengths and Longest; the document's Longest, Join and Where: walked.
-/
import Derived.Test.YtjeeicmoenoppaaStr
import Derived.Test.YtjeeicmoenoppaaChM
import Derived.Lib.MinMax
set_option linter.unusedSimpArgs false
set_option linter.unusedVariables false
namespace Go.Proofs.Ytjeeicmoenoppaa
open Go.RowKit

theorem int_info : (Try.prog.info? 3).map (fun i => (i.zero, i.size, i.bytes)) = some (some (.int .i64 0), 1, 8) := by kernel_rfl

/-- The cells of numbers. -/
def inCells (zs : List Int) : List Value := zs.map (Value.int .i64)
theorem inCells_snoc (zs : List Int) (x : Int) : inCells (zs ++ [x]) = inCells zs ++ [.int .i64 x] := by simp [inCells]

theorem owns_ints {w : World} {base : Nat} {e : TypeId} {v : Value} {zs : List Int} (h : w.ownsRow base e 1 v zs.length (inCells zs)) :
    ∃ ao cap, v = .slice ao zs.length cap ∧ (zs.length = 0 ∨ ∃ g, ao = some ⟨g, 0, none⟩ ∧ base ≤ g ∧ g < w.heap.size ∧ ∀ i, i < zs.length → w.cell? ⟨g, 0 + i, none⟩ = some (.int .i64 (zs.getD i 0))) := by
  rcases h.2 with ⟨hv, h0⟩ | ⟨g, cap, cur, hv, hg, _⟩
  · have h0' : zs.length = 0 := h0
    exact ⟨none, 0, by rw [h0']; exact hv, .inl h0'⟩
  · have hlt := h.lt (k := g) (by rw [hv]; rfl)
    refine ⟨some ⟨g, 0, none⟩, cap, hv, .inr ⟨g, rfl, hlt.1, hlt.2, fun i hi => ?_⟩⟩
    have hc := h.cells (g := g) (by rw [hv]; rfl) i (.int .i64 (zs.getD i 0)) (by simp [inCells, List.getD, List.getElem?_eq_getElem hi])
    rwa [addPlain] at hc

/-- Numbers in memory: all cells, not just those of a slice that came in. -/
theorem row_of_ints {w : World} {base : Nat} {e : TypeId} {v : Value} {zs : List Int} (h : w.ownsRow base e 1 v zs.length (inCells zs)) (hm : zs.length ≤ maxLen) :
    ∃ ao cap, v = .slice ao zs.length cap ∧ IsRow .i64 w ao zs.length zs.length zs := by
  obtain ⟨ao, cap, hv, h0 | ⟨g, hao, _, _, hc⟩⟩ := owns_ints h
  · exact ⟨ao, cap, hv, .inl h0⟩
  · exact ⟨ao, cap, hv, .inr ⟨g, 0, hao, Nat.le_refl _, hm, rfl, hc⟩⟩

/-- A number's one cell, in a block of its own. -/
theorem int_news {w : World} {X : Nat} {T : TypeId} {u : Value} (h : w.heap[X]? = some (.cells #[u] T (0, 0))) : ∀ j x, [u][j]? = some x → w.cell? ((⟨X, 0, none⟩ : Addr).add j) = some x := one_news h
theorem int_one {x : Int} : ∀ v ∈ [Value.int .i64 x], v.oneCell' = true := by
  intro v hv
  simp at hv
  subst hv; rfl

/-- A list of numbers, as an answer: a slice of the call's own; nothing that was there is written. -/
def RetN (zs : List Int) (w : World) (e : Ending) (w' : World) : Prop := ∃ (v : Value), e = .returned v ∧ w'.ownsRow w.heap.size 3 1 v zs.length (inCells zs) ∧ Below w.heap.size w w'

theorem lens_snoc (ws : List (List UInt8)) (t : List UInt8) : lensL (ws ++ [t]) = lensL ws ++ [(t.length : Int)] := by simp [lensL]
theorem lensL_length (ws : List (List UInt8)) : (lensL ws).length = ws.length := by simp [lensL]
theorem take_snocT (ws : List (List UInt8)) (k : Nat) (t : List UInt8) (h : ws[k]? = some t) : ws.take (k + 1) = ws.take k ++ [t] := by
  obtain ⟨hk, rfl⟩ := List.getElem?_eq_some_iff.1 h
  rw [List.take_succ_eq_append_getElem hk]

set_option maxHeartbeats 2000000 in
set_option maxRecDepth 100000 in
theorem lengths_any (a : Option Addr) (len cap : Nat) (ws : List (List UInt8)) (w : World) (hlen : len ≤ 1000000000) (hr : IsStrs w a len ws) :
    Calls Try.prog 13 #[.slice a len cap] w (RetN (lensL ws) w) := by
  obtain ⟨i0, hi, hz0, hz1, hz2⟩ := info_parts int_info
  have hwl := hr.1
  go_enter Try.func13, Try.ntmps13
  go_wp2
  go_loopw [3, 8] (fun v i wr => ∃ (k : Nat) (acc : List Int), k ≤ len ∧ i = .int .i64 k ∧ Hid (acc = lensL (ws.take k)) ∧ acc.length = k ∧ wr.ownsRow w.heap.size 3 1 v acc.length (inCells acc) ∧ Below w.heap.size w wr) (fun _ i _ => len - (RowKit.intOf i).toNat)
  case atStart => exact ⟨0, [], Nat.zero_le _, rfl, Lib.hid rfl, rfl, World.ownsRow_nil _ _ _ _, Below.refl _ _⟩
  case round =>
    obtain ⟨k, acc, hk, rfl, HW, hac, hown, hbe⟩ := hrel
    have hsz := hbe.size
    by_cases hlt : k < len
    · obtain ⟨b, off, rfl, t, hf, hc⟩ := str_at hr hbe k hlt
      have HW2 : Hid (acc ++ [(t.length : Int)] = lensL (ws.take (k + 1))) := Lib.hid (by rw [take_snocT ws k t hf, lens_snoc, ← HW.out])
      have HS := Lib.hid (bsize t)
      clear hf HW hwl
      go_wp2_with (at_builtin; refine wpList_append_own _ rfl _ _ 22 rfl w.heap.size 3 i0 (.int .i64 0) 1 8 Try.underlying22 hi hz0 hz1 hz2 rfl (by decide) _ _ _ rfl (hown.alloc _) ⟨wr.heap.size, 0, none⟩ 1 1 [.int .i64 (t.length : Int)] rfl rfl (int_news (heap_alloc_new wr _)) int_one (by unfold maxLen; omega) (by omega) (by simp; omega) ?_)
      intro v' w3 hown3 hgrow _
      have h3 : Below w.heap.size w w3 := (hbe.alloc (by omega) _).grown hgrow (by simp; omega) (fun k hk => (hown.lt k hk).1)
      clear hgrow
      go_wp2
      refine ⟨⟨k + 1, acc ++ [(t.length : Int)], by omega, by go_num, HW2, by rw [List.length_append, List.length_singleton]; omega, ?_, h3⟩, by simp [RowKit.intOf]; omega⟩
      rw [inCells_snoc, List.length_append, hac]
      exact hown3
    · obtain rfl : k = len := by omega
      have HW2 : Hid (lensL ws = acc) := Lib.hid (by rw [HW.out, List.take_of_length_le (by omega)])
      have HV := Lib.hid hown
      obtain ⟨ao, cap', rfl, _⟩ := owns_ints hown
      clear hown HW
      go_wp2
      go_ret
      exact ⟨_, rfl, by rw [HW2.out]; exact HV.out, hbe⟩
theorem lon_next (ws : List (List UInt8)) (k : Nat) (t : List UInt8) (h : ws[k]? = some t) : lonL (ws.take (k + 1)) = max (lonL (ws.take k)) t.length := by
  rw [take_snocT ws k t h, lonL_snoc]

set_option maxHeartbeats 1000000 in
theorem longest_any (a : Option Addr) (len cap : Nat) (ws : List (List UInt8)) (w : World) (hl : len ≤ 1000000000) (hr : IsStrs w a len ws) :
    Calls Try.prog 16 #[.slice a len cap] w fun e w' => e = .returned (.int .i64 (lonL ws : Int)) ∧ Below w.heap.size w w' := by
  have hwl := hr.1
  go_enter Try.func16, Try.ntmps16
  go_wp2
  go_loopw [3, 8] (fun v i wr => ∃ (k m : Nat), k ≤ len ∧ i = .int .i64 k ∧ v = .int .i64 m ∧ Hid (m = lonL (ws.take k)) ∧ Below w.heap.size w wr) (fun _ i _ => len - (RowKit.intOf i).toNat)
  case atStart => exact ⟨0, 0, Nat.zero_le _, rfl, rfl, Lib.hid rfl, Below.refl _ _⟩
  case round =>
    obtain ⟨k, m, hk, rfl, rfl, HW, hbe⟩ := hrel
    by_cases hlt : k < len
    · obtain ⟨b, off, rfl, t, hf, hc⟩ := str_at hr hbe k hlt
      have HW2 : Hid (max m t.length = lonL (ws.take (k + 1))) := Lib.hid (by rw [lon_next ws k t hf, ← HW.out])
      have HS := Lib.hid (bsize t)
      clear hf HW hwl
      go_wp2
      exact ⟨⟨k + 1, max m t.length, by omega, by go_num, by congr 1; omega, HW2, hbe⟩, by simp [RowKit.intOf]; omega⟩
    · obtain rfl : k = len := by omega
      obtain rfl : m = lonL ws := by rw [HW.out, List.take_of_length_le (by omega)]
      clear HW
      go_wp2
      go_ret
      exact ⟨rfl, hbe⟩

set_option maxHeartbeats 1000000 in
theorem rlongest_any (a : Option Addr) (len cap : Nat) (ws : List (List UInt8)) (w : World) (hl : len ≤ 1000000000) (hr : IsStrs w a len ws) :
    Calls Try.prog 12 #[.slice a len cap] w fun e w' => e = .returned (.int .i64 (lonL ws : Int)) ∧ Below w.heap.size w w' := by
  have hwl := hr.1
  go_enter Try.func12, Try.ntmps12
  go_wp2
  go_loopw [3, 4] (fun v i wr => ∃ (k m : Nat), k ≤ len ∧ i = .int .i64 k ∧ v = .int .i64 m ∧ Hid (m = lonL (ws.take k)) ∧ Below w.heap.size w wr) (fun _ i _ => len - (RowKit.intOf i).toNat)
  case atStart => exact ⟨0, 0, Nat.zero_le _, rfl, rfl, Lib.hid rfl, Below.refl _ _⟩
  case round =>
    obtain ⟨k, m, hk, rfl, rfl, HW, hbe⟩ := hrel
    by_cases hlt : k < len
    · obtain ⟨b, off, rfl, t, hf, hc⟩ := str_at hr hbe k hlt
      have HW2 : Hid (max m t.length = lonL (ws.take (k + 1))) := Lib.hid (by rw [lon_next ws k t hf, ← HW.out])
      have HS := Lib.hid (bsize t)
      clear hf HW hwl
      by_cases hm : m < t.length
      · have HM : Hid (max m t.length = t.length) := Lib.hid (by omega)
        go_wp2
        exact ⟨⟨k + 1, t.length, by omega, by go_num, rfl, Lib.hid (by rw [← HW2.out, HM.out]), hbe⟩, by simp [RowKit.intOf]; omega⟩
      · have HM : Hid (max m t.length = m) := Lib.hid (by omega)
        go_wp2
        exact ⟨⟨k + 1, m, by omega, by go_num, rfl, Lib.hid (by rw [← HW2.out, HM.out]), hbe⟩, by simp [RowKit.intOf]; omega⟩
    · obtain rfl : k = len := by omega
      obtain rfl : m = lonL ws := by rw [HW.out, List.take_of_length_le (by omega)]
      clear HW
      go_wp2
      go_ret
      exact ⟨rfl, hbe⟩

theorem ahd_all {ws : List (List UInt8)} {len : Nat} (hl : len ≤ 1000000) (hs : ∀ t ∈ ws, t.length ≤ 1000000) (hwl : ws.length = len) (k : Nat) (hk : k ≤ len) : ahd ws k ≤ 1000000000000 := by
  have h1 := ahd_le 1000000 ws k hs
  have h2 : k * 1000000 ≤ 1000000 * 1000000 := Nat.mul_le_mul_right _ (by omega)
  omega

theorem flat_next (ws : List (List UInt8)) (k : Nat) (t : List UInt8) (h : ws[k]? = some t) : (ws.take (k + 1)).flatten = (ws.take k).flatten ++ t := by
  rw [take_snocT ws k t h]; simp

set_option maxHeartbeats 1000000 in
theorem rjoin_any (a : Option Addr) (len cap : Nat) (ws : List (List UInt8)) (w : World) (hl : len ≤ 1000000) (hs : ∀ t ∈ ws, t.length ≤ 1000000) (hr : IsStrs w a len ws) :
    Calls Try.prog 18 #[.slice a len cap] w fun e w' => e = .returned (.string ⟨ws.flatten.toArray⟩) ∧ Below w.heap.size w w' := by
  have hwl := hr.1
  go_enter Try.func18, Try.ntmps18
  go_wp2
  go_loopw [3, 4] (fun v i wr => ∃ (k : Nat) (cur : List UInt8), k ≤ len ∧ i = .int .i64 k ∧ v = .string ⟨cur.toArray⟩ ∧ Hid (cur = (ws.take k).flatten) ∧ Below w.heap.size w wr) (fun _ i _ => len - (RowKit.intOf i).toNat)
  case atStart => exact ⟨0, [], Nat.zero_le _, rfl, rfl, Lib.hid rfl, Below.refl _ _⟩
  case round =>
    obtain ⟨k, cur, hk, rfl, rfl, HW, hbe⟩ := hrel
    by_cases hlt : k < len
    · obtain ⟨b, off, rfl, t, hf, hc⟩ := str_at hr hbe k hlt
      have HW2 : Hid (cur ++ t = (ws.take (k + 1)).flatten) := Lib.hid (by rw [flat_next ws k t hf, ← HW.out])
      have hsum : cur.length + t.length ≤ 1000000000000 := by
        rw [← List.length_append, HW2.out, flat_ahd]
        exact ahd_all hl hs hwl (k + 1) hlt
      have S1 := bsize cur
      have S2 := bsize t
      clear hf HW hwl hs
      go_wp2
      exact ⟨⟨k + 1, cur ++ t, by omega, by go_num, by simp [ByteArray.mk_append_mk], HW2, hbe⟩, by simp [RowKit.intOf]; omega⟩
    · obtain rfl : k = len := by omega
      obtain rfl : cur = ws.flatten := by rw [HW.out, List.take_of_length_le (by omega)]
      clear HW
      go_wp2
      go_ret
      exact ⟨rfl, hbe⟩

/-- Where a byte stands: -1 for nowhere. -/
def whI (ws : List (List UInt8)) (at_ : Int) : Int := if at_ < 0 then -1 else match whL ws at_.toNat with
  | some p => p.1
  | none => -1
def whK (ws : List (List UInt8)) (at_ : Int) : Int := if at_ < 0 then 0 else match whL ws at_.toNat with
  | some p => p.2
  | none => 0
theorem wh_neg {ws : List (List UInt8)} {at_ : Int} (h : at_ < 0) : whI ws at_ = -1 ∧ whK ws at_ = 0 := by simp [whI, whK, h]
theorem wh_none {ws : List (List UInt8)} {at_ : Int} (h : (ahd ws ws.length : Int) ≤ at_) : whI ws at_ = -1 ∧ whK ws at_ = 0 := by
  simp only [whI, whK, whL_none ws at_.toNat (by omega)]
  constructor <;> split <;> rfl
theorem wh_hit {ws : List (List UInt8)} {at_ : Int} {k : Nat} {t : List UInt8} (hk : ws[k]? = some t) (h1 : (ahd ws k : Int) ≤ at_) (h2 : at_ < (ahd ws k : Int) + (t.length : Int)) : whI ws at_ = k ∧ whK ws at_ = at_ - ahd ws k := by
  simp only [whI, whK, whL_hit ws k at_.toNat t hk (by omega) (by omega)]
  rw [if_neg (by omega), if_neg (by omega)]
  exact ⟨rfl, by omega⟩

set_option maxHeartbeats 2000000 in
set_option maxRecDepth 100000 in
theorem rwhere_any (a : Option Addr) (len cap : Nat) (ws : List (List UInt8)) (at_ : Int) (w : World) (hl : len ≤ 1000000) (hs : ∀ t ∈ ws, t.length ≤ 1000000) (hr : IsStrs w a len ws) :
    Calls Try.prog 15 #[.slice a len cap, .int .i64 at_] w fun e w' => e = .returned (.tuple #[.int .i64 (whI ws at_), .int .i64 (whK ws at_)]) ∧ Below w.heap.size w w' := by
  have hwl := hr.1
  have HA := Lib.hid (fun k hk => ahd_all hl hs hwl k hk)
  go_enter Try.func15, Try.ntmps15
  go_wp2
  go_loopw [6, 7] (fun v i wr => ∃ (k n : Nat), k ≤ len ∧ i = .int .i64 k ∧ v = .int .i64 n ∧ Hid (n = ahd ws k) ∧ Hid (at_ < 0 ∨ (n : Int) ≤ at_) ∧ Below w.heap.size w wr) (fun _ i _ => len - (RowKit.intOf i).toNat)
  case atStart => exact ⟨0, 0, Nat.zero_le _, rfl, rfl, Lib.hid rfl, Lib.hid (by omega), Below.refl _ _⟩
  case round =>
    obtain ⟨k, n, hk, rfl, rfl, HN, HL, hbe⟩ := hrel
    by_cases hlt : k < len
    · obtain ⟨b, off, rfl, t, hf, hc⟩ := str_at hr hbe k hlt
      have HW2 : Hid (n + t.length = ahd ws (k + 1)) := Lib.hid (by rw [ahd_succ hf, ← HN.out])
      have hcap : n + t.length ≤ 1000000000000 := by rw [HW2.out]; exact HA.out _ hlt
      have HH := Lib.hid (fun h1 h2 => wh_hit (ws := ws) (at_ := at_) hf h1 h2)
      have HS := Lib.hid (bsize t)
      clear hf hwl HA
      go_wp2
      obtain ⟨W1, h⟩ : ∃ W1, W1 = wr := ⟨_, rfl⟩
      subst h
      go_loopw [6, 8] (fun v j wr2 => ∃ (q : Nat), q ≤ t.length ∧ j = .int .i64 q ∧ v = .int .i64 ((n + q : Nat) : Int) ∧ Hid (at_ < 0 ∨ ((n + q : Nat) : Int) ≤ at_) ∧ W1 = wr2) (fun _ i _ => t.length - (RowKit.intOf i).toNat)
      case atStart => exact ⟨0, Nat.zero_le _, rfl, rfl, HL, rfl⟩
      case round =>
        obtain ⟨q, hq, rfl, rfl, HQ, rfl⟩ := hrel
        by_cases hqt : q < t.length
        · by_cases he : ((n + q : Nat) : Int) = at_
          · have HR : Hid (whI ws at_ = k ∧ whK ws at_ = q) := Lib.hid (by
              have h1 := HN.out
              obtain ⟨h2, h3⟩ := HH.out (by omega) (by omega)
              exact ⟨h2, by omega⟩)
            have he' : (n : Int) + (q : Int) = at_ := by omega
            clear HH HQ HL HN HW2
            go_wp2
            go_ret2
            rw [HR.out.1, HR.out.2]
            exact ⟨rfl, hbe⟩
          · have he' : ¬ (n : Int) + (q : Int) = at_ := by omega
            have HQ2 : Hid (at_ < 0 ∨ ((n + (q + 1) : Nat) : Int) ≤ at_) := Lib.hid (by have := HQ.out; omega)
            clear HH HQ HL HN HW2
            go_wp2
            exact ⟨⟨q + 1, by omega, by go_num, by go_num, HQ2, trivial⟩, by simp [RowKit.intOf]; omega⟩
        · obtain rfl : q = t.length := by omega
          go_wp2
          exact ⟨⟨k + 1, n + t.length, by omega, by go_num, by go_num, HW2, HQ, hbe⟩, by simp [RowKit.intOf]; omega⟩
    · obtain rfl : k = len := by omega
      have HR : Hid (whI ws at_ = -1 ∧ whK ws at_ = 0) := Lib.hid (by
        rcases HL.out with h | h
        · exact wh_neg h
        · exact wh_none (by rw [hwl, ← HN.out]; exact h))
      clear HL HN HA
      go_wp2
      go_ret2
      rw [HR.out.1, HR.out.2]
      exact ⟨rfl, hbe⟩

end Go.Proofs.Ytjeeicmoenoppaa
