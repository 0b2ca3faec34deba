/-
  occ.Rising, and the document's: walked.
-/
import Derived.Test.YtkpmbappddlcmaaOcO
import Derived.Test.YtkpmbappddlcmaaOcA
import Derived.Shelf.SlSortCmp.QuietGrown
set_option linter.unusedSimpArgs false
set_option linter.unusedVariables false
namespace Go.Proofs.Ytkpmbappddlcmaa
open Go.RowKit
open Go.Sort hiding Below

theorem below_grown {B : Nat} {w W : World} (h : Below B w W) (n : Nat) (os : Array Obj) (hB : B ≤ W.heap.size) : Below B w (grow (W.drewN n) os) := by
  refine h.trans ⟨rfl, rfl, rfl, by simp, fun k hk => ?_⟩
  rw [heap_grow_old _ _ (by show k < W.heap.size; omega)]; rfl

/-- So far each is ahead of the one behind it. -/
def upTo (hs : List Ht) (k : Nat) : Prop := ∀ j a b, j + 1 < k → hs[j]? = some a → hs[j + 1]? = some b → ahB a b = true

set_option maxRecDepth 100000 in
set_option maxHeartbeats 2000000 in
theorem rising_any (a : Option Addr) (len cap : Nat) (hs : List Ht) (w : World) (hlen : len ≤ 1000000000000000) (hr : IsHits w a len hs) :
    Calls Try.prog 21 #[.slice a len cap] w fun e w' => e = .returned (.bool (riseB hs)) ∧ Below w.heap.size w w' := by
  have hwl := hr.1
  have mixed : Try.prog.follows .mixedOrders = true := by kernel_rfl
  have HH := Lib.hid hr
  clear hr
  go_enter Try.func21, Try.ntmps21
  go_wp2
  go_loopw [6] (fun i wr => ∃ k : Nat, k ≤ len ∧ i = .int .i64 k ∧ Hid (upTo hs k) ∧ Below w.heap.size w wr) (fun i _ => len - (RowKit.intOf i).toNat)
  case atStart => exact ⟨0, Nat.zero_le _, rfl, Lib.hid (fun j a b h => by omega), Below.refl _ _⟩
  case round =>
    obtain ⟨k, hk, rfl, HU, hbe⟩ := hrel
    have hsz := hbe.size
    by_cases hlt : k < len
    · by_cases h0 : k = 0
      · subst h0
        have HU2 : Hid (upTo hs 1) := Lib.hid (fun j a b h => by omega)
        clear HU
        go_wp2_with fail
        go_big_region_o
        all_goals go_wp2
        exact ⟨⟨1, by omega, rfl, HU2, hbe.drew⟩, by simp [RowKit.intOf]; omega⟩
      · obtain ⟨j, rfl⟩ : ∃ j, k = j + 1 := ⟨k - 1, by omega⟩
        obtain ⟨b, off, rfl, x, hx, c0, c1⟩ := hit_at HH.out hbe j (by omega)
        obtain ⟨b2, off2, e2, y, hy, d0, d1⟩ := hit_at HH.out hbe (j + 1) hlt
        cases e2
        have hbb : b < wr.heap.size := World.block_lt_of_cell? wr _ c0
        have e0 : ∀ n os, (grow (wr.drewN n) os).cell? ⟨b, off + j * 2, none⟩ = some (.int .i64 x.1) := cell_grown hbb c0
        have e1 : ∀ n os, (grow (wr.drewN n) os).cell? ⟨b, off + j * 2 + 1, none⟩ = some (.int .i64 x.2) := cell_grown hbb c1
        have e2 : ∀ n os, (grow (wr.drewN n) os).cell? ⟨b, off + (j + 1) * 2, none⟩ = some (.int .i64 y.1) := cell_grown hbb d0
        have e3 : ∀ n os, (grow (wr.drewN n) os).cell? ⟨b, off + (j + 1) * 2 + 1, none⟩ = some (.int .i64 y.2) := cell_grown hbb d1
        have HC := Lib.hid (fun W => order_lays x y W)
        have i0 : (0 : Int) ≤ (j : Int) := by omega
        have i1 : (j : Int) < (len : Int) := by omega
        have i2 : (0 : Int) ≤ (j : Int) + 1 := by omega
        have i3 : (j : Int) + 1 < (len : Int) := by omega
        have i4 : ((j : Int) + 1).toNat = j + 1 := by omega
        have i5 : decide ((0 : Int) < (j : Int) + 1) = true := decide_eq_true (by omega)
        have i6 : IntKind.i64.wrap (j : Int) = (j : Int) := by rw [IntKind.wrap_i64]; omega
        have i7 : (0 : Int) < (j : Int) + 1 := by omega
        clear c0 c1 d0 d1 h0
        cases hq : ahB x y with
        | true =>
          have HU2 : Hid (upTo hs (j + 1 + 1)) := Lib.hid (fun i a b h h1 h2 => by
            by_cases e : i = j
            · subst e
              rw [hx] at h1
              rw [hy] at h2
              cases h1
              cases h2
              exact hq
            · exact HU.out i a b (by omega) h1 h2)
          have hcf : cfH x y = -1 := cf_ah hq
          rw [hcf] at HC
          clear HU hq hcf hx hy
          have HD := HC.out
          obtain ⟨x1, x2⟩ := x
          obtain ⟨y1, y2⟩ := y
          simp only at e0 e1 e2 e3 HD
          have HD2 := Lib.hid HD
          clear HD HC
          go_wp2_with fail
          go_quiet_grown (first | exact Calls.grown_of (HD2.out _))
          have hbe2 := below_grown hbe nq osq hsz
          go_wp2
          exact ⟨⟨j + 1 + 1, by omega, by go_num, HU2, hbe2⟩, by simp [RowKit.intOf]; omega⟩
        | false =>
          have HE : Hid (riseB hs = false) := Lib.hid (rise_no hx hy hq)
          obtain ⟨n, hn, hn0⟩ : ∃ n : Nat, cfH x y = (n : Int) ∧ n ≤ 1 := by
            by_cases e : x = y
            · exact ⟨0, cf_same e, by omega⟩
            · exact ⟨1, cf_else e hq, by omega⟩
          rw [hn] at HC
          clear HU hq hn hx hy
          have HD := HC.out
          obtain ⟨x1, x2⟩ := x
          obtain ⟨y1, y2⟩ := y
          simp only at e0 e1 e2 e3 HD
          have HD2 := Lib.hid HD
          clear HD HC
          have i8 : (0 : Int) ≤ (n : Int) := by omega
          have i9 : decide ((0 : Int) ≤ (n : Int)) = true := decide_eq_true i8
          go_wp2_with fail
          go_quiet_grown (first | exact Calls.grown_of (HD2.out _))
          have hbe2 := below_grown hbe nq osq hsz
          go_wp2
          go_ret
          exact ⟨by rw [HE.out]; rfl, hbe2⟩
    · obtain rfl : k = len := by omega
      have hz : ¬ (k : Int) < (k : Int) := by omega
      have HE : Hid (riseB hs = true) := Lib.hid (rise_yes (fun j a b h1 h2 => HU.out j a b (by have := (List.getElem?_eq_some_iff.1 h2).1; omega) h1 h2))
      clear HU
      go_wp2
      go_ret
      exact ⟨by rw [HE.out]; rfl, hbe⟩

set_option maxRecDepth 100000 in
set_option maxHeartbeats 2000000 in
theorem rrising_any (a : Option Addr) (len cap : Nat) (hs : List Ht) (w : World) (hlen : len ≤ 1000000000000000) (hr : IsHits w a len hs) :
    Calls Try.prog 22 #[.slice a len cap] w fun e w' => e = .returned (.bool (riseB hs)) ∧ Below w.heap.size w w' := by
  have hwl := hr.1
  have mixed : Try.prog.follows .mixedOrders = true := by kernel_rfl
  have HH := Lib.hid hr
  clear hr
  go_enter Try.func22, Try.ntmps22
  go_wp2
  go_loopw [3] (fun i wr => ∃ k : Nat, 1 ≤ k ∧ k ≤ len + 1 ∧ i = .int .i64 k ∧ Hid (upTo hs k) ∧ Below w.heap.size w wr) (fun i _ => len + 1 - (RowKit.intOf i).toNat)
  case atStart => exact ⟨1, Nat.le_refl _, by omega, rfl, Lib.hid (fun j a b h => by omega), Below.refl _ _⟩
  case round =>
    obtain ⟨k, hk1, hk, rfl, HU, hbe⟩ := hrel
    have hsz := hbe.size
    by_cases hlt : k < len
    · obtain ⟨j, rfl⟩ : ∃ j, k = j + 1 := ⟨k - 1, by omega⟩
      obtain ⟨b, off, rfl, x, hx, c0, c1⟩ := hit_at HH.out hbe j (by omega)
      obtain ⟨b2, off2, e2, y, hy, d0, d1⟩ := hit_at HH.out hbe (j + 1) hlt
      cases e2
      have hbb : b < wr.heap.size := World.block_lt_of_cell? wr _ c0
      have e0 : ∀ n os, (grow (wr.drewN n) os).cell? ⟨b, off + j * 2, none⟩ = some (.int .i64 x.1) := cell_grown hbb c0
      have e1 : ∀ n os, (grow (wr.drewN n) os).cell? ⟨b, off + j * 2 + 1, none⟩ = some (.int .i64 x.2) := cell_grown hbb c1
      have e2 : ∀ n os, (grow (wr.drewN n) os).cell? ⟨b, off + (j + 1) * 2, none⟩ = some (.int .i64 y.1) := cell_grown hbb d0
      have e3 : ∀ n os, (grow (wr.drewN n) os).cell? ⟨b, off + (j + 1) * 2 + 1, none⟩ = some (.int .i64 y.2) := cell_grown hbb d1
      have HC := Lib.hid (fun W => ahead_lays x y W)
      have i0 : (0 : Int) ≤ (j : Int) := by omega
      have i1 : (j : Int) < (len : Int) := by omega
      have i2 : (0 : Int) ≤ (j : Int) + 1 := by omega
      have i3 : (j : Int) + 1 < (len : Int) := by omega
      have i4 : ((j : Int) + 1).toNat = j + 1 := by omega
      have i6 : IntKind.i64.wrap (j : Int) = (j : Int) := by rw [IntKind.wrap_i64]; omega
      clear c0 c1 d0 d1
      cases hq : ahB x y with
      | true =>
        have HU2 : Hid (upTo hs (j + 1 + 1)) := Lib.hid (fun i a b h h1 h2 => by
          by_cases e : i = j
          · subst e
            rw [hx] at h1
            rw [hy] at h2
            cases h1
            cases h2
            exact hq
          · exact HU.out i a b (by omega) h1 h2)
        rw [hq] at HC
        clear HU hq hx hy
        have HD := HC.out
        obtain ⟨x1, x2⟩ := x
        obtain ⟨y1, y2⟩ := y
        simp only at e0 e1 e2 e3 HD
        have HD2 := Lib.hid HD
        clear HD HC
        go_wp2_with fail
        go_quiet_grown (first | exact Calls.grown_of (HD2.out _))
        have hbe2 := below_grown hbe nq osq hsz
        go_wp2
        exact ⟨⟨j + 1 + 1, by omega, by omega, by go_num, HU2, hbe2⟩, by simp [RowKit.intOf]; omega⟩
      | false =>
        have HE : Hid (riseB hs = false) := Lib.hid (rise_no hx hy hq)
        rw [hq] at HC
        clear HU hq hx hy
        have HD := HC.out
        obtain ⟨x1, x2⟩ := x
        obtain ⟨y1, y2⟩ := y
        simp only at e0 e1 e2 e3 HD
        have HD2 := Lib.hid HD
        clear HD HC
        go_wp2_with fail
        go_quiet_grown (first | exact Calls.grown_of (HD2.out _))
        have hbe2 := below_grown hbe nq osq hsz
        go_wp2
        go_ret
        exact ⟨by rw [HE.out]; rfl, hbe2⟩
    · have hz : ¬ (k : Int) < (len : Int) := by omega
      have HE : Hid (riseB hs = true) := Lib.hid (rise_yes (fun j a b h1 h2 => HU.out j a b (by have := (List.getElem?_eq_some_iff.1 h2).1; omega) h1 h2))
      clear HU
      go_wp2
      go_ret
      exact ⟨by rw [HE.out]; rfl, hbe⟩
end Go.Proofs.Ytkpmbappddlcmaa
