/-
  Texts put together: TbV, DnNs, LkNs, ClWb.
-/
import Derived.Test.YtpblllpgmibkoaaGreatTbU
import Derived.Test.YtpblllpgmibkoaaGreatBn9
import Derived.Test.YtpblllpgmibkoaaGreatBn6
import Derived.Test.YtpblllpgmibkoaaGreatBn8
import Derived.Test.YtpblllpgmibkoaaGreatBn5
set_option linter.unusedSimpArgs false
set_option linter.unusedVariables false
namespace Go.Proofs.YtpblllpgmibkoaaGreat
open Go.RowKit

set_option maxRecDepth 100000 in
set_option maxHeartbeats 4000000 in
theorem rtstep_any {w : World} {v : Value} {own : List UInt8} {R : List (List Int)} (h : IsRef w v own (R.map hdI) (R.map List.tail)) (hl : ∀ r ∈ R, r.length = own.length + 1) (ho : own.length ≤ 1000000) (hR : R.length ≤ 1000000000) (no : Int) (c : UInt8) :
    Calls Tryz.prog 20 #[v, .int .i64 no, .int .u8 (c.toNat : Int)] w fun e w' => e = .returned (.int .i64 (stpT own R no c)) ∧ Below w.heap.size w w' := by
  obtain ⟨da, dc, na, nc, rfl, hd, hq⟩ := h
  rw [List.length_map] at hd ⊢
  rw [List.length_map]
  have SO := Lib.hid (bsize own)
  have HQ := Lib.hid hq
  have HL := Lib.hid hl
  have hh1 := heap_alloc_new w (.cells #[.string ⟨own.toArray⟩, .slice da R.length dc, .slice na R.length nc] 40)
  have d1 : Below w.heap.size w (w.alloc (.cells #[.string ⟨own.toArray⟩, .slice da R.length dc, .slice na R.length nc] 40)) := (Below.refl _ _).alloc (Nat.le_refl _) _
  clear hd hq hl
  by_cases hin : 0 ≤ no ∧ no < (R.length : Int)
  · obtain ⟨j, rfl⟩ := Int.eq_ofNat_of_zero_le hin.1
    have hj : j < R.length := by omega
    obtain ⟨r, hr⟩ : ∃ r, R[j]? = some r := ⟨_, List.getElem?_eq_getElem hj⟩
    obtain ⟨g, off, ra, rc, rfl, hcell, hrow⟩ := HQ.out j r.tail (by rw [List.getElem?_map, hr]; rfl)
    have hrl := HL.out r (List.mem_of_getElem? hr)
    have HRl := Lib.hid hrl
    rw [List.length_tail, hrl, Nat.add_sub_cancel] at hcell hrow
    have HRow := Lib.hid hrow
    have HRr := Lib.hid hr
    have g0 : (0 : Int) ≤ (j : Int) := by omega
    have g1 : (j : Int) < (R.length : Int) := by omega
    have g2 : decide ((0 : Int) ≤ (j : Int)) = true := decide_eq_true g0
    have g3 : decide ((j : Int) < (R.length : Int)) = true := decide_eq_true g1
    clear hr hrl hrow hin
    generalize R.length = n at *
    go_enter Tryz.func20, Tryz.ntmps20
    go_wp2_with fail
    have hcell2 : (w.alloc (.cells #[.string ⟨own.toArray⟩, .slice da n dc, .slice (some ⟨g, off, none⟩) n nc] 40)).cell? ⟨g, off + j, none⟩ = some (.slice ra own.length rc) := by
      rw [d1.cell (p := ⟨g, off + j, none⟩) (World.block_lt_of_cell? w _ hcell)]; exact hcell
    have hrow2 := HRow.out.below d1
    obtain ⟨x0, x1, x2, y0, y1, y2⟩ := res_cells hh1
    have HD1 := Lib.hid d1
    generalize w.alloc (.cells #[.string ⟨own.toArray⟩, .slice da n dc, .slice (some ⟨g, off, none⟩) n nc] 40) = w1 at *
    generalize hbz : w.heap.size = b at *
    have HBz := Lib.hid hbz
    clear hbz
    clear d1 hh1 hcell HQ HL
    go_loopw [7] (fun i wr => ∃ k : Nat, k ≤ own.length ∧ i = .int .i64 k ∧ Hid (∀ i, i < k → own[i]? ≠ some c) ∧ wr = w1) (fun i _ => own.length - (RowKit.intOf i).toNat)
    case atStart => exact ⟨0, Nat.zero_le _, rfl, Lib.hid (fun i hi => absurd hi (Nat.not_lt_zero _)), rfl⟩
    case round =>
      obtain ⟨k, hk, rfl, HN, hwr⟩ := hrel
      obtain rfl := hwr
      by_cases hlt : k < own.length
      · have z1 : k < (⟨own.toArray⟩ : ByteArray).size := by rw [SO.out]; omega
        have a1 := byteAt own k hlt z1
        have g4 : (k : Int) < (own.length : Int) := by omega
        have g5 : (0 : Int) ≤ (k : Int) := by omega
        by_cases hc : own[k] = c
        · have HX := Lib.hid (index_hit (l := own) (c := c) (k := k) (by rw [List.getElem?_eq_getElem hlt, hc]) HN.out)
          have HS : Hid (stpT own R (j : Int) c = r.tail.getD k 0) := Lib.hid (by
            rw [stp_in HRr.out HX.out, Nat.add_comm]
            cases r with
            | nil => simp
            | cons d l => simp)
          have q1 : (((((⟨own.toArray⟩ : ByteArray)[k]'z1).toNat : Int)) == (c.toNat : Int)) = true := by rw [a1, hc]; simp
          obtain h0 | ⟨rb, ro, hra, _, _, _, hcc⟩ := hrow2
          · omega
          subst hra
          have cx := hcc k hlt
          generalize r.tail.getD k 0 = x at *
          clear hcc a1 hc
          go_wp2
          go_ret
          exact ⟨by rw [HS.out]; rfl, by rw [HBz.out]; exact HD1.out⟩
        · have q1 : (((((⟨own.toArray⟩ : ByteArray)[k]'z1).toNat : Int)) == (c.toNat : Int)) = false := by
            rw [a1]
            simp only [beq_eq_false_iff_ne, ne_eq]
            exact fun e => hc (UInt8.toNat_inj.1 (by omega))
          have HN2 : Hid (∀ i, i < k + 1 → own[i]? ≠ some c) := Lib.hid (fun i hi => by
            rcases Nat.lt_or_ge i k with h | h
            · exact HN.out i h
            · obtain rfl : i = k := by omega
              rw [List.getElem?_eq_getElem hlt]
              exact fun e => hc (Option.some.inj e))
          clear a1 hc HN
          go_wp2
          exact ⟨⟨k + 1, by omega, by go_num, HN2, trivial⟩, by simp [RowKit.intOf]; omega⟩
      · have hkn : k = own.length := by omega
        have HS : Hid (stpT own R (j : Int) c = 0) := Lib.hid (stp_none (by
          rw [index_miss]
          · decide
          · intro hm
            obtain ⟨i, hi⟩ := List.mem_iff_getElem?.1 hm
            exact HN.out i (by have := (List.getElem?_eq_some_iff.1 hi).1; omega) hi))
        have hz : ¬ (k : Int) < (own.length : Int) := by omega
        clear hkn
        go_wp2
        go_ret
        exact ⟨by rw [HS.out]; rfl, by rw [HBz.out]; exact HD1.out⟩
  · have HS : Hid (stpT own R no c = 0) := Lib.hid (stp_out (by omega))
    generalize R.length = n at *
    go_enter Tryz.func20, Tryz.ntmps20
    go_wp2_with fail
    obtain ⟨x0, x1, x2, y0, y1, y2⟩ := res_cells hh1
    have HD1 := Lib.hid d1
    generalize w.alloc (.cells #[.string ⟨own.toArray⟩, .slice da n dc, .slice na n nc] 40) = w1 at *
    generalize hbz : w.heap.size = b at *
    have HBz := Lib.hid hbz
    clear hbz
    clear d1 hh1 HQ HL
    go_loopw [7] (fun i wr => i = .int .i64 0 ∧ wr = w1) (fun i _ => 0)
    case atStart => exact ⟨rfl, rfl⟩
    case round =>
      obtain ⟨rfl, hwr⟩ := hrel
      obtain rfl := hwr
      obtain ⟨β, hβ⟩ : ∃ β, decide ((0 : Int) < (own.length : Int)) = β := ⟨_, rfl⟩
      have hβ2 : decide (0 < own.length) = β := by rw [← hβ]; simp
      cases β with
      | false =>
        have g0 : ¬ 0 < own.length := by simpa using hβ2
        go_wp2
        go_ret
        exact ⟨by rw [HS.out]; rfl, by rw [HBz.out]; exact HD1.out⟩
      | true =>
        have g0 : 0 < own.length := by simpa using hβ2
        by_cases h0 : 0 ≤ no
        · have h1 : decide (0 ≤ no) = true := decide_eq_true h0
          have h2 : ¬ no < (n : Int) := fun h => hin ⟨h0, h⟩
          have h3 : decide (no < (n : Int)) = false := decide_eq_false h2
          go_wp2
          go_ret
          exact ⟨by rw [HS.out]; rfl, by rw [HBz.out]; exact HD1.out⟩
        · have h1 : decide (0 ≤ no) = false := decide_eq_false h0
          go_wp2
          go_ret
          exact ⟨by rw [HS.out]; rfl, by rw [HBz.out]; exact HD1.out⟩
end Go.Proofs.YtpblllpgmibkoaaGreat

namespace Go.Proofs.YtpblllpgmibkoaaGreat
open Go.RowKit

theorem dnnew_set {w : World} {p : Option Addr} {ws : List (List UInt8)} (h : IsPats w p (setL ws)) :
    Calls Tryz.prog 28 #[.pointer p] w fun e w' => ∃ b g pc S L, e = .returned (.pointer (some ⟨b, 0, none⟩)) ∧ IsDense w' b g pc (setL ws) S L ∧ Below w.heap.size w w' := dnnew_any h (set_asc ws) (pats_nodup h)
end Go.Proofs.YtpblllpgmibkoaaGreat

namespace Go.Proofs.YtpblllpgmibkoaaGreat
open Go.RowKit


/-- New links of a set that texts make. -/
theorem lknew_set {w : World} {p : Option Addr} {ws : List (List UInt8)} (h : IsPats w p (setL ws)) :
    Calls Tryz.prog 29 #[.pointer p] w fun e w' => ∃ k q S F, e = .returned (.pointer k) ∧ IsLink w' k q p (setL ws) S S.length F ∧ Below w.heap.size w w' := lknew_any h (set_asc ws) (pats_nodup h)

end Go.Proofs.YtpblllpgmibkoaaGreat

namespace Go.Proofs.YtpblllpgmibkoaaGreat
open Go.RowKit

theorem clbytes_any {w : World} {p : Option Addr} {F : Nat → Nat} {B : List UInt8} {n : Nat} (h : HasCls w p F B n) :
    Calls Tryz.prog 31 #[.pointer p] w fun e w' => e = .returned (.string ⟨B.toArray⟩) ∧ w' = w := by
  rcases h with ⟨rfl, _, rfl, _⟩ | ⟨b, rfl, h, _⟩
  · go_enter Tryz.func31, Tryz.ntmps31
    go_wp2
    go_ret
    exact ⟨rfl, rfl⟩
  · have c0 := h.last
    clear h
    go_enter Tryz.func31, Tryz.ntmps31
    go_wp2
    go_ret
    exact ⟨rfl, rfl⟩
end Go.Proofs.YtpblllpgmibkoaaGreat
