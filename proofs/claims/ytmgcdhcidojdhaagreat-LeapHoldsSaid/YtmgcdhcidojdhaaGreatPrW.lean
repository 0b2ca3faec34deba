/-
  pair: lower: walked.
-/
import Derived.Test.YtmgcdhcidojdhaaGreatBn6
import Derived.Deep.RegionWith
set_option linter.unusedSimpArgs false
set_option linter.unusedVariables false
namespace Go.Proofs.YtmgcdhcidojdhaaGreat
open Go.RowKit Go.Maps

set_option maxRecDepth 100000 in
set_option maxHeartbeats 4000000 in
theorem prlower_any {w : World} {b g n m : Nat} {D : DataW Unit} {F : Nat → Nat} (h : IsPt w b g n m D) (hS : Says D F m) (t : List UInt8) (hm : m + 1 ≤ t.length ∨ m = 0) (ht : t.length ≤ 1000000) (hF : ∀ c, F c ≤ m) (hn : n ≤ 1000000000000) :
    Calls Tryz.prog 76 #[.pointer (some ⟨b, 0, none⟩), .string ⟨t.toArray⟩] w fun e w' => e = .returned (.tuple #[]) ∧ (∃ D', IsPt w' b g (n + m) m D' ∧ Says D' (lowP F t m) m) ∧ w.grownBy w' (some g) := by
  have c1 := h.cell1
  have HT := Lib.hid h
  have HS := Lib.hid hS
  have HLE := Lib.hid (fun j c => lowp_le (t := t) hF j c)
  have S1 := Lib.hid (bsize t)
  clear h hF hS
  go_enter Tryz.func76, Tryz.ntmps76
  go_wp2
  go_loopw [13] (fun i wr => ∃ (k : Nat) (Dk : DataW Unit), k ≤ m ∧ i = .int .i64 k ∧ Hid (IsPt wr b g (n + k) m Dk) ∧ Hid (Says Dk (lowP F t k) m) ∧ Hid (w.grownBy wr (some g))) (fun i _ => m - (RowKit.intOf i).toNat)
  case atStart => exact ⟨0, D, Nat.zero_le _, rfl, HT, HS, Lib.hid ⟨rfl, rfl, rfl, Nat.le_refl _, fun _ _ _ => rfl⟩⟩
  case round =>
    obtain ⟨k, Dk, hk, rfl, HK, HSk, HB⟩ := hrel
    by_cases hlt : k < m
    · obtain ⟨e, he⟩ : ∃ e, e + k = t.length := ⟨t.length - k, by omega⟩
      obtain ⟨i, hi⟩ : ∃ i, i + 2 = e := ⟨e - 2, by omega⟩
      obtain ⟨j, hj⟩ : ∃ j, j + 1 = e := ⟨e - 1, by omega⟩
      have hjl : j < t.length := by omega
      have hil : i < t.length := by omega
      have hjz : j < (⟨t.toArray⟩ : ByteArray).size := by rw [bsize]; omega
      have hiz : i < (⟨t.toArray⟩ : ByteArray).size := by rw [bsize]; omega
      have w0 : IntKind.i64.wrap ((t.length : Int) - (k : Int)) = (e : Int) := by rw [IntKind.wrap_i64]; omega
      have w1 : IntKind.i64.wrap ((e : Int) - 2) = (i : Int) := by rw [IntKind.wrap_i64]; omega
      have w2 : IntKind.i64.wrap ((e : Int) - 1) = (j : Int) := by rw [IntKind.wrap_i64]; omega
      obtain ⟨y, hyy⟩ : ∃ y, (t[j]).toNat = y := ⟨_, rfl⟩
      obtain ⟨x, hxx⟩ : ∃ x, (t[i]).toNat = x := ⟨_, rfl⟩
      have hy : y < 256 := by rw [← hyy]; exact UInt8.toNat_lt _
      have hx : x < 256 := by rw [← hxx]; exact UInt8.toNat_lt _
      have hqy : ((⟨t.toArray⟩ : ByteArray)[j]'hjz).toNat = y := by rw [byteAt t j hjl hjz, hyy]
      have hqx : ((⟨t.toArray⟩ : ByteArray)[i]'hiz).toNat = x := by rw [byteAt t i hil hiz, hxx]
      have hat : ∀ d, at2 t d k = true ↔ two x y = d := by
        intro d
        rw [at2_iff (by omega)]
        unfold prN
        rw [show t.length - 1 - k = j by omega, show t.length - 2 - k = i by omega]
        simp only [List.getD, List.getElem?_eq_getElem hjl, List.getElem?_eq_getElem hil, Option.getD_some, hxx, hyy]
      have hle := HLE.out k (two x y)
      have HAT := Lib.hid hat
      have HE := Lib.hid he
      have HI := Lib.hid hi
      have HJ := Lib.hid hj
      clear hat hyy hxx hi hj he
      go_wp2_with fail
      go_region
      obtain ⟨W, hW⟩ : ∃ W, (wr.alloc (.cells #[.int .u8 (x : Int), .int .u8 (y : Int)] 153)).drew = W := ⟨_, rfl⟩
      obtain ⟨q, hq⟩ : ∃ q, wr.heap.size = q := ⟨_, rfl⟩
      have hnew : W.heap[q]? = some (.cells #[.int .u8 (x : Int), .int .u8 (y : Int)] 153 (0, 0)) := by rw [← hW, ← hq]; exact heap_alloc_new wr _
      have hgr : wr.grownBy W none := by rw [← hW]; have h := World.grownBy_alloc wr (.cells #[.int .u8 (x : Int), .int .u8 (y : Int)] 153) none; exact ⟨h.os, h.tape, h.output, h.size, h.block⟩
      rw [hW, hq]
      have HK2 := Lib.hid (HK.out.kept hgr)
      have HB2 : Hid (w.grownBy W (some g)) := Lib.hid ⟨hgr.os.trans HB.out.os, hgr.tape.trans HB.out.tape, hgr.output.trans HB.out.output, Nat.le_trans HB.out.size hgr.size, fun i hi hne => (hgr.block i (Nat.lt_of_lt_of_le hi HB.out.size) (by simp)).trans (HB.out.block i hi hne)⟩
      have p0 : W.cell? ⟨q, 0, none⟩ = some (.int .u8 (x : Int)) := by rw [Lib.cell_of_heap hnew]; rfl
      have p1 : W.cell? ⟨q, 1, none⟩ = some (.int .u8 (y : Int)) := by rw [Lib.cell_of_heap hnew]; rfl
      have q0 := HK2.out.cell0
      have hkk : k < 1000000 := by omega
      have hnk : n + k < maxLen := by unfold maxLen; omega
      obtain ⟨c, hrun, hc⟩ := look_two (w := W.drew) HK2.out.2 HSk.out hx hy
      obtain ⟨w3, hput, hown3, hg3⟩ := put_two (w := W.drew.drew) HK2.out.2 hnk hx hy hkk
      have HSay : Hid (k < lowP F t k (two x y) → Hid (Says (Dk.put (keyL x y) (.lit (.int .i64 (k : Int)))) (lowP F t (k + 1)) m)) := Lib.hid (fun hl => Lib.hid (by
        refine (says_put (HK2.out.2.tidy keyP) HSk.out hx hy hlt (fun c => HLE.out k c) hl).congr fun c => ?_
        by_cases e : c = two x y
        · subst e
          simp only [↓reduceIte]
          rw [lowp_hit ((HAT.out _).2 rfl), Nat.min_eq_right (by omega)]
        · simp only [if_neg e]
          rw [lowp_keep fun h => e ((HAT.out c).1 h).symm]))
      have HSay0 : Hid (lowP F t k (two x y) ≤ k → Hid (Says Dk (lowP F t (k + 1)) m)) := Lib.hid (fun hl => Lib.hid (by
        refine HSk.out.congr fun c => ?_
        by_cases e : c = two x y
        · subst e
          rw [lowp_hit ((HAT.out _).2 rfl), Nat.min_eq_left hl]
        · rw [lowp_keep fun h => e ((HAT.out c).1 h).symm]))
      have HP3 : Hid (IsPt w3 b g (n + (k + 1)) m (Dk.put (keyL x y) (.lit (.int .i64 (k : Int))))) := Lib.hid ⟨(hg3.block b (heap_lt HK2.out.1) (by have := HK2.out.ne; simp only [ne_eq, Option.some.injEq]; omega)).trans HK2.out.1, hown3⟩
      have HP4 : Hid (IsPt W.drew b g (n + (k + 1)) m Dk) := Lib.hid ⟨HK2.out.1, HK2.out.2.mono (by omega)⟩
      have HB3 : Hid (w.grownBy w3 (some g)) := Lib.hid ⟨hg3.os.trans HB2.out.os, hg3.tape.trans HB2.out.tape, hg3.output.trans HB2.out.output, Nat.le_trans HB2.out.size hg3.size, fun i hi hne => (hg3.block i (Nat.lt_of_lt_of_le hi HB2.out.size) hne).trans (HB2.out.block i hi hne)⟩
      have HB4 : Hid (w.grownBy W.drew (some g)) := Lib.hid ⟨HB2.out.os, HB2.out.tape, HB2.out.output, HB2.out.size, HB2.out.block⟩
      clear hW hq hnew HK HB hgr hown3 hg3 HB2 HK2
      by_cases hin : lowP F t k (two x y) < m
      · obtain rfl := hc hin
        rw [decide_eq_true hin] at hrun
        clear hc
        by_cases hlk : k < lowP F t k (two x y)
        · have HY := Lib.hid (HSay.out hlk)
          clear HSay HSay0 HP4 HB4 HSk
          generalize lowP F t k (two x y) = v at hin hlk hle hrun
          have g1 : (k : Int) < (v : Int) := by omega
          go_wp2_with fail
          go_region
          go_wp2_with fail
          go_region
          go_wp2
          exact ⟨⟨k + 1, _, by omega, by go_num, HP3, HY.out, HB3⟩, by simp [RowKit.intOf]; omega⟩
        · have HY := Lib.hid (HSay0.out (by omega))
          clear HSay HSay0 HP3 HB3 HSk hput
          generalize lowP F t k (two x y) = v at hin hlk hle hrun
          have g1 : ¬ (k : Int) < (v : Int) := by omega
          go_wp2_with fail
          go_region
          go_wp2
          exact ⟨⟨k + 1, _, by omega, by go_num, HP4, HY.out, HB4⟩, by simp [RowKit.intOf]; omega⟩
      · rw [decide_eq_false hin] at hrun
        have HY := Lib.hid (HSay.out (by omega))
        clear HSay HSay0 HP4 HB4 HSk hc
        go_wp2_with fail
        go_region
        go_wp2_with fail
        go_region
        go_wp2
        exact ⟨⟨k + 1, _, by omega, by go_num, HP3, HY.out, HB3⟩, by simp [RowKit.intOf]; omega⟩
    · obtain rfl : k = m := by omega
      have hz : ¬ (k : Int) < (k : Int) := by omega
      go_wp2
      go_end0
      exact ⟨rfl, ⟨Dk, HK.out, HSk.out⟩, HB.out⟩
end Go.Proofs.YtmgcdhcidojdhaaGreat
