/-
  Evidence in memory: what a probe is, New, blind, back, Jump: walked.
-/
import Derived.Test.YtmgcdhcidojdhaaGreatBn4
import Derived.Test.YtmgcdhcidojdhaaGreatBn5
import Derived.Test.YtmgcdhcidojdhaaGreatBn7
import Derived.Deep.QuietTactic
set_option linter.unusedSimpArgs false
set_option linter.unusedVariables false
namespace Go.Proofs.YtmgcdhcidojdhaaGreat
open Go.RowKit

/-- A probe in block b: the set's patterns, its buckets, the shifts of bytes and of pairs. -/
def IsProbe (w : World) (b : Nat) (us : List (List UInt8)) : Prop :=
  ∃ (y bu sh pr : Option Addr) (l : Nat), w.heap[b]? = some (.cells #[.pointer y, .pointer bu, .pointer sh, .pointer pr] 106 (0, 0)) ∧ IsPats w y us ∧ HasBks w (.pointer bu) (idsL us) (lstL us) ∧ HasTab w sh (fstL us) (leastR us) ∧ HasPt w pr (nearL us) (farL us) l
theorem IsProbe.below {w w' : World} {b : Nat} {us : List (List UInt8)} (h : IsProbe w b us) (hb : Below w.heap.size w w') : IsProbe w' b us := by
  obtain ⟨y, bu, sh, pr, l, h1, h2, h3, h4, h5⟩ := h
  exact ⟨y, bu, sh, pr, l, (hb.block b (heap_lt h1)).trans h1, h2.below hb, h3.below hb, h4.below hb, h5.below hb⟩
theorem IsProbe.lt {w : World} {b : Nat} {us : List (List UInt8)} (h : IsProbe w b us) : b < w.heap.size := by
  obtain ⟨y, bu, sh, pr, l, h1, _⟩ := h
  exact heap_lt h1
/-- What its cells hold. -/
theorem IsProbe.reads {w : World} {b : Nat} {us : List (List UInt8)} (h : IsProbe w b us) : ∃ (y bu sh pr : Option Addr) (l : Nat),
    w.cell? ⟨b, 0, none⟩ = some (.pointer y) ∧ w.cell? ⟨b, 1, none⟩ = some (.pointer bu) ∧ w.cell? ⟨b, 2, none⟩ = some (.pointer sh) ∧ w.cell? ⟨b, 3, none⟩ = some (.pointer pr) ∧
    IsPats w y us ∧ HasBks w (.pointer bu) (idsL us) (lstL us) ∧ HasTab w sh (fstL us) (leastR us) ∧ HasPt w pr (nearL us) (farL us) l := by
  obtain ⟨y, bu, sh, pr, l, h1, h2⟩ := h
  refine ⟨y, bu, sh, pr, l, ?_, ?_, ?_, ?_, h2⟩ <;> rw [Lib.cell_of_heap h1] <;> rfl

set_option maxRecDepth 100000 in
set_option maxHeartbeats 1000000 in
theorem pbnew_any {w : World} {p : Option Addr} {us : List (List UInt8)} (h : IsPats w p us) :
    Calls Tryz.prog 31 #[.pointer p] w fun e w' => ∃ b, e = .returned (.pointer (some ⟨b, 0, none⟩)) ∧ w.heap.size ≤ b ∧ IsProbe w' b us ∧ Below w.heap.size w w' := by
  have H1 := Lib.hid (bunew_all h)
  have HP := Lib.hid h
  clear h
  go_enter Tryz.func31, Tryz.ntmps31
  go_wp2_with fail
  refine H1.out.mono ?_
  rintro e w1 ⟨bu, rfl, hB, hb1⟩
  have e1 := hb1.size
  have HB1 := Lib.hid hB
  have HP1 := Lib.hid (HP.out.below hb1)
  have H2 := Lib.hid (shnew_all HP1.out)
  clear H1 hB HP
  go_wp2_with fail
  refine H2.out.mono ?_
  rintro e w2 ⟨sh, rfl, hs, hS, hb2⟩
  have d2 := hb1.trans (hb2.mono e1)
  have e2 := d2.size
  have HB2 := Lib.hid (HB1.out.below hb2)
  have HP2 := Lib.hid (HP1.out.below hb2)
  have HS2 := Lib.hid hS
  have H3 := Lib.hid (prnew_all HP2.out)
  clear H2 hS hs HB1 HP1 hb1 hb2 e1
  go_wp2_with fail
  refine H3.out.mono ?_
  rintro e w3 ⟨⟨pr, l, rfl, hr, hR, _⟩, hb3⟩
  have d3 := d2.trans (hb3.mono e2)
  have e3 := d3.size
  have HX := Lib.hid (heap_alloc_new w3 (.cells #[.pointer p, .pointer bu, .pointer (some ⟨sh, 0, none⟩), .pointer (some ⟨pr, 0, none⟩)] 106))
  have HA : Hid (Below w3.heap.size w3 (w3.alloc (.cells #[.pointer p, .pointer bu, .pointer (some ⟨sh, 0, none⟩), .pointer (some ⟨pr, 0, none⟩)] 106))) := Lib.hid ((Below.refl _ _).alloc (Nat.le_refl _) _)
  have HD := Lib.hid (d3.alloc e3 (.cells #[.pointer p, .pointer bu, .pointer (some ⟨sh, 0, none⟩), .pointer (some ⟨pr, 0, none⟩)] 106))
  have HB3 := Lib.hid (HB2.out.below hb3)
  have HP3 := Lib.hid (HP2.out.below hb3)
  have HS3 := Lib.hid (HS2.out.below hb3)
  have HR3 := Lib.hid hR
  clear H3 hR hr HB2 HP2 HS2 hb3 d2 e2 d3
  go_wp2
  go_ret
  exact ⟨w3.heap.size, rfl, e3, ⟨p, bu, _, _, l, HX.out, HP3.out.below HA.out, HB3.out.below HA.out, HS3.out.below HA.out, HR3.out.below HA.out⟩, HD.out⟩

set_option maxRecDepth 100000 in
theorem pbblind_nil (t : List UInt8) (w : World) : Calls Tryz.prog 80 #[.pointer none, .string ⟨t.toArray⟩] w fun e w' => e = .returned (.bool true) ∧ w' = w := by
  go_enter Tryz.func80, Tryz.ntmps80
  go_wp2
  go_ret
  exact ⟨rfl, rfl⟩
set_option maxRecDepth 100000 in
theorem pbblind_any (b : Nat) (t : List UInt8) (w : World) (β : Bool) (h : t.isEmpty = β) : Calls Tryz.prog 80 #[.pointer (some ⟨b, 0, none⟩), .string ⟨t.toArray⟩] w fun e w' => e = .returned (.bool β) ∧ w' = w := by
  go_enter Tryz.func80, Tryz.ntmps80
  go_wp2
  go_ret
  exact ⟨rfl, rfl⟩

theorem byN_at (t : List UInt8) {j : Nat} (hj : j < t.length) (hjz : j < (⟨t.toArray⟩ : ByteArray).size) : ((⟨t.toArray⟩ : ByteArray)[j]'hjz).toNat = byN t j := by
  rw [byteAt t j hj hjz]
  unfold byN
  rw [List.getD_eq_getElem?_getD, List.getElem?_eq_getElem hj]
  rfl
theorem byN_lt (t : List UInt8) (j : Nat) : byN t j < 256 := UInt8.toNat_lt _

set_option maxRecDepth 100000 in
theorem pbback_any (t : List UInt8) (d : Nat) (w : World) (hd : d < t.length) (ht : t.length ≤ 1000000) :
    Calls Tryz.prog 97 #[.string ⟨t.toArray⟩, .int .i64 (d : Int)] w fun e w' => e = .returned (.int .u8 (byN t (t.length - 1 - d) : Int)) ∧ w' = w := by
  have S1 := Lib.hid (bsize t)
  obtain ⟨j, hj⟩ : ∃ j, j + 1 + d = t.length := ⟨t.length - 1 - d, by omega⟩
  have hjl : j < t.length := by omega
  have hjz : j < (⟨t.toArray⟩ : ByteArray).size := by rw [bsize]; omega
  obtain ⟨q, hq1⟩ : ∃ q, q + 1 = t.length := ⟨t.length - 1, by omega⟩
  have w1 : IntKind.i64.wrap ((t.length : Int) - 1) = (q : Int) := by rw [IntKind.wrap_i64]; omega
  have w2 : IntKind.i64.wrap ((q : Int) - (d : Int)) = (j : Int) := by rw [IntKind.wrap_i64]; omega
  have hq := byN_at t hjl hjz
  rw [show t.length - 1 - d = j by omega]
  clear hq1 hj
  go_enter Tryz.func97, Tryz.ntmps97
  go_wp2
  go_ret
  exact ⟨rfl, rfl⟩

/-- A record as an answer, its numbers to be read. -/
def RetE (R : EvR) (w : World) (e : Ending) (w' : World) : Prop :=
  ∃ a cap, e = .returned (.agg #[.int .i64 (R.k : Int), .int .i64 (R.n : Int), .int .i64 (R.r : Int), .slice a R.ids.length cap]) ∧ IsRow .i64 w' a R.ids.length R.ids.length R.ids ∧ Below w.heap.size w w'

/-- A record's cells. -/
theorem put_rec {w : World} {r : Nat} {T : TypeId} {u0 u1 u2 u3 : Value} (h : w.heap[r]? = some (.cells #[u0, u1, u2, u3] T (0, 0))) (x0 x1 x2 x3 : Value) :
    ((((w.setCell ⟨r, 0, none⟩ x0).setCell ⟨r, 1, none⟩ x1).setCell ⟨r, 2, none⟩ x2).setCell ⟨r, 3, none⟩ x3).heap[r]? = some (.cells #[x0, x1, x2, x3] T (0, 0)) := by
  rw [put_heap (put_heap (put_heap (put_heap h x0) x1) x2) x3]; rfl
theorem rec_reads {w : World} {r : Nat} {T : TypeId} {x0 x1 x2 x3 : Value} (h : w.heap[r]? = some (.cells #[x0, x1, x2, x3] T (0, 0))) :
    w.cell? ⟨r, 0, none⟩ = some x0 ∧ w.cell? ⟨r, 1, none⟩ = some x1 ∧ w.cell? ⟨r, 2, none⟩ = some x2 ∧ w.cell? ⟨r, 3, none⟩ = some x3 := by
  refine ⟨?_, ?_, ?_, ?_⟩ <;> rw [Lib.cell_of_heap h] <;> rfl
theorem rec_free {w : World} {r : Nat} {T : TypeId} {x0 x1 x2 x3 : Value} (h : w.heap[r]? = some (.cells #[x0, x1, x2, x3] T (0, 0))) :
    w.frozen? ⟨r, 0, none⟩ = false ∧ w.frozen? ⟨r, 1, none⟩ = false ∧ w.frozen? ⟨r, 2, none⟩ = false ∧ w.frozen? ⟨r, 3, none⟩ = false :=
  ⟨Lib.frozen_of_heap h 0, Lib.frozen_of_heap h 1, Lib.frozen_of_heap h 2, Lib.frozen_of_heap h 3⟩
theorem below_rec {B : Nat} {w w' : World} {r : Nat} (h : Below B w w') (hr : B ≤ r) (x0 x1 x2 x3 : Value) :
    Below B w ((((w'.setCell ⟨r, 0, none⟩ x0).setCell ⟨r, 1, none⟩ x1).setCell ⟨r, 2, none⟩ x2).setCell ⟨r, 3, none⟩ x3) :=
  (((h.setCell (p := ⟨r, 0, none⟩) hr _).setCell (p := ⟨r, 1, none⟩) hr _).setCell (p := ⟨r, 2, none⟩) hr _).setCell (p := ⟨r, 3, none⟩) hr _
/-- A record without numbers, laid into the result's block. -/
theorem jmp_end {R : EvR} {w w3 : World} {k n r : Nat} (hR : R = ⟨k, n, r, []⟩) (hb : Below w.heap.size w w3) : RetE R w (.returned (.agg #[.int .i64 (k : Int), .int .i64 (n : Int), .int .i64 (r : Int), .slice none 0 0])) w3 := by
  subst hR
  exact ⟨none, 0, rfl, .inl rfl, hb⟩

set_option maxRecDepth 100000 in
set_option maxHeartbeats 4000000 in
theorem pbjump_one {w : World} {b : Nat} {us : List (List UInt8)} (h : IsProbe w b us) {s t : List UInt8} {e : Nat} (ht : IsTail us s e t) (hs : t.length ≤ 1000000) (he : ¬ 2 ≤ e) :
    Calls Tryz.prog 81 #[.pointer (some ⟨b, 0, none⟩), .string ⟨t.toArray⟩, .int .i64 (e : Int)] w (RetE (jmpR us s e) w) := by
  have ho := ht.some
  have HJ := Lib.hid (jmp_cases us s e)
  have h2 : twoN us s e = 0 := if_neg he
  rw [h2] at HJ
  have g0 : ¬ (2 : Int) ≤ (e : Int) := by omega
  have hby := ht.byte (d := 0) ho
  have HF := Lib.hid (full_of_pos t ho)
  have hB1 := (Below.refl w.heap.size w).alloc (Nat.le_refl _) (.cells #[.int .i64 0, .int .i64 0, .int .i64 0, .slice none 0 0] 45)
  have HX := Lib.hid (heap_alloc_new w (.cells #[.int .i64 0, .int .i64 0, .int .i64 0, .slice none 0 0] 45))
  obtain ⟨y, bu, sh, pr, l, c0, c1, c2, c3, hp, hbu, hsh, hpr⟩ := (h.below hB1).reads
  have HB := Lib.hid (fun β (hβ : t.isEmpty = β) W => pbblind_any b t W β hβ)
  have HK := Lib.hid (fun (W : World) => pbback_any t 0 W ho hs)
  rw [show ((0 : Nat) : Int) = 0 from rfl, hby, Nat.sub_zero] at HK
  have hc := byN_lt s (e - 1)
  have HS : Hid (∀ q, Calls Tryz.prog 96 #[.pointer sh, .int .u8 (byN s (e - 1) : Int)] ((w.alloc (.cells #[.int .i64 0, .int .i64 0, .int .i64 0, .slice none 0 0] 45)).drewN q) fun en w' => en = .returned (.int .i64 (fstL us (byN s (e - 1)) : Int)) ∧ w' = (w.alloc (.cells #[.int .i64 0, .int .i64 0, .int .i64 0, .slice none 0 0] 45)).drewN q) :=
    Lib.hid (fun q => shfirst_any (hsh.heap (by rfl)) _ hc)
  clear h2
  clear h hsh hpr hbu hp hby ht hs he
  generalize jmpR us s e = R at *
  generalize fstL us (byN s (e - 1)) = one at *
  generalize byN s (e - 1) = c at *
  have HB2 := HB.out _ HF.out
  clear HB HF
  go_enter Tryz.func81, Tryz.ntmps81
  go_wp2_with fail
  refine (HB2 _).mono ?_
  rintro E w' ⟨rfl, rfl⟩
  go_wp2_with fail
  go_quiet (first | with_reducible exact Calls.quiet_of_same (HK.out _) | with_reducible exact Calls.quiet_of_same (HS.out _))
  have d2 := below_drewS hB1 nq
  have HX2 : ((w.alloc (.cells #[.int .i64 0, .int .i64 0, .int .i64 0, .slice none 0 0] 45)).drewN nq).heap[w.heap.size]? = some (.cells #[.int .i64 0, .int .i64 0, .int .i64 0, .slice none 0 0] 45 (0, 0)) := HX.out
  generalize (w.alloc (.cells #[.int .i64 0, .int .i64 0, .int .i64 0, .slice none 0 0] 45)).drewN nq = W2 at d2 HX2 ⊢
  clear HB2 HK HS c0 c1 c2 c3 HX hB1 
  obtain ⟨f0, f1, f2, f3⟩ := rec_free HX2
  obtain ⟨k0, k1, k2, k3⟩ := rec_reads HX2
  generalize hr : w.heap.size = r at *
  rcases HJ.out with ⟨q1, hR⟩ | ⟨q1, q2, hR⟩ | ⟨q1, q2, hR⟩
  · exact absurd q1 (Nat.not_lt_zero _)
  · have HR := Lib.hid hR
    have g1 : ¬ (one : Int) < 0 := by omega
    have g2 : (0 : Int) < (one : Int) := by omega
    clear HJ hR
    have hfin := put_rec HX2 (.int .i64 1) (.int .i64 (one : Int)) (.int .i64 1) (.slice none 0 0)
    have hbe := below_rec d2 (Nat.le_refl _) (.int .i64 1) (.int .i64 (one : Int)) (.int .i64 1) (.slice none 0 0)
    clear HX2 d2
    go_wp2
    generalize (((W2.setCell ⟨r, 0, none⟩ (.int .i64 1)).setCell ⟨r, 1, none⟩ (.int .i64 (one : Int))).setCell ⟨r, 2, none⟩ (.int .i64 1)).setCell ⟨r, 3, none⟩ (.slice none 0 0) = w3 at *
    obtain ⟨j0, j1, j2, j3⟩ := rec_reads hfin
    refine bodyPost_ret (v := .agg #[.int .i64 1, .int .i64 (one : Int), .int .i64 1, .slice none 0 0]) (by simp [results, Tryz.results81, go_sem, j0, j1, j2, j3]) rfl ?_
    exact jmp_end HR.out (by rw [hr]; exact hbe)
  · have HR := Lib.hid hR
    subst q2
    clear HJ hR
    have hfin := put_rec HX2 (.int .i64 0) (.int .i64 0) (.int .i64 0) (.slice none 0 0)
    have hbe := below_rec d2 (Nat.le_refl _) (.int .i64 0) (.int .i64 0) (.int .i64 0) (.slice none 0 0)
    clear HX2 d2
    go_wp2
    generalize (((W2.setCell ⟨r, 0, none⟩ (.int .i64 0)).setCell ⟨r, 1, none⟩ (.int .i64 0)).setCell ⟨r, 2, none⟩ (.int .i64 0)).setCell ⟨r, 3, none⟩ (.slice none 0 0) = w3 at *
    obtain ⟨j0, j1, j2, j3⟩ := rec_reads hfin
    refine bodyPost_ret (v := .agg #[.int .i64 0, .int .i64 0, .int .i64 0, .slice none 0 0]) (by simp [results, Tryz.results81, go_sem, j0, j1, j2, j3]) rfl ?_
    exact jmp_end HR.out (by rw [hr]; exact hbe)

set_option maxRecDepth 100000 in
set_option maxHeartbeats 4000000 in
theorem pbjump_two {w : World} {b : Nat} {us : List (List UInt8)} (h : IsProbe w b us) {s t : List UInt8} {e : Nat} (ht : IsTail us s e t) (hs : t.length ≤ 1000000) (he : 2 ≤ e) :
    Calls Tryz.prog 81 #[.pointer (some ⟨b, 0, none⟩), .string ⟨t.toArray⟩, .int .i64 (e : Int)] w (RetE (jmpR us s e) w) := by
  have ho := ht.some
  have HJ := Lib.hid (jmp_cases us s e)
  obtain ⟨h2, h3⟩ := ht.pair he
  have S1 := Lib.hid (bsize t)
  have hcl : clrP (nearL us) t (t.length : Int) = twoN us s e := by
    unfold clrP twoN
    rw [if_pos ⟨by omega, by omega⟩, if_pos he, Int.toNat_natCast, h3]
  have g0 : (2 : Int) ≤ (e : Int) := by omega
  have hby := ht.byte (d := 0) ho
  have HF := Lib.hid (full_of_pos t ho)
  have hB1 := (Below.refl w.heap.size w).alloc (Nat.le_refl _) (.cells #[.int .i64 0, .int .i64 0, .int .i64 0, .slice none 0 0] 45)
  have HX := Lib.hid (heap_alloc_new w (.cells #[.int .i64 0, .int .i64 0, .int .i64 0, .slice none 0 0] 45))
  obtain ⟨y, bu, sh, pr, l, c0, c1, c2, c3, hp, hbu, hsh, hpr⟩ := (h.below hB1).reads
  have HB := Lib.hid (fun β (hβ : t.isEmpty = β) W => pbblind_any b t W β hβ)
  have HK := Lib.hid (fun (W : World) => pbback_any t 0 W ho hs)
  rw [show ((0 : Nat) : Int) = 0 from rfl, hby, Nat.sub_zero] at HK
  have hc := byN_lt s (e - 1)
  have HS : Hid (∀ q, Calls Tryz.prog 96 #[.pointer sh, .int .u8 (byN s (e - 1) : Int)] ((w.alloc (.cells #[.int .i64 0, .int .i64 0, .int .i64 0, .slice none 0 0] 45)).drewN q) fun en w' => en = .returned (.int .i64 (fstL us (byN s (e - 1)) : Int)) ∧ w' = (w.alloc (.cells #[.int .i64 0, .int .i64 0, .int .i64 0, .slice none 0 0] 45)).drewN q) :=
    Lib.hid (fun q => shfirst_any (hsh.heap (by rfl)) _ hc)
  have HPR := Lib.hid (fun (W : World) (e : W.heap = (w.alloc (.cells #[.int .i64 0, .int .i64 0, .int .i64 0, .slice none 0 0] 45)).heap) => prclear_any (hpr.heap e) t hs (t.length : Int))
  rw [hcl] at HPR
  clear h2 h3 hcl
  clear h hsh hpr hbu hp hby ht hs he
  generalize jmpR us s e = R at *
  generalize fstL us (byN s (e - 1)) = one at *
  generalize byN s (e - 1) = c at *
  generalize twoN us s e = two at *
  have HB2 := HB.out _ HF.out
  clear HB HF
  go_enter Tryz.func81, Tryz.ntmps81
  go_wp2_with fail
  refine (HB2 _).mono ?_
  rintro E w' ⟨rfl, rfl⟩
  go_wp2_with fail
  go_quiet (first | with_reducible exact Calls.quiet_of_same (HK.out _) | with_reducible exact Calls.quiet_of_same (HS.out _))
  have d2 := below_drewS hB1 nq
  have HX2 : ((w.alloc (.cells #[.int .i64 0, .int .i64 0, .int .i64 0, .slice none 0 0] 45)).drewN nq).heap[w.heap.size]? = some (.cells #[.int .i64 0, .int .i64 0, .int .i64 0, .slice none 0 0] 45 (0, 0)) := HX.out
  have k3 : ((w.alloc (.cells #[.int .i64 0, .int .i64 0, .int .i64 0, .slice none 0 0] 45)).drewN nq).cell? ⟨b, 3, none⟩ = some (.pointer pr) := c3
  have HP2 := Lib.hid (HPR.out ((w.alloc (.cells #[.int .i64 0, .int .i64 0, .int .i64 0, .slice none 0 0] 45)).drewN nq) rfl)
  generalize (w.alloc (.cells #[.int .i64 0, .int .i64 0, .int .i64 0, .slice none 0 0] 45)).drewN nq = W2 at d2 HX2 k3 HP2 ⊢
  clear HB2 HK HS c0 c1 c2 c3 HX hB1 HPR
  go_wp2_with fail
  refine HP2.out.mono ?_
  rintro E w' ⟨rfl, q, rfl⟩
  have d2 := below_drewS d2 q
  have HX2 : (W2.drewN q).heap[w.heap.size]? = some (.cells #[.int .i64 0, .int .i64 0, .int .i64 0, .slice none 0 0] 45 (0, 0)) := HX2
  clear HP2 k3
  generalize W2.drewN q = W2 at d2 HX2 ⊢
  obtain ⟨f0, f1, f2, f3⟩ := rec_free HX2
  obtain ⟨k0, k1, k2, k3⟩ := rec_reads HX2
  generalize hr : w.heap.size = r at *
  rcases HJ.out with ⟨q1, hR⟩ | ⟨q1, q2, hR⟩ | ⟨q1, q2, hR⟩
  · have HR := Lib.hid hR
    have g1 : (one : Int) < (two : Int) := by omega
    clear HJ hR
    have hfin := put_rec HX2 (.int .i64 2) (.int .i64 (two : Int)) (.int .i64 1) (.slice none 0 0)
    have hbe := below_rec d2 (Nat.le_refl _) (.int .i64 2) (.int .i64 (two : Int)) (.int .i64 1) (.slice none 0 0)
    clear HX2 d2
    go_wp2
    generalize (((W2.setCell ⟨r, 0, none⟩ (.int .i64 2)).setCell ⟨r, 1, none⟩ (.int .i64 (two : Int))).setCell ⟨r, 2, none⟩ (.int .i64 1)).setCell ⟨r, 3, none⟩ (.slice none 0 0) = w3 at *
    obtain ⟨j0, j1, j2, j3⟩ := rec_reads hfin
    refine bodyPost_ret (v := .agg #[.int .i64 2, .int .i64 (two : Int), .int .i64 1, .slice none 0 0]) (by simp [results, Tryz.results81, go_sem, j0, j1, j2, j3]) rfl ?_
    exact jmp_end HR.out (by rw [hr]; exact hbe)
  · have HR := Lib.hid hR
    have g1 : ¬ (one : Int) < (two : Int) := by omega
    have g2 : (0 : Int) < (one : Int) := by omega
    clear HJ hR
    have hfin := put_rec HX2 (.int .i64 1) (.int .i64 (one : Int)) (.int .i64 1) (.slice none 0 0)
    have hbe := below_rec d2 (Nat.le_refl _) (.int .i64 1) (.int .i64 (one : Int)) (.int .i64 1) (.slice none 0 0)
    clear HX2 d2
    go_wp2
    generalize (((W2.setCell ⟨r, 0, none⟩ (.int .i64 1)).setCell ⟨r, 1, none⟩ (.int .i64 (one : Int))).setCell ⟨r, 2, none⟩ (.int .i64 1)).setCell ⟨r, 3, none⟩ (.slice none 0 0) = w3 at *
    obtain ⟨j0, j1, j2, j3⟩ := rec_reads hfin
    refine bodyPost_ret (v := .agg #[.int .i64 1, .int .i64 (one : Int), .int .i64 1, .slice none 0 0]) (by simp [results, Tryz.results81, go_sem, j0, j1, j2, j3]) rfl ?_
    exact jmp_end HR.out (by rw [hr]; exact hbe)
  · have HR := Lib.hid hR
    subst q2
    have g1 : ¬ (0 : Int) < (two : Int) := by omega
    have q3 : two = 0 := by omega
    subst q3
    clear HJ hR
    have hfin := put_rec HX2 (.int .i64 0) (.int .i64 0) (.int .i64 0) (.slice none 0 0)
    have hbe := below_rec d2 (Nat.le_refl _) (.int .i64 0) (.int .i64 0) (.int .i64 0) (.slice none 0 0)
    clear HX2 d2
    go_wp2
    generalize (((W2.setCell ⟨r, 0, none⟩ (.int .i64 0)).setCell ⟨r, 1, none⟩ (.int .i64 0)).setCell ⟨r, 2, none⟩ (.int .i64 0)).setCell ⟨r, 3, none⟩ (.slice none 0 0) = w3 at *
    obtain ⟨j0, j1, j2, j3⟩ := rec_reads hfin
    refine bodyPost_ret (v := .agg #[.int .i64 0, .int .i64 0, .int .i64 0, .slice none 0 0]) (by simp [results, Tryz.results81, go_sem, j0, j1, j2, j3]) rfl ?_
    exact jmp_end HR.out (by rw [hr]; exact hbe)

theorem pbjump_any {w : World} {b : Nat} {us : List (List UInt8)} (h : IsProbe w b us) {s t : List UInt8} {e : Nat} (ht : IsTail us s e t) (hs : t.length ≤ 1000000) :
    Calls Tryz.prog 81 #[.pointer (some ⟨b, 0, none⟩), .string ⟨t.toArray⟩, .int .i64 (e : Int)] w (RetE (jmpR us s e) w) := by
  by_cases he : 2 ≤ e
  · exact pbjump_two h ht hs he
  · exact pbjump_one h ht hs he
end Go.Proofs.YtmgcdhcidojdhaaGreat
