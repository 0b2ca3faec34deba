/-
  The document's own answers for layer 24: Holds: walked, where evidence holds.
-/
import Derived.Test.YtmgcdhcidojdhaaGreatPbS
import Derived.Test.YtmgcdhcidojdhaaGreatBn13
import Derived.Deep.RegionHeld3
set_option linter.unusedSimpArgs false
set_option linter.unusedVariables false
namespace Go.Proofs.YtmgcdhcidojdhaaGreat
open Go.RowKit

set_option maxRecDepth 100000 in
set_option maxHeartbeats 4000000 in
theorem rholds_skip (a : Option Addr) (len cap : Nat) (us : List (List UInt8)) (s : List UInt8) (e : Nat) (w : World) (hlen : len ≤ 1000000) (hr : IsStrs w a len us) (hu : ∀ t ∈ us, 0 < t.length ∧ t.length ≤ 65535) (hs : s.length ≤ 1000000) (he : 0 < e) (hes : e ≤ s.length) (aa : Option Addr) (cc : Nat) (n r : Nat) (hn : 0 < n) (hnm : n ≤ leastR us) (hnf : n ≤ fstL us (byN s (e - 1))) :
    Calls Tryz.prog 15 #[.slice a len cap, .string ⟨s.toArray⟩, .int .i64 (e : Int), .agg #[.int .i64 1, .int .i64 (n : Int), .int .i64 (r : Int), .slice aa 0 cc]] w fun E w' => E = .returned (.bool true) ∧ Below w.heap.size w w' := by
  have S2 := Lib.hid (bsize s)
  have hwl := hr.1
  obtain ⟨ie, hie⟩ : ∃ ie, ie + 1 = e := ⟨e - 1, by omega⟩
  have we : IntKind.i64.wrap ((e : Int) - 1) = (ie : Int) := by rw [IntKind.wrap_i64]; omega
  have hel : ie < s.length := by omega
  have hez : ie < (⟨s.toArray⟩ : ByteArray).size := by rw [bsize]; omega
  have hqe := byN_at s hel hez
  have hy := byN_lt s ie
  have hee : e - 1 = ie := by omega
  have b1 := (Below.refl w.heap.size w).alloc (Nat.le_refl _) (.cells #[.int .i64 1, .int .i64 (n : Int), .int .i64 (r : Int), .slice aa 0 cc] 45)
  have x1 := heap_alloc_new w (.cells #[.int .i64 1, .int .i64 (n : Int), .int .i64 (r : Int), .slice aa 0 cc] 45)
  obtain ⟨w1, hw1⟩ : ∃ w1, w.alloc (.cells #[.int .i64 1, .int .i64 (n : Int), .int .i64 (r : Int), .slice aa 0 cc] 45) = w1 := ⟨_, rfl⟩
  rw [hw1] at b1 x1
  obtain ⟨c0, c1, c2, c3⟩ := rec_reads x1
  have HLe := Lib.hid (rptleast_any a len cap us w1 hlen (hr.below b1) (fun t h => (hu t h).2))
  have hml : leastR us ≤ 65535 := by
    unfold leastR
    split
    · omega
    · exact least_le us
  have g1 : ¬ (e : Int) < 1 := by omega
  have g2 : ¬ (s.length : Int) < (e : Int) := by omega
  have g1d : decide ((e : Int) < 1) = false := decide_eq_false g1
  have g2d : decide ((s.length : Int) < (e : Int)) = false := decide_eq_false g2
  have hmx : Tryz.prog.follows .mixedOrders = true := by kernel_rfl
  rw [hee] at hnf
  have G1 := regrown_at (w := w1) (fun W hW => rbare_any (.int .i64 1) (.int .i64 (n : Int)) (.int .i64 (r : Int)) aa 0 cc true rfl ⟨_, rfl⟩ ⟨_, rfl⟩ ⟨_, rfl⟩ W)
  have G2 := regrown_at (w := w1) (fun W hW => rshfirst_any a len cap (byN s ie) us W hlen ((hr.below b1).below hW) (fun t h => (hu t h).2))
  have k0 := cell_regrown c0
  have k1 := cell_regrown c1
  have k2 := cell_regrown c2
  have k3 := cell_regrown c3
  generalize fstL us (byN s ie) = f at G2 hnf
  generalize leastR us = m at HLe hml hnm
  generalize byN s ie = c at *
  have u1 : (1 : Int) ≤ (n : Int) := by omega
  have u2 : (n : Int) ≤ (m : Int) := by omega
  have u3 : (n : Int) ≤ (f : Int) := by omega
  have u1d : decide ((1 : Int) ≤ (n : Int)) = true := decide_eq_true u1
  have u2d : decide ((n : Int) ≤ (m : Int)) = true := decide_eq_true u2
  have u3d : decide ((n : Int) ≤ (f : Int)) = true := decide_eq_true u3
  clear hr hu hie hee hn hnm hnf
  go_enter Tryz.func15, Tryz.ntmps15
  go_wp2_with fail
  refine HLe.out.mono ?_
  rintro E w' ⟨rfl, hw'⟩
  obtain rfl := hw'.symm
  go_wp2_with fail
  refine wp_region_quiet_below hmx (by kernel_rfl) ?_
  repeat (go_big_quiet_step (first | with_reducible exact G1 _ _ | with_reducible exact G2 _ _))
  refine wpQuiet_nil ?_
  intro W6 hw6
  obtain ⟨⟨dq, osq⟩, rfl⟩ := hw6
  have b6 := b1.trans ((below_regrown w1 dq osq).mono b1.size)
  generalize Go.Sort.grow (redrawn w1 dq) osq = w6 at b6 ⊢
  go_wp2
  go_ret
  exact ⟨rfl, b6⟩

set_option maxRecDepth 100000 in
set_option maxHeartbeats 4000000 in
theorem rholds_leap (a : Option Addr) (len cap : Nat) (us : List (List UInt8)) (s : List UInt8) (e : Nat) (w : World) (hlen : len ≤ 1000000) (hr : IsStrs w a len us) (hu : ∀ t ∈ us, 0 < t.length ∧ t.length ≤ 65535) (hs : s.length ≤ 1000000) (he : 0 < e) (hes : e ≤ s.length) (aa : Option Addr) (cc : Nat) (n r : Nat) (h2 : 2 ≤ e) (hn : 0 < n) (hnm : n ≤ farL us) (hnf : n ≤ nearL us (prS s e)) :
    Calls Tryz.prog 15 #[.slice a len cap, .string ⟨s.toArray⟩, .int .i64 (e : Int), .agg #[.int .i64 2, .int .i64 (n : Int), .int .i64 (r : Int), .slice aa 0 cc]] w fun E w' => E = .returned (.bool true) ∧ Below w.heap.size w w' := by
  have S2 := Lib.hid (bsize s)
  have hwl := hr.1
  obtain ⟨ie, hie⟩ : ∃ ie, ie + 1 = e := ⟨e - 1, by omega⟩
  have we : IntKind.i64.wrap ((e : Int) - 1) = (ie : Int) := by rw [IntKind.wrap_i64]; omega
  have hel : ie < s.length := by omega
  have hez : ie < (⟨s.toArray⟩ : ByteArray).size := by rw [bsize]; omega
  have hqe := byN_at s hel hez
  have hy := byN_lt s ie
  have hee : e - 1 = ie := by omega
  have b1 := (Below.refl w.heap.size w).alloc (Nat.le_refl _) (.cells #[.int .i64 2, .int .i64 (n : Int), .int .i64 (r : Int), .slice aa 0 cc] 45)
  have x1 := heap_alloc_new w (.cells #[.int .i64 2, .int .i64 (n : Int), .int .i64 (r : Int), .slice aa 0 cc] 45)
  obtain ⟨w1, hw1⟩ : ∃ w1, w.alloc (.cells #[.int .i64 2, .int .i64 (n : Int), .int .i64 (r : Int), .slice aa 0 cc] 45) = w1 := ⟨_, rfl⟩
  rw [hw1] at b1 x1
  obtain ⟨c0, c1, c2, c3⟩ := rec_reads x1
  have HLe := Lib.hid (rptleast_any a len cap us w1 hlen (hr.below b1) (fun t h => (hu t h).2))
  have hml : leastR us ≤ 65535 := by
    unfold leastR
    split
    · omega
    · exact least_le us
  have g1 : ¬ (e : Int) < 1 := by omega
  have g2 : ¬ (s.length : Int) < (e : Int) := by omega
  have g1d : decide ((e : Int) < 1) = false := decide_eq_false g1
  have g2d : decide ((s.length : Int) < (e : Int)) = false := decide_eq_false g2
  have hmx : Tryz.prog.follows .mixedOrders = true := by kernel_rfl
  have hpr : prS s e = two (byN s (e - 2)) (byN s ie) := by unfold prS; rw [hee]
  obtain ⟨ix, hix⟩ : ∃ ix, ix + 2 = e := ⟨e - 2, by omega⟩
  have wx : IntKind.i64.wrap ((e : Int) - 2) = (ix : Int) := by rw [IntKind.wrap_i64]; omega
  have hxl : ix < s.length := by omega
  have hxz : ix < (⟨s.toArray⟩ : ByteArray).size := by rw [bsize]; omega
  have hqx := byN_at s hxl hxz
  have hx := byN_lt s ix
  rw [show e - 2 = ix by omega] at hpr
  rw [hpr] at hnf
  have hfl : farL us = leastR us - 1 := rfl
  have G1 := regrown_at (w := w1) (fun W hW => rbare_any (.int .i64 2) (.int .i64 (n : Int)) (.int .i64 (r : Int)) aa 0 cc true rfl ⟨_, rfl⟩ ⟨_, rfl⟩ ⟨_, rfl⟩ W)
  have G2 := regrown_at (w := w1) (fun W hW => (rnear_any a len cap (byN s ix) (byN s ie) us W hlen ((hr.below b1).below hW) (fun t h => (hu t h).2) hx hy).mono fun E w' h => ⟨h.1, by rw [h.2]; exact Below.refl _ _⟩)
  have k0 := cell_regrown c0
  have k1 := cell_regrown c1
  have k2 := cell_regrown c2
  have k3 := cell_regrown c3
  generalize nearL us (two (byN s ix) (byN s ie)) = f at G2 hnf
  rw [hfl] at hnm
  generalize leastR us = m at HLe hml hnm
  generalize byN s ie = c at *
  generalize byN s ix = bx at *
  have u0 : (2 : Int) ≤ (e : Int) := by omega
  have u1 : (1 : Int) ≤ (n : Int) := by omega
  have wm : IntKind.i64.wrap ((m : Int) - 1) = (m : Int) - 1 := by rw [IntKind.wrap_i64]; omega
  have u2 : (n : Int) ≤ (m : Int) - 1 := by omega
  have u3 : (n : Int) ≤ (f : Int) := by omega
  have u0d : decide ((2 : Int) ≤ (e : Int)) = true := decide_eq_true u0
  have u1d : decide ((1 : Int) ≤ (n : Int)) = true := decide_eq_true u1
  have u2d : decide ((n : Int) ≤ (m : Int) - 1) = true := decide_eq_true u2
  have u3d : decide ((n : Int) ≤ (f : Int)) = true := decide_eq_true u3
  clear hr hu hie hee hn hnm hnf hix hpr hfl
  go_enter Tryz.func15, Tryz.ntmps15
  go_wp2_with fail
  refine HLe.out.mono ?_
  rintro E w' ⟨rfl, hw'⟩
  obtain rfl := hw'.symm
  go_wp2_with fail
  refine wp_region_quiet_below hmx (by kernel_rfl) ?_
  repeat (go_big_quiet_step (first | with_reducible exact G1 _ _ | with_reducible exact G2 _ _))
  refine wpQuiet_nil ?_
  intro W6 hw6
  obtain ⟨⟨dq, osq⟩, rfl⟩ := hw6
  have b6 := b1.trans ((below_regrown w1 dq osq).mono b1.size)
  generalize Go.Sort.grow (redrawn w1 dq) osq = w6 at b6 ⊢
  go_wp2
  go_ret
  exact ⟨rfl, b6⟩

set_option maxRecDepth 100000 in
set_option maxHeartbeats 4000000 in
theorem rholds_miss (a : Option Addr) (len cap : Nat) (us : List (List UInt8)) (s : List UInt8) (e : Nat) (w : World) (hlen : len ≤ 1000000) (hr : IsStrs w a len us) (hu : ∀ t ∈ us, 0 < t.length ∧ t.length ≤ 65535) (hs : s.length ≤ 1000000) (he : 0 < e) (hes : e ≤ s.length) (aa : Option Addr) (cc : Nat) (n r : Nat) (hn : 0 < n) (hn2 : n ≤ 1000000) (hms : msB us s e n = true) :
    Calls Tryz.prog 15 #[.slice a len cap, .string ⟨s.toArray⟩, .int .i64 (e : Int), .agg #[.int .i64 3, .int .i64 (n : Int), .int .i64 (r : Int), .slice aa 0 cc]] w fun E w' => E = .returned (.bool true) ∧ Below w.heap.size w w' := by
  have S2 := Lib.hid (bsize s)
  have hwl := hr.1
  obtain ⟨ie, hie⟩ : ∃ ie, ie + 1 = e := ⟨e - 1, by omega⟩
  have we : IntKind.i64.wrap ((e : Int) - 1) = (ie : Int) := by rw [IntKind.wrap_i64]; omega
  have hel : ie < s.length := by omega
  have hez : ie < (⟨s.toArray⟩ : ByteArray).size := by rw [bsize]; omega
  have hqe := byN_at s hel hez
  have hy := byN_lt s ie
  have hee : e - 1 = ie := by omega
  have b1 := (Below.refl w.heap.size w).alloc (Nat.le_refl _) (.cells #[.int .i64 3, .int .i64 (n : Int), .int .i64 (r : Int), .slice aa 0 cc] 45)
  have x1 := heap_alloc_new w (.cells #[.int .i64 3, .int .i64 (n : Int), .int .i64 (r : Int), .slice aa 0 cc] 45)
  obtain ⟨w1, hw1⟩ : ∃ w1, w.alloc (.cells #[.int .i64 3, .int .i64 (n : Int), .int .i64 (r : Int), .slice aa 0 cc] 45) = w1 := ⟨_, rfl⟩
  rw [hw1] at b1 x1
  obtain ⟨c0, c1, c2, c3⟩ := rec_reads x1
  have HLe := Lib.hid (rptleast_any a len cap us w1 hlen (hr.below b1) (fun t h => (hu t h).2))
  have hml : leastR us ≤ 65535 := by
    unfold leastR
    split
    · omega
    · exact least_le us
  have g1 : ¬ (e : Int) < 1 := by omega
  have g2 : ¬ (s.length : Int) < (e : Int) := by omega
  have g1d : decide ((e : Int) < 1) = false := decide_eq_false g1
  have g2d : decide ((s.length : Int) < (e : Int)) = false := decide_eq_false g2
  have hmx : Tryz.prog.follows .mixedOrders = true := by kernel_rfl
  have HBa := Lib.hid (fun W => rbare_any (.int .i64 3) (.int .i64 (n : Int)) (.int .i64 (r : Int)) aa 0 cc true rfl ⟨_, rfl⟩ ⟨_, rfl⟩ ⟨_, rfl⟩ W)
  have HMs := Lib.hid (fun (W : World) (hW : Below w1.heap.size w1 W) => rmissed_any a len cap us s e n W hlen ((hr.below b1).below hW) (fun t h => ⟨(hu t h).1, by have := (hu t h).2; omega⟩) hs he hes hn2)
  rw [hms] at HMs
  have HC : Hid (∀ W, Below w1.heap.size w1 W → W.cell? ⟨w.heap.size, 1, none⟩ = some (.int .i64 (n : Int))) := Lib.hid (fun W hW => (hW.cell (p := ⟨w.heap.size, 1, none⟩) (heap_lt x1)).trans c1)
  have u1 : (1 : Int) ≤ (n : Int) := by omega
  clear hr hu hie hee hn hms x1
  go_enter Tryz.func15, Tryz.ntmps15
  go_wp2_with fail
  refine HLe.out.mono ?_
  rintro E w' ⟨rfl, hw'⟩
  obtain rfl := hw'.symm
  go_wp2_with fail
  refine (HBa.out _).mono ?_
  rintro E w2 ⟨rfl, hb2⟩
  have cc1 := HC.out w2 hb2
  have d2 := b1.trans (hb2.mono b1.size)
  go_wp2_with fail
  refine (HMs.out _ hb2).mono ?_
  rintro E w3 ⟨rfl, hb3⟩
  have d3 := d2.trans (hb3.mono d2.size)
  go_wp2
  go_ret
  exact ⟨rfl, d3⟩

set_option maxRecDepth 100000 in
set_option maxHeartbeats 4000000 in
theorem rholds_at (a : Option Addr) (len cap : Nat) (us : List (List UInt8)) (s : List UInt8) (e : Nat) (w : World) (hlen : len ≤ 1000000) (hr : IsStrs w a len us) (hu : ∀ t ∈ us, 0 < t.length ∧ t.length ≤ 65535) (hs : s.length ≤ 1000000) (he : 0 < e) (hes : e ≤ s.length) (aa : Option Addr) (cc : Nat) (ids : List Int) (hid : idsK us s e us.length = ids) (hrow : IsRow .i64 w aa ids.length ids.length ids) :
    Calls Tryz.prog 15 #[.slice a len cap, .string ⟨s.toArray⟩, .int .i64 (e : Int), .agg #[.int .i64 4, .int .i64 0, .int .i64 0, .slice aa ids.length cc]] w fun E w' => E = .returned (.bool true) ∧ Below w.heap.size w w' := by
  have S2 := Lib.hid (bsize s)
  have hwl := hr.1
  obtain ⟨ie, hie⟩ : ∃ ie, ie + 1 = e := ⟨e - 1, by omega⟩
  have we : IntKind.i64.wrap ((e : Int) - 1) = (ie : Int) := by rw [IntKind.wrap_i64]; omega
  have hel : ie < s.length := by omega
  have hez : ie < (⟨s.toArray⟩ : ByteArray).size := by rw [bsize]; omega
  have hqe := byN_at s hel hez
  have hy := byN_lt s ie
  have hee : e - 1 = ie := by omega
  have b1 := (Below.refl w.heap.size w).alloc (Nat.le_refl _) (.cells #[.int .i64 4, .int .i64 0, .int .i64 0, .slice aa ids.length cc] 45)
  have x1 := heap_alloc_new w (.cells #[.int .i64 4, .int .i64 0, .int .i64 0, .slice aa ids.length cc] 45)
  obtain ⟨w1, hw1⟩ : ∃ w1, w.alloc (.cells #[.int .i64 4, .int .i64 0, .int .i64 0, .slice aa ids.length cc] 45) = w1 := ⟨_, rfl⟩
  rw [hw1] at b1 x1
  obtain ⟨c0, c1, c2, c3⟩ := rec_reads x1
  have HLe := Lib.hid (rptleast_any a len cap us w1 hlen (hr.below b1) (fun t h => (hu t h).2))
  have hml : leastR us ≤ 65535 := by
    unfold leastR
    split
    · omega
    · exact least_le us
  have g1 : ¬ (e : Int) < 1 := by omega
  have g2 : ¬ (s.length : Int) < (e : Int) := by omega
  have g1d : decide ((e : Int) < 1) = false := decide_eq_false g1
  have g2d : decide ((s.length : Int) < (e : Int)) = false := decide_eq_false g2
  have hmx : Tryz.prog.follows .mixedOrders = true := by kernel_rfl
  have hil : ids.length ≤ us.length := by rw [← hid]; exact ids_length us s e _
  have HAt := Lib.hid (fun (W : World) (hW : Below w1.heap.size w1 W) => rat_any a len cap us s (e : Int) W hlen ((hr.below b1).below hW) (fun t h => by have := (hu t h).2; omega) hs (by omega))
  rw [atZ_in hes, hid] at HAt
  have HR1 := Lib.hid (hrow.below b1)
  clear hr hu hie hee hid hrow
  go_enter Tryz.func15, Tryz.ntmps15
  go_wp2_with fail
  refine HLe.out.mono ?_
  rintro E w' ⟨rfl, hw'⟩
  obtain rfl := hw'.symm
  have hlt1 := heap_lt x1
  have HD1 : Hid (Below w1.heap.size w1 w1.drew) := Lib.hid (Below.refl _ _).drew
  have HLt := Lib.hid hlt1
  have HC0 := Lib.hid c0
  have HC1 := Lib.hid c1
  have HC3 := Lib.hid c3
  have HB1 := Lib.hid b1
  clear x1 hlt1 c2
  go_wp2_with fail
  have DA := Lib.hid (Below.refl w1.heap.size w1)
  have HC5 : Hid (∀ W, Below w1.heap.size w1 W → W.cell? ⟨w.heap.size, 0, none⟩ = some (.int .i64 4) ∧ W.cell? ⟨w.heap.size, 1, none⟩ = some (.int .i64 0) ∧ W.cell? ⟨w.heap.size, 3, none⟩ = some (.slice aa ids.length cc)) := Lib.hid (fun W hW => ⟨(hW.cell (p := ⟨w.heap.size, 0, none⟩) HLt.out).trans HC0.out, (hW.cell (p := ⟨w.heap.size, 1, none⟩) HLt.out).trans HC1.out, (hW.cell (p := ⟨w.heap.size, 3, none⟩) HLt.out).trans HC3.out⟩)
  go_region_held3 (fun w' => w'.cell? ⟨w.heap.size, 0, none⟩ = some (.int .i64 4) ∧ w'.cell? ⟨w.heap.size, 1, none⟩ = some (.int .i64 0) ∧ w'.cell? ⟨w.heap.size, 3, none⟩ = some (.slice aa ids.length cc)) (first | with_reducible exact HC5.out _ DA.out | with_reducible exact HC5.out _ DA.out.drew) (first
    | (go_at_call 40
       refine (HAt.out _ (by first | with_reducible exact DA.out | with_reducible exact DA.out.drew)).mono ?_
       rintro E w3 ⟨v3, rfl, hown, hb3⟩
       obtain ⟨a3, cap3, rfl, hrow3⟩ := row_of_ints hown (by unfold maxLen; omega)
       have DA : Hid (Below w1.heap.size w1 w3) := Lib.hid (Below.trans (by first | with_reducible exact DA.out | with_reducible exact DA.out.drew) (hb3.mono (Below.size (by first | with_reducible exact DA.out | with_reducible exact DA.out.drew))))
       have HSm := Lib.hid (isame_any aa a3 ids.length cc cap3 ids.length ids.length ids w3 (by omega) (HR1.out.below DA.out) hrow3)
       clear hown hrow3 hb3)
    | (go_at_call 39
       refine HSm.out.mono ?_
       rintro E w4 ⟨rfl, hb5⟩
       have DA : Hid (Below w1.heap.size w1 w4) := Lib.hid (DA.out.trans (hb5.mono DA.out.size))
       clear hb5))
  all_goals
    have HF := Lib.hid (HB1.out.trans (DA.out.mono HB1.out.size))
    go_simp
    go_wp2
    go_ret
    exact ⟨rfl, HF.out⟩
end Go.Proofs.YtmgcdhcidojdhaaGreat
