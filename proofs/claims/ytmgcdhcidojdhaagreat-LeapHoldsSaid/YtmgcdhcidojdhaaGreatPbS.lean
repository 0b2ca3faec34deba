/-
  The document's own answers for layer 24: Jump, Of, Same, bare, Covers: walked.
-/
import Derived.Test.YtmgcdhcidojdhaaGreatPbR
import Derived.Test.YtmgcdhcidojdhaaGreatBn14
set_option linter.unusedSimpArgs false
set_option linter.unusedVariables false
namespace Go.Proofs.YtmgcdhcidojdhaaGreat
open Go.RowKit

set_option maxRecDepth 100000 in
set_option maxHeartbeats 4000000 in
theorem rjump_one (a : Option Addr) (len cap : Nat) (us : List (List UInt8)) (s : List UInt8) (e : Nat) (w : World) (hlen : len ≤ 1000000) (hr : IsStrs w a len us) (hu : ∀ t ∈ us, t.length ≤ 65535) (hs : s.length ≤ 1000000) (he : 0 < e) (hes : e ≤ s.length) (h2 : ¬ 2 ≤ e) :
    Calls Tryz.prog 56 #[.slice a len cap, .string ⟨s.toArray⟩, .int .i64 (e : Int)] w (RetE (jmpR us s e) w) := by
  have HJ := Lib.hid (jmp_cases us s e)
  have S2 := Lib.hid (bsize s)
  obtain ⟨ie, hie⟩ : ∃ ie, ie + 1 = e := ⟨e - 1, by omega⟩
  have we : IntKind.i64.wrap ((e : Int) - 1) = (ie : Int) := by rw [IntKind.wrap_i64]; omega
  have hel : ie < s.length := by omega
  have hez : ie < (⟨s.toArray⟩ : ByteArray).size := by rw [bsize]; omega
  have hqe := byN_at s hel hez
  have hy := byN_lt s ie
  have hB1 := (Below.refl w.heap.size w).alloc (Nat.le_refl _) (.cells #[.int .i64 0, .int .i64 0, .int .i64 0, .slice none 0 0] 45)
  have hX := heap_alloc_new w (.cells #[.int .i64 0, .int .i64 0, .int .i64 0, .slice none 0 0] 45)
  have HS := Lib.hid (fun (W : World) (hW : Below w.heap.size w W) => rshfirst_any a len cap (byN s ie) us W hlen (hr.below hW) hu)
  have htw : twoN us s e = 0 := if_neg h2
  rw [htw] at HJ
  have g0 : ¬ (2 : Int) ≤ (e : Int) := by omega
  rw [show e - 1 = ie by omega] at HJ
  clear hr hu htw hie h2
  generalize jmpR us s e = R at *
  generalize fstL us (byN s ie) = one at *
  generalize byN s ie = c at *
  go_enter Tryz.func56, Tryz.ntmps56
  go_wp2_with fail
  refine (HS.out _ hB1).mono ?_
  rintro E W2 ⟨rfl, hb2⟩
  have d2 := hB1.trans (hb2.mono hB1.size)
  have HX2 := (hb2.block _ (heap_lt hX)).trans hX
  clear HS hb2 hX hB1
  obtain ⟨f0, f1, f2, f3⟩ := rec_free HX2
  obtain ⟨k0, k1, k2, k3⟩ := rec_reads HX2
  generalize hr : w.heap.size = r at *
  rcases HJ.out with ⟨q1, hR⟩ | ⟨q1, q2, hR⟩ | ⟨q1, q2, hR⟩
  · exact absurd q1 (Nat.not_lt_zero _)
  · have HR := Lib.hid hR
    have g1 : ¬ (one : Int) < 0 := by omega
    have g2 : (0 : Int) < (one : Int) := by omega
    clear HJ hR
    have hfin := put_rec HX2 (.int .i64 1) (.int .i64 (one : Int)) (.int .i64 1) (.slice none 0 0)
    have hbe := below_rec d2 (Nat.le_refl _) (.int .i64 1) (.int .i64 (one : Int)) (.int .i64 1) (.slice none 0 0)
    clear HX2 d2
    go_wp2
    generalize (((W2.setCell ⟨r, 0, none⟩ (.int .i64 1)).setCell ⟨r, 1, none⟩ (.int .i64 (one : Int))).setCell ⟨r, 2, none⟩ (.int .i64 1)).setCell ⟨r, 3, none⟩ (.slice none 0 0) = w3 at *
    obtain ⟨j0, j1, j2, j3⟩ := rec_reads hfin
    refine bodyPost_ret (v := .agg #[.int .i64 1, .int .i64 (one : Int), .int .i64 1, .slice none 0 0]) (by simp [results, Tryz.results56, go_sem, j0, j1, j2, j3]) rfl ?_
    exact jmp_end HR.out (by rw [hr]; exact hbe)
  · have HR := Lib.hid hR
    subst q2
    clear HJ hR
    have hfin := put_rec HX2 (.int .i64 0) (.int .i64 0) (.int .i64 0) (.slice none 0 0)
    have hbe := below_rec d2 (Nat.le_refl _) (.int .i64 0) (.int .i64 0) (.int .i64 0) (.slice none 0 0)
    clear HX2 d2
    go_wp2
    generalize (((W2.setCell ⟨r, 0, none⟩ (.int .i64 0)).setCell ⟨r, 1, none⟩ (.int .i64 0)).setCell ⟨r, 2, none⟩ (.int .i64 0)).setCell ⟨r, 3, none⟩ (.slice none 0 0) = w3 at *
    obtain ⟨j0, j1, j2, j3⟩ := rec_reads hfin
    refine bodyPost_ret (v := .agg #[.int .i64 0, .int .i64 0, .int .i64 0, .slice none 0 0]) (by simp [results, Tryz.results56, go_sem, j0, j1, j2, j3]) rfl ?_
    exact jmp_end HR.out (by rw [hr]; exact hbe)

set_option maxRecDepth 100000 in
set_option maxHeartbeats 4000000 in
theorem rjump_two (a : Option Addr) (len cap : Nat) (us : List (List UInt8)) (s : List UInt8) (e : Nat) (w : World) (hlen : len ≤ 1000000) (hr : IsStrs w a len us) (hu : ∀ t ∈ us, t.length ≤ 65535) (hs : s.length ≤ 1000000) (he : 0 < e) (hes : e ≤ s.length) (h2 : 2 ≤ e) :
    Calls Tryz.prog 56 #[.slice a len cap, .string ⟨s.toArray⟩, .int .i64 (e : Int)] w (RetE (jmpR us s e) w) := by
  have HJ := Lib.hid (jmp_cases us s e)
  have S2 := Lib.hid (bsize s)
  obtain ⟨ie, hie⟩ : ∃ ie, ie + 1 = e := ⟨e - 1, by omega⟩
  have we : IntKind.i64.wrap ((e : Int) - 1) = (ie : Int) := by rw [IntKind.wrap_i64]; omega
  have hel : ie < s.length := by omega
  have hez : ie < (⟨s.toArray⟩ : ByteArray).size := by rw [bsize]; omega
  have hqe := byN_at s hel hez
  have hy := byN_lt s ie
  have hB1 := (Below.refl w.heap.size w).alloc (Nat.le_refl _) (.cells #[.int .i64 0, .int .i64 0, .int .i64 0, .slice none 0 0] 45)
  have hX := heap_alloc_new w (.cells #[.int .i64 0, .int .i64 0, .int .i64 0, .slice none 0 0] 45)
  have HS := Lib.hid (fun (W : World) (hW : Below w.heap.size w W) => rshfirst_any a len cap (byN s ie) us W hlen (hr.below hW) hu)
  obtain ⟨ix, hix⟩ : ∃ ix, ix + 2 = e := ⟨e - 2, by omega⟩
  have wx : IntKind.i64.wrap ((e : Int) - 2) = (ix : Int) := by rw [IntKind.wrap_i64]; omega
  have hxl : ix < s.length := by omega
  have hxz : ix < (⟨s.toArray⟩ : ByteArray).size := by rw [bsize]; omega
  have hqx := byN_at s hxl hxz
  have hx := byN_lt s ix
  have htw : twoN us s e = nearL us (two (byN s ix) (byN s ie)) := by
    unfold twoN prS
    rw [if_pos h2, show e - 2 = ix by omega, show e - 1 = ie by omega]
  have HN := Lib.hid (fun (W : World) (hW : Below w.heap.size w W) => rnear_any a len cap (byN s ix) (byN s ie) us W hlen (hr.below hW) hu hx hy)
  rw [htw] at HJ
  have g0 : (2 : Int) ≤ (e : Int) := by omega
  generalize nearL us (two (byN s ix) (byN s ie)) = two at *
  generalize byN s ix = bx at *
  rw [show e - 1 = ie by omega] at HJ
  clear hr hu htw hix hie h2
  generalize jmpR us s e = R at *
  generalize fstL us (byN s ie) = one at *
  generalize byN s ie = c at *
  go_enter Tryz.func56, Tryz.ntmps56
  go_wp2_with fail
  refine (HS.out _ hB1).mono ?_
  rintro E w2 ⟨rfl, hb2⟩
  have d2 := hB1.trans (hb2.mono hB1.size)
  have HX2 := (hb2.block _ (heap_lt hX)).trans hX
  clear HS hb2 hX hB1
  have HQ : Hid (∀ q, Calls Tryz.prog 37 #[.slice a len cap, .int .u8 (bx : Int), .int .u8 (c : Int)] (w2.drewN q) fun en w' => en = .returned (.int .i64 (two : Int)) ∧ w' = w2.drewN q) :=
    Lib.hid (fun q => HN.out (w2.drewN q) (below_drewS d2 q))
  go_wp2_with fail
  go_quiet (with_reducible exact Calls.quiet_of_same (HQ.out _))
  have d2 := below_drewS d2 nq
  have HX2 : (w2.drewN nq).heap[w.heap.size]? = some (.cells #[.int .i64 0, .int .i64 0, .int .i64 0, .slice none 0 0] 45 (0, 0)) := HX2
  clear HQ HN
  generalize w2.drewN nq = W2 at d2 HX2 ⊢
  obtain ⟨f0, f1, f2, f3⟩ := rec_free HX2
  obtain ⟨k0, k1, k2, k3⟩ := rec_reads HX2
  generalize hr : w.heap.size = r at *
  rcases HJ.out with ⟨q1, hR⟩ | ⟨q1, q2, hR⟩ | ⟨q1, q2, hR⟩
  · have HR := Lib.hid hR
    have g1 : (one : Int) < (two : Int) := by omega
    clear HJ hR
    have hfin := put_rec HX2 (.int .i64 2) (.int .i64 (two : Int)) (.int .i64 1) (.slice none 0 0)
    have hbe := below_rec d2 (Nat.le_refl _) (.int .i64 2) (.int .i64 (two : Int)) (.int .i64 1) (.slice none 0 0)
    clear HX2 d2
    go_wp2
    generalize (((W2.setCell ⟨r, 0, none⟩ (.int .i64 2)).setCell ⟨r, 1, none⟩ (.int .i64 (two : Int))).setCell ⟨r, 2, none⟩ (.int .i64 1)).setCell ⟨r, 3, none⟩ (.slice none 0 0) = w3 at *
    obtain ⟨j0, j1, j2, j3⟩ := rec_reads hfin
    refine bodyPost_ret (v := .agg #[.int .i64 2, .int .i64 (two : Int), .int .i64 1, .slice none 0 0]) (by simp [results, Tryz.results56, go_sem, j0, j1, j2, j3]) rfl ?_
    exact jmp_end HR.out (by rw [hr]; exact hbe)
  · have HR := Lib.hid hR
    have g1 : ¬ (one : Int) < (two : Int) := by omega
    have g2 : (0 : Int) < (one : Int) := by omega
    clear HJ hR
    have hfin := put_rec HX2 (.int .i64 1) (.int .i64 (one : Int)) (.int .i64 1) (.slice none 0 0)
    have hbe := below_rec d2 (Nat.le_refl _) (.int .i64 1) (.int .i64 (one : Int)) (.int .i64 1) (.slice none 0 0)
    clear HX2 d2
    go_wp2
    generalize (((W2.setCell ⟨r, 0, none⟩ (.int .i64 1)).setCell ⟨r, 1, none⟩ (.int .i64 (one : Int))).setCell ⟨r, 2, none⟩ (.int .i64 1)).setCell ⟨r, 3, none⟩ (.slice none 0 0) = w3 at *
    obtain ⟨j0, j1, j2, j3⟩ := rec_reads hfin
    refine bodyPost_ret (v := .agg #[.int .i64 1, .int .i64 (one : Int), .int .i64 1, .slice none 0 0]) (by simp [results, Tryz.results56, go_sem, j0, j1, j2, j3]) rfl ?_
    exact jmp_end HR.out (by rw [hr]; exact hbe)
  · have HR := Lib.hid hR
    subst q2
    have q3 : two = 0 := by omega
    subst q3
    clear HJ hR
    have hfin := put_rec HX2 (.int .i64 0) (.int .i64 0) (.int .i64 0) (.slice none 0 0)
    have hbe := below_rec d2 (Nat.le_refl _) (.int .i64 0) (.int .i64 0) (.int .i64 0) (.slice none 0 0)
    clear HX2 d2
    go_wp2
    generalize (((W2.setCell ⟨r, 0, none⟩ (.int .i64 0)).setCell ⟨r, 1, none⟩ (.int .i64 0)).setCell ⟨r, 2, none⟩ (.int .i64 0)).setCell ⟨r, 3, none⟩ (.slice none 0 0) = w3 at *
    obtain ⟨j0, j1, j2, j3⟩ := rec_reads hfin
    refine bodyPost_ret (v := .agg #[.int .i64 0, .int .i64 0, .int .i64 0, .slice none 0 0]) (by simp [results, Tryz.results56, go_sem, j0, j1, j2, j3]) rfl ?_
    exact jmp_end HR.out (by rw [hr]; exact hbe)

theorem rjump_any (a : Option Addr) (len cap : Nat) (us : List (List UInt8)) (s : List UInt8) (e : Nat) (w : World) (hlen : len ≤ 1000000) (hr : IsStrs w a len us) (hu : ∀ t ∈ us, t.length ≤ 65535) (hs : s.length ≤ 1000000) (he : 0 < e) (hes : e ≤ s.length) :
    Calls Tryz.prog 56 #[.slice a len cap, .string ⟨s.toArray⟩, .int .i64 (e : Int)] w (RetE (jmpR us s e) w) := by
  by_cases h2 : 2 ≤ e
  · exact rjump_two a len cap us s e w hlen hr hu hs he hes h2
  · exact rjump_one a len cap us s e w hlen hr hu hs he hes h2

set_option maxRecDepth 100000 in
set_option maxHeartbeats 1000000 in
theorem rbare_any (k n r : Value) (a : Option Addr) (L ca : Nat) (β : Bool) (hL : decide (L = 0) = β) (hk : ∃ i, k = .int .i64 i) (hn : ∃ i, n = .int .i64 i) (hr : ∃ i, r = .int .i64 i) (w : World) :
    Calls Tryz.prog 35 #[.agg #[k, n, r, .slice a L ca]] w fun e w' => e = .returned (.bool β) ∧ Below w.heap.size w w' := by
  obtain ⟨k, rfl⟩ := hk
  obtain ⟨n, rfl⟩ := hn
  obtain ⟨r, rfl⟩ := hr
  have hX := heap_alloc_new w (.cells #[.int .i64 k, .int .i64 n, .int .i64 r, .slice a L ca] 45)
  obtain ⟨c0, c1, c2, c3⟩ := rec_reads hX
  have HB : Hid (Below w.heap.size w (w.alloc (.cells #[.int .i64 k, .int .i64 n, .int .i64 r, .slice a L ca] 45))) := Lib.hid ((Below.refl _ _).alloc (Nat.le_refl _) _)
  have g1 : ((L : Int) == 0) = β := by
    rw [← hL, Bool.eq_iff_iff, beq_iff_eq, decide_eq_true_eq]; omega
  clear hX hL
  go_enter Tryz.func35, Tryz.ntmps35
  go_wp2
  go_ret
  exact ⟨rfl, HB.out⟩

set_option maxRecDepth 100000 in
set_option maxHeartbeats 1000000 in
theorem rcov_any (k n r : Int) (v : Value) (hv : ∃ a len cap, v = .slice a len cap) (w : World) :
    Calls Tryz.prog 16 #[.agg #[.int .i64 k, .int .i64 n, .int .i64 r, v]] w fun e w' => e = .returned (.int .i64 (covZ k n)) ∧ Below w.heap.size w w' := by
  obtain ⟨a, len, cap, rfl⟩ := hv
  have hX := heap_alloc_new w (.cells #[.int .i64 k, .int .i64 n, .int .i64 r, .slice a len cap] 45)
  obtain ⟨c0, c1, c2, c3⟩ := rec_reads hX
  have HB : Hid (Below w.heap.size w (w.alloc (.cells #[.int .i64 k, .int .i64 n, .int .i64 r, .slice a len cap] 45))) := Lib.hid ((Below.refl _ _).alloc (Nat.le_refl _) _)
  clear hX
  by_cases h1 : k = 1
  · subst h1
    by_cases hn : n < 0
    · have HC : Hid (covZ 1 n = 0) := Lib.hid (by simp [covZ]; omega)
      go_enter Tryz.func16, Tryz.ntmps16
      go_wp2
      go_ret
      exact ⟨by rw [HC.out]; rfl, HB.out⟩
    · have HC : Hid (covZ 1 n = n) := Lib.hid (by simp [covZ]; omega)
      go_enter Tryz.func16, Tryz.ntmps16
      go_wp2
      go_ret
      exact ⟨by rw [HC.out]; rfl, HB.out⟩
  · skip
    by_cases h2 : k = 2
    · subst h2
      by_cases hn : n < 0
      · have HC : Hid (covZ 2 n = 0) := Lib.hid (by simp [covZ]; omega)
        go_enter Tryz.func16, Tryz.ntmps16
        go_wp2
        go_ret
        exact ⟨by rw [HC.out]; rfl, HB.out⟩
      · have HC : Hid (covZ 2 n = n) := Lib.hid (by simp [covZ]; omega)
        go_enter Tryz.func16, Tryz.ntmps16
        go_wp2
        go_ret
        exact ⟨by rw [HC.out]; rfl, HB.out⟩
    · skip
      by_cases h3 : k = 3
      · subst h3
        have HC : Hid (covZ 3 n = 1) := Lib.hid (by simp [covZ])
        go_enter Tryz.func16, Tryz.ntmps16
        go_wp2
        go_ret
        exact ⟨by rw [HC.out]; rfl, HB.out⟩
      · skip
        by_cases h4 : k = 4
        · subst h4
          have HC : Hid (covZ 4 n = 1) := Lib.hid (by simp [covZ])
          go_enter Tryz.func16, Tryz.ntmps16
          go_wp2
          go_ret
          exact ⟨by rw [HC.out]; rfl, HB.out⟩
        · skip
          have HC : Hid (covZ k n = 0) := Lib.hid (by simp [covZ, h1, h2, h3, h4])
          have g1 : (k == 1) = false := by simp [h1]
          have g2 : (k == 2) = false := by simp [h2]
          have g3 : (k == 3) = false := by simp [h3]
          have g4 : (k == 4) = false := by simp [h4]
          go_enter Tryz.func16, Tryz.ntmps16
          go_wp2
          go_ret
          exact ⟨by rw [HC.out]; rfl, HB.out⟩
end Go.Proofs.YtmgcdhcidojdhaaGreat
