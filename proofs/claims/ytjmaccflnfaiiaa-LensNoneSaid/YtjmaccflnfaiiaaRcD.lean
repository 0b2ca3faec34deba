/-
  The document's Check of layer 28: walked.
-/
import Derived.Test.YtjmaccflnfaiiaaBn5
import Derived.BigQuiet
set_option linter.unusedSimpArgs false
set_option linter.unusedVariables false
namespace Go.Proofs.Ytjmaccflnfaiiaa
open Go.RowKit

/-- The one ahead, or -1. -/
def prevI (ids : List Int) (k : Nat) : Int := if k = 0 then -1 else ids.getD (k - 1) 0

set_option maxRecDepth 100000 in
set_option maxHeartbeats 4000000 in
theorem rdchk_at (n r : Int) (a : Option Addr) (L c : Nat) (ids : List Int) (w : World) (hl : ids.length = L) (hL : L ≤ 1000000000) (hr : IsRow .i64 w a L L ids) (q : Bool) (hq : okK 4 n r ids = q) :
    Calls Try.prog 45 #[.agg #[.int .i64 4, .int .i64 n, .int .i64 r, .slice a L c]] w fun e w' => e = .returned (.bool q) ∧ Below w.heap.size w w' := by
  have hX1 := heap_alloc_new w (.cells #[.int .i64 4, .int .i64 n, .int .i64 r, .slice a L c] 34)
  have hB1 := (Below.refl w.heap.size w).alloc (Nat.le_refl _) (.cells #[.int .i64 4, .int .i64 n, .int .i64 r, .slice a L c] 34)
  obtain ⟨w1, hw1⟩ : ∃ w1, w.alloc (.cells #[.int .i64 4, .int .i64 n, .int .i64 r, .slice a L c] 34) = w1 := ⟨_, rfl⟩
  rw [hw1] at hX1 hB1
  have HX1 := Lib.hid hX1
  have HB1 := Lib.hid hB1
  have HLT : Hid (w.heap.size < w1.heap.size) := Lib.hid (heap_lt hX1)
  obtain ⟨c0, c1, c2, c3⟩ := rec_reads hX1
  unfold okK at hq
  rw [if_pos rfl] at hq
  have HQ := Lib.hid hq
  have HRW := Lib.hid (hr.below hB1)
  have HL := Lib.hid hl
  clear hX1 hB1 hl hr hq
  go_enter Try.func45, Try.ntmps45
  go_wp2_with fail
  try rw [hw1]
  go_loopw [3] (fun i wr => ∃ k : Nat, k ≤ L ∧ i = .int .i64 k ∧ Hid (Below w1.heap.size w1 wr) ∧ Hid (-1 ≤ prevI ids k) ∧ Hid (risF (-1) ids = risF (prevI ids k) (ids.drop k))) (fun i _ => L - (RowKit.intOf i).toNat)
  case atStart => exact ⟨0, Nat.zero_le _, rfl, Lib.hid (Below.refl _ _), Lib.hid (Int.le_refl _), Lib.hid (by rw [List.drop_zero]; rfl)⟩
  case round =>
    rename_i wr
    clear c0 c1 c2 c3
    obtain ⟨k, hk, rfl, HB, HP, HK⟩ := hrel
    obtain ⟨c0, c1, c2, c3⟩ := rec_reads ((HB.out.block w.heap.size HLT.out).trans HX1.out)
    have HB2 := Lib.hid (HB1.out.trans (HB.out.mono HB1.out.size))
    by_cases hlt : k < L
    · have g0 : (k : Int) < (L : Int) := by omega
      have g1 : (0 : Int) ≤ (k : Int) := by omega
      obtain h0 | ⟨b, off, rfl, hcap, hm, hz, hc⟩ := HRW.out.below HB.out
      · omega
      have hcell := hc k (by omega)
      have HS := Lib.hid (ris_drop (ids := ids) (k := k) (by rw [HL.out]; exact hlt) (prevI ids k))
      have HN : Hid (prevI ids (k + 1) = ids.getD k 0) := Lib.hid (by unfold prevI; rw [if_neg (by omega)]; rfl)
      obtain ⟨y, hy⟩ : ∃ y, ids.getD k 0 = y := ⟨_, rfl⟩
      rw [hy] at hcell HS HN
      by_cases h1 : y < 0
      · have h1' : decide (y < 0) = true := decide_eq_true h1
        have hf : Hid (q = false) := Lib.hid (by rw [← HQ.out, HK.out, HS.out, decide_eq_false (show ¬ prevI ids k < y by have := HP.out; omega)]; simp)
        clear hc hz hy
        go_wp2_with fail
        go_quiet (fail)
        go_wp2
        go_ret
        exact ⟨by rw [hf.out]; rfl, below_drewS HB2.out _⟩
      · have h1' : decide (y < 0) = false := decide_eq_false h1
        by_cases h2 : 65534 < y
        · have h2' : decide (65534 < y) = true := decide_eq_true h2
          have hf : Hid (q = false) := Lib.hid (by rw [← HQ.out, HK.out, HS.out, decide_eq_false (p := y < 65535) (by omega)]; simp)
          clear hc hz hy
          go_wp2_with fail
          go_quiet (fail)
          go_wp2
          go_ret
          exact ⟨by rw [hf.out]; rfl, below_drewS HB2.out _⟩
        · have h2' : decide (65534 < y) = false := decide_eq_false h2
          by_cases h0 : k = 0
          · have HKN : Hid (risF (-1) ids = risF (prevI ids (k + 1)) (ids.drop (k + 1))) := Lib.hid (by rw [HK.out, HS.out, HN.out, decide_eq_true (show y < 65535 by omega), decide_eq_true (show prevI ids k < y by unfold prevI; rw [if_pos h0]; omega)]; rfl)
            have HPN : Hid (-1 ≤ prevI ids (k + 1)) := Lib.hid (by rw [HN.out]; omega)
            have g2 : decide ((0 : Int) < (k : Int)) = false := decide_eq_false (by omega)
            have g3 : decide (0 < k) = false := decide_eq_false (by omega)
            clear hc hz hy h0 h1 h2
            go_wp2_with fail
            go_quiet (fail)
            go_wp2
            exact ⟨⟨k + 1, by omega, by go_num, Lib.hid (below_drewS HB.out _), HPN, HKN⟩, by simp [RowKit.intOf]; omega⟩
          · obtain ⟨j, rfl⟩ : ∃ j, k = j + 1 := ⟨k - 1, by omega⟩
            have hcell2 := hc j (by omega)
            have hpv : prevI ids (j + 1) = ids.getD j 0 := by unfold prevI; rw [if_neg (by omega)]; rfl
            obtain ⟨p, hp⟩ : ∃ p, ids.getD j 0 = p := ⟨_, rfl⟩
            rw [hp] at hcell2 hpv
            have e1 : ((j + 1 : Nat) : Int) = (j : Int) + 1 := by omega
            have g2 : decide ((0 : Int) < (j : Int) + 1) = true := decide_eq_true (by omega)
            have w1' : IntKind.i64.wrap ((j : Int) + 1 - 1) = (j : Int) := by rw [IntKind.wrap_i64]; omega
            have w2' : IntKind.i64.wrap (j : Int) = (j : Int) := by rw [IntKind.wrap_i64]; omega
            have g3 : (0 : Int) ≤ (j : Int) := by omega
            have g4 : (j : Int) < (L : Int) := by omega
            have g5 : ((j : Int) + 1).toNat = j + 1 := by omega
            have g6 : ((j : Int)).toNat = j := by omega
            rw [e1] at g0 g1 ⊢
            by_cases h3 : y ≤ p
            · have h3' : decide (y ≤ p) = true := decide_eq_true h3
              have hf : Hid (q = false) := Lib.hid (by rw [← HQ.out, HK.out, HS.out, hpv, decide_eq_false (show ¬ p < y by omega)]; simp)
              clear hc hz hy h0 h1 h2 hpv hp e1
              go_wp2_with fail
              go_quiet (fail)
              go_wp2
              go_ret
              exact ⟨by rw [hf.out]; rfl, below_drewS HB2.out _⟩
            · have h3' : decide (y ≤ p) = false := decide_eq_false h3
              have HKN : Hid (risF (-1) ids = risF (prevI ids (j + 1 + 1)) (ids.drop (j + 1 + 1))) := Lib.hid (by rw [HK.out, HS.out, HN.out, decide_eq_true (show y < 65535 by omega), decide_eq_true (show prevI ids (j + 1) < y by omega)]; rfl)
              have HPN : Hid (-1 ≤ prevI ids (j + 1 + 1)) := Lib.hid (by rw [HN.out]; omega)
              clear hc hz hy h0 h1 h2 hpv hp e1
              go_wp2_with fail
              go_quiet (fail)
              go_wp2
              exact ⟨⟨j + 1 + 1, by omega, by go_num, Lib.hid (below_drewS HB.out _), HPN, HKN⟩, by simp [RowKit.intOf]; omega⟩
    · obtain rfl : k = L := by omega
      have g0 : ¬ (k : Int) < (k : Int) := by omega
      have hf : Hid (risF (-1) ids = true) := Lib.hid (by rw [HK.out, List.drop_of_length_le (by rw [HL.out]; exact Nat.le_refl _)]; rfl)
      have HQ2 : Hid ((decide (n = 0) && decide (r = 0)) = q) := Lib.hid (by rw [← HQ.out, hf.out, Bool.and_true])
      clear hlt
      by_cases hn : n = 0
      · by_cases hr0 : r = 0
        · subst hn hr0
          have hq1 : Hid (q = true) := Lib.hid (by rw [← HQ2.out]; rfl)
          go_wp2
          go_ret
          exact ⟨by rw [hq1.out]; rfl, HB2.out⟩
        · subst hn
          have hq1 : Hid (q = false) := Lib.hid (by rw [← HQ2.out, decide_eq_false hr0]; simp)
          have g1 : (r == 0) = false := by simpa using hr0
          clear hr0
          go_wp2
          go_ret
          exact ⟨by rw [hq1.out]; rfl, HB2.out⟩
      · have hq1 : Hid (q = false) := Lib.hid (by rw [← HQ2.out, decide_eq_false hn]; simp)
        have g1 : (n == 0) = false := by simpa using hn
        clear hn
        go_wp2
        go_ret
        exact ⟨by rw [hq1.out]; rfl, HB2.out⟩

theorem okK_ways {k n r : Int} {ids : List Int} {q : Bool} {L : Nat} (hl : ids.length = L) (h4 : ¬ k = 4) (hq : okK k n r ids = q) :
    (k < 1 ∧ q = false) ∨ (¬ k < 1 ∧ 6 < k ∧ q = false) ∨ (¬ k < 1 ∧ ¬ 6 < k ∧ 0 < L ∧ q = false) ∨
    (¬ k < 1 ∧ ¬ 6 < k ∧ ¬ 0 < L ∧ ((ofs n = false ∧ q = false) ∨ (ofs n = true ∧ ((ofs r = false ∧ q = false) ∨ (ofs r = true ∧
      ((3 < k ∧ q = true) ∨ (¬ 3 < k ∧ ((¬ 0 < n ∧ q = false) ∨ (0 < n ∧ ((¬ 0 < r ∧ q = false) ∨ (0 < r ∧ q = true))))))))))) := by
  unfold okK fitK leastK at hq
  rw [if_neg h4, hl] at hq
  by_cases k1 : k < 1
  · exact .inl ⟨k1, by rw [← hq, decide_eq_false (show ¬ 1 ≤ k by omega)]; simp⟩
  · by_cases k2 : 6 < k
    · exact .inr (.inl ⟨k1, k2, by rw [← hq, decide_eq_false (p := k ≤ 6) (by omega)]; simp⟩)
    · rw [decide_eq_true (show 1 ≤ k by omega), decide_eq_true (show k ≤ 6 by omega)] at hq
      by_cases k3 : 0 < L
      · exact .inr (.inr (.inl ⟨k1, k2, k3, by rw [← hq, decide_eq_false (p := L = 0) (by omega)]; simp⟩))
      · refine .inr (.inr (.inr ⟨k1, k2, k3, ?_⟩))
        rw [decide_eq_true (show L = 0 by omega)] at hq
        cases hn : ofs n with
        | false => exact .inl ⟨rfl, by rw [← hq, hn]; simp⟩
        | true =>
          refine .inr ⟨rfl, ?_⟩
          cases hr : ofs r with
          | false => exact .inl ⟨rfl, by rw [← hq, hr]; simp⟩
          | true =>
            refine .inr ⟨rfl, ?_⟩
            have b1 := ofs_true hn
            have b2 := ofs_true hr
            rw [hn, hr] at hq
            by_cases k4 : 3 < k
            · rw [if_pos (show k = 5 ∨ k = 6 by omega), decide_eq_true (show (0 : Int) ≤ n by omega), decide_eq_true (show (0 : Int) ≤ r by omega)] at hq
              exact .inl ⟨k4, by rw [← hq]; rfl⟩
            · refine .inr ⟨k4, ?_⟩
              rw [if_neg (show ¬ (k = 5 ∨ k = 6) by omega)] at hq
              by_cases n0 : 0 < n
              · refine .inr ⟨n0, ?_⟩
                by_cases r0 : 0 < r
                · exact .inr ⟨r0, by rw [← hq, decide_eq_true (show (1 : Int) ≤ n by omega), decide_eq_true (show (1 : Int) ≤ r by omega)]; rfl⟩
                · exact .inl ⟨r0, by rw [← hq, decide_eq_false (show ¬ (1 : Int) ≤ r by omega)]; simp⟩
              · exact .inl ⟨n0, by rw [← hq, decide_eq_false (show ¬ (1 : Int) ≤ n by omega)]; simp⟩

set_option maxRecDepth 100000 in
set_option maxHeartbeats 4000000 in
theorem rdchk_no (k n r : Int) (a : Option Addr) (L c : Nat) (ids : List Int) (w : World) (hl : ids.length = L) (h4 : ¬ k = 4) (q : Bool) (hq : okK k n r ids = q) :
    Calls Try.prog 45 #[.agg #[.int .i64 k, .int .i64 n, .int .i64 r, .slice a L c]] w fun e w' => e = .returned (.bool q) ∧ Below w.heap.size w w' := by
  have hX1 := heap_alloc_new w (.cells #[.int .i64 k, .int .i64 n, .int .i64 r, .slice a L c] 34)
  have hB1 := (Below.refl w.heap.size w).alloc (Nat.le_refl _) (.cells #[.int .i64 k, .int .i64 n, .int .i64 r, .slice a L c] 34)
  obtain ⟨w1, hw1⟩ : ∃ w1, w.alloc (.cells #[.int .i64 k, .int .i64 n, .int .i64 r, .slice a L c] 34) = w1 := ⟨_, rfl⟩
  rw [hw1] at hX1 hB1
  have HB1 := Lib.hid hB1
  obtain ⟨c0, c1, c2, c3⟩ := rec_reads hX1
  have hw := okK_ways hl h4 hq
  have g4 : (k == 4) = false := by simpa using h4
  have HN := Lib.hid (fun q h => ris_any n w1 q h)
  have HR := Lib.hid (fun q h => ris_any r w1 q h)
  have gl : ((0 : Int) < (L : Int)) = (0 < L) := by simp
  clear hX1 hB1 hl hq h4
  rcases hw with ⟨k1, rfl⟩ | ⟨k1, k2, rfl⟩ | ⟨k1, k2, k3, rfl⟩ | ⟨k1, k2, k3, hw⟩
  · go_enter Try.func45, Try.ntmps45
    go_wp2
    go_ret
    try rw [hw1]
    exact ⟨rfl, HB1.out⟩
  · go_enter Try.func45, Try.ntmps45
    go_wp2
    go_ret
    try rw [hw1]
    exact ⟨rfl, HB1.out⟩
  · go_enter Try.func45, Try.ntmps45
    go_wp2
    go_ret
    try rw [hw1]
    exact ⟨rfl, HB1.out⟩
  · rcases hw with ⟨ho, rfl⟩ | ⟨ho, hw⟩
    · have HN1 := Lib.hid (HN.out false ho)
      clear HN HR ho
      go_enter Try.func45, Try.ntmps45
      go_wp2_with fail
      try rw [hw1]
      refine HN1.out.mono ?_
      rintro e w2 ⟨rfl, hw⟩
      subst hw
      go_wp2
      go_ret
      exact ⟨rfl, HB1.out⟩
    · have HN1 := Lib.hid (HN.out true ho)
      clear HN ho
      rcases hw with ⟨ho, rfl⟩ | ⟨ho, hw⟩
      · have HR1 := Lib.hid (HR.out false ho)
        clear HR ho
        go_enter Try.func45, Try.ntmps45
        go_wp2_with fail
        try rw [hw1]
        refine HN1.out.mono ?_
        rintro e w2 ⟨rfl, hw⟩
        subst hw
        go_wp2_with fail
        refine HR1.out.mono ?_
        rintro e w2 ⟨rfl, hw⟩
        subst hw
        go_wp2
        go_ret
        exact ⟨rfl, HB1.out⟩
      · have HR1 := Lib.hid (HR.out true ho)
        clear HR ho
        rcases hw with ⟨k4, rfl⟩ | ⟨k4, ⟨n0, rfl⟩ | ⟨n0, ⟨r0, rfl⟩ | ⟨r0, rfl⟩⟩⟩
        all_goals
          go_enter Try.func45, Try.ntmps45
          go_wp2_with fail
          try rw [hw1]
          refine HN1.out.mono ?_
          rintro e w2 ⟨rfl, hw⟩
          subst hw
          go_wp2_with fail
          refine HR1.out.mono ?_
          rintro e w2 ⟨rfl, hw⟩
          subst hw
          go_wp2
          go_ret
          exact ⟨by first | rfl | (rw [decide_eq_true (show 3 < k by omega)]; rfl) | (rw [decide_eq_false (show ¬ 3 < k by omega)]; rfl) | (rw [decide_eq_false (show ¬ 3 < k by omega), decide_eq_true (show 0 < r by omega)]; rfl) | (rw [decide_eq_false (show ¬ 3 < k by omega), decide_eq_false (show ¬ 0 < r by omega)]; rfl), HB1.out⟩

theorem rdcheck_any (k n r : Int) (a : Option Addr) (L c : Nat) (ids : List Int) (w : World) (hl : ids.length = L) (hL : L ≤ 1000000000) (hr : IsRow .i64 w a L L ids) (q : Bool) (hq : okK k n r ids = q) :
    Calls Try.prog 45 #[.agg #[.int .i64 k, .int .i64 n, .int .i64 r, .slice a L c]] w fun e w' => e = .returned (.bool q) ∧ Below w.heap.size w w' := by
  by_cases h4 : k = 4
  · subst h4
    exact rdchk_at n r a L c ids w hl hL hr q hq
  · exact rdchk_no k n r a L c ids w hl h4 q hq
end Go.Proofs.Ytjmaccflnfaiiaa
