/-
  book: reader's pattern: walked.
-/
import Derived.Test.YtoeakmpfkbmbcaaBkF
set_option linter.unusedSimpArgs false
set_option linter.unusedVariables false
namespace Go.Proofs.Ytoeakmpfkbmbcaa
open Go.RowKit

theorem past_le (s : List UInt8) : (pastB s).length ≤ s.length := by unfold pastB; rw [List.length_drop]; omega

theorem IsReader.lt {w : World} {B b : Nat} {L : List (List UInt8)} {s : List UInt8} (h : IsReader w B b L s) : B ≤ b ∧ b < w.heap.size := by
  obtain ⟨hB, v, h1, _⟩ := h
  exact ⟨hB, heap_lt h1⟩

set_option maxHeartbeats 1000000 in
theorem pat_one {w : World} {B b : Nat} {L : List (List UInt8)} {s : List UInt8} (h : IsReader w B b L s) (hs : s.length ≤ 1000000000) (he : ¬ tE s = 0) :
    Calls Try.prog 42 #[.pointer (some ⟨b, 0, none⟩)] w fun e w' => e = .returned (.int .i64 (tE s)) ∧ Below B w w' := by
  have H1 := Lib.hid (number_bad h hs he)
  generalize tE s = x at H1 he ⊢
  clear h
  go_enter Try.func42, Try.ntmps42
  go_wp2_with fail
  refine H1.out.mono ?_
  rintro e w' ⟨rfl, rfl⟩
  go_wp2
  go_ret
  exact ⟨rfl, Below.refl _ _⟩

set_option maxHeartbeats 1000000 in
theorem pat_two {w : World} {B b : Nat} {L : List (List UInt8)} {s : List UInt8} (h : IsReader w B b L s) (hs : s.length ≤ 1000000000) (h1 : tE s = 0) (he : ¬ tE (pastB s) = 0) :
    Calls Try.prog 42 #[.pointer (some ⟨b, 0, none⟩)] w fun e w' => e = .returned (.int .i64 (tE (pastB s))) ∧ Below B w w' := by
  have H1 := Lib.hid (number_good h hs h1)
  have hs2 := past_le s
  have H2 := Lib.hid (fun (w2 : World) (h2 : IsReader w2 B b L (pastB s)) => number_bad h2 (by omega) he)
  generalize tE (pastB s) = x at H2 he ⊢
  generalize pastB s = s2 at H1 H2
  generalize tN s = m at H1
  clear h
  go_enter Try.func42, Try.ntmps42
  go_wp2_with fail
  refine H1.out.mono ?_
  rintro e w2 ⟨rfl, hr2, hb2⟩
  have H3 := Lib.hid (H2.out w2 hr2)
  go_wp2_with fail
  refine H3.out.mono ?_
  rintro e w' ⟨rfl, rfl⟩
  go_wp2
  go_ret
  exact ⟨rfl, hb2⟩

set_option maxHeartbeats 1000000 in
theorem pat_len {w : World} {B b : Nat} {L : List (List UInt8)} {s : List UInt8} (h : IsReader w B b L s) (hs : s.length ≤ 1000000000) (hl : L.length ≤ 1000000) (ha : (lastP L).length ≤ 65535) (hT : totalL L ≤ 16777216) (h1 : tE s = 0) (h2 : tE (pastB s) = 0)
    (he : ¬ lenE (tN s) (tN (pastB s)) (lastP L).length (totalL L : Int) (pastB (pastB s)).length = 0) :
    Calls Try.prog 42 #[.pointer (some ⟨b, 0, none⟩)] w fun e w' => e = .returned (.int .i64 (lenE (tN s) (tN (pastB s)) (lastP L).length (totalL L : Int) (pastB (pastB s)).length)) ∧ Below B w w' := by
  have HB := Lib.hid h.lt
  have H1 := Lib.hid (number_good h hs h1)
  have hs2 := past_le s
  have hs3 := past_le (pastB s)
  have H2 := Lib.hid (fun (w2 : World) (h3 : IsReader w2 B b L (pastB s)) => number_good h3 (by omega) h2)
  have H3 := Lib.hid (fun (w2 : World) (h3 : IsReader w2 B b L (pastB (pastB s))) => ahead_any h3 hl)
  obtain ⟨m1, m2⟩ := tN_bounds s
  obtain ⟨n1, n2⟩ := tN_bounds (pastB s)
  have H4 := Lib.hid (fun (w2 : World) (h3 : IsReader w2 B b L (pastB (pastB s))) => fault_len h3 (by omega) (lastP L) (tN s) (tN (pastB s)) ha hT m1 m2 n1 n2 he)
  generalize lenE (tN s) (tN (pastB s)) (lastP L).length (totalL L : Int) (pastB (pastB s)).length = x at H4 he ⊢
  generalize pastB (pastB s) = s3 at H2 H3 H4
  generalize tN (pastB s) = n at H2 H4
  generalize pastB s = s2 at H1 H2
  generalize tN s = m at H1 H4
  generalize lastP L = a at H3 H4
  clear h hs2 hs3 m1 m2 n1 n2 ha
  go_enter Try.func42, Try.ntmps42
  go_wp2_with fail
  refine H1.out.mono ?_
  rintro e w2 ⟨rfl, hr2, hb2⟩
  have H5 := Lib.hid (H2.out w2 hr2)
  go_wp2_with fail
  refine H5.out.mono ?_
  rintro e w3 ⟨rfl, hr3, hb3⟩
  have H6 := Lib.hid (H3.out w3 hr3)
  go_wp2_with fail
  refine H6.out.mono ?_
  rintro e w4 ⟨rfl, q, rfl⟩
  have H7 := Lib.hid (H4.out _ (hr3.drewN q))
  go_wp2_with fail
  refine H7.out.mono ?_
  rintro e w' ⟨rfl, rfl⟩
  go_wp2
  go_ret
  exact ⟨rfl, below_drewS (hb2.trans hb3) _⟩

set_option maxHeartbeats 1000000 in
theorem pat_nxt {w : World} {B b : Nat} {L : List (List UInt8)} {s : List UInt8} (h : IsReader w B b L s) (hs : s.length ≤ 1000000000) (hl : L.length ≤ 1000000) (ha : (lastP L).length ≤ 65535) (h1 : tE s = 0) (h2 : tE (pastB s) = 0)
    (he : lenE (tN s) (tN (pastB s)) (lastP L).length (totalL L : Int) (pastB (pastB s)).length = 0) (hn : ¬ nxtE (lastP L) (tN s).toNat (pastB (pastB s)) = 0) :
    Calls Try.prog 42 #[.pointer (some ⟨b, 0, none⟩)] w fun e w' => e = .returned (.int .i64 (nxtE (lastP L) (tN s).toNat (pastB (pastB s)))) ∧ Below B w w' := by
  have H1 := Lib.hid (number_good h hs h1)
  have hs2 := past_le s
  have hs3 := past_le (pastB s)
  have H2 := Lib.hid (fun (w2 : World) (h3 : IsReader w2 B b L (pastB s)) => number_good h3 (by omega) h2)
  have H3 := Lib.hid (fun (w2 : World) (h3 : IsReader w2 B b L (pastB (pastB s))) => ahead_any h3 hl)
  obtain ⟨m, hm⟩ := Int.eq_ofNat_of_zero_le (tN_bounds s).1
  obtain ⟨n, hn2⟩ := Int.eq_ofNat_of_zero_le (tN_bounds (pastB s)).1
  rw [hm] at H1 hn he ⊢
  rw [hn2] at H2 he
  rw [Int.toNat_natCast] at hn ⊢
  have H4 := Lib.hid (fun (w2 : World) (h3 : IsReader w2 B b L (pastB (pastB s))) => fault_nxt h3 (by omega) (lastP L) m n ha he)
  generalize nxtE (lastP L) m (pastB (pastB s)) = x at H4 hn ⊢
  generalize pastB (pastB s) = s3 at H2 H3 H4
  clear hn2 hm he
  generalize pastB s = s2 at H1 H2
  generalize lastP L = a at H3 H4
  clear h hs2 hs3 ha
  go_enter Try.func42, Try.ntmps42
  go_wp2_with fail
  refine H1.out.mono ?_
  rintro e w2 ⟨rfl, hr2, hb2⟩
  have H5 := Lib.hid (H2.out w2 hr2)
  go_wp2_with fail
  refine H5.out.mono ?_
  rintro e w3 ⟨rfl, hr3, hb3⟩
  have H6 := Lib.hid (H3.out w3 hr3)
  go_wp2_with fail
  refine H6.out.mono ?_
  rintro e w4 ⟨rfl, q, rfl⟩
  have H7 := Lib.hid (H4.out _ (hr3.drewN q))
  go_wp2_with fail
  refine H7.out.mono ?_
  rintro e w' ⟨rfl, q2, rfl⟩
  go_wp2
  go_ret
  exact ⟨rfl, below_drewS (hb2.trans hb3) _⟩

set_option maxHeartbeats 4000000 in
set_option maxRecDepth 100000 in
theorem pat_good {w : World} {B b : Nat} {L : List (List UInt8)} {s : List UInt8} (h : IsReader w B b L s) (hs : s.length ≤ 1000000000) (hl : L.length ≤ 1000000) (ha : (lastP L).length ≤ 65535) (h1 : tE s = 0) (h2 : tE (pastB s) = 0)
    (he : lenE (tN s) (tN (pastB s)) (lastP L).length (totalL L : Int) (pastB (pastB s)).length = 0) (hn : nxtE (lastP L) (tN s).toNat (pastB (pastB s)) = 0) :
    Calls Try.prog 42 #[.pointer (some ⟨b, 0, none⟩)] w fun e w' => e = .returned (.int .i64 0) ∧ IsReader w' B b (L ++ [entP (lastP L) s]) (entR s) ∧ Below B w w' := by
  obtain ⟨hBb, hbw⟩ := h.lt
  have H1 := Lib.hid (number_good h hs h1)
  have hs2 := past_le s
  have hs3 := past_le (pastB s)
  have H2 := Lib.hid (fun (w2 : World) (h3 : IsReader w2 B b L (pastB s)) => number_good h3 (by omega) h2)
  have H3 := Lib.hid (fun (w2 : World) (h3 : IsReader w2 B b L (pastB (pastB s))) => ahead_any h3 hl)
  obtain ⟨m, hm⟩ := Int.eq_ofNat_of_zero_le (tN_bounds s).1
  obtain ⟨n, hn2⟩ := Int.eq_ofNat_of_zero_le (tN_bounds (pastB s)).1
  unfold entP entR
  rw [hm] at H1 hn he ⊢
  rw [hn2] at H2 he ⊢
  rw [Int.toNat_natCast] at hn ⊢
  rw [Int.toNat_natCast]
  have H4 := Lib.hid (fun (w2 : World) (h3 : IsReader w2 B b L (pastB (pastB s))) => fault_nxt h3 (by omega) (lastP L) m n ha he)
  rw [hn] at H4
  obtain ⟨g1, g2, g3, g4, g5⟩ := len_ok he
  generalize pastB (pastB s) = s3 at H2 H3 H4 hs3 g5 ⊢
  clear hn2 hm he hn
  generalize pastB s = s2 at H1 H2
  have hTs : Hid (∀ p : List UInt8, (totalL (L ++ [p]) : Int) = (totalL L : Int) + (p.length : Int)) := Lib.hid (fun p => by rw [total_append, total_cons]; simp [totalL])
  generalize lastP L = a at H3 H4 g1 ⊢
  have S1 := Lib.hid (bsize a)
  have S2 := Lib.hid (bsize s3)
  clear h hs2 ha
  obtain ⟨i0, hi, hz0, hz1, hz2⟩ := info_parts string_info
  have x1 : (⟨a.toArray⟩ : ByteArray).extract 0 m = ⟨(a.take m).toArray⟩ := by rw [ext_cut]; rfl
  have x2 : (⟨s3.toArray⟩ : ByteArray).extract 0 n = ⟨(s3.take n).toArray⟩ := by rw [ext_cut]; rfl
  have x4 := ext_rest s3 n
  have lp : (a.take m ++ s3.take n).length = m + n := by rw [List.length_append, List.length_take, List.length_take]; omega
  have x3 : (⟨(a.take m).toArray⟩ : ByteArray) ++ ⟨(s3.take n).toArray⟩ = ⟨(a.take m ++ s3.take n).toArray⟩ := by simp [ByteArray.mk_append_mk]
  have lq : ¬ 9223372036854775807 < (a.take m).length + (s3.take n).length := by rw [← List.length_append, lp]; omega
  generalize a.take m = a1 at x1 x3 lp lq ⊢
  generalize s3.take n = a2 at x2 x3 lp lq ⊢
  generalize s3.drop n = s4 at x4 ⊢
  generalize a1 ++ a2 = p at x3 lp ⊢
  have e1 : (0 : Int) ≤ (m : Int) := by omega
  have e2 : (m : Int) ≤ (a.length : Int) := by omega
  have e3 : (n : Int) ≤ (s3.length : Int) := by omega
  have HP := Lib.hid (hTs.out p)
  clear hTs
  have hpl : p.length ≤ 65535 := by omega
  have hTp : totalL L + p.length ≤ 16777216 := by omega
  have HX := Lib.hid x4
  go_enter Try.func42, Try.ntmps42
  go_wp2_with fail
  refine H1.out.mono ?_
  rintro e w2 ⟨rfl, hr2, hb2⟩
  have H5 := Lib.hid (H2.out w2 hr2)
  go_wp2_with fail
  refine H5.out.mono ?_
  rintro e w3 ⟨rfl, hr3, hb3⟩
  have H6 := Lib.hid (H3.out w3 hr3)
  go_wp2_with fail
  refine H6.out.mono ?_
  rintro e w4 ⟨rfl, q, rfl⟩
  have H7 := Lib.hid (H4.out _ (hr3.drewN q))
  go_wp2_with fail
  refine H7.out.mono ?_
  rintro e w5 ⟨rfl, q2, rfl⟩
  have hR : IsReader ((w3.drewN q).drewN q2) B b L s3 := hr3
  have hb5 : Below B w ((w3.drewN q).drewN q2) := below_drewS (below_drewS (hb2.trans hb3) _) _
  have hsz := hb5.size
  generalize (w3.drewN q).drewN q2 = W at hR hb5 hsz ⊢
  clear H1 H2 H3 H4 H5 H6 H7 hr2 hr3 hb2 hb3
  obtain ⟨_, v, hh, hown⟩ := hR
  obtain ⟨ao, cap, rfl, _⟩ := owns_strs hown
  have hne := Lib.ownBlock_ne hown hh (by decide)
  have HL : Hid (totalL L + p.length ≤ 16777216) := Lib.hid hTp
  generalize totalL L = T at hh HP hTp
  obtain ⟨k, hk⟩ : ∃ k, L.length = k := ⟨_, rfl⟩
  rw [hk] at hh hown hl hne
  have HK := Lib.hid hk
  clear hk HL
  have c0 : W.cell? ⟨b, 0, none⟩ = some (.slice ao k cap) := by rw [Lib.cell_of_heap hh]; rfl
  have c2 : W.cell? ⟨b, 2, none⟩ = some (.string ⟨s3.toArray⟩) := by rw [Lib.cell_of_heap hh]; rfl
  go_wp2_with fail
  go_quiet (fail)
  go_wp2_with (at_builtin; refine wpList_append_own _ rfl _ _ 22 rfl B 9 i0 (.string ByteArray.empty) 1 16 Try.underlying22 hi hz0 hz1 hz2 rfl (by decide) _ _ _ rfl (hown.alloc _) ⟨W.heap.size, 0, none⟩ 1 1 [.string ⟨p.toArray⟩] rfl rfl ?c1 ?c2 ?c3 ?c4 ?c5 ?_)
  case c1 => exact one_news (heap_alloc_new _ _)
  case c2 => exact str_one
  case c3 => unfold maxLen; omega
  case c4 => omega
  case c5 => simp; omega
  intro v' w6 hown' hgrow _
  have hbW : b < W.heap.size := heap_lt hh
  have hh6 : w6.heap[b]? = some (.cells #[.slice ao k cap, .int .i64 (T : Int), .string ⟨s3.toArray⟩] 62 (0, 0)) := by
    rw [hgrow.block b (by simp; omega) (fun e => hne e.symm), Lib.alloc_old _ _ b (by simpa using hbW)]
    exact hh
  have B6 : Below B w w6 := ((below_drewS hb5 nq).alloc (by have := hBb; simp; omega) _).grown hgrow (by simp; omega) (fun k hk => (hown.lt k hk).1)
  have hown6 : w6.ownsRow B 9 1 v' (L ++ [p]).length (txCells (L ++ [p])) := by rw [txCells_snoc, List.length_append, HK.out]; exact hown'
  obtain ⟨ao', cap', rfl, _⟩ := owns_strs hown6
  have hne6 := Lib.ownBlock_ne hown6 hh6 (by decide)
  obtain ⟨k6, hk6⟩ : ∃ k6, (L ++ [p]).length = k6 := ⟨_, rfl⟩
  have HK6 := Lib.hid hk6
  rw [hk6] at hown6 hne6
  clear hk6 hown'
  clear hgrow hown hh c0 c2 hne hb5
  have c0 : w6.cell? ⟨b, 0, none⟩ = some (.slice ao k cap) := by rw [Lib.cell_of_heap hh6]; rfl
  have c1 : w6.cell? ⟨b, 1, none⟩ = some (.int .i64 (T : Int)) := by rw [Lib.cell_of_heap hh6]; rfl
  have c2 : w6.cell? ⟨b, 2, none⟩ = some (.string ⟨s3.toArray⟩) := by rw [Lib.cell_of_heap hh6]; rfl
  have f0 : w6.frozen? ⟨b, 0, none⟩ = false := Lib.frozen_of_heap hh6 0
  have f1 : w6.frozen? ⟨b, 1, none⟩ = false := Lib.frozen_of_heap hh6 1
  have f2 : w6.frozen? ⟨b, 2, none⟩ = false := Lib.frozen_of_heap hh6 2
  have S3 := Lib.hid (bsize p)
  go_wp2
  go_ret
  refine ⟨rfl, ⟨hBb, .slice ao' k6 cap', ?_, ?_⟩, ((B6.setCell (p := ⟨b, 0, none⟩) hBb _).setCell (p := ⟨b, 1, none⟩) hBb _).setCell (p := ⟨b, 2, none⟩) hBb _⟩
  · rw [HP.out]
    refine (set_put (set_put (set_put hh6 _) _) _).trans ?_
    have := HK6.out
    rw [List.length_append, List.length_singleton] at this
    simp [this, lp]
  · rw [HK6.out]
    exact ownsRow_setCell_other (ownsRow_setCell_other (ownsRow_setCell_other hown6 hne6 _) hne6 _) hne6 _
end Go.Proofs.Ytoeakmpfkbmbcaa
