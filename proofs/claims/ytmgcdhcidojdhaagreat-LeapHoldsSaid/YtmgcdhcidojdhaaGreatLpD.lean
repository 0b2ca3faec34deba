/-
  The document's own answers for layer 26: Run, All: walked.
-/
import Derived.Test.YtmgcdhcidojdhaaGreatBn4
import Derived.Test.YtmgcdhcidojdhaaGreatPbT
set_option linter.unusedSimpArgs false
set_option linter.unusedVariables false
namespace Go.Proofs.YtmgcdhcidojdhaaGreat
open Go.RowKit

/-- What the document's Run tells. -/
def RetRunD (us : List (List UInt8)) (s : List UInt8) (skip : Bool) (a : Nat) (w : World) (E : Ending) (w' : World) : Prop :=
  ∃ (v : Value) (rs : List Rc) (c : Nat), E = .returned (.tuple #[v, .int .i64 (c : Int)]) ∧ w'.ownsRow w.heap.size 45 4 v rs.length (rcCells rs) ∧ (∀ x ∈ rs, IdsAt w' x) ∧ Goes us s skip a (evs rs) c ∧ Rest us s skip c ∧ a ≤ c ∧ c ≤ s.length ∧ Below w.heap.size w w'

set_option maxRecDepth 100000 in
set_option maxHeartbeats 8000000 in
theorem rlprun_any (ap : Option Addr) (len cap : Nat) (us : List (List UInt8)) (s : List UInt8) (w : World) (hlen : len ≤ 1000000) (h0 : 0 < len) (hr : IsStrs w ap len us) (hu : ∀ t ∈ us, 0 < t.length ∧ t.length ≤ 65535) (hs : s.length ≤ 100000) (skip : Bool) (a : Nat) (ha : a ≤ s.length) :
    Calls Tryz.prog 12 #[.slice ap len cap, .string ⟨s.toArray⟩, .int .i64 (a : Int), .bool skip] w (RetRunD us s skip a w) := by
  have HOF := Lib.hid (fun (W : World) (hW : Below w.heap.size w W) (e : Nat) (he : 0 < e) (hes : e ≤ s.length) => rof_own ap len cap us s e W hlen (hr.below hW) hu (by omega) he hes skip)
  have S1 := Lib.hid (bsize s)
  have h00 : (0 : Int) < (len : Int) := by omega
  obtain ⟨i0, hi, hz0, hz1, hz2⟩ := info_parts rec_info
  clear hr hu
  go_enter Tryz.func12, Tryz.ntmps12
  go_wp2
  go_loopw [2, 10] (fun i v wr => ∃ (c : Nat) (rs : List Rc), c ≤ s.length ∧ a ≤ c ∧ i = .int .i64 (c : Int) ∧ Hid (wr.ownsRow w.heap.size 45 4 v rs.length (rcCells rs) ∧ (∀ x ∈ rs, IdsAt wr x) ∧ Goes us s skip a (evs rs) c ∧ Below w.heap.size w wr)) (fun i _ _ => s.length - (RowKit.intOf i).toNat)
  case atStart => exact ⟨a, [], ha, Nat.le_refl _, rfl, Lib.hid ⟨World.ownsRow_made w #[] 0 (Nat.le_refl _) (by unfold maxLen; omega) rfl, fun x hx => (by cases hx), rfl, (Below.refl _ _).alloc (Nat.le_refl _) _⟩⟩
  case round =>
    obtain ⟨c, rs, hcs, hac, rfl, HR⟩ := hrel
    by_cases hlt : c < s.length
    · have u1 : (c : Int) < (s.length : Int) := by omega
      have wA : IntKind.i64.wrap ((c : Int) + 1) = ((c + 1 : Nat) : Int) := by rw [IntKind.wrap_i64]; omega
      have HO := Lib.hid (HOF.out wr HR.out.2.2.2 (c + 1) (by omega) (by omega))
      obtain ⟨O, hO⟩ : ∃ O, ofR us s (c + 1) skip = O := ⟨_, rfl⟩
      rw [hO] at HO
      have HOO := Lib.hid hO
      have hcp : 0 < covN O := by rw [← hO]; exact cov_pos _ _ _ _
      obtain ⟨k, n, r, ids⟩ := O
      obtain ⟨cv, hcv⟩ : ∃ cv, covN ⟨k, n, r, ids⟩ = cv := ⟨_, rfl⟩
      have HCC := Lib.hid hcv
      rw [hcv] at hcp
      have hcz := cov_z ⟨k, n, r, ids⟩
      rw [hcv] at hcz
      dsimp only at hcz
      clear hO hcv
      go_wp2_with fail
      refine HO.out.mono ?_
      rintro E w2 ⟨aa, cc, rfl, _, ho2, hb2⟩
      dsimp only at ho2 ⊢
      have hid : IdsAt w2 ⟨⟨k, n, r, ids⟩, aa, cc⟩ := ho2.elim .inl fun h => .inr ⟨_, h⟩
      have hB3 := (Below.refl w2.heap.size w2).alloc (Nat.le_refl _) (.cells #[.int .i64 (k : Int), .int .i64 (n : Int), .int .i64 (r : Int), .slice aa ids.length cc] 45)
      have hX3 := heap_alloc_new w2 (.cells #[.int .i64 (k : Int), .int .i64 (n : Int), .int .i64 (r : Int), .slice aa ids.length cc] 45)
      obtain ⟨w3, hw3⟩ : ∃ w3, w2.alloc (.cells #[.int .i64 (k : Int), .int .i64 (n : Int), .int .i64 (r : Int), .slice aa ids.length cc] 45) = w3 := ⟨_, rfl⟩
      rw [hw3] at hX3 hB3
      obtain ⟨k0, k1, k2, k3⟩ := rec_reads hX3
      have hb3 := hb2.trans (hB3.mono hb2.size)
      have HB3 := Lib.hid hb3
      have HX3 := Lib.hid hX3
      have HI3 := Lib.hid (hid.keep (.below hB3))
      have HCV := Lib.hid (rcov_any k n r (.slice aa ids.length cc) ⟨_, _, _, rfl⟩ w3)
      rw [hcz] at HCV
      clear hid ho2 hb2 hB3 hX3 hb3 HO hcz
      go_wp2_with fail
      try rw [hw3]
      refine HCV.out.mono ?_
      rintro E w4 ⟨rfl, hb4⟩
      clear hw3 k0 k1 k2 k3
      have HB4 := Lib.hid (HB3.out.trans (hb4.mono HB3.out.size))
      have HI4 := Lib.hid (HI3.out.keep (.below hb4))
      have hX4 := (hb4.block _ (heap_lt HX3.out)).trans HX3.out
      obtain ⟨k0, k1, k2, k3⟩ := rec_reads hX4
      have HR4 : Hid (w4.ownsRow w.heap.size 45 4 u10 rs.length (rcCells rs) ∧ (∀ x ∈ rs, IdsAt w4 x) ∧ Goes us s skip a (evs rs) c ∧ Below w.heap.size w w4) := Lib.hid ⟨(Keep.below HB4.out).owns HR.out.1, fun x hx => (HR.out.2.1 x hx).keep (.below HB4.out), HR.out.2.2.1, HR.out.2.2.2.trans (HB4.out.mono HR.out.2.2.2.size)⟩
      have wB : IntKind.i64.wrap ((s.length : Int) - (c : Int)) = ((s.length - c : Nat) : Int) := by rw [IntKind.wrap_i64]; omega
      obtain ⟨left, hleft⟩ : ∃ left, s.length - c = left := ⟨_, rfl⟩
      rw [hleft] at wB
      have wS : (s.length : Int) - (c : Int) = (left : Int) := by omega
      clear hb4 hX4 HCV HB3 HX3 HI3 HR HB4
      by_cases hg : left < cv
      · have g1 : (left : Int) < (cv : Int) := by omega
        go_wp2
        go_ret2
        exact ⟨_, rs, c, rfl, HR4.out.1, HR4.out.2.1, HR4.out.2.2.1, .inr (by rw [HOO.out, HCC.out]; omega), hac, hcs, HR4.out.2.2.2⟩
      · have g1 : ¬ (left : Int) < (cv : Int) := by omega
        have wC : IntKind.i64.wrap ((c : Int) + (cv : Int)) = ((c + cv : Nat) : Int) := by rw [IntKind.wrap_i64]; omega
        have hNew := heap_alloc_new w4 (.cells #[.int .i64 (k : Int), .int .i64 (n : Int), .int .i64 (r : Int), .slice aa ids.length cc] 45)
        have hB5 := (Below.refl w4.heap.size w4).alloc (Nat.le_refl _) (.cells #[.int .i64 (k : Int), .int .i64 (n : Int), .int .i64 (r : Int), .slice aa ids.length cc] 45)
        have hrn : rs.length ≤ s.length := by
          have h := HR4.out.2.2.1.le (by omega)
          rw [evs_length] at h
          omega
        have hrn2 : (rs.length + 1) * 48 ≤ 140737488355328 := by omega
        have hfs := HR4.out.2.2.2.size
        have hrc := (Keep.below hB5).owns HR4.out.1
        have HB5 := Lib.hid hB5
        clear hB5
        go_wp2_with (at_builtin; refine wpList_append_own _ rfl _ _ 34 rfl w.heap.size 45 i0 (.agg #[.int .i64 0, .int .i64 0, .int .i64 0, .slice none 0 0]) 4 48 Tryz.underlying34 hi hz0 hz1 hz2 rfl (by decide) _ _ _ rfl hrc ⟨w4.heap.size, 0, none⟩ 1 1 (Rc.cells ⟨⟨k, n, r, ids⟩, aa, cc⟩) rfl rfl ?c1 ?c2 ?c3 ?c4 ?c5 ?_)
        case c1 => exact rec_news (x := ⟨⟨k, n, r, ids⟩, aa, cc⟩) hNew
        case c2 =>
          intro u hu
          simp [Rc.cells, Rc.sl] at hu
          rcases hu with rfl | rfl | rfl | rfl <;> rfl
        case c3 => unfold maxLen; omega
        case c4 => omega
        case c5 => simp; omega
        intro v' w6 hown' hgrow _
        have hcl : rcCells (rs ++ [⟨⟨k, n, r, ids⟩, aa, cc⟩]) = rcCells rs ++ Rc.cells ⟨⟨k, n, r, ids⟩, aa, cc⟩ := by rw [rcCells_app, rcCells_one]
        have hll : (rs ++ [(⟨⟨k, n, r, ids⟩, aa, cc⟩ : Rc)]).length = rs.length + 1 := by simp
        rw [← hcl, ← hll] at hown'
        have hki : Keep 3 w4 w6 := (Keep.below HB5.out).trans (Keep.grown hrc hgrow (by decide))
        have h6 : Below w.heap.size w w6 := ((HR4.out.2.2.2.trans (HB5.out.mono hfs))).grown hgrow (by simp; omega) (fun j hj => (hrc.lt j hj).1)
        have HR6 : Hid (w6.ownsRow w.heap.size 45 4 v' (rs ++ [(⟨⟨k, n, r, ids⟩, aa, cc⟩ : Rc)]).length (rcCells (rs ++ [⟨⟨k, n, r, ids⟩, aa, cc⟩])) ∧ (∀ x ∈ rs ++ [(⟨⟨k, n, r, ids⟩, aa, cc⟩ : Rc)], IdsAt w6 x) ∧ Goes us s skip a (evs (rs ++ [⟨⟨k, n, r, ids⟩, aa, cc⟩])) (c + cv) ∧ Below w.heap.size w w6) := Lib.hid ⟨hown', fun x hx => by
            rcases List.mem_append.1 hx with hx | hx
            · exact (HR4.out.2.1 x hx).keep hki
            · rw [List.mem_singleton.1 hx]
              exact HI4.out.keep hki, by
            have h := Goes.one (us := us) (s := s) (skip := skip) (a := c) hlt (by rw [HOO.out, HCC.out]; omega)
            rw [HOO.out, HCC.out] at h
            rw [evs_app]
            exact HR4.out.2.2.1.app h, h6⟩
        clear hown' hgrow hcl hll hki h6 hrc hNew HB5 HR4 HI4
        go_wp2
        exact ⟨⟨c + cv, rs ++ [⟨⟨k, n, r, ids⟩, aa, cc⟩], by omega, by omega, by go_num, HR6⟩, by simp [RowKit.intOf]; omega⟩
    · have u1 : ¬ (c : Int) < (s.length : Int) := by omega
      go_wp2
      go_ret2
      exact ⟨_, rs, c, rfl, HR.out.1, HR.out.2.1, HR.out.2.2.1, .inl (by omega), hac, hcs, HR.out.2.2.2⟩

set_option maxRecDepth 100000 in
set_option maxHeartbeats 4000000 in
theorem rlpall_any (ap : Option Addr) (len cap : Nat) (us : List (List UInt8)) (s : List UInt8) (w : World) (hlen : len ≤ 1000000) (h0 : 0 < len) (hr : IsStrs w ap len us) (hu : ∀ t ∈ us, 0 < t.length ∧ t.length ≤ 65535) (hs : s.length ≤ 100000) (skip : Bool) :
    Calls Tryz.prog 14 #[.slice ap len cap, .string ⟨s.toArray⟩, .bool skip] w fun E w' => ∃ (v : Value) (rs : List Rc) (l : List EvR) (c : Nat), E = .returned v ∧ w'.ownsRow w.heap.size 45 4 v rs.length (rcCells rs) ∧ (∀ x ∈ rs, IdsAt w' x) ∧ Goes us s skip 0 l c ∧ Rest us s skip c ∧ evs rs = l ++ lastE us s skip c ∧ Below w.heap.size w w' := by
  have HRN := Lib.hid (rlprun_any ap len cap us s w hlen h0 hr hu hs skip 0 (Nat.zero_le _))
  have HOF := Lib.hid (fun (W : World) (hW : Below w.heap.size w W) (e : Nat) (he : 0 < e) (hes : e ≤ s.length) => rof_own ap len cap us s e W hlen (hr.below hW) hu (by omega) he hes skip)
  have S1 := Lib.hid (bsize s)
  have h00 : (0 : Int) < (len : Int) := by omega
  obtain ⟨i0, hi, hz0, hz1, hz2⟩ := info_parts rec_info
  clear hr hu
  go_enter Tryz.func14, Tryz.ntmps14
  go_wp2_with fail
  refine HRN.out.mono ?_
  rintro E w1 ⟨v, rs, c, rfl, hown, hids, hg, hrest, _, hcs, hb1⟩
  have HR1 : Hid (w1.ownsRow w.heap.size 45 4 v rs.length (rcCells rs) ∧ (∀ x ∈ rs, IdsAt w1 x) ∧ Goes us s skip 0 (evs rs) c ∧ Rest us s skip c ∧ Below w.heap.size w w1) := Lib.hid ⟨hown, hids, hg, hrest, hb1⟩
  clear hown hids hg hrest hb1 HRN
  by_cases hlt : c < s.length
  · have u1 : (c : Int) < (s.length : Int) := by omega
    have wA : IntKind.i64.wrap ((c : Int) + 1) = ((c + 1 : Nat) : Int) := by rw [IntKind.wrap_i64]; omega
    have HO := Lib.hid (HOF.out w1 HR1.out.2.2.2.2 (c + 1) (by omega) (by omega))
    obtain ⟨O, hO⟩ : ∃ O, ofR us s (c + 1) skip = O := ⟨_, rfl⟩
    rw [hO] at HO
    have HOO := Lib.hid hO
    obtain ⟨k, n, r, ids⟩ := O
    obtain ⟨left, hleft⟩ : ∃ left, s.length - c = left := ⟨_, rfl⟩
    have HLF := Lib.hid hleft
    have wB : IntKind.i64.wrap ((s.length : Int) - (c : Int)) = (left : Int) := by rw [IntKind.wrap_i64]; omega
    have wS : (s.length : Int) - (c : Int) = (left : Int) := by omega
    clear hO hleft
    go_wp2_with fail
    refine HO.out.mono ?_
    rintro E w2 ⟨aa, cc, rfl, _, ho2, hb2⟩
    dsimp only at ho2 ⊢
    have hid : IdsAt w2 ⟨⟨k, left, r, ids⟩, aa, cc⟩ := ho2.elim .inl fun h => .inr ⟨_, h⟩
    have hB3 := (Below.refl w2.heap.size w2).alloc (Nat.le_refl _) (.cells #[.int .i64 (k : Int), .int .i64 (n : Int), .int .i64 (r : Int), .slice aa ids.length cc] 45)
    have hX3 := heap_alloc_new w2 (.cells #[.int .i64 (k : Int), .int .i64 (n : Int), .int .i64 (r : Int), .slice aa ids.length cc] 45)
    obtain ⟨w3, hw3⟩ : ∃ w3, w2.alloc (.cells #[.int .i64 (k : Int), .int .i64 (n : Int), .int .i64 (r : Int), .slice aa ids.length cc] 45) = w3 := ⟨_, rfl⟩
    rw [hw3] at hX3 hB3
    have hle1 := HR1.out.2.2.2.2.size
    have hle2 := hb2.size
    obtain ⟨_, fr1, _, _⟩ := rec_free hX3
    obtain ⟨_, kr1, _, _⟩ := rec_reads hX3
    have hX4 : (w3.setCell ⟨w2.heap.size, 1, none⟩ (.int .i64 (left : Int))).heap[w2.heap.size]? = some (.cells #[.int .i64 (k : Int), .int .i64 (left : Int), .int .i64 (r : Int), .slice aa ids.length cc] 45 (0, 0)) := (put_heap hX3 _).trans rfl
    obtain ⟨w4, hw4⟩ : ∃ w4, w3.setCell ⟨w2.heap.size, 1, none⟩ (.int .i64 (left : Int)) = w4 := ⟨_, rfl⟩
    have hb13 : Below w1.heap.size w1 w4 := by rw [← hw4]; exact (hb2.trans (hB3.mono hb2.size)).setCell (p := ⟨w2.heap.size, 1, none⟩) hle2 _
    have hid4 : IdsAt w4 ⟨⟨k, left, r, ids⟩, aa, cc⟩ := by rw [← hw4]; exact (hid.keep (.below hB3)).keep (Keep.into ((Into.refl _ _).set _ _) hX3 (by decide))
    rw [hw4] at hX4
    obtain ⟨k0, k1, k2, k3⟩ := rec_reads hX4
    have HI4 := Lib.hid hid4
    have HR4 : Hid (w4.ownsRow w.heap.size 45 4 v rs.length (rcCells rs) ∧ (∀ x ∈ rs, IdsAt w4 x) ∧ Goes us s skip 0 (evs rs) c ∧ Rest us s skip c ∧ Below w.heap.size w w4) := Lib.hid ⟨(Keep.below hb13).owns HR1.out.1, fun x hx => (HR1.out.2.1 x hx).keep (.below hb13), HR1.out.2.2.1, HR1.out.2.2.2.1, HR1.out.2.2.2.2.trans (hb13.mono hle1)⟩
    have hNew := heap_alloc_new w4 (.cells #[.int .i64 (k : Int), .int .i64 (left : Int), .int .i64 (r : Int), .slice aa ids.length cc] 45)
    have hB5 := (Below.refl w4.heap.size w4).alloc (Nat.le_refl _) (.cells #[.int .i64 (k : Int), .int .i64 (left : Int), .int .i64 (r : Int), .slice aa ids.length cc] 45)
    have hrn : rs.length ≤ s.length := by
      have h := HR4.out.2.2.1.le (by omega)
      rw [evs_length] at h
      omega
    have hrn2 : (rs.length + 1) * 48 ≤ 140737488355328 := by omega
    have hfs := HR4.out.2.2.2.2.size
    have hrc := (Keep.below hB5).owns HR4.out.1
    have HB5 := Lib.hid hB5
    clear hid ho2 hb2 hB3 hX3 HO hB5 hb13 hid4 HR1 hX4
    go_wp2_with (at_builtin; (try rw [hw3]); (try rw [hw4]); refine wpList_append_own _ rfl _ _ 34 rfl w.heap.size 45 i0 (.agg #[.int .i64 0, .int .i64 0, .int .i64 0, .slice none 0 0]) 4 48 Tryz.underlying34 hi hz0 hz1 hz2 rfl (by decide) _ _ _ rfl hrc ⟨w4.heap.size, 0, none⟩ 1 1 (Rc.cells ⟨⟨k, left, r, ids⟩, aa, cc⟩) rfl rfl ?c1 ?c2 ?c3 ?c4 ?c5 ?_)
    case c1 => first | exact rec_news (x := ⟨⟨k, left, r, ids⟩, aa, cc⟩) hNew | exact fun j u hj => hj
    case c2 =>
      intro u hu
      simp [Rc.cells, Rc.sl] at hu
      rcases hu with rfl | rfl | rfl | rfl <;> rfl
    case c3 => unfold maxLen; omega
    any_goals (first | omega | (simp; omega))
    intro v' w6 hown' hgrow _
    have hcl : rcCells (rs ++ [⟨⟨k, left, r, ids⟩, aa, cc⟩]) = rcCells rs ++ Rc.cells ⟨⟨k, left, r, ids⟩, aa, cc⟩ := by rw [rcCells_app, rcCells_one]
    have hll : (rs ++ [(⟨⟨k, left, r, ids⟩, aa, cc⟩ : Rc)]).length = rs.length + 1 := by simp
    rw [← hcl, ← hll] at hown'
    have hki : Keep 3 w4 w6 := (Keep.below HB5.out).trans (Keep.grown hrc hgrow (by decide))
    have h6 : Below w.heap.size w w6 := ((HR4.out.2.2.2.2.trans (HB5.out.mono hfs))).grown hgrow (by simp; omega) (fun j hj => (hrc.lt j hj).1)
    have HF : Hid (w6.ownsRow w.heap.size 45 4 v' (rs ++ [(⟨⟨k, left, r, ids⟩, aa, cc⟩ : Rc)]).length (rcCells (rs ++ [⟨⟨k, left, r, ids⟩, aa, cc⟩])) ∧ (∀ x ∈ rs ++ [(⟨⟨k, left, r, ids⟩, aa, cc⟩ : Rc)], IdsAt w6 x) ∧ evs (rs ++ [⟨⟨k, left, r, ids⟩, aa, cc⟩]) = evs rs ++ lastE us s skip c ∧ Below w.heap.size w w6) := Lib.hid ⟨hown', fun x hx => by
        rcases List.mem_append.1 hx with hx | hx
        · exact (HR4.out.2.1 x hx).keep hki
        · rw [List.mem_singleton.1 hx]
          exact HI4.out.keep hki, by
        unfold lastE lastR
        rw [if_pos hlt, HOO.out, HLF.out, evs_app]
        rfl, h6⟩
    clear hown' hgrow hcl hll hki h6 hrc hNew HB5 HI4
    go_wp2
    go_ret
    exact ⟨_, _, evs rs, c, rfl, HF.out.1, HF.out.2.1, HR4.out.2.2.1, HR4.out.2.2.2.1, HF.out.2.2.1, HF.out.2.2.2⟩
  · have u1 : ¬ (c : Int) < (s.length : Int) := by omega
    go_wp2
    go_ret
    refine ⟨_, rs, evs rs, c, rfl, HR1.out.1, HR1.out.2.1, HR1.out.2.2.1, HR1.out.2.2.2.1, ?_, HR1.out.2.2.2.2⟩
    unfold lastE
    rw [if_neg hlt, List.append_nil]
end Go.Proofs.YtmgcdhcidojdhaaGreat
