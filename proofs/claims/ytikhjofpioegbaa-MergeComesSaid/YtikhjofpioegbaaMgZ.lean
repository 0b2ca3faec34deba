/-
  The law MergeComes: walked.
-/
import Derived.Test.YtikhjofpioegbaaMgV
import Derived.Test.YtikhjofpioegbaaRgnAt
import Derived.Test.YtikhjofpioegbaaStepAp
import Derived.Lib.QuietBelow
import Derived.BigQuiet
import Derived.Deep.CutRange
set_option linter.unusedSimpArgs false
set_option linter.unusedVariables false
namespace Go.Proofs.Ytikhjofpioegbaa
open Go.RowKit

set_option maxRecDepth 100000 in
set_option maxHeartbeats 1000000 in
theorem mergeComes_many (a : Option Addr) (m ca : Nat) (rs : List Rv) (fl : Int) (w : World) (hn : rs.length = m) (ha : RecAt w a rs) (hfw : fewM rs 20 = false) :
    Calls Try.prog 4 #[.slice a m ca, .int .u32 fl] w fun e w' => e = .returned (.bool true) ∧ Below w.heap.size w w' := by
  have HF := Lib.hid (mgfew_any a m ca 20 rs w hn (by omega) ha false hfw)
  clear ha hfw
  go_enter Try.func4, Try.ntmps4
  go_wp2_with fail
  refine HF.out.mono ?_
  rintro E w1 ⟨rfl, rfl⟩
  clear HF
  go_wp2_with fail
  refine (mgawake_any _).mono ?_
  rintro E w2 ⟨rfl, hb⟩
  go_wp2
  go_ret
  exact ⟨rfl, hb⟩

set_option maxRecDepth 100000 in
set_option maxHeartbeats 16000000 in
theorem mergeComes_walk (a : Option Addr) (m ca : Nat) (rs : List Rv) (fl : Int) (w : World) (hn : rs.length = m) (ha : RecAt w a rs) (hrd : ∀ x ∈ rs, Rd w x) (hfw : fewM rs 20 = true) :
    Calls Try.prog 4 #[.slice a m ca, .int .u32 fl] w fun e w' => e = .returned (.bool true) ∧ Below w.heap.size w w' := by
  have hmx : Try.prog.follows .mixedOrders = true := by kernel_rfl
  obtain ⟨i0, hi, hz0, hz1, hz2⟩ := info_parts rec_info
  have HA := Lib.hid ha
  have HRD := Lib.hid hrd
  have HN := Lib.hid hn
  have HF := Lib.hid (mgfew_any a m ca 20 rs w hn (by omega) ha true hfw)
  obtain ⟨hm, h30⟩ := fewM_yes hfw
  have H30 := Lib.hid h30
  have hm20 : m ≤ 20 := by omega
  have hX := heap_alloc_new w (.cells #[.int .i64 0, .int .i64 0, .int .i64 0, .slice none 0 0, .bool false] 41)
  have hB := (Below.refl w.heap.size w).alloc (Nat.le_refl _) (.cells #[.int .i64 0, .int .i64 0, .int .i64 0, .slice none 0 0, .bool false] 41)
  have H0 : Hid (HAt w (w.alloc (.cells #[.int .i64 0, .int .i64 0, .int .i64 0, .slice none 0 0, .bool false] 41)) w.heap.size (.slice none 0 0) [] rv0 false) := Lib.hid ⟨hB, hX, .inl ⟨rfl, rfl, rfl, rfl⟩⟩
  clear ha hrd hfw hm h30 hX hB
  go_enter Try.func4, Try.ntmps4
  go_wp2_with fail
  refine HF.out.mono ?_
  rintro E w1 ⟨rfl, rfl⟩
  clear HF
  go_wp2
  go_loopw [7, 8] (fun v i wr => ∃ (k : Nat) (hs : List Rv) (y : Rv) (s : Bool), k ≤ m ∧ i = .int .i64 (k : Int) ∧ Hid (∀ z ∈ hs, z.len ≤ 30) ∧ Hid (HAt w1 wr w1.heap.size v hs y s)) (fun _ i _ => m - (RowKit.intOf i).toNat)
  case atStart => exact ⟨0, [], rv0, false, Nat.zero_le _, rfl, Lib.hid (fun z h => by cases h), H0⟩
  case round =>
    obtain ⟨k, hs, y, s, hk, rfl, HHS, HM⟩ := hrel
    by_cases hlt : k < m
    · obtain ⟨b1, off1, x, rfl, hx, c0, c1, c2, c3⟩ := (HA.out.below HM.out.below).get (i := k) (by omega)
      have u0 : (0 : Int) ≤ (k : Int) := by omega
      have u1 : (k : Int) < (m : Int) := by omega
      have hxr := HRD.out x (List.mem_of_getElem? hx)
      have hxl := H30.out x (List.mem_of_getElem? hx)
      obtain ⟨y1, y2, y3, y4, y5, y6⟩ := y
      obtain ⟨xk, xn, xr, xa, xl, xc⟩ := x
      have HC1 := Lib.hid (show Cells4 w1 b1 (off1 + k * 4) ⟨xk, xn, xr, xa, xl, xc⟩ from by
        obtain ⟨b2, off2, x2, he, hx2, d⟩ := HA.out.get (i := k) (by omega)
        simp only [Option.some.injEq, Addr.mk.injEq, and_true] at he
        obtain ⟨rfl, rfl⟩ := he
        rw [hx] at hx2
        injection hx2 with hx2
        subst hx2
        exact d)
      dsimp only at c0 c1 c2 c3 hxl
      have HADD := Lib.hid (mgadd_any HM.out.below (Nat.le_refl _) y1 y2 y3 y4 y5 y6 s HM.out.ism xk xn xr xa xl xc hxr (by omega))
      clear hx
      go_upto_region 9 with fail
      go_cut [9, 10] from 24 to 140 (fun p9 q10 wx => ∃ (rb : Nat) (pre : List Rv) (h' y' R : Rv) (B : Bool), p9 = .pointer (some ⟨rb, 0, none⟩) ∧ q10 = .bool B ∧ Hid (wx.heap[rb]? = some (.cells #[.int .i64 R.k, .int .i64 R.n, .int .i64 R.r, .slice R.a R.len R.cap] 24 (0, 0))) ∧ Hid (Aft w1 wx w1.heap.size u7 hs pre ⟨xk, xn, xr, xa, xl, xc⟩ h' y' R B))
      case first =>
        go_wp2_with fail
        refine HADD.out.mono ?_
        rintro E w2 ⟨hb2, h2⟩
        rcases h2 with ⟨ht, rfl, hi2⟩ | ⟨ht, rfl, z, hi2, hc2⟩
        · have hA2 := HM.out.hit (Nat.le_refl _) hb2 ht hi2
          have q1 := Lib.hid (heap_alloc_new w2 (.cells #[.int .i64 0, .int .i64 0, .int .i64 0, .slice none 0 0] 24))
          have q2 := Lib.hid (hA2.same ((Below.refl w2.heap.size w2).alloc (Nat.le_refl _) (.cells #[.int .i64 0, .int .i64 0, .int .i64 0, .slice none 0 0] 24)))
          clear hA2 hb2 ht hi2
          go_wp2_with fail
          go_meet
          exact ⟨_, _, _, _, _, _, rfl, rfl, q1, q2⟩
        · have hA2 := HM.out.miss (Nat.le_refl _) hb2 ht hi2 hc2
          have q1 := Lib.hid (heap_alloc_new w2 (.cells #[.int .i64 y1, .int .i64 y2, .int .i64 y3, .slice y4 y5 y6] 24))
          have q2 := Lib.hid (hA2.same ((Below.refl w2.heap.size w2).alloc (Nat.le_refl _) (.cells #[.int .i64 y1, .int .i64 y2, .int .i64 y3, .slice y4 y5 y6] 24)))
          clear hA2 hb2 ht hi2 hc2
          go_wp2_with fail
          go_meet
          exact ⟨_, _, _, _, _, _, rfl, rfl, q1, q2⟩
      case rest =>
        obtain ⟨rb, pre, h', y', R, B, rfl, rfl, HX, HAF⟩ := hcut
        obtain ⟨W, hW⟩ : ∃ W, W = wc := ⟨_, rfl⟩
        subst hW
        clear c0 c1 c2 c3 HADD HM
        have hCW := HC1.out.below HAF.out.below
        obtain ⟨c0, c1, c2, c3⟩ := id hCW
        have a0 := fun o => rv_alloc (w := W) (b := b1) c0 o
        have a1 := fun o => rv_alloc (w := W) (b := b1) c1 o
        have a2 := fun o => rv_alloc (w := W) (b := b1) c2 o
        have a3 := fun o => rv_alloc (w := W) (b := b1) c3 o
        have a0' := fun o => rv_alloc (w := W.drew) (b := b1) c0 o
        have a1' := fun o => rv_alloc (w := W.drew) (b := b1) c1 o
        have a2' := fun o => rv_alloc (w := W.drew) (b := b1) c2 o
        have a3' := fun o => rv_alloc (w := W.drew) (b := b1) c3 o
        have OA := World.ownsRow_made (base := W.heap.size) (e := 24) (size := 4) W #[] 0 (Nat.le_refl _) (by unfold maxLen; omega) rfl
        have OB := OA.alloc (.cells #[.int .i64 xk, .int .i64 xn, .int .i64 xr, .slice xa xl xc] 24)
        have OG0 := World.ownsRow_made (base := W.heap.size) (e := 24) (size := 4) (W.alloc (.cells #[.int .i64 xk, .int .i64 xn, .int .i64 xr, .slice xa xl xc] 24)) #[] 0 (by simp) (by unfold maxLen; omega) rfl
        have OG : ((W.alloc (.cells #[.int .i64 xk, .int .i64 xn, .int .i64 xr, .slice xa xl xc] 24)).alloc (.cells #[] 24)).ownsRow W.heap.size 24 4 (.slice (some ⟨W.heap.size + 1, 0, none⟩) 0 0) 0 [] := by simpa using OG0
        have NB : ∀ j u, (Rv.cells ⟨xk, xn, xr, xa, xl, xc⟩)[j]? = some u → ((W.alloc (.cells #[] 24)).alloc (.cells #[.int .i64 xk, .int .i64 xn, .int .i64 xr, .slice xa xl xc] 24)).cell? ((⟨W.heap.size + 1, 0, none⟩ : Addr).add j) = some u := fun j u hj => by
          have h := heap_alloc_new (W.alloc (.cells #[] 24)) (.cells #[.int .i64 xk, .int .i64 xn, .int .i64 xr, .slice xa xl xc] 24)
          rw [show (W.alloc (.cells #[] 24)).heap.size = W.heap.size + 1 by simp] at h
          rw [addPlain, Nat.zero_add, Lib.cell_of_heap h]
          simpa [Rv.cells, Rv.sl] using hj
        have NG : ∀ j u, (Rv.cells ⟨xk, xn, xr, xa, xl, xc⟩)[j]? = some u → ((W.alloc (.cells #[.int .i64 xk, .int .i64 xn, .int .i64 xr, .slice xa xl xc] 24)).alloc (.cells #[] 24)).cell? ((⟨W.heap.size, 0, none⟩ : Addr).add j) = some u := fun j u hj => by
          have h := heap_alloc_new W (.cells #[.int .i64 xk, .int .i64 xn, .int .i64 xr, .slice xa xl xc] 24)
          rw [addPlain, Nat.zero_add]
          refine rv_alloc ?_ _
          rw [Lib.cell_of_heap h]
          simpa [Rv.cells, Rv.sl] using hj
        have BA : Below W.heap.size W (W.alloc (.cells #[] 24)) := (Below.refl W.heap.size W).alloc (Nat.le_refl _) _
        have BB : Below W.heap.size W ((W.alloc (.cells #[] 24)).alloc (.cells #[.int .i64 xk, .int .i64 xn, .int .i64 xr, .slice xa xl xc] 24)) := BA.alloc BA.size _
        have BX : Below W.heap.size W (W.alloc (.cells #[.int .i64 xk, .int .i64 xn, .int .i64 xr, .slice xa xl xc] 24)) := (Below.refl W.heap.size W).alloc (Nat.le_refl _) _
        have BG : Below W.heap.size W ((W.alloc (.cells #[.int .i64 xk, .int .i64 xn, .int .i64 xr, .slice xa xl xc] 24)).alloc (.cells #[] 24)) := BX.alloc BX.size _
        clear OG0
        have HAFH := Lib.hid HAF.out.held
        have hall := HAF.out.all
        have HALL := Lib.hid (fun (W' : World) a c (h : RecAt W' a (hs ++ [(⟨xk, xn, xr, xa, xl, xc⟩ : Rv)])) => mgrall_any a (hs ++ [(⟨xk, xn, xr, xa, xl, xc⟩ : Rv)]).length c (hs ++ [(⟨xk, xn, xr, xa, xl, xc⟩ : Rv)]) W' rfl (by have hl : hs.length ≤ 1 := (by rcases HAF.out.held with ⟨h, _⟩ | ⟨z, _, _, _, h, _⟩ <;> rw [h] <;> simp); simp; omega) h)
        unfold RetAllV at HALL
        rw [hall, List.length_append, List.length_append] at HALL
        simp only [List.length_cons, List.length_nil, Nat.zero_add] at HALL
        clear hall
        go_upto_region 10 with fail
        go_cut [11] from 24 to 140 (fun v11 wx => ∃ (na : Option Addr) (nc L : Nat), v11 = .slice na L nc ∧ Hid (L = pre.length + 1 ∧ L ≤ nc ∧ RecAt wx na (pre ++ [h']) ∧ ∀ g off sp, na = some ⟨g, off, sp⟩ → W.heap.size ≤ g) ∧ Hid (Below W.heap.size W wx))
        case first =>
          rcases HAFH.out with ⟨rfl, rfl⟩ | ⟨h, g, off, c, rfl, rfl, hc4⟩
          · simp only [List.length_nil, Nat.zero_add] at HALL
            go_region_law (first
            | (refine step_append_no rfl (.tmp 38) (.tmp 39) _ rfl W.heap.size 24 i0 4 Try.underlying25 hi hz1 (.slice (some ⟨W.heap.size, 0, none⟩) 0 0) 0 [] (by simp [Act.eval, Act.put]) OA (by simp [Act.eval, Act.put]) ?_)
            | (refine step_append_no rfl (.tmp 38) (.tmp 39) _ rfl W.heap.size 24 i0 4 Try.underlying25 hi hz1 (.slice (some ⟨W.heap.size, 0, none⟩) 0 0) 0 [] (by simp [Act.eval, Act.put]) OB (by simp [Act.eval, Act.put]) ?_)
            | (refine step_append_no rfl (.tmp 38) (.tmp 39) _ rfl W.heap.size 24 i0 4 Try.underlying25 hi hz1 (.slice (some ⟨W.heap.size + 1, 0, none⟩) 0 0) 0 [] (by simp [Act.eval, Act.put]) OG (by simp [Act.eval, Act.put]) ?_)
            | (refine step_append_any rfl (.tmp 40) (.tmp 45) _ rfl W.heap.size 24 i0 (.agg #[.int .i64 0, .int .i64 0, .int .i64 0, .slice none 0 0]) 4 48 Try.underlying25 hi hz0 hz1 hz2 rfl (by decide) (.slice (some ⟨W.heap.size, 0, none⟩) 0 0) 0 [] (by simp [Act.eval, Act.put]) OB ⟨W.heap.size + 1, 0, none⟩ 1 1 (Rv.cells ⟨xk, xn, xr, xa, xl, xc⟩) (by simp [Act.eval, Act.put]) rfl NB rv_one1 (by decide) (by decide) BB.size ?_
               intro v3 w7 own3 grow3
               have B7 : Below W.heap.size W w7 := BB.grown ⟨grow3.os, grow3.tape, grow3.output, grow3.size, grow3.block⟩ BB.size (fun j hj => (OB.lt j hj).1)
               have own4 : w7.ownsRow W.heap.size 24 4 v3 1 (rvCells ([] ++ [⟨xk, xn, xr, xa, xl, xc⟩])) := by simpa [rvCells] using own3
               obtain ⟨sa, sc, rfl, hr3⟩ := owns_rv own4 rfl)
            | (refine step_append_any rfl (.tmp 40) (.tmp 45) _ rfl W.heap.size 24 i0 (.agg #[.int .i64 0, .int .i64 0, .int .i64 0, .slice none 0 0]) 4 48 Try.underlying25 hi hz0 hz1 hz2 rfl (by decide) (.slice (some ⟨W.heap.size + 1, 0, none⟩) 0 0) 0 [] (by simp [Act.eval, Act.put]) OG ⟨W.heap.size, 0, none⟩ 1 1 (Rv.cells ⟨xk, xn, xr, xa, xl, xc⟩) (by simp [Act.eval, Act.put]) rfl NG rv_one1 (by decide) (by decide) BG.size ?_
               intro v3 w7 own3 grow3
               have B7 : Below W.heap.size W w7 := BG.grown ⟨grow3.os, grow3.tape, grow3.output, grow3.size, grow3.block⟩ BG.size (fun j hj => (OG.lt j hj).1)
               have own4 : w7.ownsRow W.heap.size 24 4 v3 1 (rvCells ([] ++ [⟨xk, xn, xr, xa, xl, xc⟩])) := by simpa [rvCells] using own3
               obtain ⟨sa, sc, rfl, hr3⟩ := owns_rv own4 rfl)
            | (rw [if_pos (by simp [Region.wanted])]
               go_simp
               go_at_call 17
               refine (HALL.out w7 sa sc hr3).mono ?_
               rintro E w8 ⟨na, nc, rfl, hle, hra, hbl, hb8⟩))
            all_goals
              have q1 := Lib.hid (And.intro hle (And.intro hra (fun g off sp e => Nat.le_trans B7.size (hbl g off sp e))))
              have q2 := Lib.hid (B7.trans (hb8.mono B7.size))
              clear hle hra hbl hb8 own3 own4 grow3 B7 hr3 OA OB OG NB NG BA BB BX BG a0 a1 a2 a3 a0' a1' a2' a3' c0 c1 c2 c3
              go_wp2_with fail
              go_meet
              exact ⟨na, nc, _, rfl, Lib.hid ⟨rfl, q1.out⟩, q2⟩
          · simp only [List.length_cons, List.length_nil, Nat.zero_add] at HALL
            go_region_law (first
            | (refine step_append_any rfl (.tmp 38) (.tmp 39) _ rfl W.heap.size 24 i0 (.agg #[.int .i64 0, .int .i64 0, .int .i64 0, .slice none 0 0]) 4 48 Try.underlying25 hi hz0 hz1 hz2 rfl (by decide) (.slice (some ⟨W.heap.size, 0, none⟩) 0 0) 0 [] (by simp [Act.eval, Act.put]) OA ⟨g, off, none⟩ 1 c (Rv.cells h) (by simp [Act.eval, Act.put]) rfl ((hc4.below BA).news) rv_one1 (by decide) (by decide) BA.size ?_
               intro v2 w6 own2 grow2
               have B6 : Below W.heap.size W w6 := BA.grown ⟨grow2.os, grow2.tape, grow2.output, grow2.size, grow2.block⟩ BA.size (fun j hj => (OA.lt j hj).1)
               skip
               obtain ⟨l0, l1, l2, l3⟩ := hCW.below B6)
            | (refine step_append_any rfl (.tmp 38) (.tmp 39) _ rfl W.heap.size 24 i0 (.agg #[.int .i64 0, .int .i64 0, .int .i64 0, .slice none 0 0]) 4 48 Try.underlying25 hi hz0 hz1 hz2 rfl (by decide) (.slice (some ⟨W.heap.size, 0, none⟩) 0 0) 0 [] (by simp [Act.eval, Act.put]) OB ⟨g, off, none⟩ 1 c (Rv.cells h) (by simp [Act.eval, Act.put]) rfl ((hc4.below BB).news) rv_one1 (by decide) (by decide) BB.size ?_
               intro v2 w6 own2 grow2
               have B6 : Below W.heap.size W w6 := BB.grown ⟨grow2.os, grow2.tape, grow2.output, grow2.size, grow2.block⟩ BB.size (fun j hj => (OB.lt j hj).1)
               have NL : ∀ j u, (Rv.cells ⟨xk, xn, xr, xa, xl, xc⟩)[j]? = some u → w6.cell? ((⟨W.heap.size + 1, 0, none⟩ : Addr).add j) = some u := fun j u hj => by
                 have := NB j u hj
                 rw [addPlain, Nat.zero_add] at this ⊢
                 rw [← this]
                 exact World.grownBy.cell_far ⟨grow2.os, grow2.tape, grow2.output, grow2.size, grow2.block⟩ _ (by simp; try omega) (by simp [Value.ownBlock])
               obtain ⟨l0, l1, l2, l3⟩ := hCW.below B6)
            | (refine step_append_any rfl (.tmp 38) (.tmp 39) _ rfl W.heap.size 24 i0 (.agg #[.int .i64 0, .int .i64 0, .int .i64 0, .slice none 0 0]) 4 48 Try.underlying25 hi hz0 hz1 hz2 rfl (by decide) (.slice (some ⟨W.heap.size + 1, 0, none⟩) 0 0) 0 [] (by simp [Act.eval, Act.put]) OG ⟨g, off, none⟩ 1 c (Rv.cells h) (by simp [Act.eval, Act.put]) rfl ((hc4.below BG).news) rv_one1 (by decide) (by decide) BG.size ?_
               intro v2 w6 own2 grow2
               have B6 : Below W.heap.size W w6 := BG.grown ⟨grow2.os, grow2.tape, grow2.output, grow2.size, grow2.block⟩ BG.size (fun j hj => (OG.lt j hj).1)
               have NL : ∀ j u, (Rv.cells ⟨xk, xn, xr, xa, xl, xc⟩)[j]? = some u → w6.cell? ((⟨W.heap.size, 0, none⟩ : Addr).add j) = some u := fun j u hj => by
                 have := NG j u hj
                 rw [addPlain, Nat.zero_add] at this ⊢
                 rw [← this]
                 exact World.grownBy.cell_far ⟨grow2.os, grow2.tape, grow2.output, grow2.size, grow2.block⟩ _ (by simp; try omega) (by simp [Value.ownBlock])
               obtain ⟨l0, l1, l2, l3⟩ := hCW.below B6)
            | (refine step_append_any rfl (.tmp 40) (.tmp 45) _ rfl W.heap.size 24 i0 (.agg #[.int .i64 0, .int .i64 0, .int .i64 0, .slice none 0 0]) 4 48 Try.underlying25 hi hz0 hz1 hz2 rfl (by decide) v2 (0 + 1) ([] ++ Rv.cells h) (by simp [Act.eval, Act.put]) (own2.alloc _) ⟨w6.heap.size, 0, none⟩ 1 1 (Rv.cells ⟨xk, xn, xr, xa, xl, xc⟩) (by simp [Act.eval, Act.put]) rfl (fun j u hj => by rw [addPlain, Nat.zero_add, Lib.cell_of_heap (heap_alloc_new w6 _)]; simpa [Rv.cells, Rv.sl] using hj) rv_one1 (by decide) (by decide) (Nat.le_trans B6.size (by simp)) ?_
               intro v3 w7 own3 grow3
               have B7 : Below W.heap.size W w7 := (B6.alloc B6.size (.cells #[.int .i64 xk, .int .i64 xn, .int .i64 xr, .slice xa xl xc] 24)).grown ⟨grow3.os, grow3.tape, grow3.output, grow3.size, grow3.block⟩ (Nat.le_trans B6.size (by simp)) (fun j hj => (own2.lt j hj).1)
               have own4 : w7.ownsRow W.heap.size 24 4 v3 2 (rvCells ([h] ++ [⟨xk, xn, xr, xa, xl, xc⟩])) := by simpa [rvCells] using own3
               obtain ⟨sa, sc, rfl, hr3⟩ := owns_rv own4 rfl)
            | (refine step_append_any rfl (.tmp 40) (.tmp 45) _ rfl W.heap.size 24 i0 (.agg #[.int .i64 0, .int .i64 0, .int .i64 0, .slice none 0 0]) 4 48 Try.underlying25 hi hz0 hz1 hz2 rfl (by decide) v2 (0 + 1) ([] ++ Rv.cells h) (by simp [Act.eval, Act.put]) own2 ⟨_, 0, none⟩ 1 1 (Rv.cells ⟨xk, xn, xr, xa, xl, xc⟩) (by simp [Act.eval, Act.put]) rfl NL rv_one1 (by decide) (by decide) B6.size ?_
               intro v3 w7 own3 grow3
               have B7 : Below W.heap.size W w7 := B6.grown ⟨grow3.os, grow3.tape, grow3.output, grow3.size, grow3.block⟩ B6.size (fun j hj => (own2.lt j hj).1)
               have own4 : w7.ownsRow W.heap.size 24 4 v3 2 (rvCells ([h] ++ [⟨xk, xn, xr, xa, xl, xc⟩])) := by simpa [rvCells] using own3
               obtain ⟨sa, sc, rfl, hr3⟩ := owns_rv own4 rfl)
            | (rw [if_pos (by simp [Region.wanted])]
               go_simp
               go_at_call 17
               refine (HALL.out w7 sa sc hr3).mono ?_
               rintro E w8 ⟨na, nc, rfl, hle, hra, hbl, hb8⟩))
            all_goals
              have q1 := Lib.hid (And.intro hle (And.intro hra (fun g off sp e => Nat.le_trans B7.size (hbl g off sp e))))
              have q2 := Lib.hid (B7.trans (hb8.mono B7.size))
              clear hle hra hbl hb8 own3 own4 grow3 B7 hr3 own2 grow2 B6 l0 l1 l2 l3 OA OB OG NB NG BA BB BX BG a0 a1 a2 a3 a0' a1' a2' a3' c0 c1 c2 c3
              go_wp2_with fail
              go_meet
              exact ⟨na, nc, _, rfl, Lib.hid ⟨rfl, q1.out⟩, q2⟩
        case rest =>
          obtain ⟨na, nc, L, rfl, HN1, HB1⟩ := hcut
          obtain ⟨W4, hW4⟩ : ∃ W4, W4 = wc := ⟨_, rfl⟩
          subst hW4
          clear OA OB OG NB NG BA BB BX BG a0 a1 a2 a3 a0' a1' a2' a3' c0 c1 c2 c3 HALL HAFH hCW
          have HAF4 := Lib.hid (HAF.out.same HB1.out)
          have HX4 := Lib.hid ((HB1.out.block _ (heap_lt HX.out)).trans HX.out)
          clear HX
          go_upto_region 11 with fail
          go_cut [73] from 24 to 140 (fun q wx => q = .bool false ∧ Hid (Below W4.heap.size W4 wx))
          case first =>
            rcases HAF4.out.told with ⟨rfl, h0, rfl, hcp⟩ | ⟨rfl, rfl, rfl⟩
            · obtain ⟨g, off, z, rfl, hz, n0, n1, n2, n3⟩ := HN1.out.2.2.1.get (i := 0) (by simp)
              have hl2 : L = 2 := HN1.out.1
              subst hl2
              simp at hz
              subst hz
              rw [Nat.zero_mul, Nat.add_zero] at n0 n1 n2 n3
              have hh0l : h0.len ≤ 30 := by
                have hm0 : h0 ∈ mgAll (hs ++ [(⟨xk, xn, xr, xa, xl, xc⟩ : Rv)]) := by rw [HAF4.out.all]; simp
                rcases mga_from _ _ hm0 with h | h
                · rcases List.mem_append.1 h with h | h
                  · exact HHS.out h0 h
                  · rw [List.mem_singleton] at h
                    rw [h]; exact hxl
                · rw [h]; exact Nat.zero_le _
              have he := hcp.eqv HAF4.out.below (by unfold maxLen; omega)
              obtain ⟨⟨e1, e2, e3, e4⟩, _, zs, hzl, r1, r2⟩ := he
              obtain ⟨rk, rn, rr, ra, rl, rc⟩ := R
              obtain ⟨hk0, hn0, hr0, ha0, hl0, hc0⟩ := h0
              dsimp only at e1 e2 e3 e4 n0 n1 n2 n3 hzl r1 r2 hh0l
              subst e1 e2 e3 e4
              obtain ⟨k0, k1, k2, k3⟩ := rec_reads HX4.out
              have G1 := regrown_at (w := W4) (fun Wx hW => mgsame_any rk rn rr rl ra ha0 rc hc0 zs Wx (by omega) (r2.below hW) (r1.below hW))
              have q0 := cell_regrown k0
              have q1 := cell_regrown k1
              have q2 := cell_regrown k2
              have q3 := cell_regrown k3
              have p0 := cell_regrown n0
              have p1 := cell_regrown n1
              have p2 := cell_regrown n2
              have p3 := cell_regrown n3
              clear k0 k1 k2 k3 n0 n1 n2 n3 r1 r2 hcp hzl
              go_wp2_with fail
              refine wp_region_quiet_below hmx (by kernel_rfl) ?_
              repeat (go_big_quiet_step (first | with_reducible exact G1 _ _))
              refine wpQuiet_nil ?_
              intro W6 hw6
              obtain ⟨⟨dq, osq⟩, rfl⟩ := hw6
              have b6 := below_regrown W4 dq osq
              generalize Go.Sort.grow (redrawn W4 dq) osq = w6 at b6 ⊢
              go_wp2_with fail
              go_meet
              exact ⟨rfl, Lib.hid b6⟩
            · have hl1 : L = 1 := HN1.out.1
              subst hl1
              have hx0 := HX4.out
              dsimp only [rv0] at hx0
              obtain ⟨k0, k1, k2, k3⟩ := rec_reads hx0
              clear hx0
              have G1 := regrown_at (w := W4) (fun Wx hW => mgsame_any 0 0 0 0 none none 0 0 [] Wx (by omega) (.inl rfl) (.inl rfl))
              have q0 := cell_regrown k0
              have q1 := cell_regrown k1
              have q2 := cell_regrown k2
              have q3 := cell_regrown k3
              clear k0 k1 k2 k3
              go_wp2_with fail
              refine wp_region_quiet_below hmx (by kernel_rfl) ?_
              repeat (go_big_quiet_step (first | with_reducible exact G1 _ _))
              refine wpQuiet_nil ?_
              intro W6 hw6
              obtain ⟨⟨dq, osq⟩, rfl⟩ := hw6
              have b6 := below_regrown W4 dq osq
              generalize Go.Sort.grow (redrawn W4 dq) osq = w6 at b6 ⊢
              go_wp2_with fail
              go_meet
              exact ⟨rfl, Lib.hid b6⟩
          case rest =>
            obtain ⟨rfl, HB5⟩ := hcut
            obtain ⟨W5, hW5⟩ : ∃ W5, W5 = wc := ⟨_, rfl⟩
            subst hW5
            have hA5 := HAF4.out.same HB5.out
            have hism := HAF.out.ism.lt
            obtain ⟨g, off, z, rfl, hz, n0, n1, n2, n3⟩ := (HN1.out.2.2.1.below HB5.out).get (i := pre.length) (by simp)
            have hz' : h' = z := by simpa using hz
            subst hz'
            have hgM : g ≠ w1.heap.size := by have := HN1.out.2.2.2 g off none rfl; omega
            have hL : L = pre.length + 1 := HN1.out.1
            have hLc : L ≤ nc := HN1.out.2.1
            have hpl : pre.length ≤ 1 := by
              rcases HAF4.out.told with ⟨_, h0, h, _⟩ | ⟨_, h, _⟩ <;> rw [h] <;> simp
            obtain ⟨p, hp⟩ : ∃ p, pre.length = p := ⟨_, rfl⟩
            rw [hp] at n0 n1 n2 n3 hL hpl
            have HLP := Lib.hid hL
            have HC5 := Lib.hid (show Cells4 W5 g (off + p * 4) h' from ⟨n0, n1, n2, n3⟩)
            have HA5 := Lib.hid hA5
            have HGM := Lib.hid hgM
            have hh'l : h'.len ≤ 30 := by
              have hm0 : h' ∈ mgAll (hs ++ [(⟨xk, xn, xr, xa, xl, xc⟩ : Rv)]) := by rw [HAF4.out.all]; simp
              rcases mga_from _ _ hm0 with h | h
              · rcases List.mem_append.1 h with h | h
                · exact HHS.out h' h
                · rw [List.mem_singleton] at h
                  rw [h]; exact hxl
              · rw [h]; exact Nat.zero_le _
            have HHL := Lib.hid hh'l
            have v1 : IntKind.i64.wrap ((L : Int) - 1) = (p : Int) := by rw [IntKind.wrap_i64]; omega
            have v2 : (0 : Int) ≤ (p : Int) := by omega
            have v3 : (p : Int) ≤ (L : Int) := by omega
            have v4 : (L : Int) ≤ (nc : Int) := by omega
            have v5 : ¬ nc = p := by omega
            have v6 : (L : Int) - (p : Int) = ((1 : Nat) : Int) := by omega
            have v7 : (nc : Int) - (p : Int) = ((nc - p : Nat) : Int) := by omega
            clear n0 n1 n2 n3 hA5 hism hgM hz hp hL hLc hh'l hpl
            go_upto_region 14 with fail
            go_cut [83] from 24 to 140 (fun q wx => ∃ β : Bool, q = .bool β ∧ wx = W5)
            case first =>
              go_wp2_with fail
              go_meet
              exact ⟨_, rfl, rfl⟩
            case rest =>
              obtain ⟨β, rfl, rfl⟩ := hcut
              obtain ⟨z1, z2, z3, z4, z5, z6⟩ := y'
              rw [show L - p = 1 by have := HLP.out; omega]
              clear v1 v2 v3 v4 v5 v6 v7
              go_upto_if 83 with fail
              go_cut [7, 12, 13, 14, 15] from 24 to 140 (fun v7 _ _ _ _ wx => ∃ (hs : List Rv) (y : Rv) (s : Bool), Hid (∀ z ∈ hs, z.len ≤ 30) ∧ Hid (HAt w1 wx w1.heap.size v7 hs y s))
              case first =>
                cases β with
                | false =>
                  have q1 : Hid (HAt w1 wc w1.heap.size (.slice (some ⟨g, off + p * 4, none⟩) 1 (nc - p)) [h'] ⟨z1, z2, z3, z4, z5, z6⟩ true) := Lib.hid ⟨HA5.out.below, HA5.out.ism, .inr ⟨rfl, h', g, off + p * 4, nc - p, rfl, rfl, HGM.out, HC5.out, HA5.out.cp⟩⟩
                  go_wp2_with fail
                  go_meet
                  exact ⟨[h'], _, true, Lib.hid (fun z hz => by rw [List.mem_singleton] at hz; rw [hz]; exact HHL.out), q1⟩
                | true =>
                  have HFL := Lib.hid (mgflush_any z1 z2 z3 z4 z5 z6 true HA5.out.ism)
                  go_wp2_with fail
                  refine HFL.out.mono ?_
                  rintro E w6 ⟨rfl, hi6, hb6⟩
                  have hX7 := heap_alloc_new w6 (.cells #[.int .i64 z1, .int .i64 z2, .int .i64 z3, .slice z4 z5 z6] 24)
                  have hB7 := (Below.refl w6.heap.size w6).alloc (Nat.le_refl _) (.cells #[.int .i64 z1, .int .i64 z2, .int .i64 z3, .slice z4 z5 z6] 24)
                  have HFL2 := Lib.hid (mgflush_any 0 0 0 none 0 0 false (hi6.below hB7))
                  have hk6 : Keep 3 wc w6 := Keep.but hb6 HA5.out.ism (by decide)
                  have hb7 := (hb6.trans (But.of (hB7.mono hb6.size)))
                  have HC7 := Lib.hid ((HC5.out.but hb6 HGM.out).below hB7)
                  have HCP7 := Lib.hid ((HA5.out.cp.keep hk6).keep (.below hB7))
                  have HX7 := Lib.hid hX7
                  have hbe6 : Below w1.heap.size w1 w6 := HA5.out.below.trans (hb6.belowM HA5.out.below.size (Nat.le_refl _))
                  have HBE7 := Lib.hid (hbe6.trans (hB7.mono hbe6.size))
                  have HI7 := Lib.hid (hi6.below hB7)
                  have hne6 : w6.heap.size ≠ w1.heap.size := by have := hi6.lt; omega
                  obtain ⟨w7, hw7⟩ : ∃ w7, w6.alloc (.cells #[.int .i64 z1, .int .i64 z2, .int .i64 z3, .slice z4 z5 z6] 24) = w7 := ⟨_, rfl⟩
                  rw [hw7] at HFL2 HC7 HCP7 HX7 HBE7 HI7
                  clear hX7 hB7 hk6 hb6 hi6 hb7 hbe6 HFL
                  go_wp2_with fail
                  try rw [hw7]
                  refine HFL2.out.mono ?_
                  rintro E w8 ⟨rfl, hi8, hb8⟩
                  have hk8 : Keep 3 w7 w8 := Keep.but hb8 HI7.out (by decide)
                  have hX8 := (hb8.block _ (heap_lt HX7.out) hne6).trans HX7.out
                  have hB9 := (Below.refl w8.heap.size w8).alloc (Nat.le_refl _) (.cells #[.int .i64 0, .int .i64 0, .int .i64 0, .slice none 0 0] 24)
                  have hX9 := (hB9.block _ (heap_lt hX8)).trans hX8
                  have hZ9 := heap_alloc_new w8 (.cells #[.int .i64 0, .int .i64 0, .int .i64 0, .slice none 0 0] 24)
                  have hC9 := (HC7.out.but hb8 HGM.out).below hB9
                  have hcp9 := (HCP7.out.keep hk8).keep (.below hB9)
                  have hbe8 : Below w1.heap.size w1 w8 := HBE7.out.trans (hb8.belowM HBE7.out.size (Nat.le_refl _))
                  have hbe9 := hbe8.trans (hB9.mono hbe8.size)
                  have HM9 := Lib.hid (show HAt w1 (w8.alloc (.cells #[.int .i64 0, .int .i64 0, .int .i64 0, .slice none 0 0] 24)) w1.heap.size (.slice none 0 0) [] rv0 false from ⟨hbe9, hi8.below hB9, .inl ⟨rfl, rfl, rfl, rfl⟩⟩)
                  have he := hcp9.eqv hbe9 (by have := HHL.out; unfold maxLen; omega)
                  obtain ⟨⟨e1, e2, e3, e4⟩, _, zs, hzl, r1, r2⟩ := he
                  have hh30 := HHL.out
                  obtain ⟨hk0, hn0, hr0, ha0, hl0, hc0⟩ := h'
                  obtain ⟨n0, n1, n2, n3⟩ := hC9
                  dsimp only at e1 e2 e3 e4 n0 n1 n2 n3 hzl r1 r2 hh30
                  subst e1 e2 e3 e4
                  obtain ⟨k0, k1, k2, k3⟩ := rec_reads hX9
                  obtain ⟨j0, j1, j2, j3⟩ := rec_reads hZ9
                  have G1 := regrown_at (w := (w8.alloc (.cells #[.int .i64 0, .int .i64 0, .int .i64 0, .slice none 0 0] 24))) (fun Wx hW => mgsame_any z1 z2 z3 z5 z4 ha0 z6 hc0 zs Wx (by omega) (r2.below hW) (r1.below hW))
                  have G2 := regrown_at (w := (w8.alloc (.cells #[.int .i64 0, .int .i64 0, .int .i64 0, .slice none 0 0] 24))) (fun Wx hW => mgsame_any 0 0 0 0 none none 0 0 [] Wx (by omega) (.inl rfl) (.inl rfl))
                  have q0 := cell_regrown k0
                  have q1 := cell_regrown k1
                  have q2 := cell_regrown k2
                  have q3 := cell_regrown k3
                  have p0 := cell_regrown n0
                  have p1 := cell_regrown n1
                  have p2 := cell_regrown n2
                  have p3 := cell_regrown n3
                  have s0 := cell_regrown j0
                  have s1 := cell_regrown j1
                  have s2 := cell_regrown j2
                  have s3 := cell_regrown j3
                  clear k0 k1 k2 k3 n0 n1 n2 n3 j0 j1 j2 j3 r1 r2 hzl hX8 hX9 hZ9 hB9 hk8 hb8 hi8 hbe8 hbe9 hcp9 HFL2
                  go_wp2_with fail
                  refine wp_region_quiet_below hmx (by kernel_rfl) ?_
                  repeat (go_big_quiet_step (first | with_reducible exact G1 _ _ | with_reducible exact G2 _ _))
                  refine wpQuiet_nil ?_
                  intro Wq hwq
                  obtain ⟨⟨dq, osq⟩, rfl⟩ := hwq
                  have b6 := below_regrown (w8.alloc (.cells #[.int .i64 0, .int .i64 0, .int .i64 0, .slice none 0 0] 24)) dq osq
                  generalize Go.Sort.grow (redrawn (w8.alloc (.cells #[.int .i64 0, .int .i64 0, .int .i64 0, .slice none 0 0] 24)) dq) osq = wq at b6 ⊢
                  have HMQ := Lib.hid (HM9.out.same b6)
                  clear b6
                  go_wp2_with fail
                  go_meet
                  exact ⟨[], rv0, false, Lib.hid (fun z h => by cases h), HMQ⟩
              case rest =>
                obtain ⟨hs2, y2', s2, HHS2, HA2⟩ := hcut
                obtain ⟨W10, hW10⟩ : ∃ W10, W10 = wc := ⟨_, rfl⟩
                subst hW10
                obtain ⟨c0, c1, c2, c3⟩ := HC1.out.below HA2.out.below
                dsimp only at c0 c1 c2 c3
                have HNA := Lib.hid (mgadd_nil xk xn xr xa xl xc W10)
                go_wp2_with fail
                refine HNA.out.mono ?_
                rintro E w11 ⟨rfl, hb11⟩
                have hB12 := (Below.refl w11.heap.size w11).alloc (Nat.le_refl _) (.cells #[.int .i64 0, .int .i64 0, .int .i64 0, .slice none 0 0] 24)
                have hX12 := heap_alloc_new w11 (.cells #[.int .i64 0, .int .i64 0, .int .i64 0, .slice none 0 0] 24)
                have HB12 := Lib.hid (hb11.trans (hB12.mono hb11.size))
                have HX12 := Lib.hid hX12
                clear hb11 hB12 hX12 HNA c0 c1 c2 c3
                go_wp2_with fail
                refine (mgflush_nil _).mono ?_
                rintro E w13 ⟨rfl, hb13⟩
                have hB14 := (Below.refl w13.heap.size w13).alloc (Nat.le_refl _) (.cells #[.int .i64 0, .int .i64 0, .int .i64 0, .slice none 0 0] 24)
                have hX14 := heap_alloc_new w13 (.cells #[.int .i64 0, .int .i64 0, .int .i64 0, .slice none 0 0] 24)
                have hb14 := hb13.trans (hB14.mono hb13.size)
                have HY14 := Lib.hid ((hb14.block _ (heap_lt HX12.out)).trans HX12.out)
                have HB14 := Lib.hid (HB12.out.trans (hb14.mono HB12.out.size))
                have HX14 := Lib.hid hX14
                obtain ⟨k0, k1, k2, k3⟩ := rec_reads HY14.out
                have HS1 := Lib.hid (fun W => mgsame_any 0 0 0 0 none none 0 0 [] W (by omega) (.inl rfl) (.inl rfl))
                clear hb13 hB14 hX14 hb14 HB12 HX12
                go_wp2_with fail
                refine (HS1.out _).mono ?_
                rintro E w15 ⟨rfl, hb15⟩
                obtain ⟨j0, j1, j2, j3⟩ := rec_reads ((hb15.block _ (heap_lt HX14.out)).trans HX14.out)
                have HB15 := Lib.hid (HB14.out.trans (hb15.mono HB14.out.size))
                clear hb15 HB14 k0 k1 k2 k3
                go_wp2_with fail
                refine (HS1.out _).mono ?_
                rintro E w16 ⟨rfl, hb16⟩
                have HB16 := Lib.hid (HB15.out.trans (hb16.mono HB15.out.size))
                have HM16 := Lib.hid (HA2.out.same HB16.out)
                clear hb16 HB15 HB16 HA2
                go_wp2
                exact ⟨⟨k + 1, hs2, y2', s2, by omega, by go_num, HHS2, HM16⟩, by simp [RowKit.intOf]; omega⟩
    · obtain rfl : k = m := by omega
      have u1 : ¬ (k : Int) < (k : Int) := by omega
      go_wp2_with fail
      refine (mgawake_any _).mono ?_
      rintro E w2 ⟨rfl, hb⟩
      have HB2 := Lib.hid (HM.out.below.trans (hb.mono HM.out.below.size))
      clear hb
      go_wp2
      go_ret
      exact ⟨rfl, HB2.out⟩
end Go.Proofs.Ytikhjofpioegbaa
