/-
  The document's own ParseRow and Same, walked.
-/
import Derived.Test.YtgoidhlemmdjgaaDoorParseRow
import Derived.Test.YtgoidhlemmdjgaaDoorRefParse
set_option linter.unusedSimpArgs false
set_option linter.unusedVariables false
namespace Go.Proofs.YtgoidhlemmdjgaaDoor
open Go.RowKit

theorem refRow_none (least most : Int) (w : World) :
    Calls Tryd.prog 9 #[.string ⟨#[45]⟩, .int .i64 least, .int .i64 most] w (RowPost [] least most w) := by
  go_enter Tryd.func9, Tryd.ntmps9
  go_wp2
  go_ret2
  refine ⟨_, rfl, (Below.refl _ _).alloc (Nat.le_refl _) _, .inl ⟨rfl, ?_⟩⟩
  exact World.ownsRow_made w #[] 0 (Nat.le_refl _) (by unfold maxLen; omega) rfl

set_option maxHeartbeats 2000000 in
theorem refRow_some (l : List UInt8) (least most : Int) (w : World) (hl : l ≠ [45]) (hlen : l.length ≤ 100000) :
    Calls Tryd.prog 9 #[.string ⟨l.toArray⟩, .int .i64 least, .int .i64 most] w (RowPost (pieces l) least most w) := by
  have hne : (l == [45]) = false := by simpa using hl
  obtain ⟨i0, hi, hz0, hz1, hz2⟩ := info_parts int_info
  go_enter Tryd.func9, Tryd.ntmps9
  go_wp2
  go_loopw [8, 9, 10] (fun v f i wr => ∃ (pre : List (List UInt8)) (a k : Nat), f = .int .i64 a ∧ i = .int .i64 k ∧ k ≤ l.length + 1 ∧ Hid (Cut l pre a k) ∧ Hid (∀ y ∈ pre, parE y least most = 0) ∧
    wr.ownsRow w.heap.size 3 1 v pre.length ((rowN least most pre).map (Value.int .i64)) ∧ Below w.heap.size w wr) (fun _ _ i _ => l.length + 1 - (RowKit.intOf i).toNat)
  case atStart => exact ⟨[], 0, 0, rfl, rfl, by omega, Lib.hid (cut_start l), Lib.hid (by simp), World.ownsRow_made w #[] 0 (Nat.le_refl _) (by unfold maxLen; omega) rfl, (Below.refl _ _).alloc (Nat.le_refl _) _⟩
  case round =>
    rename_i wr
    obtain ⟨pre, a, k, rfl, rfl, hk, hcut, hpre, hown, hbe⟩ := hrel
    by_cases hkl : k ≤ l.length
    · by_cases hlt : k < l.length
      · have hsz : k < (⟨l.toArray⟩ : ByteArray).size := by rw [bsize l]; exact hlt
        have ha := byteAt l k hlt hsz
        by_cases hcm : l[k] = 44
        · have hq : ((((⟨l.toArray⟩ : ByteArray)[k]'hsz).toNat : Int) != 44) = false := by rw [ha, hcm]; rfl
          obtain ⟨hak, ⟨r, hr⟩, hcut'⟩ := cut_piece hcut.out hkl (.inr (by rw [List.getElem?_eq_getElem hlt, hcm]))
          have hplen := pieces_length l
          have hpl : pre.length < (pieces l).length := by rw [hr]; simp
          obtain ⟨p, hp⟩ : ∃ p, (l.drop a).take (k - a) = p := ⟨_, rfl⟩
          have hpl2 : p.length ≤ l.length := by rw [← hp]; simp; omega
          rw [hp] at hr hcut'
          have HR := Lib.hid hr
          have HC' := Lib.hid hcut'
          have HX := Lib.hid (show (⟨l.toArray⟩ : ByteArray).extract a k = ⟨p.toArray⟩ by rw [ext_mid, hp])
          obtain ⟨m, hm⟩ : ∃ m, parN p least most = m := ⟨_, rfl⟩
          obtain ⟨c, hc⟩ : ∃ c, parE p least most = c := ⟨_, rfl⟩
          have HP : ∀ w, Hid (Calls Tryd.prog 7 #[.string ((⟨l.toArray⟩ : ByteArray).extract a k), .int .i64 least, .int .i64 most] w (RetP m c w)) := fun w => by
            have := refParse_any p least most w (by omega)
            rw [hm, hc] at this
            rw [HX.out]
            exact Lib.hid this
          by_cases h0 : c = 0
          · subst h0
            have HM := Lib.hid hm
            have HC := Lib.hid hc
            clear hm hc hp hr hcut' ha hcm
            go_wp2_with fail
            refine (HP _).out.mono ?_
            rintro e w' ⟨rfl, rfl⟩
            go_wp2_with (at_builtin; refine wpList_append_own _ rfl _ _ 26 rfl w.heap.size 3 i0 (.int .i64 0) 1 8 Tryd.underlying26 hi hz0 hz1 hz2 rfl (by decide) _ _ _ rfl (hown.alloc _) ⟨wr.heap.size, 0, none⟩ 1 1 [.int .i64 m] rfl rfl ?c1 ?c2 ?c3 ?c4 ?c5 ?_)
            case c1 => exact cell_one_new _ _ _
            case c2 => simp [Value.oneCell']
            case c3 => unfold maxLen; omega
            case c4 => omega
            case c5 => have := hbe.size; simp; omega
            intro v' w1 hown' hgrow _
            go_wp2
            refine ⟨⟨pre ++ [p], k + 1, k + 1, by go_num, by go_num, by omega, HC', Lib.hid (fun y hy => ?_), by simpa [rowN, HM.out] using hown', ?_⟩, by simp [RowKit.intOf]; omega⟩
            · rcases List.mem_append.1 hy with hy | hy
              · exact hpre.out y hy
              · rw [List.mem_singleton.1 hy]; exact HC.out
            · exact (hbe.alloc hbe.size _).grown hgrow (by have := hbe.size; simp; omega) (fun j e => (hown.lt j e).1)
          · have hcb : (c != 0) = true := by simpa using h0
            have hcb' : (c == 0) = false := by simpa using h0
            have HE := Lib.hid (show rowE least most (pieces l) = c by rw [hr, rowE_bad least most pre p r hpre.out (by rw [hc]; exact h0), hc])
            clear hm hc hp hr hcut' ha hcm
            go_wp2_with fail
            refine (HP _).out.mono ?_
            rintro e w' ⟨rfl, rfl⟩
            go_wp2
            go_ret2
            exact ⟨_, by rw [HE.out]; rfl, hbe, .inr ⟨by rw [HE.out]; exact h0, rfl⟩⟩
        · have hq : ((((⟨l.toArray⟩ : ByteArray)[k]'hsz).toNat : Int) != 44) = true := by
            rw [ha, bne_iff_ne]; intro e; exact hcm (UInt8.toNat.inj (by have : (44 : UInt8).toNat = 44 := rfl; omega))
          have HC' := Lib.hid (cut_on hcut.out hlt hcm)
          clear ha hcm
          go_wp2
          exact ⟨⟨pre, a, k + 1, rfl, by go_num, by omega, HC', hpre, hown, hbe⟩, by simp [RowKit.intOf]; omega⟩
      · have hke : k = l.length := by omega
        obtain ⟨hak, ⟨r, hr⟩, hcut'⟩ := cut_piece hcut.out hkl (.inl hke)
        have hplen := pieces_length l
        have hpl : pre.length < (pieces l).length := by rw [hr]; simp
        obtain ⟨p, hp⟩ : ∃ p, (l.drop a).take (k - a) = p := ⟨_, rfl⟩
        have hpl2 : p.length ≤ l.length := by rw [← hp]; simp; omega
        rw [hp] at hr hcut'
        have HR := Lib.hid hr
        have HC' := Lib.hid hcut'
        have HX := Lib.hid (show (⟨l.toArray⟩ : ByteArray).extract a k = ⟨p.toArray⟩ by rw [ext_mid, hp])
        obtain ⟨m, hm⟩ : ∃ m, parN p least most = m := ⟨_, rfl⟩
        obtain ⟨c, hc⟩ : ∃ c, parE p least most = c := ⟨_, rfl⟩
        have HP : ∀ w, Hid (Calls Tryd.prog 7 #[.string ((⟨l.toArray⟩ : ByteArray).extract a k), .int .i64 least, .int .i64 most] w (RetP m c w)) := fun w => by
          have := refParse_any p least most w (by omega)
          rw [hm, hc] at this
          rw [HX.out]
          exact Lib.hid this
        by_cases h0 : c = 0
        · subst h0
          have HM := Lib.hid hm
          have HC := Lib.hid hc
          clear hm hc hp hr hcut' hke
          go_wp2_with fail
          refine (HP _).out.mono ?_
          rintro e w' ⟨rfl, rfl⟩
          go_wp2_with (at_builtin; refine wpList_append_own _ rfl _ _ 26 rfl w.heap.size 3 i0 (.int .i64 0) 1 8 Tryd.underlying26 hi hz0 hz1 hz2 rfl (by decide) _ _ _ rfl (hown.alloc _) ⟨wr.heap.size, 0, none⟩ 1 1 [.int .i64 m] rfl rfl ?c1 ?c2 ?c3 ?c4 ?c5 ?_)
          case c1 => exact cell_one_new _ _ _
          case c2 => simp [Value.oneCell']
          case c3 => unfold maxLen; omega
          case c4 => omega
          case c5 => have := hbe.size; simp; omega
          intro v' w1 hown' hgrow _
          go_wp2
          refine ⟨⟨pre ++ [p], k + 1, k + 1, by go_num, by go_num, by omega, HC', Lib.hid (fun y hy => ?_), by simpa [rowN, HM.out] using hown', ?_⟩, by simp [RowKit.intOf]; omega⟩
          · rcases List.mem_append.1 hy with hy | hy
            · exact hpre.out y hy
            · rw [List.mem_singleton.1 hy]; exact HC.out
          · exact (hbe.alloc hbe.size _).grown hgrow (by have := hbe.size; simp; omega) (fun j e => (hown.lt j e).1)
        · have hcb : (c != 0) = true := by simpa using h0
          have hcb' : (c == 0) = false := by simpa using h0
          have HE := Lib.hid (show rowE least most (pieces l) = c by rw [hr, rowE_bad least most pre p r hpre.out (by rw [hc]; exact h0), hc])
          clear hm hc hp hr hcut' hke
          go_wp2_with fail
          refine (HP _).out.mono ?_
          rintro e w' ⟨rfl, rfl⟩
          go_wp2
          go_ret2
          exact ⟨_, by rw [HE.out]; rfl, hbe, .inr ⟨by rw [HE.out]; exact h0, rfl⟩⟩
    · have HE := Lib.hid (show pieces l = pre from hcut.out.elim (fun h => absurd h.1 hkl) (fun h => h.2))
      obtain ⟨ao, cap, rfl⟩ := owns_form hown
      have HO := Lib.hid hown
      clear hown
      go_wp2
      go_ret2
      have he : rowE least most (pieces l) = 0 := rowE_ok least most _ (by rw [HE.out]; exact hpre.out)
      exact ⟨_, by rw [he]; rfl, hbe, .inl ⟨he, by rw [HE.out]; exact HO.out⟩⟩

/-- What the document's ParseRow answers. -/
theorem refRow_any (l : List UInt8) (least most : Int) (w : World) (hlen : l.length ≤ 100000) :
    Calls Tryd.prog 9 #[.string ⟨l.toArray⟩, .int .i64 least, .int .i64 most] w (RowPost (parts l) least most w) := by
  by_cases hl : l = [45]
  · subst hl
    exact refRow_none least most w
  · unfold parts
    rw [if_neg hl]
    exact refRow_some l least most w hl hlen

theorem same_nil (a1 a2 : Option Addr) (c1 c2 : Nat) (w : World) :
    Calls Tryd.prog 10 #[.slice a1 0 c1, .slice a2 0 c2] w fun e w' => e = .returned (.bool true) ∧ Below w.heap.size w w' := by
  go_enter Tryd.func10, Tryd.ntmps10
  go_wp2
  refine wp_loop_rounds 1 ?_; rw [rounds_succ]
  go_wp2
  go_ret
  exact ⟨rfl, Below.refl _ _⟩

set_option maxHeartbeats 1000000 in
theorem same_some (g1 g2 n c1 c2 : Nat) (xs : List Int) (w : World) (hn : 0 < n) (hm : n ≤ 9223372036854775807) (hc1 : n ≤ c1) (hc2 : n ≤ c2)
    (h1 : ∀ i, i < n → w.cell? ⟨g1, i, none⟩ = some (.int .i64 (xs.getD i 0))) (h2 : ∀ i, i < n → w.cell? ⟨g2, i, none⟩ = some (.int .i64 (xs.getD i 0))) :
    Calls Tryd.prog 10 #[.slice (some ⟨g1, 0, none⟩) n c1, .slice (some ⟨g2, 0, none⟩) n c2] w fun e w' => e = .returned (.bool true) ∧ Below w.heap.size w w' := by
  have H1 := Lib.hid h1
  have H2 := Lib.hid h2
  clear h1 h2
  go_enter Tryd.func10, Tryd.ntmps10
  go_wp2
  go_loopw [5] (fun i wr => ∃ k : Nat, k ≤ n ∧ i = .int .i64 k ∧ Below w.heap.size w wr) (fun i _ => n - (RowKit.intOf i).toNat)
  case atStart => exact ⟨0, Nat.zero_le _, rfl, Below.refl _ _⟩
  case round =>
    rename_i wr
    obtain ⟨k, hk, rfl, hbe⟩ := hrel
    by_cases hlt : k < n
    · have d1 : wr.cell? ⟨g1, k, none⟩ = some (.int .i64 (xs.getD k 0)) := by
        have h := H1.out k hlt
        rw [hbe.cell (p := ⟨g1, k, none⟩) (World.block_lt_of_cell? w _ h)]; exact h
      have d2 : wr.cell? ⟨g2, k, none⟩ = some (.int .i64 (xs.getD k 0)) := by
        have h := H2.out k hlt
        rw [hbe.cell (p := ⟨g2, k, none⟩) (World.block_lt_of_cell? w _ h)]; exact h
      generalize xs.getD k 0 = x at d1 d2
      have hlt1 : (k : Int) < (n : Int) := by omega
      go_wp2
      go_quiet (fail)
      go_wp2
      exact ⟨⟨k + 1, by omega, by go_num, below_drewN hbe _⟩, by simp [RowKit.intOf]; omega⟩
    · have hkl : k = n := by omega
      subst hkl
      go_wp2
      go_ret
      exact ⟨rfl, hbe⟩

theorem owns_below {w w' : World} {base : Nat} {e : TypeId} {size : Nat} {v : Value} {n : Nat} {xs : List Value} (h : w.ownsRow base e size v n xs) (hb : Below w.heap.size w w') : w'.ownsRow base e size v n xs :=
  h.kept (row := none) ⟨hb.os, hb.tape, hb.output, hb.size, fun k hk _ => hb.block k hk⟩ (Classical.em _)

theorem owns_cells {w : World} {base : Nat} {e : TypeId} {v : Value} {n : Nat} {xs : List Int} (h : w.ownsRow base e 1 v n (xs.map (Value.int .i64))) (hn : 0 < n) :
    ∃ g cap, v = .slice (some ⟨g, 0, none⟩) n cap ∧ n ≤ cap ∧ ∀ i, i < n → w.cell? ⟨g, i, none⟩ = some (.int .i64 (xs.getD i 0)) := by
  obtain ⟨hl, h'⟩ := h
  rcases h' with ⟨_, h0⟩ | ⟨g, cap, cur, rfl, hb, hg, hnc, hcm, hcs, ht⟩
  · omega
  · refine ⟨g, cap, rfl, hnc, fun i hi => ?_⟩
    have hi' : i < xs.length := by simp at hl; omega
    have h1 := World.ownsRow.cellAt (w := w) (base := base) (e := e) (size := 1) (g := g) (n := n) (cap := cap) (xs := xs.map (Value.int .i64)) ⟨hl, .inr ⟨g, cap, cur, rfl, hb, hg, hnc, hcm, hcs, ht⟩⟩ i (by omega)
    rw [h1, List.getElem?_map, getD_at xs i hi', List.getElem?_eq_getElem hi']
    rfl

/-- Two slices that own the same numbers are the same, says the document's Same. -/
theorem same_rows (v1 v2 : Value) (n : Nat) (xs : List Int) (b1 b2 : Nat) (w : World) (hn : n ≤ 9223372036854775807) (h1 : w.ownsRow b1 3 1 v1 n (xs.map (Value.int .i64))) (h2 : w.ownsRow b2 3 1 v2 n (xs.map (Value.int .i64))) :
    Calls Tryd.prog 10 #[v1, v2] w fun e w' => e = .returned (.bool true) ∧ Below w.heap.size w w' := by
  rcases Nat.eq_zero_or_pos n with rfl | hp
  · obtain ⟨a1, c1, rfl⟩ := owns_form h1
    obtain ⟨a2, c2, rfl⟩ := owns_form h2
    exact same_nil a1 a2 c1 c2 w
  · obtain ⟨g1, c1, rfl, k1, d1⟩ := owns_cells h1 hp
    obtain ⟨g2, c2, rfl, k2, d2⟩ := owns_cells h2 hp
    exact same_some g1 g2 n c1 c2 xs w hp hn k1 k2 d1 d2

/-- What two rows answer, held against each other: behind both calls Same says yes. -/
theorem same_posts {ps : List (List UInt8)} {least most : Int} {w w1 w2 : World} {v1 v2 : Value} (hps : ps.length ≤ 9223372036854775807)
    (h1 : (rowE least most ps = 0 ∧ w1.ownsRow w.heap.size 3 1 v1 ps.length ((rowN least most ps).map (Value.int .i64))) ∨ (rowE least most ps ≠ 0 ∧ v1 = .slice none 0 0)) (hb : Below w1.heap.size w1 w2)
    (h2 : (rowE least most ps = 0 ∧ w2.ownsRow w1.heap.size 3 1 v2 ps.length ((rowN least most ps).map (Value.int .i64))) ∨ (rowE least most ps ≠ 0 ∧ v2 = .slice none 0 0)) :
    Calls Tryd.prog 10 #[v1, v2] w2 fun e w' => e = .returned (.bool true) ∧ Below w2.heap.size w2 w' := by
  rcases h1 with ⟨e1, o1⟩ | ⟨e1, rfl⟩ <;> rcases h2 with ⟨e2, o2⟩ | ⟨e2, rfl⟩
  · exact same_rows v1 v2 _ _ _ _ w2 hps (owns_below o1 hb) o2
  · exact absurd e1 e2
  · exact absurd e2 e1
  · exact same_nil none none 0 0 w2
end Go.Proofs.YtgoidhlemmdjgaaDoor
