/-
  The patterns with which a state ends: Hits: walked.
-/
import Derived.Test.YtkaldfcpcimacaaLkNw
import Derived.Test.YtkaldfcpcimacaaShelf
import Derived.Test.YtkaldfcpcimacaaOwnBe
import Derived.Lib.SlKeysI
import Derived.Deep.LoopGhost
set_option linter.unusedSimpArgs false
set_option linter.unusedVariables false
namespace Go.Proofs.Ytkaldfcpcimacaa
open Go.RowKit

/-- slices.Sort at a slice of the call's own. -/
theorem sorti_own {base : Nat} (v : Value) (zs : List Int) (w : World) (hl : zs.length ≤ 1000000000) (hown : w.ownsRow base 3 1 v zs.length (inCells zs)) :
    Calls Try.prog 39 #[v] w fun e w' => e = .returned (.tuple #[]) ∧ w'.ownsRow base 3 1 v zs.length (inCells (zs.mergeSort fun x y => decide (x ≤ y))) ∧ w.grownBy w' v.ownBlock := by
  rcases hown.2 with ⟨rfl, h0⟩ | ⟨g, cap, cur, rfl, hbase, hb, h1, h2, h3, h4⟩
  · obtain rfl : zs = [] := List.eq_nil_of_length_eq_zero h0
    refine (Try.slices_Sort_int_none none 0 w).mono ?_
    rintro e w' ⟨rfl, rfl⟩
    exact ⟨rfl, by rw [List.mergeSort_nil]; exact hown, ⟨rfl, rfl, rfl, Nat.le_refl _, fun _ _ _ => rfl⟩⟩
  · have hlt : g < w.heap.size := (Array.getElem?_eq_some_iff.1 hb).1
    refine (Try.slices_Sort_int g 0 cap zs w (holds_of_block_i hb (by rw [Nat.mul_one] at h4; exact h4)) hlt (by omega)).mono ?_
    rintro e w' ⟨rfl, n, os, rfl⟩
    exact ⟨rfl, ownsRow_sorted_i (List.length_mergeSort _) hbase hb h1 h2 h3, grownBy_sorted_i _⟩

theorem pats_some {w : World} {p : Option Addr} {us : List (List UInt8)} (h : IsPats w p us) : [] ∉ us := by
  rcases h with ⟨_, rfl⟩ | ⟨b, _, _, h⟩
  · simp
  · intro hm
    have := (h.each _ hm).1
    simp at this
theorem tl_few (U : List (List UInt8)) : ∀ q : List UInt8, (tlL U q).length ≤ q.length
  | [] => Nat.le_refl _
  | c :: q => by
    have := tl_few U q
    unfold tlL
    split <;> simp only [List.length_cons] <;> omega
theorem nu_length (us l : List (List UInt8)) : (nuL us l).length = l.length := List.length_map _
theorem nu_snoc (us l : List (List UInt8)) (t : List UInt8) : nuL us (l ++ [t]) = nuL us l ++ [(frL us t : Int)] := by simp [nuL]

set_option maxHeartbeats 2000000 in
theorem lkhits_out {w : World} {k q p : Option Addr} {F : List (Nat × Nat)} {R : List Rc} (h : HasLk w k q F) (ht : HasTr w q p R) (he : R.length = F.length) (s : Int) (hs : s < 0 ∨ (F.length : Int) ≤ s) :
    Calls Try.prog 19 #[.pointer k, .int .i64 s] w fun e w' => e = .returned (.slice none 0 0) ∧ Below w.heap.size w w' := by
  have HT := Lib.hid (lktrie_any h)
  have HE := Lib.hid (trends_out ht s (by rw [he]; exact hs))
  have HO := Lib.hid (lkout_any h s)
  rw [flOf_out hs] at HO
  have HS := Lib.hid (fun W => Try.slices_Sort_int_none none 0 W)
  clear h ht he hs
  go_enter Try.func19, Try.ntmps19
  go_wp2
  go_loopg [1, 5, 6] 1 (fun g x y z wr => (g = 1 ∧ x = .int .i64 s ∧ y = .slice none 0 0 ∧ z = .bool true ∧ wr = w) ∨ (g = 0 ∧ y = .slice none 0 0 ∧ z = .bool false ∧ Below w.heap.size w wr))
  case atStart => exact .inl ⟨rfl, rfl, rfl, rfl, rfl⟩
  case round =>
    rcases hrel with ⟨rfl, rfl, rfl, rfl, rfl⟩ | ⟨rfl, rfl, rfl, hb⟩
    · go_wp2_with fail
      refine HT.out.mono ?_
      rintro e w' ⟨rfl, hw'⟩
      obtain rfl := hw'.symm
      clear hw' HT
      go_wp2_with fail
      refine HE.out.mono ?_
      rintro e w' ⟨rfl, hw'⟩
      obtain rfl := hw'.symm
      clear hw' HE
      go_wp2_with fail
      refine HO.out.mono ?_
      rintro e w' ⟨rfl, hb⟩
      clear HO
      go_wp2
      go_roundg 0
      case measure => omega
      case rel => exact .inr ⟨rfl, rfl, rfl, hb⟩
    · clear HT HE HO
      go_wp2_with fail
      refine (HS.out _).mono ?_
      rintro e w' ⟨rfl, rfl⟩
      go_wp2
      go_ret
      exact ⟨rfl, hb⟩

/-- What stands while a state's hits are gone through. -/
def HitSt (us S : List (List UInt8)) (s : List UInt8) (w0 : World) (g : Nat) (x y z : Value) (w : World) : Prop :=
  ∃ D : List (List UInt8), w.ownsRow w0.heap.size 3 1 y (nuL us D).length (inCells (nuL us D)) ∧ Below w0.heap.size w0 w ∧
    ((∃ (j : Nat) (t : List UInt8), x = .int .i64 (j : Int) ∧ z = .bool true ∧ S[j]? = some t ∧ tlL us s = D ++ tlL us t ∧ g = t.length + 1) ∨ (∃ j : Nat, x = .int .i64 (j : Int) ∧ z = .bool false ∧ tlL us s = D ∧ g = 0))

set_option maxRecDepth 100000 in
set_option maxHeartbeats 4000000 in
theorem lkhits_in {w : World} {k q p : Option Addr} {us S : List (List UInt8)} {F : List (Nat × Nat)} (h : IsLink w k q p us S S.length F) (hp : IsPats w p us) (hn : us.Nodup) (i : Nat) {s : List UInt8} (hs : S[i]? = some s) :
    Calls Try.prog 19 #[.pointer k, .int .i64 (i : Int)] w (RetN (hsL us s) w) := by
  obtain ⟨i0, hi, hz0, hz1, hz2⟩ := info_parts int_info
  obtain ⟨hep, hlp, htp⟩ := pats_each hp
  have hsl : s.length ≤ 65535 := by
    rcases (h.tr.st.2 s).1 (List.mem_of_getElem? hs) with rfl | hb
    · simp
    · obtain ⟨t, ht, hpr⟩ := beg_iff.1 hb
      have := hep t ht
      have := hpr.length_le
      omega
  have hne := pats_some hp
  have HSort := Lib.hid (nu_sorts (fun t ht e => by subst e; exact hne ht) hn (fun t ht => ends_at h.asc ht) s)
  have HH := Lib.hid h
  have HS := Lib.hid hs
  have HNE := Lib.hid hne
  have hfew := tl_few us s
  clear h hp hn hs hep hlp htp hne
  go_enter Try.func19, Try.ntmps19
  go_wp2
  go_loopg [1, 5, 6] (s.length + 1) (fun g x y z wr => Hid (HitSt us S s w g x y z wr))
  case atStart => exact Lib.hid ⟨[], World.ownsRow_nil _ _ _ _, Below.refl _ _, .inl ⟨i, s, rfl, rfl, HS.out, rfl, rfl⟩⟩
  case round =>
    obtain ⟨D, hown, hbe, ⟨j, t, rfl, rfl, hj, htl, rfl⟩ | ⟨j, rfl, rfl, htl, rfl⟩⟩ := hrel.out
    · clear hrel
      have hI := HH.out.below hbe
      have hsz := hbe.size
      obtain ⟨a1, b1, hF, _, hb⟩ := HH.out.ok.at_ j t (List.getElem?_eq_some_iff.1 hj).1 hj
      have HT := Lib.hid (lktrie_any hI.has)
      have HE := Lib.hid (ts_ends hI.tr hI.asc j hj)
      have HO := Lib.hid (fun W (hb : Below w.heap.size w W) => lkout_any (HH.out.below hb).has (j : Int))
      rw [flOf_in hF] at HO
      have hz := HH.out.zero hb
      have hat := tl_at HNE.out t
      obtain ⟨a2, cap2, rfl⟩ := owns_slice hown
      have hDl : (nuL us D).length ≤ 65535 := by
        rw [nu_length]
        have := congrArg List.length htl
        rw [List.length_append] at this
        omega
      have hless : t ≠ [] → (fbL us t).length < t.length := fb_less
      have HA := Lib.hid hat
      have HL := Lib.hid hless
      have HTL := Lib.hid htl
      have HB := Lib.hid hb
      have HZ := Lib.hid hz
      have HD := Lib.hid hbe
      clear hI hF hj hat hless htl hb hz hbe
      by_cases hu : t ∈ us
      · go_wp2_with fail
        refine HT.out.mono ?_
        rintro e w' ⟨rfl, hw'⟩
        obtain rfl := hw'.symm
        clear hw' HT
        go_wp2_with fail
        refine HE.out.mono ?_
        rintro e w2 ⟨⟨h1, _⟩, hb2⟩
        obtain rfl := h1 hu
        have hown2 := tx_below hown hb2
        have d2 := HD.out.trans (hb2.mono hsz)
        have s2 := d2.size
        have htl3 : tlL us s = (D ++ [t]) ++ tlL us (fbL us t) := by rw [HTL.out, HA.out, if_pos hu, List.append_assoc]
        clear h1 hb2 HE hown
        go_wp2_with (at_builtin; refine wpList_append_own _ rfl _ _ 42 rfl w.heap.size 3 i0 (.int .i64 0) 1 8 Try.underlying42 hi hz0 hz1 hz2 rfl (by decide) _ _ _ rfl (hown2.alloc _) ⟨w2.heap.size, 0, none⟩ 1 1 [.int .i64 (frL us t : Int)] rfl rfl (int_news (heap_alloc_new _ _)) int_one (by unfold maxLen; omega) (by omega) (by simp; omega) ?_)
        intro v3 w3 hown3 hgrow3 _
        have d3 : Below w.heap.size w w3 := own_below d2 hown2 (Nat.le_refl _) hgrow3
        rw [← inCells_snoc, ← nu_snoc, show (nuL us D).length + 1 = (nuL us (D ++ [t])).length by rw [nu_length, nu_length]; simp] at hown3
        clear hgrow3 hown2 d2 s2 hDl
        have HO3 := Lib.hid (HO.out w3 d3)
        have s3 := d3.size
        have HE3 := Lib.hid htl3
        have HW3 := Lib.hid hown3
        clear HO htl3 hown3
        go_wp2_with fail
        refine HO3.out.mono ?_
        rintro e w4 ⟨rfl, hb4⟩
        have d4 := d3.trans (hb4.mono s3)
        have hown4 := tx_below HW3.out hb4
        by_cases hb0 : b1 = 0
        · have ef := HZ.out.1 hb0
          have hE : Hid (HitSt us S s w 0 (.int .i64 (b1 : Int)) v3 (.bool false) w4) := Lib.hid ⟨_, hown4, d4, .inr ⟨b1, rfl, rfl, by rw [HE3.out, ef]; exact List.append_nil _, rfl⟩⟩
          have hdec : decide (0 < b1) = false := decide_eq_false (by omega)
          clear HZ HB hown4 d4 hb4 HE3 HW3 HO3 d3
          rw [hdec]
          clear hdec hb0
          go_wp2
          go_roundg 0
          case measure => omega
          case rel => exact hE
        · have ef : fbL us t ≠ [] := fun e => hb0 (HZ.out.2 e)
          have et : t ≠ [] := fun e => ef (by rw [e]; rfl)
          have hE : Hid (HitSt us S s w ((fbL us t).length + 1) (.int .i64 (b1 : Int)) v3 (.bool true) w4) := Lib.hid ⟨_, hown4, d4, .inl ⟨b1, _, rfl, rfl, HB.out, HE3.out, rfl⟩⟩
          have hlt := HL.out et
          have hdec : decide (0 < b1) = true := decide_eq_true (by omega)
          clear HZ HB hown4 d4 hb4 HE3 HW3 HO3 d3
          rw [hdec]
          clear hdec hb0
          go_wp2
          go_roundg ((fbL us t).length + 1)
          case measure => omega
          case rel => exact hE
      · go_wp2_with fail
        refine HT.out.mono ?_
        rintro e w' ⟨rfl, hw'⟩
        obtain rfl := hw'.symm
        clear hw' HT
        go_wp2_with fail
        refine HE.out.mono ?_
        rintro e w3 ⟨⟨_, h1⟩, hb2⟩
        obtain rfl := h1 hu
        have hown3 := tx_below hown hb2
        have d3 := HD.out.trans (hb2.mono hsz)
        have htl3 : tlL us s = D ++ tlL us (fbL us t) := by rw [HTL.out, HA.out, if_neg hu, List.nil_append]
        clear h1 hb2 HE hown hDl
        generalize hv3 : Value.slice a2 (nuL us D).length cap2 = v3 at hown3
        have HO3 := Lib.hid (HO.out w3 d3)
        have s3 := d3.size
        have HE3 := Lib.hid htl3
        have HW3 := Lib.hid hown3
        clear HO htl3 hown3
        go_wp2_with fail
        refine HO3.out.mono ?_
        rintro e w4 ⟨rfl, hb4⟩
        have d4 := d3.trans (hb4.mono s3)
        have hown4 := tx_below HW3.out hb4
        by_cases hb0 : b1 = 0
        · have ef := HZ.out.1 hb0
          have hE : Hid (HitSt us S s w 0 (.int .i64 (b1 : Int)) v3 (.bool false) w4) := Lib.hid ⟨_, hown4, d4, .inr ⟨b1, rfl, rfl, by rw [HE3.out, ef]; exact List.append_nil _, rfl⟩⟩
          have hdec : decide (0 < b1) = false := decide_eq_false (by omega)
          clear HZ HB hown4 d4 hb4 HE3 HW3 HO3 d3
          rw [hdec]
          clear hdec hb0
          go_wp2
          go_roundg 0
          case measure => omega
          case rel => exact hE
        · have ef : fbL us t ≠ [] := fun e => hb0 (HZ.out.2 e)
          have et : t ≠ [] := fun e => ef (by rw [e]; rfl)
          have hE : Hid (HitSt us S s w ((fbL us t).length + 1) (.int .i64 (b1 : Int)) v3 (.bool true) w4) := Lib.hid ⟨_, hown4, d4, .inl ⟨b1, _, rfl, rfl, HB.out, HE3.out, rfl⟩⟩
          have hlt := HL.out et
          have hdec : decide (0 < b1) = true := decide_eq_true (by omega)
          clear HZ HB hown4 d4 hb4 HE3 HW3 HO3 d3
          rw [hdec]
          clear hdec hb0
          go_wp2
          go_roundg ((fbL us t).length + 1)
          case measure => omega
          case rel => exact hE
    · clear hrel
      subst htl
      have HSo := Lib.hid (sorti_own u5 (nuL us (tlL us s)) wr (by rw [nu_length]; omega) hown)
      have HB := Lib.hid (fun (W : World) (hg : wr.grownBy W u5.ownBlock) => hbe.grown hg hbe.size (fun k hk => (hown.lt k hk).1))
      rw [HSort.out] at HSo
      have HLn := Lib.hid (show (nuL us (tlL us s)).length = (hsL us s).length by rw [← HSort.out, List.length_mergeSort])
      clear hown hbe
      go_wp2_with fail
      refine HSo.out.mono ?_
      rintro e w2 ⟨rfl, hown2, hg⟩
      have d2 := HB.out _ hg
      rw [HLn.out] at hown2
      clear hg HB HSo
      have HO := Lib.hid hown2
      clear hown2
      go_wp2
      go_ret
      exact ⟨_, rfl, HO.out, d2⟩
end Go.Proofs.Ytkaldfcpcimacaa
