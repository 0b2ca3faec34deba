/-
  Texts put together: LkH, SameI, LkA.
-/
import Derived.Test.YtkaldfcpcimacaaBn6
import Derived.Test.YtkaldfcpcimacaaShelf
import Derived.Lib.SlKeysI
import Derived.Deep.LoopGhost
set_option linter.unusedSimpArgs false
set_option linter.unusedVariables false
namespace Go.Proofs.Ytkaldfcpcimacaa
open Go.RowKit

/-- slices.Sort at a slice of the call's own. -/
theorem sorti_own {base : Nat} (v : Value) (zs : List Int) (w : World) (hl : zs.length ≤ 1000000000) (hown : w.ownsRow base 3 1 v zs.length (inCells zs)) :
    Calls Try.prog 39 #[v] w fun e w' => e = .returned (.tuple #[]) ∧ w'.ownsRow base 3 1 v zs.length (inCells (zs.mergeSort fun x y => decide (x ≤ y))) ∧ w.grownBy w' v.ownBlock := by
  rcases hown.2 with ⟨rfl, h0⟩ | ⟨g, cap, cur, rfl, hbase, hb, h1, h2, h3, h4⟩
  · obtain rfl : zs = [] := List.eq_nil_of_length_eq_zero h0
    refine (Try.slices_Sort_int_none none 0 w).mono ?_
    rintro e w' ⟨rfl, rfl⟩
    exact ⟨rfl, by rw [List.mergeSort_nil]; exact hown, ⟨rfl, rfl, rfl, Nat.le_refl _, fun _ _ _ => rfl⟩⟩
  · have hlt : g < w.heap.size := (Array.getElem?_eq_some_iff.1 hb).1
    refine (Try.slices_Sort_int g 0 cap zs w (holds_of_block_i hb (by rw [Nat.mul_one] at h4; exact h4)) hlt (by omega)).mono ?_
    rintro e w' ⟨rfl, n, os, rfl⟩
    exact ⟨rfl, ownsRow_sorted_i (List.length_mergeSort _) hbase hb h1 h2 h3, grownBy_sorted_i _⟩

theorem pats_some {w : World} {p : Option Addr} {us : List (List UInt8)} (h : IsPats w p us) : [] ∉ us := by
  rcases h with ⟨_, rfl⟩ | ⟨b, _, _, h⟩
  · simp
  · intro hm
    have := (h.each _ hm).1
    simp at this
theorem tl_few (U : List (List UInt8)) : ∀ q : List UInt8, (tlL U q).length ≤ q.length
  | [] => Nat.le_refl _
  | c :: q => by
    have := tl_few U q
    unfold tlL
    split <;> simp only [List.length_cons] <;> omega
theorem nu_length (us l : List (List UInt8)) : (nuL us l).length = l.length := List.length_map _
theorem nu_snoc (us l : List (List UInt8)) (t : List UInt8) : nuL us (l ++ [t]) = nuL us l ++ [(frL us t : Int)] := by simp [nuL]

set_option maxHeartbeats 2000000 in
theorem lkhits_out {w : World} {k q p : Option Addr} {F : List (Nat × Nat)} {R : List Rc} (h : HasLk w k q F) (ht : HasTr w q p R) (he : R.length = F.length) (s : Int) (hs : s < 0 ∨ (F.length : Int) ≤ s) :
    Calls Try.prog 19 #[.pointer k, .int .i64 s] w fun e w' => e = .returned (.slice none 0 0) ∧ Below w.heap.size w w' := by
  have HT := Lib.hid (lktrie_any h)
  have HE := Lib.hid (trends_out ht s (by rw [he]; exact hs))
  have HO := Lib.hid (lkout_any h s)
  rw [flOf_out hs] at HO
  have HS := Lib.hid (fun W => Try.slices_Sort_int_none none 0 W)
  clear h ht he hs
  go_enter Try.func19, Try.ntmps19
  go_wp2
  go_loopg [1, 5, 6] 1 (fun g x y z wr => (g = 1 ∧ x = .int .i64 s ∧ y = .slice none 0 0 ∧ z = .bool true ∧ wr = w) ∨ (g = 0 ∧ y = .slice none 0 0 ∧ z = .bool false ∧ Below w.heap.size w wr))
  case atStart => exact .inl ⟨rfl, rfl, rfl, rfl, rfl⟩
  case round =>
    rcases hrel with ⟨rfl, rfl, rfl, rfl, rfl⟩ | ⟨rfl, rfl, rfl, hb⟩
    · go_wp2_with fail
      refine HT.out.mono ?_
      rintro e w' ⟨rfl, hw'⟩
      obtain rfl := hw'.symm
      clear hw' HT
      go_wp2_with fail
      refine HE.out.mono ?_
      rintro e w' ⟨rfl, hw'⟩
      obtain rfl := hw'.symm
      clear hw' HE
      go_wp2_with fail
      refine HO.out.mono ?_
      rintro e w' ⟨rfl, hb⟩
      clear HO
      go_wp2
      go_roundg 0
      case measure => omega
      case rel => exact .inr ⟨rfl, rfl, rfl, hb⟩
    · clear HT HE HO
      go_wp2_with fail
      refine (HS.out _).mono ?_
      rintro e w' ⟨rfl, rfl⟩
      go_wp2
      go_ret
      exact ⟨rfl, hb⟩

/-- What stands while a state's hits are gone through. -/
def HitSt (us S : List (List UInt8)) (s : List UInt8) (w0 : World) (g : Nat) (x y z : Value) (w : World) : Prop :=
  ∃ D : List (List UInt8), w.ownsRow w0.heap.size 3 1 y (nuL us D).length (inCells (nuL us D)) ∧ Below w0.heap.size w0 w ∧
    ((∃ (j : Nat) (t : List UInt8), x = .int .i64 (j : Int) ∧ z = .bool true ∧ S[j]? = some t ∧ tlL us s = D ++ tlL us t ∧ g = t.length + 1) ∨ (∃ j : Nat, x = .int .i64 (j : Int) ∧ z = .bool false ∧ tlL us s = D ∧ g = 0))

set_option maxRecDepth 100000 in
set_option maxHeartbeats 4000000 in
theorem lkhits_in {w : World} {k q p : Option Addr} {us S : List (List UInt8)} {F : List (Nat × Nat)} (h : IsLink w k q p us S S.length F) (hp : IsPats w p us) (hn : us.Nodup) (i : Nat) {s : List UInt8} (hs : S[i]? = some s) :
    Calls Try.prog 19 #[.pointer k, .int .i64 (i : Int)] w (RetN (hsL us s) w) := by
  obtain ⟨i0, hi, hz0, hz1, hz2⟩ := info_parts int_info
  obtain ⟨hep, hlp, htp⟩ := pats_each hp
  have hsl : s.length ≤ 65535 := by
    rcases (h.tr.st.2 s).1 (List.mem_of_getElem? hs) with rfl | hb
    · simp
    · obtain ⟨t, ht, hpr⟩ := beg_iff.1 hb
      have := hep t ht
      have := hpr.length_le
      omega
  have hne := pats_some hp
  have HSort := Lib.hid (nu_sorts (fun t ht e => by subst e; exact hne ht) hn (fun t ht => ends_at h.asc ht) s)
  have HH := Lib.hid h
  have HS := Lib.hid hs
  have HNE := Lib.hid hne
  have hfew := tl_few us s
  clear h hp hn hs hep hlp htp hne
  go_enter Try.func19, Try.ntmps19
  go_wp2
  go_loopg [1, 5, 6] (s.length + 1) (fun g x y z wr => Hid (HitSt us S s w g x y z wr))
  case atStart => exact Lib.hid ⟨[], World.ownsRow_nil _ _ _ _, Below.refl _ _, .inl ⟨i, s, rfl, rfl, HS.out, rfl, rfl⟩⟩
  case round =>
    obtain ⟨D, hown, hbe, ⟨j, t, rfl, rfl, hj, htl, rfl⟩ | ⟨j, rfl, rfl, htl, rfl⟩⟩ := hrel.out
    · clear hrel
      have hI := HH.out.below hbe
      have hsz := hbe.size
      obtain ⟨a1, b1, hF, _, hb⟩ := HH.out.ok.at_ j t (List.getElem?_eq_some_iff.1 hj).1 hj
      have HT := Lib.hid (lktrie_any hI.has)
      have HE := Lib.hid (ts_ends hI.tr hI.asc j hj)
      have HO := Lib.hid (fun W (hb : Below w.heap.size w W) => lkout_any (HH.out.below hb).has (j : Int))
      rw [flOf_in hF] at HO
      have hz := HH.out.zero hb
      have hat := tl_at HNE.out t
      obtain ⟨a2, cap2, rfl⟩ := owns_slice hown
      have hDl : (nuL us D).length ≤ 65535 := by
        rw [nu_length]
        have := congrArg List.length htl
        rw [List.length_append] at this
        omega
      have hless : t ≠ [] → (fbL us t).length < t.length := fb_less
      have HA := Lib.hid hat
      have HL := Lib.hid hless
      have HTL := Lib.hid htl
      have HB := Lib.hid hb
      have HZ := Lib.hid hz
      have HD := Lib.hid hbe
      clear hI hF hj hat hless htl hb hz hbe
      by_cases hu : t ∈ us
      · go_wp2_with fail
        refine HT.out.mono ?_
        rintro e w' ⟨rfl, hw'⟩
        obtain rfl := hw'.symm
        clear hw' HT
        go_wp2_with fail
        refine HE.out.mono ?_
        rintro e w2 ⟨⟨h1, _⟩, hb2⟩
        obtain rfl := h1 hu
        have hown2 := tx_below hown hb2
        have d2 := HD.out.trans (hb2.mono hsz)
        have s2 := d2.size
        have htl3 : tlL us s = (D ++ [t]) ++ tlL us (fbL us t) := by rw [HTL.out, HA.out, if_pos hu, List.append_assoc]
        clear h1 hb2 HE hown
        go_wp2_with (at_builtin; refine wpList_append_own _ rfl _ _ 42 rfl w.heap.size 3 i0 (.int .i64 0) 1 8 Try.underlying42 hi hz0 hz1 hz2 rfl (by decide) _ _ _ rfl (hown2.alloc _) ⟨w2.heap.size, 0, none⟩ 1 1 [.int .i64 (frL us t : Int)] rfl rfl (int_news (heap_alloc_new _ _)) int_one (by unfold maxLen; omega) (by omega) (by simp; omega) ?_)
        intro v3 w3 hown3 hgrow3 _
        have d3 : Below w.heap.size w w3 := own_below d2 hown2 (Nat.le_refl _) hgrow3
        rw [← inCells_snoc, ← nu_snoc, show (nuL us D).length + 1 = (nuL us (D ++ [t])).length by rw [nu_length, nu_length]; simp] at hown3
        clear hgrow3 hown2 d2 s2 hDl
        have HO3 := Lib.hid (HO.out w3 d3)
        have s3 := d3.size
        have HE3 := Lib.hid htl3
        have HW3 := Lib.hid hown3
        clear HO htl3 hown3
        go_wp2_with fail
        refine HO3.out.mono ?_
        rintro e w4 ⟨rfl, hb4⟩
        have d4 := d3.trans (hb4.mono s3)
        have hown4 := tx_below HW3.out hb4
        by_cases hb0 : b1 = 0
        · have ef := HZ.out.1 hb0
          have hE : Hid (HitSt us S s w 0 (.int .i64 (b1 : Int)) v3 (.bool false) w4) := Lib.hid ⟨_, hown4, d4, .inr ⟨b1, rfl, rfl, by rw [HE3.out, ef]; exact List.append_nil _, rfl⟩⟩
          have hdec : decide (0 < b1) = false := decide_eq_false (by omega)
          clear HZ HB hown4 d4 hb4 HE3 HW3 HO3 d3
          rw [hdec]
          clear hdec hb0
          go_wp2
          go_roundg 0
          case measure => omega
          case rel => exact hE
        · have ef : fbL us t ≠ [] := fun e => hb0 (HZ.out.2 e)
          have et : t ≠ [] := fun e => ef (by rw [e]; rfl)
          have hE : Hid (HitSt us S s w ((fbL us t).length + 1) (.int .i64 (b1 : Int)) v3 (.bool true) w4) := Lib.hid ⟨_, hown4, d4, .inl ⟨b1, _, rfl, rfl, HB.out, HE3.out, rfl⟩⟩
          have hlt := HL.out et
          have hdec : decide (0 < b1) = true := decide_eq_true (by omega)
          clear HZ HB hown4 d4 hb4 HE3 HW3 HO3 d3
          rw [hdec]
          clear hdec hb0
          go_wp2
          go_roundg ((fbL us t).length + 1)
          case measure => omega
          case rel => exact hE
      · go_wp2_with fail
        refine HT.out.mono ?_
        rintro e w' ⟨rfl, hw'⟩
        obtain rfl := hw'.symm
        clear hw' HT
        go_wp2_with fail
        refine HE.out.mono ?_
        rintro e w3 ⟨⟨_, h1⟩, hb2⟩
        obtain rfl := h1 hu
        have hown3 := tx_below hown hb2
        have d3 := HD.out.trans (hb2.mono hsz)
        have htl3 : tlL us s = D ++ tlL us (fbL us t) := by rw [HTL.out, HA.out, if_neg hu, List.nil_append]
        clear h1 hb2 HE hown hDl
        generalize hv3 : Value.slice a2 (nuL us D).length cap2 = v3 at hown3
        have HO3 := Lib.hid (HO.out w3 d3)
        have s3 := d3.size
        have HE3 := Lib.hid htl3
        have HW3 := Lib.hid hown3
        clear HO htl3 hown3
        go_wp2_with fail
        refine HO3.out.mono ?_
        rintro e w4 ⟨rfl, hb4⟩
        have d4 := d3.trans (hb4.mono s3)
        have hown4 := tx_below HW3.out hb4
        by_cases hb0 : b1 = 0
        · have ef := HZ.out.1 hb0
          have hE : Hid (HitSt us S s w 0 (.int .i64 (b1 : Int)) v3 (.bool false) w4) := Lib.hid ⟨_, hown4, d4, .inr ⟨b1, rfl, rfl, by rw [HE3.out, ef]; exact List.append_nil _, rfl⟩⟩
          have hdec : decide (0 < b1) = false := decide_eq_false (by omega)
          clear HZ HB hown4 d4 hb4 HE3 HW3 HO3 d3
          rw [hdec]
          clear hdec hb0
          go_wp2
          go_roundg 0
          case measure => omega
          case rel => exact hE
        · have ef : fbL us t ≠ [] := fun e => hb0 (HZ.out.2 e)
          have et : t ≠ [] := fun e => ef (by rw [e]; rfl)
          have hE : Hid (HitSt us S s w ((fbL us t).length + 1) (.int .i64 (b1 : Int)) v3 (.bool true) w4) := Lib.hid ⟨_, hown4, d4, .inl ⟨b1, _, rfl, rfl, HB.out, HE3.out, rfl⟩⟩
          have hlt := HL.out et
          have hdec : decide (0 < b1) = true := decide_eq_true (by omega)
          clear HZ HB hown4 d4 hb4 HE3 HW3 HO3 d3
          rw [hdec]
          clear hdec hb0
          go_wp2
          go_roundg ((fbL us t).length + 1)
          case measure => omega
          case rel => exact hE
    · clear hrel
      subst htl
      have HSo := Lib.hid (sorti_own u5 (nuL us (tlL us s)) wr (by rw [nu_length]; omega) hown)
      have HB := Lib.hid (fun (W : World) (hg : wr.grownBy W u5.ownBlock) => hbe.grown hg hbe.size (fun k hk => (hown.lt k hk).1))
      rw [HSort.out] at HSo
      have HLn := Lib.hid (show (nuL us (tlL us s)).length = (hsL us s).length by rw [← HSort.out, List.length_mergeSort])
      clear hown hbe
      go_wp2_with fail
      refine HSo.out.mono ?_
      rintro e w2 ⟨rfl, hown2, hg⟩
      have d2 := HB.out _ hg
      rw [HLn.out] at hown2
      clear hg HB HSo
      have HO := Lib.hid hown2
      clear hown2
      go_wp2
      go_ret
      exact ⟨_, rfl, HO.out, d2⟩
end Go.Proofs.Ytkaldfcpcimacaa

namespace Go.Proofs.Ytkaldfcpcimacaa
open Go.RowKit

set_option maxHeartbeats 2000000 in
theorem isame_any (a b : Option Addr) (len ca cb t1 t2 : Nat) (zs : List Int) (w : World) (hlen : len ≤ 1000000000) (ha : IsRow .i64 w a len t1 zs) (hb : IsRow .i64 w b len t2 zs) :
    Calls Try.prog 18 #[.slice a len ca, .slice b len cb] w fun e w' => e = .returned (.bool true) ∧ Below w.heap.size w w' := by
  go_enter Try.func18, Try.ntmps18
  go_wp2
  go_loopw [5] (fun i wr => ∃ k : Nat, k ≤ len ∧ i = .int .i64 k ∧ Below w.heap.size w wr) (fun i _ => len - (RowKit.intOf i).toNat)
  case atStart => exact ⟨0, Nat.zero_le _, rfl, Below.refl _ _⟩
  case round =>
    obtain ⟨k, hk, rfl, hbe⟩ := hrel
    by_cases hlt : k < len
    · obtain h0 | ⟨b1, off1, rfl, hl1, _, _, c1⟩ := ha.below hbe
      · omega
      obtain h0 | ⟨b2, off2, rfl, hl2, _, _, c2⟩ := hb.below hbe
      · omega
      have d1 := c1 k (by omega)
      have d2 := c2 k (by omega)
      clear c1 c2 ha hb
      generalize zs.getD k 0 = x at d1 d2
      have g0 : (0 : Int) ≤ (k : Int) := by omega
      have g1 : (k : Int) < (len : Int) := by omega
      go_wp2_with fail
      go_quiet (fail)
      go_wp2
      exact ⟨⟨k + 1, by omega, by go_num, below_drewS hbe _⟩, by simp [RowKit.intOf]; omega⟩
    · obtain rfl : k = len := by omega
      go_wp2
      go_ret
      exact ⟨rfl, hbe⟩
end Go.Proofs.Ytkaldfcpcimacaa

namespace Go.Proofs.Ytkaldfcpcimacaa
open Go.RowKit

/-- New links of a set that texts make. -/
theorem lknew_set {w : World} {p : Option Addr} {ws : List (List UInt8)} (h : IsPats w p (setL ws)) :
    Calls Try.prog 10 #[.pointer p] w fun e w' => ∃ k q S F, e = .returned (.pointer k) ∧ IsLink w' k q p (setL ws) S S.length F ∧ Below w.heap.size w w' := lknew_any h (set_asc ws) (pats_nodup h)

theorem lkex_fault : faultL [[104, 101], [104, 101, 114, 115], [115, 104, 101]] = 0 := by decide +kernel
theorem lkex_set : setL [[104, 101], [104, 101, 114, 115], [115, 104, 101]] = [[104, 101], [104, 101, 114, 115], [115, 104, 101]] := by
  rw [set_good lkex_fault, ← ins_srt]; decide +kernel
theorem lkex_kids (q : List UInt8) (l : List UInt8) (h : kidsL [[104, 101], [104, 101, 114, 115], [115, 104, 101]] q = l) : kidsP [[104, 101], [104, 101, 114, 115], [115, 104, 101]] q = l.map fun c => q ++ [c] := by unfold kidsP; rw [h]
theorem lkex_bfs : Bfs [[104, 101], [104, 101, 114, 115], [115, 104, 101]] 8 [[], [104], [115], [104, 101], [115, 104], [104, 101, 114], [115, 104, 101], [104, 101, 114, 115]] := by
  have k0 := lkex_kids [] [104, 115] (by decide +kernel)
  have k1 := lkex_kids [104] [101] (by decide +kernel)
  have k2 := lkex_kids [115] [104] (by decide +kernel)
  have k3 := lkex_kids [104, 101] [114] (by decide +kernel)
  have k4 := lkex_kids [115, 104] [101] (by decide +kernel)
  have k5 := lkex_kids [104, 101, 114] [115] (by decide +kernel)
  have k6 := lkex_kids [115, 104, 101] [] (by decide +kernel)
  have k7 := lkex_kids [104, 101, 114, 115] [] (by decide +kernel)
  have h0 := Bfs.zero (us := [[104, 101], [104, 101, 114, 115], [115, 104, 101]])
  have h1 := h0.step (p := []) rfl
  rw [k0] at h1
  have h2 := h1.step (p := [104]) rfl
  rw [k1] at h2
  have h3 := h2.step (p := [115]) rfl
  rw [k2] at h3
  have h4 := h3.step (p := [104, 101]) rfl
  rw [k3] at h4
  have h5 := h4.step (p := [115, 104]) rfl
  rw [k4] at h5
  have h6 := h5.step (p := [104, 101, 114]) rfl
  rw [k5] at h6
  have h7 := h6.step (p := [115, 104, 101]) rfl
  rw [k6] at h7
  have h8 := h7.step (p := [104, 101, 114, 115]) rfl
  rw [k7] at h8
  exact h8
theorem lkex_is {S : List (List UInt8)} (h : IsSt [[104, 101], [104, 101, 114, 115], [115, 104, 101]] S) : S = [[], [104], [115], [104, 101], [115, 104], [104, 101, 114], [115, 104, 101], [104, 101, 114, 115]] := h.unique (Bfs.done lkex_bfs)
theorem lkex_fall : fbL [[], [104], [115], [104, 101], [115, 104], [104, 101, 114], [115, 104, 101], [104, 101, 114, 115]] [115, 104, 101] = [104, 101] := by decide +kernel
theorem lkex_step : lgL [[], [104], [115], [104, 101], [115, 104], [104, 101, 114], [115, 104, 101], [104, 101, 114, 115]] ([115, 104, 101] ++ [114]) = [104, 101, 114] := by decide +kernel
theorem lkex_hits : hsL [[104, 101], [104, 101, 114, 115], [115, 104, 101]] [115, 104, 101] = [0, 2] := by decide +kernel

/-- What awake's links tell. -/
structure Woke (W : World) (k q : Option Addr) : Prop where
  trie : Calls Try.prog 21 #[.pointer k] W fun e w' => e = .returned (.pointer q) ∧ w' = W
  she : Calls Try.prog 25 #[.pointer q, .string ⟨#[115, 104, 101]⟩] W fun e w' => e = .returned (.tuple #[.int .i64 6, .bool true]) ∧ Below W.heap.size W w'
  he : Calls Try.prog 25 #[.pointer q, .string ⟨#[104, 101]⟩] W fun e w' => e = .returned (.tuple #[.int .i64 3, .bool true]) ∧ Below W.heap.size W w'
  her : Calls Try.prog 25 #[.pointer q, .string ⟨#[104, 101, 114]⟩] W fun e w' => e = .returned (.tuple #[.int .i64 5, .bool true]) ∧ Below W.heap.size W w'
  fail : Calls Try.prog 14 #[.pointer k, .int .i64 6] W fun e w' => e = .returned (.int .i64 3) ∧ Below W.heap.size W w'
  hits : Calls Try.prog 19 #[.pointer k, .int .i64 6] W fun e w' => ∃ a c, e = .returned (.slice a 2 c) ∧ IsRow .i64 w' a 2 2 [0, 2] ∧ Below W.heap.size W w'
  step : Calls Try.prog 16 #[.pointer k, .int .i64 6, .int .u8 114] W fun e w' => e = .returned (.int .i64 5) ∧ Below W.heap.size W w'

theorem woke_any {W : World} {k q p : Option Addr} {S : List (List UInt8)} {F : List (Nat × Nat)} (h : IsLink W k q p [[104, 101], [104, 101, 114, 115], [115, 104, 101]] S S.length F) (hp : IsPats W p [[104, 101], [104, 101, 114, 115], [115, 104, 101]]) : Woke W k q := by
  obtain rfl := lkex_is h.tr.st
  have same : ∀ {i j : Nat} {t : List UInt8}, ([[], [104], [115], [104, 101], [115, 104], [104, 101, 114], [115, 104, 101], [104, 101, 114, 115]] : List (List UInt8))[i]? = some t → ([[], [104], [115], [104, 101], [115, 104], [104, 101, 114], [115, 104, 101], [104, 101, 114, 115]] : List (List UInt8))[j]? = some t → i = j := fun a b => rise_same h.tr.st.1 a b
  have find : ∀ (t : List UInt8) (n : Nat), t.length ≤ 10 → ([[], [104], [115], [104, 101], [115, 104], [104, 101, 114], [115, 104, 101], [104, 101, 114, 115]] : List (List UInt8))[n]? = some t → Calls Try.prog 25 #[.pointer q, .string ⟨t.toArray⟩] W fun e w' => e = .returned (.tuple #[.int .i64 (n : Int), .bool true]) ∧ Below W.heap.size W w' := fun t n hl hn => by
    refine (ts_find h.tr t (by omega)).mono ?_
    rintro e w' ⟨⟨h1, _⟩, hb⟩
    obtain ⟨m, he, hm⟩ := h1 (List.mem_of_getElem? hn)
    exact ⟨by rw [he, same hm hn], hb⟩
  refine ⟨lktrie_any h.has, find _ 6 (by decide) rfl, find _ 3 (by decide) rfl, find _ 5 (by decide) rfl, ?_, ?_, ?_⟩
  · obtain ⟨a, b, hF, ha, _⟩ := h.ok.at_ 6 [115, 104, 101] (by decide) rfl
    rw [lkex_fall] at ha
    have := lkfail_any h.has 6
    rw [show (6 : Int) = ((6 : Nat) : Int) from rfl, flOf_in hF, same ha (j := 3) rfl] at this
    exact this
  · refine (lkhits_in h hp (pats_nodup hp) 6 (s := [115, 104, 101]) rfl).mono ?_
    rintro e w' ⟨v, rfl, hown, hb⟩
    rw [lkex_hits] at hown
    obtain ⟨a, c, rfl, hr⟩ := row_of_ints hown (by decide)
    exact ⟨a, c, rfl, hr, hb⟩
  · refine (lkstep_in h 6 (s := [115, 104, 101]) rfl (by decide) 114).mono ?_
    rintro e w' ⟨n, rfl, hn, hb⟩
    rw [lkex_step] at hn
    exact ⟨by rw [same hn (j := 5) rfl]; rfl, hb⟩

set_option maxRecDepth 100000 in
set_option maxHeartbeats 2000000 in
theorem lkawake_any (w : World) : Calls Try.prog 7 #[] w fun e w' => e = .returned (.bool true) ∧ Below w.heap.size w w' := by
  have hA := strs_heap (ws := [[104, 101], [104, 101, 114, 115], [115, 104, 101]]) (heap_alloc_new w (.cells (txCells [[104, 101], [104, 101, 114, 115], [115, 104, 101]]).toArray 9)) rfl
  have H1 := Lib.hid (ptnew_all (some ⟨w.heap.size, 0, none⟩) 3 3 _ _ (by omega) hA (by decide))
  rw [lkex_fault] at H1
  have c1 : Below w.heap.size w (w.alloc (.cells (txCells [[104, 101], [104, 101, 114, 115], [115, 104, 101]]).toArray 9)) := (Below.refl _ w).alloc (Nat.le_refl _) _
  have s1 := c1.size
  clear hA
  go_enter Try.func7, Try.ntmps7
  go_wp2_with fail
  refine H1.out.mono ?_
  rintro e w2 ⟨p, rfl, hs, hb2⟩
  have d2 := c1.trans (hb2.mono s1)
  have e2 := d2.size
  have N2 := Lib.hid (lknew_set hs)
  have HS := Lib.hid hs
  clear H1 hs hb2 c1 s1
  go_wp2_with fail
  refine N2.out.mono ?_
  rintro e w3 ⟨k, q, S, F, rfl, hT, hb3⟩
  have d3 := d2.trans (hb3.mono e2)
  rw [lkex_set] at hT HS
  have HW := Lib.hid (fun W (hb : Below w3.heap.size w3 W) => woke_any (hT.below hb) ((HS.out.below hb3).below hb))
  have HR := Lib.hid (Below.refl w3.heap.size w3)
  clear N2 hb3 hT e2 HS d2
  have Q1 := Lib.hid (HW.out _ HR.out).trie
  have Q2 := Lib.hid (HW.out _ HR.out).she
  go_wp2_with fail
  refine Q1.out.mono ?_
  rintro e w' ⟨rfl, hw'⟩
  obtain rfl := hw'.symm
  clear hw'
  go_wp2_with fail
  refine Q2.out.mono ?_
  rintro e w4 ⟨rfl, hb4⟩
  clear Q1 Q2
  have Q1 := Lib.hid (HW.out _ hb4).trie
  have Q2 := Lib.hid (HW.out _ hb4).he
  go_wp2_with fail
  refine Q1.out.mono ?_
  rintro e w' ⟨rfl, hw'⟩
  obtain rfl := hw'.symm
  clear hw'
  go_wp2_with fail
  refine Q2.out.mono ?_
  rintro e w5 ⟨rfl, hb5⟩
  have f5 := hb4.trans (hb5.mono hb4.size)
  clear Q1 Q2 hb4 hb5
  have Q1 := Lib.hid (HW.out _ f5).trie
  have Q2 := Lib.hid (HW.out _ f5).her
  go_wp2_with fail
  refine Q1.out.mono ?_
  rintro e w' ⟨rfl, hw'⟩
  obtain rfl := hw'.symm
  clear hw'
  go_wp2_with fail
  refine Q2.out.mono ?_
  rintro e w6 ⟨rfl, hb6⟩
  have f6 := f5.trans (hb6.mono f5.size)
  clear Q1 Q2 hb6 f5
  have Q1 := Lib.hid (HW.out _ f6).fail
  go_wp2_with fail
  refine Q1.out.mono ?_
  rintro e w7 ⟨rfl, hb7⟩
  have f7 := f6.trans (hb7.mono f6.size)
  clear Q1 hb7 f6
  have Q1 := Lib.hid (HW.out _ f7).hits
  go_wp2_with fail
  refine Q1.out.mono ?_
  rintro e w8 ⟨a, c, rfl, hrow, hb8⟩
  have f8 := f7.trans (hb8.mono f7.size)
  clear Q1 hb8 f7
  have f9 := f8.alloc f8.size (.cells #[.int .i64 0, .int .i64 2] 3)
  have r1 := hrow.below ((Below.refl _ _).alloc (Nat.le_refl _) (.cells #[.int .i64 0, .int .i64 2] 3))
  have r2 := row_heap (zs := [0, 2]) (heap_alloc_new w8 (.cells #[.int .i64 0, .int .i64 2] 3)) rfl (by decide)
  have Q1 := Lib.hid (isame_any a _ 2 c 2 2 2 [0, 2] _ (by decide) r1 r2)
  clear hrow r1 r2 f8
  go_wp2_with fail
  refine Q1.out.mono ?_
  rintro e w10 ⟨rfl, hb10⟩
  have f10 := f9.trans (hb10.mono f9.size)
  clear Q1 hb10 f9
  have Q1 := Lib.hid (HW.out _ f10).step
  go_wp2_with fail
  refine Q1.out.mono ?_
  rintro e w11 ⟨rfl, hb11⟩
  have f11 := f10.trans (hb11.mono f10.size)
  have d11 := d3.trans (f11.mono d3.size)
  clear Q1 hb11 f10 f11 d3 HW HR
  go_wp2
  go_ret
  exact ⟨rfl, d11⟩
end Go.Proofs.Ytkaldfcpcimacaa
