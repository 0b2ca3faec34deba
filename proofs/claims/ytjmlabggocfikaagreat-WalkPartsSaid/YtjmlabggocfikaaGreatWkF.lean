/-
  walk.Feed: walked.
-/
import Derived.Test.YtjmlabggocfikaaGreatBn10
import Derived.Test.YtjmlabggocfikaaGreatBn5
import Derived.StillTailTactics
import Derived.Deep.CutRange
import Derived.Deep.RegionLaw
set_option linter.unusedSimpArgs false
set_option linter.unusedVariables false
namespace Go.Proofs.YtjmlabggocfikaaGreat
open Go.RowKit

theorem owns_hslice {w : World} {base size n : Nat} {e : TypeId} {v : Value} {xs : List Value} (h : w.ownsRow base e size v n xs) : ∃ a cap, v = .slice a n cap := by
  rcases h.2 with ⟨rfl, rfl⟩ | ⟨g, cap, cur, rfl, _⟩
  · exact ⟨_, _, rfl⟩
  · exact ⟨_, _, rfl⟩
theorem wkfeed_nil (s : ByteArray) (w : World) : Calls Tryz.prog 10 #[.pointer none, .string s] w fun e w' => e = .returned (.slice none 0 0) ∧ w' = w := by
  go_enter Tryz.func10, Tryz.ntmps10
  go_wp2
  go_ret
  exact ⟨rfl, rfl⟩

set_option maxRecDepth 100000 in
set_option maxHeartbeats 4000000 in
theorem wkfeed_any {w : World} {b : Nat} {y : Option Addr} {us S : List (List UInt8)} {kind s : Int} {n m : Nat} (h : IsWalk w b y us S kind s n m) (t : List UInt8) (ht : t.length ≤ 1000000) (hn : n ≤ 1000000000) (hm : m ≤ 1000000000) (hu : us.length ≤ 1000000) :
    Calls Tryz.prog 10 #[.pointer (some ⟨b, 0, none⟩), .string ⟨t.toArray⟩] w fun e w' => ∃ v, e = .returned v ∧ w'.ownsRow w.heap.size 48 2 v (fdL us S s n t).length (hiCells (fdL us S s n t)) ∧
      IsWalk w' b y us S kind (auR S s t) (n + t.length) (m + (fdL us S s n t).length) ∧ But w.heap.size b w w' := by
  obtain ⟨w0, a, hA, hz, hb0, hx⟩ := h
  have hbl := heap_lt hx
  have HZ := Lib.hid (bsize t)
  have HA := Lib.hid (fun (W : World) (hW : But w.heap.size b w W) => hA.below (hb0.trans ((hW.below (by omega)).mono hz)))
  have HB0 := Lib.hid (fun (W : World) (hW : But w.heap.size b w W) => (hb0.trans ((hW.below (by omega)).mono hz) : Below w0.heap.size w0 W))
  have HI0 := Lib.hid hA
  have HFk := Lib.hid (fun k => fdK_next us S s n t k)
  have HLn := Lib.hid (fun k (hk : k ≤ t.length) => (show (fdK us S s n t k).length ≤ 1000000000000 by
    have h1 := fdK_few us S s n t k
    have h2 : k * us.length ≤ 1000000 * 1000000 := Nat.mul_le_mul (by omega) (by omega)
    omega))
  have HHf := Lib.hid (fun r => auH_few us S r)
  obtain ⟨i0, hi, hz0, hz1, hz2⟩ := info_parts hit_info
  have HX := Lib.hid hx
  clear hA hb0 hx
  go_enter Tryz.func10, Tryz.ntmps10
  go_wp2
  go_loopw [5, 13] (fun v i wr => ∃ (k : Nat) (L : List Ht) (r : Int), k ≤ t.length ∧ i = .int .i64 k ∧ Hid (fdK us S s n t k = L) ∧ Hid (auR S s (t.take k) = r) ∧ wr.ownsRow w.heap.size 48 2 v L.length (hiCells L) ∧
    wr.heap[b]? = some (.cells #[.pointer a, .int .i64 r, .int .i64 ((n + k : Nat) : Int), .int .i64 (m : Int)] 58 (0, 0)) ∧ But w.heap.size b w wr) (fun _ i _ => t.length - (RowKit.intOf i).toNat)
  case atStart => exact ⟨0, [], s, Nat.zero_le _, rfl, Lib.hid rfl, Lib.hid rfl, World.ownsRow_nil _ _ _ _, HX.out, But.refl _ _ _⟩
  case round =>
    obtain ⟨k, L, r, hk, rfl, HK, HR, hown, hx, hbt⟩ := hrel
    obtain ⟨W1, hW1⟩ : ∃ W1, W1 = wr := ⟨_, rfl⟩
    subst hW1
    by_cases hlt : k < t.length
    · have hzb : k < (⟨t.toArray⟩ : ByteArray).size := by rw [bsize]; omega
      have hb := byteAt t k (by omega) hzb
      have HS := Lib.hid (austep_any (w := W1.drew) ((HA.out _ hbt).below (Below.refl _ _).drew) r t[k])
      rw [← HR.out, ← auR_take S s hlt] at HS
      obtain ⟨r1, hr1⟩ : ∃ r1, auR S s (t.take (k + 1)) = r1 := ⟨_, rfl⟩
      rw [hr1, HR.out] at HS
      have HR1 := Lib.hid hr1
      have HK1 := Lib.hid (HFk.out k)
      rw [HK.out, hr1] at HK1
      have hLl : L.length ≤ 1000000000000 := by rw [← HK.out]; exact HLn.out k hk
      have hil := HHf.out r1
      have HHt := Lib.hid (fun (W : World) (hW : But w.heap.size b w W) => auhits_any (HA.out _ hW) r1)
      generalize auH us S r1 = ids at HK1 hil HHt
      clear hr1
      generalize t[k] = x at *
      have g0 : (0 : Int) ≤ (k : Int) := by omega
      have g1 : (k : Int) < (t.length : Int) := by omega
      obtain ⟨⟨c0, c1, c2, c3⟩, f1, f2, f3⟩ := walk_reads hx
      obtain ⟨a5, c5, rfl⟩ := owns_hslice hown
      have HXr := Lib.hid hx
      have HBr := Lib.hid hbt
      have HOr := Lib.hid hown
      clear hx hbt hown HX
      go_upto_region 7 with fail
      go_cut [16] from 16 to 30 (fun p wx => p = .pointer (some ⟨b, 0, none⟩) ∧ Hid (wx.ownsRow w.heap.size 48 2 (.slice a5 L.length c5) L.length (hiCells L)) ∧
        Hid (wx.heap[b]? = some (.cells #[.pointer a, .int .i64 r1, .int .i64 ((n + k : Nat) : Int), .int .i64 (m : Int)] 58 (0, 0))) ∧ Hid (But w.heap.size b w wx))
      case first =>
        go_region_law (first
          | (rw [if_pos (by simp [Region.wanted])]
             go_simp
             go_at_call 27
             refine HS.out.mono ?_
             rintro e w5 ⟨rfl, hb5⟩
             obtain ⟨⟨d0, d1, d2, d3⟩, e1, e2, e3⟩ := walk_reads ((hb5.block b (heap_lt HXr.out)).trans HXr.out)
             have HX5 := Lib.hid ((hb5.block b (heap_lt HXr.out)).trans HXr.out)
             have HB5 := Lib.hid ((HBr.out.more (Below.refl _ _).drew).more hb5)
             have HO5 := Lib.hid (tx_below HOr.out.drew hb5)))
        all_goals
          have HO6 : Hid ((w5.setCell ⟨b, 1, none⟩ (.int .i64 r1)).ownsRow w.heap.size 48 2 (.slice a5 L.length c5) L.length (hiCells L)) := Lib.hid ((Other.set HX5.out _).owns (by decide) HO5.out)
          have HX6 : Hid ((w5.setCell ⟨b, 1, none⟩ (.int .i64 r1)).heap[b]? = some (.cells #[.pointer a, .int .i64 r1, .int .i64 ((n + k : Nat) : Int), .int .i64 (m : Int)] 58 (0, 0))) := Lib.hid (put_heap HX5.out _)
          have HB6 : Hid (But w.heap.size b w (w5.setCell ⟨b, 1, none⟩ (.int .i64 r1))) := Lib.hid (HB5.out.put _ _)
          clear HX5 HB5 HO5 hb5 d0 d1 d2 d3 e1 e2 e3
          go_wp2_with fail
          go_meet
          exact ⟨rfl, HO6, HX6, HB6⟩
      case rest =>
        obtain ⟨rfl, HO6, HX6, HB6⟩ := hcut
        obtain ⟨q, hq⟩ : ∃ q, n + k = q := ⟨_, rfl⟩
        have HQ := Lib.hid hq
        have hq2 : q ≤ 2000000000 := by omega
        have HK2 : Hid (fdK us S s n t (k + 1) = L ++ ids.map fun i => ((q : Int) + 1, i)) := Lib.hid (by rw [HK1.out, hq]; rfl)
        rw [hq] at HX6
        obtain ⟨⟨c0, c1, c2, c3⟩, f1, f2, f3⟩ := walk_reads HX6.out
        have HO7 : Hid ((wc.setCell ⟨b, 2, none⟩ (.int .i64 ((q : Int) + 1))).ownsRow w.heap.size 48 2 (.slice a5 L.length c5) L.length (hiCells L)) := Lib.hid ((Other.set HX6.out _).owns (by decide) HO6.out)
        have HX7 : Hid ((wc.setCell ⟨b, 2, none⟩ (.int .i64 ((q : Int) + 1))).heap[b]? = some (.cells #[.pointer a, .int .i64 r1, .int .i64 ((q : Int) + 1), .int .i64 (m : Int)] 58 (0, 0))) := Lib.hid (put_heap HX6.out _)
        have HB7 : Hid (But w.heap.size b w (wc.setCell ⟨b, 2, none⟩ (.int .i64 ((q : Int) + 1)))) := Lib.hid (HB6.out.put _ _)
        clear hq HX6 HB6 HO6 HK1 HXr HBr HOr HS hb g0 g1
        go_upto_region 9 with fail
        generalize wc.setCell ⟨b, 2, none⟩ (.int .i64 ((q : Int) + 1)) = w7 at *
        clear c0 c1 c2 c3 f1 f2 f3
        obtain ⟨⟨c0, c1, c2, c3⟩, f1, f2, f3⟩ := walk_reads HX7.out
        have HC := Lib.hid (HHt.out w7.drew (HB7.out.more (Below.refl _ _).drew))
        go_cut [46, 47, 48] from 38 to 48 (fun v l i wx => (∃ ai ci, v = .slice ai ids.length ci) ∧ l = .int .i64 ids.length ∧ i = .int .i64 0 ∧ Hid (wx.ownsRow w7.heap.size 3 1 v ids.length (inCells ids)) ∧ Hid (wx.ownsRow w.heap.size 48 2 (.slice a5 L.length c5) L.length (hiCells L)) ∧
          Hid (wx.heap[b]? = some (.cells #[.pointer a, .int .i64 r1, .int .i64 ((q : Int) + 1), .int .i64 (m : Int)] 58 (0, 0))) ∧ Hid (But w.heap.size b w wx))
        case first =>
          go_region_law (first
            | (rw [if_pos (by simp [Region.wanted])]
               go_simp
               go_at_call 28
               refine HC.out.mono ?_
               rintro e w9 ⟨vi, rfl, hoi, hb9⟩
               obtain ⟨ai, ci, rfl⟩ := owns_slice hoi))
          all_goals
            have HI9 := Lib.hid hoi
            have HO9 := Lib.hid (tx_below HO7.out.drew hb9)
            have HX9 := Lib.hid ((hb9.block b (heap_lt HX7.out)).trans HX7.out)
            have HB9 := Lib.hid ((HB7.out.more (Below.refl _ _).drew).more hb9)
            clear HO7 HX7 HB7 HC hoi hb9 c0 c1 c2 c3 f1 f2 f3
            go_wp2_with fail
            go_meet
            exact ⟨⟨_, _, rfl⟩, rfl, rfl, HI9, HO9, HX9, HB9⟩
        case rest =>
        obtain ⟨⟨ai, ci, rfl⟩, rfl, rfl, HI9, HO9, HX9, HB9⟩ := hcut
        clear HO7 HX7 HB7 HC c0 c1 c2 c3 f1 f2 f3
        generalize wc = w9 at *
        go_wp2
        go_loopw [5, 48] (fun v j wr => ∃ (g : Nat) (M : List Ht), g ≤ ids.length ∧ j = .int .i64 g ∧ Hid (L ++ (ids.take g).map (fun i => ((q : Int) + 1, i)) = M) ∧ M.length ≤ L.length + g ∧ wr.ownsRow w.heap.size 48 2 v M.length (hiCells M) ∧ Other 48 w9 wr ∧ But w.heap.size b w wr) (fun _ j _ => ids.length - (RowKit.intOf j).toNat)
        case atStart => exact ⟨0, L, Nat.zero_le _, rfl, Lib.hid (by simp), Nat.le_refl _, HO9.out, Other.refl _ _, HB9.out⟩
        case round =>
          obtain ⟨g, M, hg, rfl, HM, hMl, hown, hoth, hbt⟩ := hrel
          have hsz := hbt.size
          by_cases hlt2 : g < ids.length
          · obtain ⟨gi, oi, rfl, z, hzi, hcz⟩ := int_at (hoth.owns (by decide) HI9.out) rfl hlt2
            obtain ⟨⟨c0, c1, c2, c3⟩, f1, f2, f3⟩ := walk_reads (hoth b _ _ _ (by decide) HX9.out)
            have HM1 : Hid (L ++ (ids.take (g + 1)).map (fun i => ((q : Int) + 1, i)) = M ++ [((q : Int) + 1, z)]) := Lib.hid (by
              obtain ⟨hg2, rfl⟩ := List.getElem?_eq_some_iff.1 hzi
              rw [List.take_succ_eq_append_getElem hg2, List.map_append, ← List.append_assoc, HM.out]; rfl)
            have g0 : (0 : Int) ≤ (g : Int) := by omega
            have g1 : (g : Int) < (ids.length : Int) := by omega
            clear hzi HM
            go_wp2_with (at_builtin; refine wpList_append_own _ rfl _ _ 34 rfl w.heap.size 48 i0 (.agg #[.int .i64 0, .int .i64 0]) 2 16 Tryz.underlying34 hi hz0 hz1 hz2 rfl (by decide) _ _ _ rfl (hown.alloc _) ⟨wr.heap.size, 0, none⟩ 1 1 [.int .i64 ((q : Int) + 1), .int .i64 z] rfl rfl (hit_news (heap_alloc_new wr _)) hit_one (by unfold maxLen; omega) (by omega) (by simp; omega) ?_)
            intro v' w3 hown3 hgrow _
            have HO3 := Lib.hid (hoth.trans (Other.grown hown hgrow))
            have HB3 := Lib.hid (hbt.grown hown hgrow)
            clear hgrow hown hoth hbt c0 c1 c2 c3 f1 f2 f3 hcz
            go_wp2
            exact ⟨⟨g + 1, M ++ [((q : Int) + 1, z)], by omega, by go_num, HM1, by rw [List.length_append, List.length_singleton]; omega, by rw [hiCells_snoc, List.length_append]; exact hown3, HO3.out, HB3.out⟩, by simp [RowKit.intOf]; omega⟩
          · obtain rfl : g = ids.length := by omega
            have hz2 : ¬ (ids.length : Int) < (ids.length : Int) := by omega
            have HK3 : Hid (fdK us S s n t (k + 1) = M) := Lib.hid (by rw [HK2.out, ← HM.out, List.take_length])
            have HX3 := Lib.hid (hoth b _ _ _ (by decide) HX9.out)
            have HO3 := Lib.hid hown
            have HB3 := Lib.hid hbt
            clear hoth hown hbt HM HK2
            go_wp2
            exact ⟨⟨k + 1, M, r1, by omega, by go_num, HK3, HR1, HO3.out, by rw [← Nat.add_assoc, HQ.out]; exact HX3.out, HB3.out⟩, by simp [RowKit.intOf]; omega⟩
    · obtain rfl : k = t.length := by omega
      have hz2 : ¬ (t.length : Int) < (t.length : Int) := by omega
      obtain ⟨a5, c5, rfl⟩ := owns_hslice hown
      have hLl : L.length ≤ 1000000000000 := by rw [← HK.out]; exact HLn.out _ (Nat.le_refl _)
      obtain ⟨⟨c0, c1, c2, c3⟩, f1, f2, f3⟩ := walk_reads hx
      have HO4 : Hid ((W1.setCell ⟨b, 3, none⟩ (.int .i64 ((m : Int) + (L.length : Int)))).ownsRow w.heap.size 48 2 (.slice a5 L.length c5) L.length (hiCells L)) := Lib.hid ((Other.set hx _).owns (by decide) hown)
      have HX4 : Hid ((W1.setCell ⟨b, 3, none⟩ (.int .i64 ((m : Int) + (L.length : Int)))).heap[b]? = some (.cells #[.pointer a, .int .i64 r, .int .i64 ((n + t.length : Nat) : Int), .int .i64 ((m : Int) + (L.length : Int))] 58 (0, 0))) := Lib.hid (put_heap hx _)
      have HB4 : Hid (But w.heap.size b w (W1.setCell ⟨b, 3, none⟩ (.int .i64 ((m : Int) + (L.length : Int))))) := Lib.hid (hbt.put _ _)
      have hRt : Hid (auR S s t = r) := Lib.hid (by have := HR.out; rwa [List.take_length] at this)
      clear hx hown hbt HR
      go_wp2
      go_ret
      unfold fdL
      rw [HK.out]
      exact ⟨_, rfl, HO4.out, ⟨w0, a, HI0.out, hz, HB0.out _ HB4.out, by rw [hRt.out]; exact HX4.out⟩, HB4.out⟩
end Go.Proofs.YtjmlabggocfikaaGreat
