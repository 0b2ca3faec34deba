/-
  occ.Counts: walked.
-/
import Derived.Test.YtkpmbappddlcmaaOcT
import Derived.Test.YtkpmbappddlcmaaBdE
import Derived.Test.YtkpmbappddlcmaaStepAp
set_option linter.unusedSimpArgs false
set_option linter.unusedVariables false
namespace Go.Proofs.Ytkpmbappddlcmaa
open Go.RowKit

set_option maxRecDepth 100000 in
set_option maxHeartbeats 2000000 in
theorem occounts_one (s t : List UInt8) (k bs bl : Nat) (zs : List Int) (w0 W : World) (hs : s.length ≤ 1000000) (ht : t.length ≤ 1000000) (hz : zs.length ≤ 1000000) (hk : k ≤ 1000000) (T1 : TypeId) (hbs : bs < bl)
    (v1 : Var1 w0 bs (.string ⟨s.toArray⟩) T1) (hg : Grows w0 bl zs W) :
    Calls Try.prog 31 #[.int .i64 (k : Int), .string ⟨t.toArray⟩, .pointer (some ⟨bl, 0, none⟩), .pointer (some ⟨bs, 0, none⟩)] W fun en w' =>
      en = .returned (.tuple #[]) ∧ Grows w0 bl (zs ++ [((fndB s t).length : Int)]) w' := by
  obtain ⟨v, hv, hown, hb⟩ := hg
  have c1 : W.cell? ⟨bs, 0, none⟩ = some (.string ⟨s.toArray⟩) := Var1.cell (T := T1) (by unfold Var1; rw [hb.block bs hbs]; exact v1)
  have c3 := hv.cell
  have f3 := hv.frozen
  have HF := Lib.hid (fun W' => find_any s t W' (by omega) (by omega))
  have hfl : (fndB s t).length ≤ 100000000 := by
    unfold fndB
    split
    · exact Nat.zero_le _
    · have := fnd_length s t s.length; omega
  obtain ⟨i0, hi, hz0, hz1, hz2⟩ := info_parts int_info
  have HV := Lib.hid hv
  have HB := Lib.hid hb
  have hbl := hv.lt
  obtain ⟨a1, cap1, rfl⟩ := owns_slice hown
  have HO := Lib.hid hown
  have hne : (Value.slice a1 zs.length cap1).ownBlock ≠ some bl := fun e => by have := (hown.lt bl e).1; omega
  clear v1 hv hb hown
  generalize fndB s t = L at HF hfl ⊢
  go_enter Try.func31, Try.ntmps31
  go_wp2_with fail
  go_region_law (first
    | (rw [if_pos (by simp [Region.wanted])]
       go_simp
       go_at_call 32
       refine (HF.out _).mono ?_
       rintro en w2 ⟨a2, cap2, rfl, hrow2, hb2⟩
       have HO2 := tx_below HO.out.drew hb2
       have V2 : Var1 w2 bl (.slice a1 zs.length cap1) 33 := by
         unfold Var1
         rw [hb2.block bl hbl]
         exact HV.out
       have B2 : Below bl w0 w2 := HB.out.drew.trans (hb2.mono (Nat.le_of_lt hbl))
       have C2 := V2.cell
       have Z2 : bl + 1 ≤ w2.heap.size := V2.lt
       have A2 : ∀ o, (w2.alloc o).cell? ⟨bl, 0, none⟩ = some (.slice a1 zs.length cap1) := fun o => by
         refine Var1.cell (T := 33) ?_
         unfold Var1
         rw [Lib.alloc_old _ _ bl Z2]
         exact V2)
    | (refine step_append_any rfl (.tmp 6) (.tmp 11) _ rfl (bl + 1) 3 i0 (.int .i64 0) 1 8 Try.underlying33 hi hz0 hz1 hz2 rfl (by omega) (.slice a1 zs.length cap1) zs.length (inCells zs) (by simp [Act.eval, Act.put]) (HO2.alloc _) ⟨w2.heap.size, 0, none⟩ 1 1 [.int .i64 (L.length : Int)] (by simp [Act.eval, Act.put]) rfl (int_news (heap_alloc_new w2 _)) int_one (by unfold maxLen; omega) (by omega) (by simp; omega) ?_
       intro v3 w3 own3 grow3
       obtain ⟨a3, cap3, rfl⟩ := owns_slice own3
       have V3 : Var1 w3 bl (.slice a1 zs.length cap1) 33 := by
         unfold Var1
         rw [grow3.block bl (by simp; omega) (fun ee => hne ee.symm), Lib.alloc_old _ _ bl Z2]
         exact V2
       have C3 := V3.cell
       have F3 := V3.frozen))
  all_goals
    have B3 : Below bl w0 w3 := (B2.alloc (by omega) _).grown grow3 (by simp; omega) (fun j hj => by have := (HO2.lt j hj).1; omega)
    have HG := Lib.hid (Grows.put (zs' := zs ++ [(L.length : Int)]) B3 V3 (by rw [inCells_snoc, List.length_append]; exact own3))
    clear grow3 own3 HO2 B2 B3 V3 V2 A2 C2 C3 F3 HV HB HO c1 c3 f3
    go_wp2
    go_end0
    exact ⟨rfl, HG.out⟩

theorem counts_enters : ∀ args w, (callFunc 31 args).run Try.prog w = .ok (.enter 31 args) w := enters_of Try.func31 (by kernel_rfl) rfl

theorem cntL_length (us : List (List UInt8)) (F : List UInt8 → List Int) (k : Nat) : (cntL us F k).length ≤ us.length := by
  unfold cntL
  rw [List.length_map, List.length_take]
  exact Nat.min_le_right _ _

set_option maxRecDepth 100000 in
set_option maxHeartbeats 1000000 in
theorem occounts_any {w : World} {p : Option Addr} {us : List (List UInt8)} (h : IsPats w p us) (hl : us.length ≤ 1000000) (hu : ∀ t ∈ us, t.length ≤ 1000000) (s : List UInt8) (hs : s.length ≤ 1000000) :
    Calls Try.prog 11 #[.pointer p, .string ⟨s.toArray⟩] w (RetN (cntL us (fndB s) us.length) w) := by
  have hE := Lib.hid (fun (w0 : World) (T1 : TypeId) (h1 : Var1 w0 w.heap.size (.string ⟨s.toArray⟩) T1) (hb : Below w.heap.size w w0) (h0 : Grows w0 (w.heap.size + 1) [] w0) =>
    oceach_any 31 #[.pointer (some ⟨w.heap.size + 1, 0, none⟩), .pointer (some ⟨w.heap.size, 0, none⟩)] counts_enters h hl (fun k W => k ≤ us.length ∧ Grows w0 (w.heap.size + 1) (cntL us (fndB s) k) W)
      (fun k W hk => hb.trans (by obtain ⟨_, v, _, _, hx⟩ := hk; exact hx.mono (by omega)))
      (fun k t W hf hk => by
        have hkl := (List.getElem?_eq_some_iff.1 hf).1
        refine (occounts_one s t k w.heap.size (w.heap.size + 1) (cntL us (fndB s) k) w0 W hs (hu t (List.mem_of_getElem? hf)) (by have := cntL_length us (fndB s) k; omega) (by omega) T1 (by omega) h1 hk.2).mono ?_
        rintro en w' ⟨he2, hg⟩
        refine ⟨he2, by omega, ?_⟩
        rw [cntL_next hf]
        exact hg) w0 ⟨Nat.zero_le _, h0⟩)
  clear h hu
  generalize cntL us (fndB s) us.length = zs at hE ⊢
  go_enter Try.func11, Try.ntmps11
  go_wp2_with fail
  have D3 : Below w.heap.size w ((w.alloc (.cells #[.string ⟨s.toArray⟩] 9)).alloc (.cells #[.slice none 0 0] 33)) :=
    ((Below.refl _ w).alloc (Nat.le_refl _) _).alloc (by simp) _
  have V1 : Var1 ((w.alloc (.cells #[.string ⟨s.toArray⟩] 9)).alloc (.cells #[.slice none 0 0] 33)) w.heap.size (.string ⟨s.toArray⟩) 9 := by
    unfold Var1
    rw [Lib.alloc_old _ _ _ (by simp)]
    exact heap_alloc_new w _
  have V3 : Var1 ((w.alloc (.cells #[.string ⟨s.toArray⟩] 9)).alloc (.cells #[.slice none 0 0] 33)) (w.heap.size + 1) (.slice none 0 0) 33 := by
    unfold Var1
    have := heap_alloc_new (w.alloc (.cells #[.string ⟨s.toArray⟩] 9)) (.cells #[.slice none 0 0] 33)
    rwa [show (w.alloc (.cells #[.string ⟨s.toArray⟩] 9)).heap.size = w.heap.size + 1 by simp] at this
  generalize (w.alloc (.cells #[.string ⟨s.toArray⟩] 9)).alloc (.cells #[.slice none 0 0] 33) = w3 at D3 V1 V3 ⊢
  have C3 := Lib.hid (hE.out w3 _ V1 D3 ⟨.slice none 0 0, V3, World.ownsRow_nil _ _ _ _, Below.refl _ _⟩)
  clear hE V1 V3
  refine C3.out.mono ?_
  rintro en w4 ⟨rfl, _, v, hv, hown, hb⟩
  have hc4 := hv.cell
  have hown5 := Lib.hid (owns_mono hown (show w.heap.size ≤ w.heap.size + 1 + 1 by omega))
  have HB := Lib.hid (D3.trans (hb.mono (by omega)))
  clear hv hown hb D3 C3
  go_wp2
  go_ret
  exact ⟨v, rfl, hown5.out, HB.out⟩
end Go.Proofs.Ytkpmbappddlcmaa
