/-
  The law's 'awake' of layer 16.
-/
import Derived.Test.YtigdlkoilamomaaPtUr
import Derived.Test.YtigdlkoilamomaaPtFew
import Derived.Test.YtigdlkoilamomaaFewN
import Derived.Test.YtigdlkoilamomaaTrT
import Derived.Test.YtigdlkoilamomaaTrF
set_option linter.unusedSimpArgs false
set_option linter.unusedVariables false
namespace Go.Proofs.Ytigdlkoilamomaa
open Go.RowKit

theorem pats_nodup {w : World} {p : Option Addr} {us : List (List UInt8)} (h : IsPats w p us) : us.Nodup := by
  rcases h with ⟨_, rfl⟩ | ⟨b, _, _, h⟩
  · exact List.Pairwise.nil
  · exact h.once
/-- A new trie of a set that texts make. -/
theorem trnew_set {w : World} {p : Option Addr} {ws : List (List UInt8)} (h : IsPats w p (setL ws)) :
    Calls Try.prog 10 #[.pointer p] w fun e w' => ∃ q S, e = .returned (.pointer q) ∧ IsTrie w' q p (setL ws) S ∧ Below w.heap.size w w' := trnew_any h (set_asc ws) (pats_nodup h)

theorem trex_fault : faultL [[97, 98], [97, 99], [98]] = 0 := by decide +kernel
theorem trex_set : setL [[97, 98], [97, 99], [98]] = [[97, 98], [97, 99], [98]] := by
  rw [set_good trex_fault, ← ins_srt]; decide +kernel
theorem trex_kids (q : List UInt8) (l : List UInt8) (h : kidsL [[97, 98], [97, 99], [98]] q = l) : kidsP [[97, 98], [97, 99], [98]] q = l.map fun c => q ++ [c] := by unfold kidsP; rw [h]
theorem trex_bfs : Bfs [[97, 98], [97, 99], [98]] 5 [[], [97], [98], [97, 98], [97, 99]] := by
  have k0 := trex_kids [] [97, 98] (by decide +kernel)
  have k1 := trex_kids [97] [98, 99] (by decide +kernel)
  have k2 := trex_kids [98] [] (by decide +kernel)
  have k3 := trex_kids [97, 98] [] (by decide +kernel)
  have k4 := trex_kids [97, 99] [] (by decide +kernel)
  have h0 := Bfs.zero (us := [[97, 98], [97, 99], [98]])
  have h1 := h0.step (p := []) rfl
  rw [k0] at h1
  have h2 := h1.step (p := [97]) rfl
  rw [k1] at h2
  have h3 := h2.step (p := [98]) rfl
  rw [k2] at h3
  have h4 := h3.step (p := [97, 98]) rfl
  rw [k3] at h4
  have h5 := h4.step (p := [97, 99]) rfl
  rw [k4] at h5
  exact h5
theorem trex_is {S : List (List UInt8)} (h : IsSt [[97, 98], [97, 99], [98]] S) : S = [[], [97], [98], [97, 98], [97, 99]] := h.unique (Bfs.done trex_bfs)

set_option maxRecDepth 100000 in
set_option maxHeartbeats 2000000 in
theorem trawake_any (w : World) : Calls Try.prog 7 #[] w fun e w' => e = .returned (.bool true) ∧ Below w.heap.size w w' := by
  have hA := strs_heap (ws := [[97, 98], [97, 99], [98]]) (heap_alloc_new w (.cells (txCells [[97, 98], [97, 99], [98]]).toArray 9)) rfl
  have H1 := Lib.hid (ptnew_all (some ⟨w.heap.size, 0, none⟩) 3 3 _ _ (by omega) hA (by decide))
  rw [trex_fault] at H1
  have c1 : Below w.heap.size w (w.alloc (.cells (txCells [[97, 98], [97, 99], [98]]).toArray 9)) := (Below.refl _ w).alloc (Nat.le_refl _) _
  have s1 := c1.size
  clear hA
  go_enter Try.func7, Try.ntmps7
  go_wp2_with fail
  refine H1.out.mono ?_
  rintro e w2 ⟨p, rfl, hs, hb2⟩
  have d2 := c1.trans (hb2.mono s1)
  have e2 := d2.size
  have N2 := Lib.hid (trnew_set hs)
  clear H1 hs hb2 c1 s1
  go_wp2_with fail
  refine N2.out.mono ?_
  rintro e w3 ⟨q, S, rfl, hT, hb3⟩
  have d3 := d2.trans (hb3.mono e2)
  have e3 := d3.size
  rw [trex_set] at hT
  obtain rfl := trex_is hT.st
  have A1 : Asc [[97, 98], [97, 99], [98]] := by rw [← trex_set]; exact set_asc _
  have K1 := Lib.hid (ts_next hT 1 (s := [97]) rfl 99)
  have K2 := Lib.hid (fun W hW => ts_len (hT.below (w' := W) hW))
  have K3 := Lib.hid (fun W hW => ts_path (hT.below (w' := W) hW) A1 3 (s := [97, 98]) rfl)
  clear N2 hb3 hT d2 e2 A1
  go_wp2_with fail
  refine K1.out.mono ?_
  rintro e w4 ⟨⟨h1, _⟩, hb4⟩
  obtain ⟨n, rfl, hn⟩ := h1 (by decide)
  have hn4 : n = 4 := by
    match n, hn with
    | 0, hn => simp at hn
    | 1, hn => simp at hn
    | 2, hn => simp at hn
    | 3, hn => simp at hn
    | 4, hn => rfl
    | n + 5, hn => simp at hn
  subst hn4
  have d4 := d3.trans (hb4.mono e3)
  have e4 := d4.size
  have K4 := Lib.hid (K2.out w4 hb4)
  have K5 := Lib.hid (K3.out w4 hb4)
  clear K1 K2 K3 h1 hn hb4 d3 e3
  go_wp2_with fail
  refine K4.out.mono ?_
  rintro e w' ⟨rfl, hw⟩
  obtain rfl := hw.symm
  clear hw K4
  go_wp2_with fail
  refine K5.out.mono ?_
  rintro e w5 ⟨rfl, hb5⟩
  have d5 := d4.trans (hb5.mono e4)
  clear K5 hb5 d4 e4
  go_wp2
  go_ret
  exact ⟨rfl, d5⟩
end Go.Proofs.Ytigdlkoilamomaa
