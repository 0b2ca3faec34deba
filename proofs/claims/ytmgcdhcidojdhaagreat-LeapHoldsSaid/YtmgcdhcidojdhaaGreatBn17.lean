/-
  Texts put together: AfFw, FewN, Few8, Few10, AfOr, AfTw, PtFr, PtUr, PtFew, Mask.
-/
import Derived.Test.YtmgcdhcidojdhaaGreatBn1
import Derived.Test.YtmgcdhcidojdhaaGreatBn16
import Derived.Test.YtmgcdhcidojdhaaGreatBn5
set_option linter.unusedSimpArgs false
set_option linter.unusedVariables false
namespace Go.Proofs.YtmgcdhcidojdhaaGreat
open Go.RowKit
set_option maxHeartbeats 1000000 in
theorem few_any (a : Option Addr) (len cap : Nat) (ws : List (List UInt8)) (m n : Nat) (w : World) (hlen : len ≤ 9223372036854775807) (hm : m ≤ 1000000) (hn : n ≤ 1000000) (hr : IsStrs w a len ws) (ht : ∀ t ∈ ws, t.length ≤ 9223372036854775807) :
    Calls Tryz.prog 5 #[.slice a len cap, .int .i64 (m : Int), .int .i64 (n : Int)] w fun e w' => e = .returned (.bool (fewB ws m n)) ∧ w' = w := by
  have hwl := hr.1
  by_cases hbig : m < len
  · have HE : Hid (fewB ws m n = false) := Lib.hid (few_no (fun h => by omega))
    clear hr ht hwl
    go_enter Tryz.func5, Tryz.ntmps5
    go_wp2
    go_ret
    exact ⟨by rw [HE.out]; rfl, rfl⟩
  · have HT := Lib.hid ht
    clear ht
    go_enter Tryz.func5, Tryz.ntmps5
    go_wp2
    go_loop [7] (fun i => ∃ k : Nat, k ≤ len ∧ i = .int .i64 k ∧ Hid (∀ t ∈ ws.take k, t.length ≤ n)) (fun i => len - (RowKit.intOf i).toNat)
    case atStart => exact ⟨0, Nat.zero_le _, rfl, Lib.hid (by simp)⟩
    case round =>
      obtain ⟨k, hk, rfl, HK⟩ := hrel
      by_cases hlt : k < len
      · obtain ⟨b, off, rfl, t, hf, hc⟩ := str_at hr (Below.refl _ _) k hlt
        have htl := HT.out t (List.mem_of_getElem? hf)
        have HS := Lib.hid (bsize t)
        by_cases hq : n < t.length
        · have HE : Hid (fewB ws m n = false) := Lib.hid (few_no (fun h => by have := h.2 t (List.mem_of_getElem? hf); omega))
          clear hf HK hr
          go_wp2
          go_ret
          exact ⟨by rw [HE.out]; rfl, rfl⟩
        · have HN : Hid (∀ t ∈ ws.take (k + 1), t.length ≤ n) := Lib.hid (fun x hx => by
            rcases mem_take_snoc hf hx with h | rfl
            · exact HK.out x h
            · omega)
          clear hf HK hr
          go_wp2
          exact ⟨⟨k + 1, by omega, by go_num, HN⟩, by simp [RowKit.intOf]; omega⟩
      · obtain rfl : k = len := by omega
        have HE : Hid (fewB ws m n = true) := Lib.hid ((few_iff ws m n).2 ⟨by omega, by have := HK.out; rwa [List.take_of_length_le (by omega)] at this⟩)
        clear HK hr
        go_wp2
        go_ret
        exact ⟨by rw [HE.out]; rfl, rfl⟩

theorem few_not (a : Option Addr) (len cap : Nat) (ws : List (List UInt8)) (w : World) (hlen : len ≤ 9223372036854775807) (hr : IsStrs w a len ws) (ht : ∀ t ∈ ws, t.length ≤ 9223372036854775807) (hq : fewB ws 20 50 = false) :
    Calls Tryz.prog 5 #[.slice a len cap, .int .i64 20, .int .i64 50] w fun e w' => e = .returned (.bool false) ∧ w' = w := by
  have := few_any a len cap ws 20 50 w hlen (by omega) (by omega) hr ht
  rw [hq] at this
  exact this
theorem few_yes (a : Option Addr) (len cap : Nat) (ws : List (List UInt8)) (w : World) (hlen : len ≤ 9223372036854775807) (hr : IsStrs w a len ws) (ht : ∀ t ∈ ws, t.length ≤ 9223372036854775807) (hq : fewB ws 20 50 = true) :
    Calls Tryz.prog 5 #[.slice a len cap, .int .i64 20, .int .i64 50] w fun e w' => e = .returned (.bool true) ∧ w' = w := by
  have := few_any a len cap ws 20 50 w hlen (by omega) (by omega) hr ht
  rw [hq] at this
  exact this

end Go.Proofs.YtmgcdhcidojdhaaGreat

namespace Go.Proofs.YtmgcdhcidojdhaaGreat
open Go.RowKit

theorem strs_heap_of {w W : World} {a : Option Addr} {len : Nat} {ws : List (List UInt8)} (h : IsStrs w a len ws) (e : W.heap = w.heap) : IsStrs W a len ws := by
  unfold IsStrs World.cell? at *
  rw [e]
  exact h
theorem few_noN (a : Option Addr) (len cap : Nat) (ws : List (List UInt8)) (w : World) (hlen : len ≤ 9223372036854775807) (hr : IsStrs w a len ws) (ht : ∀ t ∈ ws, t.length ≤ 9223372036854775807) (β : Bool) (hq : fewB ws 12 20 = β) :
    Calls Tryz.prog 5 #[.slice a len cap, .int .i64 12, .int .i64 20] w fun e w' => e = .returned (.bool β) ∧ w' = w := by
  have := few_any a len cap ws 12 20 w hlen (by omega) (by omega) hr ht
  rw [hq] at this
  exact this
end Go.Proofs.YtmgcdhcidojdhaaGreat

namespace Go.Proofs.YtmgcdhcidojdhaaGreat
open Go.RowKit


theorem few_no8 (a : Option Addr) (len cap : Nat) (ws : List (List UInt8)) (w : World) (hlen : len ≤ 9223372036854775807) (hr : IsStrs w a len ws) (ht : ∀ t ∈ ws, t.length ≤ 9223372036854775807) (β : Bool) (hq : fewB ws 8 12 = β) :
    Calls Tryz.prog 5 #[.slice a len cap, .int .i64 8, .int .i64 12] w fun e w' => e = .returned (.bool β) ∧ w' = w := by
  have := few_any a len cap ws 8 12 w hlen (by omega) (by omega) hr ht
  rw [hq] at this
  exact this

end Go.Proofs.YtmgcdhcidojdhaaGreat

namespace Go.Proofs.YtmgcdhcidojdhaaGreat
open Go.RowKit


theorem few_no10 (a : Option Addr) (len cap : Nat) (ws : List (List UInt8)) (w : World) (hlen : len ≤ 9223372036854775807) (hr : IsStrs w a len ws) (ht : ∀ t ∈ ws, t.length ≤ 9223372036854775807) (β : Bool) (hq : fewB ws 10 20 = β) :
    Calls Tryz.prog 5 #[.slice a len cap, .int .i64 10, .int .i64 20] w fun e w' => e = .returned (.bool β) ∧ w' = w := by
  have := few_any a len cap ws 10 20 w hlen (by omega) (by omega) hr ht
  rw [hq] at this
  exact this
theorem plus_text (s t : List UInt8) : (⟨s.toArray⟩ : ByteArray) ++ (⟨t.toArray⟩ : ByteArray) = ⟨(s ++ t).toArray⟩ := by
  apply ByteArray.ext
  simp

end Go.Proofs.YtmgcdhcidojdhaaGreat

namespace Go.Proofs.YtmgcdhcidojdhaaGreat
open Go.RowKit

set_option maxHeartbeats 2000000 in
theorem rsorted_any (a : Option Addr) (len cap : Nat) (ws : List (List UInt8)) (w : World) (hlen : len ≤ 1000000) (hr : IsStrs w a len ws) :
    Calls Tryz.prog 29 #[.slice a len cap] w (RetO (srt ws) w) := by
  have hwl := hr.1
  have HI := Lib.hid hr
  have HW : Hid ((ws.take len).foldl insS [] = srt ws) := Lib.hid (by rw [List.take_of_length_le (by omega)]; exact ins_srt ws)
  obtain ⟨i0, hi, hz0, hz1, hz2⟩ := info_parts string_info
  clear hr
  go_enter Tryz.func29, Tryz.ntmps29
  go_wp2
  go_loopw [3, 4, 5, 6] (fun v i x y wr => ∃ (k g cap' : Nat) (acc : List (List UInt8)), k ≤ len ∧ i = .int .i64 k ∧ v = .slice (some ⟨g, 0, none⟩) k cap' ∧ acc.length = k ∧ Hid ((ws.take k).foldl insS [] = acc) ∧ wr.ownsRow w.heap.size 9 1 (.slice (some ⟨g, 0, none⟩) k cap') k (txCells acc) ∧ Below w.heap.size w wr) (fun _ i _ _ _ => len - (RowKit.intOf i).toNat)
  case atStart => exact ⟨0, w.heap.size, 0, [], Nat.zero_le _, rfl, rfl, rfl, Lib.hid rfl, World.ownsRow_made w #[] 0 (Nat.le_refl _) (by unfold maxLen; omega) rfl, (Below.refl _ _).alloc (Nat.le_refl _) _⟩
  case round =>
    obtain ⟨k, g, cap', acc, hk, rfl, rfl, hacc, HK, hown, hbe⟩ := hrel
    by_cases hlt : k < len
    · obtain ⟨W1, hW1⟩ : ∃ W1, W1 = wr := ⟨_, rfl⟩
      subst hW1
      obtain ⟨t, hf⟩ : ∃ t, ws[k]? = some t := ⟨_, List.getElem?_eq_getElem (show k < ws.length by omega)⟩
      have HF : Hid ((ws.take (k + 1)).foldl insS [] = insS acc t) := Lib.hid (by rw [fold_snoc hf, HK.out])
      obtain ⟨p, hp⟩ : ∃ p, posS acc t acc.length = p := ⟨_, rfl⟩
      have HP := Lib.hid (insS_at hp)
      have HQ : Hid (posS acc t k = p) := Lib.hid (by rw [← hacc]; exact hp)
      have Hf := Lib.hid hf
      clear hp HK hf
      go_wp2
      go_loopw [5] (fun x wr => ∃ m : Nat, m ≤ k ∧ x = .int .i64 m ∧ Hid (posS acc t m = p) ∧ wr.ownsRow w.heap.size 9 1 (.slice (some ⟨g, 0, none⟩) k cap') k (txCells acc) ∧ Below w.heap.size w wr) (fun x _ => (RowKit.intOf x).toNat)
      case atStart => exact ⟨k, Nat.le_refl _, rfl, HQ, hown, hbe⟩
      case round =>
        clear hown hbe
        obtain ⟨m, hm, rfl, HM, hown, hbe⟩ := hrel
        have d0 : (0 : Int) ≤ (k : Int) := by omega
        have d1 : (k : Int) < (len : Int) := by omega
        by_cases h0 : m = 0
        · subst h0
          have HR : Hid (insS acc t = acc.take 0 ++ ([t] ++ acc.drop 0)) := Lib.hid (by
            have := HM.out; rw [HP.out, ← this]; rfl)
          go_wp2_with fail
          go_quiet (fail)
          obtain ⟨W2, hW2⟩ : ∃ W2, W2 = wr.drewN nq := ⟨_, rfl⟩
          rw [← hW2]
          have hbe2 : Below w.heap.size w W2 := by rw [hW2]; exact below_drewS hbe _
          have hown2 : W2.ownsRow w.heap.size 9 1 (.slice (some ⟨g, 0, none⟩) k cap') k (txCells acc) := by rw [hW2]; exact hown
          clear hW2 hown hbe
          have hsz := hbe2.size
          have hcap := own_cap hown2
          have hglt := (hown2.lt g rfl).2
          obtain ⟨b3, off3, hab, t2, hf2, hc⟩ := str_at HI.out hbe2 k hlt
          cases hab
          rw [show t2 = t from Option.some.inj (hf2.symm.trans Hf.out)] at hc
          have hblt := World.block_lt_of_cell? W2 _ hc
          clear hf2
          have g1 : (0 : Int) ≤ (0 : Int) := by omega
          have g2 : (0 : Int) ≤ (k : Int) := by omega
          have g3 : (0 : Int) ≤ (cap' : Int) := by omega
          have g4 : (k : Int) ≤ (cap' : Int) := by omega
          have hmade : (W2.alloc (.cells #[] 9)).ownsRow W2.heap.size 9 1 (.slice (some ⟨W2.heap.size, 0, none⟩) 0 0) 0 [] := World.ownsRow_made W2 #[] 0 (Nat.le_refl _) (by unfold maxLen; omega) rfl
          have OA := Lib.hid (hown2.alloc (.cells #[] 9))
          have hp1 := own_part OA.out 0
          have hc1 : (W2.alloc (.cells #[] 9)).cell? ⟨b3, off3 + k, none⟩ = some (.string ⟨t.toArray⟩) := (((Below.refl W2.heap.size W2).alloc (Nat.le_refl _) _).cell (p := ⟨b3, off3 + k, none⟩) hblt).trans hc
          go_wp2_with (at_builtin; refine wpList_append_own _ rfl _ _ 22 rfl W2.heap.size 9 i0 (.string ByteArray.empty) 1 16 Tryz.underlying22 hi hz0 hz1 hz2 rfl (by decide) _ _ _ rfl hmade ⟨g, 0, none⟩ 0 cap' (txCells (acc.take 0)) rfl (by rw [txCells_length, List.length_take]; omega) hp1 tx_one (by unfold maxLen; omega) (by omega) (by simp) ?_)
          intro v1 w1 own1 grow1 _
          have A1 : Below W2.heap.size W2 w1 := ((Below.refl W2.heap.size W2).alloc (Nat.le_refl _) _).grown grow1 (by simp) (fun j hj => by cases hj; exact Nat.le_refl _)
          have own1' : w1.ownsRow W2.heap.size 9 1 v1 0 (txCells (acc.take 0)) := by first | exact own1 | (rw [Nat.zero_add] at own1; exact own1)
          have s1 := A1.size
          have hc2 : w1.cell? ⟨b3, off3 + k, none⟩ = some (.string ⟨t.toArray⟩) := (A1.cell (p := ⟨b3, off3 + k, none⟩) hblt).trans hc
          clear own1 grow1 hmade OA hp1 hc1
          go_wp2_with (at_builtin; refine wpList_append_own _ rfl _ _ 22 rfl W2.heap.size 9 i0 (.string ByteArray.empty) 1 16 Tryz.underlying22 hi hz0 hz1 hz2 rfl (by decide) _ _ _ rfl (own1'.alloc _) ⟨w1.heap.size, 0, none⟩ 1 1 (txCells [t]) rfl rfl (one_news (heap_alloc_new w1 _)) tx_one (by unfold maxLen; omega) (by omega) (by simp; omega) ?_)
          intro v2 w2 own2 grow2 _
          have A2 : Below W2.heap.size W2 w2 := (A1.alloc s1 _).grown grow2 (by simp; omega) (fun j hj => (own1'.lt j hj).1)
          have s2 := A2.size
          have O2 := Lib.hid (tx_below hown2 A2)
          have hp2 := own_rest O2.out 0
          clear grow2 own1'
          have ho : ∀ (w5 : World) (v5 : Value), w5.ownsRow W2.heap.size 9 1 v5 (0 + 1 + (k - 0)) ((txCells (acc.take 0) ++ txCells [t]) ++ txCells (acc.drop 0)) → w5.ownsRow w.heap.size 9 1 v5 (k + 1) (txCells (insS acc t)) := fun w5 v5 h => by
            rw [show 0 + 1 + (k - 0) = k + 1 by omega, ← txCells_append, ← txCells_append, List.append_assoc, ← HR.out] at h
            exact owns_mono h hsz
          have HO := Lib.hid ho
          have hil : (insS acc t).length = k + 1 := by rw [(insS_perm acc t).length_eq, List.length_cons, hacc]
          have g5 : (k : Int) - (0 : Int) = ((k - 0 : Nat) : Int) := by omega
          clear ho
          by_cases hcm : cap' = 0
          · have hkm : k = 0 := by omega
            go_wp2_with (at_builtin; refine wpList_append_own _ rfl _ _ 22 rfl W2.heap.size 9 i0 (.string ByteArray.empty) 1 16 Tryz.underlying22 hi hz0 hz1 hz2 rfl (by decide) _ _ _ rfl own2 ⟨g, 0, none⟩ 0 0 (txCells []) rfl rfl (fun j u h => by cases h) tx_one (by unfold maxLen; omega) (by omega) (by omega) ?_)
            intro v3 w3 own3 grow3 _
            have A3 : Below W2.heap.size W2 w3 := A2.grown grow3 s2 (fun j hj => (own2.lt j hj).1)
            have e4 : k - 0 = 0 := by omega
            have e5 : acc.drop 0 = [] := List.drop_eq_nil_of_le (by omega)
            have own4 := HO.out w3 v3 (by rw [e4, e5]; first | exact own3 | (rw [List.append_assoc]; exact own3))
            have B3 : Below w.heap.size w w3 := hbe2.trans (A3.mono hsz)
            clear own3 own2 grow3 O2 hp2 HO e4 e5
            have hfm := own_form own4
            obtain ⟨g', cap2, rfl⟩ := hfm
            go_wp2
            exact ⟨⟨k + 1, g', cap2, insS acc t, by omega, by go_num, rfl, hil, HF, own4, B3⟩, by simp [RowKit.intOf]; omega⟩
          · go_wp2_with (at_builtin; refine wpList_append_own _ rfl _ _ 22 rfl W2.heap.size 9 i0 (.string ByteArray.empty) 1 16 Tryz.underlying22 hi hz0 hz1 hz2 rfl (by decide) _ _ _ rfl own2 ⟨g, 0, none⟩ (k - 0) (cap' - 0) (txCells (acc.drop 0)) rfl (by rw [txCells_length, List.length_drop]; omega) hp2 tx_one (by unfold maxLen; omega) (by omega) (by omega) ?_)
            intro v3 w3 own3 grow3 _
            have A3 : Below W2.heap.size W2 w3 := A2.grown grow3 s2 (fun j hj => (own2.lt j hj).1)
            have own4 := HO.out w3 v3 (by first | exact own3 | (rw [List.append_assoc]; exact own3))
            have B3 : Below w.heap.size w w3 := hbe2.trans (A3.mono hsz)
            clear own3 own2 grow3 O2 hp2 HO
            have hfm := own_form own4
            obtain ⟨g', cap2, rfl⟩ := hfm
            go_wp2
            exact ⟨⟨k + 1, g', cap2, insS acc t, by omega, by go_num, rfl, hil, HF, own4, B3⟩, by simp [RowKit.intOf]; omega⟩
        · obtain ⟨n, rfl⟩ : ∃ n, m = n + 1 := ⟨m - 1, by omega⟩
          obtain ⟨b, off, rfl, t', hf', hc⟩ := str_at HI.out hbe k hlt
          obtain rfl : t' = t := Option.some.inj (hf'.symm.trans Hf.out)
          obtain ⟨u, hu⟩ : ∃ u, acc[n]? = some u := ⟨_, List.getElem?_eq_getElem (show n < acc.length by omega)⟩
          have hcu := own_at hown hu
          have e1 : ((n + 1 : Nat) : Int) - 1 = (n : Int) := by omega
          have e2 : ((n + 1 : Nat) : Int) = (n : Int) + 1 := by omega
          have d2 : (0 : Int) ≤ (n : Int) := by omega
          have d3 : (n : Int) < (k : Int) := by omega
          have d4 : decide ((0 : Int) < (n : Int) + 1) = true := decide_eq_true (by omega)
          have d5 : (0 : Int) < (n : Int) + 1 := by omega
          cases hq : Op.bytesLess t' u with
          | true =>
            have HN : Hid (posS acc t' n = p) := Lib.hid (by rw [← posS_hit hu hq]; exact HM.out)
            rw [e2]
            clear hf' hu HM
            go_wp2_with fail
            go_quiet (fail)
            go_wp2
            exact ⟨⟨n, by omega, by go_num, HN, hown, below_drewS hbe _⟩, by simp [RowKit.intOf]⟩
          | false =>
            have HR : Hid (insS acc t' = acc.take (n + 1) ++ ([t'] ++ acc.drop (n + 1))) := Lib.hid (by
              have := HM.out; rw [posS_miss hu hq] at this; rw [HP.out, ← this])
            rw [e2]
            clear hf' hu HM
            go_wp2_with fail
            go_quiet (fail)
            obtain ⟨m, hmm⟩ : ∃ m, m = n + 1 := ⟨_, rfl⟩
            rw [← e2, ← hmm]
            rw [← hmm] at HR
            have gm : m ≤ k := by omega
            have HMM := Lib.hid hmm
            clear hcu e1 e2 d2 d3 d4 d5 hq hmm
            clear hm
            obtain ⟨W2, hW2⟩ : ∃ W2, W2 = wr.drewN nq := ⟨_, rfl⟩
            rw [← hW2]
            have hbe2 : Below w.heap.size w W2 := by rw [hW2]; exact below_drewS hbe _
            have hown2 : W2.ownsRow w.heap.size 9 1 (.slice (some ⟨g, 0, none⟩) k cap') k (txCells acc) := by rw [hW2]; exact hown
            clear hW2 hown hbe
            have hsz := hbe2.size
            have hcap := own_cap hown2
            have hglt := (hown2.lt g rfl).2
            obtain ⟨b3, off3, hab, t2, hf2, hc⟩ := str_at HI.out hbe2 k hlt
            cases hab
            rw [show t2 = t' from Option.some.inj (hf2.symm.trans Hf.out)] at hc
            have hblt := World.block_lt_of_cell? W2 _ hc
            clear hf2
            have g1 : (0 : Int) ≤ (m : Int) := by omega
            have g2 : (m : Int) ≤ (k : Int) := by omega
            have g3 : (m : Int) ≤ (cap' : Int) := by omega
            have g4 : (k : Int) ≤ (cap' : Int) := by omega
            have hmade : (W2.alloc (.cells #[] 9)).ownsRow W2.heap.size 9 1 (.slice (some ⟨W2.heap.size, 0, none⟩) 0 0) 0 [] := World.ownsRow_made W2 #[] 0 (Nat.le_refl _) (by unfold maxLen; omega) rfl
            have OA := Lib.hid (hown2.alloc (.cells #[] 9))
            have hp1 := own_part OA.out m
            have hc1 : (W2.alloc (.cells #[] 9)).cell? ⟨b, off + k, none⟩ = some (.string ⟨t'.toArray⟩) := (((Below.refl W2.heap.size W2).alloc (Nat.le_refl _) _).cell (p := ⟨b, off + k, none⟩) hblt).trans hc
            go_wp2_with (at_builtin; refine wpList_append_own _ rfl _ _ 22 rfl W2.heap.size 9 i0 (.string ByteArray.empty) 1 16 Tryz.underlying22 hi hz0 hz1 hz2 rfl (by decide) _ _ _ rfl hmade ⟨g, 0, none⟩ m cap' (txCells (acc.take m)) rfl (by rw [txCells_length, List.length_take]; omega) hp1 tx_one (by unfold maxLen; omega) (by omega) (by simp) ?_)
            intro v1 w1 own1 grow1 _
            have A1 : Below W2.heap.size W2 w1 := ((Below.refl W2.heap.size W2).alloc (Nat.le_refl _) _).grown grow1 (by simp) (fun j hj => by cases hj; exact Nat.le_refl _)
            have own1' : w1.ownsRow W2.heap.size 9 1 v1 m (txCells (acc.take m)) := by first | exact own1 | (rw [Nat.zero_add] at own1; exact own1)
            have s1 := A1.size
            have hc2 : w1.cell? ⟨b, off + k, none⟩ = some (.string ⟨t'.toArray⟩) := (A1.cell (p := ⟨b, off + k, none⟩) hblt).trans hc
            clear own1 grow1 hmade OA hp1 hc1
            go_wp2_with (at_builtin; refine wpList_append_own _ rfl _ _ 22 rfl W2.heap.size 9 i0 (.string ByteArray.empty) 1 16 Tryz.underlying22 hi hz0 hz1 hz2 rfl (by decide) _ _ _ rfl (own1'.alloc _) ⟨w1.heap.size, 0, none⟩ 1 1 (txCells [t']) rfl rfl (one_news (heap_alloc_new w1 _)) tx_one (by unfold maxLen; omega) (by omega) (by simp; omega) ?_)
            intro v2 w2 own2 grow2 _
            have A2 : Below W2.heap.size W2 w2 := (A1.alloc s1 _).grown grow2 (by simp; omega) (fun j hj => (own1'.lt j hj).1)
            have s2 := A2.size
            have O2 := Lib.hid (tx_below hown2 A2)
            have hp2 := own_rest O2.out m
            clear grow2 own1'
            have ho : ∀ (w5 : World) (v5 : Value), w5.ownsRow W2.heap.size 9 1 v5 (m + 1 + (k - m)) ((txCells (acc.take m) ++ txCells [t']) ++ txCells (acc.drop m)) → w5.ownsRow w.heap.size 9 1 v5 (k + 1) (txCells (insS acc t')) := fun w5 v5 h => by
              rw [show m + 1 + (k - m) = k + 1 by omega, ← txCells_append, ← txCells_append, List.append_assoc, ← HR.out] at h
              exact owns_mono h hsz
            have HO := Lib.hid ho
            have hil : (insS acc t').length = k + 1 := by rw [(insS_perm acc t').length_eq, List.length_cons, hacc]
            have g5 : (k : Int) - (m : Int) = ((k - m : Nat) : Int) := by omega
            clear ho
            by_cases hcm : cap' = m
            · have hkm : k = m := by omega
              go_wp2_with (at_builtin; refine wpList_append_own _ rfl _ _ 22 rfl W2.heap.size 9 i0 (.string ByteArray.empty) 1 16 Tryz.underlying22 hi hz0 hz1 hz2 rfl (by decide) _ _ _ rfl own2 ⟨g, 0, none⟩ 0 0 (txCells []) rfl rfl (fun j u h => by cases h) tx_one (by unfold maxLen; omega) (by omega) (by omega) ?_)
              intro v3 w3 own3 grow3 _
              have A3 : Below W2.heap.size W2 w3 := A2.grown grow3 s2 (fun j hj => (own2.lt j hj).1)
              have e4 : k - m = 0 := by omega
              have e5 : acc.drop m = [] := List.drop_eq_nil_of_le (by omega)
              have own4 := HO.out w3 v3 (by rw [e4, e5]; first | exact own3 | (rw [List.append_assoc]; exact own3))
              have B3 : Below w.heap.size w w3 := hbe2.trans (A3.mono hsz)
              clear own3 own2 grow3 O2 hp2 HO e4 e5
              have hfm := own_form own4
              obtain ⟨g', cap2, rfl⟩ := hfm
              go_wp2
              exact ⟨⟨k + 1, g', cap2, insS acc t', by omega, by go_num, rfl, hil, HF, own4, B3⟩, by simp [RowKit.intOf]; omega⟩
            · go_wp2_with (at_builtin; refine wpList_append_own _ rfl _ _ 22 rfl W2.heap.size 9 i0 (.string ByteArray.empty) 1 16 Tryz.underlying22 hi hz0 hz1 hz2 rfl (by decide) _ _ _ rfl own2 ⟨g, m, none⟩ (k - m) (cap' - m) (txCells (acc.drop m)) rfl (by rw [txCells_length, List.length_drop]; omega) hp2 tx_one (by unfold maxLen; omega) (by omega) (by omega) ?_)
              intro v3 w3 own3 grow3 _
              have A3 : Below W2.heap.size W2 w3 := A2.grown grow3 s2 (fun j hj => (own2.lt j hj).1)
              have own4 := HO.out w3 v3 (by first | exact own3 | (rw [List.append_assoc]; exact own3))
              have B3 : Below w.heap.size w w3 := hbe2.trans (A3.mono hsz)
              clear own3 own2 grow3 O2 hp2 HO
              have hfm := own_form own4
              obtain ⟨g', cap2, rfl⟩ := hfm
              go_wp2
              exact ⟨⟨k + 1, g', cap2, insS acc t', by omega, by go_num, rfl, hil, HF, own4, B3⟩, by simp [RowKit.intOf]; omega⟩
    · obtain rfl : k = len := by omega
      have HE : Hid (srt ws = acc) := Lib.hid (by rw [← HW.out, HK.out])
      clear HK HW
      go_wp2
      go_ret
      exact ⟨_, rfl, by rw [HE.out, hacc]; exact hown, hbe⟩
end Go.Proofs.YtmgcdhcidojdhaaGreat

namespace Go.Proofs.YtmgcdhcidojdhaaGreat
open Go.RowKit

set_option maxHeartbeats 2000000 in
theorem rtwice_any (a : Option Addr) (len cap : Nat) (ws : List (List UInt8)) (w : World) (hlen : len ≤ 1000000) (hr : IsStrs w a len ws) :
    Calls Tryz.prog 28 #[.slice a len cap] w fun e w' => e = .returned (.int .i64 (twS [] ws 0)) ∧ Below w.heap.size w w' := by
  have hwl := hr.1
  obtain ⟨R, hR⟩ : ∃ R, twS [] ws 0 = R := ⟨_, rfl⟩
  have HR : Hid (twS (ws.take 0) (ws.drop 0) 0 = R) := Lib.hid hR
  rw [hR]
  have HI := Lib.hid hr
  clear hR hr
  go_enter Tryz.func28, Tryz.ntmps28
  go_wp2
  go_loopw [3, 4] (fun i y wr => ∃ k : Nat, k ≤ len ∧ i = .int .i64 k ∧ Hid (twS (ws.take k) (ws.drop k) k = R) ∧ Below w.heap.size w wr) (fun i _ _ => len - (RowKit.intOf i).toNat)
  case atStart => exact ⟨0, Nat.zero_le _, rfl, HR, Below.refl _ _⟩
  case round =>
    obtain ⟨k, hk, rfl, HK, hbe⟩ := hrel
    by_cases hlt : k < len
    · obtain ⟨W1, hW1⟩ : ∃ W1, W1 = wr := ⟨_, rfl⟩
      subst hW1
      go_wp2
      go_loopw [4] (fun j wr => ∃ m : Nat, m ≤ k ∧ j = .int .i64 m ∧ Hid (∀ x ∈ ws.take m, ws[k]? ≠ some x) ∧ Below w.heap.size w wr) (fun j _ => k - (RowKit.intOf j).toNat)
      case atStart => exact ⟨0, Nat.zero_le _, rfl, Lib.hid (by simp), hbe⟩
      case round =>
        obtain ⟨m, hm, rfl, HM, hbe2⟩ := hrel
        by_cases hlt2 : m < k
        · obtain ⟨b, off, rfl, t, hf, hc⟩ := str_at HI.out hbe2 k hlt
          obtain ⟨b2, off2, e2, u, hf2, hc2⟩ := str_at HI.out hbe2 m (by omega)
          cases e2
          have g1 : (0 : Int) ≤ (k : Int) := by omega
          have g2 : (k : Int) < (len : Int) := by omega
          have g3 : (0 : Int) ≤ (m : Int) := by omega
          have g4 : (m : Int) < (len : Int) := by omega
          cases hq : (u == t) with
          | true =>
            have HE : Hid (R = k) := Lib.hid (by
              rw [← HK.out]
              obtain rfl : u = t := by simpa using hq
              refine tw_hit hf ?_
              exact List.mem_of_getElem? (by rw [List.getElem?_take_of_lt hlt2]; exact hf2))
            clear hf hf2 HM HK
            go_wp2_with fail
            go_quiet (fail)
            go_wp2
            go_ret
            exact ⟨by rw [HE.out]; rfl, below_drewS hbe2 _⟩
          | false =>
            have HN : Hid (∀ x ∈ ws.take (m + 1), ws[k]? ≠ some x) := Lib.hid (fun x hx => by
              rcases mem_take_snoc hf2 hx with h | rfl
              · exact HM.out x h
              · rw [hf]; intro e; simp at e; subst e; simp at hq)
            clear hf hf2 HM
            go_wp2_with fail
            go_quiet (fail)
            go_wp2
            exact ⟨⟨m + 1, by omega, by go_num, HN, below_drewS hbe2 _⟩, by simp [RowKit.intOf]; omega⟩
        · obtain rfl : m = k := by omega
          have HE : Hid (twS (ws.take (m + 1)) (ws.drop (m + 1)) (m + 1) = R) := Lib.hid (by
            obtain ⟨b, off, rfl, t, hf, hc⟩ := str_at HI.out hbe2 m hlt
            rw [← HK.out]
            exact (tw_miss hf (fun hm => HM.out t hm hf)).symm)
          clear HM HK
          go_wp2
          exact ⟨⟨m + 1, by omega, by go_num, HE, hbe2⟩, by simp [RowKit.intOf]; omega⟩
    · obtain rfl : k = len := by omega
      have HE : Hid (R = -1) := Lib.hid (by rw [← HK.out, ← hwl]; exact tw_end ws)
      clear HK
      go_wp2
      go_ret
      exact ⟨by rw [HE.out]; rfl, hbe⟩
end Go.Proofs.YtmgcdhcidojdhaaGreat

namespace Go.Proofs.YtmgcdhcidojdhaaGreat
open Go.RowKit

set_option maxHeartbeats 2000000 in
theorem rptnew_any (a : Option Addr) (len cap : Nat) (ws : List (List UInt8)) (w : World) (hlen : len ≤ 1000000) (hr : IsStrs w a len ws) (ht : ∀ t ∈ ws, t.length ≤ 1000000000) :
    Calls Tryz.prog 8 #[.slice a len cap] w (NewR ws w) := by
  have hwl := hr.1
  by_cases h0 : len = 0
  · have HE := Lib.hid (fault_none (ws := ws) (by omega))
    subst h0
    clear hr ht
    go_enter Tryz.func8, Tryz.ntmps8
    go_wp2
    go_ret2
    exact NewR.bad HE.out (by decide) (Below.refl _ _)
  · by_cases h1 : 65535 < len
    · have HE := Lib.hid (fault_many (ws := ws) (by omega))
      clear hr ht
      go_enter Tryz.func8, Tryz.ntmps8
      go_wp2
      go_ret2
      exact NewR.bad HE.out (by decide) (Below.refl _ _)
    · have HI := Lib.hid hr
      have HT := Lib.hid ht
      have HW : Hid (ws.take len = ws) := Lib.hid (List.take_of_length_le (by omega))
      have HL : Hid (¬ ws.length = 0 ∧ ¬ 65535 < ws.length) := Lib.hid (by omega)
      have H2 := Lib.hid (rtwice_any a len cap ws w hlen hr)
      have H3 := Lib.hid (fun (w2 : World) (hb : Below w.heap.size w w2) => rsorted_any a len cap ws w2 hlen (hr.below hb))
      clear hr ht
      go_enter Tryz.func8, Tryz.ntmps8
      go_wp2
      go_loop [4, 5] (fun x i => ∃ k T : Nat, k ≤ len ∧ i = .int .i64 k ∧ x = .int .i64 T ∧ T ≤ k * 65535 ∧ Hid (totalL (ws.take k) = T) ∧ Hid (badS (ws.take k) = none)) (fun _ i => len - (RowKit.intOf i).toNat)
      case atStart => exact ⟨0, 0, Nat.zero_le _, rfl, rfl, by omega, Lib.hid rfl, Lib.hid rfl⟩
      case round =>
        obtain ⟨k, T, hk, rfl, rfl, hT, HK, HB⟩ := hrel
        by_cases hlt : k < len
        · obtain ⟨b, off, rfl, t, hf, hc⟩ := str_at HI.out (Below.refl _ _) k hlt
          have HS := Lib.hid (bsize t)
          have htl := HT.out t (List.mem_of_getElem? hf)
          by_cases e0 : t.length = 0
          · have HE := Lib.hid (fault_bad HL.out.1 HL.out.2 (bad_zero HB.out hf e0))
            obtain rfl : t = [] := List.eq_nil_of_length_eq_zero e0
            clear hf HK HB H2 H3
            go_wp2
            go_ret2
            exact NewR.bad HE.out (by decide) (Below.refl _ _)
          · have g0 := len_empty e0
            by_cases e1 : 65535 < t.length
            · have HE := Lib.hid (fault_bad HL.out.1 HL.out.2 (bad_long HB.out hf e1))
              clear hf HK HB H2 H3
              go_wp2
              go_ret2
              exact NewR.bad HE.out (by decide) (Below.refl _ _)
            · have HB2 := Lib.hid (bad_snoc HB.out hf e0 e1)
              have HK2 : Hid (totalL (ws.take (k + 1)) = T + t.length) := Lib.hid (by rw [total_snoc hf, HK.out])
              clear hf HK HB H2 H3
              go_wp2
              exact ⟨⟨k + 1, T + t.length, by omega, by go_num, by go_num, by omega, HK2, HB2⟩, by simp [RowKit.intOf]; omega⟩
        · obtain rfl : k = len := by omega
          have HK2 : Hid (totalL ws = T) := Lib.hid (by have := HK.out; rwa [HW.out] at this)
          have HB2 : Hid (badS ws = none) := Lib.hid (by have := HB.out; rwa [HW.out] at this)
          clear HK HB
          by_cases e2 : 16777216 < T
          · have HE := Lib.hid (fault_full HL.out.1 HL.out.2 HB2.out (by rw [HK2.out]; exact e2))
            clear H2 H3
            go_wp2
            go_ret2
            exact NewR.bad HE.out (by decide) (Below.refl _ _)
          · have HZ : Hid (if 0 ≤ twS [] ws 0 then faultL ws = 8 else faultL ws = 0) := Lib.hid (by
              split
              · exact fault_twice HL.out.1 HL.out.2 HB2.out (by rw [HK2.out]; exact e2) ‹_›
              · exact fault_good HL.out.1 HL.out.2 HB2.out (by rw [HK2.out]; exact e2) ‹_›)
            generalize twS [] ws 0 = z at HZ H2
            by_cases e3 : 0 ≤ z
            · have HE : Hid (faultL ws = 8) := Lib.hid (by have := HZ.out; rwa [if_pos e3] at this)
              clear H3
              go_wp2_with fail
              refine H2.out.mono ?_
              rintro e w2 ⟨rfl, hb⟩
              go_wp2
              go_ret2
              exact NewR.bad HE.out (by decide) hb
            · have HE : Hid (faultL ws = 0) := Lib.hid (by have := HZ.out; rwa [if_neg e3] at this)
              go_wp2_with fail
              refine H2.out.mono ?_
              rintro e w2 ⟨rfl, hb⟩
              have H4 := Lib.hid (H3.out w2 hb)
              clear H2 H3
              go_wp2_with fail
              refine H4.out.mono ?_
              rintro e w3 ⟨v, rfl, hown, hb3⟩
              have d3 := hb.trans (hb3.mono hb.size)
              obtain ⟨ao, cap', rfl, hs⟩ := owns_strs hown
              have HR := Lib.hid hs
              clear hown hb3 H4 hs
              go_wp2
              go_ret2
              exact ⟨ao, cap', srt ws, by rw [HE.out]; rfl, fun _ => rfl, fun h => absurd HE.out h, HR.out, d3⟩
end Go.Proofs.YtmgcdhcidojdhaaGreat

namespace Go.Proofs.YtmgcdhcidojdhaaGreat
open Go.RowKit

theorem rptnew_all (a : Option Addr) (len cap : Nat) (ws : List (List UInt8)) (w : World) (hlen : len ≤ 1000000) (hr : IsStrs w a len ws) (ht : ∀ t ∈ ws, t.length ≤ 1000000000) :
    Calls Tryz.prog 8 #[.slice a len cap] w fun e w' => ∃ (a : Option Addr) (cap : Nat), e = .returned (.tuple #[.slice a (setL ws).length cap, .int .i64 (faultL ws)]) ∧ IsStrs w' a (setL ws).length (setL ws) ∧ Below w.heap.size w w' := by
  refine (rptnew_any a len cap ws w hlen hr ht).mono ?_
  rintro e w' ⟨a, cap, L, rfl, h1, h2, hs, hb⟩
  have e : L = setL ws := by
    by_cases hf : faultL ws = 0
    · rw [h1 hf, set_good hf]
    · rw [(h2 hf).1, set_bad hf]
  subst e
  exact ⟨a, cap, rfl, hs, hb⟩
end Go.Proofs.YtmgcdhcidojdhaaGreat

namespace Go.Proofs.YtmgcdhcidojdhaaGreat

theorem few_set {ws : List (List UInt8)} (hq : fewB ws 20 50 = true) : (setL ws).length ≤ 20 ∧ ∀ t ∈ setL ws, t.length ≤ 50 := by
  have hfw := (few_iff ws 20 50).1 hq
  refine ⟨Nat.le_trans (set_length ws) hfw.1, fun t h => hfw.2 t (set_mem h).1⟩
theorem few_setN {ws : List (List UInt8)} {m n : Nat} (hq : fewB ws m n = true) : (setL ws).length ≤ m ∧ ∀ t ∈ setL ws, t.length ≤ n := by
  have hfw := (few_iff ws m n).1 hq
  refine ⟨Nat.le_trans (set_length ws) hfw.1, fun t h => hfw.2 t (set_mem h).1⟩
end Go.Proofs.YtmgcdhcidojdhaaGreat

namespace Go.Proofs.YtmgcdhcidojdhaaGreat

/-- A mask leaves a number that is none greater. -/
theorem mask_at (x : Int) (m : Nat) (hm : m ≤ 1000000000) : ∃ c : Nat, c ≤ m ∧ bits .and .i64 x (m : Int) = (c : Int) := by
  have e : (BitVec.ofInt 64 x &&& BitVec.ofInt 64 (m : Int)).toNat ≤ m := by
    rw [BitVec.toNat_and]
    refine Nat.le_trans Nat.and_le_right ?_
    rw [BitVec.toNat_ofInt]
    omega
  refine ⟨_, e, ?_⟩
  show IntKind.i64.wrap ((BitVec.ofInt 64 x &&& BitVec.ofInt 64 (m : Int)).toNat : Int) = _
  generalize (BitVec.ofInt 64 x &&& BitVec.ofInt 64 (m : Int)).toNat = c at e
  rw [IntKind.wrap_i64]; omega
end Go.Proofs.YtmgcdhcidojdhaaGreat
