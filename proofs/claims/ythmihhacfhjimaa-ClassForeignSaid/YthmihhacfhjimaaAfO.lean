/-
  The document's Sorted, walked.
-/
import Derived.Test.YthmihhacfhjimaaAfSo
import Derived.Test.YthmihhacfhjimaaAfFw
set_option linter.unusedSimpArgs false
set_option linter.unusedVariables false
namespace Go.Proofs.Ythmihhacfhjimaa
open Go.RowKit

theorem owns_mono {w : World} {base base' : Nat} {e : TypeId} {size : Nat} {v : Value} {n : Nat} {xs : List Value} (h : w.ownsRow base e size v n xs) (hb : base' ≤ base) : w.ownsRow base' e size v n xs := by
  obtain ⟨h1, h2 | ⟨g, cap, cur, hv, hg, h3⟩⟩ := h
  · exact ⟨h1, .inl h2⟩
  · exact ⟨h1, .inr ⟨g, cap, cur, hv, Nat.le_trans hb hg, h3⟩⟩
theorem own_cap {w : World} {base : Nat} {e : TypeId} {g n cap : Nat} {xs : List Value} (h : w.ownsRow base e 1 (.slice (some ⟨g, 0, none⟩) n cap) n xs) : n ≤ cap ∧ cap ≤ maxLen := by
  obtain ⟨_, ⟨h1, _⟩ | ⟨g', cap', cur, hv, _, _, h1, h2, _⟩⟩ := h
  · cases h1
  · cases hv; exact ⟨h1, h2⟩
theorem own_part {w : World} {base : Nat} {e : TypeId} {g n cap : Nat} {ws : List (List UInt8)} (h : w.ownsRow base e 1 (.slice (some ⟨g, 0, none⟩) n cap) n (txCells ws)) (m : Nat) :
    ∀ j u, (txCells (ws.take m))[j]? = some u → w.cell? ((⟨g, 0, none⟩ : Addr).add j) = some u := fun j u hj => by
  refine h.cells rfl j u ?_
  unfold txCells at hj ⊢
  rw [List.map_take, List.getElem?_take] at hj
  split at hj
  · exact hj
  · cases hj
theorem own_rest {w : World} {base : Nat} {e : TypeId} {g n cap : Nat} {ws : List (List UInt8)} (h : w.ownsRow base e 1 (.slice (some ⟨g, 0, none⟩) n cap) n (txCells ws)) (m : Nat) :
    ∀ j u, (txCells (ws.drop m))[j]? = some u → w.cell? ((⟨g, m, none⟩ : Addr).add j) = some u := fun j u hj => by
  have := h.cells rfl (m + j) u (by
    unfold txCells at hj ⊢
    rw [List.map_drop, List.getElem?_drop] at hj
    exact hj)
  rw [addPlain] at this ⊢
  rwa [Nat.zero_add] at this
theorem own_at {w : World} {base : Nat} {e : TypeId} {g n cap : Nat} {ws : List (List UInt8)} (h : w.ownsRow base e 1 (.slice (some ⟨g, 0, none⟩) n cap) n (txCells ws)) {j : Nat} {t : List UInt8} (ht : ws[j]? = some t) : w.cell? ⟨g, j, none⟩ = some (.string ⟨t.toArray⟩) := by
  have := h.cells rfl j (.string ⟨t.toArray⟩) (by unfold txCells; rw [List.getElem?_map, ht]; rfl)
  rw [addPlain] at this
  rwa [Nat.zero_add] at this
theorem tx_one {ws : List (List UInt8)} : ∀ u ∈ txCells ws, u.oneCell' = true := by
  intro u hu
  unfold txCells at hu
  rw [List.mem_map] at hu
  obtain ⟨t, _, rfl⟩ := hu
  rfl
theorem own_form {w : World} {base : Nat} {e : TypeId} {v : Value} {n : Nat} {xs : List Value} (h : w.ownsRow base e 1 v (n + 1) xs) : ∃ g cap, v = .slice (some ⟨g, 0, none⟩) (n + 1) cap := by
  obtain ⟨_, ⟨_, h1⟩ | ⟨g, cap, cur, hv, _⟩⟩ := h
  · omega
  · exact ⟨g, cap, hv⟩
theorem txCells_length (ws : List (List UInt8)) : (txCells ws).length = ws.length := by simp [txCells]
theorem txCells_append (ws us : List (List UInt8)) : txCells (ws ++ us) = txCells ws ++ txCells us := by simp [txCells]
theorem insS_at {acc : List (List UInt8)} {t : List UInt8} {m : Nat} (h : posS acc t acc.length = m) : insS acc t = acc.take m ++ ([t] ++ acc.drop m) := by unfold insS; rw [h]
theorem fold_snoc {ws : List (List UInt8)} {k : Nat} {t : List UInt8} (h : ws[k]? = some t) : (ws.take (k + 1)).foldl insS [] = insS ((ws.take k).foldl insS []) t := by
  obtain ⟨hk, rfl⟩ := List.getElem?_eq_some_iff.1 h
  rw [List.take_succ_eq_append_getElem hk, List.foldl_append]; rfl

set_option maxHeartbeats 2000000 in
theorem rsorted_any (a : Option Addr) (len cap : Nat) (ws : List (List UInt8)) (w : World) (hlen : len ≤ 1000000) (hr : IsStrs w a len ws) :
    Calls Try.prog 17 #[.slice a len cap] w (RetO (srt ws) w) := by
  have hwl := hr.1
  have HI := Lib.hid hr
  have HW : Hid ((ws.take len).foldl insS [] = srt ws) := Lib.hid (by rw [List.take_of_length_le (by omega)]; exact ins_srt ws)
  obtain ⟨i0, hi, hz0, hz1, hz2⟩ := info_parts string_info
  clear hr
  go_enter Try.func17, Try.ntmps17
  go_wp2
  go_loopw [3, 4, 5, 6] (fun v i x y wr => ∃ (k g cap' : Nat) (acc : List (List UInt8)), k ≤ len ∧ i = .int .i64 k ∧ v = .slice (some ⟨g, 0, none⟩) k cap' ∧ acc.length = k ∧ Hid ((ws.take k).foldl insS [] = acc) ∧ wr.ownsRow w.heap.size 9 1 (.slice (some ⟨g, 0, none⟩) k cap') k (txCells acc) ∧ Below w.heap.size w wr) (fun _ i _ _ _ => len - (RowKit.intOf i).toNat)
  case atStart => exact ⟨0, w.heap.size, 0, [], Nat.zero_le _, rfl, rfl, rfl, Lib.hid rfl, World.ownsRow_made w #[] 0 (Nat.le_refl _) (by unfold maxLen; omega) rfl, (Below.refl _ _).alloc (Nat.le_refl _) _⟩
  case round =>
    obtain ⟨k, g, cap', acc, hk, rfl, rfl, hacc, HK, hown, hbe⟩ := hrel
    by_cases hlt : k < len
    · obtain ⟨W1, hW1⟩ : ∃ W1, W1 = wr := ⟨_, rfl⟩
      subst hW1
      obtain ⟨t, hf⟩ : ∃ t, ws[k]? = some t := ⟨_, List.getElem?_eq_getElem (show k < ws.length by omega)⟩
      have HF : Hid ((ws.take (k + 1)).foldl insS [] = insS acc t) := Lib.hid (by rw [fold_snoc hf, HK.out])
      obtain ⟨p, hp⟩ : ∃ p, posS acc t acc.length = p := ⟨_, rfl⟩
      have HP := Lib.hid (insS_at hp)
      have HQ : Hid (posS acc t k = p) := Lib.hid (by rw [← hacc]; exact hp)
      have Hf := Lib.hid hf
      clear hp HK hf
      go_wp2
      go_loopw [5] (fun x wr => ∃ m : Nat, m ≤ k ∧ x = .int .i64 m ∧ Hid (posS acc t m = p) ∧ wr.ownsRow w.heap.size 9 1 (.slice (some ⟨g, 0, none⟩) k cap') k (txCells acc) ∧ Below w.heap.size w wr) (fun x _ => (RowKit.intOf x).toNat)
      case atStart => exact ⟨k, Nat.le_refl _, rfl, HQ, hown, hbe⟩
      case round =>
        clear hown hbe
        obtain ⟨m, hm, rfl, HM, hown, hbe⟩ := hrel
        have d0 : (0 : Int) ≤ (k : Int) := by omega
        have d1 : (k : Int) < (len : Int) := by omega
        by_cases h0 : m = 0
        · subst h0
          have HR : Hid (insS acc t = acc.take 0 ++ ([t] ++ acc.drop 0)) := Lib.hid (by
            have := HM.out; rw [HP.out, ← this]; rfl)
          go_wp2_with fail
          go_quiet (fail)
          obtain ⟨W2, hW2⟩ : ∃ W2, W2 = wr.drewN nq := ⟨_, rfl⟩
          rw [← hW2]
          have hbe2 : Below w.heap.size w W2 := by rw [hW2]; exact below_drewS hbe _
          have hown2 : W2.ownsRow w.heap.size 9 1 (.slice (some ⟨g, 0, none⟩) k cap') k (txCells acc) := by rw [hW2]; exact hown
          clear hW2 hown hbe
          have hsz := hbe2.size
          have hcap := own_cap hown2
          have hglt := (hown2.lt g rfl).2
          obtain ⟨b3, off3, hab, t2, hf2, hc⟩ := str_at HI.out hbe2 k hlt
          cases hab
          rw [show t2 = t from Option.some.inj (hf2.symm.trans Hf.out)] at hc
          have hblt := World.block_lt_of_cell? W2 _ hc
          clear hf2
          have g1 : (0 : Int) ≤ (0 : Int) := by omega
          have g2 : (0 : Int) ≤ (k : Int) := by omega
          have g3 : (0 : Int) ≤ (cap' : Int) := by omega
          have g4 : (k : Int) ≤ (cap' : Int) := by omega
          have hmade : (W2.alloc (.cells #[] 9)).ownsRow W2.heap.size 9 1 (.slice (some ⟨W2.heap.size, 0, none⟩) 0 0) 0 [] := World.ownsRow_made W2 #[] 0 (Nat.le_refl _) (by unfold maxLen; omega) rfl
          have OA := Lib.hid (hown2.alloc (.cells #[] 9))
          have hp1 := own_part OA.out 0
          have hc1 : (W2.alloc (.cells #[] 9)).cell? ⟨b3, off3 + k, none⟩ = some (.string ⟨t.toArray⟩) := (((Below.refl W2.heap.size W2).alloc (Nat.le_refl _) _).cell (p := ⟨b3, off3 + k, none⟩) hblt).trans hc
          go_wp2_with (at_builtin; refine wpList_append_own _ rfl _ _ 22 rfl W2.heap.size 9 i0 (.string ByteArray.empty) 1 16 Try.underlying22 hi hz0 hz1 hz2 rfl (by decide) _ _ _ rfl hmade ⟨g, 0, none⟩ 0 cap' (txCells (acc.take 0)) rfl (by rw [txCells_length, List.length_take]; omega) hp1 tx_one (by unfold maxLen; omega) (by omega) (by simp) ?_)
          intro v1 w1 own1 grow1 _
          have A1 : Below W2.heap.size W2 w1 := ((Below.refl W2.heap.size W2).alloc (Nat.le_refl _) _).grown grow1 (by simp) (fun j hj => by cases hj; exact Nat.le_refl _)
          have own1' : w1.ownsRow W2.heap.size 9 1 v1 0 (txCells (acc.take 0)) := by first | exact own1 | (rw [Nat.zero_add] at own1; exact own1)
          have s1 := A1.size
          have hc2 : w1.cell? ⟨b3, off3 + k, none⟩ = some (.string ⟨t.toArray⟩) := (A1.cell (p := ⟨b3, off3 + k, none⟩) hblt).trans hc
          clear own1 grow1 hmade OA hp1 hc1
          go_wp2_with (at_builtin; refine wpList_append_own _ rfl _ _ 22 rfl W2.heap.size 9 i0 (.string ByteArray.empty) 1 16 Try.underlying22 hi hz0 hz1 hz2 rfl (by decide) _ _ _ rfl (own1'.alloc _) ⟨w1.heap.size, 0, none⟩ 1 1 (txCells [t]) rfl rfl (one_news (heap_alloc_new w1 _)) tx_one (by unfold maxLen; omega) (by omega) (by simp; omega) ?_)
          intro v2 w2 own2 grow2 _
          have A2 : Below W2.heap.size W2 w2 := (A1.alloc s1 _).grown grow2 (by simp; omega) (fun j hj => (own1'.lt j hj).1)
          have s2 := A2.size
          have O2 := Lib.hid (tx_below hown2 A2)
          have hp2 := own_rest O2.out 0
          clear grow2 own1'
          have ho : ∀ (w5 : World) (v5 : Value), w5.ownsRow W2.heap.size 9 1 v5 (0 + 1 + (k - 0)) ((txCells (acc.take 0) ++ txCells [t]) ++ txCells (acc.drop 0)) → w5.ownsRow w.heap.size 9 1 v5 (k + 1) (txCells (insS acc t)) := fun w5 v5 h => by
            rw [show 0 + 1 + (k - 0) = k + 1 by omega, ← txCells_append, ← txCells_append, List.append_assoc, ← HR.out] at h
            exact owns_mono h hsz
          have HO := Lib.hid ho
          have hil : (insS acc t).length = k + 1 := by rw [(insS_perm acc t).length_eq, List.length_cons, hacc]
          have g5 : (k : Int) - (0 : Int) = ((k - 0 : Nat) : Int) := by omega
          clear ho
          by_cases hcm : cap' = 0
          · have hkm : k = 0 := by omega
            go_wp2_with (at_builtin; refine wpList_append_own _ rfl _ _ 22 rfl W2.heap.size 9 i0 (.string ByteArray.empty) 1 16 Try.underlying22 hi hz0 hz1 hz2 rfl (by decide) _ _ _ rfl own2 ⟨g, 0, none⟩ 0 0 (txCells []) rfl rfl (fun j u h => by cases h) tx_one (by unfold maxLen; omega) (by omega) (by omega) ?_)
            intro v3 w3 own3 grow3 _
            have A3 : Below W2.heap.size W2 w3 := A2.grown grow3 s2 (fun j hj => (own2.lt j hj).1)
            have e4 : k - 0 = 0 := by omega
            have e5 : acc.drop 0 = [] := List.drop_eq_nil_of_le (by omega)
            have own4 := HO.out w3 v3 (by rw [e4, e5]; first | exact own3 | (rw [List.append_assoc]; exact own3))
            have B3 : Below w.heap.size w w3 := hbe2.trans (A3.mono hsz)
            clear own3 own2 grow3 O2 hp2 HO e4 e5
            have hfm := own_form own4
            obtain ⟨g', cap2, rfl⟩ := hfm
            go_wp2
            exact ⟨⟨k + 1, g', cap2, insS acc t, by omega, by go_num, rfl, hil, HF, own4, B3⟩, by simp [RowKit.intOf]; omega⟩
          · go_wp2_with (at_builtin; refine wpList_append_own _ rfl _ _ 22 rfl W2.heap.size 9 i0 (.string ByteArray.empty) 1 16 Try.underlying22 hi hz0 hz1 hz2 rfl (by decide) _ _ _ rfl own2 ⟨g, 0, none⟩ (k - 0) (cap' - 0) (txCells (acc.drop 0)) rfl (by rw [txCells_length, List.length_drop]; omega) hp2 tx_one (by unfold maxLen; omega) (by omega) (by omega) ?_)
            intro v3 w3 own3 grow3 _
            have A3 : Below W2.heap.size W2 w3 := A2.grown grow3 s2 (fun j hj => (own2.lt j hj).1)
            have own4 := HO.out w3 v3 (by first | exact own3 | (rw [List.append_assoc]; exact own3))
            have B3 : Below w.heap.size w w3 := hbe2.trans (A3.mono hsz)
            clear own3 own2 grow3 O2 hp2 HO
            have hfm := own_form own4
            obtain ⟨g', cap2, rfl⟩ := hfm
            go_wp2
            exact ⟨⟨k + 1, g', cap2, insS acc t, by omega, by go_num, rfl, hil, HF, own4, B3⟩, by simp [RowKit.intOf]; omega⟩
        · obtain ⟨n, rfl⟩ : ∃ n, m = n + 1 := ⟨m - 1, by omega⟩
          obtain ⟨b, off, rfl, t', hf', hc⟩ := str_at HI.out hbe k hlt
          obtain rfl : t' = t := Option.some.inj (hf'.symm.trans Hf.out)
          obtain ⟨u, hu⟩ : ∃ u, acc[n]? = some u := ⟨_, List.getElem?_eq_getElem (show n < acc.length by omega)⟩
          have hcu := own_at hown hu
          have e1 : ((n + 1 : Nat) : Int) - 1 = (n : Int) := by omega
          have e2 : ((n + 1 : Nat) : Int) = (n : Int) + 1 := by omega
          have d2 : (0 : Int) ≤ (n : Int) := by omega
          have d3 : (n : Int) < (k : Int) := by omega
          have d4 : decide ((0 : Int) < (n : Int) + 1) = true := decide_eq_true (by omega)
          have d5 : (0 : Int) < (n : Int) + 1 := by omega
          cases hq : Op.bytesLess t' u with
          | true =>
            have HN : Hid (posS acc t' n = p) := Lib.hid (by rw [← posS_hit hu hq]; exact HM.out)
            rw [e2]
            clear hf' hu HM
            go_wp2_with fail
            go_quiet (fail)
            go_wp2
            exact ⟨⟨n, by omega, by go_num, HN, hown, below_drewS hbe _⟩, by simp [RowKit.intOf]⟩
          | false =>
            have HR : Hid (insS acc t' = acc.take (n + 1) ++ ([t'] ++ acc.drop (n + 1))) := Lib.hid (by
              have := HM.out; rw [posS_miss hu hq] at this; rw [HP.out, ← this])
            rw [e2]
            clear hf' hu HM
            go_wp2_with fail
            go_quiet (fail)
            obtain ⟨m, hmm⟩ : ∃ m, m = n + 1 := ⟨_, rfl⟩
            rw [← e2, ← hmm]
            rw [← hmm] at HR
            have gm : m ≤ k := by omega
            have HMM := Lib.hid hmm
            clear hcu e1 e2 d2 d3 d4 d5 hq hmm
            clear hm
            obtain ⟨W2, hW2⟩ : ∃ W2, W2 = wr.drewN nq := ⟨_, rfl⟩
            rw [← hW2]
            have hbe2 : Below w.heap.size w W2 := by rw [hW2]; exact below_drewS hbe _
            have hown2 : W2.ownsRow w.heap.size 9 1 (.slice (some ⟨g, 0, none⟩) k cap') k (txCells acc) := by rw [hW2]; exact hown
            clear hW2 hown hbe
            have hsz := hbe2.size
            have hcap := own_cap hown2
            have hglt := (hown2.lt g rfl).2
            obtain ⟨b3, off3, hab, t2, hf2, hc⟩ := str_at HI.out hbe2 k hlt
            cases hab
            rw [show t2 = t' from Option.some.inj (hf2.symm.trans Hf.out)] at hc
            have hblt := World.block_lt_of_cell? W2 _ hc
            clear hf2
            have g1 : (0 : Int) ≤ (m : Int) := by omega
            have g2 : (m : Int) ≤ (k : Int) := by omega
            have g3 : (m : Int) ≤ (cap' : Int) := by omega
            have g4 : (k : Int) ≤ (cap' : Int) := by omega
            have hmade : (W2.alloc (.cells #[] 9)).ownsRow W2.heap.size 9 1 (.slice (some ⟨W2.heap.size, 0, none⟩) 0 0) 0 [] := World.ownsRow_made W2 #[] 0 (Nat.le_refl _) (by unfold maxLen; omega) rfl
            have OA := Lib.hid (hown2.alloc (.cells #[] 9))
            have hp1 := own_part OA.out m
            have hc1 : (W2.alloc (.cells #[] 9)).cell? ⟨b, off + k, none⟩ = some (.string ⟨t'.toArray⟩) := (((Below.refl W2.heap.size W2).alloc (Nat.le_refl _) _).cell (p := ⟨b, off + k, none⟩) hblt).trans hc
            go_wp2_with (at_builtin; refine wpList_append_own _ rfl _ _ 22 rfl W2.heap.size 9 i0 (.string ByteArray.empty) 1 16 Try.underlying22 hi hz0 hz1 hz2 rfl (by decide) _ _ _ rfl hmade ⟨g, 0, none⟩ m cap' (txCells (acc.take m)) rfl (by rw [txCells_length, List.length_take]; omega) hp1 tx_one (by unfold maxLen; omega) (by omega) (by simp) ?_)
            intro v1 w1 own1 grow1 _
            have A1 : Below W2.heap.size W2 w1 := ((Below.refl W2.heap.size W2).alloc (Nat.le_refl _) _).grown grow1 (by simp) (fun j hj => by cases hj; exact Nat.le_refl _)
            have own1' : w1.ownsRow W2.heap.size 9 1 v1 m (txCells (acc.take m)) := by first | exact own1 | (rw [Nat.zero_add] at own1; exact own1)
            have s1 := A1.size
            have hc2 : w1.cell? ⟨b, off + k, none⟩ = some (.string ⟨t'.toArray⟩) := (A1.cell (p := ⟨b, off + k, none⟩) hblt).trans hc
            clear own1 grow1 hmade OA hp1 hc1
            go_wp2_with (at_builtin; refine wpList_append_own _ rfl _ _ 22 rfl W2.heap.size 9 i0 (.string ByteArray.empty) 1 16 Try.underlying22 hi hz0 hz1 hz2 rfl (by decide) _ _ _ rfl (own1'.alloc _) ⟨w1.heap.size, 0, none⟩ 1 1 (txCells [t']) rfl rfl (one_news (heap_alloc_new w1 _)) tx_one (by unfold maxLen; omega) (by omega) (by simp; omega) ?_)
            intro v2 w2 own2 grow2 _
            have A2 : Below W2.heap.size W2 w2 := (A1.alloc s1 _).grown grow2 (by simp; omega) (fun j hj => (own1'.lt j hj).1)
            have s2 := A2.size
            have O2 := Lib.hid (tx_below hown2 A2)
            have hp2 := own_rest O2.out m
            clear grow2 own1'
            have ho : ∀ (w5 : World) (v5 : Value), w5.ownsRow W2.heap.size 9 1 v5 (m + 1 + (k - m)) ((txCells (acc.take m) ++ txCells [t']) ++ txCells (acc.drop m)) → w5.ownsRow w.heap.size 9 1 v5 (k + 1) (txCells (insS acc t')) := fun w5 v5 h => by
              rw [show m + 1 + (k - m) = k + 1 by omega, ← txCells_append, ← txCells_append, List.append_assoc, ← HR.out] at h
              exact owns_mono h hsz
            have HO := Lib.hid ho
            have hil : (insS acc t').length = k + 1 := by rw [(insS_perm acc t').length_eq, List.length_cons, hacc]
            have g5 : (k : Int) - (m : Int) = ((k - m : Nat) : Int) := by omega
            clear ho
            by_cases hcm : cap' = m
            · have hkm : k = m := by omega
              go_wp2_with (at_builtin; refine wpList_append_own _ rfl _ _ 22 rfl W2.heap.size 9 i0 (.string ByteArray.empty) 1 16 Try.underlying22 hi hz0 hz1 hz2 rfl (by decide) _ _ _ rfl own2 ⟨g, 0, none⟩ 0 0 (txCells []) rfl rfl (fun j u h => by cases h) tx_one (by unfold maxLen; omega) (by omega) (by omega) ?_)
              intro v3 w3 own3 grow3 _
              have A3 : Below W2.heap.size W2 w3 := A2.grown grow3 s2 (fun j hj => (own2.lt j hj).1)
              have e4 : k - m = 0 := by omega
              have e5 : acc.drop m = [] := List.drop_eq_nil_of_le (by omega)
              have own4 := HO.out w3 v3 (by rw [e4, e5]; first | exact own3 | (rw [List.append_assoc]; exact own3))
              have B3 : Below w.heap.size w w3 := hbe2.trans (A3.mono hsz)
              clear own3 own2 grow3 O2 hp2 HO e4 e5
              have hfm := own_form own4
              obtain ⟨g', cap2, rfl⟩ := hfm
              go_wp2
              exact ⟨⟨k + 1, g', cap2, insS acc t', by omega, by go_num, rfl, hil, HF, own4, B3⟩, by simp [RowKit.intOf]; omega⟩
            · go_wp2_with (at_builtin; refine wpList_append_own _ rfl _ _ 22 rfl W2.heap.size 9 i0 (.string ByteArray.empty) 1 16 Try.underlying22 hi hz0 hz1 hz2 rfl (by decide) _ _ _ rfl own2 ⟨g, m, none⟩ (k - m) (cap' - m) (txCells (acc.drop m)) rfl (by rw [txCells_length, List.length_drop]; omega) hp2 tx_one (by unfold maxLen; omega) (by omega) (by omega) ?_)
              intro v3 w3 own3 grow3 _
              have A3 : Below W2.heap.size W2 w3 := A2.grown grow3 s2 (fun j hj => (own2.lt j hj).1)
              have own4 := HO.out w3 v3 (by first | exact own3 | (rw [List.append_assoc]; exact own3))
              have B3 : Below w.heap.size w w3 := hbe2.trans (A3.mono hsz)
              clear own3 own2 grow3 O2 hp2 HO
              have hfm := own_form own4
              obtain ⟨g', cap2, rfl⟩ := hfm
              go_wp2
              exact ⟨⟨k + 1, g', cap2, insS acc t', by omega, by go_num, rfl, hil, HF, own4, B3⟩, by simp [RowKit.intOf]; omega⟩
    · obtain rfl : k = len := by omega
      have HE : Hid (srt ws = acc) := Lib.hid (by rw [← HW.out, HK.out])
      clear HK HW
      go_wp2
      go_ret
      exact ⟨_, rfl, by rw [HE.out, hacc]; exact hown, hbe⟩
end Go.Proofs.Ythmihhacfhjimaa
