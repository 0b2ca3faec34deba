/-
  class.New: walked.
-/
import Derived.Test.YthmihhacfhjimaaClT
import Derived.Test.YthmihhacfhjimaaClW
import Derived.Test.YthmihhacfhjimaaPtLa
import Derived.Test.YthmihhacfhjimaaByT
import Derived.Test.YthmihhacfhjimaaArr
import Derived.Laws.Rows
set_option linter.unusedSimpArgs false
set_option linter.unusedVariables false
namespace Go.Proofs.Ythmihhacfhjimaa
open Go.RowKit

theorem clZero_at : ClsAt clZero (fun _ => 0) [] := by
  obtain ⟨h1, h2⟩ := reps_at (.int .i64 0) (.string ByteArray.empty) 256
  unfold clZero
  refine ⟨fun c hc => ?_, ?_⟩
  · rw [List.getElem?_toArray]; exact h1 c hc
  · rw [List.getElem?_toArray]; exact h2
set_option maxRecDepth 100000 in
set_option maxHeartbeats 4000000 in
theorem clnew_by (p : Value) (ws : List (List UInt8)) (w : World) (hn : ws.length ≤ 1000000) (he : ∀ t ∈ ws, t.length ≤ 1000000)
    (hL : ∀ W, Below w.heap.size w W → Calls Try.prog 18 #[p] W fun e w' => e = .returned (.int .i64 (ws.length : Int)) ∧ w' = W)
    (hA : ∀ (W : World) (k : Nat) (t : List UInt8), Below w.heap.size w W → ws[k]? = some t → Calls Try.prog 19 #[p, .int .i64 (k : Int)] W fun e w' => e = .returned (.tuple #[.string ⟨t.toArray⟩, .bool true]) ∧ w' = W) :
    Calls Try.prog 8 #[p] w fun e w' => ∃ b, e = .returned (.pointer (some ⟨b, 0, none⟩)) ∧ w.heap.size ≤ b ∧ IsCls w' b (ofC ws) (bcK ws 256) ∧ Below w.heap.size w w' := by
  have HA := Lib.hid hA
  have HE := Lib.hid he
  obtain ⟨hv, hvs⟩ := zero_of_info say_info
  have HZ : Hid (IsSay (w.alloc (.cells sayZero 47)) w.heap.size (fun _ => false)) := Lib.hid ⟨_, heap_alloc_new w _, say_zero⟩
  have B0 : Below w.heap.size w (w.alloc (.cells sayZero 47)) := (Below.refl _ w).alloc (Nat.le_refl _) _
  obtain ⟨zc, hzc⟩ : ∃ zc, sayZero = zc := ⟨_, rfl⟩
  rw [hzc] at hv HZ B0
  have HVS := Lib.hid hvs
  clear hzc hA he hvs
  obtain ⟨n, hnn⟩ : ∃ n, ws.length = n := ⟨_, rfl⟩
  rw [hnn] at hn hL
  have HNN := Lib.hid hnn
  have HLn := Lib.hid hL
  clear hnn hL
  go_enter Try.func8, Try.ntmps8
  go_wp2_with fail
  refine (HLn.out _ B0).mono ?_
  rintro e w' ⟨rfl, hw⟩
  obtain rfl := hw.symm
  clear hw HLn
  obtain ⟨W0, hW0⟩ : ∃ W0, w.alloc (.cells zc 47) = W0 := ⟨_, rfl⟩
  rw [hW0] at HZ B0 ⊢
  clear hW0 hv
  obtain ⟨b, hb⟩ : ∃ b, w.heap.size = b := ⟨_, rfl⟩
  rw [hb] at HZ ⊢
  have HBE := Lib.hid hb
  clear hb
  have HB0 : Hid (Below w.heap.size w W0) := Lib.hid B0
  clear B0
  go_wp2
  go_loopw [14] (fun i wr => ∃ k : Nat, k ≤ n ∧ i = .int .i64 k ∧ Hid (IsSay wr b (hasC (ws.take k))) ∧ Hid (Below w.heap.size w wr)) (fun i _ => n - (RowKit.intOf i).toNat)
  case atStart => exact ⟨0, Nat.zero_le _, rfl, Lib.hid (HZ.out.congr fun c _ => rfl), HB0⟩
  case round =>
    obtain ⟨k, hk, rfl, HK, HBk⟩ := hrel
    by_cases hlt : k < n
    · obtain ⟨t, hf⟩ : ∃ t, ws[k]? = some t := ⟨_, List.getElem?_eq_getElem (show k < ws.length by rw [HNN.out]; exact hlt)⟩
      have htl := HE.out t (List.mem_of_getElem? hf)
      have HA1 := Lib.hid (HA.out wr k t HBk.out hf)
      have HT0 : Hid (IsSay wr b (fun c => hasC (ws.take k) c || inT (t.take 0) c)) := Lib.hid (HK.out.congr fun c _ => by simp [inT])
      have HDn := Lib.hid (fun c => hasC_snoc hf c)
      have S1 := Lib.hid (bsize t)
      clear HK hf
      go_wp2_with fail
      refine HA1.out.mono ?_
      rintro e w' ⟨rfl, hw⟩
      obtain rfl := hw.symm
      clear hw HA1
      obtain ⟨W1, hW1⟩ : ∃ W1, wr = W1 := ⟨_, rfl⟩
      rw [hW1] at HT0 HBk ⊢
      clear hW1
      go_wp2
      go_loopw [25] (fun i wr => ∃ j : Nat, j ≤ t.length ∧ i = .int .i64 j ∧ Hid (IsSay wr b (fun c => hasC (ws.take k) c || inT (t.take j) c)) ∧ Hid (Below w.heap.size w wr)) (fun i _ => t.length - (RowKit.intOf i).toNat)
      case atStart => exact ⟨0, Nat.zero_le _, rfl, HT0, HBk⟩
      case round =>
        obtain ⟨j, hj, rfl, HJ, HBj⟩ := hrel
        by_cases hlt2 : j < t.length
        · have hjz : j < (⟨t.toArray⟩ : ByteArray).size := by rw [bsize]; exact hlt2
          have hb := byteAt t j hlt2 hjz
          obtain ⟨x, hx⟩ : ∃ x, t[j] = x := ⟨_, rfl⟩
          rw [hx] at hb
          have hxl := x.toNat_lt
          have c1 := HJ.out.cell hxl
          have f1 : wr.frozen? ⟨b, x.toNat, none⟩ = false := HJ.out.free
          have g0 : (0 : Int) ≤ (j : Int) := by omega
          have g1 : (j : Int) < (t.length : Int) := by omega
          have g2 : (x.toNat : Int) < 256 := by omega
          have HX : Hid (t[j]? = some x) := Lib.hid (by rw [List.getElem?_eq_getElem hlt2, hx])
          have HN : Hid (IsSay (wr.setCell ⟨b, x.toNat, none⟩ (.bool true)) b (fun c => hasC (ws.take k) c || inT (t.take (j + 1)) c)) := Lib.hid ((HJ.out.put hxl).congr fun c _ => by
            rw [inT_snoc HX.out c, Bool.or_assoc])
          have HB2 : Hid (Below w.heap.size w (wr.setCell ⟨b, x.toNat, none⟩ (.bool true))) := Lib.hid (HBj.out.setCell (by rw [HBE.out]; exact Nat.le_refl _) _)
          clear HJ HBj HX hx
          go_wp2
          exact ⟨⟨j + 1, by omega, by go_num, HN, HB2⟩, by simp [RowKit.intOf]; omega⟩
        · obtain rfl : j = t.length := by omega
          have hz : ¬ (t.length : Int) < (t.length : Int) := by omega
          have HN : Hid (IsSay wr b (hasC (ws.take (k + 1)))) := Lib.hid (HJ.out.congr fun c _ => by rw [HDn.out c, List.take_length])
          clear HJ
          go_wp2
          exact ⟨⟨k + 1, by omega, by go_num, HN, HBj⟩, by simp [RowKit.intOf]; omega⟩
    · obtain rfl : k = n := by omega
      have hz : ¬ (k : Int) < (k : Int) := by omega
      have HI : Hid (IsSay wr b (hasC ws)) := Lib.hid (HK.out.congr fun c _ => by rw [List.take_of_length_le (by rw [HNN.out]; exact Nat.le_refl _)])
      clear HK
      have hcb := cl_built
      have HC0 : Hid (IsCls (wr.alloc (.cells clZero 52)) wr.heap.size (fun _ => 0) []) := Lib.hid ⟨_, heap_alloc_new wr _, clZero_at⟩
      generalize clZero = zk at hcb HC0
      have hbw := HI.out.lt
      obtain ⟨cs, hh, hsay⟩ := HI.out
      have hcs := hsay.1
      have HH : Hid ((wr.alloc (.cells zk 52)).heap[b]? = some (.cells cs 47 (0, 0))) := Lib.hid (by rw [Lib.alloc_old _ _ _ hbw]; exact hh)
      have HB2 : Hid (Below w.heap.size w (wr.alloc (.cells zk 52))) := Lib.hid (HBk.out.alloc HBk.out.size _)
      have HBB : Hid (w.heap.size ≤ wr.heap.size) := Lib.hid HBk.out.size
      have HS2 : Hid ((wr.alloc (.cells zk 52)).heap.size = wr.heap.size + 1) := Lib.hid (by simp)
      clear hh HI HBk
      go_wp2_with (refine wpList_built rfl 52 rfl zk hcb ?_)
      obtain ⟨W2, hW2⟩ : ∃ W2, wr.alloc (.cells zk 52) = W2 := ⟨_, rfl⟩
      obtain ⟨q, hq⟩ : ∃ q, wr.heap.size = q := ⟨_, rfl⟩
      rw [hq] at HBB HS2
      rw [hW2] at HB2 HH HS2
      rw [hW2, hq] at HC0
      rw [hW2, hq]
      clear hW2 hq hcb
      refine wp_load_row 47 _ rfl b rfl 47 cs (0, 0) _ HH.out Try.underlying47 rfl (by rw [HVS.out, hcs]) ?_
      have HCS := Lib.hid (fun (m : Nat) (hm : m < 256) (w : World) => say_index hsay m hm w)
      clear hsay HH HVS
      obtain ⟨i0, hi, hz0, hz1, hz2⟩ := info_parts bubyte_info
      go_wp2
      go_loopw [9, 37] (fun v i wr => ∃ m : Nat, m ≤ 256 ∧ i = .int .i64 m ∧ Hid (wr.ownsRow W2.heap.size 5 1 v (bcK ws m).length (Lib.byteCells (bcK ws m))) ∧ Hid (IsCls wr q (fun c => if c < m then ofC ws c else 0) []) ∧ Hid (Below w.heap.size w wr) ∧ W2.heap.size ≤ wr.heap.size) (fun _ i _ => 256 - (RowKit.intOf i).toNat)
      case atStart => exact ⟨0, Nat.zero_le _, rfl, Lib.hid (World.ownsRow_nil _ _ _ _), Lib.hid (HC0.out.congr fun c _ => rfl), HB2, Nat.le_refl _⟩
      case round =>
        obtain ⟨m, hm, rfl, HO, HK, HBm, hsz⟩ := hrel
        obtain ⟨a, cap, rfl⟩ := owns_slice HO.out
        by_cases hlt3 : m < 256
        · have hc1 := HCS.out m hlt3
          have g0 : (0 : Int) ≤ (m : Int) := by omega
          have g1 : (m : Int) < 256 := by omega
          have hw8 : IntKind.u8.wrap (m : Int) = (m : Int) := u8_wrap m hlt3
          cases hq : hasC ws m with
          | true =>
            simp only [hq] at hc1
            have hl := bc_length ws m
            have HV := Lib.hid (bc_hit hq)
            have HF : Hid (ofC ws m = (bcK ws (m + 1)).length) := Lib.hid (by rw [of_hit hq, bc_hit hq]; simp)
            have c1 := HK.out.cell hlt3
            rw [if_neg (Nat.lt_irrefl m)] at c1
            have hown := HO.out
            clear hq
            go_wp2_with (at_builtin; refine wpList_append_own _ rfl _ _ 53 rfl W2.heap.size 5 i0 (.int .u8 0) 1 1 Try.underlying53 hi hz0 hz1 hz2 rfl (by decide) _ _ _ rfl (hown.alloc _) ⟨wr.heap.size, 0, none⟩ 1 1 [.int .u8 (m : Int)] rfl rfl (one_news (heap_alloc_new _ _)) bubyte_one (by unfold maxLen; omega) (by omega) (by simp; omega) ?_)
            intro v' w3 hown3 hgrow _
            obtain ⟨a3, cap3, rfl⟩ := owns_slice hown3
            have HW := Lib.hid (show w3.ownsRow W2.heap.size 5 1 (.slice a3 ((bcK ws m).length + 1) cap3) (bcK ws (m + 1)).length (Lib.byteCells (bcK ws (m + 1))) by rw [HV.out, bucells_snoc _ _ hlt3, List.length_append]; exact hown3)
            have B3 : Below W2.heap.size wr w3 := ⟨hgrow.os, hgrow.tape, hgrow.output, Nat.le_trans (by simp) hgrow.size, fun i hi => by
              rw [hgrow.block i (by simp; omega) (fun e => by have := (hown.lt i e.symm).1; omega), Lib.alloc_old _ _ i (by omega)]⟩
            have hs3 := B3.size
            have HQ2 : Hid (q < W2.heap.size) := Lib.hid (by rw [HS2.out]; omega)
            have HK3 : Hid (IsCls w3 q (fun c => if c < m then ofC ws c else 0) []) := Lib.hid (by
              obtain ⟨cs', e1, e2⟩ := HK.out
              exact ⟨cs', (B3.block q HQ2.out).trans e1, e2⟩)
            have c3 := HK3.out.cell hlt3
            rw [if_neg (Nat.lt_irrefl m)] at c3
            have f3 : w3.frozen? ⟨q, m, none⟩ = false := HK3.out.free
            have HL3 : Hid ((bcK ws m).length + 1 = (bcK ws (m + 1)).length) := Lib.hid (by rw [HV.out]; simp)
            have HB3 : Hid (Below w.heap.size w w3) := Lib.hid (HBm.out.trans ⟨B3.os, B3.tape, B3.output, B3.size, fun i hi => B3.block i (by have := HB2.out.size; omega)⟩)
            have HI3 : Hid (Into q w3 (w3.setCell ⟨q, m, none⟩ (.int .i64 (((bcK ws m).length : Int) + 1)))) := Lib.hid ((Into.refl q w3).set m _)
            have HW4 := Lib.hid (HI3.out.owns HQ2.out HW.out)
            have HB4 : Hid (Below w.heap.size w (w3.setCell ⟨q, m, none⟩ (.int .i64 (((bcK ws m).length : Int) + 1)))) := Lib.hid (HB3.out.setCell HBB.out _)
            have HK4 : Hid (IsCls (w3.setCell ⟨q, m, none⟩ (.int .i64 (((bcK ws m).length : Int) + 1))) q (fun c => if c < m + 1 then ofC ws c else 0) []) := Lib.hid (by
              have e : (((bcK ws m).length : Int) + 1) = (((bcK ws m).length + 1 : Nat) : Int) := by omega
              rw [e]
              refine (HK3.out.put hlt3).congr fun c _ => ?_
              by_cases e : c = m
              · subst e
                simp only [↓reduceIte]
                rw [if_pos (Nat.lt_succ_self c), HF.out, HL3.out]
              · simp only [if_neg e]
                by_cases e2 : c < m
                · rw [if_pos e2, if_pos (by omega)]
                · rw [if_neg e2, if_neg (by omega)])
            have hsz4 := Nat.le_trans (Nat.le_trans hsz hs3) (Nat.le_of_eq HI3.out.size.symm)
            clear hown hown3 hgrow HK HO HV B3 HK3 HB3 HI3 HW hs3 hsz
            go_wp2
            exact ⟨⟨m + 1, by omega, by go_num, HW4, HK4, HB4, hsz4⟩, by simp [RowKit.intOf]; omega⟩
          | false =>
            simp only [hq] at hc1
            have HV := Lib.hid (bc_miss hq)
            have HF : Hid (ofC ws m = 0) := Lib.hid (of_miss hq)
            clear hq
            go_wp2
            exact ⟨⟨m + 1, by omega, by go_num, by rw [HV.out]; exact HO, Lib.hid (HK.out.congr fun c _ => by
              by_cases e : c = m
              · subst e
                rw [if_neg (Nat.lt_irrefl c), if_pos (Nat.lt_succ_self c), HF.out]
              · by_cases e2 : c < m
                · rw [if_pos e2, if_pos (by omega)]
                · rw [if_neg e2, if_neg (by omega)]), HBm, hsz⟩, by simp [RowKit.intOf]; omega⟩
        · obtain rfl : m = 256 := by omega
          have hz : ¬ ((256 : Nat) : Int) < 256 := by omega
          have hct := own_text HO.out
          have c1 := HK.out.last
          have f1 : wr.frozen? ⟨q, 256, none⟩ = false := HK.out.free
          have HI : Hid (IsCls wr q (ofC ws) []) := Lib.hid (HK.out.congr fun c hc => by rw [if_pos hc])
          have HL := Lib.hid (HI.out.putB (bcK ws 256))
          have HB3 : Hid (Below w.heap.size w (wr.setCell ⟨q, 256, none⟩ (.string ⟨(bcK ws 256).toArray⟩))) := Lib.hid (HBm.out.setCell HBB.out _)
          clear HK
          go_wp2
          go_ret
          exact ⟨q, rfl, HBB.out, HL.out, HB3.out⟩
end Go.Proofs.Ythmihhacfhjimaa
