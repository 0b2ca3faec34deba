/-
  Classes of a set that texts make; the law's 'awake' of layer 18.
-/
import Derived.Test.YthmihhacfhjimaaPtUr
import Derived.Test.YthmihhacfhjimaaPtFew
import Derived.Test.YthmihhacfhjimaaFewN
import Derived.Test.YthmihhacfhjimaaClN
set_option linter.unusedSimpArgs false
set_option linter.unusedVariables false
namespace Go.Proofs.Ythmihhacfhjimaa
open Go.RowKit

theorem clnew_all {w : World} {p : Option Addr} {us : List (List UInt8)} (h : IsPats w p us) :
    Calls Try.prog 8 #[.pointer p] w fun e w' => ∃ b, e = .returned (.pointer (some ⟨b, 0, none⟩)) ∧ w.heap.size ≤ b ∧ HasCls w' (some ⟨b, 0, none⟩) (ofC us) (bcK us 256) ((bcK us 256).length + 1) ∧ Below w.heap.size w w' := by
  have go : Calls Try.prog 8 #[.pointer p] w (fun e w' => ∃ b, e = .returned (.pointer (some ⟨b, 0, none⟩)) ∧ w.heap.size ≤ b ∧ IsCls w' b (ofC us) (bcK us 256) ∧ Below w.heap.size w w') → Calls Try.prog 8 #[.pointer p] w fun e w' => ∃ b, e = .returned (.pointer (some ⟨b, 0, none⟩)) ∧ w.heap.size ≤ b ∧ HasCls w' (some ⟨b, 0, none⟩) (ofC us) (bcK us 256) ((bcK us 256).length + 1) ∧ Below w.heap.size w w' := by
    intro h
    refine h.mono ?_
    rintro e w' ⟨b, rfl, h1, h2, h3⟩
    exact ⟨b, rfl, h1, .inr ⟨b, rfl, h2, rfl⟩, h3⟩
  rcases h with ⟨rfl, rfl⟩ | ⟨b, rfl, h, hp⟩
  · exact go (clnew_by _ [] w (by simp) (by simp) (fun W _ => ptlen_nil W) (fun W k t _ h => by simp at h))
  · exact go (clnew_by _ us w (by have := hp.few; omega) (fun t ht => by have := hp.each t ht; omega) (fun W hW => ptlen_any (h.below hW)) (fun W k t hW hk => ptat_in (h.below hW) k t hk))

theorem clex_fault : faultL [[99, 97], [98]] = 0 := by decide +kernel
theorem clex_set : setL [[99, 97], [98]] = [[98], [99, 97]] := by
  rw [set_good clex_fault, ← ins_srt]; decide +kernel
theorem clex_a : ofC [[98], [99, 97]] 97 = 1 := by decide +kernel
theorem clex_b : ofC [[98], [99, 97]] 98 = 2 := by decide +kernel
theorem clex_c : ofC [[98], [99, 97]] 99 = 3 := by decide +kernel
theorem clex_x : ofC [[98], [99, 97]] 120 = 0 := by decide +kernel
theorem clex_n : (bcK [[98], [99, 97]] 256).length = 3 := by decide +kernel
theorem clex_f : forL (ofC [[98], [99, 97]]) [97, 120, 120] = 2 := by decide +kernel

set_option maxHeartbeats 2000000 in
theorem clawake_any (w : World) :
    Calls Try.prog 5 #[] w fun e w' => e = .returned (.bool true) ∧ Below w.heap.size w w' := by
  have hA := strs_heap (ws := [[99, 97], [98]]) (heap_alloc_new w (.cells (txCells [[99, 97], [98]]).toArray 9)) rfl
  have H1 := Lib.hid (ptnew_all (some ⟨w.heap.size, 0, none⟩) 2 2 _ _ (by omega) hA (by decide))
  rw [clex_set, clex_fault] at H1
  have c1 : Below w.heap.size w (w.alloc (.cells (txCells [[99, 97], [98]]).toArray 9)) := (Below.refl _ w).alloc (Nat.le_refl _) _
  have s1 := c1.size
  have HBl := clex_n
  obtain ⟨B, hB⟩ : ∃ B, bcK [[98], [99, 97]] 256 = B := ⟨_, rfl⟩
  rw [hB] at HBl
  have HNew : Hid (∀ (w2 : World) (p : Option Addr), IsPats w2 p [[98], [99, 97]] → Calls Try.prog 8 #[.pointer p] w2 fun e w' => ∃ b, e = .returned (.pointer (some ⟨b, 0, none⟩)) ∧ w2.heap.size ≤ b ∧ HasCls w' (some ⟨b, 0, none⟩) (ofC [[98], [99, 97]]) B 4 ∧ Below w2.heap.size w2 w') := Lib.hid (fun w2 p h => by
    have := clnew_all h
    rwa [hB, HBl] at this)
  have HOf : Hid (∀ (b : Option Addr) (w2 : World) (c n : Nat), ofC [[98], [99, 97]] c = n → c < 256 → HasCls w2 b (ofC [[98], [99, 97]]) B 4 → Calls Try.prog 9 #[.pointer b, .int .u8 (c : Int)] w2 fun e w' => e = .returned (.int .i64 (n : Int)) ∧ w' = w2) := Lib.hid (fun b w2 c n hn hc h => by
    have := clof_any h c hc
    rwa [hn] at this)
  have HLn : Hid (∀ (b : Option Addr) (w2 : World), HasCls w2 b (ofC [[98], [99, 97]]) B 4 → Calls Try.prog 11 #[.pointer b] w2 fun e w' => e = .returned (.int .i64 4) ∧ w' = w2) := Lib.hid (fun b w2 h => cllen_any h (by omega))
  have HFo : Hid (∀ (b : Option Addr) (w2 : World), HasCls w2 b (ofC [[98], [99, 97]]) B 4 → Calls Try.prog 12 #[.pointer b, .string ⟨#[97, 120, 120]⟩] w2 fun e w' => e = .returned (.int .i64 2) ∧ Below w2.heap.size w2 w') := Lib.hid (fun b w2 h => by
    have := clforeign_any h [97, 120, 120] (by decide)
    rw [clex_f] at this
    exact this)
  clear hA hB HBl
  go_enter Try.func5, Try.ntmps5
  go_wp2_with fail
  refine H1.out.mono ?_
  rintro e w2 ⟨p, rfl, hs, hb2⟩
  have d2 := c1.trans (hb2.mono s1)
  have e2 := d2.size
  have N2 := Lib.hid (HNew.out _ _ hs)
  clear H1 hs hb2 c1 s1 HNew
  go_wp2_with fail
  refine N2.out.mono ?_
  rintro e w3 ⟨b, rfl, _, hB, hb3⟩
  have d3 := d2.trans (hb3.mono e2)
  have e3 := d3.size
  have F1 := Lib.hid (HOf.out _ w3 97 1 clex_a (by omega) hB)
  have F2 := Lib.hid (HOf.out _ w3 98 2 clex_b (by omega) hB)
  have F3 := Lib.hid (HOf.out _ w3 99 3 clex_c (by omega) hB)
  have F4 := Lib.hid (HOf.out _ w3 120 0 clex_x (by omega) hB)
  have F5 := Lib.hid (HLn.out _ w3 hB)
  have F6 := Lib.hid (HFo.out _ w3 hB)
  clear N2 hB hb3 d2 e2 HOf HLn HFo
  go_wp2_with fail
  refine F1.out.mono ?_
  rintro e w' ⟨rfl, hw⟩
  obtain rfl := hw.symm
  clear hw F1
  go_wp2_with fail
  refine F2.out.mono ?_
  rintro e w' ⟨rfl, hw⟩
  obtain rfl := hw.symm
  clear hw F2
  go_wp2_with fail
  refine F3.out.mono ?_
  rintro e w' ⟨rfl, hw⟩
  obtain rfl := hw.symm
  clear hw F3
  go_wp2_with fail
  refine F4.out.mono ?_
  rintro e w' ⟨rfl, hw⟩
  obtain rfl := hw.symm
  clear hw F4
  go_wp2_with fail
  refine F5.out.mono ?_
  rintro e w' ⟨rfl, hw⟩
  obtain rfl := hw.symm
  clear hw F5
  go_wp2_with fail
  refine F6.out.mono ?_
  rintro e w4 ⟨rfl, hb4⟩
  have d4 := d3.trans (hb4.mono e3)
  go_wp2
  go_ret
  exact ⟨rfl, d4⟩
end Go.Proofs.Ythmihhacfhjimaa
