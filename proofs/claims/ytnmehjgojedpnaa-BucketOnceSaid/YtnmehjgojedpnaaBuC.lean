/-
  The law BucketOnce, walked.
-/
import Derived.Test.YtnmehjgojedpnaaBuA
import Derived.Test.YtnmehjgojedpnaaMask
set_option linter.unusedSimpArgs false
set_option linter.unusedVariables false
namespace Go.Proofs.Ytnmehjgojedpnaa
open Go.RowKit Go.Shelf

attribute [local go_sem] Oper.semAt_some

theorem bu_box_below {W W' : World} {b : Nat} {t : TypeId} {v : Value} (h : Boxed W b t v) (hb : Below W.heap.size W W') : Boxed W' b t v := (hb.block b h.lt).trans h

theorem row_take {w : World} {a : Option Addr} {n m : Nat} {zs : List Int} (h : IsRow .i64 w a n n zs) (hm : m ≤ n) : IsRow .i64 w a m m (zs.take m) := by
  rcases h with h | ⟨b, off, ha, _, hx, hz, hc⟩
  · exact .inl (by omega)
  · refine .inr ⟨b, off, ha, Nat.le_refl _, by omega, by rw [List.length_take]; omega, fun i hi => ?_⟩
    rw [hc i (by omega)]
    simp [List.getD, List.getElem?_take, hi]

set_option maxHeartbeats 1000000 in
theorem buonce_many (a : Option Addr) (len cap c : Nat) (most : Int) (ws : List (List UInt8)) (w : World) (hlen : len ≤ 9223372036854775807) (hr : IsStrs w a len ws) (ht : ∀ t ∈ ws, t.length ≤ 9223372036854775807) (hq : fewB ws 20 50 = false) :
    Calls Try.prog 4 #[.slice a len cap, .int .u8 (c : Int), .int .i64 most] w fun e w' => e = .returned (.bool true) ∧ Below w.heap.size w w' := by
  have B0 : Below w.heap.size w (w.alloc (.cells #[.int .i64 most] 3)) := (Below.refl _ w).alloc (Nat.le_refl _) _
  have HF := Lib.hid (few_not a len cap ws _ hlen (hr.below B0) ht hq)
  clear hr ht hq
  go_enter Try.func4, Try.ntmps4
  go_wp2_with fail
  refine HF.out.mono ?_
  rintro e w' ⟨rfl, rfl⟩
  go_wp2_with fail
  refine (buawake_any _).mono ?_
  rintro e w' ⟨rfl, hb⟩
  go_wp2
  go_ret
  exact ⟨rfl, B0.trans (hb.mono B0.size)⟩

set_option maxRecDepth 100000 in
set_option maxHeartbeats 4000000 in
theorem buonce_zero (a : Option Addr) (len cap c : Nat) (most : Int) (ws : List (List UInt8)) (w : World) (hr : IsStrs w a len ws) (hq : fewB ws 20 50 = true) (hc : c < 256) (hm : bits .and .i64 most 31 = 0) :
    Calls Try.prog 4 #[.slice a len cap, .int .u8 (c : Int), .int .i64 most] w fun e w' => e = .returned (.bool true) ∧ Below w.heap.size w w' := by
  have hwl := hr.1
  have hfw := (few_iff ws 20 50).1 hq
  have hlen : len ≤ 20 := by omega
  obtain ⟨Wb, hWb⟩ : ∃ Wb, w.alloc (.cells #[.int .i64 most] 3) = Wb := ⟨_, rfl⟩
  have B0 : Below w.heap.size w Wb := by rw [← hWb]; exact (Below.refl _ w).alloc (Nat.le_refl _) _
  have X0 : Boxed Wb w.heap.size 3 (.int .i64 most) := by rw [← hWb]; exact Boxed.new w _ _
  have e0 := B0.size
  have HF := Lib.hid (few_yes a len cap ws Wb (by omega) (hr.below B0) (fun t ht => by have := hfw.2 t ht; omega) hq)
  have HN := Lib.hid (ptnew_all a len cap ws Wb (by omega) (hr.below B0) (fun t ht => by have := hfw.2 t ht; omega))
  obtain ⟨hs1, hs2⟩ := few_set hq
  have hs3 : ∀ t ∈ setL ws, 0 < t.length := fun t h => (set_mem h).2.1
  generalize setL ws = us at HN hs1 hs2 hs3
  generalize faultL ws = f at HN
  have hil : (idsL us c).length ≤ 20 := Nat.le_trans (ids_length us c us.length) hs1
  have HCA := Lib.hid (cnt_all hs3)
  have HBL := Lib.hid (byt_length us 256)
  have HT2 := Lib.hid hs2
  have HAt := Lib.hid (fun (w2 : World) (p : Option Addr) (h : IsPats w2 p us) (k : Nat) (t : List UInt8) (ht : us[k]? = some t) => ptat_all h k t ht)
  have HLn := Lib.hid (fun (w2 : World) (p : Option Addr) (h : IsPats w2 p us) => ptlen_all h)
  have HOf := Lib.hid (fun (w2 : World) (b : Option Addr) (d : Nat) (hd : d < 256) (h : HasBks w2 (.pointer b) (idsL us) (lstL us)) => buofs_any h d hd (by have := ids_length us d us.length; unfold idsL; omega))
  have HBy := Lib.hid (fun (w2 : World) (b : Option Addr) (h : HasBks w2 (.pointer b) (idsL us) (lstL us)) => bubytes_any h)
  have HIds := Lib.hid (fun (d j : Nat) (h : j < (idsL us d).length) => ids_at h)
  have HIL := Lib.hid (fun d => ids_length us d us.length)
  have HM := Lib.hid hm
  clear hr hq hfw hwl hs2 hs3 hm
  go_enter Try.func4, Try.ntmps4
  go_wp2_with fail
  refine HF.out.mono ?_
  rintro e w' ⟨rfl, hw⟩
  obtain rfl := hw.symm
  clear HF hw hWb
  go_wp2_with fail
  refine HN.out.mono ?_
  rintro e w1 ⟨p, rfl, hp, hb1⟩
  have d1 := B0.trans (hb1.mono e0)
  have e1 := d1.size
  have X1 := bu_box_below X0 hb1
  have HP1 := Lib.hid hp
  have N1 := Lib.hid (bunew_from hp)
  clear HN hp hb1 X0 B0 e0
  go_wp2_with fail
  refine N1.out.mono ?_
  rintro e w2 ⟨b0, rfl, hbb, hB, hb2⟩
  have d2 := d1.trans (hb2.mono e1)
  have e2 := d2.size
  have X2 := bu_box_below X1 hb2
  have HP2 := Lib.hid (HP1.out.below hb2)
  have HB2 := Lib.hid hB
  have Y2 := Lib.hid (HBy.out w2 _ hB)
  have hbq : w.heap.size < b0 := by have := X1.lt; omega
  clear N1 hB hb2 d1 e1 X1 HP1 HBy
  go_wp2_with fail
  refine Y2.out.mono ?_
  rintro e w3 ⟨rfl, hb3⟩
  have d3 := d2.trans (hb3.mono e2)
  have e3 := d3.size
  have X3 := bu_box_below X2 hb3
  have HP3 := Lib.hid (HP2.out.below hb3)
  have HB3 := Lib.hid (HB2.out.below hb3)
  clear Y2 hb3 d2 e2 X2 HP2 HB2
  obtain ⟨all, hall⟩ : ∃ all, bytL us = all := ⟨_, rfl⟩
  have HBL2 : all.length ≤ 256 := by rw [← hall]; exact HBL.out
  have HCA2 : Hid (cntL us all = us.length) := Lib.hid (by rw [← hall]; exact HCA.out)
  rw [hall]
  have SA := Lib.hid (bsize all)
  clear hall HBL HCA
  go_wp2
  go_loopw [10, 12] (fun n i wr => ∃ k : Nat, k ≤ all.length ∧ i = .int .i64 k ∧ n = .int .i64 (cntL us (all.take k) : Int) ∧ Below w3.heap.size w3 wr) (fun _ i _ => all.length - (RowKit.intOf i).toNat)
  case atStart => exact ⟨0, Nat.zero_le _, rfl, rfl, Below.refl _ _⟩
  case round =>
    obtain ⟨W4, hW4⟩ : ∃ W, W = wr := ⟨_, rfl⟩
    subst hW4
    obtain ⟨k, hk, rfl, rfl, hbe⟩ := hrel
    by_cases hlt : k < all.length
    · have hkz : k < (⟨all.toArray⟩ : ByteArray).size := by rw [bsize]; exact hlt
      have HBk := byteAt all k hlt hkz
      obtain ⟨d, hd⟩ : ∃ d, (all[k]).toNat = d := ⟨_, rfl⟩
      have hd256 : d < 256 := by rw [← hd]; exact UInt8.toNat_lt _
      have hqk : ((⟨all.toArray⟩ : ByteArray)[k]'hkz).toNat = d := by rw [HBk, hd]
      have HCS : Hid (cntL us (all.take (k + 1)) = cntL us (all.take k) + (idsL us d).length) := Lib.hid (by rw [cnt_snoc hlt, hd])
      have hcle : cntL us (all.take k) + (idsL us d).length ≤ 20 := by
        rw [← HCS.out]
        exact Nat.le_trans (cnt_take_le us all (k + 1)) (by rw [HCA2.out]; exact hs1)
      have O4 := Lib.hid (HOf.out W4 (some ⟨b0, 0, none⟩) d hd256 (HB3.out.below hbe))
      have g0 : (0 : Int) ≤ (k : Int) := by omega
      have g1 : (k : Int) < (all.length : Int) := by omega
      have HQK := Lib.hid hqk
      generalize cntL us (all.take k) = nn at HCS hcle
      clear HBk hd hqk
      have hqk := HQK.out
      go_wp2_with fail
      refine O4.out.mono ?_
      rintro e w5 ⟨v5, rfl, hown5, hb5⟩
      obtain ⟨a5, cap5, rfl, hrow5⟩ := row_of_ints hown5 (by unfold maxLen; have := HIL.out d; unfold idsL at *; omega)
      have R5 := Lib.hid hrow5
      have b5 := hbe.trans (hb5.mono hbe.size)
      have HI5 := Lib.hid (HIds.out d)
      generalize idsL us d = ids at *
      clear hown5 hrow5 hb5 O4
      have hsum : IntKind.i64.wrap ((nn : Int) + (ids.length : Int)) = ((nn + ids.length : Nat) : Int) := by rw [IntKind.wrap_i64]; omega
      go_wp2
      go_loopw [14] (fun j wr2 => ∃ i : Nat, i ≤ ids.length ∧ j = .int .i64 i ∧ Below w5.heap.size w5 wr2) (fun j _ => ids.length - (RowKit.intOf j).toNat)
      case atStart => exact ⟨0, Nat.zero_le _, rfl, Below.refl _ _⟩
      case round =>
        obtain ⟨i, hi, rfl, hbe2⟩ := hrel
        by_cases hli : i < ids.length
        · obtain ⟨q, t, hx, hf, hl, ht0⟩ := HI5.out i hli
          obtain h0 | ⟨b2, off2, rfl, _, _, _, hci⟩ := R5.out.below hbe2
          · omega
          have hc2 := hci i hli
          rw [hx] at hc2
          have A6 := Lib.hid (HAt.out wr p (HP3.out.below (b5.trans (hbe2.mono b5.size))) q t hf)
          have S1 := Lib.hid (bsize t)
          obtain ⟨mm, hmm⟩ : ∃ mm, mm + 1 = t.length := ⟨t.length - 1, by omega⟩
          have hml : mm < t.length := by omega
          have hmz : mm < (⟨t.toArray⟩ : ByteArray).size := by rw [bsize]; omega
          have htl := HT2.out t (List.mem_of_getElem? hf)
          have w1 : IntKind.i64.wrap ((t.length : Int) - 1) = (mm : Int) := by rw [IntKind.wrap_i64]; omega
          have hqt : ((⟨t.toArray⟩ : ByteArray)[mm]'hmz).toNat = d := by
            rw [byteAt t mm hml hmz, ← (lastN_at ht0).1 hl]
            congr 2
            omega
          have he : t.isEmpty = false := by cases t with | nil => simp at ht0 | cons _ _ => rfl
          have g2 : (0 : Int) ≤ (i : Int) := by omega
          have g3 : (i : Int) < (ids.length : Int) := by omega
          clear hci hx hf hl ht0 hmm
          go_wp2_with fail
          refine A6.out.mono ?_
          rintro e w' ⟨rfl, rfl⟩
          go_wp2_with fail
          go_quiet (fail)
          go_wp2
          exact ⟨⟨i + 1, by omega, by go_num, below_drewS hbe2 _⟩, by simp [RowKit.intOf]; omega⟩
        · obtain rfl : i = ids.length := by omega
          have hz : ¬ (ids.length : Int) < (ids.length : Int) := by omega
          go_wp2
          exact ⟨⟨k + 1, by omega, by go_num, by rw [HCS.out]; simp, b5.trans (hbe2.mono b5.size)⟩, by simp [RowKit.intOf]; omega⟩
    · obtain rfl : k = all.length := by omega
      have hz : ¬ (all.length : Int) < (all.length : Int) := by omega
      have d8 := d3.trans (hbe.mono e3)
      have e8 := d8.size
      have X8 := bu_box_below X3 hbe
      have L8 := Lib.hid (HLn.out W4 p (HP3.out.below hbe))
      have HB8 := Lib.hid (HB3.out.below hbe)
      have HTK : Hid (cntL us (all.take all.length) = us.length) := Lib.hid (by rw [List.take_length]; exact HCA2.out)
      rw [HTK.out]
      have c8 := X8.cell
      have f8 := X8.frozen
      clear HTK HCA2 HP3 HB3 hbe d3 e3 X3 HAt HIds HT2
      go_wp2_with fail
      refine L8.out.mono ?_
      rintro e w8 ⟨rfl, rfl⟩
      have hm := HM.out
      have X9 := X8.set (.int .i64 0)
      have d9 : Below w.heap.size w (w8.setCell ⟨w.heap.size, 0, none⟩ (.int .i64 0)) := d8.setCell (p := ⟨w.heap.size, 0, none⟩) (Nat.le_refl _) _
      have HB9 := Lib.hid (HB8.out.setCell (i := 0) hbq (.int .i64 0))
      obtain ⟨W9, hW9⟩ : ∃ W9, w8.setCell ⟨w.heap.size, 0, none⟩ (.int .i64 0) = W9 := ⟨_, rfl⟩
      rw [hW9] at X9 d9 HB9
      have hs9 : W9.heap.size = w8.heap.size := by rw [← hW9]; simp [World.setCell]
      have HE9 := Lib.hid (fun (W : World) => each_any (some ⟨b0, 0, none⟩) c W)
      have e9 := d9.size
      have bO := Boxed.new W9 34 (.slice none 0 0)
      have k9 : Below W9.heap.size W9 (W9.alloc (.cells #[.slice none 0 0] 34)) := (Below.refl _ W9).alloc (Nat.le_refl _) _
      have z9 : (W9.alloc (.cells #[.slice none 0 0] 34)).heap.size = W9.heap.size + 1 := by simp
      clear L8 HLn HB8 d8 e8 X8
      go_wp2_with fail
      refine (HE9.out _).mono ?_
      rintro e w10 ⟨rfl, hw10⟩
      have kE := eachWorld_below (.pointer (some ⟨b0, 0, none⟩)) c (W9.alloc (.cells #[.slice none 0 0] 34))
      have k10 := k9.trans (kE.mono k9.size)
      have z10 := eachWorld_size (.pointer (some ⟨b0, 0, none⟩)) c (W9.alloc (.cells #[.slice none 0 0] 34))
      have p1 := eachWorld_one (.pointer (some ⟨b0, 0, none⟩)) c (W9.alloc (.cells #[.slice none 0 0] 34))
      have p2 := eachWorld_two (.pointer (some ⟨b0, 0, none⟩)) c (W9.alloc (.cells #[.slice none 0 0] 34))
      rw [z9] at z10 p1 p2
      have bO2 : Boxed (eachWorld (.pointer (some ⟨b0, 0, none⟩)) c (W9.alloc (.cells #[.slice none 0 0] 34))) W9.heap.size 34 (.slice none 0 0) := (bO.alloc _).alloc _
      have s10 : w8.heap.size = W9.heap.size := hs9.symm
      rw [← hw10] at kE k10 z10 p1 p2 bO2
      rw [z9, s10]
      have X10 := bu_box_below X9 k10
      have HB10 := Lib.hid (HB9.out.below k10)
      have d10 := d9.trans (k10.mono e9)
      have e10 := d10.size
      have c10 := X10.cell
      have hrun : Sem.run Try.prog (binOp BinOp.eql 46 (Value.func (.func 27) #[] #[.pointer (some ⟨W9.heap.size + 1, 0, none⟩), .pointer (some ⟨W9.heap.size + 1 + 1, 0, none⟩)]) Value.nilFunc) w10 = .ok (.bool false) w10 := by kernel_rfl
      dsimp only [eachFunc]
      clear hw10 hW9 hs9 s10 kE bO k9 z9 X9 HE9 hlt
      have c11 := bO2.cell
      have O11 := Lib.hid (HOf.out w10 (some ⟨b0, 0, none⟩) c hc HB10.out)
      have X11 := X10
      have bO3 := bO2
      clear p1 p2 z10
      go_wp2_with fail
      refine O11.out.mono ?_
      rintro e w12 ⟨v12, rfl, hown12, hb12⟩
      have d12 := d10.trans (hb12.mono e10)
      have e12 := d12.size
      have c12 := (bu_box_below X10 hb12).cell
      have cv12 := (bu_box_below bO2 hb12).cell
      clear hrun c10 c11 X10 bO2 X11 bO3 O11 hb12 d10
      generalize idsL us c = ids at *
      by_cases h0 : ids.length = 0
      · obtain ⟨a12, cap12, rfl⟩ := owns_slice hown12
        have h00 : ¬ (0 : Int) < (ids.length : Int) := by omega
        have M12 := Lib.hid (isame_any none a12 0 0 cap12 0 0 [] w12 (by omega) (.inl rfl) (.inl rfl))
        rw [h0]
        clear hown12
        go_wp2_with fail
        refine M12.out.mono ?_
        rintro e w13 ⟨rfl, hb13⟩
        have d13 := d12.trans (hb13.mono e12)
        have e13 := d13.size
        clear M12
        go_wp2_with fail
        refine (buawake_any w13).mono ?_
        rintro e w14 ⟨rfl, hb14⟩
        have d14 := d13.trans (hb14.mono e13)
        go_wp2
        go_ret
        exact ⟨rfl, d14⟩
      · obtain ⟨g, cap12, _, hcap, rfl⟩ := owns_some hown12 (by omega)
        have h00 : (0 : Int) < (ids.length : Int) := by omega
        have hc0 : ¬ cap12 = 0 := by omega
        have M12 := Lib.hid (fun (a12 : Option Addr) => isame_any none a12 0 0 cap12 0 0 [] w12 (by omega) (.inl rfl) (.inl rfl))
        clear hown12
        go_wp2_with fail
        refine (M12.out _).mono ?_
        rintro e w13 ⟨rfl, hb13⟩
        have d13 := d12.trans (hb13.mono e12)
        have e13 := d13.size
        clear M12
        go_wp2_with fail
        refine (buawake_any w13).mono ?_
        rintro e w14 ⟨rfl, hb14⟩
        have d14 := d13.trans (hb14.mono e13)
        go_wp2
        go_ret
        exact ⟨rfl, d14⟩

set_option maxRecDepth 100000 in
set_option maxHeartbeats 4000000 in
theorem buonce_some (a : Option Addr) (len cap c m : Nat) (most : Int) (ws : List (List UInt8)) (w : World) (hr : IsStrs w a len ws) (hq : fewB ws 20 50 = true) (hc : c < 256) (hm : bits .and .i64 most 31 = (m : Int)) (hm31 : m ≤ 31) (hm0 : 0 < m) :
    Calls Try.prog 4 #[.slice a len cap, .int .u8 (c : Int), .int .i64 most] w fun e w' => e = .returned (.bool true) ∧ Below w.heap.size w w' := by
  have hwl := hr.1
  have hfw := (few_iff ws 20 50).1 hq
  have hlen : len ≤ 20 := by omega
  obtain ⟨Wb, hWb⟩ : ∃ Wb, w.alloc (.cells #[.int .i64 most] 3) = Wb := ⟨_, rfl⟩
  have B0 : Below w.heap.size w Wb := by rw [← hWb]; exact (Below.refl _ w).alloc (Nat.le_refl _) _
  have X0 : Boxed Wb w.heap.size 3 (.int .i64 most) := by rw [← hWb]; exact Boxed.new w _ _
  have e0 := B0.size
  have HF := Lib.hid (few_yes a len cap ws Wb (by omega) (hr.below B0) (fun t ht => by have := hfw.2 t ht; omega) hq)
  have HN := Lib.hid (ptnew_all a len cap ws Wb (by omega) (hr.below B0) (fun t ht => by have := hfw.2 t ht; omega))
  obtain ⟨hs1, hs2⟩ := few_set hq
  have hs3 : ∀ t ∈ setL ws, 0 < t.length := fun t h => (set_mem h).2.1
  generalize setL ws = us at HN hs1 hs2 hs3
  generalize faultL ws = f at HN
  have hil : (idsL us c).length ≤ 20 := Nat.le_trans (ids_length us c us.length) hs1
  have HCA := Lib.hid (cnt_all hs3)
  have HBL := Lib.hid (byt_length us 256)
  have HT2 := Lib.hid hs2
  have HAt := Lib.hid (fun (w2 : World) (p : Option Addr) (h : IsPats w2 p us) (k : Nat) (t : List UInt8) (ht : us[k]? = some t) => ptat_all h k t ht)
  have HLn := Lib.hid (fun (w2 : World) (p : Option Addr) (h : IsPats w2 p us) => ptlen_all h)
  have HOf := Lib.hid (fun (w2 : World) (b : Option Addr) (d : Nat) (hd : d < 256) (h : HasBks w2 (.pointer b) (idsL us) (lstL us)) => buofs_any h d hd (by have := ids_length us d us.length; unfold idsL; omega))
  have HBy := Lib.hid (fun (w2 : World) (b : Option Addr) (h : HasBks w2 (.pointer b) (idsL us) (lstL us)) => bubytes_any h)
  have HIds := Lib.hid (fun (d j : Nat) (h : j < (idsL us d).length) => ids_at h)
  have HIL := Lib.hid (fun d => ids_length us d us.length)
  have HM := Lib.hid hm
  clear hr hq hfw hwl hs2 hs3 hm
  refine callsIn_wide (n := 5) |>.1 ?_
  refine callsIn_of_wp_marks Try.func4 rfl trivial ?_ rfl
  simp only [Try.ntmps4, List.size_toArray, List.length_cons, List.length_nil, Nat.reduceAdd, Nat.reduceSub, Array.replicate_succ, Array.replicate_zero, List.push_toArray, List.append_toArray, List.nil_append, List.cons_append]
  refine wpIn_wide.2 ?_
  go_wp2_with fail
  refine HF.out.mono ?_
  rintro e w' ⟨rfl, hw⟩
  obtain rfl := hw.symm
  clear HF hw hWb
  go_wp2_with fail
  refine HN.out.mono ?_
  rintro e w1 ⟨p, rfl, hp, hb1⟩
  have d1 := B0.trans (hb1.mono e0)
  have e1 := d1.size
  have X1 := bu_box_below X0 hb1
  have HP1 := Lib.hid hp
  have N1 := Lib.hid (bunew_from hp)
  clear HN hp hb1 X0 B0 e0
  go_wp2_with fail
  refine N1.out.mono ?_
  rintro e w2 ⟨b0, rfl, hbb, hB, hb2⟩
  have d2 := d1.trans (hb2.mono e1)
  have e2 := d2.size
  have X2 := bu_box_below X1 hb2
  have HP2 := Lib.hid (HP1.out.below hb2)
  have HB2 := Lib.hid hB
  have Y2 := Lib.hid (HBy.out w2 _ hB)
  have hbq : w.heap.size < b0 := by have := X1.lt; omega
  clear N1 hB hb2 d1 e1 X1 HP1 HBy
  go_wp2_with fail
  refine Y2.out.mono ?_
  rintro e w3 ⟨rfl, hb3⟩
  have d3 := d2.trans (hb3.mono e2)
  have e3 := d3.size
  have X3 := bu_box_below X2 hb3
  have HP3 := Lib.hid (HP2.out.below hb3)
  have HB3 := Lib.hid (HB2.out.below hb3)
  clear Y2 hb3 d2 e2 X2 HP2 HB2
  obtain ⟨all, hall⟩ : ∃ all, bytL us = all := ⟨_, rfl⟩
  have HBL2 : all.length ≤ 256 := by rw [← hall]; exact HBL.out
  have HCA2 : Hid (cntL us all = us.length) := Lib.hid (by rw [← hall]; exact HCA.out)
  rw [hall]
  have SA := Lib.hid (bsize all)
  clear hall HBL HCA
  go_wp2
  go_loopw [10, 12] (fun n i wr => ∃ k : Nat, k ≤ all.length ∧ i = .int .i64 k ∧ n = .int .i64 (cntL us (all.take k) : Int) ∧ Below w3.heap.size w3 wr) (fun _ i _ => all.length - (RowKit.intOf i).toNat)
  case atStart => exact ⟨0, Nat.zero_le _, rfl, rfl, Below.refl _ _⟩
  case round =>
    obtain ⟨W4, hW4⟩ : ∃ W, W = wr := ⟨_, rfl⟩
    subst hW4
    obtain ⟨k, hk, rfl, rfl, hbe⟩ := hrel
    by_cases hlt : k < all.length
    · have hkz : k < (⟨all.toArray⟩ : ByteArray).size := by rw [bsize]; exact hlt
      have HBk := byteAt all k hlt hkz
      obtain ⟨d, hd⟩ : ∃ d, (all[k]).toNat = d := ⟨_, rfl⟩
      have hd256 : d < 256 := by rw [← hd]; exact UInt8.toNat_lt _
      have hqk : ((⟨all.toArray⟩ : ByteArray)[k]'hkz).toNat = d := by rw [HBk, hd]
      have HCS : Hid (cntL us (all.take (k + 1)) = cntL us (all.take k) + (idsL us d).length) := Lib.hid (by rw [cnt_snoc hlt, hd])
      have hcle : cntL us (all.take k) + (idsL us d).length ≤ 20 := by
        rw [← HCS.out]
        exact Nat.le_trans (cnt_take_le us all (k + 1)) (by rw [HCA2.out]; exact hs1)
      have O4 := Lib.hid (HOf.out W4 (some ⟨b0, 0, none⟩) d hd256 (HB3.out.below hbe))
      have g0 : (0 : Int) ≤ (k : Int) := by omega
      have g1 : (k : Int) < (all.length : Int) := by omega
      have HQK := Lib.hid hqk
      generalize cntL us (all.take k) = nn at HCS hcle
      clear HBk hd hqk
      have hqk := HQK.out
      go_wp2_with fail
      refine O4.out.mono ?_
      rintro e w5 ⟨v5, rfl, hown5, hb5⟩
      obtain ⟨a5, cap5, rfl, hrow5⟩ := row_of_ints hown5 (by unfold maxLen; have := HIL.out d; unfold idsL at *; omega)
      have R5 := Lib.hid hrow5
      have b5 := hbe.trans (hb5.mono hbe.size)
      have HI5 := Lib.hid (HIds.out d)
      generalize idsL us d = ids at *
      clear hown5 hrow5 hb5 O4
      have hsum : IntKind.i64.wrap ((nn : Int) + (ids.length : Int)) = ((nn + ids.length : Nat) : Int) := by rw [IntKind.wrap_i64]; omega
      go_wp2
      go_loopw [14] (fun j wr2 => ∃ i : Nat, i ≤ ids.length ∧ j = .int .i64 i ∧ Below w5.heap.size w5 wr2) (fun j _ => ids.length - (RowKit.intOf j).toNat)
      case atStart => exact ⟨0, Nat.zero_le _, rfl, Below.refl _ _⟩
      case round =>
        obtain ⟨i, hi, rfl, hbe2⟩ := hrel
        by_cases hli : i < ids.length
        · obtain ⟨q, t, hx, hf, hl, ht0⟩ := HI5.out i hli
          obtain h0 | ⟨b2, off2, rfl, _, _, _, hci⟩ := R5.out.below hbe2
          · omega
          have hc2 := hci i hli
          rw [hx] at hc2
          have A6 := Lib.hid (HAt.out wr p (HP3.out.below (b5.trans (hbe2.mono b5.size))) q t hf)
          have S1 := Lib.hid (bsize t)
          obtain ⟨mm, hmm⟩ : ∃ mm, mm + 1 = t.length := ⟨t.length - 1, by omega⟩
          have hml : mm < t.length := by omega
          have hmz : mm < (⟨t.toArray⟩ : ByteArray).size := by rw [bsize]; omega
          have htl := HT2.out t (List.mem_of_getElem? hf)
          have w1 : IntKind.i64.wrap ((t.length : Int) - 1) = (mm : Int) := by rw [IntKind.wrap_i64]; omega
          have hqt : ((⟨t.toArray⟩ : ByteArray)[mm]'hmz).toNat = d := by
            rw [byteAt t mm hml hmz, ← (lastN_at ht0).1 hl]
            congr 2
            omega
          have he : t.isEmpty = false := by cases t with | nil => simp at ht0 | cons _ _ => rfl
          have g2 : (0 : Int) ≤ (i : Int) := by omega
          have g3 : (i : Int) < (ids.length : Int) := by omega
          clear hci hx hf hl ht0 hmm
          go_wp2_with fail
          refine A6.out.mono ?_
          rintro e w' ⟨rfl, rfl⟩
          go_wp2_with fail
          go_quiet (fail)
          go_wp2
          exact ⟨⟨i + 1, by omega, by go_num, below_drewS hbe2 _⟩, by simp [RowKit.intOf]; omega⟩
        · obtain rfl : i = ids.length := by omega
          have hz : ¬ (ids.length : Int) < (ids.length : Int) := by omega
          go_wp2
          exact ⟨⟨k + 1, by omega, by go_num, by rw [HCS.out]; simp, b5.trans (hbe2.mono b5.size)⟩, by simp [RowKit.intOf]; omega⟩
    · obtain rfl : k = all.length := by omega
      have hz : ¬ (all.length : Int) < (all.length : Int) := by omega
      have d8 := d3.trans (hbe.mono e3)
      have e8 := d8.size
      have X8 := bu_box_below X3 hbe
      have L8 := Lib.hid (HLn.out W4 p (HP3.out.below hbe))
      have HB8 := Lib.hid (HB3.out.below hbe)
      have HTK : Hid (cntL us (all.take all.length) = us.length) := Lib.hid (by rw [List.take_length]; exact HCA2.out)
      rw [HTK.out]
      have c8 := X8.cell
      have f8 := X8.frozen
      clear HTK HCA2 HP3 HB3 hbe d3 e3 X3 HAt HIds HT2
      go_wp2_with fail
      refine L8.out.mono ?_
      rintro e w8 ⟨rfl, rfl⟩
      have hm := HM.out
      have X9 := X8.set (.int .i64 (m : Int))
      have d9 : Below w.heap.size w (w8.setCell ⟨w.heap.size, 0, none⟩ (.int .i64 (m : Int))) := d8.setCell (p := ⟨w.heap.size, 0, none⟩) (Nat.le_refl _) _
      have HB9 := Lib.hid (HB8.out.setCell (i := 0) hbq (.int .i64 (m : Int)))
      obtain ⟨W9, hW9⟩ : ∃ W9, w8.setCell ⟨w.heap.size, 0, none⟩ (.int .i64 (m : Int)) = W9 := ⟨_, rfl⟩
      rw [hW9] at X9 d9 HB9
      have hs9 : W9.heap.size = w8.heap.size := by rw [← hW9]; simp [World.setCell]
      have HE9 := Lib.hid (fun (W : World) => each_any (some ⟨b0, 0, none⟩) c W)
      have e9 := d9.size
      have bO := Boxed.new W9 34 (.slice none 0 0)
      have k9 : Below W9.heap.size W9 (W9.alloc (.cells #[.slice none 0 0] 34)) := (Below.refl _ W9).alloc (Nat.le_refl _) _
      have z9 : (W9.alloc (.cells #[.slice none 0 0] 34)).heap.size = W9.heap.size + 1 := by simp
      clear L8 HLn HB8 d8 e8 X8
      go_wp2_with fail
      refine (HE9.out _).mono ?_
      rintro e w10 ⟨rfl, hw10⟩
      have kE := eachWorld_below (.pointer (some ⟨b0, 0, none⟩)) c (W9.alloc (.cells #[.slice none 0 0] 34))
      have k10 := k9.trans (kE.mono k9.size)
      have z10 := eachWorld_size (.pointer (some ⟨b0, 0, none⟩)) c (W9.alloc (.cells #[.slice none 0 0] 34))
      have p1 := eachWorld_one (.pointer (some ⟨b0, 0, none⟩)) c (W9.alloc (.cells #[.slice none 0 0] 34))
      have p2 := eachWorld_two (.pointer (some ⟨b0, 0, none⟩)) c (W9.alloc (.cells #[.slice none 0 0] 34))
      rw [z9] at z10 p1 p2
      have bO2 : Boxed (eachWorld (.pointer (some ⟨b0, 0, none⟩)) c (W9.alloc (.cells #[.slice none 0 0] 34))) W9.heap.size 34 (.slice none 0 0) := (bO.alloc _).alloc _
      have s10 : w8.heap.size = W9.heap.size := hs9.symm
      rw [← hw10] at kE k10 z10 p1 p2 bO2
      rw [z9, s10]
      have X10 := bu_box_below X9 k10
      have HB10 := Lib.hid (HB9.out.below k10)
      have d10 := d9.trans (k10.mono e9)
      have e10 := d10.size
      have c10 := X10.cell
      have hrun : Sem.run Try.prog (binOp BinOp.eql 46 (Value.func (.func 27) #[] #[.pointer (some ⟨W9.heap.size + 1, 0, none⟩), .pointer (some ⟨W9.heap.size + 1 + 1, 0, none⟩)]) Value.nilFunc) w10 = .ok (.bool false) w10 := by kernel_rfl
      dsimp only [eachFunc]
      clear hw10 hW9 hs9 s10 kE k9 z9 HE9 hlt bO
      have g5 : (0 : Int) < (m : Int) := by omega
      have HS := Lib.hid (each_stops 4 (by omega) (W9.heap.size + 1) (.pointer (some ⟨b0, 0, none⟩)) (idsL us) (lstL us) c hc W9 w10 k10 (by omega) (by omega) p1 p2 HB9.out)
      obtain ⟨i0, hi, hz0, hz1, hz2⟩ := info_parts int_info
      have hpI : ∀ q : List Int → Prop, OwnFrom w10.heap.size (fun (pre : List Int) W => (∃ v, Boxed W W9.heap.size 34 v ∧ W.ownsRow W9.heap.size 3 1 v pre.length (inCells pre) ∧ q pre) ∧ Below W9.heap.size W9 W) :=
        fun q => OwnFrom.and (Own.from (holdsRow_own W9.heap.size W9.heap.size 34 3 1 (fun pre : List Int => pre.length) (fun pre => inCells pre) (fun pre _ => q pre)) _) (ownFrom_below (Nat.le_refl _) (by omega))
      have hxq : w.heap.size ≠ W9.heap.size := by have := X9.lt; omega
      clear p1 p2 X10 HB10 d10 e10
      go_wp2_with fail
      refine (wpIn_wide (n := 5)).1 ?_
      apply wpIn_rangeFunc_ownF (F := Fence.wide) (n := 5) rfl (by omega) (gf := 27) (lb := #[.pointer (some ⟨W9.heap.size + 1, 0, none⟩), .pointer (some ⟨W9.heap.size + 1 + 1, 0, none⟩)]) rfl trivial (enters_of Try.func27 (by kernel_rfl) rfl)
        HS.out belowK_t (belowK_b (by omega)) (Below.refl _ _) (fun _ => rfl)
        (fun pre W => (∃ v, Boxed W W9.heap.size 34 v ∧ W.ownsRow W9.heap.size 3 1 v pre.length (inCells pre) ∧ pre.length < m) ∧ Below W9.heap.size W9 W)
        (fun cd pre W => cd = .exit 4 ∧ ((∃ v, Boxed W W9.heap.size 34 v ∧ W.ownsRow W9.heap.size 3 1 v pre.length (inCells pre) ∧ pre.length = m) ∧ Below W9.heap.size W9 W))
        (hpI (fun pre => pre.length < m))
        (fun cd s A B row h hg hr => ⟨h.1, hpI (fun pre => pre.length = m) s A B row h.2 hg hr⟩)
        ⟨⟨_, bO2, World.ownsRow_nil _ _ _ _, hm0⟩, k10⟩
      case hassign =>
        intro l x W K hK
        dsimp only [encE]
        gi_wp2
        exact hK
      case hbody =>
        rintro l pre x W ⟨⟨v, hv, hrow, hpl⟩, hB⟩ hlt
        have hcv := hv.cell
        have XW := bu_box_below X9 hB
        have hcx := XW.cell
        have hf1 := hv.frozen
        by_cases hq : pre.length + 1 = m
        · have hqi : (pre.length : Int) + 1 = (m : Int) := by omega
          have HQ := Lib.hid hq
          clear hq
          gi_wp2_with (gi_at_builtin; refine wpListIn_append_own _ rfl _ _ 34 rfl W9.heap.size 3 i0 (.int .i64 0) 1 8 Try.underlying34 hi hz0 hz1 hz2 rfl (by decide) _ _ _ rfl (hrow.alloc _) ⟨W.heap.size, 0, none⟩ 1 1 [.int .i64 x] rfl rfl (cell_one_new _ _ _) (by simp [Value.oneCell']) (by unfold maxLen; omega) (by omega) (by have := hB.size; simp; omega) ?_; intro v' w1 hown' hgrow _; obtain ⟨g', cap', rfl⟩ := ownsRow_succ hown'; obtain ⟨hv1, hv2, hr2, hk2, hb2⟩ := hv.appended (by decide) hrow hB.size (Nat.le_refl _) hown' hgrow; have hc1 := hv1.cell; have hf1 := hv1.frozen; have hcx2 := (World.cell?_of_block (a := ⟨w.heap.size, 0, none⟩) (put_other hxq _)).symm.trans (bu_box_below X9 (hB.trans hb2)).cell)
          exact ⟨hk2, rfl, ⟨_, hv2, by rw [inCells_snoc, List.length_append]; exact hr2, by rw [List.length_append]; exact HQ.out⟩, hB.trans hb2⟩
        · have hqi : ¬ (pre.length : Int) + 1 = (m : Int) := by omega
          gi_wp2_with (gi_at_builtin; refine wpListIn_append_own _ rfl _ _ 34 rfl W9.heap.size 3 i0 (.int .i64 0) 1 8 Try.underlying34 hi hz0 hz1 hz2 rfl (by decide) _ _ _ rfl (hrow.alloc _) ⟨W.heap.size, 0, none⟩ 1 1 [.int .i64 x] rfl rfl (cell_one_new _ _ _) (by simp [Value.oneCell']) (by unfold maxLen; omega) (by omega) (by have := hB.size; simp; omega) ?_; intro v' w1 hown' hgrow _; obtain ⟨g', cap', rfl⟩ := ownsRow_succ hown'; obtain ⟨hv1, hv2, hr2, hk2, hb2⟩ := hv.appended (by decide) hrow hB.size (Nat.le_refl _) hown' hgrow; have hc1 := hv1.cell; have hf1 := hv1.frozen; have hcx2 := (World.cell?_of_block (a := ⟨w.heap.size, 0, none⟩) (put_other hxq _)).symm.trans (bu_box_below X9 (hB.trans hb2)).cell)
          exact ⟨hk2, hb2, ⟨_, hv2, by rw [inCells_snoc, List.length_append]; exact hr2, by rw [List.length_append, List.length_singleton]; omega⟩, hB.trans hb2⟩
      case hdone =>
        rintro D ys W hD rfl ⟨⟨v, hv, hrow, hpl⟩, hB⟩ hK
        have d11 := d9.trans (hB.mono e9)
        have e11 := d11.size
        have XW := bu_box_below X9 hB
        have hDW : D < W.heap.size := heap_lt hK
        have O11 := Lib.hid (HOf.out W (some ⟨b0, 0, none⟩) c hc (HB9.out.below hB))
        obtain ⟨a11, cap11, rfl, hrow11⟩ := row_of_ints hrow (by unfold maxLen; omega)
        have R11 := Lib.hid hrow11
        clear hrow hrow11 HS hrun c10 bO2 HB9 X9
        have hcvW := hv.cell
        have hcxW := XW.cell
        go_wp2_with fail
        refine O11.out.mono ?_
        rintro e w12 ⟨v12, rfl, hown12, hb12⟩
        have d12 := d11.trans (hb12.mono e11)
        have e12 := d12.size
        have c12 := (bu_box_below XW hb12).cell
        have cv12 := (bu_box_below hv hb12).cell
        have K12 := (hb12.block D hDW).trans hK
        have R12 := Lib.hid (R11.out.below hb12)
        clear O11 XW hv hcvW hcxW hb12 d11 R11 hB hK
        obtain ⟨a12, cap12, rfl, hrow12⟩ := row_of_ints hown12 (by unfold maxLen; omega)
        have M12 := Lib.hid (isame_any a11 a12 _ cap11 cap12 _ _ _ w12 (by omega) R12.out hrow12)
        have h00 : ¬ (m : Int) < ((idsL us c).length : Int) := by omega
        clear hown12 hrow12 R12
        go_wp2_with fail
        refine M12.out.mono ?_
        rintro e w13 ⟨rfl, hb13⟩
        have d13 := d12.trans (hb13.mono e12)
        have e13 := d13.size
        have K13 := (hb13.block D (heap_lt K12)).trans K12
        clear M12 K12 d12
        go_wp2_with fail
        refine (buawake_any w13).mono ?_
        rintro e w14 ⟨rfl, hb14⟩
        have d14 := d13.trans (hb14.mono e13)
        have K14 := (hb14.block D (heap_lt K13)).trans K13
        clear K13 d13
        go_wp2
        refine ⟨by simp, .inl ⟨_, _, rfl, run_takeDeferred K14, ?_⟩⟩
        exact ⟨_, results_tmp rfl _ _ _, rfl, d14.trans (belowK_b (w := w) (Nat.le_refl _) w14 D _ _ (by omega) K14 rfl rfl)⟩
      case hstop =>
        rintro D cd pre W hD hpre ⟨rfl, ⟨v, hv, hrow, hpl⟩, hB⟩ hK
        have hpt := List.prefix_iff_eq_take.1 hpre
        have hple := hpre.length_le
        rw [hpl] at hpt
        have d11 := d9.trans (hB.mono e9)
        have e11 := d11.size
        have XW := bu_box_below X9 hB
        have hDW : D < W.heap.size := heap_lt hK
        have O11 := Lib.hid (HOf.out W (some ⟨b0, 0, none⟩) c hc (HB9.out.below hB))
        obtain ⟨a11, cap11, rfl, hrow11⟩ := row_of_ints hrow (by unfold maxLen; omega)
        have R11 := Lib.hid hrow11
        clear hrow hrow11 HS hrun c10 bO2 HB9 X9
        have hcvW := hv.cell
        have hcxW := XW.cell
        refine wpIn_wide.2 ?_
        rw [hpl] at R11 hcvW hv
        go_wp2_with fail
        refine O11.out.mono ?_
        rintro e w12 ⟨v12, rfl, hown12, hb12⟩
        have d12 := d11.trans (hb12.mono e11)
        have e12 := d12.size
        have c12 := (bu_box_below XW hb12).cell
        have cv12 := (bu_box_below hv hb12).cell
        have K12 := (hb12.block D hDW).trans hK
        have R12 := Lib.hid (R11.out.below hb12)
        clear O11 XW hv hcvW hcxW hb12 d11 R11 hB hK
        by_cases hmm : m < (idsL us c).length
        · obtain ⟨g, cap12, _, hcap, rfl⟩ := owns_some hown12 (by omega)
          obtain ⟨a12, cap12', hv12, hrow12⟩ := row_of_ints hown12 (by unfold maxLen; omega)
          cases hv12
          have hr2 := row_take hrow12 (Nat.le_of_lt hmm)
          rw [hpt] at R12
          have M12 := Lib.hid (isame_any a11 _ m cap11 cap12 m m _ w12 (by omega) R12.out hr2)
          have h00 : (m : Int) < ((idsL us c).length : Int) := by omega
          have hc0 : ¬ cap12 = 0 := by omega
          have hc1 : (m : Int) ≤ (cap12 : Int) := by omega
          have hc2 : (0 : Int) ≤ (m : Int) := by omega
          clear hown12 hrow12 R12 hr2
          go_wp2_with fail
          refine M12.out.mono ?_
          rintro e w13 ⟨rfl, hb13⟩
          have d13 := d12.trans (hb13.mono e12)
          have e13 := d13.size
          have K13 := (hb13.block D (heap_lt K12)).trans K12
          clear M12 K12 d12
          go_wp2_with fail
          refine (buawake_any w13).mono ?_
          rintro e w14 ⟨rfl, hb14⟩
          have d14 := d13.trans (hb14.mono e13)
          have K14 := (hb14.block D (heap_lt K13)).trans K13
          clear K13 d13
          go_wp2
          refine ⟨by simp, .inl ⟨_, _, rfl, run_takeDeferred K14, ?_⟩⟩
          exact ⟨_, results_tmp rfl _ _ _, rfl, d14.trans (belowK_b (w := w) (Nat.le_refl _) w14 D _ _ (by omega) K14 rfl rfl)⟩
        · have hpe : pre = idsL us c := by rw [hpt]; exact List.take_of_length_le (by omega)
          obtain ⟨a12, cap12, rfl, hrow12⟩ := row_of_ints hown12 (by unfold maxLen; omega)
          have hml : m = (idsL us c).length := by omega
          rw [hpe] at R12
          have h00 : ¬ (m : Int) < ((idsL us c).length : Int) := by omega
          rw [← hml] at hrow12 ⊢
          have M12 := Lib.hid (isame_any a11 a12 m cap11 cap12 m m _ w12 (by omega) R12.out hrow12)
          clear hown12 hrow12 R12 hml h00 hmm hpe hpt hple
          go_wp2_with fail
          refine M12.out.mono ?_
          rintro e w13 ⟨rfl, hb13⟩
          have d13 := d12.trans (hb13.mono e12)
          have e13 := d13.size
          have K13 := (hb13.block D (heap_lt K12)).trans K12
          clear M12 K12 d12
          go_wp2_with fail
          refine (buawake_any w13).mono ?_
          rintro e w14 ⟨rfl, hb14⟩
          have d14 := d13.trans (hb14.mono e13)
          have K14 := (hb14.block D (heap_lt K13)).trans K13
          clear K13 d13
          go_wp2
          refine ⟨by simp, .inl ⟨_, _, rfl, run_takeDeferred K14, ?_⟩⟩
          exact ⟨_, results_tmp rfl _ _ _, rfl, d14.trans (belowK_b (w := w) (Nat.le_refl _) w14 D _ _ (by omega) K14 rfl rfl)⟩
end Go.Proofs.Ytnmehjgojedpnaa
