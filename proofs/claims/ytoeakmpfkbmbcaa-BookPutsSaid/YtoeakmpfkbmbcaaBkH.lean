/-
  The document's Put of layer 11: walked.
-/
import Derived.Test.YtoeakmpfkbmbcaaBkM
import Derived.Test.YtoeakmpfkbmbcaaVarRef
import Derived.Test.YtoeakmpfkbmbcaaAfRp
import Derived.Lib.QuietBelow
import Derived.BigQuiet
set_option linter.unusedSimpArgs false
set_option linter.unusedVariables false
namespace Go.Proofs.Ytoeakmpfkbmbcaa
open Go.RowKit

theorem regrown_bk {P : Program} {f : FuncId} {args : Array Value} {v : Value} {w : World} (h : ∀ c, Calls P f args c fun e w' => e = .returned v ∧ Below c.heap.size c w') (d : Nat) (os : Array Obj) :
    Calls P f args (Go.Sort.grow (redrawn w d) os) fun e w'' => e = .returned v ∧ ∃ p : Regrown, w'' = Go.Sort.grow (redrawn w p.d) p.os := Calls.regrown_of (h _)

theorem rbkput_nil (a : Option Addr) (cap : Nat) (w : World) : Calls Try.prog 11 #[.slice a 0 cap] w fun e w' => e = .returned (.string ⟨#[]⟩) ∧ w' = w := by
  go_enter Try.func11, Try.ntmps11
  go_wp2
  go_ret
  exact ⟨rfl, rfl⟩

set_option maxHeartbeats 8000000 in
set_option maxRecDepth 100000 in
theorem rbkput_any (ao : Option Addr) (len cap : Nat) (ws : List (List UInt8)) (w : World) (h0 : 1 ≤ len) (hlen : len ≤ 65535) (hr : IsStrs w ao len ws) (he : ∀ t ∈ ws, t.length ≤ 65535) (ht : totalL ws ≤ 16777216) :
    Calls Try.prog 11 #[.slice ao len cap] w fun e w' => e = .returned (.string ⟨(bookB ws).toArray⟩) ∧ Below w.heap.size w w' := by
  have hwl := hr.1
  have HI := Lib.hid hr
  have HE := Lib.hid he
  have HTo : Hid (∀ k, totalL (ws.take k) ≤ 16777216) := Lib.hid (fun k => Nat.le_trans (total_take_le ws k) ht)
  have hmx : Try.prog.follows .mixedOrders = true := by kernel_rfl
  have HV := Lib.hid (fun w => refput_any len (len : Int) w (by omega) (by omega))
  have hv9 := vput_length (len : Int) (by omega)
  have HA : Hid (hdB ++ (vput (len : Int) ++ restB [] ws) = bookB ws) := Lib.hid (by unfold bookB; rw [if_neg (by omega), hwl])
  have hdv : (vput (len : Int)).length ≤ 9 := hv9
  have g0 : ((len : Int) == 0) = false := by simp; omega
  have yh : (⟨#[106, 117, 114, 97, 116, 1]⟩ : ByteArray) ++ ⟨(vput (len : Int)).toArray⟩ = ⟨(hdB ++ vput (len : Int)).toArray⟩ := by simp [hdB, ByteArray.mk_append_mk]
  have H0 : Hid (hdB ++ (vput (len : Int) ++ restB [] (ws.take 0)) = hdB ++ vput (len : Int)) := Lib.hid (by simp [restB])
  clear hr he ht
  obtain ⟨vn, hvn⟩ : ∃ vn, vput (len : Int) = vn := ⟨_, rfl⟩
  rw [hvn] at HV yh H0 hv9
  generalize hdB ++ vn = cn at yh H0
  go_enter Try.func11, Try.ntmps11
  go_wp2_with fail
  refine (HV.out _).mono ?_
  rintro e w1 ⟨rfl, b1⟩
  clear HV
  go_wp2_with fail
  go_loopw [3, 4] (fun x i wr => ∃ (k : Nat) (c : List UInt8), k ≤ len ∧ i = .int .i64 k ∧ x = .string ⟨c.toArray⟩ ∧ Hid (hdB ++ (vput (len : Int) ++ restB [] (ws.take k)) = c) ∧ Below w.heap.size w wr) (fun _ i _ => len - (RowKit.intOf i).toNat)
  case atStart => exact ⟨0, cn, Nat.zero_le _, rfl, rfl, Lib.hid (by rw [← H0.out, hvn]), b1⟩
  case round =>
    obtain ⟨k, c, hk, rfl, rfl, HC, hbe⟩ := hrel
    have hsz := hbe.size
    by_cases hlt : k < len
    · obtain ⟨g, off, rfl, t, hf, hc⟩ := str_at HI.out hbe k hlt
      have htl := HE.out t (List.mem_of_getElem? hf)
      by_cases hk0 : k = 0
      · subst hk0
        have hpl := preL_le [] t
        have hlk := rest_len [] (ws.take 0) (fun u hu => HE.out u (List.mem_of_mem_take hu))
        have htk : (ws.take 0).length ≤ len := by rw [List.length_take]; omega
        have htt := HTo.out 0
        have hRS := rest_snoc [] ws 0 (b := []) rfl hf
        have hlr : (hdB ++ (vput (len : Int) ++ restB [] (ws.take 0))).length ≤ 1000000000 := by
          rw [List.length_append, List.length_append]
          have := hdv
          simp only [hdB, List.length_cons, List.length_nil]
          omega
        obtain ⟨p, hp⟩ : ∃ p, preL [] t = p := ⟨_, rfl⟩
        have hent : entB [] t = vput (p : Int) ++ (vput ((t.length - p : Nat) : Int) ++ t.drop p) := by unfold entB; rw [hp]
        rw [hent] at hRS
        rw [hp] at hpl
        have x4 := ext_rest t p
        obtain ⟨q, hq⟩ : ∃ q, t.length - p = q := ⟨_, rfl⟩
        rw [hq] at hRS
        have v1 := vput_length (p : Int) (by omega)
        have v2 := vput_length (q : Int) (by omega)
        have P1 := fun w => refput_any p (p : Int) w (by omega) (by omega)
        have P2 := fun w => refput_any q (q : Int) w (by omega) (by omega)
        have hdl : (t.drop p).length ≤ t.length := by rw [List.length_drop]; omega
        have HRS := Lib.hid hRS
        have hps : (p : Int) ≤ (t.length : Int) := by omega
        have hp0 : (0 : Int) ≤ (p : Int) := by omega
        have hwq : IntKind.i64.wrap ((t.length : Int) - (p : Int)) = (q : Int) := by rw [IntKind.wrap_i64]; omega
        generalize vput (p : Int) = vp at P1 HRS v1
        generalize vput (q : Int) = vq at P2 HRS v2
        generalize t.drop p = r at x4 hdl HRS
        have HC2 : Hid (hdB ++ (vput (len : Int) ++ restB [] (ws.take (0 + 1))) = hdB ++ (vput (len : Int) ++ restB [] (ws.take 0)) ++ vp ++ vq ++ r) := Lib.hid (by rw [HRS.out]; simp [List.append_assoc])
        generalize hdB ++ (vput (len : Int) ++ restB [] (ws.take 0)) = acc at HC HC2 hlr
        have hcc := HC.out.symm
        subst hcc
        have y1 : (⟨c.toArray⟩ : ByteArray) ++ ⟨vp.toArray⟩ = ⟨(c ++ vp).toArray⟩ := by simp [ByteArray.mk_append_mk]
        have y2 : (⟨(c ++ vp).toArray⟩ : ByteArray) ++ ⟨vq.toArray⟩ = ⟨(c ++ vp ++ vq).toArray⟩ := by simp [ByteArray.mk_append_mk]
        have y3 : (⟨(c ++ vp ++ vq).toArray⟩ : ByteArray) ++ ⟨r.toArray⟩ = ⟨(c ++ vp ++ vq ++ r).toArray⟩ := by simp [ByteArray.mk_append_mk]
        have l1 : ¬ 9223372036854775807 < c.length + vp.length := by omega
        have l2 : ¬ 9223372036854775807 < (c ++ vp).length + vq.length := by rw [List.length_append]; omega
        have l3 : ¬ 9223372036854775807 < (c ++ vp ++ vq).length + r.length := by rw [List.length_append, List.length_append]; omega
        generalize c ++ vp = c1 at y1 y2 y3 l2 l3 HC2
        generalize c1 ++ vq = c2 at y2 y3 l3 HC2
        generalize c2 ++ r = c3 at y3 HC2
        have HC3 : Hid (hdB ++ (vput (len : Int) ++ restB [] (ws.take (0 + 1))) = c3) := HC2
        have ST := Lib.hid (bsize t)
        obtain rfl : p = 0 := by rw [← hp, preL_nil]
        obtain rfl : q = t.length := by omega
        clear hf hp hent hRS HC2 HRS HC hq
        have G1 := regrown_bk (w := wr) (f := 26) (args := #[.int .i64 0]) P1
        have G2 := regrown_bk (w := wr) P2
        rw [Nat.add_zero] at hc
        have c0 := cell_regrown hc
        obtain ⟨wq, hwq0⟩ : ∃ wq, wr = wq := ⟨_, rfl⟩
        subst hwq0
        have dq0 := hbe
        have sq0 := hsz
        clear P1 P2 hbe hsz
        go_wp2_with fail
        refine wp_region_quiet_below hmx (by kernel_rfl) ?_
        repeat (go_big_quiet_step (first | with_reducible exact G1 _ _ | with_reducible exact G2 _ _))
        refine wpQuiet_nil ?_
        intro W6 hw6
        obtain ⟨⟨dq, osq⟩, rfl⟩ := hw6
        have b6 := below_regrown wr dq osq
        generalize Go.Sort.grow (redrawn wr dq) osq = w6 at b6 ⊢
        have d6 := dq0.trans (b6.mono sq0)
        clear b6 G1 G2
        go_wp2
        exact ⟨⟨0 + 1, c3, by omega, by go_num, rfl, HC3, d6⟩, by simp [RowKit.intOf]; omega⟩
      · obtain ⟨n, rfl⟩ : ∃ n, k = n + 1 := ⟨k - 1, by omega⟩
        obtain ⟨g2, off2, e2, b, hf2, hc2⟩ := str_at HI.out hbe n (by omega)
        cases e2
        have hbl := HE.out b (List.mem_of_getElem? hf2)
        have hpl := preL_le b t
        have hlk := rest_len [] (ws.take (n + 1)) (fun u hu => HE.out u (List.mem_of_mem_take hu))
        have htk : (ws.take (n + 1)).length ≤ len := by rw [List.length_take]; omega
        have htt := HTo.out (n + 1)
        have hRS := rest_snoc [] ws (n + 1) (b := b) (by rw [List.getElem?_cons_succ]; exact hf2) hf
        have hlr : (hdB ++ (vput (len : Int) ++ restB [] (ws.take (n + 1)))).length ≤ 1000000000 := by
          rw [List.length_append, List.length_append]
          have := hdv
          simp only [hdB, List.length_cons, List.length_nil]
          omega
        obtain ⟨p, hp⟩ : ∃ p, preL b t = p := ⟨_, rfl⟩
        have hent : entB b t = vput (p : Int) ++ (vput ((t.length - p : Nat) : Int) ++ t.drop p) := by unfold entB; rw [hp]
        rw [hent] at hRS
        rw [hp] at hpl
        have x4 := ext_rest t p
        obtain ⟨q, hq⟩ : ∃ q, t.length - p = q := ⟨_, rfl⟩
        rw [hq] at hRS
        have v1 := vput_length (p : Int) (by omega)
        have v2 := vput_length (q : Int) (by omega)
        have P1 := fun w => refput_any p (p : Int) w (by omega) (by omega)
        have P2 := fun w => refput_any q (q : Int) w (by omega) (by omega)
        have hdl : (t.drop p).length ≤ t.length := by rw [List.length_drop]; omega
        have HRS := Lib.hid hRS
        have hps : (p : Int) ≤ (t.length : Int) := by omega
        have hp0 : (0 : Int) ≤ (p : Int) := by omega
        have hwq : IntKind.i64.wrap ((t.length : Int) - (p : Int)) = (q : Int) := by rw [IntKind.wrap_i64]; omega
        generalize vput (p : Int) = vp at P1 HRS v1
        generalize vput (q : Int) = vq at P2 HRS v2
        generalize t.drop p = r at x4 hdl HRS
        have HC2 : Hid (hdB ++ (vput (len : Int) ++ restB [] (ws.take ((n + 1) + 1))) = hdB ++ (vput (len : Int) ++ restB [] (ws.take (n + 1))) ++ vp ++ vq ++ r) := Lib.hid (by rw [HRS.out]; simp [List.append_assoc])
        generalize hdB ++ (vput (len : Int) ++ restB [] (ws.take (n + 1))) = acc at HC HC2 hlr
        have hcc := HC.out.symm
        subst hcc
        have y1 : (⟨c.toArray⟩ : ByteArray) ++ ⟨vp.toArray⟩ = ⟨(c ++ vp).toArray⟩ := by simp [ByteArray.mk_append_mk]
        have y2 : (⟨(c ++ vp).toArray⟩ : ByteArray) ++ ⟨vq.toArray⟩ = ⟨(c ++ vp ++ vq).toArray⟩ := by simp [ByteArray.mk_append_mk]
        have y3 : (⟨(c ++ vp ++ vq).toArray⟩ : ByteArray) ++ ⟨r.toArray⟩ = ⟨(c ++ vp ++ vq ++ r).toArray⟩ := by simp [ByteArray.mk_append_mk]
        have l1 : ¬ 9223372036854775807 < c.length + vp.length := by omega
        have l2 : ¬ 9223372036854775807 < (c ++ vp).length + vq.length := by rw [List.length_append]; omega
        have l3 : ¬ 9223372036854775807 < (c ++ vp ++ vq).length + r.length := by rw [List.length_append, List.length_append]; omega
        generalize c ++ vp = c1 at y1 y2 y3 l2 l3 HC2
        generalize c1 ++ vq = c2 at y2 y3 l3 HC2
        generalize c2 ++ r = c3 at y3 HC2
        have HC3 : Hid (hdB ++ (vput (len : Int) ++ restB [] (ws.take ((n + 1) + 1))) = c3) := HC2
        have ST := Lib.hid (bsize t)
        have HP : Hid (∀ q, Calls Try.prog 27 #[.string ⟨b.toArray⟩, .string ⟨t.toArray⟩] (wr.drewN q) fun e w'' => e = .returned (.int .i64 (p : Int)) ∧ ∃ m, w'' = wr.drewN m) := Lib.hid (fun q => by
          have := Calls.quiet_of (rprefix_draws b t (wr.drewN q) (by omega) (by omega))
          rw [hp] at this
          exact this)
        have SB := Lib.hid (bsize b)
        clear hf hf2 hp hent hRS HC2 HRS HC hq
        have e1 : ((n + 1 : Nat) : Int) = (n : Int) + 1 := by omega
        have hw1 : IntKind.i64.wrap (n : Int) = (n : Int) := by rw [IntKind.wrap_i64]; omega
        have hw2 : IntKind.i64.wrap ((n : Int) + 1 - 1) = (n : Int) := by rw [IntKind.wrap_i64]; omega
        have hw3 : ((n : Int)).toNat = n := by omega
        have g1 : (0 : Int) ≤ (n : Int) := by omega
        have g3 : (n : Int) + 1 < (len : Int) := by omega
        have g4 : (n : Int) < (len : Int) := by omega
        have g5 : ((n : Int) + 1).toNat = n + 1 := by omega
        have g6 : (0 : Int) ≤ (n : Int) + 1 := by omega
        rw [e1]
        go_wp2_with fail
        go_quiet (with_reducible exact HP.out _)
        have c0 := cell_regrown (w := wr.drewN nq) hc
        have G1 := regrown_bk (w := wr.drewN nq) P1
        have G2 := regrown_bk (w := wr.drewN nq) P2
        have dq0 := below_drewS hbe nq
        have sq0 := dq0.size
        clear P1 P2 hbe hsz
        generalize wr.drewN nq = wq at c0 G1 G2 dq0 sq0 ⊢
        go_wp2_with fail
        refine wp_region_quiet_below hmx (by kernel_rfl) ?_
        repeat (go_big_quiet_step (first | with_reducible exact G1 _ _ | with_reducible exact G2 _ _))
        refine wpQuiet_nil ?_
        intro W6 hw6
        obtain ⟨⟨dq, osq⟩, rfl⟩ := hw6
        have b6 := below_regrown wq dq osq
        generalize Go.Sort.grow (redrawn wq dq) osq = w6 at b6 ⊢
        have d6 := dq0.trans (b6.mono sq0)
        clear b6 G1 G2
        go_wp2
        exact ⟨⟨n + 1 + 1, c3, by omega, by go_num, rfl, HC3, d6⟩, by simp [RowKit.intOf]; omega⟩
    · obtain rfl : k = len := by omega
      have HF : Hid (c = bookB ws) := Lib.hid (by rw [← HC.out, List.take_of_length_le (by omega), HA.out])
      go_wp2
      go_ret
      exact ⟨by rw [HF.out]; rfl, hbe⟩
end Go.Proofs.Ytoeakmpfkbmbcaa
