/-
  The law TrieTells: walked.
-/
import Derived.Test.YtigdlkoilamomaaTrA
import Derived.Test.YtigdlkoilamomaaTrY
import Derived.Deep.RegionWith
import Derived.Deep.LoopGhost
import Derived.Deep.CutRange
import Derived.Lib.QuietBelow
import Derived.Test.YtigdlkoilamomaaLexF
set_option linter.unusedSimpArgs false
set_option linter.unusedVariables false
namespace Go.Proofs.Ytigdlkoilamomaa
open Go.RowKit

set_option maxHeartbeats 1000000 in
theorem trtells_many (a : Option Addr) (len cap : Nat) (c : UInt8) (ws : List (List UInt8)) (w : World) (hlen : len ≤ 9223372036854775807) (hr : IsStrs w a len ws) (ht : ∀ t ∈ ws, t.length ≤ 9223372036854775807) (hq : fewB ws 12 20 = false) :
    Calls Try.prog 3 #[.slice a len cap, .int .u8 (c.toNat : Int)] w fun e w' => e = .returned (.bool true) ∧ Below w.heap.size w w' := by
  have HF := Lib.hid (few_noN a len cap ws w hlen hr ht _ hq)
  clear hr ht hq
  go_enter Try.func3, Try.ntmps3
  go_wp2_with fail
  refine HF.out.mono ?_
  rintro e w' ⟨rfl, rfl⟩
  go_wp2_with fail
  refine (trawake_any _).mono ?_
  rintro e w' ⟨rfl, hb⟩
  go_wp2
  go_ret
  exact ⟨rfl, hb⟩

/-- A text with one byte more, as a sum of two. -/
theorem plus_byte (s : List UInt8) (c : UInt8) : (⟨s.toArray⟩ : ByteArray) ++ (⟨#[c]⟩ : ByteArray) = ⟨(s ++ [c]).toArray⟩ := by
  apply ByteArray.ext
  simp
/-- One byte as a text. -/
theorem one_text (W : World) (X : Nat) (c : UInt8) (h : W.heap[X]? = some (.cells #[.int .u8 (c.toNat : Int)] 5 (0, 0))) : (convert 38 9 (.slice (some ⟨X, 0, none⟩) 1 1)).run Try.prog W = .ok (.string ⟨[c].toArray⟩) W := by
  refine run_convert_bytes_back W 38 9 5 _ _ [c] Try.underlying38 Try.underlying5 Try.underlying9 (fun j hj => ?_)
  have : j = 0 := by simp at hj; omega
  subst this
  rw [addPlain, Lib.cell_of_heap h]
  rfl

set_option maxRecDepth 100000 in
set_option maxHeartbeats 8000000 in
theorem trtells_few (a : Option Addr) (len cap : Nat) (c : UInt8) (ws : List (List UInt8)) (w : World) (hr : IsStrs w a len ws) (hq : fewB ws 12 20 = true) :
    Calls Try.prog 3 #[.slice a len cap, .int .u8 (c.toNat : Int)] w fun e w' => e = .returned (.bool true) ∧ Below w.heap.size w w' := by
  have hwl := hr.1
  have hfw := (few_iff ws 12 20).1 hq
  have hlen : len ≤ 12 := by omega
  have HF := Lib.hid (few_noN a len cap ws w (by omega) hr (fun t ht => by have := hfw.2 t ht; omega) _ hq)
  have HN := Lib.hid (ptnew_all a len cap ws w (by omega) hr (fun t ht => by have := hfw.2 t ht; omega))
  have HN2 := Lib.hid (fun (w2 : World) (hb : Below w.heap.size w w2) => rptnew_all a len cap ws w2 (by omega) (hr.below hb) (fun t ht => by have := hfw.2 t ht; omega))
  obtain ⟨hs1, hs2⟩ := few_setN hq
  have HA := Lib.hid (set_asc ws)
  have HTn := Lib.hid (fun (w2 : World) (p : Option Addr) (h : IsPats w2 p (setL ws)) => trnew_set h)
  generalize setL ws = us at *
  generalize faultL ws = f at HN HN2
  have htot := total_le hs2
  have HRs := Lib.hid (fun (w2 : World) (a2 : Option Addr) (cap2 : Nat) (h : IsStrs w2 a2 us.length us) => rstates_any a2 us.length cap2 us w2 (by omega) h HA.out (fun t ht => by have := hs2 t ht; omega) (by omega))
  have hul : us.length ≤ 12 := hs1
  have HUL := Lib.hid hs2
  have hmx : Try.prog.follows .mixedOrders = true := by kernel_rfl
  clear hr hq hfw hwl hs1 hs2
  go_enter Try.func3, Try.ntmps3
  go_wp2_with fail
  refine HF.out.mono ?_
  rintro e w' ⟨rfl, hw⟩
  obtain rfl := hw.symm
  clear HF hw
  go_wp2_with fail
  refine HN.out.mono ?_
  rintro e w1 ⟨p, rfl, hp, d1⟩
  have e1 := d1.size
  have HN3 := Lib.hid (HN2.out w1 d1)
  have HP1 := Lib.hid hp
  have HP0 := Lib.hid hp
  clear HN HN2 hp
  go_wp2_with fail
  refine HN3.out.mono ?_
  rintro e w2 ⟨a2, cap2, rfl, hstr, hb2⟩
  have d2 := d1.trans (hb2.mono e1)
  have e2 := d2.size
  have HB2 := Lib.hid (HTn.out w2 p (HP1.out.below hb2))
  have T2 := Lib.hid hstr
  clear HN3 hb2 d1 e1 hstr HP1 HTn
  go_wp2_with fail
  refine HB2.out.mono ?_
  rintro e w3 ⟨q, S, rfl, hT, hb3⟩
  have d3 := d2.trans (hb3.mono e2)
  have e3 := d3.size
  have T3 := Lib.hid (T2.out.below hb3)
  have HS3 := Lib.hid (HRs.out w3 a2 cap2 T3.out)
  have HT3 := Lib.hid hT
  have hSt := hT.st
  have hSf := hT.few
  clear HB2 HRs T2 hb3 hT d2 e2
  go_wp2_with fail
  refine HS3.out.mono ?_
  rintro e w4 ⟨S', a4, cap4, rfl, hst', hstr4, hb4⟩
  obtain rfl : S' = S := hst'.unique hSt
  have d4 := d3.trans (hb4.mono e3)
  have e4 := d4.size
  have HT4 := Lib.hid (HT3.out.below hb4)
  have T4 := Lib.hid (T3.out.below hb4)
  have HS4 := Lib.hid hstr4
  have HL4 := Lib.hid (ts_len HT4.out)
  have HSt := Lib.hid hSt
  have HNd := Lib.hid (slx_nodup hSt.1)
  have HNu := Lib.hid (pats_nodup HP0.out)
  clear HS3 HT3 T3 hb4 hstr4 hst' hSt d3 e3
  have hS2 : S'.length ≤ 241 := by omega
  go_wp2_with fail
  refine HL4.out.mono ?_
  rintro e w' ⟨rfl, hw⟩
  obtain rfl := hw.symm
  clear hw HL4
  go_wp2
  go_loopg [11] S'.length (fun gx x wr => ∃ k : Nat, k ≤ S'.length ∧ gx = S'.length - k ∧ x = .int .i64 k ∧ Below w4.heap.size w4 wr)
  case atStart => exact ⟨0, Nat.zero_le _, rfl, rfl, Below.refl _ _⟩
  case round =>
    obtain ⟨k, hk, rfl, rfl, hbe⟩ := hrel
    have hsz := hbe.size
    by_cases hlt : k < S'.length
    · obtain ⟨b, off, rfl, s, hf, hc⟩ := str_at HS4.out hbe k hlt
      have hTr := HT4.out.below hbe
      have HNx := Lib.hid (ts_next hTr k hf c)
      have hsl : s.length ≤ 20 := by
        rcases (HSt.out.2 s).1 (List.mem_of_getElem? hf) with rfl | hb
        · simp
        · obtain ⟨t, ht, hp⟩ := beg_iff.1 hb
          exact Nat.le_trans hp.length_le (HUL.out t ht)
      have HEn := Lib.hid (fun W (hW : Below wr.heap.size wr W) => ts_ends (hTr.below hW) HA.out k hf)
      have HPa := Lib.hid (fun W (hW : Below wr.heap.size wr W) => ts_path (hTr.below hW) HA.out k hf)
      have HDe := Lib.hid (fun W (hW : Below wr.heap.size wr W) => ts_depth (hTr.below hW) k hf)
      have HBy := Lib.hid (fun W (hW : Below wr.heap.size wr W) => ts_bytes (hTr.below hW) k hf)
      have HFd := Lib.hid (fun W (hW : Below wr.heap.size wr W) => rfind16_any (some ⟨b, off, none⟩) S'.length cap4 S' (s ++ [c]) W (by omega) ((HS4.out.below hbe).below hW))
      have HRb := Lib.hid (fun W (hW : Below wr.heap.size wr W) => rbytes_any (some ⟨b, off, none⟩) S'.length cap4 S' k s W (by omega) ((HS4.out.below hbe).below hW) hf (fun t ht => by
        rcases (HSt.out.2 t).1 ht with rfl | hb
        · simp
        · obtain ⟨u, hu, hp⟩ := beg_iff.1 hb
          have := hp.length_le
          have := HUL.out u hu
          omega))
      rw [up_kids HSt.out s] at HRb
      have HLf := Lib.hid (fun W (hW : Below wr.heap.size wr W) => rfind10_any a2 us.length cap2 us s W (by omega) ((T4.out.below hbe).below hW))
      generalize kidsL us s = K at HBy HRb
      have HZ := Lib.hid (bsize s)
      have q1 : (0 : Int) ≤ (k : Int) := by omega
      have q2 : (k : Int) < (S'.length : Int) := by omega
      clear hTr
      go_wp2_with fail
      refine HNx.out.mono ?_
      rintro e w5 ⟨⟨hn1, hn2⟩, hb5⟩
      have hc5 : w5.cell? ⟨b, off + k, none⟩ = some (.string ⟨s.toArray⟩) := (hb5.cell (p := ⟨b, off + k, none⟩) (World.block_lt_of_cell? wr _ hc)).trans hc
      have hb5l : b < w5.heap.size := World.block_lt_of_cell? w5 _ hc5
      have D5 := Lib.hid hb5
      have s5 := hb5.size
      have hcA : ∀ o, (w5.alloc o).cell? ⟨b, off + k, none⟩ = some (.string ⟨s.toArray⟩) := fun o => by rw [World.cell?_alloc_lt _ _ _ hb5l]; exact hc5
      have hcv : ∀ W X, W.heap[X]? = some (.cells #[.int .u8 (c.toNat : Int)] 5 (0, 0)) → (convert 38 9 (.slice (some ⟨X, 0, none⟩) 1 1)).run Try.prog W = .ok (.string ⟨[c].toArray⟩) W := fun W X h => one_text W X c h
      have hcv0 := hcv (w5.alloc (.cells #[.int .u8 (c.toNat : Int)] 5)) w5.heap.size (heap_alloc_new w5 _)
      have hcv1 := hcv (w5.drew.alloc (.cells #[.int .u8 (c.toNat : Int)] 5)) w5.heap.size (heap_alloc_new w5.drew _)
      have hcv2 := hcv (w5.alloc (.cells #[.int .u8 (c.toNat : Int)] 5)).drew w5.heap.size (heap_alloc_new w5 _)
      have hpl := plus_byte s c
      have hov : ¬ 9223372036854775807 < s.length + 1 := by omega
      clear hb5 HNx hc hcv
      obtain ⟨z, hz⟩ : ∃ z, ixL (s ++ [c]) S' = z := ⟨_, rfl⟩
      rw [hz] at HFd
      obtain ⟨x5, β5, rfl, HNF⟩ : ∃ (x : Int) (β : Bool), e = .returned (.tuple #[.int .i64 x, .bool β]) ∧ Hid ((β = true ∧ 0 ≤ z ∧ x = z) ∨ (β = false ∧ x = 0 ∧ z = -1)) := by
        by_cases hin : s ++ [c] ∈ S'
        · obtain ⟨n, he, hn⟩ := hn1 hin
          rw [ix_is HNd.out hn] at hz
          exact ⟨_, _, he, Lib.hid (.inl ⟨rfl, by omega, hz⟩)⟩
        · rw [ix_miss hin] at hz
          exact ⟨_, _, hn2 hin, Lib.hid (.inr ⟨rfl, rfl, hz.symm⟩)⟩
      have HF := Lib.hid hf
      clear hn1 hn2 hz hf
      go_upto_region 13 with fail
      go_cut [14] from 40 to 161 (fun y wx => y = .int .i64 z ∧ wx = (w5.alloc (.cells #[.int .u8 (c.toNat : Int)] 5)).drew)
      case first =>
        go_region_with (first
          | (go_at_call 14
             refine (HFd.out _ (by first | exact (D5.out.alloc s5 _).drew | exact D5.out.drew.alloc s5 _)).mono ?_
             rintro e w6 ⟨rfl, hw6⟩))
        all_goals
          go_wp2_with fail
          go_meet
          exact ⟨rfl, rfl⟩
      case rest =>
        obtain ⟨rfl, hwc⟩ := hcut
        have D6 : Hid (Below wr.heap.size wr wc) := Lib.hid (by
          rw [hwc]
          exact D5.out.trans ((((Below.refl w5.heap.size w5).alloc (Nat.le_refl _) (.cells #[.int .u8 (c.toNat : Int)] 5)).drew).mono s5))
        have HE6 := Lib.hid (HEn.out wc D6.out)
        clear hwc D5 s5 HEn HFd hcv0 hcv1 hcv2 hpl hov hcA hb5l HZ
        go_wp2_with fail
        refine HE6.out.mono ?_
        rintro e w7 ⟨⟨he1, he2⟩, hb7⟩
        have D7 := Lib.hid (D6.out.trans (hb7.mono D6.out.size))
        obtain ⟨y7, γ7, rfl, HEF⟩ : ∃ (y : Int) (γ : Bool), e = .returned (.tuple #[.int .i64 y, .bool γ]) ∧ Hid ((γ = true ∧ s ∈ us ∧ y = (frL us s : Int)) ∨ (γ = false ∧ s ∉ us ∧ y = 0)) := by
          by_cases hm : s ∈ us
          · exact ⟨_, _, he1 hm, Lib.hid (.inl ⟨rfl, hm, rfl⟩)⟩
          · exact ⟨_, _, he2 hm, Lib.hid (.inr ⟨rfl, hm, rfl⟩)⟩
        have P1 := trregrown (fun W hW => HPa.out W (D7.out.trans (hW.mono D7.out.size)))
        have P2 := trregrown (fun W hW => HDe.out W (D7.out.trans (hW.mono D7.out.size)))
        have P4 := trregrown (fun W hW => HBy.out W (D7.out.trans (hW.mono D7.out.size)))
        have P5 := trregrown (fun W hW => HRb.out W (D7.out.trans (hW.mono D7.out.size)))
        have hc7 : w7.cell? ⟨b, off + k, none⟩ = some (.string ⟨s.toArray⟩) := by
          obtain ⟨b', off', he', s', hs', hc'⟩ := str_at HS4.out (hbe.trans (D7.out.mono hsz)) k hlt
          cases he'
          obtain rfl : s' = s := Option.some.inj (hs'.symm.trans HF.out)
          exact hc'
        have x1 := cell_regrown hc7
        have hzz := bsize s
        clear he1 he2 hb7 HE6 HPa HDe HBy HRb D6 hc7 hc5
        rcases HEF.out with ⟨rfl, hm, rfl⟩ | ⟨rfl, hm, rfl⟩
        · have hat := ends_at HA.out hm
          have hlt7 := (List.getElem?_eq_some_iff.1 hat).1
          have HLf2 : Hid (∀ W, Below wr.heap.size wr W → Calls Try.prog 18 #[.slice a2 us.length cap2, .string ⟨s.toArray⟩] W fun e w' => e = .returned (.int .i64 ((frL us s : Nat) : Int)) ∧ Below W.heap.size W w') := Lib.hid (fun W hW => by
            have := HLf.out W hW
            rw [ix_is HNu.out hat] at this
            exact this.mono fun _ _ ⟨h1, h2⟩ => ⟨h1, by rw [h2]; exact Below.refl _ _⟩)
          obtain ⟨b2, off2, rfl, s2, hs2, hc2⟩ := str_at T4.out (hbe.trans (D7.out.mono hsz)) (frL us s) hlt7
          obtain rfl : s2 = s := Option.some.inj (hs2.symm.trans hat)
          have x2 := cell_regrown hc2
          generalize frL us s2 = m at *
          have r1 : (0 : Int) ≤ (m : Int) := by omega
          have r2 : ¬ (m : Int) < 0 := by omega
          have r3 : (m : Int) < (us.length : Int) := by omega
          have r4 : ¬ (us.length : Int) ≤ (m : Int) := by omega
          have r5 : decide ((0 : Int) ≤ (m : Int)) = true := decide_eq_true r1
          have r6 : decide ((m : Int) < 0) = false := decide_eq_false r2
          have r7 : decide ((us.length : Int) ≤ (m : Int)) = false := decide_eq_false r4
          have r8 : decide (us.length ≤ m) = false := decide_eq_false (by omega)
          have r9 : decide (m < us.length) = true := decide_eq_true (by omega)
          clear hat hs2 hc2 hm HLf HEF
          rcases HNF.out with ⟨rfl, hz0, rfl⟩ | ⟨rfl, rfl, rfl⟩
          · clear HNF
            have z1 : decide ((0 : Int) ≤ x5) = true := decide_eq_true hz0
            have P3 := trregrown (fun W hW => HLf2.out W (D7.out.trans (hW.mono D7.out.size)))
            go_wp2_with fail
            refine wp_region_quiet_fast hmx (by kernel_rfl) (by kernel_rfl) ?_
            simp only [List.append_eq, List.cons_append, List.nil_append]
            repeat (go_big_quiet_step (first | with_reducible exact P1 _ _ | with_reducible exact P2 _ _ | with_reducible exact P3 _ _ | with_reducible exact P4 _ _ | with_reducible exact P5 _ _))
            refine wpQuiet_nil ?_
            intro W8 hw8
            obtain ⟨⟨dq, osq⟩, rfl⟩ := hw8
            have b8 := below_regrown w7 dq osq
            generalize Go.Sort.grow (redrawn w7 dq) osq = w8 at b8 ⊢
            have D8 := Lib.hid (hbe.trans ((D7.out.trans (b8.mono D7.out.size)).mono hsz))
            clear b8 P1 P2 P3 P4 P5 D7 x1
            go_wp2
            go_roundg (S'.length - (k + 1))
            case measure => omega
            case rel => exact ⟨k + 1, by omega, rfl, by go_num, D8.out⟩
          · clear HNF
            have P3 := trregrown (fun W hW => HLf2.out W (D7.out.trans (hW.mono D7.out.size)))
            go_wp2_with fail
            refine wp_region_quiet_fast hmx (by kernel_rfl) (by kernel_rfl) ?_
            simp only [List.append_eq, List.cons_append, List.nil_append]
            repeat (go_big_quiet_step (first | with_reducible exact P1 _ _ | with_reducible exact P2 _ _ | with_reducible exact P3 _ _ | with_reducible exact P4 _ _ | with_reducible exact P5 _ _))
            refine wpQuiet_nil ?_
            intro W8 hw8
            obtain ⟨⟨dq, osq⟩, rfl⟩ := hw8
            have b8 := below_regrown w7 dq osq
            generalize Go.Sort.grow (redrawn w7 dq) osq = w8 at b8 ⊢
            have D8 := Lib.hid (hbe.trans ((D7.out.trans (b8.mono D7.out.size)).mono hsz))
            clear b8 P1 P2 P3 P4 P5 D7 x1
            go_wp2
            go_roundg (S'.length - (k + 1))
            case measure => omega
            case rel => exact ⟨k + 1, by omega, rfl, by go_num, D8.out⟩
        · have HLf2 : Hid (∀ W, Below wr.heap.size wr W → Calls Try.prog 18 #[.slice a2 us.length cap2, .string ⟨s.toArray⟩] W fun e w' => e = .returned (.int .i64 (-1)) ∧ Below W.heap.size W w') := Lib.hid (fun W hW => by
            have := HLf.out W hW
            rw [ix_miss hm] at this
            exact this.mono fun _ _ ⟨h1, h2⟩ => ⟨h1, by rw [h2]; exact Below.refl _ _⟩)
          clear hm HLf HEF
          rcases HNF.out with ⟨rfl, hz0, rfl⟩ | ⟨rfl, rfl, rfl⟩
          · clear HNF
            have z1 : decide ((0 : Int) ≤ x5) = true := decide_eq_true hz0
            have P3 := trregrown (fun W hW => HLf2.out W (D7.out.trans (hW.mono D7.out.size)))
            go_wp2_with fail
            refine wp_region_quiet_fast hmx (by kernel_rfl) (by kernel_rfl) ?_
            simp only [List.append_eq, List.cons_append, List.nil_append]
            repeat (go_big_quiet_step (first | with_reducible exact P1 _ _ | with_reducible exact P2 _ _ | with_reducible exact P3 _ _ | with_reducible exact P4 _ _ | with_reducible exact P5 _ _))
            refine wpQuiet_nil ?_
            intro W8 hw8
            obtain ⟨⟨dq, osq⟩, rfl⟩ := hw8
            have b8 := below_regrown w7 dq osq
            generalize Go.Sort.grow (redrawn w7 dq) osq = w8 at b8 ⊢
            have D8 := Lib.hid (hbe.trans ((D7.out.trans (b8.mono D7.out.size)).mono hsz))
            clear b8 P1 P2 P3 P4 P5 D7 x1
            go_wp2
            go_roundg (S'.length - (k + 1))
            case measure => omega
            case rel => exact ⟨k + 1, by omega, rfl, by go_num, D8.out⟩
          · clear HNF
            have P3 := trregrown (fun W hW => HLf2.out W (D7.out.trans (hW.mono D7.out.size)))
            go_wp2_with fail
            refine wp_region_quiet_fast hmx (by kernel_rfl) (by kernel_rfl) ?_
            simp only [List.append_eq, List.cons_append, List.nil_append]
            repeat (go_big_quiet_step (first | with_reducible exact P1 _ _ | with_reducible exact P2 _ _ | with_reducible exact P3 _ _ | with_reducible exact P4 _ _ | with_reducible exact P5 _ _))
            refine wpQuiet_nil ?_
            intro W8 hw8
            obtain ⟨⟨dq, osq⟩, rfl⟩ := hw8
            have b8 := below_regrown w7 dq osq
            generalize Go.Sort.grow (redrawn w7 dq) osq = w8 at b8 ⊢
            have D8 := Lib.hid (hbe.trans ((D7.out.trans (b8.mono D7.out.size)).mono hsz))
            clear b8 P1 P2 P3 P4 P5 D7 x1
            go_wp2
            go_roundg (S'.length - (k + 1))
            case measure => omega
            case rel => exact ⟨k + 1, by omega, rfl, by go_num, D8.out⟩
    · have hkk : k = S'.length := by omega
      have q2 : ¬ (k : Int) < (S'.length : Int) := by omega
      have d9 := Lib.hid (d4.trans (hbe.mono e4))
      clear hkk
      go_wp2_with fail
      refine (trawake_any _).mono ?_
      rintro e w9 ⟨rfl, hb9⟩
      have dA := Lib.hid (d9.out.trans (hb9.mono d9.out.size))
      go_wp2
      go_ret
      exact ⟨rfl, dA.out⟩
end Go.Proofs.Ytigdlkoilamomaa
