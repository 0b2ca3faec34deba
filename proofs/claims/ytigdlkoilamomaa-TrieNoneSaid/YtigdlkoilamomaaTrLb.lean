/-
  The law TrieNone: walked.
-/
import Derived.Test.YtigdlkoilamomaaTrA
set_option linter.unusedSimpArgs false
set_option linter.unusedVariables false
namespace Go.Proofs.Ytigdlkoilamomaa
open Go.RowKit

set_option maxRecDepth 100000 in
set_option maxHeartbeats 2000000 in
theorem trnothing_any {w : World} {q p : Option Addr} {R : List Rc} (h : HasTr w q p R) (s : Int) (hs : s < 0 ∨ (R.length : Int) ≤ s) (c : UInt8) :
    Calls Try.prog 22 #[.pointer q, .int .i64 s, .int .u8 (c.toNat : Int)] w fun e w' => e = .returned (.bool true) ∧ Below w.heap.size w w' := by
  have H1 := Lib.hid (trnext_out h s (by omega) c)
  have H2 := Lib.hid (fun W (hW : Below w.heap.size w W) => trabove_any (h.below hW) s)
  have H3 := Lib.hid (fun W (hW : Below w.heap.size w W) => trends_out (h.below hW) s hs)
  have H4 := Lib.hid (fun W (hW : Below w.heap.size w W) => trdepth_any (h.below hW) s)
  have H5 := Lib.hid (fun W (hW : Below w.heap.size w W) => trpath_out (h.below hW) s hs)
  have H6 := Lib.hid (fun W (hW : Below w.heap.size w W) => trbytes_out (h.below hW) s (by omega))
  rw [rcOf_out hs] at H2 H4
  have e1 : rcZ.above = 0 := rfl
  have e2 : rcZ.last.toNat = 0 := rfl
  have e3 : rcZ.depth = 0 := rfl
  rw [e1, e2, e3] at H2
  rw [e3] at H4
  clear h hs e1 e2 e3
  go_enter Try.func22, Try.ntmps22
  go_wp2_with fail
  refine H1.out.mono ?_
  rintro e w1 ⟨rfl, d1⟩
  have K2 := Lib.hid (H2.out w1 d1)
  clear H1 H2
  go_wp2_with fail
  refine K2.out.mono ?_
  rintro e w2 ⟨rfl, hb2⟩
  have d2 := d1.trans (hb2.mono d1.size)
  have K3 := Lib.hid (H3.out w2 d2)
  clear K2 H3 hb2 d1
  go_wp2_with fail
  refine K3.out.mono ?_
  rintro e w' ⟨rfl, hw⟩
  obtain rfl := hw.symm
  clear hw K3
  have K4 := Lib.hid (H4.out w2 d2)
  clear H4
  go_wp2_with fail
  refine K4.out.mono ?_
  rintro e w4 ⟨rfl, hb4⟩
  have d4 := d2.trans (hb4.mono d2.size)
  have K5 := Lib.hid (H5.out w4 d4)
  clear K4 H5 hb4 d2
  go_wp2_with fail
  refine K5.out.mono ?_
  rintro e w' ⟨rfl, hw⟩
  obtain rfl := hw.symm
  clear hw K5
  have K6 := Lib.hid (H6.out w4 d4)
  clear H6
  go_wp2_with fail
  refine K6.out.mono ?_
  rintro e w6 ⟨rfl, hb6⟩
  have d6 := d4.trans (hb6.mono d4.size)
  clear K6 hb6 d4
  go_wp2
  go_ret
  exact ⟨rfl, d6⟩

set_option maxHeartbeats 1000000 in
theorem trnone_many (a : Option Addr) (len cap : Nat) (s : Int) (c : UInt8) (t : List UInt8) (ws : List (List UInt8)) (w : World) (hlen : len ≤ 9223372036854775807) (hr : IsStrs w a len ws) (ht : ∀ t ∈ ws, t.length ≤ 9223372036854775807) (hq : fewB ws 12 20 = false) :
    Calls Try.prog 4 #[.slice a len cap, .int .i64 s, .int .u8 (c.toNat : Int), .string ⟨t.toArray⟩] w fun e w' => e = .returned (.bool true) ∧ Below w.heap.size w w' := by
  have HF := Lib.hid (few_noN a len cap ws w hlen hr ht _ hq)
  clear hr ht hq
  go_enter Try.func4, Try.ntmps4
  go_wp2_with fail
  refine HF.out.mono ?_
  rintro e w' ⟨rfl, rfl⟩
  go_wp2_with fail
  refine (trawake_any _).mono ?_
  rintro e w' ⟨rfl, hb⟩
  go_wp2
  go_ret
  exact ⟨rfl, hb⟩
set_option maxHeartbeats 1000000 in
theorem trnone_long (a : Option Addr) (len cap : Nat) (s : Int) (c : UInt8) (t : List UInt8) (ws : List (List UInt8)) (w : World) (hlen : len ≤ 9223372036854775807) (hr : IsStrs w a len ws) (ht : ∀ t ∈ ws, t.length ≤ 9223372036854775807) (hq : fewB ws 12 20 = true) (hs : 50 < t.length) :
    Calls Try.prog 4 #[.slice a len cap, .int .i64 s, .int .u8 (c.toNat : Int), .string ⟨t.toArray⟩] w fun e w' => e = .returned (.bool true) ∧ Below w.heap.size w w' := by
  have HF := Lib.hid (few_noN a len cap ws w hlen hr ht _ hq)
  have S1 := Lib.hid (bsize t)
  have g1 : (50 : Int) < (t.length : Int) := by omega
  have g2 : decide ((50 : Int) < (t.length : Int)) = true := decide_eq_true g1
  clear hr ht hq
  go_enter Try.func4, Try.ntmps4
  go_wp2_with fail
  refine HF.out.mono ?_
  rintro e w' ⟨rfl, rfl⟩
  go_wp2_with fail
  refine (trawake_any _).mono ?_
  rintro e w' ⟨rfl, hb⟩
  go_wp2
  go_ret
  exact ⟨rfl, hb⟩

set_option maxRecDepth 100000 in
set_option maxHeartbeats 8000000 in
theorem trnone_few (a : Option Addr) (len cap : Nat) (s : Int) (c : UInt8) (t : List UInt8) (ws : List (List UInt8)) (w : World) (hr : IsStrs w a len ws) (hq : fewB ws 12 20 = true) (hs : t.length ≤ 50) :
    Calls Try.prog 4 #[.slice a len cap, .int .i64 s, .int .u8 (c.toNat : Int), .string ⟨t.toArray⟩] w fun e w' => e = .returned (.bool true) ∧ Below w.heap.size w w' := by
  have hwl := hr.1
  have hfw := (few_iff ws 12 20).1 hq
  have hlen : len ≤ 12 := by omega
  have HF := Lib.hid (few_noN a len cap ws w (by omega) hr (fun t ht => by have := hfw.2 t ht; omega) _ hq)
  have HN := Lib.hid (ptnew_all a len cap ws w (by omega) hr (fun t ht => by have := hfw.2 t ht; omega))
  have HN2 := Lib.hid (fun (w2 : World) (hb : Below w.heap.size w w2) => rptnew_all a len cap ws w2 (by omega) (hr.below hb) (fun t ht => by have := hfw.2 t ht; omega))
  obtain ⟨hs1, hs2⟩ := few_setN hq
  have HA := Lib.hid (set_asc ws)
  have HTn := Lib.hid (fun (w2 : World) (p : Option Addr) (h : IsPats w2 p (setL ws)) => trnew_set h)
  generalize setL ws = us at *
  generalize faultL ws = f at HN HN2
  have htot := total_le hs2
  have HRs := Lib.hid (fun (w2 : World) (a2 : Option Addr) (cap2 : Nat) (h : IsStrs w2 a2 us.length us) => rstates_any a2 us.length cap2 us w2 (by omega) h HA.out (fun t ht => by have := hs2 t ht; omega) (by omega))
  have hul : us.length ≤ 12 := hs1
  have HUL := Lib.hid hs2
  have S1 := Lib.hid (bsize t)
  have g1 : ¬ (50 : Int) < (t.length : Int) := by omega
  have g2 : decide ((50 : Int) < (t.length : Int)) = false := decide_eq_false g1
  clear hr hq hfw hwl hs1 hs2
  go_enter Try.func4, Try.ntmps4
  go_wp2_with fail
  refine HF.out.mono ?_
  rintro e w' ⟨rfl, hw⟩
  obtain rfl := hw.symm
  clear HF hw
  go_wp2_with fail
  refine HN.out.mono ?_
  rintro e w1 ⟨p, rfl, hp, d1⟩
  have e1 := d1.size
  have HN3 := Lib.hid (HN2.out w1 d1)
  have HP1 := Lib.hid hp
  clear HN HN2 hp
  go_wp2_with fail
  refine HN3.out.mono ?_
  rintro e w2 ⟨a2, cap2, rfl, hstr, hb2⟩
  have d2 := d1.trans (hb2.mono e1)
  have e2 := d2.size
  have HB2 := Lib.hid (HTn.out w2 p (HP1.out.below hb2))
  have T2 := Lib.hid hstr
  clear HN3 hb2 d1 e1 hstr HP1 HTn
  go_wp2_with fail
  refine HB2.out.mono ?_
  rintro e w3 ⟨q, S, rfl, hT, hb3⟩
  have d3 := d2.trans (hb3.mono e2)
  have e3 := d3.size
  have T3 := Lib.hid (T2.out.below hb3)
  have HS3 := Lib.hid (HRs.out w3 a2 cap2 T3.out)
  have HT3 := Lib.hid hT
  have hSt := hT.st
  have hSf := hT.few
  clear HB2 HRs T2 hb3 hT d2 e2
  go_wp2_with fail
  refine HS3.out.mono ?_
  rintro e w4 ⟨S', a4, cap4, rfl, hst', hstr4, hb4⟩
  obtain rfl : S' = S := hst'.unique hSt
  have d4 := d3.trans (hb4.mono e3)
  have e4 := d4.size
  have HT4 := Lib.hid (HT3.out.below hb4)
  have T4 := Lib.hid (T3.out.below hb4)
  have HS4 := Lib.hid hstr4
  have HSt := Lib.hid hSt
  have HNd := Lib.hid (slx_nodup hSt.1)
  clear HS3 HT3 T3 hb4 hstr4 hst' hSt d3 e3
  have hS2 : S'.length ≤ 241 := by omega
  have HFn := Lib.hid (ts_find HT4.out t (by omega))
  have HFd := Lib.hid (fun W (hW : Below w4.heap.size w4 W) => rfind16_any a4 S'.length cap4 S' t W (by omega) (HS4.out.below hW))
  have HR : Hid (∀ W, Below w4.heap.size w4 W → ∃ R, HasTr W q p R ∧ R.length = S'.length) := Lib.hid fun W hW => by
    obtain ⟨R, x1, x2, _, _⟩ := HT4.out.below hW
    exact ⟨R, x1, x2.1⟩
  have HZ0 : Hid (s < 0 ∨ ((0 : Nat) : Int) ≤ s) := Lib.hid (by omega)
  have hR : ((0 : Int) ≤ s ∧ s < (S'.length : Int)) ∨ (s < 0 ∨ (S'.length : Int) ≤ s) := by omega
  go_wp2_with fail
  refine HFn.out.mono ?_
  rintro e w5 ⟨⟨hn1, hn2⟩, hb5⟩
  have d5 := Lib.hid (d4.trans (hb5.mono e4))
  have HF5 := Lib.hid (HFd.out w5 hb5)
  obtain ⟨R, hT5, hRl⟩ := HR.out w5 hb5
  have HT5 := Lib.hid hT5
  have HRl := Lib.hid hRl
  clear HFn HFd HR hb5 hT5 hRl d4 e4 HT4 T4 HS4
  by_cases hin : t ∈ S'
  · obtain ⟨n, rfl, hn⟩ := hn1 hin
    rw [ix_is HNd.out hn] at HF5
    clear hn1 hn2 hin hn
    go_wp2_with fail
    refine HF5.out.mono ?_
    rintro e w' ⟨rfl, hw⟩
    obtain rfl := hw.symm
    clear hw HF5
    rcases hR with hin | hout
    · have gI : (0 : Int) ≤ s ∧ s < (S'.length : Int) := hin
      obtain ⟨gI1, gI2⟩ := gI
      go_wp2_with fail
      refine (trfind_none t w5).mono ?_
      rintro e w' ⟨rfl, hw⟩
      obtain rfl := hw.symm
      clear hw
      go_wp2_with fail
      refine (trlen_any (.inl ⟨rfl, rfl⟩ : HasTr w5 none none [])).mono ?_
      rintro e w' ⟨rfl, hw⟩
      obtain rfl := hw.symm
      clear hw
      go_wp2_with fail
      refine (trnothing_any (.inl ⟨rfl, rfl⟩ : HasTr w5 none none []) s HZ0.out c).mono ?_
      rintro e w6 ⟨rfl, hb6⟩
      have d6 := Lib.hid (d5.out.trans (hb6.mono d5.out.size))
      clear hb6
      go_wp2_with fail
      refine (trawake_any w6).mono ?_
      rintro e w7 ⟨rfl, hb7⟩
      have d7 := Lib.hid (d6.out.trans (hb7.mono d6.out.size))
      go_wp2
      go_ret
      exact ⟨rfl, d7.out⟩
    · have HNo := Lib.hid (fun W (hW : Below w5.heap.size w5 W) => trnothing_any (HT5.out.below hW) s (by rw [HRl.out]; exact hout) c)
      go_wp2_with fail
      refine (trfind_none t w5).mono ?_
      rintro e w' ⟨rfl, hw⟩
      obtain rfl := hw.symm
      clear hw
      go_wp2_with fail
      refine (trlen_any (.inl ⟨rfl, rfl⟩ : HasTr w5 none none [])).mono ?_
      rintro e w' ⟨rfl, hw⟩
      obtain rfl := hw.symm
      clear hw
      go_wp2_with fail
      refine (trnothing_any (.inl ⟨rfl, rfl⟩ : HasTr w5 none none []) s HZ0.out c).mono ?_
      rintro e w6 ⟨rfl, hb6⟩
      have d6 := Lib.hid (d5.out.trans (hb6.mono d5.out.size))
      have HN6 := Lib.hid (HNo.out w6 hb6)
      clear hb6 HNo
      rcases hout with hneg | hbig
      · have gI : ¬ (0 : Int) ≤ s := by omega
        go_wp2_with fail
        refine HN6.out.mono ?_
        rintro e w7 ⟨rfl, hb7⟩
        have d7 := Lib.hid (d6.out.trans (hb7.mono d6.out.size))
        clear hb7 HN6
        go_wp2_with fail
        refine (trawake_any w7).mono ?_
        rintro e w8 ⟨rfl, hb8⟩
        have d8 := Lib.hid (d7.out.trans (hb8.mono d7.out.size))
        go_wp2
        go_ret
        exact ⟨rfl, d8.out⟩
      · by_cases hneg : (0 : Int) ≤ s
        · have gI : ¬ s < (S'.length : Int) := by omega
          go_wp2_with fail
          refine HN6.out.mono ?_
          rintro e w7 ⟨rfl, hb7⟩
          have d7 := Lib.hid (d6.out.trans (hb7.mono d6.out.size))
          clear hb7 HN6
          go_wp2_with fail
          refine (trawake_any w7).mono ?_
          rintro e w8 ⟨rfl, hb8⟩
          have d8 := Lib.hid (d7.out.trans (hb8.mono d7.out.size))
          go_wp2
          go_ret
          exact ⟨rfl, d8.out⟩
        · omega
  · obtain rfl := hn2 hin
    rw [ix_miss hin] at HF5
    clear hn1 hn2 hin
    go_wp2_with fail
    refine HF5.out.mono ?_
    rintro e w' ⟨rfl, hw⟩
    obtain rfl := hw.symm
    clear hw HF5
    rcases hR with hin | hout
    · have gI : (0 : Int) ≤ s ∧ s < (S'.length : Int) := hin
      obtain ⟨gI1, gI2⟩ := gI
      go_wp2_with fail
      refine (trfind_none t w5).mono ?_
      rintro e w' ⟨rfl, hw⟩
      obtain rfl := hw.symm
      clear hw
      go_wp2_with fail
      refine (trlen_any (.inl ⟨rfl, rfl⟩ : HasTr w5 none none [])).mono ?_
      rintro e w' ⟨rfl, hw⟩
      obtain rfl := hw.symm
      clear hw
      go_wp2_with fail
      refine (trnothing_any (.inl ⟨rfl, rfl⟩ : HasTr w5 none none []) s HZ0.out c).mono ?_
      rintro e w6 ⟨rfl, hb6⟩
      have d6 := Lib.hid (d5.out.trans (hb6.mono d5.out.size))
      clear hb6
      go_wp2_with fail
      refine (trawake_any w6).mono ?_
      rintro e w7 ⟨rfl, hb7⟩
      have d7 := Lib.hid (d6.out.trans (hb7.mono d6.out.size))
      go_wp2
      go_ret
      exact ⟨rfl, d7.out⟩
    · have HNo := Lib.hid (fun W (hW : Below w5.heap.size w5 W) => trnothing_any (HT5.out.below hW) s (by rw [HRl.out]; exact hout) c)
      go_wp2_with fail
      refine (trfind_none t w5).mono ?_
      rintro e w' ⟨rfl, hw⟩
      obtain rfl := hw.symm
      clear hw
      go_wp2_with fail
      refine (trlen_any (.inl ⟨rfl, rfl⟩ : HasTr w5 none none [])).mono ?_
      rintro e w' ⟨rfl, hw⟩
      obtain rfl := hw.symm
      clear hw
      go_wp2_with fail
      refine (trnothing_any (.inl ⟨rfl, rfl⟩ : HasTr w5 none none []) s HZ0.out c).mono ?_
      rintro e w6 ⟨rfl, hb6⟩
      have d6 := Lib.hid (d5.out.trans (hb6.mono d5.out.size))
      have HN6 := Lib.hid (HNo.out w6 hb6)
      clear hb6 HNo
      rcases hout with hneg | hbig
      · have gI : ¬ (0 : Int) ≤ s := by omega
        go_wp2_with fail
        refine HN6.out.mono ?_
        rintro e w7 ⟨rfl, hb7⟩
        have d7 := Lib.hid (d6.out.trans (hb7.mono d6.out.size))
        clear hb7 HN6
        go_wp2_with fail
        refine (trawake_any w7).mono ?_
        rintro e w8 ⟨rfl, hb8⟩
        have d8 := Lib.hid (d7.out.trans (hb8.mono d7.out.size))
        go_wp2
        go_ret
        exact ⟨rfl, d8.out⟩
      · by_cases hneg : (0 : Int) ≤ s
        · have gI : ¬ s < (S'.length : Int) := by omega
          go_wp2_with fail
          refine HN6.out.mono ?_
          rintro e w7 ⟨rfl, hb7⟩
          have d7 := Lib.hid (d6.out.trans (hb7.mono d6.out.size))
          clear hb7 HN6
          go_wp2_with fail
          refine (trawake_any w7).mono ?_
          rintro e w8 ⟨rfl, hb8⟩
          have d8 := Lib.hid (d7.out.trans (hb8.mono d7.out.size))
          go_wp2
          go_ret
          exact ⟨rfl, d8.out⟩
        · omega
end Go.Proofs.Ytigdlkoilamomaa
