/-
  The law LeapHolds: walked.
-/
import Derived.Test.YtmgcdhcidojdhaaGreatLpX
import Derived.Test.YtmgcdhcidojdhaaGreatLpH
import Derived.Test.YtmgcdhcidojdhaaGreatBn20
set_option linter.unusedSimpArgs false
set_option linter.unusedVariables false
namespace Go.Proofs.YtmgcdhcidojdhaaGreat
open Go.RowKit

/-- The records from one on: what they cover is what stands behind. -/
theorem Cover.drop {us : List (List UInt8)} {s : List UInt8} {skip : Bool} : ∀ {a : Nat} {l : List EvR}, Cover us s skip a l → ∀ j, Cover us s skip (a + ((l.take j).map covN).sum) (l.drop j)
  | a, l, h, 0 => by simpa using h
  | a, [], h, j + 1 => by simpa using h
  | a, R :: l, ⟨h1, h2, h3, h4⟩, j + 1 => by
    have := h4.drop j
    rw [List.take_succ_cons, List.drop_succ_cons, List.map_cons, List.sum_cons, ← Nat.add_assoc]
    exact this
theorem Cover.at {us : List (List UInt8)} {s : List UInt8} {skip : Bool} {rs : List Rc} (h : Cover us s skip 0 (evs rs)) {j : Nat} {x : Rc} (hx : rs[j]? = some x) : covS rs j < s.length ∧ OkE us s skip (covS rs j + 1) x.R ∧ covS rs j + covN x.R ≤ s.length := by
  have hd := h.drop j
  have hj : j < (evs rs).length := by
    rw [evs_length]
    exact (List.getElem?_eq_some_iff.1 hx).1
  rw [List.drop_eq_getElem_cons hj] at hd
  have he : (evs rs)[j] = x.R := by
    have := evs_at hx
    rw [List.getElem?_eq_getElem hj] at this
    exact Option.some.inj this
  rw [he, Nat.zero_add] at hd
  exact ⟨hd.1, hd.2.1, hd.2.2.1⟩
theorem Cover.end {us : List (List UInt8)} {s : List UInt8} {skip : Bool} {rs : List Rc} (h : Cover us s skip 0 (evs rs)) : covS rs rs.length = s.length := by
  have hd := h.drop rs.length
  rw [List.drop_of_length_le (by rw [evs_length]; exact Nat.le_refl _), Nat.zero_add] at hd
  exact hd

/-- Evidence for fewer ends holds, too. -/
theorem rholds_ok (a : Option Addr) (len cap : Nat) (us : List (List UInt8)) (s : List UInt8) (e : Nat) (w : World) (hlen : len ≤ 1000000) (hr : IsStrs w a len us) (hu : ∀ t ∈ us, 0 < t.length ∧ t.length ≤ 65535) (hs : s.length ≤ 1000000) (he : 0 < e) (hes : e ≤ s.length) (skip : Bool) (R : EvR) (hR : OkE us s skip e R) (aa : Option Addr) (cc : Nat)
    (hrow : IsRow .i64 w aa R.ids.length R.ids.length R.ids) :
    Calls Tryz.prog 15 #[.slice a len cap, .string ⟨s.toArray⟩, .int .i64 (e : Int), .agg #[.int .i64 (R.k : Int), .int .i64 (R.n : Int), .int .i64 (R.r : Int), .slice aa R.ids.length cc]] w fun E w' => E = .returned (.bool true) ∧ Below w.heap.size w w' := by
  rcases hR with rfl | ⟨hk, n, hn, hnn, rfl⟩
  · exact rholds_of a len cap us s e w hlen hr hu hs he hes skip _ rfl aa cc hrow
  · rcases of_cases us s e skip with ⟨_, h, h1⟩ | ⟨_, h, h1⟩ | ⟨h0, h, h1⟩ | h1
    · rw [h1] at hrow hnn ⊢
      have h2 : 2 ≤ e := by
        rcases Nat.lt_or_ge e 2 with h' | h'
        · unfold twoN at h; rw [if_neg (by omega)] at h; omega
        · exact h'
      have h3 : twoN us s e = nearL us (prS s e) := if_pos h2
      have h4 := two_le us s e
      dsimp only at hnn
      exact rholds_leap a len cap us s e w hlen hr hu hs he hes aa cc n 1 h2 hn (by omega) (by omega)
    · rw [h1] at hrow hnn ⊢
      have h4 := fst_le us (byN s (e - 1))
      dsimp only at hnn
      exact rholds_skip a len cap us s e w hlen hr hu hs he hes aa cc n 1 hn (by omega) (by omega)
    · rw [h1] at hk
      simp at hk
    · rw [h1] at hk
      simp at hk

set_option maxRecDepth 100000 in
set_option maxHeartbeats 1000000 in
theorem lpholds_many (a : Option Addr) (len cap : Nat) (pa : Option Addr) (plen pcap : Nat) (skip : Bool) (ws : List (List UInt8)) (w : World) (hlen : len ≤ 9223372036854775807) (hr : IsStrs w a len ws) (ht : ∀ t ∈ ws, t.length ≤ 9223372036854775807) (hq : fewB ws 8 12 = false) :
    Calls Tryz.prog 4 #[.slice a len cap, .slice pa plen pcap, .bool skip] w fun e w' => e = .returned (.bool true) ∧ Below w.heap.size w w' := by
  have HF := Lib.hid (few_no8 a len cap ws w hlen hr ht _ hq)
  clear hr ht hq
  go_enter Tryz.func4, Tryz.ntmps4
  go_wp2_with fail
  refine HF.out.mono ?_
  rintro E w' ⟨rfl, hw⟩
  obtain rfl := hw.symm
  clear hw
  go_wp2_with fail
  refine (lpawake_any _).mono ?_
  rintro E w' ⟨rfl, hb⟩
  go_wp2
  go_ret
  exact ⟨rfl, hb⟩
set_option maxRecDepth 100000 in
set_option maxHeartbeats 1000000 in
theorem lpholds_long (a : Option Addr) (len cap : Nat) (pa : Option Addr) (plen pcap : Nat) (skip : Bool) (ws ps : List (List UInt8)) (w : World) (hlen : len ≤ 9223372036854775807) (hr : IsStrs w a len ws) (ht : ∀ t ∈ ws, t.length ≤ 9223372036854775807) (hq : fewB ws 8 12 = true)
    (hplen : plen ≤ 9223372036854775807) (hp : IsStrs w pa plen ps) (hpt : ∀ t ∈ ps, t.length ≤ 9223372036854775807) (hpq : fewB ps 10 20 = false) :
    Calls Tryz.prog 4 #[.slice a len cap, .slice pa plen pcap, .bool skip] w fun e w' => e = .returned (.bool true) ∧ Below w.heap.size w w' := by
  have HF := Lib.hid (few_no8 a len cap ws w hlen hr ht _ hq)
  have HF2 := Lib.hid (few_no10 pa plen pcap ps w hplen hp hpt _ hpq)
  clear hr ht hq hp hpt hpq
  go_enter Tryz.func4, Tryz.ntmps4
  go_wp2_with fail
  refine HF.out.mono ?_
  rintro E w' ⟨rfl, hw⟩
  obtain rfl := hw.symm
  clear hw
  go_wp2_with fail
  refine HF2.out.mono ?_
  rintro E w' ⟨rfl, hw⟩
  obtain rfl := hw.symm
  clear hw
  go_wp2_with fail
  refine (lpawake_any _).mono ?_
  rintro E w' ⟨rfl, hb⟩
  go_wp2
  go_ret
  exact ⟨rfl, hb⟩
set_option maxRecDepth 100000 in
set_option maxHeartbeats 1000000 in
theorem lpholds_bad (a : Option Addr) (len cap : Nat) (pa : Option Addr) (plen pcap : Nat) (skip : Bool) (ws ps : List (List UInt8)) (w : World) (hr : IsStrs w a len ws) (hq : fewB ws 8 12 = true)
    (hp : IsStrs w pa plen ps) (hpq : fewB ps 10 20 = true) (hf : ¬ faultL ws = 0) :
    Calls Tryz.prog 4 #[.slice a len cap, .slice pa plen pcap, .bool skip] w fun e w' => e = .returned (.bool true) ∧ Below w.heap.size w w' := by
  have hwl := hr.1
  have hpl := hp.1
  have hfw := (few_iff ws 8 12).1 hq
  have hfp := (few_iff ps 10 20).1 hpq
  have HF := Lib.hid (few_no8 a len cap ws w (by omega) hr (fun t ht => by have := hfw.2 t ht; omega) _ hq)
  have HF2 := Lib.hid (few_no10 pa plen pcap ps w (by omega) hp (fun t ht => by have := hfp.2 t ht; omega) _ hpq)
  have HN := Lib.hid (ptnew_all a len cap ws w (by omega) hr (fun t ht => by have := hfw.2 t ht; omega))
  have HRN := Lib.hid (fun (W : World) (hW : Below w.heap.size w W) => rptnew_all a len cap ws W (by omega) (hr.below hW) (fun t ht => by have := hfw.2 t ht; omega))
  rw [set_bad hf] at HN HRN
  generalize faultL ws = f at HN HRN hf
  have g1 : ((f : Int) != 0) = true := by simpa using hf
  clear hr hq hp hpq hfw hfp hwl hpl hf
  go_enter Tryz.func4, Tryz.ntmps4
  go_wp2_with fail
  refine HF.out.mono ?_
  rintro E w' ⟨rfl, hw⟩
  obtain rfl := hw.symm
  clear HF hw
  go_wp2_with fail
  refine HF2.out.mono ?_
  rintro E w' ⟨rfl, hw⟩
  obtain rfl := hw.symm
  clear HF2 hw
  go_wp2_with fail
  refine HN.out.mono ?_
  rintro E w1 ⟨p, rfl, _, d1⟩
  have R1 := Lib.hid (HRN.out w1 d1)
  clear HN HRN
  go_wp2_with fail
  refine R1.out.mono ?_
  rintro E w2 ⟨ra, rc, rfl, _, hb2⟩
  have d2 := d1.trans (hb2.mono d1.size)
  clear R1 hb2 d1
  go_wp2_with fail
  refine (lpawake_any _).mono ?_
  rintro E w4 ⟨rfl, hb4⟩
  have d4 := d2.trans (hb4.mono d2.size)
  go_wp2
  go_ret
  exact ⟨rfl, d4⟩

set_option maxRecDepth 100000 in
set_option maxHeartbeats 4000000 in
theorem lpholds_good (a : Option Addr) (len cap : Nat) (pa : Option Addr) (plen pcap : Nat) (skip : Bool) (ws ps : List (List UInt8)) (w : World) (hr : IsStrs w a len ws) (hq : fewB ws 8 12 = true)
    (hp : IsStrs w pa plen ps) (hpq : fewB ps 10 20 = true) (hf : faultL ws = 0) :
    Calls Tryz.prog 4 #[.slice a len cap, .slice pa plen pcap, .bool skip] w fun e w' => e = .returned (.bool true) ∧ Below w.heap.size w w' := by
  have hwl := hr.1
  have hpl := hp.1
  have hfw := (few_iff ws 8 12).1 hq
  have hfp := (few_iff ps 10 20).1 hpq
  have hplen : plen ≤ 10 := by omega
  have HF := Lib.hid (few_no8 a len cap ws w (by omega) hr (fun t ht => by have := hfw.2 t ht; omega) _ hq)
  have HF2 := Lib.hid (few_no10 pa plen pcap ps w (by omega) hp (fun t ht => by have := hfp.2 t ht; omega) _ hpq)
  have HN := Lib.hid (ptnew_all a len cap ws w (by omega) hr (fun t ht => by have := hfw.2 t ht; omega))
  have HRN := Lib.hid (fun (W : World) (hW : Below w.heap.size w W) => rptnew_all a len cap ws W (by omega) (hr.below hW) (fun t ht => by have := hfw.2 t ht; omega))
  obtain ⟨hs1, hs2⟩ := few_setN hq
  have hpats : Pats (setL ws) := by rw [set_good hf]; exact ((fault_zero ws).1 hf).srt
  have hus : ∀ t ∈ setL ws, 0 < t.length ∧ t.length ≤ 12 := fun t h => ⟨(set_mem h).2.1, hs2 t h⟩
  rw [hf] at HN HRN
  generalize setL ws = us at *
  have HPT := Lib.hid hpats
  have hulp : 0 < us.length := hpats.some
  have HU := Lib.hid hus
  have HP := Lib.hid hp
  have HT := Lib.hid hfp.2
  have hul : us.length ≤ 8 := hs1
  have HFL := Lib.hid (fun j => flL_len hfp.2 j)
  clear hr hq hp hpq hfw hfp hwl hs1 hs2 hf hpats hus
  go_enter Tryz.func4, Tryz.ntmps4
  go_wp2_with fail
  refine HF.out.mono ?_
  rintro E w' ⟨rfl, hw⟩
  obtain rfl := hw.symm
  clear HF hw
  go_wp2_with fail
  refine HF2.out.mono ?_
  rintro E w' ⟨rfl, hw⟩
  obtain rfl := hw.symm
  clear HF2 hw
  go_wp2_with fail
  refine HN.out.mono ?_
  rintro E w1 ⟨p, rfl, hpx, d1⟩
  obtain ⟨q, rfl, hset⟩ : ∃ q, p = some ⟨q, 0, none⟩ ∧ IsSet w1 q us := by
    rcases hpx with ⟨_, h⟩ | ⟨q, h1, h2, _⟩
    · rw [h] at hulp; exact absurd hulp (by decide)
    · exact ⟨q, h1, h2⟩
  have R1 := Lib.hid (HRN.out w1 d1)
  have HSET := Lib.hid hset
  clear HN HRN hpx hset
  go_wp2_with fail
  refine R1.out.mono ?_
  rintro E w2 ⟨ra, rc, rfl, hrs, hb2⟩
  have HRS := Lib.hid hrs
  have HD2 := Lib.hid (d1.trans (hb2.mono d1.size))
  have HSET2 := Lib.hid (HSET.out.below hb2)
  clear R1 hrs hb2 d1 HSET
  go_wp2
  go_loopw [11, 12] (fun v i wr => ∃ k : Nat, k ≤ plen ∧ i = .int .i64 (k : Int) ∧ v = .string ⟨(flL ps k).toArray⟩ ∧ Hid (Below w2.heap.size w2 wr)) (fun _ i _ => plen - (RowKit.intOf i).toNat)
  case atStart => exact ⟨0, Nat.zero_le _, rfl, rfl, Lib.hid (Below.refl _ _)⟩
  case round =>
    obtain ⟨k, hk, rfl, rfl, HB⟩ := hrel
    have HBW := Lib.hid (HD2.out.trans (HB.out.mono HD2.out.size))
    by_cases hlt : k < plen
    · have u0 : (0 : Int) ≤ (k : Int) := by omega
      have u1 : (k : Int) < (plen : Int) := by omega
      obtain ⟨b9, off9, rfl, t, hft, hct⟩ := str_at HP.out HBW.out k hlt
      have htl := HT.out t (List.mem_of_getElem? hft)
      have hfl := HFL.out k
      have hadd := plus_text (flL ps k) t
      have hnx := flL_next hft
      rw [← hnx] at hadd
      have z1 : ¬ 9223372036854775807 < (flL ps k).length + t.length := by omega
      obtain ⟨u', hu'⟩ : ∃ u', flL ps (k + 1) = u' := ⟨_, rfl⟩
      have HU9 := Lib.hid hu'
      rw [hu'] at hadd
      clear hu'
      generalize flL ps k = u at *
      clear hft hnx
      go_wp2
      exact ⟨⟨k + 1, by omega, by go_num, by rw [HU9.out], HB⟩, by simp [RowKit.intOf]; omega⟩
    · obtain rfl : k = plen := by omega
      have u1 : ¬ (k : Int) < (k : Int) := by omega
      have hfa : flL ps k = ps.flatten := by rw [← hpl]; exact flL_all ps
      have hsl := HFL.out k
      rw [hfa] at hsl ⊢
      have HRU := Lib.hid (lpruns_any (HSET2.out.below HB.out) HPT.out (HP.out.below HBW.out) hplen HT.out HU.out hul skip (more := 0) (by omega) (ca := pcap))
      generalize ps.flatten = s at *
      obtain ⟨W1, hW1⟩ : ∃ W1, W1 = wr := ⟨_, rfl⟩
      subst hW1
      have S1 := Lib.hid (bsize s)
      have HRS1 := Lib.hid (HRS.out.below HB.out)
      go_wp2_with fail
      refine HRU.out.mono ?_
      rintro E w4 ⟨a1, a2, c1, c2, rs1, rs2, c, rfl, hr1, hr2, hg, hrest, hev, hb4⟩
      have hcov : Cover us s skip 0 (evs rs2) := by rw [hev]; exact Cover.ofGoes (Nat.zero_le _) hg hrest
      have hgl := hg.le (Nat.zero_le _)
      rw [evs_length] at hgl
      have hlst : (lastE us s skip c).length ≤ 1 := by
        unfold lastE
        split <;> simp
      have hrl2 : rs2.length ≤ 1000 := by rw [← evs_length rs2, hev, List.length_append, evs_length]; omega
      have hidl : ∀ x ∈ rs2, x.R.ids.length ≤ 8 := fun x hx => by
        have h : ∀ R ∈ evs rs2, R.ids.length ≤ us.length := by
          rw [hev]
          intro R hR
          rcases List.mem_append.1 hR with hR | hR
          · exact hg.few R hR
          · exact last_few R hR
        have := evs_few h x hx
        omega
      have HCV := Lib.hid hcov
      have HIL := Lib.hid hidl
      have HR2 := Lib.hid hr2
      have HB4 := Lib.hid (HBW.out.trans (hb4.mono HBW.out.size))
      have HRS4 := Lib.hid (HRS1.out.below hb4)
      obtain ⟨n2, hn2⟩ : ∃ n2, rs2.length = n2 := ⟨_, rfl⟩
      have HN2 := Lib.hid hn2
      rw [hn2] at hrl2 ⊢
      clear hr1 hr2 hg hrest hev hb4 HRU hlst hcov hidl hgl hn2 HRS HRS1
      go_wp2
      go_loopw [17, 18] (fun t i wr => ∃ j : Nat, j ≤ n2 ∧ i = .int .i64 (j : Int) ∧ t = .int .i64 (covS rs2 j : Int) ∧ Hid (Below w4.heap.size w4 wr)) (fun _ i _ => n2 - (RowKit.intOf i).toNat)
      case atStart => exact ⟨0, Nat.zero_le _, rfl, by simp [covS], Lib.hid (Below.refl _ _)⟩
      case round =>
        obtain ⟨j, hj, rfl, rfl, HQ⟩ := hrel
        by_cases hlt2 : j < n2
        · have v0 : (0 : Int) ≤ (j : Int) := by omega
          have v1 : (j : Int) < (n2 : Int) := by omega
          obtain ⟨b1, x, rfl, hx, hix, c0, c1', c2', c3⟩ := (HR2.out.below HQ.out).get (i := j) (by have := HN2.out; omega)
          obtain ⟨hca, hok, hcb⟩ := HCV.out.at hx
          have hxl := HIL.out x (List.mem_of_getElem? hx)
          have hrow := hix.row (by unfold maxLen; omega)
          have hcn := covS_next hx
          have hz := cov_z x.R
          obtain ⟨T, hT⟩ : ∃ T, covS rs2 (j + 1) = T := ⟨_, rfl⟩
          obtain ⟨T0, hT0⟩ : ∃ T0, covS rs2 j = T0 := ⟨_, rfl⟩
          rw [hT, hT0] at hcn
          rw [hT0] at hca hok hcb ⊢
          have HTT := Lib.hid hT
          obtain ⟨⟨kk, nn, rr, ids⟩, xa, xc⟩ := x
          dsimp only at hxl c0 c1' c2' c3 hz hcn hok hcb hrow
          obtain ⟨cv, hcv⟩ : ∃ cv, covN ⟨kk, nn, rr, ids⟩ = cv := ⟨_, rfl⟩
          rw [hcv] at hz hcn hcb
          have wA : IntKind.i64.wrap ((T0 : Int) + 1) = ((T0 + 1 : Nat) : Int) := by rw [IntKind.wrap_i64]; omega
          have wB : IntKind.i64.wrap ((T0 : Int) + (cv : Int)) = ((T0 + cv : Nat) : Int) := by rw [IntKind.wrap_i64]; omega
          have HHO := Lib.hid (rholds_ok ra us.length rc us s (T0 + 1) wr (by omega) (HRS4.out.below HQ.out) (fun t h => ⟨(HU.out t h).1, by have := (HU.out t h).2; omega⟩) (by omega) (by omega) (by omega) skip ⟨kk, nn, rr, ids⟩ hok xa xc hrow)
          have HCO := Lib.hid (fun W => rcov_any kk nn rr (.slice xa ids.length xc) ⟨_, _, _, rfl⟩ W)
          rw [hz] at HCO
          have HXX := Lib.hid hx
          clear hx hix hca hok hrow hT hT0 hcv hz
          go_wp2_with fail
          refine HHO.out.mono ?_
          rintro E w5 ⟨rfl, hb5⟩
          have HQ5 := Lib.hid (HQ.out.trans (hb5.mono HQ.out.size))
          clear HHO hb5 c0 c1' c2' c3 HQ
          obtain ⟨b2, x2, e2, hx2, _, c0, c1', c2', c3⟩ := (HR2.out.below HQ5.out).get (i := j) (by have := HN2.out; omega)
          cases e2
          rw [HXX.out] at hx2
          cases hx2
          dsimp only at c0 c1' c2' c3
          go_wp2_with fail
          refine (HCO.out _).mono ?_
          rintro E w6 ⟨rfl, hb6⟩
          have HQ6 := Lib.hid (HQ5.out.trans (hb6.mono HQ5.out.size))
          clear hb6 HQ5 c0 c1' c2' c3 HCO
          have hfin : (T0 : Int) + (cv : Int) = (covS rs2 (j + 1) : Int) := by rw [HTT.out]; omega
          go_wp2
          refine ⟨⟨j + 1, by omega, by go_num, ?_, HQ6⟩, by simp [RowKit.intOf]; omega⟩
          first | rfl | (rw [← hfin]) | (simp [← hfin])
        · obtain rfl : j = n2 := by omega
          have v1 : ¬ (j : Int) < (j : Int) := by omega
          have hend : covS rs2 j = s.length := by rw [← HN2.out]; exact HCV.out.end
          rw [hend]
          have HHI := Lib.hid (rlphits_any a2 j c2 rs2 wr HN2.out hrl2 (fun x hx => by have := HIL.out x hx; omega) (fun x hx => by
            obtain ⟨i, hi⟩ := List.getElem?_of_mem hx
            have := (HCV.out.at hi).2.2
            omega) (HR2.out.below HQ.out))
          rw [HCV.out.all (fun t h => (HU.out t h).1)] at HHI
          have HRA := Lib.hid (fun (W : World) (hW : Below wr.heap.size wr W) => rall_any ra us.length rc us s W (by omega) (HRS4.out.below (HQ.out.trans (hW.mono HQ.out.size))) (fun t h => by have := (HU.out t h).2; omega) (by omega))
          have HLEN : Hid ((hitL us s).length ≤ 1000000000000000) := Lib.hid (by
            have h := hitK_length us s (s.length + 1)
            have h2 : (s.length + 1) * us.length ≤ 1001 * 8 := Nat.mul_le_mul (by omega) (by omega)
            unfold hitL
            omega)
          generalize hitL us s = H at *
          have HQB := Lib.hid (HB4.out.trans (HQ.out.mono HB4.out.size))
          go_wp2_with fail
          refine HHI.out.mono ?_
          rintro E w5 ⟨v5, rfl, hown5, hb5⟩
          obtain ⟨h5, cp5, rfl, hh5⟩ := owns_hits hown5 rfl
          have R5 := Lib.hid (HRA.out w5 hb5)
          have HH5 := Lib.hid hh5
          have HB5 := Lib.hid (HQB.out.trans (hb5.mono HQB.out.size))
          clear hown5 hh5 hb5 HHI HRA
          go_wp2_with fail
          refine R5.out.mono ?_
          rintro E w6 ⟨v6, rfl, hown6, hb6⟩
          obtain ⟨h6, cp6, rfl, hh6⟩ := owns_hits hown6 rfl
          have S6 := Lib.hid (hsame_any h5 h6 H.length cp5 cp6 H w6 HLEN.out (HH5.out.below hb6) hh6)
          have HB6 := Lib.hid (HB5.out.trans (hb6.mono HB5.out.size))
          clear hown6 hh6 hb6 R5 HH5 HB5
          go_wp2_with fail
          refine S6.out.mono ?_
          rintro E w7 ⟨rfl, hb7⟩
          have HB7 := Lib.hid (HB6.out.trans (hb7.mono HB6.out.size))
          clear hb7 S6 HB6
          go_wp2_with fail
          refine (lpawake_any _).mono ?_
          rintro E w8 ⟨rfl, hb8⟩
          have HB8 := Lib.hid (HB7.out.trans (hb8.mono HB7.out.size))
          go_wp2
          go_ret
          exact ⟨rfl, HB8.out⟩
end Go.Proofs.YtmgcdhcidojdhaaGreat
