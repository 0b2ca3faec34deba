/-
  The law LeapRuns: walked.
-/
import Derived.Test.YtmgcdhcidojdhaaGreatBn1
import Derived.Test.YtmgcdhcidojdhaaGreatLpU
import Derived.Test.YtmgcdhcidojdhaaGreatLpD
import Derived.Test.YtmgcdhcidojdhaaGreatLpDs
import Derived.Test.YtmgcdhcidojdhaaGreatLpA
import Derived.Test.YtmgcdhcidojdhaaGreatBn17
set_option linter.unusedSimpArgs false
set_option linter.unusedVariables false
namespace Go.Proofs.YtmgcdhcidojdhaaGreat
open Go.RowKit

theorem of_few (us : List (List UInt8)) (s : List UInt8) (e : Nat) (skip : Bool) : (ofR us s e skip).ids.length ≤ us.length := by
  rcases of_cases us s e skip with ⟨_, _, h1⟩ | ⟨_, _, h1⟩ | ⟨_, _, h1⟩ | h1 <;> rw [h1]
  · exact Nat.zero_le _
  · exact Nat.zero_le _
  · exact Nat.zero_le _
  · exact ids_length us s e _
theorem Goes.few {us : List (List UInt8)} {s : List UInt8} {skip : Bool} : ∀ {a b : Nat} {l : List EvR}, Goes us s skip a l b → ∀ R ∈ l, R.ids.length ≤ us.length
  | a, b, [], _, R, hR => by cases hR
  | a, b, Q :: l, ⟨_, h2, _, h4⟩, R, hR => by
    rcases List.mem_cons.1 hR with rfl | hR
    · rw [h2]; exact of_few us s _ skip
    · exact h4.few R hR
theorem last_few {us : List (List UInt8)} {s : List UInt8} {skip : Bool} {b : Nat} : ∀ R ∈ lastE us s skip b, R.ids.length ≤ us.length := by
  intro R hR
  unfold lastE at hR
  split at hR
  · rw [List.mem_singleton.1 hR]
    exact of_few us s _ skip
  · cases hR
theorem evs_few {rs : List Rc} {n : Nat} (h : ∀ R ∈ evs rs, R.ids.length ≤ n) : ∀ x ∈ rs, x.R.ids.length ≤ n := fun x hx => h x.R (List.mem_map.2 ⟨x, hx, rfl⟩)

set_option maxRecDepth 100000 in
set_option maxHeartbeats 1000000 in
theorem lpruns_many (a : Option Addr) (len cap : Nat) (pa : Option Addr) (plen pcap : Nat) (skip : Bool) (more : Int) (ws : List (List UInt8)) (w : World) (hlen : len ≤ 9223372036854775807) (hr : IsStrs w a len ws) (ht : ∀ t ∈ ws, t.length ≤ 9223372036854775807) (hq : fewB ws 8 12 = false) :
    Calls Tryz.prog 3 #[.slice a len cap, .slice pa plen pcap, .bool skip, .int .i64 more] w fun e w' => e = .returned (.bool true) ∧ Below w.heap.size w w' := by
  have HF := Lib.hid (few_no8 a len cap ws w hlen hr ht _ hq)
  clear hr ht hq
  go_enter Tryz.func3, Tryz.ntmps3
  go_wp2_with fail
  refine HF.out.mono ?_
  rintro E w' ⟨rfl, hw⟩
  obtain rfl := hw.symm
  clear hw
  go_wp2_with fail
  refine (lpawake_any _).mono ?_
  rintro E w' ⟨rfl, hb⟩
  go_wp2
  go_ret
  exact ⟨rfl, hb⟩
set_option maxRecDepth 100000 in
set_option maxHeartbeats 1000000 in
theorem lpruns_long (a : Option Addr) (len cap : Nat) (pa : Option Addr) (plen pcap : Nat) (skip : Bool) (more : Int) (ws ps : List (List UInt8)) (w : World) (hlen : len ≤ 9223372036854775807) (hr : IsStrs w a len ws) (ht : ∀ t ∈ ws, t.length ≤ 9223372036854775807) (hq : fewB ws 8 12 = true)
    (hplen : plen ≤ 9223372036854775807) (hp : IsStrs w pa plen ps) (hpt : ∀ t ∈ ps, t.length ≤ 9223372036854775807) (hpq : fewB ps 10 20 = false) :
    Calls Tryz.prog 3 #[.slice a len cap, .slice pa plen pcap, .bool skip, .int .i64 more] w fun e w' => e = .returned (.bool true) ∧ Below w.heap.size w w' := by
  have HF := Lib.hid (few_no8 a len cap ws w hlen hr ht _ hq)
  have HF2 := Lib.hid (few_no10 pa plen pcap ps w hplen hp hpt _ hpq)
  clear hr ht hq hp hpt hpq
  go_enter Tryz.func3, Tryz.ntmps3
  go_wp2_with fail
  refine HF.out.mono ?_
  rintro E w' ⟨rfl, hw⟩
  obtain rfl := hw.symm
  clear hw
  go_wp2_with fail
  refine HF2.out.mono ?_
  rintro E w' ⟨rfl, hw⟩
  obtain rfl := hw.symm
  clear hw
  go_wp2_with fail
  refine (lpawake_any _).mono ?_
  rintro E w' ⟨rfl, hb⟩
  go_wp2
  go_ret
  exact ⟨rfl, hb⟩

set_option maxRecDepth 100000 in
set_option maxHeartbeats 1000000 in
theorem lpruns_bad (a : Option Addr) (len cap : Nat) (pa : Option Addr) (plen pcap : Nat) (skip : Bool) (more : Int) (ws ps : List (List UInt8)) (w : World) (hr : IsStrs w a len ws) (hq : fewB ws 8 12 = true)
    (hp : IsStrs w pa plen ps) (hpq : fewB ps 10 20 = true) (hf : ¬ faultL ws = 0) :
    Calls Tryz.prog 3 #[.slice a len cap, .slice pa plen pcap, .bool skip, .int .i64 more] w fun e w' => e = .returned (.bool true) ∧ Below w.heap.size w w' := by
  have hwl := hr.1
  have hpl := hp.1
  have hfw := (few_iff ws 8 12).1 hq
  have hfp := (few_iff ps 10 20).1 hpq
  have HF := Lib.hid (few_no8 a len cap ws w (by omega) hr (fun t ht => by have := hfw.2 t ht; omega) _ hq)
  have HF2 := Lib.hid (few_no10 pa plen pcap ps w (by omega) hp (fun t ht => by have := hfp.2 t ht; omega) _ hpq)
  have HN := Lib.hid (ptnew_all a len cap ws w (by omega) hr (fun t ht => by have := hfw.2 t ht; omega))
  have HRN := Lib.hid (fun (W : World) (hW : Below w.heap.size w W) => rptnew_all a len cap ws W (by omega) (hr.below hW) (fun t ht => by have := hfw.2 t ht; omega))
  rw [set_bad hf] at HN HRN
  generalize faultL ws = f at HN HRN hf
  have g1 : ((f : Int) != 0) = true := by simpa using hf
  clear hr hq hp hpq hfw hfp hwl hpl hf
  go_enter Tryz.func3, Tryz.ntmps3
  go_wp2_with fail
  refine HF.out.mono ?_
  rintro E w' ⟨rfl, hw⟩
  obtain rfl := hw.symm
  clear HF hw
  go_wp2_with fail
  refine HF2.out.mono ?_
  rintro E w' ⟨rfl, hw⟩
  obtain rfl := hw.symm
  clear HF2 hw
  go_wp2_with fail
  refine HN.out.mono ?_
  rintro E w1 ⟨p, rfl, hpx, d1⟩
  obtain rfl : p = none := by
    rcases hpx with ⟨h, _⟩ | ⟨_, _, _, h⟩
    · exact h
    · exact absurd h.some (by simp)
  have R1 := Lib.hid (HRN.out w1 d1)
  clear HN HRN hpx
  go_wp2_with fail
  refine R1.out.mono ?_
  rintro E w2 ⟨ra, rc, rfl, _, hb2⟩
  have d2 := d1.trans (hb2.mono d1.size)
  have R2 := Lib.hid (lpnew_nil skip w2)
  clear R1 hb2 d1
  go_wp2_with fail
  refine R2.out.mono ?_
  rintro E w3 ⟨b, rfl, hno, hb3⟩
  have d3 := d2.trans (hb3.mono d2.size)
  have R3 := Lib.hid (lpkeep_no hno)
  clear R2 hb3 d2 hno
  go_wp2_with fail
  refine R3.out.mono ?_
  rintro E w' ⟨rfl, hw⟩
  obtain rfl := hw.symm
  clear hw R3
  go_wp2_with fail
  refine (lpawake_any _).mono ?_
  rintro E w4 ⟨rfl, hb4⟩
  have d4 := d3.trans (hb4.mono d3.size)
  go_wp2
  go_ret
  exact ⟨rfl, d4⟩

set_option maxRecDepth 100000 in
set_option maxHeartbeats 4000000 in
theorem lpruns_good (a : Option Addr) (len cap : Nat) (pa : Option Addr) (plen pcap : Nat) (skip : Bool) (more : Int) (ws ps : List (List UInt8)) (w : World) (hr : IsStrs w a len ws) (hq : fewB ws 8 12 = true)
    (hp : IsStrs w pa plen ps) (hpq : fewB ps 10 20 = true) (hf : faultL ws = 0) :
    Calls Tryz.prog 3 #[.slice a len cap, .slice pa plen pcap, .bool skip, .int .i64 more] w fun e w' => e = .returned (.bool true) ∧ Below w.heap.size w w' := by
  have hwl := hr.1
  have hpl := hp.1
  have hfw := (few_iff ws 8 12).1 hq
  have hfp := (few_iff ps 10 20).1 hpq
  have hplen : plen ≤ 10 := by omega
  have HF := Lib.hid (few_no8 a len cap ws w (by omega) hr (fun t ht => by have := hfw.2 t ht; omega) _ hq)
  have HF2 := Lib.hid (few_no10 pa plen pcap ps w (by omega) hp (fun t ht => by have := hfp.2 t ht; omega) _ hpq)
  have HN := Lib.hid (ptnew_all a len cap ws w (by omega) hr (fun t ht => by have := hfw.2 t ht; omega))
  have HRN := Lib.hid (fun (W : World) (hW : Below w.heap.size w W) => rptnew_all a len cap ws W (by omega) (hr.below hW) (fun t ht => by have := hfw.2 t ht; omega))
  obtain ⟨hs1, hs2⟩ := few_setN hq
  have hpats : Pats (setL ws) := by rw [set_good hf]; exact ((fault_zero ws).1 hf).srt
  have hus : ∀ t ∈ setL ws, 0 < t.length ∧ t.length ≤ 12 := fun t h => ⟨(set_mem h).2.1, hs2 t h⟩
  rw [hf] at HN HRN
  generalize setL ws = us at *
  have HPT := Lib.hid hpats
  have hulp : 0 < us.length := hpats.some
  have HU := Lib.hid hus
  have HP := Lib.hid hp
  have HT := Lib.hid hfp.2
  have hul : us.length ≤ 8 := hs1
  have HFL := Lib.hid (fun j => flL_len hfp.2 j)
  obtain ⟨y, hy, hmask'⟩ := mask_at more 7 (by omega)
  have hmask : bits .and .i64 more 7 = (y : Int) := hmask'
  clear hr hq hp hpq hfw hfp hwl hs1 hs2 hf hpats hus hmask'
  go_enter Tryz.func3, Tryz.ntmps3
  go_wp2_with fail
  refine HF.out.mono ?_
  rintro E w' ⟨rfl, hw⟩
  obtain rfl := hw.symm
  clear HF hw
  go_wp2_with fail
  refine HF2.out.mono ?_
  rintro E w' ⟨rfl, hw⟩
  obtain rfl := hw.symm
  clear HF2 hw
  go_wp2_with fail
  refine HN.out.mono ?_
  rintro E w1 ⟨p, rfl, hpx, d1⟩
  obtain ⟨q, rfl, hset⟩ : ∃ q, p = some ⟨q, 0, none⟩ ∧ IsSet w1 q us := by
    rcases hpx with ⟨_, h⟩ | ⟨q, h1, h2, _⟩
    · rw [h] at hulp; exact absurd hulp (by decide)
    · exact ⟨q, h1, h2⟩
  have R1 := Lib.hid (HRN.out w1 d1)
  have HSET := Lib.hid hset
  clear HN HRN hpx hset
  go_wp2_with fail
  refine R1.out.mono ?_
  rintro E w2 ⟨ra, rc, rfl, hrs, hb2⟩
  have HRS := Lib.hid hrs
  have HD2 := Lib.hid (d1.trans (hb2.mono d1.size))
  have HSET2 := Lib.hid (HSET.out.below hb2)
  clear R1 hrs hb2 d1 HSET
  go_wp2
  go_loopw [13, 14] (fun v i wr => ∃ k : Nat, k ≤ plen ∧ i = .int .i64 (k : Int) ∧ v = .string ⟨(flL ps k).toArray⟩ ∧ Hid (Below w2.heap.size w2 wr)) (fun _ i _ => plen - (RowKit.intOf i).toNat)
  case atStart => exact ⟨0, Nat.zero_le _, rfl, rfl, Lib.hid (Below.refl _ _)⟩
  case round =>
    obtain ⟨k, hk, rfl, rfl, HB⟩ := hrel
    have HBW := Lib.hid (HD2.out.trans (HB.out.mono HD2.out.size))
    by_cases hlt : k < plen
    · have u0 : (0 : Int) ≤ (k : Int) := by omega
      have u1 : (k : Int) < (plen : Int) := by omega
      obtain ⟨b9, off9, rfl, t, hft, hct⟩ := str_at HP.out HBW.out k hlt
      have htl := HT.out t (List.mem_of_getElem? hft)
      have hfl := HFL.out k
      have hadd := plus_text (flL ps k) t
      have hnx := flL_next hft
      rw [← hnx] at hadd
      have z1 : ¬ 9223372036854775807 < (flL ps k).length + t.length := by omega
      obtain ⟨u', hu'⟩ : ∃ u', flL ps (k + 1) = u' := ⟨_, rfl⟩
      have HU9 := Lib.hid hu'
      rw [hu'] at hadd
      clear hu'
      generalize flL ps k = u at *
      clear hft hnx
      go_wp2
      exact ⟨⟨k + 1, by omega, by go_num, by rw [HU9.out], HB⟩, by simp [RowKit.intOf]; omega⟩
    · obtain rfl : k = plen := by omega
      have u1 : ¬ (k : Int) < (k : Int) := by omega
      have hfa : flL ps k = ps.flatten := by rw [← hpl]; exact flL_all ps
      have hsl := HFL.out k
      rw [hfa] at hsl ⊢
      have HRU := Lib.hid (lpruns_any (HSET2.out.below HB.out) HPT.out (HP.out.below HBW.out) hplen HT.out HU.out hul skip hy (ca := pcap))
      generalize ps.flatten = s at *
      have HRD := Lib.hid (fun (W : World) (hW : Below wr.heap.size wr W) => rlprun_any ra us.length rc us s W (by omega) hulp (HRS.out.below (HB.out.trans (hW.mono HB.out.size))) (fun t h => ⟨(HU.out t h).1, by have := (HU.out t h).2; omega⟩) (by omega) skip 0 (Nat.zero_le _))
      have HRA := Lib.hid (fun (W : World) (hW : Below wr.heap.size wr W) => rlpall_any ra us.length rc us s W (by omega) hulp (HRS.out.below (HB.out.trans (hW.mono HB.out.size))) (fun t h => ⟨(HU.out t h).1, by have := (HU.out t h).2; omega⟩) (by omega) skip)
      have hszW := HBW.out.size
      go_wp2_with fail
      refine HRU.out.mono ?_
      rintro E w4 ⟨a1, a2, c1, c2, rs1, rs2, c, rfl, hr1, hr2, hg, hrest, hev, hb4⟩
      have HR1 := Lib.hid hr1
      have HR2 := Lib.hid hr2
      have HG := Lib.hid (And.intro hg (And.intro hrest hev))
      have HB4 := Lib.hid hb4
      have R4 := Lib.hid (HRD.out w4 hb4)
      have hgl := hg.le (Nat.zero_le _)
      rw [evs_length] at hgl
      have hlst : (lastE us s skip c).length ≤ 1 := by
        unfold lastE
        split <;> simp
      have hrl2 : rs2.length ≤ rs1.length + 1 := by rw [← evs_length rs2, hev, List.length_append, evs_length]; omega
      clear hr1 hr2 hg hrest hev hb4 HRU HRD hlst
      go_wp2_with fail
      refine R4.out.mono ?_
      rintro E w5 ⟨v5, rs5, c5, rfl, hown5, hids5, hg5, hr5, _, _, hb5⟩
      obtain ⟨he15, rfl⟩ := HG.out.1.same HG.out.2.1 hg5 hr5
      obtain ⟨a5, cap5, rfl, hrec5⟩ := owns_recs hown5 hids5
      have hl15 : rs1.length = rs5.length := by rw [← evs_length rs1, he15, evs_length]
      have S5 := Lib.hid (rlpsame_any a1 a5 rs1.length c1 cap5 rs1 rs5 w5 rfl hl15.symm (by omega) he15 (fun x hx => by have := evs_few HG.out.1.few x hx; omega) (HR1.out.below hb5) hrec5)
      have HB5 := Lib.hid (HB4.out.trans (hb5.mono HB4.out.size))
      have HR25 := Lib.hid (HR2.out.below hb5)
      rw [← hl15]
      clear hown5 hids5 hg5 hr5 hb5 hrec5 R4 HR1 HR2 HB4 he15 hl15
      go_wp2_with fail
      refine S5.out.mono ?_
      rintro E w6 ⟨rfl, hb6⟩
      have HB6 := Lib.hid (HB5.out.trans (hb6.mono HB5.out.size))
      have HR26 := Lib.hid (HR25.out.below hb6)
      have R6 := Lib.hid (HRA.out w6 HB6.out)
      clear hb6 S5 HB5 HR25 HRA
      go_wp2_with fail
      refine R6.out.mono ?_
      rintro E w7 ⟨v7, rs7, l7, c7, rfl, hown7, hids7, hg7, hr7, hev7, hb7⟩
      obtain ⟨he17, hc17⟩ := HG.out.1.same HG.out.2.1 hg7 hr7
      subst hc17
      rw [← he17, ← HG.out.2.2] at hev7
      obtain ⟨a7, cap7, rfl, hrec7⟩ := owns_recs hown7 hids7
      have hl27 : rs2.length = rs7.length := by rw [← evs_length rs2, ← hev7, evs_length]
      have S7 := Lib.hid (rlpsame_any a2 a7 rs2.length c2 cap7 rs2 rs7 w7 rfl hl27.symm (by omega) hev7.symm (fun x hx => by
        have h : ∀ R ∈ evs rs2, R.ids.length ≤ us.length := by
          rw [HG.out.2.2]
          intro R hR
          rcases List.mem_append.1 hR with hR | hR
          · exact HG.out.1.few R hR
          · exact last_few R hR
        have := evs_few h x hx
        omega) (HR26.out.below hb7) hrec7)
      have HB7 := Lib.hid (HB6.out.trans (hb7.mono HB6.out.size))
      rw [← hl27]
      clear hown7 hids7 hg7 hr7 hev7 hb7 hrec7 R6 HR26 HB6 he17 hl27
      go_wp2_with fail
      refine S7.out.mono ?_
      rintro E w8 ⟨rfl, hb8⟩
      have HB8 := Lib.hid (HB7.out.trans (hb8.mono HB7.out.size))
      clear hb8 S7 HB7
      go_wp2_with fail
      refine (lpawake_any _).mono ?_
      rintro E w9 ⟨rfl, hb9⟩
      have HB9 := Lib.hid (HB8.out.trans (hb9.mono HB8.out.size))
      go_wp2
      go_ret
      exact ⟨rfl, HBW.out.trans (HB9.out.mono hszW)⟩
end Go.Proofs.YtmgcdhcidojdhaaGreat
