/-
  The law PatsOrder, walked.
-/
import Derived.Test.YtkhjemoojmoncaaPtA
import Derived.Test.YtkhjemoojmoncaaStrS
import Derived.Test.YtkhjemoojmoncaaMask
import Derived.Maps.AppendAt
import Derived.Deep.RegionLaw
import Derived.Deep.AppendLies
set_option linter.unusedSimpArgs false
set_option linter.unusedVariables false
namespace Go.Proofs.Ytkhjemoojmoncaa
open Go.RowKit

/-- An append to what the call owns, of so many elements as may be (none, too), as a step of a region that draws its order. -/
theorem step_append_any {P : Program} {w : World} {ops : Array Oper} {o : Oper} {a : Act} {K : Act → World → Prop} {Q : Exit → Act → World → Prop} {E : Prop} (hgd : o.guard = none) (s x : Operand) (t : TypeId)
    (ho : o.op = .call { callee := .builtin .append, args := #[s, x], argTypes := #[t, t] })
    (base : Nat) (e : TypeId) (i : TypeInfo) (z : Value) (size bytes : Nat) (ht : P.underlying t = some (.slice e)) (hi : P.info? e = some i) (hz : i.zero = some z)
    (hsize : i.size = size) (hby : i.bytes = bytes) (hzs : z.cells.size = size) (hsz : 0 < size)
    (v : Value) (n : Nat) (xs : List Value) (hs : a.eval s = v) (hown : w.ownsRow base e size v n xs)
    (ad : Addr) (m c : Nat) (news : List Value) (hx : a.eval x = .slice (some ad) m c) (hl : news.length = m * size) (hnews : ∀ j u, news[j]? = some u → w.cell? (ad.add j) = some u) (h1 : ∀ u ∈ news, u.oneCell' = true)
    (h63 : n + m ≤ maxLen) (hbytes : (n + m) * bytes ≤ 140737488355328) (hbase : base ≤ w.heap.size)
    (h : ∀ v' w', w'.ownsRow base e size v' (n + m) (xs ++ news) → w.grownBy w' v.ownBlock → K (a.put o.dst v') w') :
    if Region.wanted o (yielded ops a.tmps) = true then Oper.wp P o a w K Q else E := by
  have hw : Region.wanted o (yielded ops a.tmps) = true := by simp [Region.wanted, hgd]
  rw [if_pos hw]
  obtain ⟨v', w', hr, h2, h3, _, _⟩ := run_append_own_at (P := P) w base t o.type e i z size bytes ht hi hz hsize hby hzs hsz v n xs hown ad m c news hl hnews h1 h63 hbytes hbase
  unfold Oper.wp execOp
  simp only [ho, resolve, invoke, builtin, Sem.run_bind, Sem.run_pure, Result.andThen_ok, List.map_toArray, List.map_cons, List.map_nil, hs, hx, hr]
  exact h v' w' h2 h3

set_option maxHeartbeats 1000000 in
theorem ptorder_many (a : Option Addr) (len cap : Nat) (ws : List (List UInt8)) (turn : Int) (w : World) (hlen : len ≤ 9223372036854775807) (hr : IsStrs w a len ws) (ht : ∀ t ∈ ws, t.length ≤ 9223372036854775807) (hq : fewB ws 20 50 = false) :
    Calls Try.prog 4 #[.slice a len cap, .int .i64 turn] w fun e w' => e = .returned (.bool true) ∧ Below w.heap.size w w' := by
  have HF := Lib.hid (few_not a len cap ws w hlen hr ht hq)
  clear hr ht hq
  go_enter Try.func4, Try.ntmps4
  go_wp2_with fail
  refine HF.out.mono ?_
  rintro e w' ⟨rfl, rfl⟩
  go_wp2_with fail
  refine (ptawake_any _).mono ?_
  rintro e w' ⟨rfl, hb⟩
  go_wp2
  go_ret
  exact ⟨rfl, hb⟩

set_option maxHeartbeats 1000000 in
theorem ptorder_bad (a : Option Addr) (len cap : Nat) (ws : List (List UInt8)) (turn : Int) (w : World) (hr : IsStrs w a len ws) (hq : fewB ws 20 50 = true) (hf : ¬ faultL ws = 0) :
    Calls Try.prog 4 #[.slice a len cap, .int .i64 turn] w fun e w' => e = .returned (.bool true) ∧ Below w.heap.size w w' := by
  have hwl := hr.1
  have hfw := (few_iff ws 20 50).1 hq
  have hlen : len ≤ 20 := by omega
  have HF := Lib.hid (few_yes a len cap ws w (by omega) hr (fun t ht => by have := hfw.2 t ht; omega) hq)
  have HN := Lib.hid (ptnew_bad a len cap ws w (by omega) hr (fun t ht => by have := hfw.2 t ht; omega) hf)
  generalize faultL ws = f at HN hf
  clear hr hq hfw hwl
  go_enter Try.func4, Try.ntmps4
  go_wp2_with fail
  refine HF.out.mono ?_
  rintro e w' ⟨rfl, hw⟩
  obtain rfl := hw.symm
  clear HF hw
  go_wp2_with fail
  refine HN.out.mono ?_
  rintro e w1 ⟨rfl, d1⟩
  have e1 := d1.size
  go_wp2_with fail
  refine (ptawake_any _).mono ?_
  rintro e w2 ⟨rfl, hb2⟩
  have d2 := d1.trans (hb2.mono e1)
  go_wp2
  go_ret
  exact ⟨rfl, d2⟩

theorem strs_rest {w : World} {b off len : Nat} {ws : List (List UInt8)} (h : IsStrs w (some ⟨b, off, none⟩) len ws) (r : Nat) : ∀ j u, (txCells (ws.drop r))[j]? = some u → w.cell? ((⟨b, off + r, none⟩ : Addr).add j) = some u := fun j u hj => by
  unfold txCells at hj
  rw [List.map_drop, List.getElem?_drop, List.getElem?_map] at hj
  obtain ⟨t, ht, rfl⟩ := Option.map_eq_some_iff.1 hj
  have hk := (List.getElem?_eq_some_iff.1 ht).1
  obtain ⟨b', off', e, t', ht', hc⟩ := str_at h (Below.refl _ _) (r + j) (by have := h.1; omega)
  cases e
  obtain rfl : t' = t := Option.some.inj (ht'.symm.trans ht)
  rw [addPlain, Nat.add_assoc]
  exact hc
theorem strs_part {w : World} {b off len : Nat} {ws : List (List UInt8)} (h : IsStrs w (some ⟨b, off, none⟩) len ws) (r : Nat) : ∀ j u, (txCells (ws.take r))[j]? = some u → w.cell? ((⟨b, off, none⟩ : Addr).add j) = some u := fun j u hj => by
  unfold txCells at hj
  rw [List.map_take, List.getElem?_take] at hj
  split at hj
  · have := strs_rest h 0 j u (by unfold txCells; rw [List.drop_zero]; exact hj)
    rwa [Nat.add_zero] at this
  · cases hj

theorem ptlist_use {w : World} {b : Nat} {ws : List (List UInt8)} (h : IsSet w b ws) (hl : ws.length ≤ 1000000) : Calls Try.prog 14 #[.pointer (some ⟨b, 0, none⟩)] w (RetL ws w) := by
  refine (ptlist_any h hl).mono ?_
  rintro e w' ⟨v, rfl, hown, hb⟩
  obtain ⟨ao, cap', rfl, hs⟩ := owns_strs hown
  exact ⟨ao, cap', rfl, hs, hb⟩

/-- The texts, turned. -/
def turnS (ws : List (List UInt8)) (r : Nat) : List (List UInt8) := ws.drop r ++ ws.take r
theorem turn_perm (ws : List (List UInt8)) (r : Nat) : ws.Perm (turnS ws r) := by
  unfold turnS
  refine (List.Perm.of_eq (List.take_append_drop r ws).symm).trans List.perm_append_comm
theorem turn_length (ws : List (List UInt8)) (r : Nat) : (turnS ws r).length = ws.length := (turn_perm ws r).length_eq.symm

set_option maxHeartbeats 4000000 in
theorem ptorder_good (b off : Nat) (len cap : Nat) (ws : List (List UInt8)) (turn : Int) (w : World) (hr : IsStrs w (some ⟨b, off, none⟩) len ws) (hlc : len ≤ cap) (hcm : cap ≤ maxLen) (hq : fewB ws 20 50 = true) (hf : faultL ws = 0) :
    Calls Try.prog 4 #[.slice (some ⟨b, off, none⟩) len cap, .int .i64 turn] w fun e w' => e = .returned (.bool true) ∧ Below w.heap.size w w' := by
  have hwl := hr.1
  have hfw := (few_iff ws 20 50).1 hq
  have hlen : len ≤ 20 := by omega
  have hP := (fault_zero ws).1 hf
  have hpos : 1 ≤ len := by have := hP.some; omega
  have HF := Lib.hid (few_yes _ len cap ws w (by omega) hr (fun t ht => by have := hfw.2 t ht; omega) hq)
  have HN := Lib.hid (ptnew_good _ len cap ws w (by omega) hr hf)
  obtain ⟨c, hc, hmask⟩ := mask_at turn 1023 (by omega)
  have hmask3 : bits .and .i64 turn 1023 = (c : Int) := hmask
  clear hmask
  have HR := Lib.hid hr
  clear hr hq
  go_enter Try.func4, Try.ntmps4
  go_wp2_with fail
  refine HF.out.mono ?_
  rintro e w' ⟨rfl, hw⟩
  obtain rfl := hw.symm
  clear HF hw
  go_wp2_with fail
  refine HN.out.mono ?_
  rintro e w1 ⟨x, rfl, hbx, hs1, d1⟩
  have e1 := d1.size
  have g1 : ¬ (len : Int) = 0 := by omega
  have g2 : ((len : Int) == 0) = false := by simp; omega
  obtain ⟨r, hrr, hrl⟩ : ∃ r : Nat, (c : Int) % (len : Int) = (r : Int) ∧ r < len := ⟨c % len, by omega, Nat.mod_lt _ (by omega)⟩
  have i1 : (0 : Int) ≤ (r : Int) := by omega
  have i2 : (r : Int) ≤ (len : Int) := by omega
  have i3 : (r : Int) ≤ (cap : Int) := by omega
  have i4 : (len : Int) ≤ (cap : Int) := by omega
  have i5 : ¬ cap = r := by omega
  have i6 : (len : Int) - (r : Int) = ((len - r : Nat) : Int) := by omega
  have i7 : (cap : Int) - (r : Int) = ((cap - r : Nat) : Int) := by omega
  have T1 := Lib.hid (HR.out.below d1)
  obtain ⟨i0, hi, hz0, hz1, hz2⟩ := info_parts string_info
  go_wp2_with fail
  rw [hrr]
  have O1 : Hid ((w1.alloc (.cells #[] 9)).drew.ownsRow w1.heap.size 9 1 (.slice (some ⟨w1.heap.size, 0, none⟩) 0 0) 0 []) := Lib.hid (World.ownsRow_made w1 #[] 0 (Nat.le_refl _) (by unfold maxLen; omega) rfl)
  have B1 : Below w1.heap.size w1 (w1.alloc (.cells #[] 9)).drew := ((Below.refl _ w1).alloc (Nat.le_refl _) _).drew
  have N1 := Lib.hid (strs_rest (T1.out.below B1) r)
  have N2 := Lib.hid (fun (W : World) (hb : Below w1.heap.size w1 W) => strs_part (T1.out.below hb) r)
  have L1 : Hid ((txCells (ws.drop r)).length = (len - r) * 1) := Lib.hid (by rw [txCells_length, List.length_drop]; omega)
  have L2 : Hid ((txCells (ws.take r)).length = r * 1) := Lib.hid (by rw [txCells_length, List.length_take]; omega)
  go_region_law (first
    | (refine step_append_any rfl (.tmp 43) (.tmp 46) _ rfl w1.heap.size 9 i0 (.string ByteArray.empty) 1 16 Try.underlying22 hi hz0 hz1 hz2 rfl (by omega) (.slice (some ⟨w1.heap.size, 0, none⟩) 0 0) 0 [] (by simp [Act.eval, Act.put]) O1.out ⟨b, off + r, none⟩ (len - r) (cap - r) (txCells (ws.drop r)) (by simp [Act.eval, Act.put]) L1.out N1.out tx_one (by unfold maxLen; omega) (by omega) (by simp) ?_
       intro v2 w2 own2 grow2
       have B2 : Below w1.heap.size w1 w2 := B1.grown grow2 (by simp) (fun j hj => by cases hj; exact Nat.le_refl _))
    | (refine step_append_any rfl (.tmp 47) (.tmp 50) _ rfl w1.heap.size 9 i0 (.string ByteArray.empty) 1 16 Try.underlying22 hi hz0 hz1 hz2 rfl (by omega) v2 (0 + (len - r)) ([] ++ txCells (ws.drop r)) (by simp [Act.eval, Act.put]) own2 ⟨b, off, none⟩ r cap (txCells (ws.take r)) (by simp [Act.eval, Act.put]) L2.out (N2.out w2 B2) tx_one (by unfold maxLen; omega) (by omega) B2.size ?_
       intro v3 w3 own3 grow3
       have B3 : Below w1.heap.size w1 w3 := B2.grown grow3 B2.size (fun j hj => (own2.lt j hj).1)))
  have hml : (turnS ws r).length = len := by rw [turn_length, hwl]
  have own3' : w3.ownsRow w1.heap.size 9 1 v3 (turnS ws r).length (txCells (turnS ws r)) := by
    rw [hml, turnS, txCells_append]
    rw [List.nil_append, show 0 + (len - r) + r = len by omega] at own3
    exact own3
  obtain ⟨ao, cap3, rfl, st3⟩ := owns_strs own3'
  rw [hml] at st3 ⊢
  have hfm : faultL (turnS ws r) = 0 := (fault_zero _).2 (hP.perm (turn_perm ws r))
  have M1 := Lib.hid (ptnew_good ao len cap3 (turnS ws r) w3 (by omega) st3 hfm)
  rw [← srt_of_perm (turn_perm ws r)] at M1
  have HS3 := Lib.hid (hs1.below B3)
  have d3 := d1.trans (B3.mono e1)
  have e3 := d3.size
  have hfs : faultL (srt ws) = 0 := (fault_zero _).2 hP.srt
  have hss := srt_srt ws
  have hsl : (srt ws).length = len := by rw [srt_length, hwl]
  have hPS := hP.srt
  have hasc := srt_asc ws
  have hmem : ∀ t ∈ ws, t ∈ srt ws := fun t ht => (srt_perm ws).mem_iff.2 ht
  clear own3 own3' own2 grow2 grow3 B2 B3 O1 B1 N1 N2 L1 L2 hs1 st3 T1 HN hfm hf hP hml hfw
  generalize srt ws = us at *
  have HSS := Lib.hid hss
  have HSL := Lib.hid hsl
  have HNL := Lib.hid (fun (w5 : World) (a5 : Option Addr) (cap5 : Nat) (h : IsStrs w5 a5 len us) => ptnew_good a5 len cap5 us w5 (by omega) h hfs)
  rw [HSS.out] at HNL
  have HLI := Lib.hid (fun (w5 : World) (b : Nat) (h : IsSet w5 b us) => ptlist_use h (by rw [hsl]; omega))
  unfold RetL at HLI
  rw [hsl] at HLI
  have HSA := Lib.hid (fun (w5 : World) (a5 a6 : Option Addr) (c5 c6 : Nat) (h5 : IsStrs w5 a5 len us) (h6 : IsStrs w5 a6 len us) => essame_any a5 a6 len c5 c6 us w5 (by omega) h5 h6)
  have HFI := Lib.hid (fun (w5 : World) (b : Nat) (h : IsSet w5 b us) (t : List UInt8) => ptfind_any h (by rw [hsl]; omega) hasc t)
  have HLE := Lib.hid (fun (w5 : World) (b : Nat) (h : IsSet w5 b us) => ptlen_any h)
  rw [hsl] at HLE
  have HAT := Lib.hid (fun (t : List UInt8) (ht : t ∈ ws) => ahd_at hasc (hmem t ht))
  have HME := Lib.hid hmem
  clear hss hsl hmem hasc hPS hfs
  go_wp2_with fail
  refine M1.out.mono ?_
  rintro e w4 ⟨y, rfl, hby, hs4, hb4⟩
  have d4 := d3.trans (hb4.mono e3)
  have e4 := d4.size
  have HS4 := Lib.hid (HS3.out.below hb4)
  have HY4 := Lib.hid hs4
  have Q4 := Lib.hid (HLI.out w4 x HS4.out)
  clear M1 hb4 d3 e3 hs4 HS3
  go_wp2_with fail
  refine Q4.out.mono ?_
  rintro e w5 ⟨a5, cap5, rfl, st5, hb5⟩
  have d5 := d4.trans (hb5.mono e4)
  have e5 := d5.size
  have HS5 := Lib.hid (HS4.out.below hb5)
  have HY5 := Lib.hid (HY4.out.below hb5)
  have Q5 := Lib.hid (HNL.out w5 a5 cap5 st5)
  clear Q4 hb5 d4 e4 HS4 HY4 st5 HNL
  go_wp2_with fail
  refine Q5.out.mono ?_
  rintro e w6 ⟨z, rfl, hbz, hs6, hb6⟩
  have d6 := d5.trans (hb6.mono e5)
  have e6 := d6.size
  have HS6 := Lib.hid (HS5.out.below hb6)
  have HY6 := Lib.hid (HY5.out.below hb6)
  have HZ6 := Lib.hid hs6
  have Q6 := Lib.hid (HLI.out w6 x HS6.out)
  clear Q5 hb6 d5 e5 HS5 HY5 hs6
  go_wp2_with fail
  refine Q6.out.mono ?_
  rintro e w7 ⟨a7, cap7, rfl, st7, hb7⟩
  have d7 := d6.trans (hb7.mono e6)
  have e7 := d7.size
  have HS7 := Lib.hid (HS6.out.below hb7)
  have HY7 := Lib.hid (HY6.out.below hb7)
  have HZ7 := Lib.hid (HZ6.out.below hb7)
  have Q7 := Lib.hid (HLI.out w7 y HY7.out)
  clear Q6 hb7 d6 e6 HS6 HY6 HZ6
  go_wp2_with fail
  refine Q7.out.mono ?_
  rintro e w8 ⟨a8, cap8, rfl, st8, hb8⟩
  have d8 := d7.trans (hb8.mono e7)
  have e8 := d8.size
  have HS8 := Lib.hid (HS7.out.below hb8)
  have HZ8 := Lib.hid (HZ7.out.below hb8)
  have Q8 := Lib.hid (HSA.out w8 a7 a8 cap7 cap8 (st7.below hb8) st8)
  clear Q7 hb8 d7 e7 HS7 HY7 HZ7 st7 st8
  go_wp2_with fail
  refine Q8.out.mono ?_
  rintro e w9 ⟨rfl, hb9⟩
  have d9 := d8.trans (hb9.mono e8)
  have e9 := d9.size
  have HS9 := Lib.hid (HS8.out.below hb9)
  have HZ9 := Lib.hid (HZ8.out.below hb9)
  have Q9 := Lib.hid (HLI.out w9 x HS9.out)
  clear Q8 hb9 d8 e8 HS8 HZ8
  go_wp2_with fail
  refine Q9.out.mono ?_
  rintro e w10 ⟨a10, cap10, rfl, st10, hb10⟩
  have d10 := d9.trans (hb10.mono e9)
  have e10 := d10.size
  have HS10 := Lib.hid (HS9.out.below hb10)
  have HZ10 := Lib.hid (HZ9.out.below hb10)
  have Q10 := Lib.hid (HLI.out w10 z HZ10.out)
  clear Q9 hb10 d9 e9 HS9 HZ9
  go_wp2_with fail
  refine Q10.out.mono ?_
  rintro e w11 ⟨a11, cap11, rfl, st11, hb11⟩
  have d11 := d10.trans (hb11.mono e10)
  have e11 := d11.size
  have HS11 := Lib.hid (HS10.out.below hb11)
  have Q11 := Lib.hid (HSA.out w11 a10 a11 cap10 cap11 (st10.below hb11) st11)
  clear Q10 hb11 d10 e10 HS10 HZ10 st10 st11 HLI HSA
  go_wp2_with fail
  refine Q11.out.mono ?_
  rintro e w12 ⟨rfl, hb12⟩
  have d12 := d11.trans (hb12.mono e11)
  have e12 := d12.size
  have HS12 := Lib.hid (HS11.out.below hb12)
  have T12 := Lib.hid (HR.out.below d12)
  clear Q11 hb12 d11 e11 HS11
  go_wp2_with fail
  go_loopw [12] (fun i wr => ∃ k : Nat, k ≤ len ∧ i = .int .i64 k ∧ Below w12.heap.size w12 wr) (fun i _ => len - (RowKit.intOf i).toNat)
  case atStart => exact ⟨0, Nat.zero_le _, rfl, Below.refl _ _⟩
  case round =>
    obtain ⟨k, hk, rfl, hbe⟩ := hrel
    by_cases hlt : k < len
    · obtain ⟨b2, off2, hab, t, hft, hct⟩ := str_at T12.out hbe k hlt
      cases hab
      have hm := List.mem_of_getElem? hft
      have hat := HAT.out t hm
      have hin := HME.out t hm
      have HSr := Lib.hid (HS12.out.below hbe)
      have F1 := Lib.hid (HFI.out wr x HSr.out t)
      rw [show numP t us = (ahdS t us : Int) from if_pos hin, decide_eq_true hin] at F1
      have HA1 := Lib.hid (fun (w' : World) (h : IsSet w' x us) => ptat_in h (ahdS t us) t hat)
      generalize ahdS t us = n at F1 HA1
      have Hft := Lib.hid hft
      clear hat hin hm hft
      go_wp2_with fail
      refine F1.out.mono ?_
      rintro e w13 ⟨rfl, hb13⟩
      have hbe2 := hbe.trans (hb13.mono hbe.size)
      have A1 := Lib.hid (HA1.out w13 (HSr.out.below hb13))
      obtain ⟨b3, off3, hab3, t3, hft3, hct3⟩ := str_at T12.out hbe2 k hlt
      cases hab3
      obtain rfl : t3 = t := Option.some.inj (hft3.symm.trans Hft.out)
      clear F1 HA1 hb13 hbe hct hft3 Hft
      go_wp2_with fail
      refine A1.out.mono ?_
      rintro e w14 ⟨rfl, rfl⟩
      clear A1
      go_wp2
      exact ⟨⟨k + 1, by omega, by go_num, hbe2⟩, by simp [RowKit.intOf]; omega⟩
    · obtain rfl : k = len := by omega
      have L1 := Lib.hid (HLE.out wr x (HS12.out.below hbe))
      have d13 := d12.trans (hbe.mono e12)
      have e13 := d13.size
      go_wp2_with fail
      refine L1.out.mono ?_
      rintro e w14 ⟨rfl, rfl⟩
      go_wp2_with fail
      refine (ptawake_any _).mono ?_
      rintro e w15 ⟨rfl, hb15⟩
      have d15 := d13.trans (hb15.mono e13)
      go_wp2
      go_ret
      exact ⟨rfl, d15⟩
end Go.Proofs.Ytkhjemoojmoncaa
