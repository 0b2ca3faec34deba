/-
  The law's 'awake' of layer 14; the law PairTells: walked.
-/
import Derived.Test.YtcbaloacmbekkaaPtUr
import Derived.Test.YtcbaloacmbekkaaPtFew
import Derived.Test.YtcbaloacmbekkaaPrN
import Derived.Test.YtcbaloacmbekkaaPrO
import Derived.Test.YtcbaloacmbekkaaPrL
set_option linter.unusedSimpArgs false
set_option linter.unusedVariables false
namespace Go.Proofs.Ytcbaloacmbekkaa
open Go.RowKit

/-- A new table of these patterns, behind a pointer. -/
def MadeT (us : List (List UInt8)) (base : Nat) (e : Ending) (w' : World) : Prop := ∃ b l, e = .returned (.pointer (some ⟨b, 0, none⟩)) ∧ base ≤ b ∧ HasPt w' (some ⟨b, 0, none⟩) (nearL us) (farL us) l ∧ IsLen us l
theorem prnew_all {w : World} {p : Option Addr} {us : List (List UInt8)} (h : IsPats w p us) :
    Calls Try.prog 9 #[.pointer p] w fun e w' => MadeT us w.heap.size e w' ∧ Below w.heap.size w w' := by
  have go : Calls Try.prog 9 #[.pointer p] w (fun e w' => MadePt us w.heap.size e w' ∧ Below w.heap.size w w') → Calls Try.prog 9 #[.pointer p] w fun e w' => MadeT us w.heap.size e w' ∧ Below w.heap.size w w' := by
    intro h
    refine h.mono ?_
    rintro e w' ⟨⟨b, g, n, D, rfl, h1, h2, h3, h4⟩, h5⟩
    exact ⟨⟨b, Maps.size D, rfl, h1, .inr ⟨b, g, n, D, rfl, h3, h4, near_le us, rfl⟩, h4.2⟩, h5⟩
  rcases h with ⟨rfl, rfl⟩ | ⟨b, rfl, h, hp⟩
  · exact go (prnew_by _ [] w (by simp) (by simp) (fun W _ => ptleast_nil W) (fun W _ => ptlen_nil W) (fun W k t _ h => by simp at h))
  · exact go (prnew_by _ us w (by have := hp.few; omega) (fun t ht => by have := hp.each t ht; omega) (fun W hW => by rw [leastR_some hp]; exact ptleast_any (h.below hW)) (fun W hW => ptlen_any (h.below hW)) (fun W k t hW hk => ptat_in (h.below hW) k t hk))

theorem strs_heap_of {w W : World} {a : Option Addr} {len : Nat} {ws : List (List UInt8)} (h : IsStrs w a len ws) (e : W.heap = w.heap) : IsStrs W a len ws := by
  unfold IsStrs World.cell? at *
  rw [e]
  exact h
theorem prex_fault : faultL [[97, 98, 99], [98, 99, 97]] = 0 := by decide +kernel
theorem prex_set : setL [[97, 98, 99], [98, 99, 97]] = [[97, 98, 99], [98, 99, 97]] := by
  rw [set_good prex_fault, ← ins_srt]; decide +kernel
theorem prex_bc : nearL [[97, 98, 99], [98, 99, 97]] (two 98 99) = 0 := by decide +kernel
theorem prex_ca : nearL [[97, 98, 99], [98, 99, 97]] (two 99 97) = 0 := by decide +kernel
theorem prex_ab : nearL [[97, 98, 99], [98, 99, 97]] (two 97 98) = 1 := by decide +kernel
theorem prex_xc : nearL [[97, 98, 99], [98, 99, 97]] (two 120 99) = 2 := by decide +kernel

set_option maxHeartbeats 2000000 in
theorem prawake_any (w : World) :
    Calls Try.prog 6 #[] w fun e w' => e = .returned (.bool true) ∧ Below w.heap.size w w' := by
  have hA := strs_heap (ws := [[97, 98, 99], [98, 99, 97]]) (heap_alloc_new w (.cells (txCells [[97, 98, 99], [98, 99, 97]]).toArray 9)) rfl
  have H1 := Lib.hid (ptnew_all (some ⟨w.heap.size, 0, none⟩) 2 2 _ _ (by omega) hA (by decide))
  rw [prex_set, prex_fault] at H1
  have c1 : Below w.heap.size w (w.alloc (.cells (txCells [[97, 98, 99], [98, 99, 97]]).toArray 9)) := (Below.refl _ w).alloc (Nat.le_refl _) _
  have s1 := c1.size
  have HNi : Hid (∀ (b : Option Addr) (w2 : World) (x y n l : Nat), nearL [[97, 98, 99], [98, 99, 97]] (two x y) = n → x < 256 → y < 256 → HasPt w2 b (nearL [[97, 98, 99], [98, 99, 97]]) (farL [[97, 98, 99], [98, 99, 97]]) l → Calls Try.prog 11 #[.pointer b, .int .u8 (x : Int), .int .u8 (y : Int)] w2 fun e w' => e = .returned (.int .i64 (n : Int)) ∧ w' = w2) := Lib.hid (fun b w2 x y n l hn hx hy h => by
    have := prnear_any h hx hy
    rwa [hn] at this)
  clear hA
  go_enter Try.func6, Try.ntmps6
  go_wp2_with fail
  refine H1.out.mono ?_
  rintro e w2 ⟨p, rfl, hs, hb2⟩
  have d2 := c1.trans (hb2.mono s1)
  have e2 := d2.size
  have N2 := Lib.hid (prnew_all hs)
  clear H1 hs hb2 c1 s1
  go_wp2_with fail
  refine N2.out.mono ?_
  rintro e w3 ⟨⟨b, l, rfl, _, hB, _⟩, hb3⟩
  have d3 := d2.trans (hb3.mono e2)
  have F1 := Lib.hid (HNi.out _ w3 98 99 0 l prex_bc (by omega) (by omega) hB)
  have F2 := Lib.hid (HNi.out _ w3 99 97 0 l prex_ca (by omega) (by omega) hB)
  have F3 := Lib.hid (HNi.out _ w3 97 98 1 l prex_ab (by omega) (by omega) hB)
  have F4 := Lib.hid (HNi.out _ w3 120 99 2 l prex_xc (by omega) (by omega) hB)
  clear N2 hB hb3 d2 e2 HNi
  go_wp2_with fail
  refine F1.out.mono ?_
  rintro e w' ⟨rfl, hw⟩
  obtain rfl := hw.symm
  clear hw F1
  go_wp2_with fail
  refine F2.out.mono ?_
  rintro e w' ⟨rfl, hw⟩
  obtain rfl := hw.symm
  clear hw F2
  go_wp2_with fail
  refine F3.out.mono ?_
  rintro e w' ⟨rfl, hw⟩
  obtain rfl := hw.symm
  clear hw F3
  go_wp2_with fail
  refine F4.out.mono ?_
  rintro e w' ⟨rfl, hw⟩
  obtain rfl := hw.symm
  clear hw F4
  go_wp2
  go_ret
  exact ⟨rfl, d3⟩

theorem few_noN (a : Option Addr) (len cap : Nat) (ws : List (List UInt8)) (w : World) (hlen : len ≤ 9223372036854775807) (hr : IsStrs w a len ws) (ht : ∀ t ∈ ws, t.length ≤ 9223372036854775807) (β : Bool) (hq : fewB ws 12 20 = β) :
    Calls Try.prog 5 #[.slice a len cap, .int .i64 12, .int .i64 20] w fun e w' => e = .returned (.bool β) ∧ w' = w := by
  have := few_any a len cap ws 12 20 w hlen (by omega) (by omega) hr ht
  rw [hq] at this
  exact this

set_option maxHeartbeats 1000000 in
theorem prtells_many (a : Option Addr) (len cap x y : Nat) (n : Int) (ws : List (List UInt8)) (s : List UInt8) (w : World) (hlen : len ≤ 9223372036854775807) (hr : IsStrs w a len ws) (ht : ∀ t ∈ ws, t.length ≤ 9223372036854775807) (hq : fewB ws 12 20 = false) :
    Calls Try.prog 3 #[.slice a len cap, .int .u8 (x : Int), .int .u8 (y : Int), .string ⟨s.toArray⟩, .int .i64 n] w fun e w' => e = .returned (.bool true) ∧ Below w.heap.size w w' := by
  have HF := Lib.hid (few_noN a len cap ws w hlen hr ht _ hq)
  clear hr ht hq
  go_enter Try.func3, Try.ntmps3
  go_wp2_with fail
  refine HF.out.mono ?_
  rintro e w' ⟨rfl, rfl⟩
  go_wp2_with fail
  refine (prawake_any _).mono ?_
  rintro e w' ⟨rfl, hb⟩
  go_wp2
  go_ret
  exact ⟨rfl, hb⟩
set_option maxHeartbeats 1000000 in
theorem prtells_long (a : Option Addr) (len cap x y : Nat) (n : Int) (ws : List (List UInt8)) (s : List UInt8) (w : World) (hlen : len ≤ 9223372036854775807) (hr : IsStrs w a len ws) (ht : ∀ t ∈ ws, t.length ≤ 9223372036854775807) (hq : fewB ws 12 20 = true) (hs : 100 < s.length) :
    Calls Try.prog 3 #[.slice a len cap, .int .u8 (x : Int), .int .u8 (y : Int), .string ⟨s.toArray⟩, .int .i64 n] w fun e w' => e = .returned (.bool true) ∧ Below w.heap.size w w' := by
  have HF := Lib.hid (few_noN a len cap ws w hlen hr ht _ hq)
  have S1 := Lib.hid (bsize s)
  have g1 : (100 : Int) < (s.length : Int) := by omega
  have g2 : decide ((100 : Int) < (s.length : Int)) = true := decide_eq_true g1
  clear hr ht hq
  go_enter Try.func3, Try.ntmps3
  go_wp2_with fail
  refine HF.out.mono ?_
  rintro e w' ⟨rfl, rfl⟩
  go_wp2_with fail
  refine (prawake_any _).mono ?_
  rintro e w' ⟨rfl, hb⟩
  go_wp2
  go_ret
  exact ⟨rfl, hb⟩

theorem clr_bytes {s : List UInt8} {z : Nat} (h2 : 2 ≤ z) (h3 : z ≤ s.length) : ∃ i j u v : Nat, i + 2 = z ∧ j + 1 = z ∧ u < 256 ∧ v < 256 ∧ prS s z = two u v ∧ (∀ h, ((⟨s.toArray⟩ : ByteArray)[i]'h).toNat = u) ∧ (∀ h, ((⟨s.toArray⟩ : ByteArray)[j]'h).toNat = v) := by
  obtain ⟨i, hi⟩ : ∃ i, i + 2 = z := ⟨z - 2, by omega⟩
  obtain ⟨j, hj⟩ : ∃ j, j + 1 = z := ⟨z - 1, by omega⟩
  have hjl : j < s.length := by omega
  have hil : i < s.length := by omega
  refine ⟨i, j, (s[i]).toNat, (s[j]).toNat, hi, hj, UInt8.toNat_lt _, UInt8.toNat_lt _, ?_, fun h => by rw [byteAt s i hil h], fun h => by rw [byteAt s j hjl h]⟩
  unfold prS byN
  rw [show z - 2 = i by omega, show z - 1 = j by omega]
  simp only [List.getD, List.getElem?_eq_getElem hjl, List.getElem?_eq_getElem hil, Option.getD_some]

set_option maxRecDepth 100000 in
set_option maxHeartbeats 8000000 in
theorem prtells_few (a : Option Addr) (len cap x y : Nat) (n : Int) (ws : List (List UInt8)) (s : List UInt8) (w : World) (hr : IsStrs w a len ws) (hq : fewB ws 12 20 = true) (hs : s.length ≤ 100) (hx : x < 256) (hy : y < 256) :
    Calls Try.prog 3 #[.slice a len cap, .int .u8 (x : Int), .int .u8 (y : Int), .string ⟨s.toArray⟩, .int .i64 n] w fun e w' => e = .returned (.bool true) ∧ Below w.heap.size w w' := by
  have hwl := hr.1
  have hfw := (few_iff ws 12 20).1 hq
  have hlen : len ≤ 12 := by omega
  have HF := Lib.hid (few_noN a len cap ws w (by omega) hr (fun t ht => by have := hfw.2 t ht; omega) _ hq)
  have HN := Lib.hid (ptnew_all a len cap ws w (by omega) hr (fun t ht => by have := hfw.2 t ht; omega))
  have HN2 := Lib.hid (fun (w2 : World) (hb : Below w.heap.size w w2) => rptnew_all a len cap ws w2 (by omega) (hr.below hb) (fun t ht => by have := hfw.2 t ht; omega))
  obtain ⟨hs1, hs2⟩ := few_setN hq
  generalize setL ws = us at HN HN2 hs1 hs2
  generalize faultL ws = f at HN HN2
  have HNew := Lib.hid (fun (w2 : World) (p : Option Addr) (h : IsPats w2 p us) => prnew_all h)
  have HNr := Lib.hid (fun (w2 : World) (b : Option Addr) (l : Nat) (h : HasPt w2 b (nearL us) (farL us) l) => prnear_any h hx hy)
  have HFr := Lib.hid (fun (w2 : World) (b : Option Addr) (l : Nat) (h : HasPt w2 b (nearL us) (farL us) l) => prfar_any h)
  have HLn := Lib.hid (fun (w2 : World) (b : Option Addr) (l : Nat) (h : HasPt w2 b (nearL us) (farL us) l) => prlen_any h)
  have HCl := Lib.hid (fun (w2 : World) (b : Option Addr) (l : Nat) (h : HasPt w2 b (nearL us) (farL us) l) => prclear_any h s (by omega) n)
  have HRn := Lib.hid (fun (w2 : World) (a2 : Option Addr) (cap2 x y : Nat) (h : IsStrs w2 a2 us.length us) (hx : x < 256) (hy : y < 256) => rnear_any a2 us.length cap2 x y us w2 (by omega) h (fun t ht => by have := hs2 t ht; omega) hx hy)
  have HRf := Lib.hid (fun (w2 : World) (a2 : Option Addr) (cap2 : Nat) (h : IsStrs w2 a2 us.length us) => rfar_any a2 us.length cap2 us w2 (by omega) h (fun t ht => by have := hs2 t ht; omega))
  have HRl := Lib.hid (fun (w2 : World) (a2 : Option Addr) (cap2 : Nat) (h : IsStrs w2 a2 us.length us) => rlen_any a2 us.length cap2 us w2 (by omega) h (fun t ht => by have := hs2 t ht; omega))
  have HNr0 := Lib.hid (fun (w2 : World) => prnear_any (pt_none w2) hx hy)
  have HFr0 := Lib.hid (fun (w2 : World) => prfar_any (pt_none w2))
  have HLn0 := Lib.hid (fun (w2 : World) => prlen_any (pt_none w2))
  have HCl0 : Hid (∀ (w2 : World), Calls Try.prog 16 #[.pointer none, .string ⟨s.toArray⟩, .int .i64 n] w2 fun e w' => e = .returned (.int .i64 0) ∧ ∃ q, w' = w2.drewN q) := Lib.hid (fun w2 => by
    have h := prclear_any (pt_none w2) s (by omega) n
    have e : clrP (fun _ => 0) s n = 0 := by unfold clrP; split <;> rfl
    rw [e] at h
    exact h)
  have HCC : Hid (∀ C, clrP (nearL us) s n = C → (if 2 ≤ n ∧ n ≤ (s.length : Int) then nearL us (prS s n.toNat) else 0) = C) := Lib.hid (fun C h => h)
  obtain ⟨C, hC⟩ : ∃ C, clrP (nearL us) s n = C := ⟨_, rfl⟩
  rw [hC] at HCl
  have HC := Lib.hid (HCC.out C hC)
  clear HCC hC
  obtain ⟨F, hFF⟩ : ∃ F, nearL us = F := ⟨_, rfl⟩
  obtain ⟨m, hmm⟩ : ∃ m, farL us = m := ⟨_, rfl⟩
  obtain ⟨N, hNN⟩ : ∃ N, F (two x y) = N := ⟨_, rfl⟩
  have HNewC : Hid (∀ (w2 : World) (p : Option Addr), IsPats w2 p us → Calls Try.prog 9 #[.pointer p] w2 fun e w' => ∃ b l, e = .returned (.pointer (some ⟨b, 0, none⟩)) ∧ HasPt w' (some ⟨b, 0, none⟩) F m l ∧ IsLen us l ∧ Below w2.heap.size w2 w') := Lib.hid (fun w2 p h => by
    refine (HNew.out w2 p h).mono ?_
    rintro e w' ⟨⟨b, l, h1, _, h3, h4⟩, h5⟩
    rw [hFF, hmm] at h3
    exact ⟨b, l, h1, h3, h4, h5⟩)
  rw [hFF, hmm] at HNr HFr HLn HCl
  rw [hFF] at HC
  have HRnC : Hid (∀ (w2 : World) (a2 : Option Addr) (cap2 x y : Nat), IsStrs w2 a2 us.length us → x < 256 → y < 256 → Calls Try.prog 10 #[.slice a2 us.length cap2, .int .u8 (x : Int), .int .u8 (y : Int)] w2 fun e w' => e = .returned (.int .i64 (F (two x y) : Int)) ∧ w' = w2) := Lib.hid (fun w2 a2 cap2 x y h hx hy => by
    have := HRn.out w2 a2 cap2 x y h hx hy
    rwa [hFF] at this)
  have HRnN : Hid (∀ (w2 : World) (a2 : Option Addr) (cap2 : Nat), IsStrs w2 a2 us.length us → Calls Try.prog 10 #[.slice a2 us.length cap2, .int .u8 (x : Int), .int .u8 (y : Int)] w2 fun e w' => e = .returned (.int .i64 (N : Int)) ∧ w' = w2) := Lib.hid (fun w2 a2 cap2 h => by
    have := HRnC.out w2 a2 cap2 x y h hx hy
    rwa [hNN] at this)
  rw [hNN] at HNr
  rw [hmm] at HRf
  have S1 := Lib.hid (bsize s)
  have g1 : ¬ (100 : Int) < (s.length : Int) := by omega
  have g2 : decide ((100 : Int) < (s.length : Int)) = false := decide_eq_false g1
  clear hr hq hfw hwl hs2 hFF hmm hNN HNew HRn
  go_enter Try.func3, Try.ntmps3
  go_wp2_with fail
  refine HF.out.mono ?_
  rintro e w' ⟨rfl, hw⟩
  obtain rfl := hw.symm
  clear HF hw
  go_wp2_with fail
  refine HN.out.mono ?_
  rintro e w1 ⟨p, rfl, hp, d1⟩
  have e1 := d1.size
  have HN3 := Lib.hid (HN2.out w1 d1)
  have HP1 := Lib.hid hp
  clear HN HN2 hp
  go_wp2_with fail
  refine HN3.out.mono ?_
  rintro e w2 ⟨a2, cap2, rfl, hstr, hb2⟩
  have d2 := d1.trans (hb2.mono e1)
  have e2 := d2.size
  have HB2 := Lib.hid (HNewC.out w2 p (HP1.out.below hb2))
  have T2 := Lib.hid hstr
  clear HN3 hb2 d1 e1 hstr HP1 HNewC
  go_wp2_with fail
  refine HB2.out.mono ?_
  rintro e w3 ⟨b, l, rfl, hB, hL, hb3⟩
  have d3 := d2.trans (hb3.mono e2)
  have e3 := d3.size
  have T3 := Lib.hid (T2.out.below hb3)
  have HB3 := Lib.hid hB
  have HL := Lib.hid hL
  clear HB2 T2 hB hb3 d2 e2 hL
  by_cases hin : 2 ≤ n ∧ n ≤ (s.length : Int)
  · obtain ⟨z, rfl⟩ : ∃ z : Nat, n = (z : Int) := ⟨n.toNat, by omega⟩
    obtain ⟨i, j, u, v, hi, hj, hu, hv, hp2, hqu, hqv⟩ := clr_bytes (s := s) (z := z) (by omega) (by omega)
    have hjz : j < (⟨s.toArray⟩ : ByteArray).size := by rw [bsize]; omega
    have hiz : i < (⟨s.toArray⟩ : ByteArray).size := by rw [bsize]; omega
    have hjl : j < s.length := by omega
    have hil : i < s.length := by omega
    have hqu' := hqu hiz
    have hqv' := hqv hjz
    have w1' : IntKind.i64.wrap ((z : Int) - 2) = (i : Int) := by rw [IntKind.wrap_i64]; omega
    have w2' : IntKind.i64.wrap ((z : Int) - 1) = (j : Int) := by rw [IntKind.wrap_i64]; omega
    have hCC : F (two u v) = C := by have := HC.out; rw [if_pos hin, Int.toNat_natCast, hp2] at this; exact this
    have HQ : Hid (∀ W : World, W.heap = w3.heap → Calls Try.prog 10 #[.slice a2 us.length cap2, .int .u8 (u : Int), .int .u8 (v : Int)] W fun e w' => e = .returned (.int .i64 (C : Int)) ∧ w' = W) := Lib.hid (fun W hW => by
      have := HRnC.out W a2 cap2 u v (strs_heap_of T3.out hW) hu hv
      rwa [hCC] at this)
    have HI := Lib.hid hi
    have HJ := Lib.hid hj
    have c1 : (2 : Int) ≤ (z : Int) := by omega
    have c2 : (z : Int) ≤ (s.length : Int) := by omega
    have c3 : ¬ (z : Int) < 2 := by omega
    have c4 : ¬ (s.length : Int) < (z : Int) := by omega
    clear hin hqu hqv hi hj hp2 hCC HRnC
    go_wp2_with fail
    go_quiet (first | with_reducible exact Calls.quiet_of_same (HQ.out _ rfl))
    have HB3a : Hid (HasPt (w3.drewN nq) (some ⟨b, 0, none⟩) F m l) := Lib.hid (HB3.out.heap rfl)
    have T3a : Hid (IsStrs (w3.drewN nq) a2 us.length us) := Lib.hid (strs_heap_of T3.out rfl)
    have d3a := below_drewS d3 nq
    generalize w3.drewN nq = w4 at HB3a T3a d3a ⊢
    have e4 := d3a.size
    clear HB3 T3 d3 e3 HQ
    have q1 : ((N : Int) == (N : Int)) = true := by simp
    have q2 : ((m : Int) == (m : Int)) = true := by simp
    have q3 : ((l : Int) == (l : Int)) = true := by simp
    have K1 := Lib.hid (HNr.out w4 _ l HB3a.out)
    have K2 := Lib.hid (HRnN.out w4 a2 cap2 T3a.out)
    have K3 := Lib.hid (HFr.out w4 _ l HB3a.out)
    have K4 := Lib.hid (HRf.out w4 a2 cap2 T3a.out)
    have K5 := Lib.hid (HLn.out w4 _ l HB3a.out)
    have K6 := Lib.hid (HRl.out w4 a2 cap2 T3a.out)
    clear HNr HRnN HFr HRf HLn HRl T3a HC
    go_wp2_with fail
    refine K1.out.mono ?_
    rintro e w' ⟨rfl, hw⟩
    obtain rfl := hw.symm
    clear hw K1
    go_wp2_with fail
    refine K2.out.mono ?_
    rintro e w' ⟨rfl, hw⟩
    obtain rfl := hw.symm
    clear hw K2
    go_wp2_with fail
    refine K3.out.mono ?_
    rintro e w' ⟨rfl, hw⟩
    obtain rfl := hw.symm
    clear hw K3
    go_wp2_with fail
    refine K4.out.mono ?_
    rintro e w' ⟨rfl, hw⟩
    obtain rfl := hw.symm
    clear hw K4
    go_wp2_with fail
    refine K5.out.mono ?_
    rintro e w' ⟨rfl, hw⟩
    obtain rfl := hw.symm
    clear hw K5
    go_wp2_with fail
    refine K6.out.mono ?_
    rintro e w5 ⟨⟨l2, rfl, hl2⟩, hb5⟩
    obtain rfl : l2 = l := IsCount.one hl2 HL.out (fun c => Iff.rfl)
    have d5 := d3a.trans (hb5.mono e4)
    have e5 := d5.size
    have K7 := Lib.hid (HCl.out w5 _ l2 (HB3a.out.below hb5))
    clear K6 hl2 hb5 d3a e4 HB3a HL HCl
    go_wp2_with fail
    refine K7.out.mono ?_
    rintro e w' ⟨rfl, nq7, rfl⟩
    have d6 := below_drewS d5 nq7
    generalize w5.drewN nq7 = w6 at d6 ⊢
    have e6 := d6.size
    have K8 := Lib.hid (HNr0.out w6)
    have K9 := Lib.hid (HFr0.out w6)
    have K10 := Lib.hid (HLn0.out w6)
    have K11 := Lib.hid (HCl0.out w6)
    clear K7 d5 e5 HNr0 HFr0 HLn0 HCl0
    go_wp2_with fail
    refine K8.out.mono ?_
    rintro e w' ⟨rfl, hw⟩
    obtain rfl := hw.symm
    clear hw K8
    go_wp2_with fail
    refine K9.out.mono ?_
    rintro e w' ⟨rfl, hw⟩
    obtain rfl := hw.symm
    clear hw K9
    go_wp2_with fail
    refine K10.out.mono ?_
    rintro e w' ⟨rfl, hw⟩
    obtain rfl := hw.symm
    clear hw K10
    go_wp2_with fail
    refine K11.out.mono ?_
    rintro e w' ⟨rfl, nq8, rfl⟩
    have d7 := below_drewS d6 nq8
    generalize w6.drewN nq8 = w7 at d7 ⊢
    have e7 := d7.size
    clear K11 d6 e6
    go_wp2_with fail
    refine (prawake_any _).mono ?_
    rintro e w14 ⟨rfl, hb14⟩
    have d14 := d7.trans (hb14.mono e7)
    go_wp2
    go_ret
    exact ⟨rfl, d14⟩
  · obtain rfl : C = 0 := by have := HC.out; rw [if_neg hin] at this; exact this.symm
    obtain ⟨w4, hw4⟩ : ∃ w4, w3 = w4 := ⟨_, rfl⟩
    rw [hw4] at HB3 T3 d3 ⊢
    have HB3a := HB3
    have T3a := T3
    have d3a := d3
    have e4 := d3a.size
    clear HB3 T3 d3 e3 hw4 HRnC
    by_cases c1 : (2 : Int) ≤ n
    · have c2 : ¬ n ≤ (s.length : Int) := by omega
      have c3 : decide ((2 : Int) ≤ n) = true := decide_eq_true c1
      have c4 : decide (n ≤ (s.length : Int)) = false := decide_eq_false c2
      clear hin
      have q1 : ((N : Int) == (N : Int)) = true := by simp
      have q2 : ((m : Int) == (m : Int)) = true := by simp
      have q3 : ((l : Int) == (l : Int)) = true := by simp
      have K1 := Lib.hid (HNr.out w4 _ l HB3a.out)
      have K2 := Lib.hid (HRnN.out w4 a2 cap2 T3a.out)
      have K3 := Lib.hid (HFr.out w4 _ l HB3a.out)
      have K4 := Lib.hid (HRf.out w4 a2 cap2 T3a.out)
      have K5 := Lib.hid (HLn.out w4 _ l HB3a.out)
      have K6 := Lib.hid (HRl.out w4 a2 cap2 T3a.out)
      clear HNr HRnN HFr HRf HLn HRl T3a HC
      go_wp2_with fail
      refine K1.out.mono ?_
      rintro e w' ⟨rfl, hw⟩
      obtain rfl := hw.symm
      clear hw K1
      go_wp2_with fail
      refine K2.out.mono ?_
      rintro e w' ⟨rfl, hw⟩
      obtain rfl := hw.symm
      clear hw K2
      go_wp2_with fail
      refine K3.out.mono ?_
      rintro e w' ⟨rfl, hw⟩
      obtain rfl := hw.symm
      clear hw K3
      go_wp2_with fail
      refine K4.out.mono ?_
      rintro e w' ⟨rfl, hw⟩
      obtain rfl := hw.symm
      clear hw K4
      go_wp2_with fail
      refine K5.out.mono ?_
      rintro e w' ⟨rfl, hw⟩
      obtain rfl := hw.symm
      clear hw K5
      go_wp2_with fail
      refine K6.out.mono ?_
      rintro e w5 ⟨⟨l2, rfl, hl2⟩, hb5⟩
      obtain rfl : l2 = l := IsCount.one hl2 HL.out (fun c => Iff.rfl)
      have d5 := d3a.trans (hb5.mono e4)
      have e5 := d5.size
      have K7 := Lib.hid (HCl.out w5 _ l2 (HB3a.out.below hb5))
      clear K6 hl2 hb5 d3a e4 HB3a HL HCl
      go_wp2_with fail
      refine K7.out.mono ?_
      rintro e w' ⟨rfl, nq7, rfl⟩
      have d6 := below_drewS d5 nq7
      generalize w5.drewN nq7 = w6 at d6 ⊢
      have e6 := d6.size
      have K8 := Lib.hid (HNr0.out w6)
      have K9 := Lib.hid (HFr0.out w6)
      have K10 := Lib.hid (HLn0.out w6)
      have K11 := Lib.hid (HCl0.out w6)
      clear K7 d5 e5 HNr0 HFr0 HLn0 HCl0
      go_wp2_with fail
      refine K8.out.mono ?_
      rintro e w' ⟨rfl, hw⟩
      obtain rfl := hw.symm
      clear hw K8
      go_wp2_with fail
      refine K9.out.mono ?_
      rintro e w' ⟨rfl, hw⟩
      obtain rfl := hw.symm
      clear hw K9
      go_wp2_with fail
      refine K10.out.mono ?_
      rintro e w' ⟨rfl, hw⟩
      obtain rfl := hw.symm
      clear hw K10
      go_wp2_with fail
      refine K11.out.mono ?_
      rintro e w' ⟨rfl, nq8, rfl⟩
      have d7 := below_drewS d6 nq8
      generalize w6.drewN nq8 = w7 at d7 ⊢
      have e7 := d7.size
      clear K11 d6 e6
      go_wp2_with fail
      refine (prawake_any _).mono ?_
      rintro e w14 ⟨rfl, hb14⟩
      have d14 := d7.trans (hb14.mono e7)
      go_wp2
      go_ret
      exact ⟨rfl, d14⟩
    · have c3 : decide ((2 : Int) ≤ n) = false := decide_eq_false c1
      clear hin
      have q1 : ((N : Int) == (N : Int)) = true := by simp
      have q2 : ((m : Int) == (m : Int)) = true := by simp
      have q3 : ((l : Int) == (l : Int)) = true := by simp
      have K1 := Lib.hid (HNr.out w4 _ l HB3a.out)
      have K2 := Lib.hid (HRnN.out w4 a2 cap2 T3a.out)
      have K3 := Lib.hid (HFr.out w4 _ l HB3a.out)
      have K4 := Lib.hid (HRf.out w4 a2 cap2 T3a.out)
      have K5 := Lib.hid (HLn.out w4 _ l HB3a.out)
      have K6 := Lib.hid (HRl.out w4 a2 cap2 T3a.out)
      clear HNr HRnN HFr HRf HLn HRl T3a HC
      go_wp2_with fail
      refine K1.out.mono ?_
      rintro e w' ⟨rfl, hw⟩
      obtain rfl := hw.symm
      clear hw K1
      go_wp2_with fail
      refine K2.out.mono ?_
      rintro e w' ⟨rfl, hw⟩
      obtain rfl := hw.symm
      clear hw K2
      go_wp2_with fail
      refine K3.out.mono ?_
      rintro e w' ⟨rfl, hw⟩
      obtain rfl := hw.symm
      clear hw K3
      go_wp2_with fail
      refine K4.out.mono ?_
      rintro e w' ⟨rfl, hw⟩
      obtain rfl := hw.symm
      clear hw K4
      go_wp2_with fail
      refine K5.out.mono ?_
      rintro e w' ⟨rfl, hw⟩
      obtain rfl := hw.symm
      clear hw K5
      go_wp2_with fail
      refine K6.out.mono ?_
      rintro e w5 ⟨⟨l2, rfl, hl2⟩, hb5⟩
      obtain rfl : l2 = l := IsCount.one hl2 HL.out (fun c => Iff.rfl)
      have d5 := d3a.trans (hb5.mono e4)
      have e5 := d5.size
      have K7 := Lib.hid (HCl.out w5 _ l2 (HB3a.out.below hb5))
      clear K6 hl2 hb5 d3a e4 HB3a HL HCl
      go_wp2_with fail
      refine K7.out.mono ?_
      rintro e w' ⟨rfl, nq7, rfl⟩
      have d6 := below_drewS d5 nq7
      generalize w5.drewN nq7 = w6 at d6 ⊢
      have e6 := d6.size
      have K8 := Lib.hid (HNr0.out w6)
      have K9 := Lib.hid (HFr0.out w6)
      have K10 := Lib.hid (HLn0.out w6)
      have K11 := Lib.hid (HCl0.out w6)
      clear K7 d5 e5 HNr0 HFr0 HLn0 HCl0
      go_wp2_with fail
      refine K8.out.mono ?_
      rintro e w' ⟨rfl, hw⟩
      obtain rfl := hw.symm
      clear hw K8
      go_wp2_with fail
      refine K9.out.mono ?_
      rintro e w' ⟨rfl, hw⟩
      obtain rfl := hw.symm
      clear hw K9
      go_wp2_with fail
      refine K10.out.mono ?_
      rintro e w' ⟨rfl, hw⟩
      obtain rfl := hw.symm
      clear hw K10
      go_wp2_with fail
      refine K11.out.mono ?_
      rintro e w' ⟨rfl, nq8, rfl⟩
      have d7 := below_drewS d6 nq8
      generalize w6.drewN nq8 = w7 at d7 ⊢
      have e7 := d7.size
      clear K11 d6 e6
      go_wp2_with fail
      refine (prawake_any _).mono ?_
      rintro e w14 ⟨rfl, hb14⟩
      have d14 := d7.trans (hb14.mono e7)
      go_wp2
      go_ret
      exact ⟨rfl, d14⟩
end Go.Proofs.Ytcbaloacmbekkaa
