/-
  Texts put together: PrN, PrO, PrNs.
-/
import Derived.Test.YtmgcdhcidojdhaaGreatPrW
import Derived.Test.YtmgcdhcidojdhaaGreatBn5
import Derived.Test.YtmgcdhcidojdhaaGreatBn6
set_option linter.unusedSimpArgs false
set_option linter.unusedVariables false
namespace Go.Proofs.YtmgcdhcidojdhaaGreat
open Go.RowKit Go.Maps

/-- A new table of these patterns, behind a pointer. -/
def MadePt (ws : List (List UInt8)) (base : Nat) (e : Ending) (w' : World) : Prop := ∃ b g n D, e = .returned (.pointer (some ⟨b, 0, none⟩)) ∧ base ≤ b ∧ base ≤ g ∧ IsPt w' b g n (farL ws) D ∧ Says D (nearL ws) (farL ws)
set_option maxRecDepth 100000 in
set_option maxHeartbeats 4000000 in
theorem prnew_by (p : Value) (ws : List (List UInt8)) (w : World) (hn : ws.length ≤ 1000000) (he : ∀ t ∈ ws, t.length ≤ 1000000)
    (hM : ∀ W, Below w.heap.size w W → Calls Tryz.prog 74 #[p] W fun e w' => e = .returned (.int .i64 (leastR ws : Int)) ∧ w' = W)
    (hL : ∀ W, Below w.heap.size w W → Calls Tryz.prog 71 #[p] W fun e w' => e = .returned (.int .i64 (ws.length : Int)) ∧ w' = W)
    (hA : ∀ (W : World) (k : Nat) (t : List UInt8), Below w.heap.size w W → ws[k]? = some t → Calls Tryz.prog 72 #[p, .int .i64 (k : Int)] W fun e w' => e = .returned (.tuple #[.string ⟨t.toArray⟩, .bool true]) ∧ w' = W) :
    Calls Tryz.prog 55 #[p] w fun e w' => MadePt ws w.heap.size e w' ∧ Below w.heap.size w w' := by
  have HQ : Hid (∀ m e w', m = farL ws → (∃ b g n D, e = .returned (.pointer (some ⟨b, 0, none⟩)) ∧ w.heap.size ≤ b ∧ w.heap.size ≤ g ∧ IsPt w' b g n m D ∧ Says D (nearL ws) m) → MadePt ws w.heap.size e w') := Lib.hid (fun m e w' h q => by subst h; exact q)
  obtain ⟨W1, hW1⟩ : ∃ W1, w.alloc (.map #[] 0) = W1 := ⟨_, rfl⟩
  have b1 : Below w.heap.size w W1 := by rw [← hW1]; exact (Below.refl _ w).alloc (Nat.le_refl _) _
  have o1 : W1.ownsMap Tryz.prog 153 (plainElem (H := Unit) Tryz.prog 3) w.heap.size 0 (.map []) := by rw [← hW1]; exact World.ownsMap_made _ _ _ _
  have s1 : W1.heap.size = w.heap.size + 1 := by rw [← hW1]; simp
  have HM0 := Lib.hid (hM W1 b1)
  have HLn := Lib.hid hL
  have HA := Lib.hid hA
  have HE := Lib.hid (fun t (ht : t ∈ ws) => (⟨leastR_le ht, he t ht⟩ : leastR ws ≤ t.length ∧ t.length ≤ 1000000))
  have HF : Hid (∀ c, nearL ws c = mn (has2 ws c) (farL ws)) := Lib.hid (fun c => rfl)
  have HM1 : Hid (farL ws = leastR ws - 1) := Lib.hid rfl
  have hlw : leastR ws ≤ 1000000 := by
    cases ws with
    | nil => rw [leastR_nil]; omega
    | cons t r => exact Nat.le_trans (leastR_le List.mem_cons_self) (he t List.mem_cons_self)
  clear hL hA he hM
  generalize leastR ws = l at HM0 HE HM1 hlw
  obtain ⟨m, hme⟩ : ∃ m, farL ws = m := ⟨_, rfl⟩
  rw [hme] at HF HM1
  have HME := Lib.hid hme
  clear hme
  have hmax : max ((l : Int) - 1) 0 = (m : Int) := by rw [HM1.out]; omega
  have hw1 : IntKind.i64.wrap ((l : Int) - 1) = (l : Int) - 1 := by rw [IntKind.wrap_i64]; omega
  have hmm := @run_makeMap Tryz.prog
  go_enter Tryz.func55, Tryz.ntmps55
  go_wp2_with fail
  refine HM0.out.mono ?_
  rintro e w' ⟨rfl, hw⟩
  obtain rfl := hw.symm
  clear hw HM0
  go_wp2_with fail
  obtain ⟨W0, hW0⟩ : ∃ W0, W1.alloc (.cells #[.map (some w.heap.size), .int .i64 (m : Int)] 132) = W0 := ⟨_, rfl⟩
  have hb0 : W0.heap[W1.heap.size]? = some (.cells #[.map (some w.heap.size), .int .i64 (m : Int)] 132 (0, 0)) := by rw [← hW0]; exact heap_alloc_new W1 _
  have b2 : Below w.heap.size w W0 := by rw [← hW0]; exact b1.alloc (by rw [s1]; omega) _
  have o2 := o1.alloc (.cells #[.map (some w.heap.size), .int .i64 (m : Int)] 132)
  rw [hW0] at o2
  rw [hW0]
  rw [s1] at hb0
  obtain ⟨b, hb⟩ : ∃ b, w.heap.size + 1 = b := ⟨_, rfl⟩
  obtain ⟨g, hg⟩ : ∃ g, w.heap.size = g := ⟨_, rfl⟩
  rw [hb] at hb0 ⊢
  rw [hg] at hb0 o2
  have HPT : Hid (IsPt W0 b g 0 m (.map [])) := Lib.hid ⟨hb0, o2⟩
  have HBE : Hid (w.heap.size ≤ b) := Lib.hid (by omega)
  have HGE : Hid (w.heap.size ≤ g) := Lib.hid (by omega)
  have HB0 := Lib.hid b2
  clear hb0 b2 o2 hW0 o1 hb hg hmax hw1 b1 s1 hW1 hmm
  obtain ⟨n, hnn⟩ : ∃ n, ws.length = n := ⟨_, rfl⟩
  rw [hnn] at hn
  have HNN := Lib.hid hnn
  have HLN : Hid (∀ W, Below w.heap.size w W → Calls Tryz.prog 71 #[p] W fun e w' => e = .returned (.int .i64 (n : Int)) ∧ w' = W) := Lib.hid (fun W hW => by have := HLn.out W hW; rwa [hnn] at this)
  clear hnn HLn
  refine (HLN.out _ HB0.out).mono ?_
  rintro e w' ⟨rfl, hw⟩
  obtain rfl := hw.symm
  clear hw
  go_wp2
  go_loopw [16] (fun i wr => ∃ (k : Nat) (D : DataW Unit), k ≤ n ∧ i = .int .i64 k ∧ Hid (IsPt wr b g (k * 1000000) m D) ∧ Hid (Says D (fun c => mn (has2 (ws.take k) c) m) m) ∧ Hid (Below w.heap.size w wr)) (fun i _ => n - (RowKit.intOf i).toNat)
  case atStart => exact ⟨0, _, Nat.zero_le _, rfl, Lib.hid (by rw [Nat.zero_mul]; exact HPT.out), Lib.hid ((says_none m).congr fun c => by rw [List.take_zero, lowp_start]), HB0⟩
  case round =>
    obtain ⟨k, D, hk, rfl, HK, HS, HBk⟩ := hrel
    by_cases hlt : k < n
    · obtain ⟨t, hf⟩ : ∃ t, ws[k]? = some t := ⟨_, List.getElem?_eq_getElem (show k < ws.length by rw [HNN.out]; exact hlt)⟩
      have htl := HE.out t (List.mem_of_getElem? hf)
      have HA1 := Lib.hid (HA.out wr k t HBk.out hf)
      have HLo := Lib.hid (prlower_any HK.out HS.out t (by have := HM1.out; omega) htl.2 (fun c => mn_le _ _) (by omega))
      have HDn := Lib.hid (fun c => lowp_done (m := m) hf c)
      have hmm : m ≤ 1000000 := by have := HM1.out; omega
      clear HK HS hf htl
      go_wp2_with fail
      refine HA1.out.mono ?_
      rintro e w' ⟨rfl, hw⟩
      obtain rfl := hw.symm
      clear hw
      go_wp2_with fail
      refine HLo.out.mono ?_
      rintro e w3 ⟨rfl, ⟨D', hP3, hS3⟩, hg3⟩
      have HP3 : Hid (IsPt w3 b g ((k + 1) * 1000000) m D') := Lib.hid ⟨hP3.1, hP3.2.mono (by rw [Nat.succ_mul]; omega)⟩
      have HS3 : Hid (Says D' (fun c => mn (has2 (ws.take (k + 1)) c) m) m) := Lib.hid (hS3.congr HDn.out)
      have HB3 : Hid (Below w.heap.size w w3) := Lib.hid (HBk.out.trans ⟨hg3.os, hg3.tape, hg3.output, hg3.size, fun i hi => hg3.block i (by have := HBk.out.size; omega) (by have := HGE.out; simp only [ne_eq, Option.some.injEq]; omega)⟩)
      clear hP3 hS3 hg3 HBk HLo HA1 hmm
      go_wp2
      exact ⟨⟨k + 1, _, by omega, by go_num, HP3, HS3, HB3⟩, by simp [RowKit.intOf]; omega⟩
    · obtain rfl : k = n := by omega
      have hz : ¬ (k : Int) < (k : Int) := by omega
      have HI : Hid (Says D (nearL ws) m) := Lib.hid (HS.out.congr fun c => by rw [HF.out, List.take_of_length_le (by rw [HNN.out]; exact Nat.le_refl _)])
      clear HS
      go_wp2
      go_ret
      exact ⟨HQ.out _ _ _ HME.out.symm ⟨b, g, _, D, rfl, HBE.out, HGE.out, HK.out, HI.out⟩, HBk.out⟩
end Go.Proofs.YtmgcdhcidojdhaaGreat

namespace Go.Proofs.YtmgcdhcidojdhaaGreat
open Go.RowKit Go.Maps

/-- A table behind a pointer, or none: then all shifts are 0. -/
def HasPt (w : World) (p : Option Addr) (F : Nat → Nat) (m l : Nat) : Prop := (p = none ∧ (∀ c, F c = 0) ∧ m = 0 ∧ l = 0) ∨ ∃ b g n D, p = some ⟨b, 0, none⟩ ∧ IsPt w b g n m D ∧ Says D F m ∧ (∀ c, F c ≤ m) ∧ Maps.size D = l
set_option maxRecDepth 100000 in
theorem HasPt.below {w w' : World} {p : Option Addr} {F : Nat → Nat} {m l : Nat} (h : HasPt w p F m l) (hb : Below w.heap.size w w') : HasPt w' p F m l :=
  h.elim .inl (fun ⟨b, g, n, D, h1, h2, h3⟩ => .inr ⟨b, g, n, D, h1, h2.below hb, h3⟩)
set_option maxRecDepth 100000 in
theorem HasPt.heap {w W : World} {p : Option Addr} {F : Nat → Nat} {m l : Nat} (h : HasPt w p F m l) (e : W.heap = w.heap) : HasPt W p F m l := by
  unfold HasPt IsPt World.ownsMap at *
  rw [e]
  exact h
set_option maxRecDepth 100000 in
theorem pt_none (w : World) : HasPt w none (fun _ => 0) 0 0 := .inl ⟨rfl, fun _ => rfl, rfl, rfl⟩

set_option maxRecDepth 100000 in
theorem prnear_any {w : World} {p : Option Addr} {F : Nat → Nat} {m l : Nat} (h : HasPt w p F m l) {x y : Nat} (hx : x < 256) (hy : y < 256) :
    Calls Tryz.prog 108 #[.pointer p, .int .u8 (x : Int), .int .u8 (y : Int)] w fun e w' => e = .returned (.int .i64 (F (two x y) : Int)) ∧ w' = w := by
  rcases h with ⟨rfl, h, _⟩ | ⟨b, g, n, D, rfl, h, hS, hle, _⟩
  · rw [h (two x y)]
    clear h
    go_enter Tryz.func108, Tryz.ntmps108
    go_wp2
    go_ret
    exact ⟨rfl, rfl⟩
  · have c0 := h.cell0
    have c1 := h.cell1
    obtain ⟨c, hrun, hc⟩ := look_two h.2 hS hx hy
    have hl := hle (two x y)
    clear h hS hle
    generalize F (two x y) = v at hrun hc hl ⊢
    by_cases hin : v < m
    · rw [decide_eq_true hin] at hrun
      obtain rfl := hc hin
      clear hc
      go_enter Tryz.func108, Tryz.ntmps108
      go_wp2
      go_ret
      exact ⟨rfl, rfl⟩
    · rw [decide_eq_false hin] at hrun
      obtain rfl : v = m := by omega
      clear hc
      go_enter Tryz.func108, Tryz.ntmps108
      go_wp2
      go_ret
      exact ⟨rfl, rfl⟩
/-- What is cleared ahead of an end. -/
def clrP (F : Nat → Nat) (s : List UInt8) (e : Int) : Nat := if 2 ≤ e ∧ e ≤ (s.length : Int) then F (prS s e.toNat) else 0
set_option maxRecDepth 100000 in
theorem prclear_any {w : World} {p : Option Addr} {F : Nat → Nat} {m l : Nat} (h : HasPt w p F m l) (s : List UInt8) (hs : s.length ≤ 1000000) (e : Int) :
    Calls Tryz.prog 98 #[.pointer p, .string ⟨s.toArray⟩, .int .i64 e] w fun E w' => E = .returned (.int .i64 (clrP F s e : Int)) ∧ ∃ q, w' = w.drewN q := by
  have S1 := Lib.hid (bsize s)
  by_cases h2 : e < 2
  · have he : clrP F s e = 0 := if_neg (by omega)
    rw [he]
    clear he h
    go_enter Tryz.func98, Tryz.ntmps98
    go_wp2
    go_ret
    exact ⟨rfl, 0, rfl⟩
  · by_cases h3 : (s.length : Int) < e
    · have he : clrP F s e = 0 := if_neg (by omega)
      rw [he]
      clear he h
      go_enter Tryz.func98, Tryz.ntmps98
      go_wp2
      go_ret
      exact ⟨rfl, 0, rfl⟩
    · obtain ⟨k, rfl⟩ : ∃ k : Nat, e = (k : Int) := ⟨e.toNat, by omega⟩
      have he : clrP F s (k : Int) = F (prS s k) := if_pos (by omega)
      rw [he]
      obtain ⟨i, hi⟩ : ∃ i, i + 2 = k := ⟨k - 2, by omega⟩
      obtain ⟨j, hj⟩ : ∃ j, j + 1 = k := ⟨k - 1, by omega⟩
      have hjl : j < s.length := by omega
      have hil : i < s.length := by omega
      have hjz : j < (⟨s.toArray⟩ : ByteArray).size := by rw [bsize]; omega
      have hiz : i < (⟨s.toArray⟩ : ByteArray).size := by rw [bsize]; omega
      have w1 : IntKind.i64.wrap ((k : Int) - 2) = (i : Int) := by rw [IntKind.wrap_i64]; omega
      have w2 : IntKind.i64.wrap ((k : Int) - 1) = (j : Int) := by rw [IntKind.wrap_i64]; omega
      obtain ⟨y, hyy⟩ : ∃ y, (s[j]).toNat = y := ⟨_, rfl⟩
      obtain ⟨x, hxx⟩ : ∃ x, (s[i]).toNat = x := ⟨_, rfl⟩
      have hy : y < 256 := by rw [← hyy]; exact UInt8.toNat_lt _
      have hx : x < 256 := by rw [← hxx]; exact UInt8.toNat_lt _
      have hqy : ((⟨s.toArray⟩ : ByteArray)[j]'hjz).toNat = y := by rw [byteAt s j hjl hjz, hyy]
      have hqx : ((⟨s.toArray⟩ : ByteArray)[i]'hiz).toNat = x := by rw [byteAt s i hil hiz, hxx]
      have hc : prS s k = two x y := by
        unfold prS byN
        rw [show k - 2 = i by omega, show k - 1 = j by omega]
        simp only [List.getD, List.getElem?_eq_getElem hjl, List.getElem?_eq_getElem hil, Option.getD_some, hxx, hyy]
      rw [hc]
      have HNr := Lib.hid (fun (W : World) (hW : W.heap = w.heap) => prnear_any (h.heap hW) hx hy)
      have HI := Lib.hid hi
      have HJ := Lib.hid hj
      have h4 : ¬ (k : Int) > (s.length : Int) := h3
      clear he hc hyy hxx h hi hj
      go_enter Tryz.func98, Tryz.ntmps98
      go_wp2_with fail
      go_quiet (first | with_reducible exact Calls.quiet_of_same (HNr.out _ rfl))
      go_wp2
      go_ret
      exact ⟨rfl, _, rfl⟩
end Go.Proofs.YtmgcdhcidojdhaaGreat

namespace Go.Proofs.YtmgcdhcidojdhaaGreat
open Go.RowKit


/-- A new table of these patterns, behind a pointer. -/
def MadeT (us : List (List UInt8)) (base : Nat) (e : Ending) (w' : World) : Prop := ∃ b l, e = .returned (.pointer (some ⟨b, 0, none⟩)) ∧ base ≤ b ∧ HasPt w' (some ⟨b, 0, none⟩) (nearL us) (farL us) l ∧ IsLen us l
set_option maxRecDepth 100000 in
theorem prnew_all {w : World} {p : Option Addr} {us : List (List UInt8)} (h : IsPats w p us) :
    Calls Tryz.prog 55 #[.pointer p] w fun e w' => MadeT us w.heap.size e w' ∧ Below w.heap.size w w' := by
  have go : Calls Tryz.prog 55 #[.pointer p] w (fun e w' => MadePt us w.heap.size e w' ∧ Below w.heap.size w w') → Calls Tryz.prog 55 #[.pointer p] w fun e w' => MadeT us w.heap.size e w' ∧ Below w.heap.size w w' := by
    intro h
    refine h.mono ?_
    rintro e w' ⟨⟨b, g, n, D, rfl, h1, h2, h3, h4⟩, h5⟩
    exact ⟨⟨b, Maps.size D, rfl, h1, .inr ⟨b, g, n, D, rfl, h3, h4, near_le us, rfl⟩, h4.2⟩, h5⟩
  rcases h with ⟨rfl, rfl⟩ | ⟨b, rfl, h, hp⟩
  · exact go (prnew_by _ [] w (by simp) (by simp) (fun W _ => ptleast_nil W) (fun W _ => ptlen_nil W) (fun W k t _ h => by simp at h))
  · exact go (prnew_by _ us w (by have := hp.few; omega) (fun t ht => by have := hp.each t ht; omega) (fun W hW => by rw [leastR_some hp]; exact ptleast_any (h.below hW)) (fun W hW => ptlen_any (h.below hW)) (fun W k t hW hk => ptat_in (h.below hW) k t hk))

end Go.Proofs.YtmgcdhcidojdhaaGreat
