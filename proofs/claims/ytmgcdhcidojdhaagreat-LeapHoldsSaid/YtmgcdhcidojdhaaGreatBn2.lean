/-
  Texts put together: CaW, CaB, CpIn, IntoB, CaP, CaQ, LpC, LpL, PtM.
-/
import Derived.Test.YtmgcdhcidojdhaaGreatBn1
import Derived.Below
import Derived.WalkKit
import Derived.WalkSpells
import Derived.WalkLawsBesides
import Derived.Lib.Hide
import Derived.Lib.MinMax
import Derived.Lib.Strings
import Derived.Deep.QuietTactic
import Derived.BigQuiet
import Derived.Laws.CopyOwn
set_option linter.unusedSimpArgs false
set_option linter.unusedVariables false
namespace Go.Proofs.YtmgcdhcidojdhaaGreat
open Go.RowKit

set_option maxRecDepth 100000 in
set_option maxHeartbeats 1000000 in
theorem canew_bad (n : Int) (w : World) (h : n < 1 ∨ 65536 < n) :
    Calls Tryz.prog 20 #[.int .i64 n] w fun e w' => e = .returned (.tuple #[.pointer none, .int .i64 2]) ∧ w' = w := by
  by_cases h1 : n < 1
  · go_enter Tryz.func20, Tryz.ntmps20
    go_wp2
    go_ret2
    exact ⟨rfl, rfl⟩
  · have h2 : 65536 < n := by omega
    go_enter Tryz.func20, Tryz.ntmps20
    go_wp2
    go_ret2
    exact ⟨rfl, rfl⟩

set_option maxRecDepth 100000 in
set_option maxHeartbeats 1000000 in
theorem canew_w (n : Nat) (w : World) (h1 : 1 ≤ n) (h2 : n ≤ 65536) :
    Calls Tryz.prog 20 #[.int .i64 n] w fun e w' => e = .returned (.tuple #[.pointer (some ⟨w.heap.size, 0, none⟩), .int .i64 0]) ∧ w' = w.alloc (.cells #[.int .i64 n, .slice none 0 0, .int .i64 0, .int .i64 0] 82) := by
  go_enter Tryz.func20, Tryz.ntmps20
  go_wp2
  go_ret2
  exact ⟨rfl, rfl⟩
set_option maxRecDepth 100000 in
theorem canew_any (n : Nat) (w : World) (h1 : 1 ≤ n) (h2 : n ≤ 65536) :
    Calls Tryz.prog 20 #[.int .i64 n] w fun e w' => e = .returned (.tuple #[.pointer (some ⟨w.heap.size, 0, none⟩), .int .i64 0]) ∧ IsCarry w' (w.heap.size + 1) w.heap.size n [] 0 ∧ w'.heap.size = w.heap.size + 1 ∧ Below w.heap.size w w' := by
  refine (canew_w n w h1 h2).mono ?_
  rintro e w' ⟨rfl, rfl⟩
  exact ⟨rfl, carry_new h1 h2 (by omega) (by simp) (heap_alloc_new w _), by simp, (Below.refl _ _).alloc (Nat.le_refl _) _⟩

set_option maxRecDepth 100000 in
set_option maxHeartbeats 400000 in
theorem caseen_nil (w : World) : Calls Tryz.prog 32 #[.pointer none] w fun e w' => e = .returned (.int .i64 0) ∧ w' = w := by
  go_enter Tryz.func32, Tryz.ntmps32
  go_wp2
  go_ret
  exact ⟨rfl, rfl⟩
set_option maxRecDepth 100000 in
set_option maxHeartbeats 400000 in
theorem caseen_any {w : World} {base b keep done : Nat} {s : List UInt8} (h : IsCarry w base b keep s done) : Calls Tryz.prog 32 #[.pointer (some ⟨b, 0, none⟩)] w fun e w' => e = .returned (.int .i64 s.length) ∧ w' = w := by
  obtain ⟨_, _, _, _, _, gone, v, _, hh, _⟩ := h
  obtain ⟨⟨c0, c1, c2, c3⟩, _⟩ := carry_reads hh
  clear hh
  go_enter Tryz.func32, Tryz.ntmps32
  go_wp2
  go_ret
  exact ⟨rfl, rfl⟩
set_option maxRecDepth 100000 in
set_option maxHeartbeats 1000000 in
theorem cafirst_any {w : World} {base b keep done : Nat} {s : List UInt8} (h : IsCarry w base b keep s done) (hs : s.length ≤ 1000000000) : Calls Tryz.prog 84 #[.pointer (some ⟨b, 0, none⟩)] w fun e w' => e = .returned (.int .i64 ((done - keep : Nat) : Int)) ∧ ∃ q, w' = w.drewN q := by
  obtain ⟨_, _, h3, h4, h5, gone, v, _, hh, _⟩ := h
  obtain ⟨⟨c0, c1, c2, c3⟩, _⟩ := carry_reads hh
  have HM : Hid (max ((done : Int) - keep) 0 = ((done - keep : Nat) : Int)) := Lib.hid (by omega)
  clear hh
  go_enter Tryz.func84, Tryz.ntmps84
  go_wp2_with fail
  go_quiet (fail)
  go_wp2
  go_ret
  exact ⟨by rw [HM.out]; rfl, _, rfl⟩
set_option maxRecDepth 100000 in
set_option maxHeartbeats 1000000 in
theorem cabet_none {w : World} {base b keep done : Nat} {s : List UInt8} (h : IsCarry w base b keep s done) (hs : s.length ≤ 1000000000) (h0 : done ≤ keep) :
    ∃ v, Piece w v [] ∧ ∀ W : World, W.heap = w.heap → Calls Tryz.prog 78 #[.pointer (some ⟨b, 0, none⟩), .int .i64 0, .int .i64 0] W fun e w' => e = .returned v ∧ ∃ q, w' = W.drewN q := by
  obtain ⟨_, _, h3, h4, h5, gone, v, h6, hh, hown⟩ := h
  obtain rfl : gone = 0 := by omega
  obtain ⟨a, cap, rfl⟩ := owns_slice hown
  rw [Nat.sub_zero] at hh
  rcases hown.2 with ⟨ha, hn⟩ | ⟨g, cap', cur, ha, _⟩
  · simp only [Value.slice.injEq] at ha
    obtain ⟨rfl, _, rfl⟩ := ha
    rw [Nat.sub_zero] at hn
    rw [hn] at hh
    refine ⟨.slice none 0 0, ⟨none, 0, rfl, fun h => by simp at h⟩, fun W hW => ?_⟩
    rw [← hW] at hh
    obtain ⟨⟨c0, c1, c2, c3⟩, _⟩ := carry_reads hh
    clear hh hown hW
    go_enter Tryz.func78, Tryz.ntmps78
    go_wp2_with fail
    go_quiet (fail)
    go_wp2
    go_ret
    exact ⟨rfl, _, rfl⟩
  · simp only [Value.slice.injEq] at ha
    obtain ⟨rfl, _, rfl⟩ := ha
    refine ⟨.slice (some ⟨g, 0, none⟩) 0 cap, ⟨_, _, rfl, fun h => by simp at h⟩, fun W hW => ?_⟩
    rw [← hW] at hh
    obtain ⟨⟨c0, c1, c2, c3⟩, _⟩ := carry_reads hh
    clear hh hown hW
    go_enter Tryz.func78, Tryz.ntmps78
    go_wp2_with fail
    go_quiet (fail)
    go_wp2
    go_ret
    exact ⟨rfl, _, rfl⟩
end Go.Proofs.YtmgcdhcidojdhaaGreat

namespace Go.Proofs.YtmgcdhcidojdhaaGreat
open Go.RowKit

set_option maxRecDepth 100000 in
set_option maxHeartbeats 1000000 in
theorem cabet_some {w : World} {base b keep done : Nat} {s : List UInt8} (h : IsCarry w base b keep s done) (hs : s.length ≤ 1000000000) (f t : Nat) (hf : done - keep ≤ f) (hft : f < t) (ht : t ≤ s.length) :
    ∃ v, Piece w v (midL s f t) ∧ ∀ W : World, W.heap = w.heap → Calls Tryz.prog 78 #[.pointer (some ⟨b, 0, none⟩), .int .i64 f, .int .i64 t] W fun e w' => e = .returned v ∧ ∃ q, w' = W.drewN q := by
  obtain ⟨_, _, h3, h4, h5, gone, v, h6, hh, hown⟩ := h
  obtain ⟨n, hn⟩ : ∃ n, s.length = gone + n := ⟨s.length - gone, by omega⟩
  obtain ⟨i, rfl⟩ : ∃ i, f = gone + i := ⟨f - gone, by omega⟩
  obtain ⟨m, rfl⟩ : ∃ m, t = gone + i + m := ⟨t - (gone + i), by omega⟩
  have hng : s.length - gone = n := by omega
  rw [hng] at hown
  obtain ⟨g, cap, _, hcap, rfl⟩ := owns_some hown (by omega)
  have HP : Piece w (.slice (some ⟨g, i, none⟩) m (cap - i)) (midL s (gone + i) (gone + i + m)) := by
    have hl := midL_length s (gone + i) (gone + i + m) ht
    have hl' : (midL s (gone + i) (gone + i + m)).length = m := by omega
    refine ⟨_, _, by rw [hl'], fun _ => ⟨g, i, rfl, by omega, fun j hj => ?_⟩⟩
    rw [hown.cellAt (i + j) (by omega)]
    have e := midL_get s (gone + i) (gone + i + m) j ht (by omega)
    rw [List.getElem?_eq_getElem hj] at e
    simp only [Lib.byteCells, List.getElem?_map, List.getElem?_drop]
    rw [show gone + (i + j) = gone + i + j by omega, ← e]
    rfl
  refine ⟨_, HP, fun W hW => ?_⟩
  rw [hn] at hh
  rw [← hW] at hh
  obtain ⟨⟨c0, c1, c2, c3⟩, _⟩ := carry_reads hh
  have k0 : (gone : Int) + n ≤ 1000000000 := by omega
  have k1 : (i : Int) + m ≤ n := by omega
  have k2 : (n : Int) ≤ cap := by omega
  have k3 : ¬ cap = i := by omega
  have k4 : ¬ cap = gone + i - gone := by omega
  have HE : Hid (gone + i - gone = i) := Lib.hid (by omega)
  have HE2 : Hid (gone + i + m - gone - i = m) := Lib.hid (by omega)
  clear HP hW hh hown hn hng ht hft hf h6 h5 hs
  go_enter Tryz.func78, Tryz.ntmps78
  go_wp2_with fail
  go_quiet (fail)
  go_wp2
  go_ret
  refine ⟨?_, _, rfl⟩
  show Ending.returned (.slice (some ⟨g, gone + i - gone, none⟩) (gone + i + m - gone - (gone + i - gone)) (cap - (gone + i - gone))) = _
  rw [HE.out, HE2.out]
set_option maxRecDepth 100000 in
theorem cabet_any {w : World} {base b keep done : Nat} {s : List UInt8} (h : IsCarry w base b keep s done) (hs : s.length ≤ 1000000000) (f t : Nat) (hf : done - keep ≤ f) (hft : f < t ∨ f = 0 ∧ t = 0) (ht : t ≤ s.length) :
    ∃ v, Piece w v (midL s f t) ∧ ∀ W : World, W.heap = w.heap → Calls Tryz.prog 78 #[.pointer (some ⟨b, 0, none⟩), .int .i64 f, .int .i64 t] W fun e w' => e = .returned v ∧ ∃ q, w' = W.drewN q := by
  rcases hft with h2 | ⟨rfl, rfl⟩
  · exact cabet_some h hs f t hf h2 ht
  · rw [midL_none]
    exact cabet_none h hs (by omega)

set_option maxRecDepth 100000 in
theorem byK_in {s : List UInt8} {done keep e : Nat} (h1 : done - keep < e) (h2 : e ≤ s.length) : ∃ x, byK s done keep e = some x ∧ midL s (e - 1) e = [x] := by
  have hj : e - 1 < s.length := by omega
  refine ⟨s[e - 1], ?_, List.ext_getElem? fun j => ?_⟩
  · unfold byK
    rw [if_pos (by omega), show ((e : Int) - 1).toNat = e - 1 by omega]
    exact List.getElem?_eq_getElem hj
  · rcases Nat.eq_zero_or_pos j with rfl | hp
    · rw [midL_get s (e - 1) e 0 h2 (by omega), Nat.add_zero, List.getElem?_eq_getElem hj]
      rfl
    · rw [List.getElem?_eq_none (by rw [midL_length s _ _ h2]; omega), List.getElem?_eq_none (by simp; omega)]
set_option maxRecDepth 100000 in
theorem byK_out {s : List UInt8} {done keep : Nat} {e : Int} (h : e ≤ ((done - keep : Nat) : Int) ∨ (s.length : Int) < e) : byK s done keep e = none := if_neg (by omega)

set_option maxRecDepth 100000 in
set_option maxHeartbeats 400000 in
theorem cabyte_nil (e : Int) (w : World) : Calls Tryz.prog 65 #[.pointer none, .int .i64 e] w fun e w' => e = .returned (.tuple #[.int .u8 0, .bool false]) ∧ w' = w := by
  go_enter Tryz.func65, Tryz.ntmps65
  go_wp2
  go_ret2
  exact ⟨rfl, rfl⟩
set_option maxRecDepth 100000 in
set_option maxHeartbeats 1000000 in
theorem cabyte_any {w : World} {base b keep done : Nat} {s : List UInt8} (h : IsCarry w base b keep s done) (hs : s.length ≤ 1000000000) (e : Int) :
    Calls Tryz.prog 65 #[.pointer (some ⟨b, 0, none⟩), .int .i64 e] w fun x w' => x = cvR (byR (byK s done keep e)) ∧ ∃ q, w' = w.drewN q := by
  have HF := Lib.hid (cafirst_any h hs)
  have HB := Lib.hid (fun f t => cabet_any h hs f t)
  have HX := Lib.hid (fun (n : Nat) (h1 : done - keep < n) (h2 : n ≤ s.length) => byK_in (s := s) (keep := keep) (done := done) h1 h2)
  have HN := Lib.hid (fun (h : e ≤ ((done - keep : Nat) : Int) ∨ (s.length : Int) < e) => byK_out (s := s) (done := done) (keep := keep) h)
  obtain ⟨_, _, h3, h4, h5, gone, v, h6, hh, hown⟩ := h
  obtain ⟨⟨c0, c1, c2, c3⟩, _⟩ := carry_reads hh
  clear h5 h6 hh hown
  generalize done - keep = f at *
  by_cases h1 : e ≤ (f : Int)
  · have K1 := Lib.hid (HN.out (.inl h1))
    go_enter Tryz.func65, Tryz.ntmps65
    go_wp2_with fail
    refine HF.out.mono ?_
    rintro e' w' ⟨rfl, q, rfl⟩
    go_wp2
    go_ret2
    exact ⟨by rw [K1.out]; rfl, q, rfl⟩
  · by_cases h2 : (s.length : Int) < e
    · have K1 := Lib.hid (HN.out (.inr h2))
      go_enter Tryz.func65, Tryz.ntmps65
      go_wp2_with fail
      refine HF.out.mono ?_
      rintro e' w' ⟨rfl, q, rfl⟩
      go_wp2
      go_ret2
      exact ⟨by rw [K1.out]; rfl, q, rfl⟩
    · obtain ⟨n, rfl⟩ : ∃ n : Nat, e = ((n + 1 : Nat) : Int) := ⟨(e - 1).toNat, by omega⟩
      obtain ⟨x, hx1, hx2⟩ := HX.out (n + 1) (by omega) (by omega)
      have KX := Lib.hid hx1
      obtain ⟨v', hp, hb⟩ := HB.out n (n + 1) (by omega) (by omega) (by omega)
      have KB := Lib.hid hb
      rw [show n + 1 - 1 = n by omega] at hx2
      rw [hx2] at hp
      obtain ⟨a, cap, rfl, hp⟩ := hp
      obtain ⟨g, off, rfl, hcap, hc⟩ := hp (by simp)
      have hc0 : w.cell? ⟨g, off, none⟩ = some (.int .u8 (x.toNat : Int)) := hc 0 (by simp)
      clear hc hp hb
      clear hx1 hx2 HX HB HN
      go_enter Tryz.func65, Tryz.ntmps65
      go_wp2_with fail
      refine HF.out.mono ?_
      rintro e' w' ⟨rfl, q, rfl⟩
      go_wp2_with fail
      refine (KB.out (w.drewN q) rfl).mono ?_
      rintro e' w' ⟨rfl, q2, rfl⟩
      clear KB HF
      go_wp2
      go_ret2
      exact ⟨by rw [KX.out]; rfl, _, rfl⟩

set_option maxRecDepth 100000 in
theorem tlK_out {s : List UInt8} {done keep : Nat} {e : Int} (h : e < (done : Int) ∨ (s.length : Int) < e) : tlK s done keep e = none := if_neg (by omega)
set_option maxRecDepth 100000 in
theorem tlK_in {s : List UInt8} {done keep e : Nat} (h1 : done ≤ e) (h2 : e ≤ s.length) : tlK s done keep e = some (midL s (e - keep) e) := by
  unfold tlK
  rw [if_pos (by omega), Int.toNat_natCast]

set_option maxRecDepth 100000 in
set_option maxHeartbeats 400000 in
theorem catail_nil (e : Int) (w : World) : Calls Tryz.prog 61 #[.pointer none, .int .i64 e] w fun e w' => e = .returned (.tuple #[.string ⟨#[]⟩, .bool false]) ∧ w' = w := by
  go_enter Tryz.func61, Tryz.ntmps61
  go_wp2
  go_ret2
  exact ⟨rfl, rfl⟩
set_option maxRecDepth 100000 in
set_option maxHeartbeats 1000000 in
theorem catail_any {w : World} {base b keep done : Nat} {s : List UInt8} (h : IsCarry w base b keep s done) (hs : s.length ≤ 1000000000) (e : Int) :
    Calls Tryz.prog 61 #[.pointer (some ⟨b, 0, none⟩), .int .i64 e] w fun x w' => x = cvR (tlR (tlK s done keep e)) ∧ ∃ q, w' = w.drewN q := by
  have HB := Lib.hid (fun f t => cabet_any h hs f t)
  have HX := Lib.hid (fun (n : Nat) (h1 : done ≤ n) (h2 : n ≤ s.length) => tlK_in (s := s) (keep := keep) h1 h2)
  have HN := Lib.hid (fun (h : e < (done : Int) ∨ (s.length : Int) < e) => tlK_out (s := s) (done := done) (keep := keep) h)
  obtain ⟨_, _, h3, h4, h5, gone, v, h6, hh, hown⟩ := h
  obtain ⟨⟨c0, c1, c2, c3⟩, _⟩ := carry_reads hh
  clear h6 hh hown
  by_cases h1 : e < (done : Int)
  · have K1 := Lib.hid (HN.out (.inl h1))
    clear HB HX HN
    go_enter Tryz.func61, Tryz.ntmps61
    go_wp2
    go_ret2
    exact ⟨by rw [K1.out]; rfl, 0, rfl⟩
  · by_cases h2 : (s.length : Int) < e
    · have K1 := Lib.hid (HN.out (.inr h2))
      clear HB HX HN
      go_enter Tryz.func61, Tryz.ntmps61
      go_wp2
      go_ret2
      exact ⟨by rw [K1.out]; rfl, 0, rfl⟩
    · obtain ⟨n, rfl⟩ : ∃ n : Nat, e = (n : Int) := ⟨e.toNat, by omega⟩
      have KX := Lib.hid (HX.out n (by omega) (by omega))
      obtain ⟨v', hp, hb⟩ := HB.out (n - keep) n (by omega) (by omega) (by omega)
      have KB := Lib.hid (hb w rfl)
      have HP := Lib.hid (fun q => (hp.heap (w' := w.drewN q) rfl).text)
      clear hp hb
      have KM : Hid (max ((n : Int) - keep) 0 = ((n - keep : Nat) : Int)) := Lib.hid (by omega)
      have hn : (n : Int) ≤ 1000000000 := by omega
      clear HB HX HN
      go_enter Tryz.func61, Tryz.ntmps61
      go_wp2_with fail
      rw [KM.out]
      refine KB.out.mono ?_
      rintro e' w' ⟨rfl, q, rfl⟩
      have hcv := HP.out q
      clear KB HP
      go_wp2
      go_ret2
      exact ⟨by rw [KX.out]; rfl, q, rfl⟩
end Go.Proofs.YtmgcdhcidojdhaaGreat

namespace Go.Proofs.YtmgcdhcidojdhaaGreat
open Go.RowKit


/-- 'copy' into a row of a block: all else is as it was. -/
theorem wpList_copy_into {P : Program} {w : World} {ops : Array Oper} {rest : List Oper} {o : Oper} {a : Act} {Q : Exit → Act → World → Prop} (hgd : o.guard = none) (d s : Operand) (dT sT : TypeId)
    (ho : o.op = .call { callee := .builtin .copy, args := #[d, s], argTypes := #[dT, sT] }) (elem : TypeId) (hu : P.underlying dT = some (.slice elem)) (hsz : (P.info? elem).map (·.size) = some 1)
    (g off dLen dCap : Nat) (ad : Addr) (sLen sCap : Nat) (hd : a.eval d = .slice (some ⟨g, off, none⟩) dLen dCap) (hs : a.eval s = .slice (some ad) sLen sCap)
    (cur : List Value) (t : TypeId) (hg : w.heap[g]? = some (.cells cur.toArray t (0, 0))) (cs : List Value) (hn : cs.length = Nat.min sLen dLen)
    (hsrc : ∀ j v, cs[j]? = some v → w.cell? (ad.add j) = some v) (hfit : off + cs.length ≤ cur.length) (h1 : ∀ v ∈ cs, v.oneCell' = true)
    (h : ∀ w', Into g w w' → Hid (w'.heap[g]? = some (.cells (splice cur off cs).toArray t (0, 0))) → wpList P ops Q rest (a.put o.dst (goInt cs.length)) w') : wpList P ops Q (o :: rest) a w := by
  refine wpList_copy_own hgd d s dT sT ho elem hu hsz g off dLen dCap ad sLen sCap hd hs cur.toArray t hg cs hn hsrc (by simpa using hfit) h1 ?_
  refine h _ ⟨rfl, rfl, rfl, by simp [World.setRow], fun k hk => setRow_other w g k _ hk⟩ (show _ = _ by simpa [splice] using setRow_heap w g _ _ t _ hg)

end Go.Proofs.YtmgcdhcidojdhaaGreat

namespace Go.Proofs.YtmgcdhcidojdhaaGreat
open Go.RowKit

theorem Into.trans {b : Nat} {u v w : World} (h : Into b u v) (k : Into b v w) : Into b u w := ⟨k.os.trans h.os, k.tape.trans h.tape, k.output.trans h.output, k.size.trans h.size, fun i hi => (k.block i hi).trans (h.block i hi)⟩
theorem Into.belowTo {b B : Nat} {w w' : World} (h : Into b w w') (hB : B ≤ b) : Below B w w' := ⟨h.os, h.tape, h.output, Nat.le_of_eq h.size.symm, fun k hk => h.block k (by omega)⟩
end Go.Proofs.YtmgcdhcidojdhaaGreat

namespace Go.Proofs.YtmgcdhcidojdhaaGreat
open Go.RowKit

set_option maxRecDepth 100000 in
theorem ca8_info : (Tryz.prog.info? 5).map (fun i => (i.zero, i.size, i.bytes)) = some (some (.int .u8 0), 1, 1) := by kernel_rfl
set_option maxRecDepth 100000 in
theorem ca8_size : (Tryz.prog.info? 5).map (·.size) = some 1 := by kernel_rfl

set_option maxRecDepth 100000 in
set_option maxHeartbeats 400000 in
theorem caadd_nil (t : ByteArray) (w : World) : Calls Tryz.prog 21 #[.pointer none, .string t] w fun e w' => e = .returned (.tuple #[]) ∧ w' = w := by
  go_enter Tryz.func21, Tryz.ntmps21
  go_wp2
  refine bodyPost_ret (results_none rfl _ _ _) rfl ?_
  exact ⟨rfl, rfl⟩

set_option maxRecDepth 100000 in
/-- A carry whose cells were laid anew. -/
theorem carry_done {base b keep done gone : Nat} {s : List UInt8} {v : Value} {w w' W : World} (hb : b < base) (hB : base ≤ w.heap.size) (h3 : 1 ≤ keep) (h4 : keep ≤ 65536) (h5 : done ≤ s.length) (h6 : gone ≤ done - keep) (hbut : But base b w w') (hin : Into b w' W)
    (hh : W.heap[b]? = some (.cells #[.int .i64 keep, v, .int .i64 s.length, .int .i64 done] 82 (0, 0))) (hown : w'.ownsRow base 5 1 v (s.length - gone) (Lib.byteCells (s.drop gone))) :
    IsCarry W base b keep s done ∧ But base b w W :=
  ⟨⟨hb, by have := hbut.size; have := hin.size; omega, h3, h4, h5, gone, v, h6, hh, hin.owns hb hown⟩,
    hin.os.trans hbut.os, hin.tape.trans hbut.tape, hin.output.trans hbut.output, by have := hbut.size; have := hin.size; omega, fun k hk hkb => (hin.block k hkb).trans (hbut.block k hk hkb)⟩

set_option maxRecDepth 100000 in
theorem cells_app (l t : List UInt8) : Lib.byteCells (l ++ t) = Lib.byteCells l ++ Lib.byteCells t := by simp [Lib.byteCells]
set_option maxRecDepth 100000 in
theorem cells_text (t : List UInt8) : Lib.strCells ⟨t.toArray⟩ = Lib.byteCells t := rfl

set_option maxRecDepth 100000 in
set_option maxHeartbeats 2000000 in
theorem caadd_any {w : World} {base b keep done : Nat} {s : List UInt8} (h : IsCarry w base b keep s done) (t : List UInt8) (hs : s.length + t.length ≤ 1000000000) :
    Calls Tryz.prog 21 #[.pointer (some ⟨b, 0, none⟩), .string ⟨t.toArray⟩] w fun e w' => e = .returned (.tuple #[]) ∧ IsCarry w' base b keep (s ++ t) done ∧ But base b w w' := by
  obtain ⟨hb, hB, h3, h4, h5, gone, v, h6, hh, hown⟩ := h
  obtain ⟨i0, hi, hz0, hz1, hz2⟩ := info_parts ca8_info
  obtain ⟨a, cap, rfl⟩ := owns_slice hown
  obtain ⟨⟨c0, c1, c2, c3⟩, _⟩ := carry_reads hh
  have hsz := bsize t
  have HS := Lib.hid hsz
  go_enter Tryz.func21, Tryz.ntmps21
  go_wp2_with (at_builtin; refine Lib.wpList_append_own_string _ rfl _ _ 80 9 rfl base 5 i0 Tryz.underlying80 Tryz.underlying9 hi hz0 hz1 hz2 _ _ _ rfl hown ⟨t.toArray⟩ rfl ?c3 ?c4 ?c5 ?_)
  case c3 => unfold maxLen; omega
  case c4 => omega
  case c5 => omega
  intro v' w2 hown' hgrow _
  have hbw : b < w.heap.size := lt_of_heap hh
  have hne : ∀ k, k < base → some k ≠ (Value.slice a (s.length - gone) cap).ownBlock := fun k hk e => by have := (hown.lt k e.symm).1; omega
  have hh2 : w2.heap[b]? = some (.cells #[.int .i64 keep, .slice a (s.length - gone) cap, .int .i64 s.length, .int .i64 done] 82 (0, 0)) := (hgrow.block b hbw (hne b hb)).trans hh
  have hb2 : But base b w w2 := ⟨hgrow.os, hgrow.tape, hgrow.output, hgrow.size, fun k hk hkb => hgrow.block k (by omega) (hne k hk)⟩
  have hlen : s.length - gone + (⟨t.toArray⟩ : ByteArray).size = (s ++ t).length - gone := by rw [hsz, List.length_append]; omega
  have hown3 : w2.ownsRow base 5 1 v' ((s ++ t).length - gone) (Lib.byteCells ((s ++ t).drop gone)) := by
    rw [List.drop_append_of_le_length (by omega), cells_app, ← hlen]
    exact hown'
  have HO := Lib.hid hown3
  have HB2 := Lib.hid hb2
  have HL : Hid (((s ++ t).length : Int) = (s.length : Int) + (t.length : Int)) := Lib.hid (by rw [List.length_append]; omega)
  clear hgrow hne hown hh c0 c1 c2 c3 hown' hown3 hb2 hlen hsz
  obtain ⟨⟨c0, c1, c2, c3⟩, f1, f2, f3⟩ := carry_reads hh2
  obtain ⟨a', cap', rfl⟩ := owns_slice HO.out
  go_wp2
  go_end0
  refine ⟨rfl, carry_done (gone := gone) hb hB h3 h4 (by have := HL.out; omega) h6 HB2.out (((Into.refl b w2).set 1 _).set 2 _) ?_ HO.out⟩
  refine (put_heap (put_heap hh2 _) _).trans ?_
  rw [HL.out]
  simp [HS.out]

set_option maxRecDepth 100000 in
theorem ca_make (n : Nat) (w : World) (hn : n ≤ 1000000000) : (Instr.makeSlice 80 (.int .i64 (n : Int)) (.int .i64 (n : Int))).run Tryz.prog w = .ok (.slice (some ⟨w.heap.size, 0, none⟩) n n) (w.alloc (.cells (List.replicate n (Value.int .u8 0)).toArray 5)) := by
  obtain ⟨i0, hi, hz0, hz1, hz2⟩ := info_parts ca8_info
  have h := run_make (P := Tryz.prog) w 80 5 i0 (.int .u8 0) Tryz.underlying80 hi hz0 .i64 .i64 n n (by omega) (Int.le_refl _) (by rw [hz2]; omega) (by omega)
  rw [h, hz1, Nat.mul_one, Int.toNat_natCast]
  congr 3
  show madeCells #[Value.int .u8 0] n = _
  rw [← toList_madeCells_one]

set_option maxRecDepth 100000 in
/-- No cell of a carry's own block is a byte. -/
theorem carry_ne {w : World} {b keep seen done L cap o : Nat} {a : Option Addr} {x : Int} (h : w.heap[b]? = some (.cells #[.int .i64 keep, .slice a L cap, .int .i64 seen, .int .i64 done] 82 (0, 0))) (hc : w.cell? ⟨b, o, none⟩ = some (.int .u8 x)) : False := by
  rw [Lib.cell_of_heap h] at hc
  match o, hc with
  | 0, hc => simp at hc
  | 1, hc => simp at hc
  | 2, hc => simp at hc
  | 3, hc => simp at hc
  | (o + 4), hc => simp at hc

set_option maxRecDepth 100000 in
theorem splice_all {α : Type} (L cs : List α) (h : cs.length = L.length) : splice L 0 cs = cs := by
  unfold splice
  rw [List.take_zero, List.nil_append, Nat.zero_add, h, List.drop_length, List.append_nil]

set_option maxRecDepth 100000 in
set_option maxHeartbeats 4000000 in
theorem cagive_any {w : World} {base b keep done : Nat} {s : List UInt8} (h : IsCarry w base b keep s done) (hs : s.length ≤ 1000000000) :
    Calls Tryz.prog 67 #[.pointer (some ⟨b, 0, none⟩)] w fun e w' => e = .returned (.tuple #[]) ∧ IsCarry w' base b keep s done ∧ But w.heap.size b w w' := by
  have H0 := Lib.hid h
  have HF := Lib.hid (fun q => Calls.quiet_of (cafirst_any (h.drewN q) hs))
  have h3 := h.2.2.1
  have h5 := h.2.2.2.2.1
  obtain ⟨v', hp, hb⟩ := cabet_any h hs (done - keep) s.length (by omega) (by omega) (by omega)
  have HB := Lib.hid (fun q => Calls.quiet_of (hb (w.drewN q) rfl))
  rw [midL_whole] at hp
  have hdl : (s.drop (done - keep)).length = s.length - (done - keep) := List.length_drop
  obtain ⟨hbb, hB, _, h4, _, gone, v, h6, hh, hown⟩ := h
  obtain ⟨a, cap, rfl⟩ := owns_slice hown
  obtain ⟨⟨c0, c1, c2, c3⟩, f1, _⟩ := carry_reads hh
  obtain ⟨a', cap', rfl, hp2⟩ := hp.cells
  clear hp
  have hp := hp2
  clear hp2
  rw [hdl] at hp HB
  have HD := Lib.hid hdl
  have HP := Lib.hid hp
  have HO := Lib.hid hown
  have HH := Lib.hid hh
  have hbw := lt_of_heap hh
  obtain ⟨f, hf⟩ : ∃ f, done - keep = f := ⟨_, rfl⟩
  have hfl : f ≤ s.length := by omega
  rw [hf] at HF HB HD HP h6
  have HFE := Lib.hid hf
  obtain ⟨n, hn⟩ : ∃ n, s.length - f = n := ⟨_, rfl⟩
  rw [hn] at HB HD HP
  obtain ⟨L, hL⟩ : ∃ L, s.length - gone = L := ⟨_, rfl⟩
  rw [hL] at c1 HO HH
  have hnl : n ≤ L := by omega
  have hLs : L ≤ 1000000000 := by omega
  have HL := Lib.hid hL
  have HN := Lib.hid hn
  clear hp hb hown hh hdl hf hL hn hs
  by_cases hstay : (L : Int) - (n : Int) ≤ (n : Int)
  · go_enter Tryz.func67, Tryz.ntmps67
    go_wp2_with fail
    go_quiet (first | with_reducible exact HF.out _ | with_reducible exact HB.out _)
    go_wp2
    refine bodyPost_ret (results_none rfl _ _ _) rfl ?_
    exact ⟨rfl, H0.out.drewN _, rfl, rfl, rfl, Nat.le_refl _, fun _ _ _ => rfl⟩
  · have hn0 : 0 < n := by
      have := HN.out
      have := HFE.out
      have := HL.out
      omega
    obtain ⟨g, off, rfl, hcap, hc⟩ := HP.out (hn0)
    have HMK := Lib.hid (fun W => ca_make n W (by omega))
    have HC := Lib.hid hc
    clear hc HP
    go_enter Tryz.func67, Tryz.ntmps67
    go_wp2_with fail
    go_quiet (first | with_reducible exact HF.out _ | with_reducible exact HB.out _)
    obtain ⟨w2, hw2, hmk⟩ : ∃ w2, w2 = (w.drewN nq).alloc (.cells (List.replicate n (Value.int .u8 0)).toArray 5) ∧ (Instr.makeSlice 80 (.int .i64 (n : Int)) (.int .i64 (n : Int))).run Tryz.prog (w.drewN nq) = .ok (.slice (some ⟨w.heap.size, 0, none⟩) n n) w2 := ⟨_, rfl, HMK.out (w.drewN nq)⟩
    have hh2 : w2.heap[b]? = some (.cells #[.int .i64 keep, .slice a L cap, .int .i64 s.length, .int .i64 done] 82 (0, 0)) := by
      rw [hw2]
      exact (Lib.alloc_old (w.drewN nq) _ b hbw).trans HH.out
    have hg2 : w2.heap[w.heap.size]? = some (.cells (List.replicate n (Value.int .u8 0)).toArray 5 (0, 0)) := by
      rw [hw2]
      exact heap_alloc_new (w.drewN nq) _
    have HB2 : Hid (Below w.heap.size w w2) := Lib.hid (by rw [hw2]; exact (show Below w.heap.size w (w.drewN nq) from ⟨rfl, rfl, rfl, Nat.le_refl _, fun _ _ => rfl⟩).alloc (Nat.le_refl _) _)
    clear hw2 HMK HF HB c0 c2 c3 f1
    obtain ⟨⟨_, d1, _, _⟩, f1, _⟩ := carry_reads hh2
    have HH2 := Lib.hid hh2
    have HG2 := Lib.hid hg2
    clear hh2 hg2
    go_wp2_with (refine wpList_copy_into rfl (.tmp 31) (.tmp 32) 80 80 rfl 5 Tryz.underlying80 ca8_size w.heap.size 0 n n ⟨g, off, none⟩ n cap' rfl rfl (List.replicate n (Value.int .u8 0)) 5 ?cg (Lib.byteCells (s.drop f)) ?cn ?cs ?cf ?c1 ?_)
    case cg => exact (put_other (by omega) _).trans HG2.out
    case cn =>
      have := HD.out
      simp only [Lib.byteCells, List.length_map]
      rw [this]
      exact (Nat.min_self n).symm
    case cs =>
      intro j u hu
      have hc := HC.out j u hu
      rw [addPlain] at hc ⊢
      have hlt := World.block_lt_of_cell? w _ hc
      have hgb : g ≠ b := by
        rintro rfl
        simp only [Lib.byteCells, List.getElem?_map, Option.map_eq_some_iff] at hu
        obtain ⟨x, _, rfl⟩ := hu
        exact carry_ne HH.out hc
      rw [World.cell?_of_block (w := w) ((put_other hgb _).trans (HB2.out.block g hlt))]
      exact hc
    case cf =>
      have := HD.out
      simp only [Lib.byteCells, List.length_map, List.length_replicate]
      omega
    case c1 =>
      intro u hu
      simp only [Lib.byteCells, List.mem_map] at hu
      obtain ⟨x, _, rfl⟩ := hu
      rfl
    intro w3 hI hG
    have hG3 : w3.heap[w.heap.size]? = some (.cells (Lib.byteCells (s.drop f)).toArray 5 (0, 0)) := by
      have := hG.out
      rwa [splice_all _ _ (by have := HD.out; simp only [Lib.byteCells, List.length_map, List.length_replicate]; exact this)] at this
    have hH3 : w3.heap[b]? = some (.cells #[.int .i64 keep, .slice (some ⟨w.heap.size, 0, none⟩) n n, .int .i64 s.length, .int .i64 done] 82 (0, 0)) := by
      rw [hI.block b (by omega), put_heap HH2.out]
      simp
    have hbut : But w.heap.size b w w3 := by
      refine ⟨hI.os.trans HB2.out.os, hI.tape.trans HB2.out.tape, hI.output.trans HB2.out.output, ?_, fun k hk hkb => ?_⟩
      · rw [hI.size]
        have := HB2.out.size
        simpa [World.setCell] using this
      · rw [hI.block k (by omega), put_other hkb]
        exact HB2.out.block k hk
    have K1 := Lib.hid hG3
    have K2 := Lib.hid hH3
    have K3 := Lib.hid hbut
    clear hG hI hG3 hH3 hbut hmk HC c1 d1
    go_wp2
    go_end0
    refine ⟨rfl, ⟨hbb, by have := K3.out.size; omega, h3, h4, h5, f, _, by rw [HFE.out]; exact Nat.le_refl _, K2.out, ?_, .inr ⟨w.heap.size, n, _, ?_, hB, K1.out, ?_, ?_, ?_, ?_⟩⟩, K3.out⟩
    · have := HD.out
      have := HN.out
      simp only [Lib.byteCells, List.length_map]
      omega
    · rw [HN.out]
    · have := HN.out
      omega
    · unfold maxLen
      omega
    · have := HD.out
      simp only [Lib.byteCells, List.size_toArray, List.length_map]
      omega
    · have := HD.out
      have := HN.out
      refine List.take_of_length_le ?_
      simp only [Lib.byteCells, List.length_map]
      omega
end Go.Proofs.YtmgcdhcidojdhaaGreat

namespace Go.Proofs.YtmgcdhcidojdhaaGreat
open Go.RowKit

set_option maxRecDepth 100000 in
set_option maxHeartbeats 400000 in
theorem capass_nil (e : Int) (w : World) : Calls Tryz.prog 47 #[.pointer none, .int .i64 e] w fun e w' => e = .returned (.int .i64 1) ∧ w' = w := by
  go_enter Tryz.func47, Tryz.ntmps47
  go_wp2
  go_ret
  exact ⟨rfl, rfl⟩
set_option maxRecDepth 100000 in
set_option maxHeartbeats 1000000 in
theorem capass_bad {w : World} {base b keep done : Nat} {s : List UInt8} (h : IsCarry w base b keep s done) (e : Int) (he : e < (done : Int) ∨ (s.length : Int) < e) :
    Calls Tryz.prog 47 #[.pointer (some ⟨b, 0, none⟩), .int .i64 e] w fun x w' => x = .returned (.int .i64 11) ∧ w' = w := by
  obtain ⟨_, _, h3, h4, h5, gone, v, h6, hh, hown⟩ := h
  obtain ⟨⟨c0, c1, c2, c3⟩, _⟩ := carry_reads hh
  clear h6 hh hown
  by_cases h1 : e < (done : Int)
  · go_enter Tryz.func47, Tryz.ntmps47
    go_wp2
    go_ret
    exact ⟨rfl, rfl⟩
  · have h2 : (s.length : Int) < e := by omega
    go_enter Tryz.func47, Tryz.ntmps47
    go_wp2
    go_ret
    exact ⟨rfl, rfl⟩
set_option maxRecDepth 100000 in
set_option maxHeartbeats 1000000 in
theorem capass_any {w : World} {base b keep done : Nat} {s : List UInt8} (h : IsCarry w base b keep s done) (hs : s.length ≤ 1000000000) (e : Nat) (h1 : done ≤ e) (h2 : e ≤ s.length) :
    Calls Tryz.prog 47 #[.pointer (some ⟨b, 0, none⟩), .int .i64 (e : Int)] w fun x w' => x = .returned (.int .i64 0) ∧ IsCarry w' base b keep s e ∧ But w.heap.size b w w' := by
  obtain ⟨hb, hB, h3, h4, h5, gone, v, h6, hh, hown⟩ := h
  have HI : Hid (IsCarry (w.setCell ⟨b, 3, none⟩ (.int .i64 (e : Int))) base b keep s e) := Lib.hid ⟨hb, by simpa [World.setCell] using hB, h3, h4, h2, gone, v, by omega, (put_heap hh _).trans (by simp), ((Into.refl b w).set 3 _).owns hb hown⟩
  have HG := Lib.hid (cagive_any HI.out hs)
  have HN : Hid (But w.heap.size b w (w.setCell ⟨b, 3, none⟩ (.int .i64 (e : Int)))) := Lib.hid ⟨rfl, rfl, rfl, by simp [World.setCell], fun k _ hk => put_other hk _⟩
  have HZ : Hid ((w.setCell ⟨b, 3, none⟩ (.int .i64 (e : Int))).heap.size = w.heap.size) := Lib.hid (by simp [World.setCell])
  obtain ⟨⟨c0, c1, c2, c3⟩, f1, f2, f3⟩ := carry_reads hh
  have k1 : ¬ (e : Int) < (done : Int) := by omega
  have k2 : ¬ (s.length : Int) < (e : Int) := by omega
  clear h6 hh hown h1 h2 h5
  go_enter Tryz.func47, Tryz.ntmps47
  go_wp2_with fail
  refine HG.out.mono ?_
  rintro e' w3 ⟨rfl, hi, hbt⟩
  have K1 := Lib.hid hi
  have K2 := Lib.hid (HN.out.trans (by rw [HZ.out] at hbt; exact hbt))
  clear hi hbt HG HI HN HZ c0 c1 c2 c3 f1 f2 f3
  go_wp2
  go_ret
  exact ⟨rfl, K1.out, K2.out⟩
end Go.Proofs.YtmgcdhcidojdhaaGreat

namespace Go.Proofs.YtmgcdhcidojdhaaGreat
open Go.RowKit

/-- A carry in block b; v: its slice of bytes. -/
def IsCarV (w : World) (base b : Nat) (v : Value) (keep : Nat) (s : List UInt8) (done : Nat) : Prop :=
  b < base ∧ base ≤ w.heap.size ∧ 1 ≤ keep ∧ keep ≤ 65536 ∧ done ≤ s.length ∧ ∃ (gone : Nat), gone ≤ done - keep ∧
    w.heap[b]? = some (.cells #[.int .i64 keep, v, .int .i64 s.length, .int .i64 done] 82 (0, 0)) ∧
    w.ownsRow base 5 1 v (s.length - gone) (Lib.byteCells (s.drop gone))
theorem IsCarV.car {w : World} {base b keep done : Nat} {s : List UInt8} {v : Value} (h : IsCarV w base b v keep s done) : IsCarry w base b keep s done := by
  obtain ⟨h1, h2, h3, h4, h5, gone, h6⟩ := h
  exact ⟨h1, h2, h3, h4, h5, gone, v, h6⟩
theorem IsCarry.carV {w : World} {base b keep done : Nat} {s : List UInt8} (h : IsCarry w base b keep s done) : ∃ v, IsCarV w base b v keep s done := by
  obtain ⟨h1, h2, h3, h4, h5, gone, v, h6⟩ := h
  exact ⟨v, h1, h2, h3, h4, h5, gone, h6⟩
theorem IsCarV.lt {w : World} {base b keep done : Nat} {s : List UInt8} {v : Value} (h : IsCarV w base b v keep s done) : b < w.heap.size := h.car.lt
theorem IsCarV.row {w : World} {base b keep done : Nat} {s : List UInt8} {v : Value} (h : IsCarV w base b v keep s done) {g : Nat} (hg : v.ownBlock = some g) : base ≤ g ∧ g < w.heap.size := by
  obtain ⟨h1, h2, h3, h4, h5, gone, h6, hh, hown⟩ := h
  exact hown.lt g hg
theorem IsCarV.same {w w' : World} {base b keep done : Nat} {s : List UInt8} {v : Value} (h : IsCarV w base b v keep s done) (hs : w.heap.size ≤ w'.heap.size) (hb : w'.heap[b]? = w.heap[b]?) (hr : ∀ g, v.ownBlock = some g → w'.heap[g]? = w.heap[g]?) : IsCarV w' base b v keep s done := by
  obtain ⟨h1, h2, h3, h4, h5, gone, h6, h7, hl, hx⟩ := h
  refine ⟨h1, by omega, h3, h4, h5, gone, h6, hb.trans h7, hl, ?_⟩
  rcases hx with hx | ⟨g, cap, cur, hv, hg, hh, r⟩
  · exact .inl hx
  · exact .inr ⟨g, cap, cur, hv, hg, (hr g (by rw [hv]; rfl)).trans hh, r⟩
theorem IsCarV.below {w w' : World} {base b keep done : Nat} {s : List UInt8} {v : Value} (h : IsCarV w base b v keep s done) (hb : Below w.heap.size w w') : IsCarV w' base b v keep s done :=
  h.same hb.size (hb.block b h.lt) (fun g hg => hb.block g (h.row hg).2)

set_option maxRecDepth 100000 in
set_option maxHeartbeats 2000000 in
theorem lpadd_any {w : World} {base b keep done : Nat} {s : List UInt8} (h : IsCarry w base b keep s done) (t : List UInt8) (hs : s.length + t.length ≤ 1000000000) :
    Calls Tryz.prog 21 #[.pointer (some ⟨b, 0, none⟩), .string ⟨t.toArray⟩] w fun e w' => e = .returned (.tuple #[]) ∧ (IsCarry w' base b keep (s ++ t) done ∧ But base b w w') ∧ Kept b 5 w w' := by
  obtain ⟨hb, hB, h3, h4, h5, gone, v, h6, hh, hown⟩ := h
  obtain ⟨i0, hi, hz0, hz1, hz2⟩ := info_parts ca8_info
  obtain ⟨a, cap, rfl⟩ := owns_slice hown
  obtain ⟨⟨c0, c1, c2, c3⟩, _⟩ := carry_reads hh
  have hsz := bsize t
  have HS := Lib.hid hsz
  go_enter Tryz.func21, Tryz.ntmps21
  go_wp2_with (at_builtin; refine Lib.wpList_append_own_string _ rfl _ _ 80 9 rfl base 5 i0 Tryz.underlying80 Tryz.underlying9 hi hz0 hz1 hz2 _ _ _ rfl hown ⟨t.toArray⟩ rfl ?c3 ?c4 ?c5 ?_)
  case c3 => unfold maxLen; omega
  case c4 => omega
  case c5 => omega
  intro v' w2 hown' hgrow _
  have hbw : b < w.heap.size := lt_of_heap hh
  have hne : ∀ k, k < base → some k ≠ (Value.slice a (s.length - gone) cap).ownBlock := fun k hk e => by have := (hown.lt k e.symm).1; omega
  have hh2 : w2.heap[b]? = some (.cells #[.int .i64 keep, .slice a (s.length - gone) cap, .int .i64 s.length, .int .i64 done] 82 (0, 0)) := (hgrow.block b hbw (hne b hb)).trans hh
  have hb2 : But base b w w2 := ⟨hgrow.os, hgrow.tape, hgrow.output, hgrow.size, fun k hk hkb => hgrow.block k (by omega) (hne k hk)⟩
  have hlen : s.length - gone + (⟨t.toArray⟩ : ByteArray).size = (s ++ t).length - gone := by rw [hsz, List.length_append]; omega
  have hown3 : w2.ownsRow base 5 1 v' ((s ++ t).length - gone) (Lib.byteCells ((s ++ t).drop gone)) := by
    rw [List.drop_append_of_le_length (by omega), cells_app, ← hlen]
    exact hown'
  have HO := Lib.hid hown3
  have HK := Lib.hid ((Kept.refl b 5 w).grown hown hgrow)
  have HB2 := Lib.hid hb2
  have HL : Hid (((s ++ t).length : Int) = (s.length : Int) + (t.length : Int)) := Lib.hid (by rw [List.length_append]; omega)
  clear hgrow hne hown hh c0 c1 c2 c3 hown' hown3 hb2 hlen hsz
  obtain ⟨⟨c0, c1, c2, c3⟩, f1, f2, f3⟩ := carry_reads hh2
  obtain ⟨a', cap', rfl⟩ := owns_slice HO.out
  go_wp2
  go_end0
  refine ⟨rfl, carry_done (gone := gone) hb hB h3 h4 (by have := HL.out; omega) h6 HB2.out (((Into.refl b w2).set 1 _).set 2 _) ?_ HO.out, (HK.out.setCell _ _).setCell _ _⟩
  refine (put_heap (put_heap hh2 _) _).trans ?_
  rw [HL.out]
  simp [HS.out]


set_option maxRecDepth 100000 in
set_option maxHeartbeats 4000000 in
theorem lpgive_any {w : World} {base b keep done : Nat} {s : List UInt8} {v : Value} (hV : IsCarV w base b v keep s done) (hs : s.length ≤ 1000000000) :
    Calls Tryz.prog 67 #[.pointer (some ⟨b, 0, none⟩)] w fun e w' => e = .returned (.tuple #[]) ∧ (∃ v', IsCarV w' base b v' keep s done ∧ (v'.ownBlock = v.ownBlock ∨ v'.ownBlock = some w.heap.size)) ∧ But w.heap.size b w w' := by
  have h := hV.car
  have H0 := Lib.hid hV
  have HF := Lib.hid (fun q => Calls.quiet_of (cafirst_any (h.drewN q) hs))
  have h3 := h.2.2.1
  have h5 := h.2.2.2.2.1
  obtain ⟨v', hp, hb⟩ := cabet_any h hs (done - keep) s.length (by omega) (by omega) (by omega)
  have HB := Lib.hid (fun q => Calls.quiet_of (hb (w.drewN q) rfl))
  rw [midL_whole] at hp
  have hdl : (s.drop (done - keep)).length = s.length - (done - keep) := List.length_drop
  clear h
  obtain ⟨hbb, hB, _, h4, _, gone, h6, hh, hown⟩ := hV
  obtain ⟨a, cap, rfl⟩ := owns_slice hown
  obtain ⟨⟨c0, c1, c2, c3⟩, f1, _⟩ := carry_reads hh
  obtain ⟨a', cap', rfl, hp2⟩ := hp.cells
  clear hp
  have hp := hp2
  clear hp2
  rw [hdl] at hp HB
  have HD := Lib.hid hdl
  have HP := Lib.hid hp
  have HO := Lib.hid hown
  have HH := Lib.hid hh
  have hbw := lt_of_heap hh
  obtain ⟨f, hf⟩ : ∃ f, done - keep = f := ⟨_, rfl⟩
  have hfl : f ≤ s.length := by omega
  rw [hf] at HF HB HD HP h6
  have HFE := Lib.hid hf
  obtain ⟨n, hn⟩ : ∃ n, s.length - f = n := ⟨_, rfl⟩
  rw [hn] at HB HD HP
  obtain ⟨L, hL⟩ : ∃ L, s.length - gone = L := ⟨_, rfl⟩
  rw [hL] at c1 HO HH
  have hnl : n ≤ L := by omega
  have hLs : L ≤ 1000000000 := by omega
  have HL := Lib.hid hL
  have HN := Lib.hid hn
  clear hp hb hown hh hdl hf hL hn hs
  by_cases hstay : (L : Int) - (n : Int) ≤ (n : Int)
  · go_enter Tryz.func67, Tryz.ntmps67
    go_wp2_with fail
    go_quiet (first | with_reducible exact HF.out _ | with_reducible exact HB.out _)
    go_wp2
    refine bodyPost_ret (results_none rfl _ _ _) rfl ?_
    exact ⟨rfl, ⟨_, H0.out, .inl rfl⟩, rfl, rfl, rfl, Nat.le_refl _, fun _ _ _ => rfl⟩
  · have hn0 : 0 < n := by
      have := HN.out
      have := HFE.out
      have := HL.out
      omega
    obtain ⟨g, off, rfl, hcap, hc⟩ := HP.out (hn0)
    have HMK := Lib.hid (fun W => ca_make n W (by omega))
    have HC := Lib.hid hc
    clear hc HP
    go_enter Tryz.func67, Tryz.ntmps67
    go_wp2_with fail
    go_quiet (first | with_reducible exact HF.out _ | with_reducible exact HB.out _)
    obtain ⟨w2, hw2, hmk⟩ : ∃ w2, w2 = (w.drewN nq).alloc (.cells (List.replicate n (Value.int .u8 0)).toArray 5) ∧ (Instr.makeSlice 80 (.int .i64 (n : Int)) (.int .i64 (n : Int))).run Tryz.prog (w.drewN nq) = .ok (.slice (some ⟨w.heap.size, 0, none⟩) n n) w2 := ⟨_, rfl, HMK.out (w.drewN nq)⟩
    have hh2 : w2.heap[b]? = some (.cells #[.int .i64 keep, .slice a L cap, .int .i64 s.length, .int .i64 done] 82 (0, 0)) := by
      rw [hw2]
      exact (Lib.alloc_old (w.drewN nq) _ b hbw).trans HH.out
    have hg2 : w2.heap[w.heap.size]? = some (.cells (List.replicate n (Value.int .u8 0)).toArray 5 (0, 0)) := by
      rw [hw2]
      exact heap_alloc_new (w.drewN nq) _
    have HB2 : Hid (Below w.heap.size w w2) := Lib.hid (by rw [hw2]; exact (show Below w.heap.size w (w.drewN nq) from ⟨rfl, rfl, rfl, Nat.le_refl _, fun _ _ => rfl⟩).alloc (Nat.le_refl _) _)
    clear hw2 HMK HF HB c0 c2 c3 f1
    obtain ⟨⟨_, d1, _, _⟩, f1, _⟩ := carry_reads hh2
    have HH2 := Lib.hid hh2
    have HG2 := Lib.hid hg2
    clear hh2 hg2
    go_wp2_with (refine wpList_copy_into rfl (.tmp 31) (.tmp 32) 80 80 rfl 5 Tryz.underlying80 ca8_size w.heap.size 0 n n ⟨g, off, none⟩ n cap' rfl rfl (List.replicate n (Value.int .u8 0)) 5 ?cg (Lib.byteCells (s.drop f)) ?cn ?cs ?cf ?c1 ?_)
    case cg => exact (put_other (by omega) _).trans HG2.out
    case cn =>
      have := HD.out
      simp only [Lib.byteCells, List.length_map]
      rw [this]
      exact (Nat.min_self n).symm
    case cs =>
      intro j u hu
      have hc := HC.out j u hu
      rw [addPlain] at hc ⊢
      have hlt := World.block_lt_of_cell? w _ hc
      have hgb : g ≠ b := by
        rintro rfl
        simp only [Lib.byteCells, List.getElem?_map, Option.map_eq_some_iff] at hu
        obtain ⟨x, _, rfl⟩ := hu
        exact carry_ne HH.out hc
      rw [World.cell?_of_block (w := w) ((put_other hgb _).trans (HB2.out.block g hlt))]
      exact hc
    case cf =>
      have := HD.out
      simp only [Lib.byteCells, List.length_map, List.length_replicate]
      omega
    case c1 =>
      intro u hu
      simp only [Lib.byteCells, List.mem_map] at hu
      obtain ⟨x, _, rfl⟩ := hu
      rfl
    intro w3 hI hG
    have hG3 : w3.heap[w.heap.size]? = some (.cells (Lib.byteCells (s.drop f)).toArray 5 (0, 0)) := by
      have := hG.out
      rwa [splice_all _ _ (by have := HD.out; simp only [Lib.byteCells, List.length_map, List.length_replicate]; exact this)] at this
    have hH3 : w3.heap[b]? = some (.cells #[.int .i64 keep, .slice (some ⟨w.heap.size, 0, none⟩) n n, .int .i64 s.length, .int .i64 done] 82 (0, 0)) := by
      rw [hI.block b (by omega), put_heap HH2.out]
      simp
    have hbut : But w.heap.size b w w3 := by
      refine ⟨hI.os.trans HB2.out.os, hI.tape.trans HB2.out.tape, hI.output.trans HB2.out.output, ?_, fun k hk hkb => ?_⟩
      · rw [hI.size]
        have := HB2.out.size
        simpa [World.setCell] using this
      · rw [hI.block k (by omega), put_other hkb]
        exact HB2.out.block k hk
    have K1 := Lib.hid hG3
    have K2 := Lib.hid hH3
    have K3 := Lib.hid hbut
    clear hG hI hG3 hH3 hbut hmk HC c1 d1
    go_wp2
    go_end0
    refine ⟨rfl, ⟨_, ⟨hbb, by have := K3.out.size; omega, h3, h4, h5, f, by rw [HFE.out]; exact Nat.le_refl _, K2.out, ?_, .inr ⟨w.heap.size, n, _, ?_, hB, K1.out, ?_, ?_, ?_, ?_⟩⟩, .inr rfl⟩, K3.out⟩
    · have := HD.out
      have := HN.out
      simp only [Lib.byteCells, List.length_map]
      omega
    · rw [HN.out]
    · have := HN.out
      omega
    · unfold maxLen
      omega
    · have := HD.out
      simp only [Lib.byteCells, List.size_toArray, List.length_map]
      omega
    · have := HD.out
      have := HN.out
      refine List.take_of_length_le ?_
      simp only [Lib.byteCells, List.length_map]
      omega

set_option maxRecDepth 100000 in
set_option maxHeartbeats 1000000 in
theorem lppass_any {w : World} {base b keep done : Nat} {s : List UInt8} {v : Value} (h : IsCarV w base b v keep s done) (hs : s.length ≤ 1000000000) (e : Nat) (h1 : done ≤ e) (h2 : e ≤ s.length) :
    Calls Tryz.prog 47 #[.pointer (some ⟨b, 0, none⟩), .int .i64 (e : Int)] w fun x w' => x = .returned (.int .i64 0) ∧ (∃ v', IsCarV w' base b v' keep s e ∧ (v'.ownBlock = v.ownBlock ∨ v'.ownBlock = some w.heap.size)) ∧ But w.heap.size b w w' := by
  obtain ⟨hb, hB, h3, h4, h5, gone, h6, hh, hown⟩ := h
  have HI : Hid (IsCarV (w.setCell ⟨b, 3, none⟩ (.int .i64 (e : Int))) base b v keep s e) := Lib.hid ⟨hb, by simpa [World.setCell] using hB, h3, h4, h2, gone, by omega, (put_heap hh _).trans (by simp), ((Into.refl b w).set 3 _).owns hb hown⟩
  have HG := Lib.hid (lpgive_any HI.out hs)
  have HN : Hid (But w.heap.size b w (w.setCell ⟨b, 3, none⟩ (.int .i64 (e : Int)))) := Lib.hid ⟨rfl, rfl, rfl, by simp [World.setCell], fun k _ hk => put_other hk _⟩
  have HZ : Hid ((w.setCell ⟨b, 3, none⟩ (.int .i64 (e : Int))).heap.size = w.heap.size) := Lib.hid (by simp [World.setCell])
  obtain ⟨⟨c0, c1, c2, c3⟩, f1, f2, f3⟩ := carry_reads hh
  have k1 : ¬ (e : Int) < (done : Int) := by omega
  have k2 : ¬ (s.length : Int) < (e : Int) := by omega
  clear h6 hh hown h1 h2 h5
  go_enter Tryz.func47, Tryz.ntmps47
  go_wp2_with fail
  refine HG.out.mono ?_
  rintro e' w3 ⟨rfl, hi, hbt⟩
  rw [HZ.out] at hi
  have K1 := Lib.hid hi
  have K2 := Lib.hid (HN.out.trans (by rw [HZ.out] at hbt; exact hbt))
  clear hi hbt HG HI HN HZ c0 c1 c2 c3 f1 f2 f3
  go_wp2
  go_ret
  exact ⟨rfl, K1.out, K2.out⟩
end Go.Proofs.YtmgcdhcidojdhaaGreat

namespace Go.Proofs.YtmgcdhcidojdhaaGreat
open Go.RowKit

theorem Save.refl (b : Nat) (r : Option Nat) (w : World) : Save b r w w := ⟨rfl, rfl, rfl, Nat.le_refl _, fun _ _ _ _ => rfl⟩
theorem Save.drewN {b : Nat} {r : Option Nat} {w w' : World} (h : Save b r w w') (n : Nat) : Save b r w (w'.drewN n) := ⟨h.os, h.tape, h.output, h.size, h.block⟩
theorem Save.trans {b : Nat} {r q : Option Nat} {u v w : World} (h : Save b r u v) (k : Save b q v w) (hq : q = r ∨ ∃ g, q = some g ∧ u.heap.size ≤ g) : Save b r u w :=
  ⟨k.os.trans h.os, k.tape.trans h.tape, k.output.trans h.output, Nat.le_trans h.size k.size, fun i hi h1 h2 => by
    rw [k.block i (by have := h.size; omega) h1 ?_]
    · exact h.block i hi h1 h2
    · rcases hq with rfl | ⟨g, rfl, hg⟩
      · exact h2
      · intro e
        injection e with e
        omega⟩
/-- What lies apart from a builder's two blocks. -/
def Apart (X : Nat) (r : Option Nat) (b : Nat) (v : Value) : Prop := b ≠ X ∧ some b ≠ r ∧ ∀ g, v.ownBlock = some g → g ≠ X ∧ some g ≠ r
theorem IsCarV.save {w w' : World} {base b keep done X : Nat} {r : Option Nat} {s : List UInt8} {v : Value} (h : IsCarV w base b v keep s done) (hs : Save X r w w') (ha : Apart X r b v) : IsCarV w' base b v keep s done :=
  h.same hs.size (hs.block b h.lt ha.1 ha.2.1) (fun g hg => hs.block g (h.row hg).2 (ha.2.2 g hg).1 (ha.2.2 g hg).2)

theorem byK_at {s : List UInt8} {done keep e : Nat} (h1 : done - keep < e + 1) (h2 : e < s.length) : byK s done keep ((e + 1 : Nat) : Int) = some s[e] := by
  unfold byK
  rw [if_pos (by omega), show (((e + 1 : Nat) : Int) - 1).toNat = e by omega]
  exact List.getElem?_eq_getElem h2
theorem midL_next (s : List UInt8) (f j : Nat) (h : f + j < s.length) : midL s f (f + j + 1) = midL s f (f + j) ++ [s[f + j]] := by
  refine List.ext_getElem? fun i => ?_
  have hl := midL_length s f (f + j) (by omega)
  rcases Nat.lt_trichotomy i j with h1 | h1 | h1
  · rw [midL_get s f (f + j + 1) i (by omega) (by omega), List.getElem?_append_left (by omega), midL_get s f (f + j) i (by omega) (by omega)]
  · subst h1
    rw [midL_get s f (f + i + 1) i (by omega) (by omega), List.getElem?_append_right (by omega), hl, show i - (f + i - f) = 0 by omega]
    exact List.getElem?_eq_getElem h
  · have h2 := midL_length s f (f + j + 1) (by omega)
    rw [List.getElem?_eq_none (by omega), List.getElem?_eq_none (by rw [List.length_append, hl]; simp; omega)]

set_option maxRecDepth 100000 in
set_option maxHeartbeats 4000000 in
theorem lplay_any {w : World} {B X base b keep done : Nat} {v vC : Value} {l s : List UInt8} (ht : IsText w B X v l) (hc : IsCarV w base b vC keep s done) (ha : Apart X v.ownBlock b vC) (hl : l.length + s.length ≤ 1000000) (f t : Nat) (h1 : done ≤ f + keep) (hf : f ≤ s.length) (htl : t ≤ 1000000000) :
    Calls Tryz.prog 46 #[.pointer (some ⟨X, 0, none⟩), .pointer (some ⟨b, 0, none⟩), .int .i64 (f : Int), .int .i64 (t : Int)] w fun E w' => E = .returned (.tuple #[]) ∧ ∃ v', IsText w' B X v' (l ++ midL s f (max f (min t s.length))) ∧ (v'.ownBlock = v.ownBlock ∨ ∃ g, v'.ownBlock = some g ∧ w.heap.size ≤ g) ∧ Save X v.ownBlock w w' := by
  have HT := Lib.hid ht
  have HC := Lib.hid hc
  have HA := Lib.hid ha
  obtain ⟨M, hM⟩ : ∃ M : Nat, min t s.length = M := ⟨_, rfl⟩
  have hM2 : min (t : Int) (s.length : Int) = (M : Int) := by omega
  have hMs : M ≤ s.length := by omega
  have wE : IntKind.i64.wrap ((f : Int) + 1) = ((f + 1 : Nat) : Int) := by rw [IntKind.wrap_i64]; omega
  have hBX := ht.1
  have hXw := ht.lt
  rw [hM]
  clear ht hc ha
  go_enter Tryz.func46, Tryz.ntmps46
  go_wp2_with fail
  go_loopw [8] (fun i wr => ∃ (j : Nat) (vj : Value), f + j ≤ max f M ∧ i = .int .i64 ((f + j + 1 : Nat) : Int) ∧ Hid (IsText wr B X vj (l ++ midL s f (f + j)) ∧ (vj.ownBlock = v.ownBlock ∨ ∃ g, vj.ownBlock = some g ∧ w.heap.size ≤ g) ∧ Save X v.ownBlock w wr)) (fun i _ => 2000000001 - (RowKit.intOf i).toNat)
  case atStart =>
    exact ⟨0, v, by omega, rfl, Lib.hid ⟨by rw [Nat.add_zero, midL_none, List.append_nil]; exact HT.out, .inl rfl, Save.refl _ _ _⟩⟩
  case round =>
    obtain ⟨j, vj, hj, rfl, HR⟩ := hrel
    have hCr : IsCarV wr base b vC keep s done := HC.out.save HR.out.2.2 HA.out
    have HS := Lib.hid (caseen_any hCr.car)
    by_cases hlt : f + j < M
    · have HB := Lib.hid (cabyte_any hCr.car (by omega) ((f + j + 1 : Nat) : Int))
      rw [byK_at (by omega) (by omega)] at HB
      dsimp only [byR, cvR] at HB
      have hnx := midL_next s f j (by omega)
      obtain ⟨c, hcc⟩ : ∃ c, s[f + j]'(by omega) = c := ⟨_, rfl⟩
      rw [hcc] at HB hnx
      have hin := HR.out.1
      have hsi := HR.out.2.2.size
      have HW : Hid (∀ q, Calls Tryz.prog 66 #[.pointer (some ⟨X, 0, none⟩), .int .u8 (c.toNat : Int)] (wr.drewN q) fun e w' => e = .returned .nilIface ∧ ∃ v', IsText w' B X v' (l ++ midL s f (f + j + 1)) ∧ (v'.ownBlock = vj.ownBlock ∨ ∃ g, v'.ownBlock = some g ∧ wr.heap.size ≤ g) ∧ Save X vj.ownBlock wr w') := by
        rw [hnx, ← List.append_assoc]
        refine Lib.hid fun q => (lpbyte_any (w := wr.drewN q) c hin (by rw [List.length_append, midL_length _ _ _ (by omega)]; omega) (show B ≤ wr.heap.size by omega)).mono ?_
        rintro E w' ⟨rfl, v', h1, h2, h3⟩
        exact ⟨rfl, v', h1, h2, h3.os, h3.tape, h3.output, h3.size, h3.block⟩
      clear hnx hin hsi
      have u1 : ((f + j + 1 : Nat) : Int) ≤ (M : Int) := by omega
      have HJ : Hid (f + (j + 1) ≤ max f M) := Lib.hid (by omega)
      have hbig : f + j + 1 ≤ 1000000000 := by omega
      go_wp2_with fail
      refine HS.out.mono ?_
      rintro E w' ⟨rfl, hw⟩
      obtain rfl := hw.symm
      clear hw
      go_wp2_with fail
      try rw [hM2]
      refine HB.out.mono ?_
      rintro E w' ⟨rfl, q, rfl⟩
      go_wp2_with fail
      refine (HW.out q).mono ?_
      rintro E w2 ⟨rfl, v2, h1, h2, h3⟩
      have HR2 : Hid (IsText w2 B X v2 (l ++ midL s f (f + (j + 1))) ∧ (v2.ownBlock = v.ownBlock ∨ ∃ g, v2.ownBlock = some g ∧ w.heap.size ≤ g) ∧ Save X v.ownBlock w w2) := by
        obtain ⟨g1, g2, g3⟩ := HR.out
        refine Lib.hid ⟨h1, ?_, g3.trans h3 g2⟩
        rcases h2 with h2 | ⟨g, h2, hg⟩
        · rw [h2]; exact g2
        · exact .inr ⟨g, h2, Nat.le_trans g3.size hg⟩
      clear h1 h2 h3 HB HW HS HR
      go_wp2
      have hj9 := HJ.out
      refine ⟨⟨j + 1, v2, hj9, by go_num, HR2.out⟩, by simp [RowKit.intOf]; omega⟩
    · have u1 : ¬ ((f + j + 1 : Nat) : Int) ≤ (M : Int) := by omega
      have hjm : f + j = max f M := by omega
      have HF := Lib.hid HR.out
      rw [hjm] at HF
      clear HR
      go_wp2_with fail
      refine HS.out.mono ?_
      rintro E w' ⟨rfl, hw⟩
      obtain rfl := hw.symm
      clear hw
      go_wp2_with fail
      try rw [hM2]
      go_end0
      exact ⟨rfl, vj, HF.out.1, HF.out.2.1, HF.out.2.2⟩
end Go.Proofs.YtmgcdhcidojdhaaGreat

namespace Go.Proofs.YtmgcdhcidojdhaaGreat

/-- How long the shortest, the longest one is, and all together. -/
def leastL (ws : List (List UInt8)) : Nat := ws.foldl (fun n t => min n t.length) 65535
def mostL (ws : List (List UInt8)) : Nat := ws.foldl (fun n t => max n t.length) 0
def totalL (ws : List (List UInt8)) : Nat := ws.foldl (fun n t => n + t.length) 0

theorem foldl_snoc {β : Type} {ws : List (List UInt8)} {k : Nat} {t : List UInt8} (f : β → List UInt8 → β) (z : β) (h : ws[k]? = some t) : (ws.take (k + 1)).foldl f z = f ((ws.take k).foldl f z) t := by
  obtain ⟨hk, rfl⟩ := List.getElem?_eq_some_iff.1 h
  rw [List.take_succ_eq_append_getElem hk, List.foldl_append]; rfl
theorem least_snoc {ws : List (List UInt8)} {k : Nat} {t : List UInt8} (h : ws[k]? = some t) : leastL (ws.take (k + 1)) = min (leastL (ws.take k)) t.length := foldl_snoc _ _ h
theorem most_snoc {ws : List (List UInt8)} {k : Nat} {t : List UInt8} (h : ws[k]? = some t) : mostL (ws.take (k + 1)) = max (mostL (ws.take k)) t.length := foldl_snoc _ _ h
theorem total_snoc {ws : List (List UInt8)} {k : Nat} {t : List UInt8} (h : ws[k]? = some t) : totalL (ws.take (k + 1)) = totalL (ws.take k) + t.length := foldl_snoc _ _ h

theorem least_le (ws : List (List UInt8)) : leastL ws ≤ 65535 := by
  suffices h : ∀ (ws : List (List UInt8)) (n : Nat), ws.foldl (fun n t => min n t.length) n ≤ n from h ws 65535
  intro ws
  induction ws with
  | nil => intro n; exact Nat.le_refl _
  | cons t r ih => intro n; exact Nat.le_trans (ih _) (Nat.min_le_left _ _)
theorem most_le {ws : List (List UInt8)} {m : Nat} (h : ∀ t ∈ ws, t.length ≤ m) : mostL ws ≤ m := by
  suffices g : ∀ (ws : List (List UInt8)) (n : Nat), n ≤ m → (∀ t ∈ ws, t.length ≤ m) → ws.foldl (fun n t => max n t.length) n ≤ m from g ws 0 (Nat.zero_le _) h
  intro ws
  induction ws with
  | nil => intro n hn _; exact hn
  | cons t r ih => intro n hn ht; exact ih _ (Nat.max_le.2 ⟨hn, ht t List.mem_cons_self⟩) (fun u hu => ht u (List.mem_cons_of_mem _ hu))
theorem foldl_total (ws : List (List UInt8)) : ∀ n : Nat, ws.foldl (fun n t => n + t.length) n = n + totalL ws := by
  unfold totalL
  induction ws with
  | nil => intro n; rfl
  | cons t r ih => intro n; rw [List.foldl_cons, List.foldl_cons, ih, ih (0 + t.length)]; omega
theorem total_cons (t : List UInt8) (r : List (List UInt8)) : totalL (t :: r) = t.length + totalL r := by
  show r.foldl (fun n t => n + t.length) (0 + t.length) = _
  rw [foldl_total, Nat.zero_add]
theorem total_append (ws us : List (List UInt8)) : totalL (ws ++ us) = totalL ws + totalL us := by
  unfold totalL
  rw [List.foldl_append]
  exact foldl_total us _
theorem total_take_le (ws : List (List UInt8)) (k : Nat) : totalL (ws.take k) ≤ totalL ws := by
  have := total_append (ws.take k) (ws.drop k)
  rw [List.take_append_drop] at this
  omega
theorem total_perm {ws us : List (List UInt8)} (h : ws.Perm us) : totalL ws = totalL us := by
  induction h with
  | nil => rfl
  | cons t _ ih => rw [total_cons, total_cons, ih]
  | swap a b r => rw [total_cons, total_cons, total_cons, total_cons]; omega
  | trans _ _ i1 i2 => exact i1.trans i2
theorem total_le {ws : List (List UInt8)} {m : Nat} (h : ∀ t ∈ ws, t.length ≤ m) : totalL ws ≤ ws.length * m := by
  induction ws with
  | nil => simp [totalL]
  | cons t r ih =>
    rw [total_cons, List.length_cons, Nat.succ_mul]
    have := ih (fun u hu => h u (List.mem_cons_of_mem _ hu))
    have := h t List.mem_cons_self
    omega

/-- The first one that is no pattern: why. -/
def badS : List (List UInt8) → Option Int
  | [] => none
  | t :: r => if t.length = 0 then some 7 else if 65535 < t.length then some 5 else badS r
theorem bad_append : ∀ (a b : List (List UInt8)), badS (a ++ b) = (badS a).or (badS b)
  | [], b => by simp [badS]
  | t :: r, b => by
    rw [List.cons_append, badS, badS]
    split
    · rfl
    · split
      · rfl
      · exact bad_append r b
theorem bad_zero {ws : List (List UInt8)} {k : Nat} {t : List UInt8} (hn : badS (ws.take k) = none) (h : ws[k]? = some t) (h0 : t.length = 0) : badS ws = some 7 := by
  obtain ⟨hk, rfl⟩ := List.getElem?_eq_some_iff.1 h
  rw [← List.take_append_drop k ws, bad_append, hn, List.drop_eq_getElem_cons hk, badS, if_pos h0]; rfl
theorem bad_long {ws : List (List UInt8)} {k : Nat} {t : List UInt8} (hn : badS (ws.take k) = none) (h : ws[k]? = some t) (h0 : 65535 < t.length) : badS ws = some 5 := by
  obtain ⟨hk, rfl⟩ := List.getElem?_eq_some_iff.1 h
  rw [← List.take_append_drop k ws, bad_append, hn, List.drop_eq_getElem_cons hk, badS, if_neg (by omega), if_pos h0]; rfl
theorem bad_snoc {ws : List (List UInt8)} {k : Nat} {t : List UInt8} (hn : badS (ws.take k) = none) (h : ws[k]? = some t) (h0 : ¬ t.length = 0) (h1 : ¬ 65535 < t.length) : badS (ws.take (k + 1)) = none := by
  obtain ⟨hk, rfl⟩ := List.getElem?_eq_some_iff.1 h
  rw [List.take_succ_eq_append_getElem hk, bad_append, hn, badS, if_neg h0, if_neg h1]; rfl
theorem bad_none : ∀ (ws : List (List UInt8)), badS ws = none ↔ ∀ t ∈ ws, 1 ≤ t.length ∧ t.length ≤ 65535
  | [] => by simp [badS]
  | t :: r => by
    rw [badS]
    have ih := bad_none r
    by_cases h0 : t.length = 0
    · rw [if_pos h0]
      simp only [reduceCtorEq, List.mem_cons, forall_eq_or_imp, false_iff]
      intro h; omega
    · by_cases h1 : 65535 < t.length
      · rw [if_neg h0, if_pos h1]
        simp only [reduceCtorEq, List.mem_cons, forall_eq_or_imp, false_iff]
        intro h; omega
      · rw [if_neg h0, if_neg h1, ih]
        simp only [List.mem_cons, forall_eq_or_imp]
        exact ⟨fun h => ⟨⟨by omega, by omega⟩, h⟩, fun h => h.2⟩

/-- Why texts are no set; 0: they are one. -/
def faultL (ws : List (List UInt8)) : Int :=
  if ws.length = 0 then 14 else if 65535 < ws.length then 6 else match badS ws with
    | some e => e
    | none => if 16777216 < totalL ws then 13 else if 0 ≤ twS [] ws 0 then 8 else 0

theorem fault_none {ws : List (List UInt8)} (h : ws.length = 0) : faultL ws = 14 := by unfold faultL; rw [if_pos h]
theorem fault_many {ws : List (List UInt8)} (h : 65535 < ws.length) : faultL ws = 6 := by unfold faultL; rw [if_neg (by omega), if_pos h]
theorem fault_bad {ws : List (List UInt8)} {e : Int} (h0 : ¬ ws.length = 0) (h1 : ¬ 65535 < ws.length) (h : badS ws = some e) : faultL ws = e := by unfold faultL; rw [if_neg h0, if_neg h1, h]
theorem fault_full {ws : List (List UInt8)} (h0 : ¬ ws.length = 0) (h1 : ¬ 65535 < ws.length) (h : badS ws = none) (h2 : 16777216 < totalL ws) : faultL ws = 13 := by unfold faultL; rw [if_neg h0, if_neg h1, h]; exact if_pos h2
theorem fault_twice {ws : List (List UInt8)} (h0 : ¬ ws.length = 0) (h1 : ¬ 65535 < ws.length) (h : badS ws = none) (h2 : ¬ 16777216 < totalL ws) (h3 : 0 ≤ twS [] ws 0) : faultL ws = 8 := by
  unfold faultL; rw [if_neg h0, if_neg h1, h]; exact (if_neg h2).trans (if_pos h3)
theorem fault_good {ws : List (List UInt8)} (h0 : ¬ ws.length = 0) (h1 : ¬ 65535 < ws.length) (h : badS ws = none) (h2 : ¬ 16777216 < totalL ws) (h3 : ¬ 0 ≤ twS [] ws 0) : faultL ws = 0 := by
  unfold faultL; rw [if_neg h0, if_neg h1, h]; exact (if_neg h2).trans (if_neg h3)

theorem tw_nodup : ∀ (ws seen : List (List UInt8)) (k : Nat), 0 ≤ twS seen ws k ↔ ¬ (ws.Nodup ∧ ∀ t ∈ ws, t ∉ seen)
  | [], seen, k => by simp [twS]
  | t :: r, seen, k => by
    rw [twS]
    by_cases h : t ∈ seen
    · rw [if_pos h]
      refine ⟨fun _ hh => hh.2 t List.mem_cons_self h, fun _ => by omega⟩
    · rw [if_neg h, tw_nodup r (seen ++ [t]) (k + 1)]
      refine not_congr ⟨fun ⟨h1, h2⟩ => ⟨List.nodup_cons.2 ⟨fun hm => ?_, h1⟩, fun u hu => ?_⟩, fun ⟨h1, h2⟩ => ⟨(List.nodup_cons.1 h1).2, fun u hu hs => ?_⟩⟩
      · exact h2 t hm (List.mem_append_right _ (List.mem_singleton.2 rfl))
      · rcases List.mem_cons.1 hu with rfl | hu
        · exact h
        · exact fun hs => h2 u hu (List.mem_append_left _ hs)
      · rcases List.mem_append.1 hs with hs | hs
        · exact h2 u (List.mem_cons_of_mem _ hu) hs
        · rw [List.mem_singleton] at hs
          subst hs
          exact (List.nodup_cons.1 h1).1 hu

/-- Texts that are a set. -/
structure Pats (ws : List (List UInt8)) : Prop where
  some : 1 ≤ ws.length
  few : ws.length ≤ 65535
  each : ∀ t ∈ ws, 1 ≤ t.length ∧ t.length ≤ 65535
  total : totalL ws ≤ 16777216
  once : ws.Nodup

theorem fault_zero (ws : List (List UInt8)) : faultL ws = 0 ↔ Pats ws := by
  by_cases h0 : ws.length = 0
  · rw [fault_none h0]
    exact ⟨fun h => absurd h (by decide), fun h => by have := h.some; omega⟩
  · by_cases h1 : 65535 < ws.length
    · rw [fault_many h1]
      exact ⟨fun h => absurd h (by decide), fun h => by have := h.few; omega⟩
    · cases hb : badS ws with
      | some e =>
        rw [fault_bad h0 h1 hb]
        have hn : ¬ badS ws = none := by rw [hb]; simp
        have he : e = 7 ∨ e = 5 := by
          clear hn h0 h1
          induction ws with
          | nil => simp [badS] at hb
          | cons t r ih =>
            rw [badS] at hb
            split at hb
            · simp at hb; exact .inl hb.symm
            · split at hb
              · simp at hb; exact .inr hb.symm
              · exact ih hb
        refine ⟨fun h => by omega, fun h => absurd ((bad_none ws).2 h.each) hn⟩
      | none =>
        by_cases h2 : 16777216 < totalL ws
        · rw [fault_full h0 h1 hb h2]
          exact ⟨fun h => absurd h (by decide), fun h => by have := h.total; omega⟩
        · have htw := tw_nodup ws [] 0
          by_cases h3 : 0 ≤ twS [] ws 0
          · rw [fault_twice h0 h1 hb h2 h3]
            exact ⟨fun h => absurd h (by decide), fun h => absurd ⟨h.once, by simp⟩ (htw.1 h3)⟩
          · rw [fault_good h0 h1 hb h2 h3]
            have hn : ws.Nodup := Classical.byContradiction fun hh => h3 (htw.2 (fun hx => hh hx.1))
            exact ⟨fun _ => ⟨by omega, by omega, (bad_none ws).1 hb, by omega, hn⟩, fun _ => rfl⟩

theorem Pats.perm {ws us : List (List UInt8)} (h : Pats ws) (hp : ws.Perm us) : Pats us :=
  ⟨by rw [← hp.length_eq]; exact h.some, by rw [← hp.length_eq]; exact h.few, fun t ht => h.each t (hp.mem_iff.2 ht), by rw [← total_perm hp]; exact h.total, hp.nodup_iff.1 h.once⟩
theorem Pats.srt {ws : List (List UInt8)} (h : Pats ws) : Pats (srt ws) := h.perm (srt_perm ws).symm
theorem srt_of_perm {ws us : List (List UInt8)} (h : ws.Perm us) : srt ws = srt us := asc_unique (srt_asc ws) (srt_asc us) ((srt_perm ws).trans (h.trans (srt_perm us).symm))
theorem srt_srt (ws : List (List UInt8)) : srt (srt ws) = srt ws := srt_of_perm (srt_perm ws)

/-- The place of a text in texts in order; -1: none. -/
def fndP (s : List UInt8) (ws : List (List UInt8)) : Int := if s ∈ ws then (ahdS s ws : Int) else -1

theorem ahd_at {s : List UInt8} {ws : List (List UInt8)} (ha : Asc ws) (hm : s ∈ ws) : ws[ahdS s ws]? = some s := by
  have h := find_there (s := s) ha
  rw [decide_eq_true hm, Bool.and_eq_true, decide_eq_true_eq, decide_eq_true_eq] at h
  have h1 := (cmp_zero _ _).1 h.2
  rw [List.getElem?_eq_getElem h.1] at h1 ⊢
  simp only [Option.getD_some] at h1
  rw [h1]
theorem ahd_is {s : List UInt8} {ws : List (List UInt8)} {k : Nat} (ha : Asc ws) (hn : ws.Nodup) (h : ws[k]? = some s) : ahdS s ws = k := by
  have hm : s ∈ ws := List.mem_of_getElem? h
  have h1 := ahd_at ha hm
  obtain ⟨i, e1⟩ := List.getElem?_eq_some_iff.1 h1
  obtain ⟨j, e2⟩ := List.getElem?_eq_some_iff.1 h
  exact (List.getElem_inj hn).1 (e1.trans e2.symm)
theorem fndp_hit {s : List UInt8} {ws : List (List UInt8)} {k : Nat} (ha : Asc ws) (hn : ws.Nodup) (h : ws[k]? = some s) : fndP s ws = k := by
  unfold fndP
  rw [if_pos (List.mem_of_getElem? h), ahd_is ha hn h]
theorem fndp_miss {s : List UInt8} {ws : List (List UInt8)} (h : s ∉ ws) : fndP s ws = -1 := if_neg h

/-- The document's least: of no texts it is 0. -/
def leastR (ws : List (List UInt8)) : Nat := if ws.length = 0 then 0 else leastL ws
theorem leastR_some {ws : List (List UInt8)} (h : Pats ws) : leastR ws = leastL ws := if_neg (by have := h.some; omega)
end Go.Proofs.YtmgcdhcidojdhaaGreat
