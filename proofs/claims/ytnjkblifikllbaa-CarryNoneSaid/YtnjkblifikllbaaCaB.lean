/-
  carry.between, Byte, Tail: walked.
-/
import Derived.Test.YtnjkblifikllbaaCaW
set_option linter.unusedSimpArgs false
set_option linter.unusedVariables false
namespace Go.Proofs.Ytnjkblifikllbaa
open Go.RowKit

set_option maxHeartbeats 1000000 in
theorem cabet_some {w : World} {base b keep done : Nat} {s : List UInt8} (h : IsCarry w base b keep s done) (hs : s.length ≤ 1000000000) (f t : Nat) (hf : done - keep ≤ f) (hft : f < t) (ht : t ≤ s.length) :
    ∃ v, Piece w v (midL s f t) ∧ ∀ W : World, W.heap = w.heap → Calls Try.prog 16 #[.pointer (some ⟨b, 0, none⟩), .int .i64 f, .int .i64 t] W fun e w' => e = .returned v ∧ ∃ q, w' = W.drewN q := by
  obtain ⟨_, _, h3, h4, h5, gone, v, h6, hh, hown⟩ := h
  obtain ⟨n, hn⟩ : ∃ n, s.length = gone + n := ⟨s.length - gone, by omega⟩
  obtain ⟨i, rfl⟩ : ∃ i, f = gone + i := ⟨f - gone, by omega⟩
  obtain ⟨m, rfl⟩ : ∃ m, t = gone + i + m := ⟨t - (gone + i), by omega⟩
  have hng : s.length - gone = n := by omega
  rw [hng] at hown
  obtain ⟨g, cap, _, hcap, rfl⟩ := owns_some hown (by omega)
  have HP : Piece w (.slice (some ⟨g, i, none⟩) m (cap - i)) (midL s (gone + i) (gone + i + m)) := by
    have hl := midL_length s (gone + i) (gone + i + m) ht
    have hl' : (midL s (gone + i) (gone + i + m)).length = m := by omega
    refine ⟨_, _, by rw [hl'], fun _ => ⟨g, i, rfl, by omega, fun j hj => ?_⟩⟩
    rw [hown.cellAt (i + j) (by omega)]
    have e := midL_get s (gone + i) (gone + i + m) j ht (by omega)
    rw [List.getElem?_eq_getElem hj] at e
    simp only [Lib.byteCells, List.getElem?_map, List.getElem?_drop]
    rw [show gone + (i + j) = gone + i + j by omega, ← e]
    rfl
  refine ⟨_, HP, fun W hW => ?_⟩
  rw [hn] at hh
  rw [← hW] at hh
  obtain ⟨⟨c0, c1, c2, c3⟩, _⟩ := carry_reads hh
  have k0 : (gone : Int) + n ≤ 1000000000 := by omega
  have k1 : (i : Int) + m ≤ n := by omega
  have k2 : (n : Int) ≤ cap := by omega
  have k3 : ¬ cap = i := by omega
  have k4 : ¬ cap = gone + i - gone := by omega
  have HE : Hid (gone + i - gone = i) := Lib.hid (by omega)
  have HE2 : Hid (gone + i + m - gone - i = m) := Lib.hid (by omega)
  clear HP hW hh hown hn hng ht hft hf h6 h5 hs
  go_enter Try.func16, Try.ntmps16
  go_wp2_with fail
  go_quiet (fail)
  go_wp2
  go_ret
  refine ⟨?_, _, rfl⟩
  show Ending.returned (.slice (some ⟨g, gone + i - gone, none⟩) (gone + i + m - gone - (gone + i - gone)) (cap - (gone + i - gone))) = _
  rw [HE.out, HE2.out]
theorem cabet_any {w : World} {base b keep done : Nat} {s : List UInt8} (h : IsCarry w base b keep s done) (hs : s.length ≤ 1000000000) (f t : Nat) (hf : done - keep ≤ f) (hft : f < t ∨ f = 0 ∧ t = 0) (ht : t ≤ s.length) :
    ∃ v, Piece w v (midL s f t) ∧ ∀ W : World, W.heap = w.heap → Calls Try.prog 16 #[.pointer (some ⟨b, 0, none⟩), .int .i64 f, .int .i64 t] W fun e w' => e = .returned v ∧ ∃ q, w' = W.drewN q := by
  rcases hft with h2 | ⟨rfl, rfl⟩
  · exact cabet_some h hs f t hf h2 ht
  · rw [midL_none]
    exact cabet_none h hs (by omega)

theorem byK_in {s : List UInt8} {done keep e : Nat} (h1 : done - keep < e) (h2 : e ≤ s.length) : ∃ x, byK s done keep e = some x ∧ midL s (e - 1) e = [x] := by
  have hj : e - 1 < s.length := by omega
  refine ⟨s[e - 1], ?_, List.ext_getElem? fun j => ?_⟩
  · unfold byK
    rw [if_pos (by omega), show ((e : Int) - 1).toNat = e - 1 by omega]
    exact List.getElem?_eq_getElem hj
  · rcases Nat.eq_zero_or_pos j with rfl | hp
    · rw [midL_get s (e - 1) e 0 h2 (by omega), Nat.add_zero, List.getElem?_eq_getElem hj]
      rfl
    · rw [List.getElem?_eq_none (by rw [midL_length s _ _ h2]; omega), List.getElem?_eq_none (by simp; omega)]
theorem byK_out {s : List UInt8} {done keep : Nat} {e : Int} (h : e ≤ ((done - keep : Nat) : Int) ∨ (s.length : Int) < e) : byK s done keep e = none := if_neg (by omega)

set_option maxHeartbeats 400000 in
theorem cabyte_nil (e : Int) (w : World) : Calls Try.prog 11 #[.pointer none, .int .i64 e] w fun e w' => e = .returned (.tuple #[.int .u8 0, .bool false]) ∧ w' = w := by
  go_enter Try.func11, Try.ntmps11
  go_wp2
  go_ret2
  exact ⟨rfl, rfl⟩
set_option maxHeartbeats 1000000 in
theorem cabyte_any {w : World} {base b keep done : Nat} {s : List UInt8} (h : IsCarry w base b keep s done) (hs : s.length ≤ 1000000000) (e : Int) :
    Calls Try.prog 11 #[.pointer (some ⟨b, 0, none⟩), .int .i64 e] w fun x w' => x = cvR (byR (byK s done keep e)) ∧ ∃ q, w' = w.drewN q := by
  have HF := Lib.hid (cafirst_any h hs)
  have HB := Lib.hid (fun f t => cabet_any h hs f t)
  have HX := Lib.hid (fun (n : Nat) (h1 : done - keep < n) (h2 : n ≤ s.length) => byK_in (s := s) (keep := keep) (done := done) h1 h2)
  have HN := Lib.hid (fun (h : e ≤ ((done - keep : Nat) : Int) ∨ (s.length : Int) < e) => byK_out (s := s) (done := done) (keep := keep) h)
  obtain ⟨_, _, h3, h4, h5, gone, v, h6, hh, hown⟩ := h
  obtain ⟨⟨c0, c1, c2, c3⟩, _⟩ := carry_reads hh
  clear h5 h6 hh hown
  generalize done - keep = f at *
  by_cases h1 : e ≤ (f : Int)
  · have K1 := Lib.hid (HN.out (.inl h1))
    go_enter Try.func11, Try.ntmps11
    go_wp2_with fail
    refine HF.out.mono ?_
    rintro e' w' ⟨rfl, q, rfl⟩
    go_wp2
    go_ret2
    exact ⟨by rw [K1.out]; rfl, q, rfl⟩
  · by_cases h2 : (s.length : Int) < e
    · have K1 := Lib.hid (HN.out (.inr h2))
      go_enter Try.func11, Try.ntmps11
      go_wp2_with fail
      refine HF.out.mono ?_
      rintro e' w' ⟨rfl, q, rfl⟩
      go_wp2
      go_ret2
      exact ⟨by rw [K1.out]; rfl, q, rfl⟩
    · obtain ⟨n, rfl⟩ : ∃ n : Nat, e = ((n + 1 : Nat) : Int) := ⟨(e - 1).toNat, by omega⟩
      obtain ⟨x, hx1, hx2⟩ := HX.out (n + 1) (by omega) (by omega)
      have KX := Lib.hid hx1
      obtain ⟨v', hp, hb⟩ := HB.out n (n + 1) (by omega) (by omega) (by omega)
      have KB := Lib.hid hb
      rw [show n + 1 - 1 = n by omega] at hx2
      rw [hx2] at hp
      obtain ⟨a, cap, rfl, hp⟩ := hp
      obtain ⟨g, off, rfl, hcap, hc⟩ := hp (by simp)
      have hc0 : w.cell? ⟨g, off, none⟩ = some (.int .u8 (x.toNat : Int)) := hc 0 (by simp)
      clear hc hp hb
      clear hx1 hx2 HX HB HN
      go_enter Try.func11, Try.ntmps11
      go_wp2_with fail
      refine HF.out.mono ?_
      rintro e' w' ⟨rfl, q, rfl⟩
      go_wp2_with fail
      refine (KB.out (w.drewN q) rfl).mono ?_
      rintro e' w' ⟨rfl, q2, rfl⟩
      clear KB HF
      go_wp2
      go_ret2
      exact ⟨by rw [KX.out]; rfl, _, rfl⟩

theorem tlK_out {s : List UInt8} {done keep : Nat} {e : Int} (h : e < (done : Int) ∨ (s.length : Int) < e) : tlK s done keep e = none := if_neg (by omega)
theorem tlK_in {s : List UInt8} {done keep e : Nat} (h1 : done ≤ e) (h2 : e ≤ s.length) : tlK s done keep e = some (midL s (e - keep) e) := by
  unfold tlK
  rw [if_pos (by omega), Int.toNat_natCast]

set_option maxHeartbeats 400000 in
theorem catail_nil (e : Int) (w : World) : Calls Try.prog 10 #[.pointer none, .int .i64 e] w fun e w' => e = .returned (.tuple #[.string ⟨#[]⟩, .bool false]) ∧ w' = w := by
  go_enter Try.func10, Try.ntmps10
  go_wp2
  go_ret2
  exact ⟨rfl, rfl⟩
set_option maxHeartbeats 1000000 in
theorem catail_any {w : World} {base b keep done : Nat} {s : List UInt8} (h : IsCarry w base b keep s done) (hs : s.length ≤ 1000000000) (e : Int) :
    Calls Try.prog 10 #[.pointer (some ⟨b, 0, none⟩), .int .i64 e] w fun x w' => x = cvR (tlR (tlK s done keep e)) ∧ ∃ q, w' = w.drewN q := by
  have HB := Lib.hid (fun f t => cabet_any h hs f t)
  have HX := Lib.hid (fun (n : Nat) (h1 : done ≤ n) (h2 : n ≤ s.length) => tlK_in (s := s) (keep := keep) h1 h2)
  have HN := Lib.hid (fun (h : e < (done : Int) ∨ (s.length : Int) < e) => tlK_out (s := s) (done := done) (keep := keep) h)
  obtain ⟨_, _, h3, h4, h5, gone, v, h6, hh, hown⟩ := h
  obtain ⟨⟨c0, c1, c2, c3⟩, _⟩ := carry_reads hh
  clear h6 hh hown
  by_cases h1 : e < (done : Int)
  · have K1 := Lib.hid (HN.out (.inl h1))
    clear HB HX HN
    go_enter Try.func10, Try.ntmps10
    go_wp2
    go_ret2
    exact ⟨by rw [K1.out]; rfl, 0, rfl⟩
  · by_cases h2 : (s.length : Int) < e
    · have K1 := Lib.hid (HN.out (.inr h2))
      clear HB HX HN
      go_enter Try.func10, Try.ntmps10
      go_wp2
      go_ret2
      exact ⟨by rw [K1.out]; rfl, 0, rfl⟩
    · obtain ⟨n, rfl⟩ : ∃ n : Nat, e = (n : Int) := ⟨e.toNat, by omega⟩
      have KX := Lib.hid (HX.out n (by omega) (by omega))
      obtain ⟨v', hp, hb⟩ := HB.out (n - keep) n (by omega) (by omega) (by omega)
      have KB := Lib.hid (hb w rfl)
      have HP := Lib.hid (fun q => (hp.heap (w' := w.drewN q) rfl).text)
      clear hp hb
      have KM : Hid (max ((n : Int) - keep) 0 = ((n - keep : Nat) : Int)) := Lib.hid (by omega)
      have hn : (n : Int) ≤ 1000000000 := by omega
      clear HB HX HN
      go_enter Try.func10, Try.ntmps10
      go_wp2_with fail
      rw [KM.out]
      refine KB.out.mono ?_
      rintro e' w' ⟨rfl, q, rfl⟩
      have hcv := HP.out q
      clear KB HP
      go_wp2
      go_ret2
      exact ⟨by rw [KX.out]; rfl, q, rfl⟩
end Go.Proofs.Ytnjkblifikllbaa
