/-
  pats.New, walked.
-/
import Derived.Test.YthmihhacfhjimaaPtIs
import Derived.Test.YthmihhacfhjimaaPtF
import Derived.Test.YthmihhacfhjimaaPtC
import Derived.Lib.MinMax
import Derived.OneCell
set_option linter.unusedSimpArgs false
set_option linter.unusedVariables false
namespace Go.Proofs.Ythmihhacfhjimaa
open Go.RowKit

set_option maxHeartbeats 1000000 in
theorem ptnew_bad (a : Option Addr) (len cap : Nat) (ws : List (List UInt8)) (w : World) (hlen : len ≤ 1000000) (hr : IsStrs w a len ws) (ht : ∀ t ∈ ws, t.length ≤ 1000000000) (hf : ¬ faultL ws = 0) :
    Calls Try.prog 6 #[.slice a len cap] w fun e w' => e = .returned (.tuple #[.pointer none, .int .i64 (faultL ws)]) ∧ Below w.heap.size w w' := by
  have HF := Lib.hid (ptfault_any a len cap ws w hlen hr ht)
  generalize faultL ws = f at HF hf ⊢
  clear hr ht
  go_enter Try.func6, Try.ntmps6
  go_wp2_with fail
  refine HF.out.mono ?_
  rintro e w' ⟨rfl, hb⟩
  go_wp2
  go_ret2
  exact ⟨rfl, hb⟩

/-- A set of which the first k patterns are counted. -/
def Half (base : Nat) (w : World) (b : Nat) (v : Value) (ws : List (List UInt8)) (k : Nat) : Prop :=
  w.heap[b]? = some (.cells #[v, .int .i64 (leastL (ws.take k) : Int), .int .i64 (mostL (ws.take k) : Int), .int .i64 (totalL (ws.take k) : Int)] 44 (0, 0)) ∧ w.ownsRow base 9 1 v ws.length (txCells ws) ∧ v.ownBlock ≠ some b

/-- An element is stored anew as it was. -/
theorem own_again {w : World} {base g n cap : Nat} {ws : List (List UInt8)} {k : Nat} {t : List UInt8} (h : w.ownsRow base 9 1 (.slice (some ⟨g, 0, none⟩) n cap) n (txCells ws)) (hk : ws[k]? = some t) :
    (w.setCell ⟨g, k, none⟩ (.string ⟨t.toArray⟩)).ownsRow base 9 1 (.slice (some ⟨g, 0, none⟩) n cap) n (txCells ws) := by
  have hc := own_at h hk
  obtain ⟨h1, h2 | ⟨g', cap', cur, hv, hb, hh, h3⟩⟩ := h
  · cases h2.1
  · cases hv
    refine ⟨h1, .inr ⟨g, cap, cur, rfl, hb, ?_, h3⟩⟩
    rw [set_put hh]
    rw [Lib.cell_of_heap hh] at hc
    obtain ⟨hi, e⟩ := Array.getElem?_eq_some_iff.1 hc
    congr 2
    refine Array.ext (by simp) fun i h1 h2 => ?_
    rw [Array.getElem_setIfInBounds]
    split
    · rename_i h
      subst h
      exact e.symm
    · rfl

theorem half_again {w W : World} {base b g n cap : Nat} {ws : List (List UInt8)} {k m : Nat} {t : List UInt8} (h : Half base w b (.slice (some ⟨g, 0, none⟩) n cap) ws m) (hn : ws.length = n) (hb : Below w.heap.size w W) (hk : ws[k]? = some t) :
    Half base (W.setCell ⟨g, k, none⟩ (.string ⟨t.toArray⟩)) b (.slice (some ⟨g, 0, none⟩) n cap) ws m := by
  obtain ⟨h1, h2, h3⟩ := h
  have hne : b ≠ g := fun e => h3 (by rw [e]; rfl)
  refine ⟨?_, ?_, h3⟩
  · rw [Below.heap_setCell _ _ _ _ hne]
    exact (hb.block b (heap_lt h1)).trans h1
  · rw [hn] at h2 ⊢
    exact own_again (tx_below h2 hb) hk

set_option maxHeartbeats 4000000 in
theorem ptnew_good (a : Option Addr) (len cap : Nat) (ws : List (List UInt8)) (w : World) (hlen : len ≤ 1000000) (hr : IsStrs w a len ws) (hf : faultL ws = 0) :
    Calls Try.prog 6 #[.slice a len cap] w fun e w' => ∃ b, e = .returned (.tuple #[.pointer (some ⟨b, 0, none⟩), .int .i64 0]) ∧ w.heap.size ≤ b ∧ IsSet w' b (srt ws) ∧ Below w.heap.size w w' := by
  have hP := (fault_zero ws).1 hf
  have hS := hP.srt
  have ht : ∀ t ∈ ws, t.length ≤ 1000000000 := fun t h => by have := (hP.each t h).2; omega
  have HF := Lib.hid (ptfault_any a len cap ws w hlen hr ht)
  rw [hf] at HF
  have HS := Lib.hid (fun (w2 : World) (hb : Below w.heap.size w w2) => sorted_any a len cap ws w2 hlen (hr.below hb))
  have hwl := hr.1
  have HL : Hid ((srt ws).length = len) := Lib.hid (by rw [srt_length]; exact hwl)
  have HE : Hid (∀ t ∈ srt ws, t.length ≤ 65535) := Lib.hid (fun t h => (hS.each t h).2)
  have hl1 : 1 ≤ len := by have := hP.some; omega
  have hl2 : len ≤ 65535 := by have := hP.few; omega
  have HT0 : Hid (totalL (srt ws) ≤ 16777216) := Lib.hid hS.total
  clear hP hS ht hf hr hwl
  generalize srt ws = us at HS HL HE HT0 ⊢
  go_enter Try.func6, Try.ntmps6
  go_wp2_with fail
  refine HF.out.mono ?_
  rintro e w1 ⟨rfl, hb1⟩
  have HS1 := Lib.hid (HS.out w1 hb1)
  clear HF HS
  go_wp2_with fail
  refine HS1.out.mono ?_
  rintro e w2 ⟨v, rfl, hown, hb2⟩
  have d2 := hb1.trans (hb2.mono hb1.size)
  obtain ⟨n1, rfl⟩ : ∃ n, len = n + 1 := ⟨len - 1, by omega⟩
  rw [HL.out] at hown
  obtain ⟨g, cap2, rfl⟩ := own_form hown
  have hg := hown.lt g rfl
  have hsz := d2.size
  have hown2 := owns_mono hown hb1.size
  have HH : Hid (Half w.heap.size (w2.alloc (.cells #[.slice (some ⟨g, 0, none⟩) (n1 + 1) cap2, .int .i64 65535, .int .i64 0, .int .i64 0] 44)) w2.heap.size (.slice (some ⟨g, 0, none⟩) (n1 + 1) cap2) us 0) :=
    Lib.hid ⟨heap_alloc_new w2 _, by rw [HL.out]; exact hown2.alloc _, by intro e; cases e; exact absurd hg.2 (Nat.lt_irrefl _)⟩
  have D3 : Below w.heap.size w (w2.alloc (.cells #[.slice (some ⟨g, 0, none⟩) (n1 + 1) cap2, .int .i64 65535, .int .i64 0, .int .i64 0] 44)) := d2.alloc hsz _
  have hbb : w.heap.size ≤ w2.heap.size := hsz
  obtain ⟨b, hbq⟩ : ∃ b, w2.heap.size = b := ⟨_, rfl⟩
  rw [hbq] at HH hbb
  have hgb : g ≠ b := by omega
  have hgw : w.heap.size ≤ g := by have := hb1.size; omega
  have HQ := Lib.hid hbq
  clear hown hown2 hb1 hb2 d2 hg HS1 hbq
  obtain ⟨n, hn⟩ : ∃ n, n1 + 1 = n := ⟨_, rfl⟩
  rw [hn] at HL HH D3 hl1 hl2 ⊢
  clear hn
  have z0 : min (65535 : Int) 0 = 0 := by omega
  go_wp2_with fail
  rw [HQ.out]
  go_loopw [22] (fun i wr => ∃ k : Nat, k ≤ n ∧ i = .int .i64 k ∧ Hid (Half w.heap.size wr b (.slice (some ⟨g, 0, none⟩) n cap2) us k) ∧ Below w.heap.size w wr) (fun i _ => n - (RowKit.intOf i).toNat)
  case atStart => exact ⟨0, Nat.zero_le _, rfl, HH, D3⟩
  case round =>
    obtain ⟨k, hk, rfl, HK, hbe⟩ := hrel
    by_cases hlt : k < n
    · obtain ⟨t, hf⟩ : ∃ t, us[k]? = some t := ⟨_, List.getElem?_eq_getElem (show k < us.length by rw [HL.out]; exact hlt)⟩
      have htl := HE.out t (List.mem_of_getElem? hf)
      have HS := Lib.hid (bsize t)
      have hK := HK.out
      obtain ⟨hh, ho, hne⟩ := hK
      have c0 : wr.cell? ⟨b, 0, none⟩ = some (.slice (some ⟨g, 0, none⟩) n cap2) := by rw [Lib.cell_of_heap hh]; rfl
      have hcT : wr.cell? ⟨g, k, none⟩ = some (.string ⟨t.toArray⟩) := by rw [HL.out] at ho; exact own_at ho hf
      have hfT : wr.frozen? ⟨g, k, none⟩ = false := by
        obtain ⟨_, h2 | ⟨g', cap', cur, hv, _, hh2, _⟩⟩ := ho
        · cases h2.1
        · cases hv; exact Lib.frozen_of_heap hh2 k
      have hcO : ∀ W w3 : World, Below W.heap.size W w3 → W.heap = wr.heap → w3.cell? ⟨b, 0, none⟩ = some (.slice (some ⟨g, 0, none⟩) n cap2) ∧ w3.cell? ⟨g, k, none⟩ = some (.string ⟨t.toArray⟩) ∧ w3.frozen? ⟨g, k, none⟩ = false := fun W w3 hb e => ⟨cell_heap c0 hb e, cell_heap hcT hb e, frozen_heap hfT hcT hb e⟩
      have HO := Lib.hid hcO
      have HC := Lib.hid (fun W => sclone_any ⟨t.toArray⟩ W (by rw [bsize]; omega))
      clear hh ho hne hcO
      have g0 : (0 : Int) ≤ (k : Int) := by omega
      have g1 : (k : Int) < (n : Int) := by omega
      go_wp2_with fail
      go_region_with (go_at_call 15; refine (HC.out _).mono ?_; rintro e w3 ⟨rfl, hb3⟩; (obtain ⟨q0, q1, q2⟩ := HO.out _ _ hb3 (by rfl)))
      all_goals
        have H4 := half_again (show Half w.heap.size wr.drew b (.slice (some ⟨g, 0, none⟩) n cap2) us k from HK.out) HL.out hb3 hf
        have B4 : Below w.heap.size w (w3.setCell ⟨g, k, none⟩ (.string ⟨t.toArray⟩)) := (hbe.drew.trans (hb3.mono hbe.size)).setCell hgw _
        generalize w3.setCell ⟨g, k, none⟩ (.string ⟨t.toArray⟩) = w4 at H4 B4 ⊢
        have HA : Hid ((leastL (us.take (k + 1)) : Int) = min (leastL (us.take k) : Int) (t.length : Int) ∧ (mostL (us.take (k + 1)) : Int) = max (mostL (us.take k) : Int) (t.length : Int) ∧ (totalL (us.take (k + 1)) : Int) = (totalL (us.take k) : Int) + (t.length : Int)) :=
          Lib.hid (by rw [least_snoc hf, most_snoc hf, total_snoc hf]; omega)
        have hT : totalL (us.take k) + t.length ≤ 16777216 := by
          have := total_take_le us (k + 1)
          rw [total_snoc hf] at this
          have := HT0.out
          omega
        obtain ⟨hh, ho, hne⟩ := H4
        clear hf HK hbe hb3 q0 q1 q2 c0 hcT hfT HO HC
        generalize leastL (us.take k) = L at hh HA
        generalize mostL (us.take k) = M at hh HA
        generalize totalL (us.take k) = T at hh HA hT
        obtain ⟨L2, hL2⟩ : ∃ L2, min (L : Int) (t.length : Int) = L2 := ⟨_, rfl⟩
        obtain ⟨M2, hM2⟩ : ∃ M2, max (M : Int) (t.length : Int) = M2 := ⟨_, rfl⟩
        rw [hL2, hM2] at HA
        have c1 : w4.cell? ⟨b, 1, none⟩ = some (.int .i64 (L : Int)) := by rw [Lib.cell_of_heap hh]; rfl
        have c2 : w4.cell? ⟨b, 2, none⟩ = some (.int .i64 (M : Int)) := by rw [Lib.cell_of_heap hh]; rfl
        have c3 : w4.cell? ⟨b, 3, none⟩ = some (.int .i64 (T : Int)) := by rw [Lib.cell_of_heap hh]; rfl
        have f1 : w4.frozen? ⟨b, 1, none⟩ = false := Lib.frozen_of_heap hh 1
        have f2 : w4.frozen? ⟨b, 2, none⟩ = false := Lib.frozen_of_heap hh 2
        have f3 : w4.frozen? ⟨b, 3, none⟩ = false := Lib.frozen_of_heap hh 3
        have HH4 := Lib.hid hh
        have HO4 := Lib.hid ho
        have HN4 := Lib.hid hne
        clear hh ho hne
        go_wp2_with fail
        refine ⟨⟨k + 1, by omega, by go_num, Lib.hid ⟨?_, ?_, HN4.out⟩, ((B4.setCell hbb _).setCell hbb _).setCell hbb _⟩, by simp [RowKit.intOf]; omega⟩
        · obtain ⟨a1, a2, a3⟩ := HA.out
          rw [a1, a2, a3]
          refine (set_put (set_put (set_put HH4.out _) _) _).trans ?_
          simp
        · exact ownsRow_setCell_other (ownsRow_setCell_other (ownsRow_setCell_other HO4.out HN4.out _) HN4.out _) HN4.out _
    · obtain rfl : k = n := by omega
      have HR : Hid (IsSet wr b us) := Lib.hid (by
        obtain ⟨h1, h2, _⟩ := HK.out
        rw [List.take_of_length_le (by rw [HL.out]; exact Nat.le_refl _)] at h1
        have h3 := owns_mono (base' := 0) h2 (Nat.zero_le _)
        rw [HL.out] at h3
        refine ⟨g, cap2, ?_, ?_⟩ <;> rw [HL.out]
        · exact h1
        · exact h3)
      clear HK
      go_wp2
      go_ret2
      exact ⟨b, rfl, hbb, HR.out, hbe⟩
end Go.Proofs.Ythmihhacfhjimaa
