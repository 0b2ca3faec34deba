/-
  Texts put together: SpT, SpP, LkN, IntsB, LkNw, SpNw, SpN, SpS, SpNs, DnEx, AfT, AfCm.
-/
import Derived.Test.YtnechkljecdfkaaBn6
import Derived.Lib.MinMax
import Derived.WalkMore
import Derived.Deep.QuietTactic
import Derived.Test.YtnechkljecdfkaaBn2
import Derived.Laws.CopyOwn
import Derived.Deep.RegionWith
import Derived.Test.YtnechkljecdfkaaSpL
import Derived.Laws.MakeOwn
import Derived.Test.YtnechkljecdfkaaBn4
import Derived.Maps.OwnOps
import Derived.Maps.Views
import Derived.Maps.OwnSet
import Derived.StringKeys
import Derived.Test.YtnechkljecdfkaaBn1
import Derived.Test.YtnechkljecdfkaaShelf
set_option linter.unusedSimpArgs false
set_option linter.unusedVariables false
namespace Go.Proofs.Ytnechkljecdfkaa
open Go.RowKit

theorem splen_any {w : World} {base b pb : Nat} {k : Option Addr} {P : List Nat} {C : List (Nat × Nat)} {v : Value} (h : IsSp w base b pb k P C v) : Calls Try.prog 11 #[.pointer (some ⟨b, 0, none⟩)] w fun e w' => e = .returned (.int .i64 (P.length : Int)) ∧ w' = w := by
  have c1 := h.reads.2.1
  clear h
  go_enter Try.func11, Try.ntmps11
  go_wp2
  go_ret
  exact ⟨rfl, rfl⟩
theorem spcells_any {w : World} {base b pb : Nat} {k : Option Addr} {P : List Nat} {C : List (Nat × Nat)} {v : Value} (h : IsSp w base b pb k P C v) : Calls Try.prog 12 #[.pointer (some ⟨b, 0, none⟩)] w fun e w' => e = .returned (.int .i64 (C.length : Int)) ∧ w' = w := by
  have c1 := h.reads.2.2
  obtain ⟨a, cap, rfl⟩ := h.sl
  clear h
  go_enter Try.func12, Try.ntmps12
  go_wp2
  go_ret
  exact ⟨rfl, rfl⟩
/-- A nil table. -/
theorem splen_nil (w : World) : Calls Try.prog 11 #[.pointer none] w fun e w' => e = .returned (.int .i64 0) ∧ w' = w := by
  go_enter Try.func11, Try.ntmps11
  go_wp2
  go_ret
  exact ⟨rfl, rfl⟩
theorem spcells_nil (w : World) : Calls Try.prog 12 #[.pointer none] w fun e w' => e = .returned (.int .i64 0) ∧ w' = w := by
  go_enter Try.func12, Try.ntmps12
  go_wp2
  go_ret
  exact ⟨rfl, rfl⟩

set_option maxHeartbeats 1000000 in
theorem sptaken_any {w : World} {base b pb : Nat} {k : Option Addr} {P : List Nat} {C : List (Nat × Nat)} {v : Value} (h : IsSp w base b pb k P C v) (j : Nat) : Calls Try.prog 32 #[.pointer (some ⟨b, 0, none⟩), .int .i64 (j : Int)] w fun e w' => e = .returned (.bool (tkC C j)) ∧ w' = w := by
  have c2 := h.reads.2.2
  by_cases hj : j < C.length
  · obtain ⟨o, x, hx⟩ : ∃ o x, C[j]? = some (o, x) := ⟨_, _, List.getElem?_eq_getElem hj⟩
    obtain ⟨g, cap, rfl, hg, ho, hxl, e0, e1⟩ := h.at hx
    rw [tk_in hx]
    clear h hx
    have g0 : (0 : Int) ≤ (j : Int) := by omega
    have g1 : (j : Int) < (C.length : Int) := by omega
    generalize C.length = m at *
    by_cases h0 : 0 < x
    · have q0 : (0 : Int) < (x : Int) := by omega
      rw [decide_eq_true h0]
      go_enter Try.func32, Try.ntmps32
      go_wp2
      go_ret
      exact ⟨rfl, rfl⟩
    · obtain rfl : x = 0 := by omega
      go_enter Try.func32, Try.ntmps32
      go_wp2
      go_ret
      exact ⟨rfl, rfl⟩
  · obtain ⟨a, cap, rfl⟩ := h.sl
    rw [tk_out (by omega)]
    clear h
    have g1 : ¬ (j : Int) < (C.length : Int) := by omega
    have g2 : decide ((j : Int) < (C.length : Int)) = false := decide_eq_false g1
    generalize C.length = m at *
    go_enter Try.func32, Try.ntmps32
    go_wp2
    go_ret
    exact ⟨rfl, rfl⟩
end Go.Proofs.Ytnechkljecdfkaa

namespace Go.Proofs.Ytnechkljecdfkaa
open Go.RowKit

theorem byte_ix (l : List UInt8) (n : Nat) (h : n < l.length) : (⟨l.toArray⟩ : ByteArray).get! n = l[n] := by
  simp [ByteArray.get!, h]

set_option maxRecDepth 100000 in
set_option maxHeartbeats 2000000 in
theorem spplace_any {w : World} {base b pb : Nat} {k : Option Addr} {P : List Nat} {C : List (Nat × Nat)} {v : Value} (h : IsSp w base b pb k P C v) (K : List UInt8) (f : Nat) (hf : f ≤ C.length) (hK : 0 < K.length) (hK2 : K.length ≤ 256) :
    Calls Try.prog 29 #[.pointer (some ⟨b, 0, none⟩), .string ⟨K.toArray⟩, .int .i64 (f : Int)] w fun e w' => ∃ p : Nat, e = .returned (.int .i64 (p : Int)) ∧ p ≤ C.length ∧ FreeAt C K p ∧ w' = w := by
  have HT := Lib.hid (fun j => sptaken_any h j)
  have hcl := h.clen
  have HZ := Lib.hid (bsize K)
  have hz0 : 0 < (⟨K.toArray⟩ : ByteArray).size := by rw [bsize]; exact hK
  have hB0 := byteAt K 0 hK hz0
  have hb0 := (K[0]).toNat_lt
  generalize K[0] = c0 at *
  obtain ⟨p0, hp0, hpl⟩ : ∃ p0 : Nat, max (0 : Int) ((f : Int) - (c0.toNat : Int)) = (p0 : Int) ∧ p0 ≤ C.length := ⟨f - c0.toNat, by omega, by omega⟩
  have w0 : IntKind.i64.wrap ((f : Int) - (c0.toNat : Int)) = (f : Int) - (c0.toNat : Int) := by rw [IntKind.wrap_i64]; omega
  clear h
  go_enter Try.func29, Try.ntmps29
  go_wp2_with fail
  go_step3
  go_wp2_with fail
  go_step3
  go_wp2
  go_loopw [7] (fun x wr => ∃ p : Nat, x = .int .i64 p ∧ p ≤ C.length ∧ wr = w) (fun x _ => C.length - (RowKit.intOf x).toNat)
  case atStart => exact ⟨p0, rfl, hpl, rfl⟩
  case round =>
    obtain ⟨p, rfl, hp, hwr⟩ := hrel
    obtain rfl := hwr.symm
    clear hwr
    go_wp2
    go_loopw [19] (fun x wr => ∃ i : Nat, x = .int .i64 i ∧ i ≤ K.length ∧ Hid (FreeAt C (K.take i) p) ∧ wr = w) (fun x _ => K.length - (RowKit.intOf x).toNat)
    case atStart => exact ⟨0, rfl, Nat.zero_le _, Lib.hid (fun c hc => by simp at hc), rfl⟩
    case round =>
      obtain ⟨i, rfl, hi, HF, hwr⟩ := hrel
      obtain rfl := hwr.symm
      clear hwr
      by_cases hlt : i < K.length
      · have hzi : i < (⟨K.toArray⟩ : ByteArray).size := by rw [bsize]; exact hlt
        have hBi := byteAt K i hlt hzi
        have hTi := List.take_succ_eq_append_getElem hlt
        have HTi : Hid (K.take (i + 1) = K.take i ++ [K[i]]) := Lib.hid hTi
        clear hTi
        have hbi := (K[i]).toNat_lt
        have HT2 := Lib.hid (HT.out (p + (K[i]).toNat))
        have HLow : Hid (tkC C (p + (K[i]).toNat) = true → p + (K[i]).toNat < C.length) := Lib.hid (fun h => by
          rcases Nat.lt_or_ge (p + (K[i]).toNat) C.length with h1 | h1
          · exact h1
          · rw [tk_out h1] at h; cases h)
        generalize K[i] = c at *
        have g0 : (0 : Int) ≤ (i : Int) := by omega
        have g1 : (i : Int) < (K.length : Int) := by omega
        have w1 : IntKind.i64.wrap ((p : Int) + (c.toNat : Int)) = ((p + c.toNat : Nat) : Int) := by rw [IntKind.wrap_i64]; omega
        cases hq : tkC C (p + c.toNat) with
        | true =>
          rw [hq] at HT2
          have hlow := HLow.out hq
          go_wp2_with fail
          refine HT2.out.mono ?_
          rintro e w' ⟨rfl, hw'⟩
          obtain rfl := hw'.symm
          clear hw' HT2 HT
          go_wp2
          exact ⟨⟨p + 1, by go_num, by omega, trivial⟩, by simp [RowKit.intOf]; omega⟩
        | false =>
          rw [hq] at HT2
          have HF2 : Hid (FreeAt C (K.take (i + 1)) p) := Lib.hid (by
            rw [HTi.out]
            intro d hd
            rcases List.mem_append.1 hd with hd | hd
            · exact HF.out d hd
            · rw [List.mem_singleton] at hd
              subst hd
              exact hq)
          clear HF HTi
          go_wp2_with fail
          refine HT2.out.mono ?_
          rintro e w' ⟨rfl, hw'⟩
          obtain rfl := hw'.symm
          clear hw' HT2 HT
          go_wp2
          exact ⟨⟨i + 1, by go_num, by omega, HF2, trivial⟩, by simp [RowKit.intOf]; omega⟩
      · obtain rfl : i = K.length := by omega
        have hz : ¬ (K.length : Int) < (K.length : Int) := by omega
        have HF2 : Hid (FreeAt C K p) := Lib.hid (by have := HF.out; rwa [List.take_length] at this)
        clear HF
        go_wp2
        go_ret
        exact ⟨p, rfl, hp, HF2.out, rfl⟩

set_option maxRecDepth 100000 in
set_option maxHeartbeats 1000000 in
theorem spfree_any {w : World} {base b pb : Nat} {k : Option Addr} {P : List Nat} {C : List (Nat × Nat)} {v : Value} (h : IsSp w base b pb k P C v) (f : Nat) (hf : f ≤ C.length) :
    Calls Try.prog 30 #[.pointer (some ⟨b, 0, none⟩), .int .i64 (f : Int)] w fun e w' => ∃ p : Nat, e = .returned (.int .i64 (p : Int)) ∧ p ≤ C.length ∧ w' = w := by
  have HT := Lib.hid (fun j => sptaken_any h j)
  have hcl := h.clen
  have c2 := h.reads.2.2
  obtain ⟨a, cap, rfl⟩ := h.sl
  have HLow : Hid (∀ p, tkC C p = true → p < C.length) := Lib.hid (fun p h => by
    rcases Nat.lt_or_ge p C.length with h1 | h1
    · exact h1
    · rw [tk_out h1] at h; cases h)
  clear h
  obtain ⟨p0, hp0, hpl⟩ : ∃ p0 : Nat, max (f : Int) ((C.length : Int) - 4096) = (p0 : Int) ∧ p0 ≤ C.length := ⟨max f (C.length - 4096), by omega, by omega⟩
  have w0 : IntKind.i64.wrap ((C.length : Int) - 4096) = (C.length : Int) - 4096 := by rw [IntKind.wrap_i64]; omega
  generalize C.length = m at *
  go_enter Try.func30, Try.ntmps30
  go_wp2
  go_loopw [1] (fun x wr => ∃ p : Nat, x = .int .i64 p ∧ p ≤ m ∧ wr = w) (fun x _ => m - (RowKit.intOf x).toNat)
  case atStart => exact ⟨p0, rfl, hpl, rfl⟩
  case round =>
    obtain ⟨p, rfl, hp, hwr⟩ := hrel
    obtain rfl := hwr.symm
    clear hwr c2
    have HT2 := Lib.hid (HT.out p)
    clear HT
    cases hq : tkC C p with
    | true =>
      rw [hq] at HT2
      have hlow := HLow.out p hq
      go_wp2_with fail
      refine HT2.out.mono ?_
      rintro e w' ⟨rfl, hw'⟩
      obtain rfl := hw'.symm
      clear hw' HT2
      go_wp2
      exact ⟨⟨p + 1, by go_num, by omega, trivial⟩, by simp [RowKit.intOf]; omega⟩
    | false =>
      rw [hq] at HT2
      go_wp2_with fail
      refine HT2.out.mono ?_
      rintro e w' ⟨rfl, hw'⟩
      obtain rfl := hw'.symm
      clear hw' HT2
      go_wp2
      go_ret
      exact ⟨p, rfl, hp, rfl⟩
end Go.Proofs.Ytnechkljecdfkaa

namespace Go.Proofs.Ytnechkljecdfkaa
open Go.RowKit

/-- What fallOf tells of a state. -/
def RetFl (us S : List (List UInt8)) (s : List UInt8) (w : World) (e : Ending) (w' : World) : Prop :=
  ∃ a b : Nat, e = .returned (flV (a, b)) ∧ S[a]? = some (fbL S s) ∧ S[b]? = some (fbL us s) ∧ Below w.heap.size w w'

theorem put_two {w : World} {r : Nat} {T : TypeId} {u v : Value} (h : w.heap[r]? = some (.cells #[u, v] T (0, 0))) (x y : Value) : ((w.setCell ⟨r, 0, none⟩ x).setCell ⟨r, 1, none⟩ y).heap[r]? = some (.cells #[x, y] T (0, 0)) := by
  rw [put_heap (put_heap h x) y]; rfl

set_option maxHeartbeats 2000000 in
theorem lkfall_any {w : World} {k q p : Option Addr} {us S : List (List UInt8)} {m : Nat} {F : List (Nat × Nat)} (h : IsLink w k q p us S m F) {s : List UInt8} (hs : S[m]? = some s) :
    Calls Try.prog 41 #[.pointer k, .int .i64 (m : Int)] w (RetFl us S s w) := by
  have hil := (List.getElem?_eq_some_iff.1 hs).1
  obtain ⟨base, b, g, rfl, hk⟩ := h.has.some (i := m) (by rw [h.flen]; exact hil)
  have hfew := h.tr.few.2.2
  have HH := Lib.hid h
  have HK := Lib.hid hk
  have hB1 := (Below.refl w.heap.size w).alloc (Nat.le_refl _) (.cells #[.int .i32 0, .int .i32 0] 72)
  obtain ⟨a, hS, hle, hA⟩ := ts_above (h.tr.below hB1) m hs
  have HA := Lib.hid hA
  have c0 := (hk.below hB1).reads.1
  have hcell := heap_alloc_new w (.cells #[.int .i32 0, .int .i32 0] 72)
  have hrs : w.heap.size < (w.alloc (.cells #[.int .i32 0, .int .i32 0] 72)).heap.size := by simp
  clear h hk hA
  go_enter Try.func41, Try.ntmps41
  go_wp2_with fail
  refine HA.out.mono ?_
  rintro e w2 ⟨rfl, hb2⟩
  have hR2 : w2.heap[w.heap.size]? = some (.cells #[.int .i32 0, .int .i32 0] 72 (0, 0)) := (hb2.block _ hrs).trans hcell
  have d2 := hB1.trans (hb2.mono hB1.size)
  generalize hr : w.heap.size = r at *
  by_cases ha0 : a = 0
  · have e0 := (HH.out.zero hS).1 ha0
    subst ha0
    have hf : fbL S s = [] ∧ fbL us s = [] := by
      match s, e0 with
      | [], _ => exact ⟨rfl, rfl⟩
      | [x], _ => exact ⟨rfl, rfl⟩
    have HE : Hid (S[0]? = some (fbL S s) ∧ S[0]? = some (fbL us s)) := Lib.hid (by rw [hf.1, hf.2]; exact ⟨HH.out.root, HH.out.root⟩)
    have f0 := Lib.frozen_of_heap hR2 0
    have f1 := Lib.frozen_of_heap hR2 1
    have k0 : w2.cell? ⟨r, 0, none⟩ = some (.int .i32 0) := by rw [Lib.cell_of_heap hR2]; rfl
    have k1 : w2.cell? ⟨r, 1, none⟩ = some (.int .i32 0) := by rw [Lib.cell_of_heap hR2]; rfl
    clear HA hb2 hB1 hcell hrs hS hf e0 hs
    go_wp2
    have hfin := put_two hR2 (.int .i32 0) (.int .i32 0)
    have d3 : Below r w ((w2.setCell ⟨r, 0, none⟩ (.int .i32 0)).setCell ⟨r, 1, none⟩ (.int .i32 0)) := (d2.setCell (p := ⟨r, 0, none⟩) (Nat.le_refl _) _).setCell (p := ⟨r, 1, none⟩) (Nat.le_refl _) _
    generalize (w2.setCell ⟨r, 0, none⟩ (.int .i32 0)).setCell ⟨r, 1, none⟩ (.int .i32 0) = w3 at *
    have j0 : w3.cell? ⟨r, 0, none⟩ = some (.int .i32 0) := by rw [Lib.cell_of_heap hfin]; rfl
    have j1 : w3.cell? ⟨r, 1, none⟩ = some (.int .i32 0) := by rw [Lib.cell_of_heap hfin]; rfl
    refine bodyPost_ret (v := flV (0, 0)) (by simp [results, Try.results41, go_sem, flV, j0, j1]) rfl ?_
    exact ⟨0, 0, rfl, HE.out.1, HE.out.2, by rw [hr]; exact d3⟩
  · have e0 : s.dropLast ≠ [] := fun e => ha0 ((HH.out.zero hS).2 e)
    have hs0 : s ≠ [] := fun e => e0 (by rw [e]; rfl)
    have es : s.dropLast ++ [s.getLastD 0] = s := by
      rw [List.getLastD_eq_getLast?, List.getLast?_eq_some_getLast hs0]
      exact List.dropLast_concat_getLast hs0
    have ham : a < m := HH.out.less hS hs (by
      rw [List.length_dropLast]
      have : 0 < s.length := List.length_pos_iff.2 hs0
      omega)
    obtain ⟨f, f', hF, hf, _⟩ := HH.out.ok.at_ a _ ham hS
    have hfa := HH.out.less hf hS (fb_less e0)
    have H2 := HH.out.below (by rw [hr]; exact d2)
    have HF := Lib.hid (lkfail_any H2.has (a : Int))
    rw [flOf_in hF] at HF
    have g0 : ((a : Int) == 0) = false := by simp; omega
    have g1 : ¬ (a : Int) = 0 := by omega
    have HT := Lib.hid (fun W hb => lkstep_in (H2.below (w' := W) hb) f hf (show f < m by omega) (s.getLastD 0))
    have HES := Lib.hid (show lgL S (fbL S s.dropLast ++ [s.getLastD 0]) = fbL S s by
      have := fb_above HH.out.tr.st (s.getLastD 0) e0
      rw [es] at this
      exact this.symm)
    have HFS := Lib.hid (show (fbL S s).length < s.length from fb_less hs0)
    have HS := Lib.hid hs
    have hs2 : r < w2.heap.size := lt_of_heap hR2
    clear HA hb2 hB1 hcell hrs hS e0 hs0 es hs ha0 hF hf hfa H2
    generalize s.getLastD 0 = c at *
    go_wp2_with fail
    refine HF.out.mono ?_
    rintro e w3 ⟨rfl, hb3⟩
    have H3 := Lib.hid (HT.out w3 hb3)
    have hR3 := (hb3.block _ hs2).trans hR2
    have d3 := d2.trans (hb3.mono (by rw [← hr]; exact d2.size))
    clear HT HF hb3 hs2 hR2 d2
    go_wp2_with fail
    refine H3.out.mono ?_
    rintro e w4 ⟨n, rfl, hn, hb4⟩
    rw [HES.out] at hn
    have hs3 : r < w3.heap.size := lt_of_heap hR3
    have hR4 := (hb4.block _ hs3).trans hR3
    have d4 := d3.trans (hb4.mono (by rw [← hr]; exact d3.size))
    have H4 := HH.out.below (by rw [hr]; exact d4)
    have c4 := (HK.out.below (by rw [hr]; exact d4)).reads.1
    have hnm := H4.less hn HS.out HFS.out
    have hnl := (List.getElem?_eq_some_iff.1 hn).1
    have HN := Lib.hid (ts_ends H4.tr H4.asc n hn)
    have wn : IntKind.i32.wrap (n : Int) = (n : Int) := by rw [IntKind.wrap_i32]; omega
    clear H3 hb4 hs3 hR3 d3 HES HFS HS c0
    have hs4 : r < w4.heap.size := lt_of_heap hR4
    by_cases hu : fbL S s ∈ us
    · have HE : Hid (S[n]? = some (fbL S s) ∧ S[n]? = some (fbL us s)) := Lib.hid ⟨hn, by rw [out_hit HH.out.tr.st hu]; exact hn⟩
      clear H4 hn
      go_wp2_with fail
      refine HN.out.mono ?_
      rintro e w5 ⟨⟨h1, _⟩, hb5⟩
      obtain rfl := h1 hu
      have hR5 := (hb5.block _ hs4).trans hR4
      have d5 := d4.trans (hb5.mono (by rw [← hr]; exact d4.size))
      have f0 := Lib.frozen_of_heap hR5 0
      have f1 := Lib.frozen_of_heap hR5 1
      have k0 : w5.cell? ⟨r, 0, none⟩ = some (.int .i32 0) := by rw [Lib.cell_of_heap hR5]; rfl
      have k1 : w5.cell? ⟨r, 1, none⟩ = some (.int .i32 0) := by rw [Lib.cell_of_heap hR5]; rfl
      clear h1 hb5 hs4 hR4 d4 HN hu
      go_wp2
      have hfin := put_two hR5 (.int .i32 (n : Int)) (.int .i32 (n : Int))
      have d6 : Below r w ((w5.setCell ⟨r, 0, none⟩ (.int .i32 (n : Int))).setCell ⟨r, 1, none⟩ (.int .i32 (n : Int))) := (d5.setCell (p := ⟨r, 0, none⟩) (Nat.le_refl _) _).setCell (p := ⟨r, 1, none⟩) (Nat.le_refl _) _
      generalize (w5.setCell ⟨r, 0, none⟩ (.int .i32 (n : Int))).setCell ⟨r, 1, none⟩ (.int .i32 (n : Int)) = w6 at *
      have j0 : w6.cell? ⟨r, 0, none⟩ = some (.int .i32 (n : Int)) := by rw [Lib.cell_of_heap hfin]; rfl
      have j1 : w6.cell? ⟨r, 1, none⟩ = some (.int .i32 (n : Int)) := by rw [Lib.cell_of_heap hfin]; rfl
      refine bodyPost_ret (v := flV (n, n)) (by simp [results, Try.results41, go_sem, flV, j0, j1]) rfl ?_
      exact ⟨n, n, rfl, HE.out.1, HE.out.2, by rw [hr]; exact d6⟩
    · obtain ⟨x, y, hFn, _, hy⟩ := HH.out.ok.at_ n _ hnm hn
      have HE : Hid (S[n]? = some (fbL S s) ∧ S[y]? = some (fbL us s)) := Lib.hid ⟨hn, by rw [out_miss HH.out.tr.st hu]; exact hy⟩
      have HO := Lib.hid (fun W hb => lkof_in (H4.below (w' := W) hb).has n (x, y) hFn)
      have FD := flfield1 (.int .i32 (x : Int)) (.int .i32 (y : Int))
      clear H4 hn hy hFn
      go_wp2_with fail
      refine HN.out.mono ?_
      rintro e w5 ⟨⟨_, h1⟩, hb5⟩
      obtain rfl := h1 hu
      have HO2 := Lib.hid (HO.out w5 hb5)
      have hR5 := (hb5.block _ hs4).trans hR4
      have d5 := d4.trans (hb5.mono (by rw [← hr]; exact d4.size))
      have hs5 : r < w5.heap.size := lt_of_heap hR5
      clear h1 hb5 hs4 hR4 d4 HN hu HO
      go_wp2_with fail
      refine HO2.out.mono ?_
      rintro e w6 ⟨rfl, hb6⟩
      have hR6 := (hb6.block _ hs5).trans hR5
      have d6 := d5.trans (hb6.mono (by rw [← hr]; exact d5.size))
      have f0 := Lib.frozen_of_heap hR6 0
      have f1 := Lib.frozen_of_heap hR6 1
      have k0 : w6.cell? ⟨r, 0, none⟩ = some (.int .i32 0) := by rw [Lib.cell_of_heap hR6]; rfl
      have k1 : w6.cell? ⟨r, 1, none⟩ = some (.int .i32 0) := by rw [Lib.cell_of_heap hR6]; rfl
      clear HO2 hb6 hs5 hR5 d5
      unfold flV
      go_wp2
      have hfin := put_two hR6 (.int .i32 (n : Int)) (.int .i32 (y : Int))
      have d7 : Below r w ((w6.setCell ⟨r, 0, none⟩ (.int .i32 (n : Int))).setCell ⟨r, 1, none⟩ (.int .i32 (y : Int))) := (d6.setCell (p := ⟨r, 0, none⟩) (Nat.le_refl _) _).setCell (p := ⟨r, 1, none⟩) (Nat.le_refl _) _
      generalize (w6.setCell ⟨r, 0, none⟩ (.int .i32 (n : Int))).setCell ⟨r, 1, none⟩ (.int .i32 (y : Int)) = w7 at *
      have j0 : w7.cell? ⟨r, 0, none⟩ = some (.int .i32 (n : Int)) := by rw [Lib.cell_of_heap hfin]; rfl
      have j1 : w7.cell? ⟨r, 1, none⟩ = some (.int .i32 (y : Int)) := by rw [Lib.cell_of_heap hfin]; rfl
      refine bodyPost_ret (v := flV (n, y)) (by simp [results, Try.results41, go_sem, flV, j0, j1]) rfl ?_
      exact ⟨n, y, rfl, HE.out.1, HE.out.2, by rw [hr]; exact d7⟩
end Go.Proofs.Ytnechkljecdfkaa

namespace Go.Proofs.Ytnechkljecdfkaa
open Go.RowKit

theorem int_info : (Try.prog.info? 3).map (fun i => (i.zero, i.size, i.bytes)) = some (some (.int .i64 0), 1, 8) := by kernel_rfl

/-- The cells of numbers. -/
def inCells (zs : List Int) : List Value := zs.map (Value.int .i64)
theorem inCells_snoc (zs : List Int) (x : Int) : inCells (zs ++ [x]) = inCells zs ++ [.int .i64 x] := by simp [inCells]

theorem owns_ints {w : World} {base : Nat} {e : TypeId} {v : Value} {zs : List Int} (h : w.ownsRow base e 1 v zs.length (inCells zs)) :
    ∃ ao cap, v = .slice ao zs.length cap ∧ (zs.length = 0 ∨ ∃ g, ao = some ⟨g, 0, none⟩ ∧ base ≤ g ∧ g < w.heap.size ∧ ∀ i, i < zs.length → w.cell? ⟨g, 0 + i, none⟩ = some (.int .i64 (zs.getD i 0))) := by
  rcases h.2 with ⟨hv, h0⟩ | ⟨g, cap, cur, hv, hg, _⟩
  · have h0' : zs.length = 0 := h0
    exact ⟨none, 0, by rw [h0']; exact hv, .inl h0'⟩
  · have hlt := h.lt (k := g) (by rw [hv]; rfl)
    refine ⟨some ⟨g, 0, none⟩, cap, hv, .inr ⟨g, rfl, hlt.1, hlt.2, fun i hi => ?_⟩⟩
    have hc := h.cells (g := g) (by rw [hv]; rfl) i (.int .i64 (zs.getD i 0)) (by simp [inCells, List.getD, List.getElem?_eq_getElem hi])
    rwa [addPlain] at hc

/-- Numbers in memory: all cells, not just those of a slice that came in. -/
theorem row_of_ints {w : World} {base : Nat} {e : TypeId} {v : Value} {zs : List Int} (h : w.ownsRow base e 1 v zs.length (inCells zs)) (hm : zs.length ≤ maxLen) :
    ∃ ao cap, v = .slice ao zs.length cap ∧ IsRow .i64 w ao zs.length zs.length zs := by
  obtain ⟨ao, cap, hv, h0 | ⟨g, hao, _, _, hc⟩⟩ := owns_ints h
  · exact ⟨ao, cap, hv, .inl h0⟩
  · exact ⟨ao, cap, hv, .inr ⟨g, 0, hao, Nat.le_refl _, hm, rfl, hc⟩⟩

/-- A number's one cell, in a block of its own. -/
theorem int_news {w : World} {X : Nat} {T : TypeId} {u : Value} (h : w.heap[X]? = some (.cells #[u] T (0, 0))) : ∀ j x, [u][j]? = some x → w.cell? ((⟨X, 0, none⟩ : Addr).add j) = some x := one_news h
theorem int_one {x : Int} : ∀ v ∈ [Value.int .i64 x], v.oneCell' = true := by
  intro v hv
  simp at hv
  subst hv; rfl

/-- A list of numbers, as an answer: a slice of the call's own; nothing that was there is written. -/
def RetN (zs : List Int) (w : World) (e : Ending) (w' : World) : Prop := ∃ (v : Value), e = .returned v ∧ w'.ownsRow w.heap.size 3 1 v zs.length (inCells zs) ∧ Below w.heap.size w w'

/-- A list of numbers, to be read: a slice; nothing that was there is written. -/
def RetI (zs : List Int) (w : World) (e : Ending) (w' : World) : Prop := ∃ (a : Option Addr) (cap : Nat), e = .returned (.slice a zs.length cap) ∧ IsRow .i64 w' a zs.length zs.length zs ∧ Below w.heap.size w w'
theorem RetI.of {zs L : List Int} {w0 w w' : World} {v : Value} (e : zs = L) (h : w'.ownsRow w0.heap.size 3 1 v L.length (inCells L)) (hm : L.length ≤ maxLen) (hb : Below w.heap.size w w') : ∃ a cap, v = .slice a L.length cap ∧ RetI zs w (.returned (.slice a L.length cap)) w' := by
  obtain ⟨ao, cap, hv, hr⟩ := row_of_ints h hm
  subst e
  exact ⟨ao, cap, hv, ao, cap, rfl, hr, hb⟩

/-- A row in one block of its own. -/
theorem row_heap {w : World} {g n : Nat} {zs : List Int} {T : TypeId} (h : w.heap[g]? = some (.cells (inCells zs).toArray T (0, 0))) (hn : zs.length = n) (hm : n ≤ maxLen) : IsRow .i64 w (some ⟨g, 0, none⟩) n n zs := by
  refine .inr ⟨g, 0, rfl, Nat.le_refl _, hm, hn, fun i hi => ?_⟩
  rw [Nat.zero_add, Lib.cell_of_heap h]
  simp [inCells, List.getD, List.getElem?_eq_getElem (show i < zs.length by omega)]
end Go.Proofs.Ytnechkljecdfkaa

namespace Go.Proofs.Ytnechkljecdfkaa
open Go.RowKit

theorem made_fl (n : Nat) : madeCells (Value.agg #[.int .i32 0, .int .i32 0]).cells (n * 2) = (flCells (List.replicate n (0, 0))).toArray := by
  have e : (Value.agg #[.int .i32 0, .int .i32 0]).cells = #[.int .i32 0, .int .i32 0] := by rfl
  rw [e, fl_rep]
  unfold madeCells
  apply Array.ext
  · simp
  · intro i h1 h2
    simp at h1
    have : i % 2 = 0 ∨ i % 2 = 1 := by omega
    rcases this with h | h <;> simp [h]
set_option maxRecDepth 100000 in
theorem make_falls (c : Nat) (w : World) (hc : c ≤ 16777217) : (Instr.makeSlice 68 (.int .i64 (c : Int)) (.int .i64 (c : Int))).run Try.prog w = .ok (.slice (some ⟨w.heap.size, 0, none⟩) c c) (w.alloc (.cells (flCells (List.replicate c (0, 0))).toArray 72)) := by
  obtain ⟨i0, hi, hz0, hz1, hz2⟩ := info_parts fl_info
  have h := run_make (P := Try.prog) w 68 72 i0 (.agg #[.int .i32 0, .int .i32 0]) Try.underlying68 hi hz0 .i64 .i64 c c (by omega) (Int.le_refl _) (by rw [hz2]; omega) (by omega)
  rw [h, hz1, Int.toNat_natCast, made_fl]

/-- One more state is known. -/
theorem FlOk.put {us S : List (List UInt8)} {i : Nat} {F : List (Nat × Nat)} (h : FlOk us S i F) {s : List UInt8} (hs : S[i]? = some s) {a b : Nat} (ha : S[a]? = some (fbL S s)) (hb : S[b]? = some (fbL us s)) : FlOk us S (i + 1) (F.set i (a, b)) := by
  have hil := (List.getElem?_eq_some_iff.1 hs).1
  refine ⟨by rw [List.length_set]; exact h.len, fun j t hj ht => ?_⟩
  by_cases e : j = i
  · subst e
    obtain rfl : t = s := Option.some.inj (ht.symm.trans hs)
    exact ⟨a, b, List.getElem?_set_self (by rw [h.len]; exact hil), ha, hb⟩
  · obtain ⟨x, y, h1, h2, h3⟩ := h.at_ j t (by omega) ht
    exact ⟨x, y, by rw [List.getElem?_set_ne (Ne.symm e)]; exact h1, h2, h3⟩
theorem IsLk.ne {w : World} {base b g : Nat} {q : Option Addr} {F : List (Nat × Nat)} (h : IsLk w base b g q F) : b ≠ g := fun e => by
  have h1 := h.head
  rw [e, h.row] at h1
  simp at h1
theorem IsLk.put {w : World} {base b g : Nat} {q : Option Addr} {F : List (Nat × Nat)} (h : IsLk w base b g q F) {i : Nat} (hi : i < F.length) {x y : Nat} (hx : x ≤ 16777217) (hy : y ≤ 16777217) :
    IsLk ((w.setCell ⟨g, i * 2, none⟩ (.int .i32 (x : Int))).setCell ⟨g, i * 2 + 1, none⟩ (.int .i32 (y : Int))) base b g q (F.set i (x, y)) := by
  have hne := h.ne
  refine ⟨?_, ?_, h.bb, h.gg, by rw [List.length_set]; exact h.few, fun r hr => ?_⟩
  · rw [List.length_set, put_other hne, put_other hne]; exact h.head
  · rw [put_heap (put_heap h.row _)]
    congr 2
    have := fl_set F i x y (List.getElem?_eq_getElem hi)
    rw [← this]
    simp
  · rcases List.mem_or_eq_of_mem_set hr with h1 | rfl
    · exact h.fit r h1
    · exact ⟨hx, hy⟩

set_option maxRecDepth 100000 in
set_option maxHeartbeats 4000000 in
theorem lknew_any {w : World} {p : Option Addr} {us : List (List UInt8)} (hp : IsPats w p us) (ha : Asc us) (hn : us.Nodup) :
    Calls Try.prog 24 #[.pointer p] w fun e w' => ∃ k q S F, e = .returned (.pointer k) ∧ IsLink w' k q p us S S.length F ∧ Below w.heap.size w w' := by
  have HT := Lib.hid (trnew_any hp ha hn)
  have HA := Lib.hid ha
  clear hp ha hn
  go_enter Try.func24, Try.ntmps24
  go_wp2_with fail
  refine HT.out.mono ?_
  rintro e w1 ⟨q, S, rfl, hT, hb1⟩
  have hfew := hT.few
  have HL := Lib.hid (ts_len hT)
  have hmake := make_falls S.length w1 hfew.2.2
  have hS1 := hb1.size
  have HT1 := Lib.hid hT
  clear HT hT
  go_wp2_with fail
  refine HL.out.mono ?_
  rintro e w' ⟨rfl, hw'⟩
  obtain rfl := hw'.symm
  clear hw' HL
  have hb2 : Below w1.heap.size w1 (w1.alloc (.cells (flCells (List.replicate S.length (0, 0))).toArray 72)) := (Below.refl _ _).alloc (Nat.le_refl _) _
  have hh2 := heap_alloc_new w1 (.cells (flCells (List.replicate S.length (0, 0))).toArray 72)
  have hz2 : (w1.alloc (.cells (flCells (List.replicate S.length (0, 0))).toArray 72)).heap.size = w1.heap.size + 1 := by simp
  generalize w1.alloc (.cells (flCells (List.replicate S.length (0, 0))).toArray 72) = w2 at *
  have HZ2 := Lib.hid hz2
  clear hz2
  go_wp2_with fail
  have LK0 : Hid (IsLk (w2.alloc (.cells #[.pointer q, .slice (some ⟨w1.heap.size, 0, none⟩) S.length S.length] 70)) w1.heap.size w2.heap.size w1.heap.size q (List.replicate S.length (0, 0))) := Lib.hid (by
    refine ⟨?_, ?_, hb2.size, Nat.le_refl _, by rw [List.length_replicate]; exact hfew.2.2, fun r hr => by rw [List.eq_of_mem_replicate hr]; simp⟩
    · rw [List.length_replicate]; exact heap_alloc_new w2 _
    · rw [Below.heap_alloc _ _ _ (by have := HZ2.out; omega)]; exact hh2)
  have B0 : Hid (Below w1.heap.size w1 (w2.alloc (.cells #[.pointer q, .slice (some ⟨w1.heap.size, 0, none⟩) S.length S.length] 70))) := Lib.hid (hb2.alloc hb2.size _)
  have FK0 : Hid (FlOk us S 0 (List.replicate S.length (0, 0))) := Lib.hid ⟨List.length_replicate .., fun i s hi => absurd hi (Nat.not_lt_zero _)⟩
  have c1 : (w2.alloc (.cells #[.pointer q, .slice (some ⟨w1.heap.size, 0, none⟩) S.length S.length] 70)).cell? ⟨w2.heap.size, 1, none⟩ = some (.slice (some ⟨w1.heap.size, 0, none⟩) S.length S.length) := by
    rw [Lib.cell_of_heap (heap_alloc_new w2 _)]; rfl
  clear hb2 hh2 HZ2 hmake
  generalize w2.alloc (.cells #[.pointer q, .slice (some ⟨w1.heap.size, 0, none⟩) S.length S.length] 70) = w3 at *
  generalize w2.heap.size = b at *
  obtain ⟨n, hnS⟩ : ∃ n, S.length = n := ⟨_, rfl⟩
  have HN := Lib.hid hnS
  have hn1 := hfew.2.2
  rw [hnS] at c1 hn1
  clear hfew
  rw [hnS]
  go_loopw [19] (fun x wr => ∃ (i : Nat) (F : List (Nat × Nat)), i ≤ n ∧ x = .int .i64 i ∧ Hid (IsLk wr w1.heap.size b w1.heap.size q F) ∧ Hid (FlOk us S i F) ∧ Hid (Below w1.heap.size w1 wr)) (fun x _ => n - (RowKit.intOf x).toNat)
  case atStart => exact ⟨0, _, Nat.zero_le _, rfl, LK0, FK0, B0⟩
  case round =>
    clear c1 LK0 FK0 B0
    obtain ⟨i, F, hi, rfl, HK, HF, HB⟩ := hrel
    have hFn : F.length = n := by rw [HF.out.len, hnS]
    by_cases hlt : i < n
    · obtain ⟨s, hs⟩ : ∃ s, S[i]? = some s := ⟨_, List.getElem?_eq_getElem (show i < S.length by omega)⟩
      have HI : Hid (IsLink wr (some ⟨b, 0, none⟩) q p us S i F) := Lib.hid ⟨.inr ⟨_, _, _, rfl, HK.out⟩, HT1.out.below HB.out, HA.out, HF.out⟩
      have HC := Lib.hid (fun W (hW : Below wr.heap.size wr W) => lkfall_any (HI.out.below hW) hs)
      obtain ⟨r, hr⟩ : ∃ r, F[i]? = some r := ⟨_, List.getElem?_eq_getElem (show i < F.length by omega)⟩
      have c1 := HK.out.reads.2.1
      rw [hFn] at c1
      have HO := Lib.hid (fun (W w4 : World) (hb : Below W.heap.size W w4) (e : W.heap = wr.heap) => show (w4.cell? ⟨b, 1, none⟩ = some (.slice (some ⟨w1.heap.size, 0, none⟩) n n) ∧ w4.cell? ⟨w1.heap.size, i * 2, none⟩ = some (.int .i32 (r.1 : Int)) ∧ w4.cell? ⟨w1.heap.size, i * 2 + 1, none⟩ = some (.int .i32 (r.2 : Int)) ∧ w4.frozen? ⟨w1.heap.size, i * 2, none⟩ = false ∧ w4.frozen? ⟨w1.heap.size, i * 2 + 1, none⟩ = false) from by
        have h4 := (HK.out.heap (W := W) e).below hb
        have h5 := h4.reads.2.1
        rw [hFn] at h5
        exact ⟨h5, (h4.reads.2.2 i _ hr).1, (h4.reads.2.2 i _ hr).2, Lib.frozen_of_heap h4.row _, Lib.frozen_of_heap h4.row _⟩)
      have g0 : (0 : Int) ≤ (i : Int) := by omega
      have g1 : (i : Int) < (n : Int) := by omega
      have HSi := Lib.hid hs
      have HFn := Lib.hid hFn
      clear hs HI hr hFn hnS
      generalize r.1 = z1 at HO
      generalize r.2 = z2 at HO
      go_wp2_with fail
      go_region_with (go_at_call 41; refine (HC.out _ (Below.refl _ _).drew).mono ?_; rintro e w4 ⟨x, y, he, h1, h2, hb3⟩; unfold flV at he; subst he; (obtain ⟨q0, q1, q2, q3, q4⟩ := HO.out _ _ hb3 (by rfl)))
      all_goals
        have hxl := (List.getElem?_eq_some_iff.1 h1).1
        have hyl := (List.getElem?_eq_some_iff.1 h2).1
        rw [HN.out] at hxl hyl
        have HK5 := Lib.hid (((HK.out.heap (W := wr.drew) rfl).below hb3).put (i := i) (by rw [HFn.out]; exact hlt) (x := x) (y := y) (by omega) (by omega))
        have HF5 := Lib.hid (HF.out.put HSi.out h1 h2)
        have HB5 := Lib.hid (((HB.out.drew.trans (hb3.mono HB.out.size)).setCell (p := ⟨w1.heap.size, i * 2, none⟩) (Nat.le_refl _) (.int .i32 (x : Int))).setCell (p := ⟨w1.heap.size, i * 2 + 1, none⟩) (Nat.le_refl _) (.int .i32 (y : Int)))
        generalize (w4.setCell ⟨w1.heap.size, i * 2, none⟩ (.int .i32 (x : Int))).setCell ⟨w1.heap.size, i * 2 + 1, none⟩ (.int .i32 (y : Int)) = w5 at HK5 HB5 ⊢
        clear hb3 h1 h2 HC HO HK HF HB q0 q1 q2 q3 q4 c1
        go_wp2
        exact ⟨⟨i + 1, _, by omega, by go_num, HK5, HF5, HB5⟩, by simp [RowKit.intOf]; omega⟩
    · obtain rfl : i = n := by omega
      have HE : Hid (∃ S F, IsLink wr (some ⟨b, 0, none⟩) q p us S S.length F ∧ Below w.heap.size w wr) := Lib.hid ⟨S, F, ⟨.inr ⟨_, _, _, rfl, HK.out⟩, HT1.out.below HB.out, HA.out, by rw [HN.out]; exact HF.out⟩, hb1.trans (HB.out.mono hS1)⟩
      clear HK HF HB hFn hnS
      go_wp2
      go_ret
      obtain ⟨S, F, h1, h2⟩ := HE.out
      exact ⟨_, q, S, F, rfl, h1, h2⟩
end Go.Proofs.Ytnechkljecdfkaa

namespace Go.Proofs.Ytnechkljecdfkaa
open Go.RowKit

theorem sp32_all : (Try.prog.info? 21).map (fun i => (i.zero, i.size, i.bytes)) = some (some (.int .i32 0), 1, 4) := by kernel_rfl
theorem made_places (n : Nat) : madeCells (Value.int .i32 0).cells n = (spCells (List.replicate n 0)).toArray := by
  have e : (Value.int .i32 0).cells = #[.int .i32 0] := by rfl
  rw [e]
  unfold madeCells spCells spV
  apply Array.ext
  · simp
  · intro i h1 h2
    simp [Nat.mod_one]
theorem make_places (c : Nat) (w : World) (hc : c ≤ 4311744769) : (Instr.makeSlice 49 (.int .i64 (c : Int)) (.int .i64 (c : Int))).run Try.prog w = .ok (.slice (some ⟨w.heap.size, 0, none⟩) c c) (w.alloc (.cells (spCells (List.replicate c 0)).toArray 21)) := by
  obtain ⟨i0, hi, hz0, hz1, hz2⟩ := info_parts sp32_all
  have h := run_make (P := Try.prog) w 49 21 i0 (.int .i32 0) Try.underlying49 hi hz0 .i64 .i64 c c (by omega) (Int.le_refl _) (by rw [hz2]; omega) (by omega)
  rw [h, hz1, Int.toNat_natCast, Nat.mul_one, made_places]

set_option maxRecDepth 100000 in
set_option maxHeartbeats 4000000 in
theorem spnew_any {w : World} {p : Option Addr} {us : List (List UInt8)} (hp : IsPats w p us) (ha : Asc us) (hn : us.Nodup) (ht : totalL us ≤ 4194303) :
    Calls Try.prog 9 #[.pointer p] w fun e w' => ∃ q S C, e = .returned (.pointer q) ∧ IsSparse w' q us S C ∧ Below w.heap.size w w' := by
  have HK := Lib.hid (lknew_any hp ha hn)
  clear hp ha hn
  go_enter Try.func9, Try.ntmps9
  go_wp2_with fail
  refine HK.out.mono ?_
  rintro e w1 ⟨k, q, S, F, rfl, hL, hb1⟩
  have hs1 := hb1.size
  have hfew := hL.tr.few.2.1
  have HL1 := Lib.hid hL
  have HTr := Lib.hid (lktrie_any hL.has)
  have HLen := Lib.hid (ts_len hL.tr)
  have hroot := Lib.hid hL.root
  clear HK hL
  obtain ⟨n, hnS⟩ : ∃ n, S.length = n := ⟨_, rfl⟩
  rw [hnS] at HLen hfew
  have HN := Lib.hid hnS
  have hmake := make_places n w1 (by omega)
  clear hnS
  go_wp2_with fail
  refine HTr.out.mono ?_
  rintro e w' ⟨rfl, hw'⟩
  obtain rfl := hw'.symm
  clear hw' HTr
  go_wp2_with fail
  refine HLen.out.mono ?_
  rintro e w' ⟨rfl, hw'⟩
  obtain rfl := hw'.symm
  clear hw' HLen
  have hb3 : Below w1.heap.size w1 (w1.alloc (.cells (spCells (List.replicate n 0)).toArray 21)) := (Below.refl _ _).alloc (Nat.le_refl _) _
  have hh3 := heap_alloc_new w1 (.cells (spCells (List.replicate n 0)).toArray 21)
  have hz3 : (w1.alloc (.cells (spCells (List.replicate n 0)).toArray 21)).heap.size = w1.heap.size + 1 := by simp
  generalize w1.alloc (.cells (spCells (List.replicate n 0)).toArray 21) = w3 at *
  have HZ3 := Lib.hid hz3
  clear hz3
  go_wp2_with fail
  have hlr : (List.replicate n (0 : Nat)).length = n := List.length_replicate
  have HT0 : Hid (IsSp (w3.alloc (.cells #[.pointer k, .slice (some ⟨w1.heap.size, 0, none⟩) n n, .slice none 0 0] 54)) w1.heap.size w3.heap.size w1.heap.size k (List.replicate n 0) [] (.slice none 0 0)) := Lib.hid (by
    refine ⟨?_, ?_, World.ownsRow_nil _ _ _ _, hb3.size, Nat.le_refl _, by rw [hlr]; omega, by simp, fun x hx => by rw [List.eq_of_mem_replicate hx]; omega, fun r hr => by cases hr⟩
    · rw [hlr]; exact heap_alloc_new w3 _
    · rw [Below.heap_alloc _ _ _ (by have := HZ3.out; omega)]; exact hh3)
  have HB0 : Hid (Below w1.heap.size w1 (w3.alloc (.cells #[.pointer k, .slice (some ⟨w1.heap.size, 0, none⟩) n n, .slice none 0 0] 54))) := Lib.hid (hb3.alloc hb3.size _)
  have HR0 : Hid (SpOk us S 0 (List.replicate n 0) []) := Lib.hid (by rw [← HN.out]; exact SpOk.start us S)
  have c1 : (w3.alloc (.cells #[.pointer k, .slice (some ⟨w1.heap.size, 0, none⟩) n n, .slice none 0 0] 54)).cell? ⟨w3.heap.size, 1, none⟩ = some (.slice (some ⟨w1.heap.size, 0, none⟩) n n) := by
    rw [Lib.cell_of_heap (heap_alloc_new w3 _)]; rfl
  clear hh3 HZ3 hb3 hmake
  generalize (w3.alloc (.cells #[.pointer k, .slice (some ⟨w1.heap.size, 0, none⟩) n n, .slice none 0 0] 54)) = w4 at *
  generalize w3.heap.size = b at *
  go_loopw [22, 5] (fun x f wr => ∃ (i fr : Nat) (P : List Nat) (C : List (Nat × Nat)) (v : Value), i ≤ n ∧ x = .int .i64 i ∧ f = .int .i64 fr ∧ fr ≤ C.length ∧ Hid (IsSp wr w1.heap.size b w1.heap.size k P C v) ∧ Hid (SpOk us S i P C) ∧ Hid (Below w1.heap.size w1 wr)) (fun x _ _ => n - (RowKit.intOf x).toNat)
  case atStart => exact ⟨0, 0, _, [], _, Nat.zero_le _, rfl, rfl, Nat.zero_le _, HT0, HR0, HB0⟩
  case round =>
    clear HT0 HR0 HB0 c1
    obtain ⟨i, fr, P, C, v, hi, rfl, rfl, hfr, HT, HR, HB⟩ := hrel
    have hsz := HB.out.size
    by_cases hlt : i < n
    · obtain ⟨s, hs⟩ : ∃ s, S[i]? = some s := ⟨_, List.getElem?_eq_getElem (show i < S.length by rw [HN.out]; exact hlt)⟩
      have HL2 := Lib.hid (HL1.out.below HB.out)
      have HTr := Lib.hid (lktrie_any HL2.out.has)
      have HBy := Lib.hid (ts_bytes HL2.out.tr i hs)
      have HS := Lib.hid hs
      have g0 : (i : Int) < (n : Int) := by omega
      clear hs
      go_wp2_with fail
      refine HTr.out.mono ?_
      rintro e w' ⟨rfl, hw'⟩
      obtain rfl := hw'.symm
      clear hw' HTr
      go_wp2_with fail
      refine HBy.out.mono ?_
      rintro e w5 ⟨rfl, hb5⟩
      have HT5 := Lib.hid (HT.out.below hb5)
      have HB5 := Lib.hid (HB.out.trans (hb5.mono hsz))
      clear hb5 HBy HT HB HL2
      cases hq : kidsL us s with
      | nil =>
        have HR2 := Lib.hid (HR.out.none HS.out hq)
        go_wp2
        exact ⟨⟨i + 1, fr, P, C, v, by omega, by go_num, rfl, hfr, HT5, HR2, HB5⟩, by simp [RowKit.intOf]; omega⟩
      | cons c0 K0 =>
        have hne : kidsL us s ≠ [] := by rw [hq]; simp
        have hK1 : 0 < (kidsL us s).length := by rw [hq]; simp
        have hK2 := kids_most us s
        have hmost := HR.out.most
        have HPl := Lib.hid (spplace_any HT5.out (kidsL us s) fr hfr hK1 hK2)
        have HLay := Lib.hid (fun p (hp : p ≤ C.length) => splay_any HL1.out HB5.out HT5.out HR.out.plen i HS.out p hp hK1 (by omega))
        have hE : (({ data := (c0 :: K0).toArray } : ByteArray) == ByteArray.empty) = false := by rfl
        rw [hq] at HPl HLay hne hK1 hK2
        have HQ := Lib.hid hq
        clear hq
        go_wp2_with fail
        refine HPl.out.mono ?_
        rintro e w' ⟨pl, rfl, hpl, hfree, hw'⟩
        obtain rfl := hw'.symm
        have HLay2 := Lib.hid (HLay.out pl hpl)
        have HFree := Lib.hid hfree
        clear hw' HPl HLay hfree HT5
        go_wp2_with fail
        refine HLay2.out.mono ?_
        rintro e w7 ⟨rfl, m, C', v', hm, hM, hT, hB7⟩
        have HR2 := Lib.hid (HR.out.row hroot.out HS.out (by rw [HQ.out]; simp) (by rw [HQ.out]; exact HFree.out) hpl hm (by rw [HQ.out]; exact hM))
        have HT7 := Lib.hid hT
        have HB7 := Lib.hid hB7
        have hfr2 : fr ≤ C'.length := by
          have := hM.len
          rw [more_length] at this
          omega
        have HFr := Lib.hid (spfree_any hT fr hfr2)
        clear HLay2 hM hT hB7 HFree HR hE HQ hne hK1 hK2 hmost hm
        go_wp2_with fail
        refine HFr.out.mono ?_
        rintro e w' ⟨fr2, rfl, hfr3, hw'⟩
        obtain rfl := hw'.symm
        clear hw' HFr
        go_wp2
        exact ⟨⟨i + 1, fr2, _, C', v', by omega, by go_num, rfl, hfr3, HT7, HR2, HB7⟩, by simp [RowKit.intOf]; omega⟩
    · obtain rfl : i = n := by omega
      have hz : ¬ (i : Int) < (i : Int) := by omega
      have HE : Hid (IsSparse wr (some ⟨b, 0, none⟩) us S C) := Lib.hid ⟨_, b, _, k, q, p, F, P, v, rfl, HT.out, HL1.out.below HB.out, by rw [HN.out]; exact HR.out⟩
      have HBE := Lib.hid (hb1.trans (HB.out.mono hs1))
      clear HT HR HB
      go_wp2
      go_ret
      exact ⟨_, rfl, ⟨S, C, HE.out⟩, HBE.out⟩
end Go.Proofs.Ytnechkljecdfkaa

namespace Go.Proofs.Ytnechkljecdfkaa
open Go.RowKit

/-- Of what is no state nothing is told. -/
def NoNext (w : World) (p : Option Addr) (s : Int) : Prop := ∀ W, W.heap = w.heap → ∃ n : Int, Calls Try.prog 11 #[.pointer p] W (fun e w' => e = .returned (.int .i64 n) ∧ w' = W) ∧ (s < 0 ∨ n ≤ s)
theorem nonext_nil (w : World) (s : Int) : NoNext w none s := fun W _ => ⟨0, splen_nil W, by omega⟩
theorem nonext_out {w : World} {base b pb : Nat} {k : Option Addr} {P : List Nat} {C : List (Nat × Nat)} {v : Value} (h : IsSp w base b pb k P C v) {s : Int} (hs : s < 0 ∨ (P.length : Int) ≤ s) : NoNext w (some ⟨b, 0, none⟩) s := fun W e => ⟨_, splen_any (h.heap e), hs⟩

set_option maxRecDepth 100000 in
set_option maxHeartbeats 1000000 in
theorem spnext_none {w : World} {p : Option Addr} {s : Int} (h : NoNext w p s) (c : UInt8) : Calls Try.prog 14 #[.pointer p, .int .i64 s, .int .u8 (c.toNat : Int)] w fun e w' => e = .returned (.tuple #[.int .i64 0, .bool false]) ∧ w' = w := by
  obtain ⟨n, HL0, hs⟩ := h w rfl
  have HL := Lib.hid HL0
  clear h HL0
  go_enter Try.func14, Try.ntmps14
  by_cases g0 : s < 0
  · have g1 : decide (s < 0) = true := decide_eq_true g0
    go_wp2
    go_ret2
    exact ⟨rfl, rfl⟩
  · have g1 : decide (s < 0) = false := decide_eq_false g0
    have g2 : n ≤ s := by omega
    have g3 : decide (n ≤ s) = true := decide_eq_true g2
    go_wp2_with fail
    refine HL.out.mono ?_
    rintro e w' ⟨rfl, rfl⟩
    go_wp2
    go_ret2
    exact ⟨rfl, rfl⟩
set_option maxRecDepth 100000 in
set_option maxHeartbeats 1000000 in
theorem spstep_none {w : World} {p : Option Addr} {s : Int} (h : NoNext w p s) (c : UInt8) : Calls Try.prog 16 #[.pointer p, .int .i64 s, .int .u8 (c.toNat : Int)] w fun e w' => e = .returned (.int .i64 0) ∧ w' = w := by
  have HN := Lib.hid (spnext_none h c)
  obtain ⟨n, HL0, hs⟩ := h w rfl
  have HL := Lib.hid HL0
  clear h HL0
  go_enter Try.func16, Try.ntmps16
  go_wp2_with fail
  go_loopw [1, 7, 8] (fun x _ _ wr => x = .int .i64 s ∧ wr = w) (fun _ _ _ _ => 0)
  case atStart => exact ⟨rfl, rfl⟩
  case round =>
    obtain ⟨rfl, hwr⟩ := hrel
    obtain rfl := hwr.symm
    clear hwr
    go_wp2_with fail
    refine HN.out.mono ?_
    rintro e w' ⟨rfl, hw'⟩
    obtain rfl := hw'.symm
    clear hw' HN
    by_cases g0 : s ≤ 0
    · have g1 : decide (s ≤ 0) = true := decide_eq_true g0
      go_wp2
      go_ret
      exact ⟨rfl, rfl⟩
    · have g1 : decide (s ≤ 0) = false := decide_eq_false g0
      have g2 : n ≤ s := by omega
      have g3 : decide (n ≤ s) = true := decide_eq_true g2
      go_wp2_with fail
      refine HL.out.mono ?_
      rintro e w' ⟨rfl, hw'⟩
      obtain rfl := hw'.symm
      clear hw'
      go_wp2
      go_ret
      exact ⟨rfl, rfl⟩

/-- A cell that is another one's, or free. -/
theorem spnext_miss {w : World} {base b pb : Nat} {k : Option Addr} {P : List Nat} {C : List (Nat × Nat)} {v : Value} (h : IsSp w base b pb k P C v) (i p : Nat) (hp : P[i]? = some p) (c : UInt8) (hm : ∀ o x, C[p + c.toNat]? = some (o, x) → x = 0 ∨ o ≠ i) : Calls Try.prog 14 #[.pointer (some ⟨b, 0, none⟩), .int .i64 (i : Int), .int .u8 (c.toNat : Int)] w fun e w' => e = .returned (.tuple #[.int .i64 0, .bool false]) ∧ w' = w := by
  have hil := (List.getElem?_eq_some_iff.1 hp).1
  have HL := Lib.hid (splen_any h)
  have HT := Lib.hid (sptaken_any h (p + c.toNat))
  have c1 := h.reads.2.1
  have c2 := h.reads.2.2
  obtain ⟨hpl, e0⟩ := h.place hp
  have hcl := c.toNat_lt
  have g0 : ¬ (i : Int) < 0 := by omega
  have g1 : decide ((i : Int) < 0) = false := decide_eq_false g0
  have g2 : ¬ (P.length : Int) ≤ (i : Int) := by omega
  have g3 : decide ((P.length : Int) ≤ (i : Int)) = false := decide_eq_false g2
  have g4 : (0 : Int) ≤ (i : Int) := by omega
  have g5 : (i : Int) < (P.length : Int) := by omega
  have w0 : IntKind.i64.wrap (p : Int) = (p : Int) := by rw [IntKind.wrap_i64]; omega
  have w1 : IntKind.i64.wrap ((p : Int) + (c.toNat : Int)) = ((p + c.toNat : Nat) : Int) := by rw [IntKind.wrap_i64]; omega
  cases hq : tkC C (p + c.toNat) with
  | false =>
    rw [hq] at HT
    clear h hp hm c2
    generalize P.length = n at *
    go_enter Try.func14, Try.ntmps14
    go_wp2_with fail
    refine HL.out.mono ?_
    rintro e w' ⟨rfl, hw'⟩
    obtain rfl := hw'.symm
    clear hw' HL
    go_wp2_with fail
    refine HT.out.mono ?_
    rintro e w' ⟨rfl, hw'⟩
    obtain rfl := hw'.symm
    clear hw' HT
    go_wp2
    go_ret2
    exact ⟨rfl, rfl⟩
  | true =>
    rw [hq] at HT
    have hlt : p + c.toNat < C.length := by
      rcases Nat.lt_or_ge (p + c.toNat) C.length with h1 | h1
      · exact h1
      · rw [tk_out h1] at hq; cases hq
    obtain ⟨o, x, hx⟩ : ∃ o x, C[p + c.toNat]? = some (o, x) := ⟨_, _, List.getElem?_eq_getElem hlt⟩
    have hne : o ≠ i := by
      rw [tk_in hx] at hq
      have : 0 < x := by simpa using hq
      rcases hm o x hx with h1 | h1
      · omega
      · exact h1
    obtain ⟨g, cap, rfl, hg, ho, hxl, e1, e2⟩ := h.at hx
    clear h hp hm hx hq
    have g6 : (0 : Int) ≤ ((p + c.toNat : Nat) : Int) := by omega
    have g7 : ((p + c.toNat : Nat) : Int) < (C.length : Int) := by omega
    have w2 : IntKind.i64.wrap (o : Int) = (o : Int) := by rw [IntKind.wrap_i64]; omega
    have g8 : ((o : Int) != (i : Int)) = true := by simp; omega
    have g9 : ¬ (o : Int) = (i : Int) := by omega
    have g10 : ((o : Int) == (i : Int)) = false := by simp; omega
    generalize P.length = n at *
    generalize C.length = m at *
    generalize p + c.toNat = q at *
    go_enter Try.func14, Try.ntmps14
    go_wp2_with fail
    refine HL.out.mono ?_
    rintro e w' ⟨rfl, hw'⟩
    obtain rfl := hw'.symm
    clear hw' HL
    go_wp2_with fail
    refine HT.out.mono ?_
    rintro e w' ⟨rfl, hw'⟩
    obtain rfl := hw'.symm
    clear hw' HT
    go_wp2
    go_ret2
    exact ⟨rfl, rfl⟩
theorem spnext_hit {w : World} {base b pb : Nat} {k : Option Addr} {P : List Nat} {C : List (Nat × Nat)} {v : Value} (h : IsSp w base b pb k P C v) (i p x : Nat) (hp : P[i]? = some p) (c : UInt8) (hx : C[p + c.toNat]? = some (i, x)) (h0 : 0 < x) : Calls Try.prog 14 #[.pointer (some ⟨b, 0, none⟩), .int .i64 (i : Int), .int .u8 (c.toNat : Int)] w fun e w' => e = .returned (.tuple #[.int .i64 (x : Int), .bool true]) ∧ w' = w := by
  have hil := (List.getElem?_eq_some_iff.1 hp).1
  have HL := Lib.hid (splen_any h)
  have HT := Lib.hid (sptaken_any h (p + c.toNat))
  rw [tk_in hx, decide_eq_true h0] at HT
  have c1 := h.reads.2.1
  have c2 := h.reads.2.2
  obtain ⟨hpl, e0⟩ := h.place hp
  have hcl := c.toNat_lt
  have hlt := (List.getElem?_eq_some_iff.1 hx).1
  have g0 : ¬ (i : Int) < 0 := by omega
  have g1 : decide ((i : Int) < 0) = false := decide_eq_false g0
  have g2 : ¬ (P.length : Int) ≤ (i : Int) := by omega
  have g3 : decide ((P.length : Int) ≤ (i : Int)) = false := decide_eq_false g2
  have g4 : (0 : Int) ≤ (i : Int) := by omega
  have g5 : (i : Int) < (P.length : Int) := by omega
  have w0 : IntKind.i64.wrap (p : Int) = (p : Int) := by rw [IntKind.wrap_i64]; omega
  have w1 : IntKind.i64.wrap ((p : Int) + (c.toNat : Int)) = ((p + c.toNat : Nat) : Int) := by rw [IntKind.wrap_i64]; omega
  obtain ⟨g, cap, rfl, hg, ho, hxl, e1, e2⟩ := h.at hx
  clear h hp hx
  have g6 : (0 : Int) ≤ ((p + c.toNat : Nat) : Int) := by omega
  have g7 : ((p + c.toNat : Nat) : Int) < (C.length : Int) := by omega
  have w2 : IntKind.i64.wrap (i : Int) = (i : Int) := by rw [IntKind.wrap_i64]; omega
  have w3 : IntKind.i64.wrap (x : Int) = (x : Int) := by rw [IntKind.wrap_i64]; omega
  generalize P.length = n at *
  generalize C.length = m at *
  generalize p + c.toNat = q at *
  go_enter Try.func14, Try.ntmps14
  go_wp2_with fail
  refine HL.out.mono ?_
  rintro e w' ⟨rfl, hw'⟩
  obtain rfl := hw'.symm
  clear hw' HL
  go_wp2_with fail
  refine HT.out.mono ?_
  rintro e w' ⟨rfl, hw'⟩
  obtain rfl := hw'.symm
  clear hw' HT
  go_wp2
  go_ret2
  exact ⟨rfl, rfl⟩
end Go.Proofs.Ytnechkljecdfkaa

namespace Go.Proofs.Ytnechkljecdfkaa
open Go.RowKit

theorem IsSparse.st {w : World} {p : Option Addr} {us S : List (List UInt8)} {C : List (Nat × Nat)} (h : IsSparse w p us S C) : IsSt us S := by
  obtain ⟨base, b, pb, k, q, y, F, P, v, h1, h2, h3, h4⟩ := h.tab
  exact h3.tr.st
theorem IsSparse.root {w : World} {p : Option Addr} {us S : List (List UInt8)} {C : List (Nat × Nat)} (h : IsSparse w p us S C) : S[0]? = some [] := by
  obtain ⟨base, b, pb, k, q, y, F, P, v, h1, h2, h3, h4⟩ := h.tab
  exact h3.root
theorem IsSparse.nodup {w : World} {p : Option Addr} {us S : List (List UInt8)} {C : List (Nat × Nat)} (h : IsSparse w p us S C) : S.Nodup := slx_nodup h.st.1
theorem IsSparse.mem {w : World} {p : Option Addr} {us S : List (List UInt8)} {C : List (Nat × Nat)} (h : IsSparse w p us S C) : [] ∈ S := st_root h.st
/-- How many cells there are. -/
theorem IsSparse.cells {w : World} {p : Option Addr} {us S : List (List UInt8)} {C : List (Nat × Nat)} (h : IsSparse w p us S C) : S.length ≤ C.length + 1 ∧ C.length ≤ 256 * ldN us S S.length ∧ C.length ≤ 1073741824 ∧ S.length ≤ 4194304 := by
  have hr := h.root
  have hst := h.st
  obtain ⟨base, b, pb, k, q, y, F, P, v, h1, h2, h3, h4⟩ := h.tab
  have := h2.plen
  rw [h4.plen] at this
  exact ⟨h4.least hst hr, h4.few, h2.clen, this⟩
theorem sps_len {w : World} {p : Option Addr} {us S : List (List UInt8)} {C : List (Nat × Nat)} (h : IsSparse w p us S C) : Calls Try.prog 11 #[.pointer p] w fun e w' => e = .returned (.int .i64 (S.length : Int)) ∧ w' = w := by
  obtain ⟨base, b, pb, k, q, y, F, P, v, rfl, h2, h3, h4⟩ := h.tab
  rw [← h4.plen]
  exact splen_any h2
theorem sps_cells {w : World} {p : Option Addr} {us S : List (List UInt8)} {C : List (Nat × Nat)} (h : IsSparse w p us S C) : Calls Try.prog 12 #[.pointer p] w fun e w' => e = .returned (.int .i64 (C.length : Int)) ∧ w' = w := by
  obtain ⟨base, b, pb, k, q, y, F, P, v, rfl, h2, h3, h4⟩ := h.tab
  exact spcells_any h2
theorem sps_nonext {w : World} {p : Option Addr} {us S : List (List UInt8)} {C : List (Nat × Nat)} (h : IsSparse w p us S C) {s : Int} (hs : s < 0 ∨ (S.length : Int) ≤ s) : NoNext w p s := by
  obtain ⟨base, b, pb, k, q, y, F, P, v, rfl, h2, h3, h4⟩ := h.tab
  exact nonext_out h2 (by rw [h4.plen]; exact hs)
theorem sps_next {w : World} {p : Option Addr} {us S : List (List UInt8)} {C : List (Nat × Nat)} (h : IsSparse w p us S C) (i : Nat) {s : List UInt8} (hs : S[i]? = some s) (c : UInt8) : Calls Try.prog 14 #[.pointer p, .int .i64 (i : Int), .int .u8 (c.toNat : Int)] w fun e w' =>
    ((s ++ [c] ∈ S → ∃ n : Nat, e = .returned (.tuple #[.int .i64 (n : Int), .bool true]) ∧ S[n]? = some (s ++ [c])) ∧ (s ++ [c] ∉ S → e = .returned (.tuple #[.int .i64 0, .bool false]))) ∧ w' = w := by
  have hst := h.st
  have hr := h.root
  have hil := (List.getElem?_eq_some_iff.1 hs).1
  obtain ⟨base, b, pb, k, q, y, F, P, v, rfl, h2, h3, h4⟩ := h.tab
  by_cases hm : s ++ [c] ∈ S
  · obtain ⟨p, x, hp, hx, hxs⟩ := h4.hit hst hs hm
    have h0 : 0 < x := by
      rcases Nat.eq_zero_or_pos x with e | e
      · subst e; rw [hr] at hxs; simp at hxs
      · exact e
    refine (spnext_hit h2 i p x hp c hx h0).mono ?_
    rintro e w' ⟨rfl, rfl⟩
    exact ⟨⟨fun _ => ⟨x, rfl, hxs⟩, fun hn => absurd hm hn⟩, rfl⟩
  · obtain ⟨p, hp⟩ : ∃ p, P[i]? = some p := ⟨_, List.getElem?_eq_getElem (by rw [h4.plen]; exact hil)⟩
    refine (spnext_miss h2 i p hp c fun o x hx => h4.miss hst hs hm hp hx).mono ?_
    rintro e w' ⟨rfl, rfl⟩
    exact ⟨⟨fun hn => absurd hn hm, fun _ => rfl⟩, rfl⟩

set_option maxRecDepth 100000 in
set_option maxHeartbeats 2000000 in
theorem sps_stepn {w : World} {p : Option Addr} {us S : List (List UInt8)} {C : List (Nat × Nat)} (h : IsSparse w p us S C) (i : Nat) {s : List UInt8} (hs : S[i]? = some s) (c : UInt8) :
    Calls Try.prog 16 #[.pointer p, .int .i64 (i : Int), .int .u8 (c.toNat : Int)] w fun e w' => ∃ n : Nat, e = .returned (.int .i64 (n : Int)) ∧ S[n]? = some (lgL S (s ++ [c])) ∧ Below w.heap.size w w' := by
  have HH := Lib.hid h
  have hSl := h.cells.2.2.2
  obtain ⟨base, b, pb, k, q, y, F, P, v, rfl, h2, h3, h4⟩ := h.tab
  have HL := Lib.hid h3
  have HSP := Lib.hid h2
  have hs0 := Lib.hid hs
  clear h h2 h3 h4 hs
  go_enter Try.func16, Try.ntmps16
  go_wp2_with fail
  go_loopw [1, 7, 8] (fun x _ _ wr => ∃ (j : Nat) (t : List UInt8), x = .int .i64 j ∧ Hid (S[j]? = some t) ∧ Hid (lgL S (s ++ [c]) = lgL S (t ++ [c])) ∧ Below w.heap.size w wr) (fun x _ _ _ => (RowKit.intOf x).toNat)
  case atStart => exact ⟨i, s, rfl, hs0, Lib.hid rfl, Below.refl _ _⟩
  case round =>
    clear hs0
    obtain ⟨j, t, rfl, ht, hg, hbe⟩ := hrel
    have hsz := hbe.size
    have hjl := (List.getElem?_eq_some_iff.1 ht.out).1
    have HN := Lib.hid (sps_next (HH.out.below hbe) j ht.out c)
    by_cases hm : t ++ [c] ∈ S
    · go_wp2_with fail
      refine HN.out.mono ?_
      rintro e w2 ⟨⟨h1, _⟩, hw2⟩
      obtain rfl := hw2.symm
      obtain ⟨n, rfl, hn⟩ := h1 hm
      have HE := Lib.hid (show S[n]? = some (lgL S (s ++ [c])) by rw [hg.out, lg_hit hm]; exact hn)
      have d2 := Lib.hid hbe
      clear h1 hw2 HN hn hm hbe hg ht
      go_wp2
      go_ret
      exact ⟨n, rfl, HE.out, d2.out⟩
    · by_cases h0 : j = 0
      · have e0 := (HL.out.zero ht.out).1 h0
        subst h0
        have HE := Lib.hid (show S[0]? = some (lgL S (s ++ [c])) by
          rw [hg.out, lg_miss hm, e0]; exact HL.out.root)
        go_wp2_with fail
        refine HN.out.mono ?_
        rintro e w2 ⟨⟨_, h1⟩, hw2⟩
        obtain rfl := hw2.symm
        obtain rfl := h1 hm
        have d2 := Lib.hid hbe
        clear h1 hw2 HN hm hbe hg ht e0
        go_wp2
        go_ret
        exact ⟨0, rfl, HE.out, d2.out⟩
      · have e0 : t ≠ [] := fun e => h0 ((HL.out.zero ht.out).2 e)
        have g1 : ¬ (j : Int) ≤ 0 := by omega
        have g2 : decide ((j : Int) ≤ 0) = false := decide_eq_false g1
        have g3 : ¬ (S.length : Int) ≤ (j : Int) := by omega
        have g4 : decide ((S.length : Int) ≤ (j : Int)) = false := decide_eq_false g3
        obtain ⟨a, a', hF, ha, _⟩ := HL.out.ok.at_ j t hjl ht.out
        have hlt := HL.out.less ha ht.out (fb_less e0)
        have HFl := Lib.hid (lkfail_any (HL.out.below hbe).has (j : Int))
        rw [flOf_in hF] at HFl
        have HLen := Lib.hid (sps_len (HH.out.below hbe))
        have c0 := (HSP.out.below hbe).reads.1
        have HE := Lib.hid (show lgL S (s ++ [c]) = lgL S (fbL S t ++ [c]) by
          rw [hg.out]; exact lg_step HL.out.tr.st c e0 hm)
        have ha2 := Lib.hid ha
        go_wp2_with fail
        refine HN.out.mono ?_
        rintro e w2 ⟨⟨_, h1⟩, hw2⟩
        obtain rfl := hw2.symm
        obtain rfl := h1 hm
        clear h1 hw2 HN hm hg ht e0 ha hF
        go_wp2_with fail
        refine HLen.out.mono ?_
        rintro e w2 ⟨rfl, hw2⟩
        obtain rfl := hw2.symm
        clear hw2 HLen
        go_wp2_with fail
        refine HFl.out.mono ?_
        rintro e w3 ⟨rfl, hb3⟩
        have d3 := Lib.hid (hbe.trans (hb3.mono hsz))
        clear hb3 HFl hbe hsz c0
        go_wp2
        exact ⟨⟨a, _, rfl, ha2, HE, d3.out⟩, by simp [RowKit.intOf]; omega⟩
/-- .. by the number of the state. -/
theorem sps_step {w : World} {p : Option Addr} {us S : List (List UInt8)} {C : List (Nat × Nat)} (h : IsSparse w p us S C) (i : Nat) {s : List UInt8} (hs : S[i]? = some s) (c : UInt8) :
    Calls Try.prog 16 #[.pointer p, .int .i64 (i : Int), .int .u8 (c.toNat : Int)] w fun e w' => e = .returned (.int .i64 (dnS S s c : Int)) ∧ Below w.heap.size w w' := by
  have hn := h.nodup
  refine (sps_stepn h i hs c).mono ?_
  rintro e w' ⟨n, rfl, h1, h2⟩
  rw [dn_is hn h1]
  exact ⟨rfl, h2⟩
end Go.Proofs.Ytnechkljecdfkaa

namespace Go.Proofs.Ytnechkljecdfkaa
open Go.RowKit

theorem spnew_set {w : World} {p : Option Addr} {ws : List (List UInt8)} (h : IsPats w p (setL ws)) (ht : totalL (setL ws) ≤ 4194303) :
    Calls Try.prog 9 #[.pointer p] w fun e w' => ∃ q S C, e = .returned (.pointer q) ∧ IsSparse w' q (setL ws) S C ∧ Below w.heap.size w w' := spnew_any h (set_asc ws) (pats_nodup h) ht
end Go.Proofs.Ytnechkljecdfkaa

namespace Go.Proofs.Ytnechkljecdfkaa
open Go.RowKit

theorem dnex_fault : faultL [[97, 98], [98]] = 0 := by decide +kernel
theorem dnex_set : setL [[97, 98], [98]] = [[97, 98], [98]] := by
  rw [set_good dnex_fault, ← ins_srt]; decide +kernel
theorem dnex_kids (q : List UInt8) (l : List UInt8) (h : kidsL [[97, 98], [98]] q = l) : kidsP [[97, 98], [98]] q = l.map fun c => q ++ [c] := by unfold kidsP; rw [h]
theorem dnex_bfs : Bfs [[97, 98], [98]] 4 [[], [97], [98], [97, 98]] := by
  have k0 := dnex_kids [] [97, 98] (by decide +kernel)
  have k1 := dnex_kids [97] [98] (by decide +kernel)
  have k2 := dnex_kids [98] [] (by decide +kernel)
  have k3 := dnex_kids [97, 98] [] (by decide +kernel)
  have h0 := Bfs.zero (us := [[97, 98], [98]])
  have h1 := h0.step (p := []) rfl
  rw [k0] at h1
  have h2 := h1.step (p := [97]) rfl
  rw [k1] at h2
  have h3 := h2.step (p := [98]) rfl
  rw [k2] at h3
  have h4 := h3.step (p := [97, 98]) rfl
  rw [k3] at h4
  exact h4
theorem dnex_is {S : List (List UInt8)} (h : IsSt [[97, 98], [98]] S) : S = [[], [97], [98], [97, 98]] := h.unique (Bfs.done dnex_bfs)
end Go.Proofs.Ytnechkljecdfkaa

namespace Go.Proofs.Ytnechkljecdfkaa
open Go.RowKit Go.Maps Go.WideMaps

theorem keyT : Keyed Try.prog 9 := string_keyed Try.underlying9
theorem zeroT (w : World) : (zeroValue 3).run Try.prog w = .ok (.int .i64 0) w := by kernel_rfl

/-- How often a text was met: the map's number at it. -/
def Cnts (D : DataW Unit) (ws : List (List UInt8)) : Prop := ∀ t : List UInt8, t.length ≤ maxLen → D.atKey (.string t) (.lit (.int .i64 0)) = .lit (.int .i64 (ws.count t : Int))

theorem lit_inj {a b : Int} (h : (DataW.lit (.int .i64 a) : DataW Unit) = .lit (.int .i64 b)) : a = b := by cases h; rfl
theorem count_snoc {ws : List (List UInt8)} {k : Nat} {t : List UInt8} (h : ws[k]? = some t) (u : List UInt8) : (ws.take (k + 1)).count u = (ws.take k).count u + (if t = u then 1 else 0) := by
  obtain ⟨hk, rfl⟩ := List.getElem?_eq_some_iff.1 h
  rw [List.take_succ_eq_append_getElem hk, List.count_append, List.count_singleton]
  simp only [beq_iff_eq]
theorem key_lit (t : List UInt8) : WideAt.IsKeyLit (.string t) := trivial
/-- One more is met. -/
theorem cnts_put {D : DataW Unit} {ws : List (List UInt8)} {k : Nat} {t : List UInt8} {c : Int} (hD : IsMap D) (h : Cnts D (ws.take k)) (hf : ws[k]? = some t) (htl : t.length ≤ maxLen) (hc : c = ((ws.take k).count t : Int) + 1) :
    Cnts (D.put (.string t) (.lit (.int .i64 c))) (ws.take (k + 1)) := fun u hu => by
  rw [count_snoc hf u]
  by_cases e : t = u
  · subst e
    rw [atKey_put_same hD (key_lit _), if_pos rfl, hc]; rfl
  · rw [atKey_put_other (fun h' => e (by cases h'; rfl)), h u hu, if_neg e, Nat.add_zero]

set_option maxHeartbeats 2000000 in
set_option maxRecDepth 100000 in
theorem twice_any (a : Option Addr) (len cap : Nat) (ws : List (List UInt8)) (w : World) (hlen : len ≤ 1000000) (hr : IsStrs w a len ws) (ht : ∀ t ∈ ws, t.length ≤ maxLen) :
    Calls Try.prog 35 #[.slice a len cap] w fun e w' => e = .returned (.int .i64 (twS [] ws 0)) ∧ Below w.heap.size w w' := by
  have hwl := hr.1
  obtain ⟨R, hR⟩ : ∃ R, twS [] ws 0 = R := ⟨_, rfl⟩
  have HR : Hid (twS (ws.take 0) (ws.drop 0) 0 = R) := Lib.hid hR
  rw [hR]
  have HI := Lib.hid hr
  have HT := Lib.hid ht
  have hmm := @run_makeMap Try.prog
  clear hR hr ht
  go_enter Try.func35, Try.ntmps35
  go_wp2
  go_loopw [9] (fun i wr => ∃ (k : Nat) (D : DataW Unit), k ≤ len ∧ i = .int .i64 k ∧ wr.ownsMap Try.prog 9 (plainElem Try.prog 3) w.heap.size k D ∧ Hid (Cnts D (ws.take k)) ∧ Hid (∀ t ∈ ws.take k, (ws.take k).count t = 1) ∧ Hid (twS (ws.take k) (ws.drop k) k = R) ∧ Below w.heap.size w wr) (fun i _ => len - (RowKit.intOf i).toNat)
  case atStart => exact ⟨0, _, Nat.zero_le _, rfl, World.ownsMap_made _ _ _ _, Lib.hid (fun t _ => rfl), Lib.hid (by simp), HR, (Below.refl _ _).alloc (Nat.le_refl _) _⟩
  case round =>
    obtain ⟨k, D, hk, rfl, hown, HC, HD, HK, hbe⟩ := hrel
    by_cases hlt : k < len
    · obtain ⟨b, off, rfl, t, hf, hc⟩ := str_at HI.out hbe k hlt
      have htl := HT.out t (List.mem_of_getElem? hf)
      have hkey : keyOf Try.prog 9 (.string ⟨t.toArray⟩) = some (.string t) := keyOf_string_mk Try.underlying9 (by rw [bsize]; exact htl)
      go_wp2_with (at_lookup; refine wpList_lookup_own_int _ rfl _ _ 81 rfl 9 3 .i64 keyT Try.underlying81 Try.underlying3 (zeroT _) w.heap.size k _ rfl hown _ _ rfl hkey ?_)
      intro c hat hwc
      have hc0 : c = ((ws.take k).count t : Int) := lit_inj (hat.symm.trans (HC.out t htl))
      have hisM := hown.isMap
      clear hat hwc
      by_cases hm : t ∈ ws.take k
      · have h1 : (ws.take k).count t = 1 := HD.out t hm
        have HE : Hid (R = k) := Lib.hid (by rw [← HK.out]; exact tw_hit hf hm)
        have HC2 := Lib.hid (cnts_put (c := 2) hisM HC.out hf htl (by rw [h1]; rfl))
        have hat2 : (D.put (.string t) (.lit (.int .i64 2))).atKey (.string t) (.lit (.int .i64 0)) = .lit (.int .i64 2) := atKey_put_same hisM (key_lit _) _ _
        have HA2 := Lib.hid hat2
        rw [h1] at hc0
        subst hc0
        clear hf HK HC HD hm h1 hat2 hisM
        go_wp2_with (at_mapUpdate; refine wpList_mapUpdate_own _ rfl _ _ _ 81 rfl 9 3 keyT Try.underlying81 _ w.heap.size k _ rfl hown (by unfold maxLen; omega) _ _ _ rfl rfl hkey _ [] (plainElem_int Try.underlying3 (by decide)) ?_)
        intro w1 hown1 hgrow1
        have hbe1 : Below w.heap.size w w1 := hbe.grown hgrow1 hbe.size (fun j hj => by cases hj; exact Nat.le_refl _)
        clear hown hgrow1 hbe
        go_wp2_with (at_lookup; refine wpList_lookup_own_int _ rfl _ _ 81 rfl 9 3 .i64 keyT Try.underlying81 Try.underlying3 (zeroT _) w.heap.size (k + 1) _ rfl hown1 _ _ rfl hkey ?_)
        intro c2 hat2 hwc2
        have hc2 : c2 = 2 := lit_inj (hat2.symm.trans HA2.out)
        subst hc2
        clear hat2 hwc2 hown1
        go_wp2
        go_ret
        exact ⟨by rw [HE.out]; rfl, hbe1⟩
      · have h1 : (ws.take k).count t = 0 := List.count_eq_zero.2 hm
        have HE : Hid (twS (ws.take (k + 1)) (ws.drop (k + 1)) (k + 1) = R) := Lib.hid (by rw [← HK.out]; exact (tw_miss hf hm).symm)
        have HC2 := Lib.hid (cnts_put (c := 1) hisM HC.out hf htl (by rw [h1]; rfl))
        have HD2 : Hid (∀ u ∈ ws.take (k + 1), (ws.take (k + 1)).count u = 1) := Lib.hid (fun u hu => by
          rw [count_snoc hf u]
          rcases mem_take_snoc hf hu with h | rfl
          · rw [HD.out u h, if_neg (fun e => hm (by rw [e]; exact h))]
          · rw [h1, if_pos rfl])
        have hat2 : (D.put (.string t) (.lit (.int .i64 1))).atKey (.string t) (.lit (.int .i64 0)) = .lit (.int .i64 1) := atKey_put_same hisM (key_lit _) _ _
        have HA2 := Lib.hid hat2
        rw [h1] at hc0
        subst hc0
        clear hf HK HC HD hm h1 hat2 hisM
        go_wp2_with (at_mapUpdate; refine wpList_mapUpdate_own _ rfl _ _ _ 81 rfl 9 3 keyT Try.underlying81 _ w.heap.size k _ rfl hown (by unfold maxLen; omega) _ _ _ rfl rfl hkey _ [] (plainElem_int Try.underlying3 (by decide)) ?_)
        intro w1 hown1 hgrow1
        have hbe1 : Below w.heap.size w w1 := hbe.grown hgrow1 hbe.size (fun j hj => by cases hj; exact Nat.le_refl _)
        clear hown hgrow1 hbe
        go_wp2_with (at_lookup; refine wpList_lookup_own_int _ rfl _ _ 81 rfl 9 3 .i64 keyT Try.underlying81 Try.underlying3 (zeroT _) w.heap.size (k + 1) _ rfl hown1 _ _ rfl hkey ?_)
        intro c2 hat2 hwc2
        have hc2 : c2 = 1 := lit_inj (hat2.symm.trans HA2.out)
        subst hc2
        clear hat2 hwc2
        go_wp2
        exact ⟨⟨k + 1, _, by omega, by go_num, hown1, HC2, HD2, HE, hbe1⟩, by simp [RowKit.intOf]; omega⟩
    · obtain rfl : k = len := by omega
      have HE : Hid (R = -1) := Lib.hid (by rw [← HK.out, ← hwl]; exact tw_end ws)
      clear HK
      go_wp2
      go_ret
      exact ⟨by rw [HE.out]; rfl, hbe⟩
end Go.Proofs.Ytnechkljecdfkaa

namespace Go.Proofs.Ytnechkljecdfkaa
open Go.RowKit

set_option maxHeartbeats 1000000 in
theorem compare_any (a b : List UInt8) (w : World) :
    Calls Try.prog 38 #[.string ⟨a.toArray⟩, .string ⟨b.toArray⟩] w fun e w' => e = .returned (.int .i64 (Lib.compareBytes a b)) ∧ w' = w := by
  have h := Try.strings_Compare ⟨a.toArray⟩ ⟨b.toArray⟩ w
  simp only at h
  generalize Lib.compareBytes a b = r at h ⊢
  have H := Lib.hid h
  clear h
  go_enter Try.func38, Try.ntmps38
  go_wp2_with fail
  refine H.out.mono ?_
  rintro e w' ⟨rfl, rfl⟩
  go_wp2
  go_ret
  exact ⟨rfl, rfl⟩
end Go.Proofs.Ytnechkljecdfkaa
