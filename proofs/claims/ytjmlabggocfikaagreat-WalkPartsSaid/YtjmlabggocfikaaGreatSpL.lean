/-
  A row is laid: lay: walked.
-/
import Derived.Test.YtjmlabggocfikaaGreatBn9
import Derived.Test.YtjmlabggocfikaaGreatBn7
import Derived.Laws.IdiomStrings
set_option linter.unusedSimpArgs false
set_option linter.unusedVariables false
namespace Go.Proofs.YtjmlabggocfikaaGreat
open Go.RowKit

/-- What lay leaves. -/
def RetLay (w0 : World) (us S : List (List UInt8)) (s K : List UInt8) (b pb : Nat) (k : Option Addr) (P : List Nat) (C : List (Nat × Nat)) (i p : Nat) (w' : World) : Prop :=
  ∃ n C' v', n ≤ p + 256 ∧ SpMid S i p s (moreC C n) K C' ∧ IsSp w' w0.heap.size b pb k (P.set i p) C' v' ∧ Below w0.heap.size w0 w'
theorem kids_most (us : List (List UInt8)) (q : List UInt8) : (kidsL us q).length ≤ 256 := Nat.le_trans (List.length_filter_le _ _) (by unfold bytU; simp)

set_option maxRecDepth 100000 in
set_option maxHeartbeats 8000000 in
theorem splay_any {w0 w : World} {b pb : Nat} {k q y : Option Addr} {us S : List (List UInt8)} {F : List (Nat × Nat)} {P : List Nat} {C : List (Nat × Nat)} {v : Value}
    (hL : IsLink w0 k q y us S S.length F) (hb : Below w0.heap.size w0 w) (hT : IsSp w w0.heap.size b pb k P C v) (hP : P.length = S.length) (i : Nat) {s : List UInt8} (hs : S[i]? = some s) (p : Nat) (hp : p ≤ C.length) (hK : 0 < (kidsL us s).length) (hcl : C.length + 256 ≤ 1073741824) :
    Calls Tryz.prog 55 #[.pointer (some ⟨b, 0, none⟩), .int .i64 (i : Int), .string ⟨(kidsL us s).toArray⟩, .int .i64 (p : Int)] w fun e w' => e = .returned (.tuple #[]) ∧ RetLay w0 us S s (kidsL us s) b pb k P C i p w' := by
  obtain ⟨i0, hinf, hz0, hz1, hz2⟩ := info_parts sp_info
  have hil := (List.getElem?_eq_some_iff.1 hs).1
  have hfew := hL.tr.few.2.2
  have hrise := kids_rise us s
  have hkm := kids_most us s
  have HKin := Lib.hid (fun c (hc : c ∈ kidsL us s) => show s ++ [c] ∈ S from (hL.tr.st.2 _).2 (.inr (kids_mem.1 hc)))
  obtain ⟨K, hKK⟩ : ∃ K, kidsL us s = K := ⟨_, rfl⟩
  rw [hKK] at hK hrise hkm HKin ⊢
  clear hKK
  obtain ⟨m, hm⟩ : ∃ m, m + 1 = K.length := ⟨K.length - 1, by omega⟩
  have hml : m < K.length := by omega
  have hmz : m < (⟨K.toArray⟩ : ByteArray).size := by rw [bsize]; omega
  have hB := byteAt K m hml hmz
  have HLast := Lib.hid (rise_last hrise hm hml)
  have hcl2 := (K[m]).toNat_lt
  generalize K[m] = cl at *
  have HZ := Lib.hid (bsize K)
  obtain ⟨la, hla⟩ : ∃ la, p + cl.toNat = la := ⟨_, rfl⟩
  have w1 : IntKind.i64.wrap ((K.length : Int) - 1) = (m : Int) := by rw [IntKind.wrap_i64]; omega
  have gm0 : (0 : Int) ≤ (m : Int) := by omega
  have gm1 : (m : Int) < (K.length : Int) := by omega
  have w2 : IntKind.i64.wrap ((p : Int) + (cl.toNat : Int)) = (la : Int) := by rw [IntKind.wrap_i64]; omega
  have w3 : IntKind.i64.wrap ((la : Int) + 1) = ((la + 1 : Nat) : Int) := by rw [IntKind.wrap_i64]; omega
  have HIn : Hid (∀ c ∈ K, p + UInt8.toNat c < la + 1) := Lib.hid (fun c hc => by have := HLast.out c hc; omega)
  have hla2 : la + 1 ≤ p + 256 := by omega
  have HS := Lib.hid hs
  have HL := Lib.hid hL
  have HB := Lib.hid hb
  have hsz := hb.size
  have c2 := hT.reads.2.2
  obtain ⟨a, cap, rfl⟩ := hT.sl
  have gi0 : (0 : Int) ≤ (i : Int) := by omega
  have gi1 : (i : Int) < (P.length : Int) := by omega
  obtain ⟨pi, hpi⟩ : ∃ pi, P[i]? = some pi := ⟨_, List.getElem?_eq_getElem (by omega)⟩
  have w5 : IntKind.i32.wrap (p : Int) = (p : Int) := by rw [IntKind.wrap_i32]; omega
  clear hs hL hb hrise hm HLast hP
  by_cases hmore : C.length < la + 1
  · obtain ⟨mo, hmo⟩ : ∃ mo, mo = la + 1 - C.length := ⟨_, rfl⟩
    have w4 : (la : Int) + 1 - (C.length : Int) = (mo : Int) := by omega
    have gmo : (C.length : Int) < (la : Int) + 1 := by omega
    have gmo1 : decide ((C.length : Int) < (la : Int) + 1) = true := decide_eq_true gmo
    have gmo2 : 0 < mo := by omega
    have gmo3 : (0 : Int) < (mo : Int) := by omega
    have HT := Lib.hid hT
    have hown := hT.own
    have hmx : C.length + mo ≤ 1073741824 := by omega
    have HMo := Lib.hid hmo
    clear hT hmo
    go_enter Tryz.func55, Tryz.ntmps55
    go_wp2_with (at_builtin; go_loud (refine wpList_append_zeros _ rfl _ _ 87 3 rfl w0.heap.size 133 i0 (.agg #[.int .i32 0, .int .i32 0]) 2 8 .i64 .i64 Tryz.underlying87 Tryz.underlying3 hinf hz0 hz1 hz2 rfl (by decide) sp_zero_one _ _ _ rfl hown mo rfl gmo2 (by unfold maxLen; omega) (by omega) hsz ?_))
    intro v1 wa hown1 hgrow1
    obtain ⟨g1, cp1, rfl, _⟩ := World.ownsRow.form hown1 (by omega)
    obtain ⟨hb1, hT1⟩ := HT.out.more (n := la + 1) HMo.out (by omega) (by omega) hown1 hgrow1
    have hh1 := hb1.trans HT.out.head
    have d2 : wa.cell? ⟨b, 2, none⟩ = some (.slice a C.length cap) := by rw [Lib.cell_of_heap hh1]; rfl
    have f2 := Lib.frozen_of_heap hh1 2
    have HB1 : Hid (Below w0.heap.size w0 (wa.setCell ⟨b, 2, none⟩ (.slice (some ⟨g1, 0, none⟩) (C.length + mo) cp1))) := Lib.hid ((HB.out.grown hgrow1 hsz (fun j hj => (hown.lt j hj).1)).setCell HT.out.bb _)
    have HT1 := Lib.hid hT1
    clear hT1 hb1 hh1 hown hown1 hgrow1 c2 w1 w2 w3 w4 gmo gmo1 gmo2 gmo3 hmx HMo HT HB hB
    have d1 : (wa.setCell ⟨b, 2, none⟩ (.slice (some ⟨g1, 0, none⟩) (C.length + mo) cp1)).cell? ⟨b, 1, none⟩ = some (.slice (some ⟨pb, 0, none⟩) P.length P.length) := HT1.out.reads.2.1
    have di : (wa.setCell ⟨b, 2, none⟩ (.slice (some ⟨g1, 0, none⟩) (C.length + mo) cp1)).cell? ⟨pb, i, none⟩ = some (.int .i32 (pi : Int)) := (HT1.out.place hpi).2
    have fi : (wa.setCell ⟨b, 2, none⟩ (.slice (some ⟨g1, 0, none⟩) (C.length + mo) cp1)).frozen? ⟨pb, i, none⟩ = false := Lib.frozen_of_heap HT1.out.row i
    have HT2 := Lib.hid (HT1.out.lay i (p := p) (by omega))
    have HB2 := Lib.hid (HB1.out.setCell (p := ⟨pb, i, none⟩) HT1.out.bp (.int .i32 (p : Int)))
    clear HT1 HB1
    have hcv := run_bytes_of_string (P := Tryz.prog) ((wa.setCell ⟨b, 2, none⟩ (.slice (some ⟨g1, 0, none⟩) (C.length + mo) cp1)).setCell ⟨pb, i, none⟩ (.int .i32 (p : Int))) 9 79 5 ⟨K.toArray⟩ Tryz.underlying9 Tryz.underlying79 Tryz.underlying5
    rw [bsize] at hcv
    obtain ⟨cp, hcp⟩ : ∃ cp, grownCap ((wa.setCell ⟨b, 2, none⟩ (.slice (some ⟨g1, 0, none⟩) (C.length + mo) cp1)).setCell ⟨pb, i, none⟩ (.int .i32 (p : Int))) K.length 0 5 = cp := ⟨_, rfl⟩
    rw [hcp] at hcv
    have HKC : Hid (∀ j (c : UInt8), K[j]? = some c → (bytesRow ⟨K.toArray⟩ cp)[j]? = some (Value.int .u8 (c.toNat : Int))) := Lib.hid (fun j c hj => by
      obtain ⟨h1, h2⟩ := List.getElem?_eq_some_iff.1 hj
      have := bytesRow_at ⟨K.toArray⟩ cp j (by simpa using h1)
      rw [this]
      simp [h2])
    generalize bytesRow ⟨K.toArray⟩ cp = cells at *
    have hs4 := HB2.out.size
    have HX : Hid ((((wa.setCell ⟨b, 2, none⟩ (.slice (some ⟨g1, 0, none⟩) (C.length + mo) cp1)).setCell ⟨pb, i, none⟩ (.int .i32 (p : Int))).alloc (.cells cells 5 (cells.size, cells.size + 1))).drew.heap[wa.heap.size]? = some (.cells cells 5 (cells.size, cells.size + 1))) := Lib.hid (by
      rw [show wa.heap.size = ((wa.setCell ⟨b, 2, none⟩ (.slice (some ⟨g1, 0, none⟩) (C.length + mo) cp1)).setCell ⟨pb, i, none⟩ (.int .i32 (p : Int))).heap.size by simp]
      exact heap_alloc_new _ _)
    have b5 : Below ((wa.setCell ⟨b, 2, none⟩ (.slice (some ⟨g1, 0, none⟩) (C.length + mo) cp1)).setCell ⟨pb, i, none⟩ (.int .i32 (p : Int))).heap.size ((wa.setCell ⟨b, 2, none⟩ (.slice (some ⟨g1, 0, none⟩) (C.length + mo) cp1)).setCell ⟨pb, i, none⟩ (.int .i32 (p : Int))) (((wa.setCell ⟨b, 2, none⟩ (.slice (some ⟨g1, 0, none⟩) (C.length + mo) cp1)).setCell ⟨pb, i, none⟩ (.int .i32 (p : Int))).alloc (.cells cells 5 (cells.size, cells.size + 1))).drew := ((Below.refl _ _).alloc (Nat.le_refl _) _).drew
    have HT5 := Lib.hid (HT2.out.below b5)
    have HB5 := Lib.hid (HB2.out.trans (b5.mono hs4))
    clear b5 HT2 HB2 hcp
    go_wp2_with fail
    generalize (((wa.setCell ⟨b, 2, none⟩ (.slice (some ⟨g1, 0, none⟩) (C.length + mo) cp1)).setCell ⟨pb, i, none⟩ (.int .i32 (p : Int))).alloc (.cells cells 5 (cells.size, cells.size + 1))).drew = w6 at *
    generalize wa.heap.size = X at *
    clear d1 di fi hcv hs4
    have hlen := more_length C (la + 1)
    have HM0 := Lib.hid (SpMid.start S i p s (moreC C (la + 1)))
    obtain ⟨C1, hC1⟩ : ∃ C1, Hid (C1 = moreC C (la + 1)) := ⟨_, Lib.hid rfl⟩
    rw [← hC1.out] at HT5 HM0 hlen
    obtain ⟨v2, hv2⟩ : ∃ v2, Hid (v2 = (Value.slice (some ⟨g1, 0, none⟩) (C.length + mo) cp1)) := ⟨_, Lib.hid rfl⟩
    rw [← hv2.out] at HT5
    obtain ⟨g, cap1, rfl, hbg, _⟩ := World.ownsRow.form HT5.out.own (by omega)
    clear hv2
    obtain ⟨P2, hP2⟩ : ∃ P2, Hid (P2 = P.set i p) := ⟨_, Lib.hid rfl⟩
    rw [← hP2.out] at HT5
    go_loopw [52] (fun x wr => ∃ (j : Nat) (C' : List (Nat × Nat)), j ≤ K.length ∧ x = .int .i64 j ∧ Hid (IsSp wr w0.heap.size b pb k P2 C' (.slice (some ⟨g, 0, none⟩) C1.length cap1)) ∧ Hid (SpMid S i p s C1 (K.take j) C') ∧ Hid (wr.heap[X]? = some (.cells cells 5 (cells.size, cells.size + 1))) ∧ Hid (Below w0.heap.size w0 wr)) (fun x _ => K.length - (RowKit.intOf x).toNat)
    case atStart => exact ⟨0, C1, Nat.zero_le _, rfl, HT5, HM0, HX, HB5⟩
    case round =>
      clear HT5 HM0 HX HB5
      obtain ⟨j, C', hj, rfl, HTj, HMj, HXj, HBj⟩ := hrel
      have hsj := HBj.out.size
      by_cases hlt : j < K.length
      · obtain ⟨c, hc⟩ : ∃ c, K[j]? = some c := ⟨_, List.getElem?_eq_getElem hlt⟩
        have c0 : wr.cell? ⟨X, j, none⟩ = some (.int .u8 (c.toNat : Int)) := by
          rw [Lib.cell_of_heap HXj.out]
          exact HKC.out j c hc
        have e0 := HTj.out.reads.1
        have hcK : c ∈ K := List.mem_of_getElem? hc
        have hin := HKin.out c hcK
        have hpc := HIn.out c hcK
        have HTr := Lib.hid (lktrie_any (HL.out.below HBj.out).has)
        have HN := Lib.hid (ts_next (HL.out.below HBj.out).tr i HS.out c)
        have HTk : Hid (K.take (j + 1) = K.take j ++ [c]) := Lib.hid (by
          obtain ⟨hk', e⟩ := List.getElem?_eq_some_iff.1 hc
          rw [List.take_succ_eq_append_getElem hk', e])
        have HCin := Lib.hid hin
        have g0 : (0 : Int) ≤ (j : Int) := by omega
        have g1 : (j : Int) < (K.length : Int) := by omega
        have hccl := c.toNat_lt
        clear hc hcK hin
        go_wp2_with fail
        refine HTr.out.mono ?_
        rintro e w' ⟨rfl, hw'⟩
        obtain rfl := hw'.symm
        clear hw' HTr
        go_wp2_with fail
        refine HN.out.mono ?_
        rintro e w7 ⟨⟨h1, _⟩, hb7⟩
        obtain ⟨n, rfl, hn⟩ := h1 HCin.out
        have hnl := (List.getElem?_eq_some_iff.1 hn).1
        have HT7 := Lib.hid (HTj.out.below hb7)
        have HX7 : Hid (w7.heap[X]? = some (.cells cells 5 (cells.size, cells.size + 1))) := Lib.hid ((hb7.block X (heap_lt HXj.out)).trans HXj.out)
        have HB7 := Lib.hid (HBj.out.trans (hb7.mono hsj))
        have e2 := HT7.out.reads.2.2
        have hll := HMj.out.len
        obtain ⟨at_, hat⟩ : ∃ at_, p + c.toNat = at_ := ⟨_, rfl⟩
        rw [hat] at hpc
        have hal : at_ < C'.length := by omega
        obtain ⟨r0, r1, hr⟩ : ∃ r0 r1, C'[at_]? = some (r0, r1) := ⟨_, _, List.getElem?_eq_getElem hal⟩
        obtain ⟨g', cap', hv', _, _, _, e3, e4⟩ := HT7.out.at hr
        have hgg : g = g' := by
          simp only [Value.slice.injEq, Option.some.injEq, Addr.mk.injEq] at hv'
          exact hv'.1.1
        subst hgg
        clear hv'
        have f3 : w7.frozen? ⟨g, at_ * 2, none⟩ = false := (show w7.ownsRow _ _ _ (.slice (some ⟨g, 0, none⟩) C'.length cap1) _ _ from by have := HT7.out.own; rw [← hll] at this; exact this).frozenAt _
        have f4 : w7.frozen? ⟨g, at_ * 2 + 1, none⟩ = false := (show w7.ownsRow _ _ _ (.slice (some ⟨g, 0, none⟩) C'.length cap1) _ _ from by have := HT7.out.own; rw [← hll] at this; exact this).frozenAt _
        have HT8 := Lib.hid (HT7.out.put hll.symm hal (o := i) (x := n) (by omega) (by omega))
        have HM8 := Lib.hid (HMj.out.put hn (by rw [hat, ← hll]; exact hal))
        rw [hat, ← HTk.out] at HM8
        have HX8 : Hid (((w7.setCell ⟨g, at_ * 2, none⟩ (.int .i32 (i : Int))).setCell ⟨g, at_ * 2 + 1, none⟩ (.int .i32 (n : Int))).heap[X]? = some (.cells cells 5 (cells.size, cells.size + 1))) := Lib.hid (by
          have hXg : X ≠ g := fun e => by
            obtain ⟨_, ⟨hx, _⟩ | ⟨g2, cap2, cur, hx, _, hg, _⟩⟩ := HT7.out.own
            · cases hx
            · simp only [Value.slice.injEq, Option.some.injEq, Addr.mk.injEq] at hx
              obtain ⟨⟨rfl, _⟩, _⟩ := hx
              have := HX7.out
              rw [e, hg] at this
              simp at this
          rw [put_other hXg, put_other hXg]; exact HX7.out)
        have HB8 := Lib.hid ((HB7.out.setCell (p := ⟨g, at_ * 2, none⟩) hbg (.int .i32 (i : Int))).setCell (p := ⟨g, at_ * 2 + 1, none⟩) hbg (.int .i32 (n : Int)))
        have w7a : IntKind.i64.wrap ((p : Int) + (c.toNat : Int)) = (at_ : Int) := by rw [IntKind.wrap_i64]; omega
        have w7b : IntKind.i32.wrap (i : Int) = (i : Int) := by rw [IntKind.wrap_i32]; omega
        have w7c : IntKind.i32.wrap (n : Int) = (n : Int) := by rw [IntKind.wrap_i32]; omega
        have g2 : (0 : Int) ≤ (at_ : Int) := by omega
        have g3 : (at_ : Int) < (C1.length : Int) := by omega
        clear h1 hn hb7 HN HTj HMj HXj HBj HT7 HX7 HB7 hr hat HTk HCin c0 e0
        go_wp2
        exact ⟨⟨j + 1, _, by omega, by go_num, HT8, HM8, HX8, HB8⟩, by simp [RowKit.intOf]; omega⟩
      · obtain rfl : j = K.length := by omega
        have hz : ¬ (K.length : Int) < (K.length : Int) := by omega
        have HM2 := HMj
        rw [List.take_length, hC1.out] at HM2
        clear HMj HXj HKC
        go_wp2
        go_end0
        exact ⟨rfl, la + 1, C', _, hla2, HM2.out, by rw [← hP2.out]; exact HTj.out, HBj.out⟩
  · have hno : la + 1 ≤ C.length := by omega
    have gD0 : ¬ (C.length : Int) < (la : Int) + 1 := by omega
    have gD : decide ((C.length : Int) < (la : Int) + 1) = false := decide_eq_false gD0
    obtain ⟨v1, hv1⟩ : ∃ v1, Hid (v1 = Value.slice a C.length cap) := ⟨_, Lib.hid rfl⟩
    have HT1 : Hid (IsSp w w0.heap.size b pb k P (moreC C (la + 1)) v1) := Lib.hid (by rw [more_none hno, hv1.out]; exact hT)
    have HB1 := HB
    clear hT
    have d1 : (w).cell? ⟨b, 1, none⟩ = some (.slice (some ⟨pb, 0, none⟩) P.length P.length) := HT1.out.reads.2.1
    have di : (w).cell? ⟨pb, i, none⟩ = some (.int .i32 (pi : Int)) := (HT1.out.place hpi).2
    have fi : (w).frozen? ⟨pb, i, none⟩ = false := Lib.frozen_of_heap HT1.out.row i
    have HT2 := Lib.hid (HT1.out.lay i (p := p) (by omega))
    have HB2 := Lib.hid (HB1.out.setCell (p := ⟨pb, i, none⟩) HT1.out.bp (.int .i32 (p : Int)))
    clear HT1 HB1
    have hcv := run_bytes_of_string (P := Tryz.prog) ((w).setCell ⟨pb, i, none⟩ (.int .i32 (p : Int))) 9 79 5 ⟨K.toArray⟩ Tryz.underlying9 Tryz.underlying79 Tryz.underlying5
    rw [bsize] at hcv
    obtain ⟨cp, hcp⟩ : ∃ cp, grownCap ((w).setCell ⟨pb, i, none⟩ (.int .i32 (p : Int))) K.length 0 5 = cp := ⟨_, rfl⟩
    rw [hcp] at hcv
    have HKC : Hid (∀ j (c : UInt8), K[j]? = some c → (bytesRow ⟨K.toArray⟩ cp)[j]? = some (Value.int .u8 (c.toNat : Int))) := Lib.hid (fun j c hj => by
      obtain ⟨h1, h2⟩ := List.getElem?_eq_some_iff.1 hj
      have := bytesRow_at ⟨K.toArray⟩ cp j (by simpa using h1)
      rw [this]
      simp [h2])
    generalize bytesRow ⟨K.toArray⟩ cp = cells at *
    have hs4 := HB2.out.size
    have HX : Hid ((((w).setCell ⟨pb, i, none⟩ (.int .i32 (p : Int))).alloc (.cells cells 5 (cells.size, cells.size + 1))).drew.heap[w.heap.size]? = some (.cells cells 5 (cells.size, cells.size + 1))) := Lib.hid (by
      rw [show w.heap.size = ((w).setCell ⟨pb, i, none⟩ (.int .i32 (p : Int))).heap.size by simp]
      exact heap_alloc_new _ _)
    have b5 : Below ((w).setCell ⟨pb, i, none⟩ (.int .i32 (p : Int))).heap.size ((w).setCell ⟨pb, i, none⟩ (.int .i32 (p : Int))) (((w).setCell ⟨pb, i, none⟩ (.int .i32 (p : Int))).alloc (.cells cells 5 (cells.size, cells.size + 1))).drew := ((Below.refl _ _).alloc (Nat.le_refl _) _).drew
    have HT5 := Lib.hid (HT2.out.below b5)
    have HB5 := Lib.hid (HB2.out.trans (b5.mono hs4))
    clear b5 HT2 HB2 hcp
    go_enter Tryz.func55, Tryz.ntmps55
    go_wp2_with fail
    generalize (((w).setCell ⟨pb, i, none⟩ (.int .i32 (p : Int))).alloc (.cells cells 5 (cells.size, cells.size + 1))).drew = w6 at *
    generalize w.heap.size = X at *
    clear d1 di fi hcv hs4
    have hlen := more_length C (la + 1)
    have HM0 := Lib.hid (SpMid.start S i p s (moreC C (la + 1)))
    obtain ⟨C1, hC1⟩ : ∃ C1, Hid (C1 = moreC C (la + 1)) := ⟨_, Lib.hid rfl⟩
    rw [← hC1.out] at HT5 HM0 hlen
    obtain ⟨v2, hv2⟩ : ∃ v2, Hid (v2 = v1) := ⟨_, Lib.hid rfl⟩
    rw [← hv2.out] at HT5
    obtain ⟨g, cap1, rfl, hbg, _⟩ := World.ownsRow.form HT5.out.own (by omega)
    clear hv2
    obtain ⟨P2, hP2⟩ : ∃ P2, Hid (P2 = P.set i p) := ⟨_, Lib.hid rfl⟩
    rw [← hP2.out] at HT5
    go_loopw [52] (fun x wr => ∃ (j : Nat) (C' : List (Nat × Nat)), j ≤ K.length ∧ x = .int .i64 j ∧ Hid (IsSp wr w0.heap.size b pb k P2 C' (.slice (some ⟨g, 0, none⟩) C1.length cap1)) ∧ Hid (SpMid S i p s C1 (K.take j) C') ∧ Hid (wr.heap[X]? = some (.cells cells 5 (cells.size, cells.size + 1))) ∧ Hid (Below w0.heap.size w0 wr)) (fun x _ => K.length - (RowKit.intOf x).toNat)
    case atStart => exact ⟨0, C1, Nat.zero_le _, rfl, HT5, HM0, HX, HB5⟩
    case round =>
      clear HT5 HM0 HX HB5
      obtain ⟨j, C', hj, rfl, HTj, HMj, HXj, HBj⟩ := hrel
      have hsj := HBj.out.size
      by_cases hlt : j < K.length
      · obtain ⟨c, hc⟩ : ∃ c, K[j]? = some c := ⟨_, List.getElem?_eq_getElem hlt⟩
        have c0 : wr.cell? ⟨X, j, none⟩ = some (.int .u8 (c.toNat : Int)) := by
          rw [Lib.cell_of_heap HXj.out]
          exact HKC.out j c hc
        have e0 := HTj.out.reads.1
        have hcK : c ∈ K := List.mem_of_getElem? hc
        have hin := HKin.out c hcK
        have hpc := HIn.out c hcK
        have HTr := Lib.hid (lktrie_any (HL.out.below HBj.out).has)
        have HN := Lib.hid (ts_next (HL.out.below HBj.out).tr i HS.out c)
        have HTk : Hid (K.take (j + 1) = K.take j ++ [c]) := Lib.hid (by
          obtain ⟨hk', e⟩ := List.getElem?_eq_some_iff.1 hc
          rw [List.take_succ_eq_append_getElem hk', e])
        have HCin := Lib.hid hin
        have g0 : (0 : Int) ≤ (j : Int) := by omega
        have g1 : (j : Int) < (K.length : Int) := by omega
        have hccl := c.toNat_lt
        clear hc hcK hin
        go_wp2_with fail
        refine HTr.out.mono ?_
        rintro e w' ⟨rfl, hw'⟩
        obtain rfl := hw'.symm
        clear hw' HTr
        go_wp2_with fail
        refine HN.out.mono ?_
        rintro e w7 ⟨⟨h1, _⟩, hb7⟩
        obtain ⟨n, rfl, hn⟩ := h1 HCin.out
        have hnl := (List.getElem?_eq_some_iff.1 hn).1
        have HT7 := Lib.hid (HTj.out.below hb7)
        have HX7 : Hid (w7.heap[X]? = some (.cells cells 5 (cells.size, cells.size + 1))) := Lib.hid ((hb7.block X (heap_lt HXj.out)).trans HXj.out)
        have HB7 := Lib.hid (HBj.out.trans (hb7.mono hsj))
        have e2 := HT7.out.reads.2.2
        have hll := HMj.out.len
        obtain ⟨at_, hat⟩ : ∃ at_, p + c.toNat = at_ := ⟨_, rfl⟩
        rw [hat] at hpc
        have hal : at_ < C'.length := by omega
        obtain ⟨r0, r1, hr⟩ : ∃ r0 r1, C'[at_]? = some (r0, r1) := ⟨_, _, List.getElem?_eq_getElem hal⟩
        obtain ⟨g', cap', hv', _, _, _, e3, e4⟩ := HT7.out.at hr
        have hgg : g = g' := by
          simp only [Value.slice.injEq, Option.some.injEq, Addr.mk.injEq] at hv'
          exact hv'.1.1
        subst hgg
        clear hv'
        have f3 : w7.frozen? ⟨g, at_ * 2, none⟩ = false := (show w7.ownsRow _ _ _ (.slice (some ⟨g, 0, none⟩) C'.length cap1) _ _ from by have := HT7.out.own; rw [← hll] at this; exact this).frozenAt _
        have f4 : w7.frozen? ⟨g, at_ * 2 + 1, none⟩ = false := (show w7.ownsRow _ _ _ (.slice (some ⟨g, 0, none⟩) C'.length cap1) _ _ from by have := HT7.out.own; rw [← hll] at this; exact this).frozenAt _
        have HT8 := Lib.hid (HT7.out.put hll.symm hal (o := i) (x := n) (by omega) (by omega))
        have HM8 := Lib.hid (HMj.out.put hn (by rw [hat, ← hll]; exact hal))
        rw [hat, ← HTk.out] at HM8
        have HX8 : Hid (((w7.setCell ⟨g, at_ * 2, none⟩ (.int .i32 (i : Int))).setCell ⟨g, at_ * 2 + 1, none⟩ (.int .i32 (n : Int))).heap[X]? = some (.cells cells 5 (cells.size, cells.size + 1))) := Lib.hid (by
          have hXg : X ≠ g := fun e => by
            obtain ⟨_, ⟨hx, _⟩ | ⟨g2, cap2, cur, hx, _, hg, _⟩⟩ := HT7.out.own
            · cases hx
            · simp only [Value.slice.injEq, Option.some.injEq, Addr.mk.injEq] at hx
              obtain ⟨⟨rfl, _⟩, _⟩ := hx
              have := HX7.out
              rw [e, hg] at this
              simp at this
          rw [put_other hXg, put_other hXg]; exact HX7.out)
        have HB8 := Lib.hid ((HB7.out.setCell (p := ⟨g, at_ * 2, none⟩) hbg (.int .i32 (i : Int))).setCell (p := ⟨g, at_ * 2 + 1, none⟩) hbg (.int .i32 (n : Int)))
        have w7a : IntKind.i64.wrap ((p : Int) + (c.toNat : Int)) = (at_ : Int) := by rw [IntKind.wrap_i64]; omega
        have w7b : IntKind.i32.wrap (i : Int) = (i : Int) := by rw [IntKind.wrap_i32]; omega
        have w7c : IntKind.i32.wrap (n : Int) = (n : Int) := by rw [IntKind.wrap_i32]; omega
        have g2 : (0 : Int) ≤ (at_ : Int) := by omega
        have g3 : (at_ : Int) < (C1.length : Int) := by omega
        clear h1 hn hb7 HN HTj HMj HXj HBj HT7 HX7 HB7 hr hat HTk HCin c0 e0
        go_wp2
        exact ⟨⟨j + 1, _, by omega, by go_num, HT8, HM8, HX8, HB8⟩, by simp [RowKit.intOf]; omega⟩
      · obtain rfl : j = K.length := by omega
        have hz : ¬ (K.length : Int) < (K.length : Int) := by omega
        have HM2 := HMj
        rw [List.take_length, hC1.out] at HM2
        clear HMj HXj HKC
        go_wp2
        go_end0
        exact ⟨rfl, la + 1, C', _, hla2, HM2.out, by rw [← hP2.out]; exact HTj.out, HBj.out⟩
end Go.Proofs.YtjmlabggocfikaaGreat
