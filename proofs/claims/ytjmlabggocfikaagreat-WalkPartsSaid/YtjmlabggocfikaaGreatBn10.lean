/-
  Texts put together: SpP, SpNw, SpNs, LkNs, AuN, IntoB, WkW, LkFo, LkH, AuH, OcG, OthG.
-/
import Derived.Test.YtjmlabggocfikaaGreatBn8
import Derived.WalkMore
import Derived.Deep.QuietTactic
import Derived.Test.YtjmlabggocfikaaGreatSpL
import Derived.Test.YtjmlabggocfikaaGreatBn7
import Derived.Laws.MakeOwn
import Derived.Test.YtjmlabggocfikaaGreatBn4
import Derived.Test.YtjmlabggocfikaaGreatBn2
import Derived.Test.YtjmlabggocfikaaGreatBn3
import Derived.StillTailTactics
import Derived.Test.YtjmlabggocfikaaGreatShelf
import Derived.Lib.SlKeysI
import Derived.Deep.LoopGhost
import Derived.Laws.StructEq
import Derived.Sort.Grow
set_option linter.unusedSimpArgs false
set_option linter.unusedVariables false
namespace Go.Proofs.YtjmlabggocfikaaGreat
open Go.RowKit

theorem byte_ix (l : List UInt8) (n : Nat) (h : n < l.length) : (⟨l.toArray⟩ : ByteArray).get! n = l[n] := by
  simp [ByteArray.get!, h]

set_option maxRecDepth 100000 in
set_option maxHeartbeats 2000000 in
theorem spplace_any {w : World} {base b pb : Nat} {k : Option Addr} {P : List Nat} {C : List (Nat × Nat)} {v : Value} (h : IsSp w base b pb k P C v) (K : List UInt8) (f : Nat) (hf : f ≤ C.length) (hK : 0 < K.length) (hK2 : K.length ≤ 256) :
    Calls Tryz.prog 56 #[.pointer (some ⟨b, 0, none⟩), .string ⟨K.toArray⟩, .int .i64 (f : Int)] w fun e w' => ∃ p : Nat, e = .returned (.int .i64 (p : Int)) ∧ p ≤ C.length ∧ FreeAt C K p ∧ w' = w := by
  have HT := Lib.hid (fun j => sptaken_any h j)
  have hcl := h.clen
  have HZ := Lib.hid (bsize K)
  have hz0 : 0 < (⟨K.toArray⟩ : ByteArray).size := by rw [bsize]; exact hK
  have hB0 := byteAt K 0 hK hz0
  have hb0 := (K[0]).toNat_lt
  generalize K[0] = c0 at *
  obtain ⟨p0, hp0, hpl⟩ : ∃ p0 : Nat, max (0 : Int) ((f : Int) - (c0.toNat : Int)) = (p0 : Int) ∧ p0 ≤ C.length := ⟨f - c0.toNat, by omega, by omega⟩
  have w0 : IntKind.i64.wrap ((f : Int) - (c0.toNat : Int)) = (f : Int) - (c0.toNat : Int) := by rw [IntKind.wrap_i64]; omega
  clear h
  go_enter Tryz.func56, Tryz.ntmps56
  go_wp2_with fail
  go_step3
  go_wp2_with fail
  go_step3
  go_wp2
  go_loopw [7] (fun x wr => ∃ p : Nat, x = .int .i64 p ∧ p ≤ C.length ∧ wr = w) (fun x _ => C.length - (RowKit.intOf x).toNat)
  case atStart => exact ⟨p0, rfl, hpl, rfl⟩
  case round =>
    obtain ⟨p, rfl, hp, hwr⟩ := hrel
    obtain rfl := hwr.symm
    clear hwr
    go_wp2
    go_loopw [19] (fun x wr => ∃ i : Nat, x = .int .i64 i ∧ i ≤ K.length ∧ Hid (FreeAt C (K.take i) p) ∧ wr = w) (fun x _ => K.length - (RowKit.intOf x).toNat)
    case atStart => exact ⟨0, rfl, Nat.zero_le _, Lib.hid (fun c hc => by simp at hc), rfl⟩
    case round =>
      obtain ⟨i, rfl, hi, HF, hwr⟩ := hrel
      obtain rfl := hwr.symm
      clear hwr
      by_cases hlt : i < K.length
      · have hzi : i < (⟨K.toArray⟩ : ByteArray).size := by rw [bsize]; exact hlt
        have hBi := byteAt K i hlt hzi
        have hTi := List.take_succ_eq_append_getElem hlt
        have HTi : Hid (K.take (i + 1) = K.take i ++ [K[i]]) := Lib.hid hTi
        clear hTi
        have hbi := (K[i]).toNat_lt
        have HT2 := Lib.hid (HT.out (p + (K[i]).toNat))
        have HLow : Hid (tkC C (p + (K[i]).toNat) = true → p + (K[i]).toNat < C.length) := Lib.hid (fun h => by
          rcases Nat.lt_or_ge (p + (K[i]).toNat) C.length with h1 | h1
          · exact h1
          · rw [tk_out h1] at h; cases h)
        generalize K[i] = c at *
        have g0 : (0 : Int) ≤ (i : Int) := by omega
        have g1 : (i : Int) < (K.length : Int) := by omega
        have w1 : IntKind.i64.wrap ((p : Int) + (c.toNat : Int)) = ((p + c.toNat : Nat) : Int) := by rw [IntKind.wrap_i64]; omega
        cases hq : tkC C (p + c.toNat) with
        | true =>
          rw [hq] at HT2
          have hlow := HLow.out hq
          go_wp2_with fail
          refine HT2.out.mono ?_
          rintro e w' ⟨rfl, hw'⟩
          obtain rfl := hw'.symm
          clear hw' HT2 HT
          go_wp2
          exact ⟨⟨p + 1, by go_num, by omega, trivial⟩, by simp [RowKit.intOf]; omega⟩
        | false =>
          rw [hq] at HT2
          have HF2 : Hid (FreeAt C (K.take (i + 1)) p) := Lib.hid (by
            rw [HTi.out]
            intro d hd
            rcases List.mem_append.1 hd with hd | hd
            · exact HF.out d hd
            · rw [List.mem_singleton] at hd
              subst hd
              exact hq)
          clear HF HTi
          go_wp2_with fail
          refine HT2.out.mono ?_
          rintro e w' ⟨rfl, hw'⟩
          obtain rfl := hw'.symm
          clear hw' HT2 HT
          go_wp2
          exact ⟨⟨i + 1, by go_num, by omega, HF2, trivial⟩, by simp [RowKit.intOf]; omega⟩
      · obtain rfl : i = K.length := by omega
        have hz : ¬ (K.length : Int) < (K.length : Int) := by omega
        have HF2 : Hid (FreeAt C K p) := Lib.hid (by have := HF.out; rwa [List.take_length] at this)
        clear HF
        go_wp2
        go_ret
        exact ⟨p, rfl, hp, HF2.out, rfl⟩

set_option maxRecDepth 100000 in
set_option maxHeartbeats 1000000 in
theorem spfree_any {w : World} {base b pb : Nat} {k : Option Addr} {P : List Nat} {C : List (Nat × Nat)} {v : Value} (h : IsSp w base b pb k P C v) (f : Nat) (hf : f ≤ C.length) :
    Calls Tryz.prog 57 #[.pointer (some ⟨b, 0, none⟩), .int .i64 (f : Int)] w fun e w' => ∃ p : Nat, e = .returned (.int .i64 (p : Int)) ∧ p ≤ C.length ∧ w' = w := by
  have HT := Lib.hid (fun j => sptaken_any h j)
  have hcl := h.clen
  have c2 := h.reads.2.2
  obtain ⟨a, cap, rfl⟩ := h.sl
  have HLow : Hid (∀ p, tkC C p = true → p < C.length) := Lib.hid (fun p h => by
    rcases Nat.lt_or_ge p C.length with h1 | h1
    · exact h1
    · rw [tk_out h1] at h; cases h)
  clear h
  obtain ⟨p0, hp0, hpl⟩ : ∃ p0 : Nat, max (f : Int) ((C.length : Int) - 4096) = (p0 : Int) ∧ p0 ≤ C.length := ⟨max f (C.length - 4096), by omega, by omega⟩
  have w0 : IntKind.i64.wrap ((C.length : Int) - 4096) = (C.length : Int) - 4096 := by rw [IntKind.wrap_i64]; omega
  generalize C.length = m at *
  go_enter Tryz.func57, Tryz.ntmps57
  go_wp2
  go_loopw [1] (fun x wr => ∃ p : Nat, x = .int .i64 p ∧ p ≤ m ∧ wr = w) (fun x _ => m - (RowKit.intOf x).toNat)
  case atStart => exact ⟨p0, rfl, hpl, rfl⟩
  case round =>
    obtain ⟨p, rfl, hp, hwr⟩ := hrel
    obtain rfl := hwr.symm
    clear hwr c2
    have HT2 := Lib.hid (HT.out p)
    clear HT
    cases hq : tkC C p with
    | true =>
      rw [hq] at HT2
      have hlow := HLow.out p hq
      go_wp2_with fail
      refine HT2.out.mono ?_
      rintro e w' ⟨rfl, hw'⟩
      obtain rfl := hw'.symm
      clear hw' HT2
      go_wp2
      exact ⟨⟨p + 1, by go_num, by omega, trivial⟩, by simp [RowKit.intOf]; omega⟩
    | false =>
      rw [hq] at HT2
      go_wp2_with fail
      refine HT2.out.mono ?_
      rintro e w' ⟨rfl, hw'⟩
      obtain rfl := hw'.symm
      clear hw' HT2
      go_wp2
      go_ret
      exact ⟨p, rfl, hp, rfl⟩
end Go.Proofs.YtjmlabggocfikaaGreat

namespace Go.Proofs.YtjmlabggocfikaaGreat
open Go.RowKit

theorem sp32_all : (Tryz.prog.info? 21).map (fun i => (i.zero, i.size, i.bytes)) = some (some (.int .i32 0), 1, 4) := by kernel_rfl
theorem made_places (n : Nat) : madeCells (Value.int .i32 0).cells n = (spCells (List.replicate n 0)).toArray := by
  have e : (Value.int .i32 0).cells = #[.int .i32 0] := by rfl
  rw [e]
  unfold madeCells spCells spV
  apply Array.ext
  · simp
  · intro i h1 h2
    simp [Nat.mod_one]
theorem make_places (c : Nat) (w : World) (hc : c ≤ 4311744769) : (Instr.makeSlice 83 (.int .i64 (c : Int)) (.int .i64 (c : Int))).run Tryz.prog w = .ok (.slice (some ⟨w.heap.size, 0, none⟩) c c) (w.alloc (.cells (spCells (List.replicate c 0)).toArray 21)) := by
  obtain ⟨i0, hi, hz0, hz1, hz2⟩ := info_parts sp32_all
  have h := run_make (P := Tryz.prog) w 83 21 i0 (.int .i32 0) Tryz.underlying83 hi hz0 .i64 .i64 c c (by omega) (Int.le_refl _) (by rw [hz2]; omega) (by omega)
  rw [h, hz1, Int.toNat_natCast, Nat.mul_one, made_places]

set_option maxRecDepth 100000 in
set_option maxHeartbeats 4000000 in
theorem spnew_any {w : World} {p : Option Addr} {us : List (List UInt8)} (hp : IsPats w p us) (ha : Asc us) (hn : us.Nodup) (ht : totalL us ≤ 4194303) :
    Calls Tryz.prog 37 #[.pointer p] w fun e w' => ∃ q S C, e = .returned (.pointer q) ∧ IsSparse w' q us S C ∧ Below w.heap.size w w' := by
  have HK := Lib.hid (lknew_any hp ha hn)
  clear hp ha hn
  go_enter Tryz.func37, Tryz.ntmps37
  go_wp2_with fail
  refine HK.out.mono ?_
  rintro e w1 ⟨k, q, S, F, rfl, hL, hb1⟩
  have hs1 := hb1.size
  have hfew := hL.tr.few.2.1
  have HL1 := Lib.hid hL
  have HTr := Lib.hid (lktrie_any hL.has)
  have HLen := Lib.hid (ts_len hL.tr)
  have hroot := Lib.hid hL.root
  clear HK hL
  obtain ⟨n, hnS⟩ : ∃ n, S.length = n := ⟨_, rfl⟩
  rw [hnS] at HLen hfew
  have HN := Lib.hid hnS
  have hmake := make_places n w1 (by omega)
  clear hnS
  go_wp2_with fail
  refine HTr.out.mono ?_
  rintro e w' ⟨rfl, hw'⟩
  obtain rfl := hw'.symm
  clear hw' HTr
  go_wp2_with fail
  refine HLen.out.mono ?_
  rintro e w' ⟨rfl, hw'⟩
  obtain rfl := hw'.symm
  clear hw' HLen
  have hb3 : Below w1.heap.size w1 (w1.alloc (.cells (spCells (List.replicate n 0)).toArray 21)) := (Below.refl _ _).alloc (Nat.le_refl _) _
  have hh3 := heap_alloc_new w1 (.cells (spCells (List.replicate n 0)).toArray 21)
  have hz3 : (w1.alloc (.cells (spCells (List.replicate n 0)).toArray 21)).heap.size = w1.heap.size + 1 := by simp
  generalize w1.alloc (.cells (spCells (List.replicate n 0)).toArray 21) = w3 at *
  have HZ3 := Lib.hid hz3
  clear hz3
  go_wp2_with fail
  have hlr : (List.replicate n (0 : Nat)).length = n := List.length_replicate
  have HT0 : Hid (IsSp (w3.alloc (.cells #[.pointer k, .slice (some ⟨w1.heap.size, 0, none⟩) n n, .slice none 0 0] 89)) w1.heap.size w3.heap.size w1.heap.size k (List.replicate n 0) [] (.slice none 0 0)) := Lib.hid (by
    refine ⟨?_, ?_, World.ownsRow_nil _ _ _ _, hb3.size, Nat.le_refl _, by rw [hlr]; omega, by simp, fun x hx => by rw [List.eq_of_mem_replicate hx]; omega, fun r hr => by cases hr⟩
    · rw [hlr]; exact heap_alloc_new w3 _
    · rw [Below.heap_alloc _ _ _ (by have := HZ3.out; omega)]; exact hh3)
  have HB0 : Hid (Below w1.heap.size w1 (w3.alloc (.cells #[.pointer k, .slice (some ⟨w1.heap.size, 0, none⟩) n n, .slice none 0 0] 89))) := Lib.hid (hb3.alloc hb3.size _)
  have HR0 : Hid (SpOk us S 0 (List.replicate n 0) []) := Lib.hid (by rw [← HN.out]; exact SpOk.start us S)
  have c1 : (w3.alloc (.cells #[.pointer k, .slice (some ⟨w1.heap.size, 0, none⟩) n n, .slice none 0 0] 89)).cell? ⟨w3.heap.size, 1, none⟩ = some (.slice (some ⟨w1.heap.size, 0, none⟩) n n) := by
    rw [Lib.cell_of_heap (heap_alloc_new w3 _)]; rfl
  clear hh3 HZ3 hb3 hmake
  generalize (w3.alloc (.cells #[.pointer k, .slice (some ⟨w1.heap.size, 0, none⟩) n n, .slice none 0 0] 89)) = w4 at *
  generalize w3.heap.size = b at *
  go_loopw [22, 5] (fun x f wr => ∃ (i fr : Nat) (P : List Nat) (C : List (Nat × Nat)) (v : Value), i ≤ n ∧ x = .int .i64 i ∧ f = .int .i64 fr ∧ fr ≤ C.length ∧ Hid (IsSp wr w1.heap.size b w1.heap.size k P C v) ∧ Hid (SpOk us S i P C) ∧ Hid (Below w1.heap.size w1 wr)) (fun x _ _ => n - (RowKit.intOf x).toNat)
  case atStart => exact ⟨0, 0, _, [], _, Nat.zero_le _, rfl, rfl, Nat.zero_le _, HT0, HR0, HB0⟩
  case round =>
    clear HT0 HR0 HB0 c1
    obtain ⟨i, fr, P, C, v, hi, rfl, rfl, hfr, HT, HR, HB⟩ := hrel
    have hsz := HB.out.size
    by_cases hlt : i < n
    · obtain ⟨s, hs⟩ : ∃ s, S[i]? = some s := ⟨_, List.getElem?_eq_getElem (show i < S.length by rw [HN.out]; exact hlt)⟩
      have HL2 := Lib.hid (HL1.out.below HB.out)
      have HTr := Lib.hid (lktrie_any HL2.out.has)
      have HBy := Lib.hid (ts_bytes HL2.out.tr i hs)
      have HS := Lib.hid hs
      have g0 : (i : Int) < (n : Int) := by omega
      clear hs
      go_wp2_with fail
      refine HTr.out.mono ?_
      rintro e w' ⟨rfl, hw'⟩
      obtain rfl := hw'.symm
      clear hw' HTr
      go_wp2_with fail
      refine HBy.out.mono ?_
      rintro e w5 ⟨rfl, hb5⟩
      have HT5 := Lib.hid (HT.out.below hb5)
      have HB5 := Lib.hid (HB.out.trans (hb5.mono hsz))
      clear hb5 HBy HT HB HL2
      cases hq : kidsL us s with
      | nil =>
        have HR2 := Lib.hid (HR.out.none HS.out hq)
        go_wp2
        exact ⟨⟨i + 1, fr, P, C, v, by omega, by go_num, rfl, hfr, HT5, HR2, HB5⟩, by simp [RowKit.intOf]; omega⟩
      | cons c0 K0 =>
        have hne : kidsL us s ≠ [] := by rw [hq]; simp
        have hK1 : 0 < (kidsL us s).length := by rw [hq]; simp
        have hK2 := kids_most us s
        have hmost := HR.out.most
        have HPl := Lib.hid (spplace_any HT5.out (kidsL us s) fr hfr hK1 hK2)
        have HLay := Lib.hid (fun p (hp : p ≤ C.length) => splay_any HL1.out HB5.out HT5.out HR.out.plen i HS.out p hp hK1 (by omega))
        have hE : (({ data := (c0 :: K0).toArray } : ByteArray) == ByteArray.empty) = false := by rfl
        rw [hq] at HPl HLay hne hK1 hK2
        have HQ := Lib.hid hq
        clear hq
        go_wp2_with fail
        refine HPl.out.mono ?_
        rintro e w' ⟨pl, rfl, hpl, hfree, hw'⟩
        obtain rfl := hw'.symm
        have HLay2 := Lib.hid (HLay.out pl hpl)
        have HFree := Lib.hid hfree
        clear hw' HPl HLay hfree HT5
        go_wp2_with fail
        refine HLay2.out.mono ?_
        rintro e w7 ⟨rfl, m, C', v', hm, hM, hT, hB7⟩
        have HR2 := Lib.hid (HR.out.row hroot.out HS.out (by rw [HQ.out]; simp) (by rw [HQ.out]; exact HFree.out) hpl hm (by rw [HQ.out]; exact hM))
        have HT7 := Lib.hid hT
        have HB7 := Lib.hid hB7
        have hfr2 : fr ≤ C'.length := by
          have := hM.len
          rw [more_length] at this
          omega
        have HFr := Lib.hid (spfree_any hT fr hfr2)
        clear HLay2 hM hT hB7 HFree HR hE HQ hne hK1 hK2 hmost hm
        go_wp2_with fail
        refine HFr.out.mono ?_
        rintro e w' ⟨fr2, rfl, hfr3, hw'⟩
        obtain rfl := hw'.symm
        clear hw' HFr
        go_wp2
        exact ⟨⟨i + 1, fr2, _, C', v', by omega, by go_num, rfl, hfr3, HT7, HR2, HB7⟩, by simp [RowKit.intOf]; omega⟩
    · obtain rfl : i = n := by omega
      have hz : ¬ (i : Int) < (i : Int) := by omega
      have HE : Hid (IsSparse wr (some ⟨b, 0, none⟩) us S C) := Lib.hid ⟨_, b, _, k, q, p, F, P, v, rfl, HT.out, HL1.out.below HB.out, by rw [HN.out]; exact HR.out⟩
      have HBE := Lib.hid (hb1.trans (HB.out.mono hs1))
      clear HT HR HB
      go_wp2
      go_ret
      exact ⟨_, rfl, ⟨S, C, HE.out⟩, HBE.out⟩
end Go.Proofs.YtjmlabggocfikaaGreat

namespace Go.Proofs.YtjmlabggocfikaaGreat
open Go.RowKit

theorem spnew_set {w : World} {p : Option Addr} {ws : List (List UInt8)} (h : IsPats w p (setL ws)) (ht : totalL (setL ws) ≤ 4194303) :
    Calls Tryz.prog 37 #[.pointer p] w fun e w' => ∃ q S C, e = .returned (.pointer q) ∧ IsSparse w' q (setL ws) S C ∧ Below w.heap.size w w' := spnew_any h (set_asc ws) (pats_nodup h) ht
end Go.Proofs.YtjmlabggocfikaaGreat

namespace Go.Proofs.YtjmlabggocfikaaGreat
open Go.RowKit


/-- New links of a set that texts make. -/
theorem lknew_set {w : World} {p : Option Addr} {ws : List (List UInt8)} (h : IsPats w p (setL ws)) :
    Calls Tryz.prog 38 #[.pointer p] w fun e w' => ∃ k q S F, e = .returned (.pointer k) ∧ IsLink w' k q p (setL ws) S S.length F ∧ Below w.heap.size w w' := lknew_any h (set_asc ws) (pats_nodup h)

end Go.Proofs.YtjmlabggocfikaaGreat

namespace Go.Proofs.YtjmlabggocfikaaGreat
open Go.RowKit

theorem au_otht : OthT 68 := ⟨by decide, by decide, by decide, by decide, by decide, by decide⟩
theorem au_othd : OthD 68 := ⟨by decide, by decide, by decide⟩
theorem au_oths : OthS 68 := ⟨by decide, by decide, by decide⟩

set_option maxRecDepth 100000 in
set_option maxHeartbeats 2000000 in
theorem aunew_any {w : World} {p : Option Addr} {us : List (List UInt8)} (hp : IsPats w p us) (ha : Asc us) (hn : us.Nodup) (ht : totalL us ≤ 4194303) (kind : Int) (hk : kind = 1 ∨ kind = 2 ∨ kind = 3) :
    Calls Tryz.prog 26 #[.pointer p, .int .i64 kind] w fun e w' => ∃ q S, e = .returned (.tuple #[.pointer q, .int .i64 0]) ∧ IsAuto w' q p us S kind ∧ Below w.heap.size w w' := by
  have h1 : IsPats (w.alloc (.cells #[.int .i64 kind, .pointer none, .pointer none, .pointer none] 68)) p us := hp.below ((Below.refl _ _).alloc (Nat.le_refl _) _)
  have hx1 := heap_alloc_new w (.cells #[.int .i64 kind, .pointer none, .pointer none, .pointer none] 68)
  have b1 : Below w.heap.size w (w.alloc (.cells #[.int .i64 kind, .pointer none, .pointer none, .pointer none] 68)) := (Below.refl _ _).alloc (Nat.le_refl _) _
  have z1 : (w.alloc (.cells #[.int .i64 kind, .pointer none, .pointer none, .pointer none] 68)).heap.size = w.heap.size + 1 := by simp
  have HX1 := Lib.hid hx1
  have HB1 := Lib.hid b1
  have HZ1 := Lib.hid z1
  have HP := Lib.hid hp
  rcases hk with rfl | rfl | rfl
  · have HD := Lib.hid (dnnew_any h1 ha hn)
    clear h1 hx1 b1 z1 hp
    go_enter Tryz.func26, Tryz.ntmps26
    go_wp2_with fail
    refine HD.out.mono ?_
    rintro e w2 ⟨t, g, pc, S, L, rfl, hT, hb2⟩
    have hx2 := (hb2.block w.heap.size (by rw [HZ1.out]; omega)).trans HX1.out
    have b2 := HB1.out.trans (hb2.mono (by rw [HZ1.out]; omega))
    have c2 : w2.cell? ⟨w.heap.size, 2, none⟩ = some (.pointer none) := by rw [Lib.cell_of_heap hx2]; rfl
    have f2 : w2.frozen? ⟨w.heap.size, 2, none⟩ = false := Lib.frozen_of_heap hx2 _
    have HO2 := Lib.hid (Other.set hx2 (i := 2) (.pointer (some ⟨t, 0, none⟩)))
    have HX3 := Lib.hid (put_heap hx2 (i := 2) (.pointer (some ⟨t, 0, none⟩)))
    have HB3 : Hid (Below w.heap.size w (w2.setCell ⟨w.heap.size, 2, none⟩ (.pointer (some ⟨t, 0, none⟩)))) := Lib.hid (b2.setCell (p := ⟨w.heap.size, 2, none⟩) (Nat.le_refl _) _)
    have HL := Lib.hid (lknew_any ((HP.out.below b2).other HO2.out au_otht) ha hn)
    have HT := Lib.hid hT
    clear hT hb2 hx2 b2 HD
    go_wp2_with fail
    refine HL.out.mono ?_
    rintro e w4 ⟨k, q, S2, F, rfl, hL, hb4⟩
    obtain rfl : S2 = S := hL.tr.st.unique HT.out.st
    have hx4 := (hb4.block w.heap.size (heap_lt HX3.out)).trans HX3.out
    have b4 := HB3.out.trans (hb4.mono HB3.out.size)
    have c4 : w4.cell? ⟨w.heap.size, 1, none⟩ = some (.pointer none) := by rw [Lib.cell_of_heap hx4]; rfl
    have f4 : w4.frozen? ⟨w.heap.size, 1, none⟩ = false := Lib.frozen_of_heap hx4 _
    have HO4 := Lib.hid (Other.set hx4 (i := 1) (.pointer k))
    have HX5 := Lib.hid (put_heap hx4 (i := 1) (.pointer k))
    have HB5 : Hid (Below w.heap.size w (w4.setCell ⟨w.heap.size, 1, none⟩ (.pointer k))) := Lib.hid (b4.setCell (p := ⟨w.heap.size, 1, none⟩) (Nat.le_refl _) _)
    have HT5 := Lib.hid (((HT.out.other HO2.out au_othd).below hb4).other HO4.out au_othd)
    have HL5 := Lib.hid (hL.other HO4.out au_otht)
    clear hL hb4 hx4 b4 HL HT HO2 HO4 HX3 HB3 c2 f2
    go_wp2
    go_ret2
    exact ⟨_, S2, rfl, ⟨⟨_, k, q, _, _, F, rfl, HX5.out, HL5.out, fun _ => ⟨t, g, pc, L, rfl, HT5.out⟩, fun h => by omega⟩, .inl rfl⟩, HB5.out⟩
  · have HD := Lib.hid (spnew_any h1 ha hn ht)
    clear h1 hx1 b1 z1 hp
    go_enter Tryz.func26, Tryz.ntmps26
    go_wp2_with fail
    refine HD.out.mono ?_
    rintro e w2 ⟨t, S, C, rfl, hT, hb2⟩
    have hx2 := (hb2.block w.heap.size (by rw [HZ1.out]; omega)).trans HX1.out
    have b2 := HB1.out.trans (hb2.mono (by rw [HZ1.out]; omega))
    have c2 : w2.cell? ⟨w.heap.size, 3, none⟩ = some (.pointer none) := by rw [Lib.cell_of_heap hx2]; rfl
    have f2 : w2.frozen? ⟨w.heap.size, 3, none⟩ = false := Lib.frozen_of_heap hx2 _
    have HO2 := Lib.hid (Other.set hx2 (i := 3) (.pointer t))
    have HX3 := Lib.hid (put_heap hx2 (i := 3) (.pointer t))
    have HB3 : Hid (Below w.heap.size w (w2.setCell ⟨w.heap.size, 3, none⟩ (.pointer t))) := Lib.hid (b2.setCell (p := ⟨w.heap.size, 3, none⟩) (Nat.le_refl _) _)
    have HL := Lib.hid (lknew_any ((HP.out.below b2).other HO2.out au_otht) ha hn)
    have HT := Lib.hid hT
    clear hT hb2 hx2 b2 HD
    go_wp2_with fail
    refine HL.out.mono ?_
    rintro e w4 ⟨k, q, S2, F, rfl, hL, hb4⟩
    obtain rfl : S2 = S := hL.tr.st.unique HT.out.st
    have hx4 := (hb4.block w.heap.size (heap_lt HX3.out)).trans HX3.out
    have b4 := HB3.out.trans (hb4.mono HB3.out.size)
    have c4 : w4.cell? ⟨w.heap.size, 1, none⟩ = some (.pointer none) := by rw [Lib.cell_of_heap hx4]; rfl
    have f4 : w4.frozen? ⟨w.heap.size, 1, none⟩ = false := Lib.frozen_of_heap hx4 _
    have HO4 := Lib.hid (Other.set hx4 (i := 1) (.pointer k))
    have HX5 := Lib.hid (put_heap hx4 (i := 1) (.pointer k))
    have HB5 : Hid (Below w.heap.size w (w4.setCell ⟨w.heap.size, 1, none⟩ (.pointer k))) := Lib.hid (b4.setCell (p := ⟨w.heap.size, 1, none⟩) (Nat.le_refl _) _)
    have HT5 := Lib.hid (((HT.out.other HO2.out au_oths au_otht).below hb4).other HO4.out au_oths au_otht)
    have HL5 := Lib.hid (hL.other HO4.out au_otht)
    clear hL hb4 hx4 b4 HL HT HO2 HO4 HX3 HB3 c2 f2
    go_wp2
    go_ret2
    exact ⟨_, S2, rfl, ⟨⟨_, k, q, _, _, F, rfl, HX5.out, HL5.out, fun h => by omega, fun _ => ⟨C, HT5.out⟩⟩, .inr (.inl rfl)⟩, HB5.out⟩
  · have HL := Lib.hid (lknew_any h1 ha hn)
    clear h1 hx1 b1 z1 hp
    go_enter Tryz.func26, Tryz.ntmps26
    go_wp2_with fail
    refine HL.out.mono ?_
    rintro e w4 ⟨k, q, S, F, rfl, hL, hb4⟩
    have hx4 := (hb4.block w.heap.size (by rw [HZ1.out]; omega)).trans HX1.out
    have b4 := HB1.out.trans (hb4.mono (by rw [HZ1.out]; omega))
    have c4 : w4.cell? ⟨w.heap.size, 1, none⟩ = some (.pointer none) := by rw [Lib.cell_of_heap hx4]; rfl
    have f4 : w4.frozen? ⟨w.heap.size, 1, none⟩ = false := Lib.frozen_of_heap hx4 _
    have HO4 := Lib.hid (Other.set hx4 (i := 1) (.pointer k))
    have HX5 := Lib.hid (put_heap hx4 (i := 1) (.pointer k))
    have HB5 : Hid (Below w.heap.size w (w4.setCell ⟨w.heap.size, 1, none⟩ (.pointer k))) := Lib.hid (b4.setCell (p := ⟨w.heap.size, 1, none⟩) (Nat.le_refl _) _)
    have HL5 := Lib.hid (hL.other HO4.out au_otht)
    clear hL hb4 hx4 b4 HL HO4
    go_wp2
    go_ret2
    exact ⟨_, S, rfl, ⟨⟨_, k, q, _, _, F, rfl, HX5.out, HL5.out, fun h => by omega, fun h => by omega⟩, .inr (.inr rfl)⟩, HB5.out⟩
/-- There is no such kind. -/
theorem aunew_bad (p : Option Addr) (kind : Int) (h1 : ¬ kind = 1) (h2 : ¬ kind = 2) (h3 : ¬ kind = 3) (w : World) :
    Calls Tryz.prog 26 #[.pointer p, .int .i64 kind] w fun e w' => e = .returned (.tuple #[.pointer none, .int .i64 2]) ∧ Below w.heap.size w w' := by
  have g1 : (kind == 1) = false := by simp; exact h1
  have g2 : (kind == 2) = false := by simp; exact h2
  have g3 : (kind == 3) = false := by simp; exact h3
  have HB1 : Hid (Below w.heap.size w (w.alloc (.cells #[.int .i64 kind, .pointer none, .pointer none, .pointer none] 68))) := Lib.hid ((Below.refl _ _).alloc (Nat.le_refl _) _)
  go_enter Tryz.func26, Tryz.ntmps26
  go_wp2
  go_ret2
  exact ⟨rfl, HB1.out⟩
theorem aunew_set {w : World} {p : Option Addr} {ws : List (List UInt8)} (h : IsPats w p (setL ws)) (ht : totalL (setL ws) ≤ 4194303) (kind : Int) (hk : kind = 1 ∨ kind = 2 ∨ kind = 3) :
    Calls Tryz.prog 26 #[.pointer p, .int .i64 kind] w fun e w' => ∃ q S, e = .returned (.tuple #[.pointer q, .int .i64 0]) ∧ IsAuto w' q p (setL ws) S kind ∧ Below w.heap.size w w' := aunew_any h (set_asc ws) (pats_nodup h) ht kind hk
end Go.Proofs.YtjmlabggocfikaaGreat

namespace Go.Proofs.YtjmlabggocfikaaGreat
open Go.RowKit

theorem Into.trans {b : Nat} {u v w : World} (h : Into b u v) (k : Into b v w) : Into b u w := ⟨k.os.trans h.os, k.tape.trans h.tape, k.output.trans h.output, k.size.trans h.size, fun i hi => (k.block i hi).trans (h.block i hi)⟩
theorem Into.belowTo {b B : Nat} {w w' : World} (h : Into b w w') (hB : B ≤ b) : Below B w w' := ⟨h.os, h.tape, h.output, Nat.le_of_eq h.size.symm, fun k hk => h.block k (by omega)⟩
end Go.Proofs.YtjmlabggocfikaaGreat

namespace Go.Proofs.YtjmlabggocfikaaGreat
open Go.RowKit

/-- A walk in block b: its automaton lies ahead of it; where the bytes led, how many came, how many hits were told. -/
def IsWalk (w : World) (b : Nat) (y : Option Addr) (us S : List (List UInt8)) (kind s : Int) (n m : Nat) : Prop :=
  ∃ (w0 : World) (a : Option Addr), IsAuto w0 a y us S kind ∧ w0.heap.size ≤ b ∧ Below w0.heap.size w0 w ∧ w.heap[b]? = some (.cells #[.pointer a, .int .i64 s, .int .i64 (n : Int), .int .i64 (m : Int)] 58 (0, 0))
theorem IsWalk.below {w w' : World} {b : Nat} {y : Option Addr} {us S : List (List UInt8)} {kind s : Int} {n m : Nat} (h : IsWalk w b y us S kind s n m) (hb : Below w.heap.size w w') : IsWalk w' b y us S kind s n m := by
  obtain ⟨w0, a, h1, h2, h3, h4⟩ := h
  exact ⟨w0, a, h1, h2, h3.trans (hb.mono h3.size), (hb.block b (heap_lt h4)).trans h4⟩
theorem IsWalk.lt {w : World} {b : Nat} {y : Option Addr} {us S : List (List UInt8)} {kind s : Int} {n m : Nat} (h : IsWalk w b y us S kind s n m) : b < w.heap.size := by
  obtain ⟨w0, a, h1, h2, h3, h4⟩ := h
  exact heap_lt h4
theorem IsWalk.st {w : World} {b : Nat} {y : Option Addr} {us S : List (List UInt8)} {kind s : Int} {n m : Nat} (h : IsWalk w b y us S kind s n m) : IsSt us S ∧ S[0]? = some [] := by
  obtain ⟨w0, a, h1, h2, h3, h4⟩ := h
  exact ⟨h1.st, h1.root⟩
/-- What its cells hold. -/
theorem walk_reads {w : World} {b : Nat} {a : Option Addr} {s n m : Int} (h : w.heap[b]? = some (.cells #[.pointer a, .int .i64 s, .int .i64 n, .int .i64 m] 58 (0, 0))) :
    (w.cell? ⟨b, 0, none⟩ = some (.pointer a) ∧ w.cell? ⟨b, 1, none⟩ = some (.int .i64 s) ∧ w.cell? ⟨b, 2, none⟩ = some (.int .i64 n) ∧ w.cell? ⟨b, 3, none⟩ = some (.int .i64 m)) ∧
    w.frozen? ⟨b, 1, none⟩ = false ∧ w.frozen? ⟨b, 2, none⟩ = false ∧ w.frozen? ⟨b, 3, none⟩ = false := by
  refine ⟨⟨?_, ?_, ?_, ?_⟩, Lib.frozen_of_heap h 1, Lib.frozen_of_heap h 2, Lib.frozen_of_heap h 3⟩ <;> rw [Lib.cell_of_heap h] <;> rfl

theorem wknew_any {w : World} {p : Option Addr} {us : List (List UInt8)} (hp : IsPats w p us) (ha : Asc us) (hn : us.Nodup) (ht : totalL us ≤ 4194303) (kind : Int) (hk : kind = 1 ∨ kind = 2 ∨ kind = 3) :
    Calls Tryz.prog 9 #[.pointer p, .int .i64 kind] w fun e w' => ∃ b S, e = .returned (.tuple #[.pointer (some ⟨b, 0, none⟩), .int .i64 0]) ∧ w.heap.size ≤ b ∧ IsWalk w' b p us S kind 0 0 0 ∧ Below w.heap.size w w' := by
  have HA := Lib.hid (aunew_any hp ha hn ht kind hk)
  clear hp ha hn ht hk
  go_enter Tryz.func9, Tryz.ntmps9
  go_wp2_with fail
  refine HA.out.mono ?_
  rintro e w1 ⟨q, S, rfl, hA, hb⟩
  have hsz := hb.size
  have HI := Lib.hid hA
  have HX := Lib.hid (heap_alloc_new w1 (.cells #[.pointer q, .int .i64 0, .int .i64 0, .int .i64 0] 58))
  have HB1 : Hid (Below w1.heap.size w1 (w1.alloc (.cells #[.pointer q, .int .i64 0, .int .i64 0, .int .i64 0] 58))) := Lib.hid ((Below.refl _ _).alloc (Nat.le_refl _) _)
  have HB : Hid (Below w.heap.size w (w1.alloc (.cells #[.pointer q, .int .i64 0, .int .i64 0, .int .i64 0] 58))) := Lib.hid (hb.alloc hsz _)
  clear HA hA hb
  go_wp2
  go_ret2
  exact ⟨w1.heap.size, S, rfl, hsz, ⟨w1, q, HI.out, Nat.le_refl _, HB1.out, HX.out⟩, HB.out⟩
/-- There is no such kind. -/
theorem wknew_bad (p : Option Addr) (kind : Int) (h1 : ¬ kind = 1) (h2 : ¬ kind = 2) (h3 : ¬ kind = 3) (w : World) :
    Calls Tryz.prog 9 #[.pointer p, .int .i64 kind] w fun e w' => e = .returned (.tuple #[.pointer none, .int .i64 2]) ∧ Below w.heap.size w w' := by
  have HA := Lib.hid (aunew_bad p kind h1 h2 h3 w)
  clear h1 h2 h3
  go_enter Tryz.func9, Tryz.ntmps9
  go_wp2_with fail
  refine HA.out.mono ?_
  rintro e w1 ⟨rfl, hb⟩
  go_wp2
  go_ret2
  exact ⟨rfl, hb⟩

theorem wkseen_any {w : World} {b : Nat} {y : Option Addr} {us S : List (List UInt8)} {kind s : Int} {n m : Nat} (h : IsWalk w b y us S kind s n m) : Calls Tryz.prog 11 #[.pointer (some ⟨b, 0, none⟩)] w fun e w' => e = .returned (.int .i64 (n : Int)) ∧ w' = w := by
  obtain ⟨w0, a, h1, h2, h3, h4⟩ := h
  obtain ⟨⟨c0, c1, c2, c3⟩, _⟩ := walk_reads h4
  clear h1 h2 h3 h4
  go_enter Tryz.func11, Tryz.ntmps11
  go_wp2
  go_ret
  exact ⟨rfl, rfl⟩
theorem wkseen_nil (w : World) : Calls Tryz.prog 11 #[.pointer none] w fun e w' => e = .returned (.int .i64 0) ∧ w' = w := by
  go_enter Tryz.func11, Tryz.ntmps11
  go_wp2
  go_ret
  exact ⟨rfl, rfl⟩
theorem wkhits_any {w : World} {b : Nat} {y : Option Addr} {us S : List (List UInt8)} {kind s : Int} {n m : Nat} (h : IsWalk w b y us S kind s n m) : Calls Tryz.prog 13 #[.pointer (some ⟨b, 0, none⟩)] w fun e w' => e = .returned (.int .i64 (m : Int)) ∧ w' = w := by
  obtain ⟨w0, a, h1, h2, h3, h4⟩ := h
  obtain ⟨⟨c0, c1, c2, c3⟩, _⟩ := walk_reads h4
  clear h1 h2 h3 h4
  go_enter Tryz.func13, Tryz.ntmps13
  go_wp2
  go_ret
  exact ⟨rfl, rfl⟩
theorem wkhits_nil (w : World) : Calls Tryz.prog 13 #[.pointer none] w fun e w' => e = .returned (.int .i64 0) ∧ w' = w := by
  go_enter Tryz.func13, Tryz.ntmps13
  go_wp2
  go_ret
  exact ⟨rfl, rfl⟩

set_option maxRecDepth 100000 in
theorem wkopen_any {w : World} {b : Nat} {y : Option Addr} {us S : List (List UInt8)} {kind s : Int} {n m : Nat} (h : IsWalk w b y us S kind s n m) : Calls Tryz.prog 12 #[.pointer (some ⟨b, 0, none⟩)] w fun e w' => e = .returned (.int .i64 (auD S s : Int)) ∧ Below w.heap.size w w' := by
  obtain ⟨w0, a, h1, h2, h3, h4⟩ := h
  obtain ⟨⟨c0, c1, c2, c3⟩, _⟩ := walk_reads h4
  have HD := Lib.hid (audepth_any (w := w.drew) (h1.below h3.drew) s)
  clear h1 h2 h3 h4
  go_enter Tryz.func12, Tryz.ntmps12
  go_wp2_with fail
  go_still_tail 8, (by kernel_rfl)
  change wpList _ _ _ _ _ w.drew
  have HB : Hid (Below w.heap.size w w.drew) := Lib.hid (Below.refl _ _).drew
  generalize w.drew = w5 at HD HB ⊢
  go_wp2_with fail
  refine HD.out.mono ?_
  rintro e w6 ⟨rfl, hb⟩
  have HB6 := Lib.hid (HB.out.trans (hb.mono HB.out.size))
  clear HD HB hb
  go_wp2
  go_ret
  exact ⟨rfl, HB6.out⟩
theorem wkopen_nil (w : World) : Calls Tryz.prog 12 #[.pointer none] w fun e w' => e = .returned (.int .i64 0) ∧ w' = w := by
  go_enter Tryz.func12, Tryz.ntmps12
  go_wp2
  go_ret
  exact ⟨rfl, rfl⟩

/-- How many bytes more may come at least ahead of the next hit, of any least. -/
def clrZ (l : Int) (o : Nat) : Int := if l ≤ (o : Int) then 0 else l - 1 - (o : Int)
theorem clrZ_nat (l o : Nat) : clrZ (l : Int) o = (clrN l o : Int) := by
  unfold clrZ clrN
  split <;> split <;> omega
theorem clrZ_neg {l : Int} (o : Nat) (h : l ≤ 0) : clrZ l o = 0 := by
  unfold clrZ
  split <;> omega
theorem wkclear_any {w : World} {b : Nat} {y : Option Addr} {us S : List (List UInt8)} {kind s : Int} {n m : Nat} (h : IsWalk w b y us S kind s n m) (l : Int) (hl : l ≤ 9223372036854775807) (hD : auD S s ≤ 1000000000) : Calls Tryz.prog 17 #[.pointer (some ⟨b, 0, none⟩), .int .i64 l] w fun e w' => e = .returned (.int .i64 (clrZ l (auD S s))) ∧ Below w.heap.size w w' := by
  have HO := Lib.hid (fun (W : World) (hb : Below w.heap.size w W) => wkopen_any (h.below hb))
  generalize auD S s = o at *
  have HO1 := Lib.hid (HO.out w (Below.refl _ _))
  clear h
  by_cases hq : l ≤ (o : Int)
  · have hd : decide (l ≤ (o : Int)) = true := decide_eq_true hq
    have HE : Hid (clrZ l o = 0) := Lib.hid (if_pos hq)
    go_enter Tryz.func17, Tryz.ntmps17
    go_wp2_with fail
    refine HO1.out.mono ?_
    rintro e w1 ⟨rfl, hb⟩
    go_wp2
    go_ret
    exact ⟨by rw [HE.out]; rfl, hb⟩
  · have hd : decide (l ≤ (o : Int)) = false := decide_eq_false hq
    have HE : Hid (clrZ l o = l - 1 - (o : Int)) := Lib.hid (if_neg hq)
    have x1 : IntKind.i64.wrap (l - 1) = l - 1 := by rw [IntKind.wrap_i64]; omega
    have x2 : IntKind.i64.wrap (l - 1 - (o : Int)) = l - 1 - (o : Int) := by rw [IntKind.wrap_i64]; omega
    go_enter Tryz.func17, Tryz.ntmps17
    go_wp2_with fail
    refine HO1.out.mono ?_
    rintro e w1 ⟨rfl, hb⟩
    have HO2 := Lib.hid (HO.out w1 hb)
    have HB := Lib.hid hb
    clear HO HO1 hb
    go_wp2_with fail
    refine HO2.out.mono ?_
    rintro e w2 ⟨rfl, hb2⟩
    have HB2 := Lib.hid (HB.out.trans (hb2.mono HB.out.size))
    clear hb2 HO2
    go_wp2
    go_ret
    exact ⟨by rw [HE.out]; rfl, HB2.out⟩
end Go.Proofs.YtjmlabggocfikaaGreat

namespace Go.Proofs.YtjmlabggocfikaaGreat
open Go.RowKit

set_option maxHeartbeats 1000000 in
theorem lkout_any {w : World} {k q : Option Addr} {F : List (Nat × Nat)} (h : HasLk w k q F) (s : Int) : Calls Tryz.prog 67 #[.pointer k, .int .i64 s] w fun e w' => e = .returned (.tuple #[.int .i64 ((flOf F s).2 : Int), .bool (decide (0 < (flOf F s).2))]) ∧ Below w.heap.size w w' := by
  have HO := Lib.hid (lkof_any h s)
  have hf := flOf_fit h s
  generalize flOf F s = r at *
  obtain ⟨_, h1⟩ := hf
  have FD := flfield1 (.int .i32 (r.1 : Int)) (.int .i32 (r.2 : Int))
  have hw : IntKind.i64.wrap (r.2 : Int) = (r.2 : Int) := by rw [IntKind.wrap_i64]; omega
  clear h
  go_enter Tryz.func67, Tryz.ntmps67
  go_wp2_with fail
  refine HO.out.mono ?_
  rintro e w' ⟨rfl, hb⟩
  unfold flV
  go_wp2
  go_ret2
  exact ⟨rfl, hb⟩
end Go.Proofs.YtjmlabggocfikaaGreat

namespace Go.Proofs.YtjmlabggocfikaaGreat
open Go.RowKit

/-- slices.Sort at a slice of the call's own. -/
theorem sorti_own {base : Nat} (v : Value) (zs : List Int) (w : World) (hl : zs.length ≤ 1000000000) (hown : w.ownsRow base 3 1 v zs.length (inCells zs)) :
    Calls Tryz.prog 69 #[v] w fun e w' => e = .returned (.tuple #[]) ∧ w'.ownsRow base 3 1 v zs.length (inCells (zs.mergeSort fun x y => decide (x ≤ y))) ∧ w.grownBy w' v.ownBlock := by
  rcases hown.2 with ⟨rfl, h0⟩ | ⟨g, cap, cur, rfl, hbase, hb, h1, h2, h3, h4⟩
  · obtain rfl : zs = [] := List.eq_nil_of_length_eq_zero h0
    refine (Tryz.slices_Sort_int_none none 0 w).mono ?_
    rintro e w' ⟨rfl, rfl⟩
    exact ⟨rfl, by rw [List.mergeSort_nil]; exact hown, ⟨rfl, rfl, rfl, Nat.le_refl _, fun _ _ _ => rfl⟩⟩
  · have hlt : g < w.heap.size := (Array.getElem?_eq_some_iff.1 hb).1
    refine (Tryz.slices_Sort_int g 0 cap zs w (holds_of_block_i hb (by rw [Nat.mul_one] at h4; exact h4)) hlt (by omega)).mono ?_
    rintro e w' ⟨rfl, n, os, rfl⟩
    exact ⟨rfl, ownsRow_sorted_i (List.length_mergeSort _) hbase hb h1 h2 h3, grownBy_sorted_i _⟩

theorem pats_some {w : World} {p : Option Addr} {us : List (List UInt8)} (h : IsPats w p us) : [] ∉ us := by
  rcases h with ⟨_, rfl⟩ | ⟨b, _, _, h⟩
  · simp
  · intro hm
    have := (h.each _ hm).1
    simp at this
theorem tl_few (U : List (List UInt8)) : ∀ q : List UInt8, (tlL U q).length ≤ q.length
  | [] => Nat.le_refl _
  | c :: q => by
    have := tl_few U q
    unfold tlL
    split <;> simp only [List.length_cons] <;> omega
theorem nu_length (us l : List (List UInt8)) : (nuL us l).length = l.length := List.length_map _
theorem nu_snoc (us l : List (List UInt8)) (t : List UInt8) : nuL us (l ++ [t]) = nuL us l ++ [(frL us t : Int)] := by simp [nuL]

set_option maxHeartbeats 2000000 in
theorem lkhits_out {w : World} {k q p : Option Addr} {F : List (Nat × Nat)} {R : List Rc} (h : HasLk w k q F) (ht : HasTr w q p R) (he : R.length = F.length) (s : Int) (hs : s < 0 ∨ (F.length : Int) ≤ s) :
    Calls Tryz.prog 44 #[.pointer k, .int .i64 s] w fun e w' => e = .returned (.slice none 0 0) ∧ Below w.heap.size w w' := by
  have HT := Lib.hid (lktrie_any h)
  have HE := Lib.hid (trends_out ht s (by rw [he]; exact hs))
  have HO := Lib.hid (lkout_any h s)
  rw [flOf_out hs] at HO
  have HS := Lib.hid (fun W => Tryz.slices_Sort_int_none none 0 W)
  clear h ht he hs
  go_enter Tryz.func44, Tryz.ntmps44
  go_wp2
  go_loopg [1, 5, 6] 1 (fun g x y z wr => (g = 1 ∧ x = .int .i64 s ∧ y = .slice none 0 0 ∧ z = .bool true ∧ wr = w) ∨ (g = 0 ∧ y = .slice none 0 0 ∧ z = .bool false ∧ Below w.heap.size w wr))
  case atStart => exact .inl ⟨rfl, rfl, rfl, rfl, rfl⟩
  case round =>
    rcases hrel with ⟨rfl, rfl, rfl, rfl, rfl⟩ | ⟨rfl, rfl, rfl, hb⟩
    · go_wp2_with fail
      refine HT.out.mono ?_
      rintro e w' ⟨rfl, hw'⟩
      obtain rfl := hw'.symm
      clear hw' HT
      go_wp2_with fail
      refine HE.out.mono ?_
      rintro e w' ⟨rfl, hw'⟩
      obtain rfl := hw'.symm
      clear hw' HE
      go_wp2_with fail
      refine HO.out.mono ?_
      rintro e w' ⟨rfl, hb⟩
      clear HO
      go_wp2
      go_roundg 0
      case measure => omega
      case rel => exact .inr ⟨rfl, rfl, rfl, hb⟩
    · clear HT HE HO
      go_wp2_with fail
      refine (HS.out _).mono ?_
      rintro e w' ⟨rfl, rfl⟩
      go_wp2
      go_ret
      exact ⟨rfl, hb⟩

/-- What stands while a state's hits are gone through. -/
def HitSt (us S : List (List UInt8)) (s : List UInt8) (w0 : World) (g : Nat) (x y z : Value) (w : World) : Prop :=
  ∃ D : List (List UInt8), w.ownsRow w0.heap.size 3 1 y (nuL us D).length (inCells (nuL us D)) ∧ Below w0.heap.size w0 w ∧
    ((∃ (j : Nat) (t : List UInt8), x = .int .i64 (j : Int) ∧ z = .bool true ∧ S[j]? = some t ∧ tlL us s = D ++ tlL us t ∧ g = t.length + 1) ∨ (∃ j : Nat, x = .int .i64 (j : Int) ∧ z = .bool false ∧ tlL us s = D ∧ g = 0))

set_option maxRecDepth 100000 in
set_option maxHeartbeats 4000000 in
theorem lkhits_in {w : World} {k q p : Option Addr} {us S : List (List UInt8)} {F : List (Nat × Nat)} (h : IsLink w k q p us S S.length F) (hp : IsPats w p us) (hn : us.Nodup) (i : Nat) {s : List UInt8} (hs : S[i]? = some s) :
    Calls Tryz.prog 44 #[.pointer k, .int .i64 (i : Int)] w (RetN (hsL us s) w) := by
  obtain ⟨i0, hi, hz0, hz1, hz2⟩ := info_parts int_info
  obtain ⟨hep, hlp, htp⟩ := pats_each hp
  have hsl : s.length ≤ 65535 := by
    rcases (h.tr.st.2 s).1 (List.mem_of_getElem? hs) with rfl | hb
    · simp
    · obtain ⟨t, ht, hpr⟩ := beg_iff.1 hb
      have := hep t ht
      have := hpr.length_le
      omega
  have hne := pats_some hp
  have HSort := Lib.hid (nu_sorts (fun t ht e => by subst e; exact hne ht) hn (fun t ht => ends_at h.asc ht) s)
  have HH := Lib.hid h
  have HS := Lib.hid hs
  have HNE := Lib.hid hne
  have hfew := tl_few us s
  clear h hp hn hs hep hlp htp hne
  go_enter Tryz.func44, Tryz.ntmps44
  go_wp2
  go_loopg [1, 5, 6] (s.length + 1) (fun g x y z wr => Hid (HitSt us S s w g x y z wr))
  case atStart => exact Lib.hid ⟨[], World.ownsRow_nil _ _ _ _, Below.refl _ _, .inl ⟨i, s, rfl, rfl, HS.out, rfl, rfl⟩⟩
  case round =>
    obtain ⟨D, hown, hbe, ⟨j, t, rfl, rfl, hj, htl, rfl⟩ | ⟨j, rfl, rfl, htl, rfl⟩⟩ := hrel.out
    · clear hrel
      have hI := HH.out.below hbe
      have hsz := hbe.size
      obtain ⟨a1, b1, hF, _, hb⟩ := HH.out.ok.at_ j t (List.getElem?_eq_some_iff.1 hj).1 hj
      have HT := Lib.hid (lktrie_any hI.has)
      have HE := Lib.hid (ts_ends hI.tr hI.asc j hj)
      have HO := Lib.hid (fun W (hb : Below w.heap.size w W) => lkout_any (HH.out.below hb).has (j : Int))
      rw [flOf_in hF] at HO
      have hz := HH.out.zero hb
      have hat := tl_at HNE.out t
      obtain ⟨a2, cap2, rfl⟩ := owns_slice hown
      have hDl : (nuL us D).length ≤ 65535 := by
        rw [nu_length]
        have := congrArg List.length htl
        rw [List.length_append] at this
        omega
      have hless : t ≠ [] → (fbL us t).length < t.length := fb_less
      have HA := Lib.hid hat
      have HL := Lib.hid hless
      have HTL := Lib.hid htl
      have HB := Lib.hid hb
      have HZ := Lib.hid hz
      have HD := Lib.hid hbe
      clear hI hF hj hat hless htl hb hz hbe
      by_cases hu : t ∈ us
      · go_wp2_with fail
        refine HT.out.mono ?_
        rintro e w' ⟨rfl, hw'⟩
        obtain rfl := hw'.symm
        clear hw' HT
        go_wp2_with fail
        refine HE.out.mono ?_
        rintro e w2 ⟨⟨h1, _⟩, hb2⟩
        obtain rfl := h1 hu
        have hown2 := tx_below hown hb2
        have d2 := HD.out.trans (hb2.mono hsz)
        have s2 := d2.size
        have htl3 : tlL us s = (D ++ [t]) ++ tlL us (fbL us t) := by rw [HTL.out, HA.out, if_pos hu, List.append_assoc]
        clear h1 hb2 HE hown
        go_wp2_with (at_builtin; refine wpList_append_own _ rfl _ _ 42 rfl w.heap.size 3 i0 (.int .i64 0) 1 8 Tryz.underlying42 hi hz0 hz1 hz2 rfl (by decide) _ _ _ rfl (hown2.alloc _) ⟨w2.heap.size, 0, none⟩ 1 1 [.int .i64 (frL us t : Int)] rfl rfl (int_news (heap_alloc_new _ _)) int_one (by unfold maxLen; omega) (by omega) (by simp; omega) ?_)
        intro v3 w3 hown3 hgrow3 _
        have d3 : Below w.heap.size w w3 := own_below d2 hown2 (Nat.le_refl _) hgrow3
        rw [← inCells_snoc, ← nu_snoc, show (nuL us D).length + 1 = (nuL us (D ++ [t])).length by rw [nu_length, nu_length]; simp] at hown3
        clear hgrow3 hown2 d2 s2 hDl
        have HO3 := Lib.hid (HO.out w3 d3)
        have s3 := d3.size
        have HE3 := Lib.hid htl3
        have HW3 := Lib.hid hown3
        clear HO htl3 hown3
        go_wp2_with fail
        refine HO3.out.mono ?_
        rintro e w4 ⟨rfl, hb4⟩
        have d4 := d3.trans (hb4.mono s3)
        have hown4 := tx_below HW3.out hb4
        by_cases hb0 : b1 = 0
        · have ef := HZ.out.1 hb0
          have hE : Hid (HitSt us S s w 0 (.int .i64 (b1 : Int)) v3 (.bool false) w4) := Lib.hid ⟨_, hown4, d4, .inr ⟨b1, rfl, rfl, by rw [HE3.out, ef]; exact List.append_nil _, rfl⟩⟩
          have hdec : decide (0 < b1) = false := decide_eq_false (by omega)
          clear HZ HB hown4 d4 hb4 HE3 HW3 HO3 d3
          rw [hdec]
          clear hdec hb0
          go_wp2
          go_roundg 0
          case measure => omega
          case rel => exact hE
        · have ef : fbL us t ≠ [] := fun e => hb0 (HZ.out.2 e)
          have et : t ≠ [] := fun e => ef (by rw [e]; rfl)
          have hE : Hid (HitSt us S s w ((fbL us t).length + 1) (.int .i64 (b1 : Int)) v3 (.bool true) w4) := Lib.hid ⟨_, hown4, d4, .inl ⟨b1, _, rfl, rfl, HB.out, HE3.out, rfl⟩⟩
          have hlt := HL.out et
          have hdec : decide (0 < b1) = true := decide_eq_true (by omega)
          clear HZ HB hown4 d4 hb4 HE3 HW3 HO3 d3
          rw [hdec]
          clear hdec hb0
          go_wp2
          go_roundg ((fbL us t).length + 1)
          case measure => omega
          case rel => exact hE
      · go_wp2_with fail
        refine HT.out.mono ?_
        rintro e w' ⟨rfl, hw'⟩
        obtain rfl := hw'.symm
        clear hw' HT
        go_wp2_with fail
        refine HE.out.mono ?_
        rintro e w3 ⟨⟨_, h1⟩, hb2⟩
        obtain rfl := h1 hu
        have hown3 := tx_below hown hb2
        have d3 := HD.out.trans (hb2.mono hsz)
        have htl3 : tlL us s = D ++ tlL us (fbL us t) := by rw [HTL.out, HA.out, if_neg hu, List.nil_append]
        clear h1 hb2 HE hown hDl
        generalize hv3 : Value.slice a2 (nuL us D).length cap2 = v3 at hown3
        have HO3 := Lib.hid (HO.out w3 d3)
        have s3 := d3.size
        have HE3 := Lib.hid htl3
        have HW3 := Lib.hid hown3
        clear HO htl3 hown3
        go_wp2_with fail
        refine HO3.out.mono ?_
        rintro e w4 ⟨rfl, hb4⟩
        have d4 := d3.trans (hb4.mono s3)
        have hown4 := tx_below HW3.out hb4
        by_cases hb0 : b1 = 0
        · have ef := HZ.out.1 hb0
          have hE : Hid (HitSt us S s w 0 (.int .i64 (b1 : Int)) v3 (.bool false) w4) := Lib.hid ⟨_, hown4, d4, .inr ⟨b1, rfl, rfl, by rw [HE3.out, ef]; exact List.append_nil _, rfl⟩⟩
          have hdec : decide (0 < b1) = false := decide_eq_false (by omega)
          clear HZ HB hown4 d4 hb4 HE3 HW3 HO3 d3
          rw [hdec]
          clear hdec hb0
          go_wp2
          go_roundg 0
          case measure => omega
          case rel => exact hE
        · have ef : fbL us t ≠ [] := fun e => hb0 (HZ.out.2 e)
          have et : t ≠ [] := fun e => ef (by rw [e]; rfl)
          have hE : Hid (HitSt us S s w ((fbL us t).length + 1) (.int .i64 (b1 : Int)) v3 (.bool true) w4) := Lib.hid ⟨_, hown4, d4, .inl ⟨b1, _, rfl, rfl, HB.out, HE3.out, rfl⟩⟩
          have hlt := HL.out et
          have hdec : decide (0 < b1) = true := decide_eq_true (by omega)
          clear HZ HB hown4 d4 hb4 HE3 HW3 HO3 d3
          rw [hdec]
          clear hdec hb0
          go_wp2
          go_roundg ((fbL us t).length + 1)
          case measure => omega
          case rel => exact hE
    · clear hrel
      subst htl
      have HSo := Lib.hid (sorti_own u5 (nuL us (tlL us s)) wr (by rw [nu_length]; omega) hown)
      have HB := Lib.hid (fun (W : World) (hg : wr.grownBy W u5.ownBlock) => hbe.grown hg hbe.size (fun k hk => (hown.lt k hk).1))
      rw [HSort.out] at HSo
      have HLn := Lib.hid (show (nuL us (tlL us s)).length = (hsL us s).length by rw [← HSort.out, List.length_mergeSort])
      clear hown hbe
      go_wp2_with fail
      refine HSo.out.mono ?_
      rintro e w2 ⟨rfl, hown2, hg⟩
      have d2 := HB.out _ hg
      rw [HLn.out] at hown2
      clear hg HB HSo
      have HO := Lib.hid hown2
      clear hown2
      go_wp2
      go_ret
      exact ⟨_, rfl, HO.out, d2⟩
end Go.Proofs.YtjmlabggocfikaaGreat

namespace Go.Proofs.YtjmlabggocfikaaGreat
open Go.RowKit

theorem lks_hitsz {w : World} {k q p : Option Addr} {us S : List (List UInt8)} {F : List (Nat × Nat)} (h : IsLink w k q p us S S.length F) (s : Int) :
    Calls Tryz.prog 44 #[.pointer k, .int .i64 s] w (RetN (auH us S s) w) := by
  obtain ⟨R, h1, h2, _, hp⟩ := h.tr
  rcases au_in_out S s with ⟨i, rfl, t, ht⟩ | hs
  · rw [auH_in ht]
    exact lkhits_in h hp (pats_nodup hp) i ht
  · rw [auH_out hs]
    refine (lkhits_out h.has h1 (by rw [h2.1, h.flen]) s (by rw [h.flen]; exact hs)).mono ?_
    rintro e w' ⟨rfl, hb⟩
    exact ⟨_, rfl, World.ownsRow_nil _ _ _ _, hb⟩

theorem auhits_any {w : World} {p y : Option Addr} {us S : List (List UInt8)} {kind : Int} (h : IsAuto w p y us S kind) (s : Int) : Calls Tryz.prog 28 #[.pointer p, .int .i64 s] w (RetN (auH us S s) w) := by
  obtain ⟨k, q, F, h1, h2⟩ := aufalls_any h
  have HF := Lib.hid h2
  have HL := Lib.hid (lks_hitsz h1 s)
  clear h h1 h2
  go_enter Tryz.func28, Tryz.ntmps28
  go_wp2_with fail
  refine HF.out.mono ?_
  rintro e w' ⟨rfl, rfl⟩
  go_wp2_with fail
  refine HL.out.mono ?_
  rintro e w' ⟨v, rfl, ho, hb⟩
  obtain ⟨a, cap, rfl⟩ := owns_slice ho
  go_wp2
  go_ret
  exact ⟨_, rfl, ho, hb⟩
theorem auhits_nil (s : Int) (w : World) : Calls Tryz.prog 28 #[.pointer none, .int .i64 s] w fun e w' => e = .returned (.slice none 0 0) ∧ Below w.heap.size w w' := by
  have HF := Lib.hid (aufalls_nil w)
  have HL := Lib.hid (lkhits_out (HasLk.nil w) (p := none) (R := []) (.inl ⟨rfl, rfl⟩) rfl s (by simp; omega))
  go_enter Tryz.func28, Tryz.ntmps28
  go_wp2_with fail
  refine HF.out.mono ?_
  rintro e w' ⟨rfl, rfl⟩
  go_wp2_with fail
  refine HL.out.mono ?_
  rintro e w' ⟨rfl, hb⟩
  go_wp2
  go_ret
  exact ⟨rfl, hb⟩

end Go.Proofs.YtjmlabggocfikaaGreat

namespace Go.Proofs.YtjmlabggocfikaaGreat
open Go.RowKit

/-- A slice that holds these hits. -/
def IsHits (w : World) (a : Option Addr) (len : Nat) (hs : List Ht) : Prop :=
  hs.length = len ∧ (len = 0 ∨ ∃ b off, a = some ⟨b, off, none⟩ ∧ ∀ i (h : i < hs.length), w.cell? ⟨b, off + i * 2, none⟩ = some (.int .i64 (hs[i]'h).1) ∧ w.cell? ⟨b, off + i * 2 + 1, none⟩ = some (.int .i64 (hs[i]'h).2))

theorem IsHits.below {w w' : World} {a : Option Addr} {len : Nat} {hs : List Ht} (h : IsHits w a len hs) (hb : Below w.heap.size w w') : IsHits w' a len hs := by
  obtain ⟨hl, h⟩ := h
  refine ⟨hl, ?_⟩
  rcases h with h | ⟨b, off, ha, hc⟩
  · exact .inl h
  · refine .inr ⟨b, off, ha, fun i hi => ?_⟩
    obtain ⟨h1, h2⟩ := hc i hi
    rw [hb.cell (p := ⟨b, off + i * 2, none⟩) (World.block_lt_of_cell? w _ h1), hb.cell (p := ⟨b, off + i * 2 + 1, none⟩) (World.block_lt_of_cell? w _ h2)]
    exact ⟨h1, h2⟩

/-- One of them: where it lies. -/
theorem hit_at {w wr : World} {a : Option Addr} {len : Nat} {hs : List Ht} (h : IsHits w a len hs) (hb : Below w.heap.size w wr) (k : Nat) (hk : k < len) :
    ∃ b off, a = some ⟨b, off, none⟩ ∧ ∃ x : Ht, hs[k]? = some x ∧ wr.cell? ⟨b, off + k * 2, none⟩ = some (.int .i64 x.1) ∧ wr.cell? ⟨b, off + k * 2 + 1, none⟩ = some (.int .i64 x.2) := by
  obtain ⟨hl, h⟩ := h.below hb
  rcases h with h | ⟨b, off, ha, hc⟩
  · omega
  · have hkl : k < hs.length := by omega
    obtain ⟨h1, h2⟩ := hc k hkl
    exact ⟨b, off, ha, hs[k], List.getElem?_eq_getElem hkl, h1, h2⟩
theorem hit_lt {w : World} {b off len k : Nat} {hs : List Ht} (h : IsHits w (some ⟨b, off, none⟩) len hs) (hk : k < len) : b < w.heap.size := by
  obtain ⟨b', off', ha, x, _, h1, _⟩ := hit_at h (Below.refl _ _) k hk
  cases ha
  exact World.block_lt_of_cell? w _ h1

/-- The cells of hits. -/
def hiCells (hs : List Ht) : List Value := hs.flatMap fun h => [.int .i64 h.1, .int .i64 h.2]
theorem hiCells_snoc (hs : List Ht) (h : Ht) : hiCells (hs ++ [h]) = hiCells hs ++ [.int .i64 h.1, .int .i64 h.2] := by simp [hiCells]
theorem hiCells_length : ∀ hs : List Ht, (hiCells hs).length = hs.length * 2
  | [] => rfl
  | h :: r => by
    have ih := hiCells_length r
    have e : hiCells (h :: r) = .int .i64 h.1 :: .int .i64 h.2 :: hiCells r := by simp [hiCells]
    rw [e]; simp only [List.length_cons, ih]; omega
theorem hiCells_at : ∀ (hs : List Ht) (i : Nat) (h : i < hs.length), (hiCells hs)[i * 2]? = some (.int .i64 (hs[i]'h).1) ∧ (hiCells hs)[i * 2 + 1]? = some (.int .i64 (hs[i]'h).2)
  | f :: r, 0, _ => by simp [hiCells]
  | f :: r, i + 1, h => by
    have ih := hiCells_at r i (by simpa using h)
    have e : hiCells (f :: r) = .int .i64 f.1 :: .int .i64 f.2 :: hiCells r := by simp [hiCells]
    rw [e, show (i + 1) * 2 = i * 2 + 1 + 1 by omega]
    simpa using ih

theorem owns_hits {w : World} {base : Nat} {e : TypeId} {v : Value} {n : Nat} {hs : List Ht} (h : w.ownsRow base e 2 v n (hiCells hs)) (hn : hs.length = n) :
    ∃ ao cap, v = .slice ao n cap ∧ IsHits w ao n hs := by
  rcases h.2 with ⟨hv, h0⟩ | ⟨g, cap, cur, hv, _⟩
  · have h0' : n = 0 := h0
    subst h0'
    exact ⟨none, 0, hv, hn, .inl rfl⟩
  · refine ⟨some ⟨g, 0, none⟩, cap, hv, hn, .inr ⟨g, 0, rfl, fun i hi => ?_⟩⟩
    have hc := h.cells (g := g) (by rw [hv]; rfl)
    obtain ⟨h1, h2⟩ := hiCells_at hs i hi
    have c1 := hc _ _ h1
    have c2 := hc _ _ h2
    rw [addPlain] at c1 c2
    simpa using And.intro c1 c2

/-- A hit's two cells, in a block of their own. -/
theorem hit_news {w : World} {X : Nat} {T : TypeId} {u v : Value} (h : w.heap[X]? = some (.cells #[u, v] T (0, 0))) : ∀ j x, [u, v][j]? = some x → w.cell? ((⟨X, 0, none⟩ : Addr).add j) = some x := by
  intro j x hj
  match j, hj with
  | 0, hj => simp at hj; subst hj; simp [Addr.add, World.cell?, h]
  | 1, hj => simp at hj; subst hj; simp [Addr.add, World.cell?, h]
theorem hit_one {k d : Int} : ∀ x ∈ [Value.int .i64 k, .int .i64 d], x.oneCell' = true := by
  intro x hx
  simp at hx
  rcases hx with rfl | rfl <;> rfl
theorem hit_info : (Tryz.prog.info? 48).map (fun i => (i.zero, i.size, i.bytes)) = some (some (.agg #[.int .i64 0, .int .i64 0]), 2, 16) := by kernel_rfl

/-- Hits in one block of their own. -/
theorem hits_heap {w : World} {g n : Nat} {hs : List Ht} {T : TypeId} (h : w.heap[g]? = some (.cells (hiCells hs).toArray T (0, 0))) (hn : hs.length = n) : IsHits w (some ⟨g, 0, none⟩) n hs := by
  refine ⟨hn, .inr ⟨g, 0, rfl, fun i hi => ?_⟩⟩
  obtain ⟨h1, h2⟩ := hiCells_at hs i hi
  rw [Nat.zero_add, Lib.cell_of_heap h, Lib.cell_of_heap h]
  simp [h1, h2]

/-- A list of hits, as an answer: owned. -/
def RetH (hs : List Ht) (w : World) (e : Ending) (w' : World) : Prop := ∃ (v : Value), e = .returned v ∧ w'.ownsRow w.heap.size 48 2 v hs.length (hiCells hs) ∧ Below w.heap.size w w'
/-- .. to be read. -/
def RetG (hs : List Ht) (w : World) (e : Ending) (w' : World) : Prop := ∃ (a : Option Addr) (cap : Nat), e = .returned (.slice a hs.length cap) ∧ IsHits w' a hs.length hs ∧ Below w.heap.size w w'
theorem RetH.use {hs : List Ht} {w w' : World} {e : Ending} (h : RetH hs w e w') : RetG hs w e w' := by
  obtain ⟨v, rfl, hown, hb⟩ := h
  obtain ⟨ao, cap, rfl, hh⟩ := owns_hits hown rfl
  exact ⟨ao, cap, rfl, hh, hb⟩

/-- Two hits are one, as the model compares them. -/
theorem run_eq_hit (a b c d : Int) (w : World) : Sem.run Tryz.prog (binOp .eql 48 (.agg #[.int .i64 a, .int .i64 b]) (.agg #[.int .i64 c, .int .i64 d])) w = .ok (.bool (decide ((a, b) = (c, d)))) w := by
  have u3 := Tryz.underlying3
  have a3 := Tryz.isAgg3
  have z3 := Tryz.sizeOf3
  have hS : Tryz.prog.underlying 48 = some (.struct (Tryz.prog.fieldsOf 48)) := by kernel_rfl
  have hp : Tryz.prog.stoodInHeld 48 = false := by kernel_rfl
  rw [run_eql_struct, show (10000 : Nat) = 9999 + 1 from rfl, run_equalIn_agg w 9999 48 _ _ hS hp]
  simp only [Program.fieldsOf, Tryz.underlying48]
  go_simp
  by_cases h1 : a = c <;> by_cases h2 : b = d <;> simp [h1, h2]
end Go.Proofs.YtjmlabggocfikaaGreat

namespace Go.Proofs.YtjmlabggocfikaaGreat
open Go.RowKit

theorem Other.grown {w w' : World} {o : Obj} {base size n : Nat} {e : TypeId} {v : Value} {xs : List Value} (hown : w.ownsRow base e size v n xs) (hg : (w.alloc o).grownBy w' v.ownBlock) : Other e w w' := fun k cs U m hU hk => by
  have hlt := lt_of_heap hk
  have hne : v.ownBlock ≠ some k := fun h => by
    rcases hown.2 with ⟨rfl, _⟩ | ⟨g, cap, cur, rfl, _, hh, _⟩
    · simp [Value.ownBlock] at h
    · simp only [Value.ownBlock, Option.some.injEq] at h
      subst h
      rw [hk] at hh
      injection hh with hh
      injection hh with h1 h2 h3
      exact hU h2
  rw [hg.block k (by simp; omega) (fun e => hne e.symm), Lib.alloc_old _ _ k hlt]
  exact hk
theorem But.grown {b : Nat} {w0 w w' : World} {o : Obj} {size n : Nat} {e : TypeId} {v : Value} {xs : List Value} (hb : But w0.heap.size b w0 w) (hown : w.ownsRow w0.heap.size e size v n xs) (hg : (w.alloc o).grownBy w' v.ownBlock) : But w0.heap.size b w0 w' :=
  hb.trans ⟨hg.os, hg.tape, hg.output, Nat.le_trans (by simp) hg.size, fun i hi _ => by
    rw [hg.block i (by have := hb.size; simp; omega) (fun e => by have := (hown.lt i e.symm).1; omega), Lib.alloc_old _ _ i (by have := hb.size; omega)]⟩
theorem But.put {base b : Nat} {w0 w : World} (hb : But base b w0 w) (i : Nat) (u : Value) : But base b w0 (w.setCell ⟨b, i, none⟩ u) :=
  hb.trans ⟨rfl, rfl, rfl, by simp [World.setCell], fun k _ hk => put_other hk u⟩
theorem But.more {b : Nat} {w0 w w' : World} (hb : But w0.heap.size b w0 w) (h : Below w.heap.size w w') : But w0.heap.size b w0 w' := hb.trans (But.of (h.mono hb.size))

/-- One number of an own slice: where it lies. -/
theorem int_at {w : World} {base n cap j : Nat} {a : Option Addr} {zs : List Int} (h : w.ownsRow base 3 1 (.slice a n cap) n (inCells zs)) (hn : zs.length = n) (hj : j < n) :
    ∃ g off, a = some ⟨g, off, none⟩ ∧ ∃ x, zs[j]? = some x ∧ w.cell? ⟨g, off + j, none⟩ = some (.int .i64 x) := by
  obtain ⟨g, cap', _, _, he⟩ := owns_some h (by omega)
  have hc := h.cells (g := g) (by rw [he]; rfl)
  simp only [Value.slice.injEq] at he
  refine ⟨g, 0, he.1, zs[j]'(by omega), List.getElem?_eq_getElem (by omega), ?_⟩
  have := hc j (.int .i64 (zs[j]'(by omega))) (by simp [inCells, List.getElem?_eq_getElem (show j < zs.length by omega)])
  rw [addPlain] at this
  simpa using this
end Go.Proofs.YtjmlabggocfikaaGreat
