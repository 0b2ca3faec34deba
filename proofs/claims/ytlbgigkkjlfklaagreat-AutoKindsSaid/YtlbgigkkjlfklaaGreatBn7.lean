/-
  Texts put together: DnFi, ClT, ByT, Arr, ClN, ClNs, DnN, OthD, OthT, SpM, SpW, OthS, SpT.
-/
import Derived.Test.YtlbgigkkjlfklaaGreatBn6
import Derived.Test.YtlbgigkkjlfklaaGreatBn3
import Derived.Test.YtlbgigkkjlfklaaGreatBn2
import Derived.Deep.WholeRow
import Derived.Lib.Builder
import Derived.Laws.IdiomStrings
import Derived.Laws.Tables
import Derived.WalkKit
import Derived.Test.YtlbgigkkjlfklaaGreatBn4
import Derived.Laws.Rows
import Derived.Laws.MakeOwn
import Derived.Laws.OwnMore
import Derived.Lib.Hide
import Derived.Lib.MinMax
set_option linter.unusedSimpArgs false
set_option linter.unusedVariables false
namespace Go.Proofs.YtlbgigkkjlfklaaGreat
open Go.RowKit

theorem kids_few (us : List (List UInt8)) (q : List UInt8) : (kidsL us q).length ≤ 256 := Nat.le_trans (List.length_filter_le _ _) (by unfold bytU; simp)
/-- Of the first m states the rows are known; all others hold nothing. -/
structure RwOk (us S : List (List UInt8)) (W m : Nat) (L : List Nat) : Prop where
  known : ∀ j t, j < m → S[j]? = some t → seg L W j = rwF us S t
  zero : ∀ j, m ≤ j → j < S.length → seg L W j = List.replicate W 0

set_option maxRecDepth 100000 in
set_option maxHeartbeats 8000000 in
theorem dnfill_any {w0 w : World} {b g : Nat} {pc k q p : Option Addr} {us S : List (List UInt8)} {Fl : List (Nat × Nat)} {W : Nat} {L : List Nat}
    (hL : IsLink w0 k q p us S S.length Fl) (hC : HasCls w0 pc (ofC us) (bcK us 256) W) (hW : W = (bcK us 256).length + 1) (hb : Below w0.heap.size w0 w) (hg : w0.heap.size ≤ g) (hbb : w0.heap.size ≤ b)
    (hT : IsTb w b g pc S.length W L) (i : Nat) {s : List UInt8} (hs : S[i]? = some s) (hR : RwOk us S W i L) :
    Calls Tryz.prog 40 #[.pointer (some ⟨b, 0, none⟩), .pointer k, .int .i64 (i : Int)] w fun e w' => e = .returned (.tuple #[]) ∧ ∃ L', IsTb w' b g pc S.length W L' ∧ RwOk us S W (i + 1) L' ∧ Below w0.heap.size w0 w' := by
  have hil := (List.getElem?_eq_some_iff.1 hs).1
  have hst := hL.tr.st
  have hnd := slx_nodup hst.1
  have hroot := hL.root
  have h0 := hL.mem
  have hfew := hL.tr.few.2.2
  have hcb : (bcK us 256).length ≤ 1000 := by have := bc_length us 256; omega
  obtain ⟨x, y, hF, hx, _⟩ := hL.ok.at_ i s hil hs
  have hxl := (List.getElem?_eq_some_iff.1 hx).1
  -- what the copied row says
  have hrow : seg L W x = rwP us S s [] := by
    by_cases e : s = []
    · subst e
      obtain rfl := rise_same hst.1 hx hroot
      obtain rfl := rise_same hst.1 hs hroot
      rw [rwP_root, ← hW]
      exact hR.zero 0 (Nat.le_refl _) hil
    · rw [rwP_fall us S e]
      exact hR.known x _ (hL.less hx hs (fb_less e)) hx
  have hsz := hb.size
  have hD : IsDn w b g pc S.length W L (ofC us) (bcK us 256) := ⟨hT, hC.below hb, hcb⟩
  have HR1 := Lib.hid (dnrow_in hD i hil)
  have HFl := Lib.hid (lkfail_any (hL.below hb).has (i : Int))
  rw [flOf_in hF] at HFl
  have HR2 := Lib.hid (fun w2 (h : Below w.heap.size w w2) => dnrow_in (hD.below h) x hxl)
  have HLk := Lib.hid hL
  have HCl := Lib.hid hC
  have HT := Lib.hid hT
  have HOk := Lib.hid hR
  have HS := Lib.hid hs
  have HROW := Lib.hid hrow
  have HB := Lib.hid hb
  have hslen : (seg L W x).length = W := seg_length hT.len hxl
  have hslc : (dnCells (seg L W x)).length = W := by rw [dnCells_length]; exact hslen
  have hin := seg_in (W := W) hil
  rw [← hT.len] at hin
  have HIN := Lib.hid hin
  have HSL := Lib.hid hslen
  have HSC := Lib.hid hslc
  have HWW := Lib.hid hW
  have hsz32 := dn32_info
  clear hL hC hW hb hT hs hR hF hx hD hrow hslen hslc hin
  go_enter Tryz.func40, Tryz.ntmps40
  go_wp2_with fail
  refine HR1.out.mono ?_
  rintro e w' ⟨rfl, hw'⟩
  obtain rfl := hw'.symm
  clear hw' HR1
  go_wp2_with fail
  refine HFl.out.mono ?_
  rintro e w2 ⟨rfl, hb2⟩
  have HR3 := Lib.hid (HR2.out w2 hb2)
  have HT2 := Lib.hid (HT.out.below hb2)
  have HB2 := Lib.hid (HB.out.trans (hb2.mono hsz))
  clear HR2 HFl hb2 HB
  go_wp2_with fail
  refine HR3.out.mono ?_
  rintro e w' ⟨rfl, hw'⟩
  obtain rfl := hw'.symm
  clear hw' HR3
  have hsrc : ∀ j v, (dnCells (seg L W x))[j]? = some v → w2.cell? ((⟨g, x * W, none⟩ : Addr).add j) = some v := fun j v hj => by
    unfold dnCells at hj
    rw [List.getElem?_map] at hj
    cases hz : (seg L W x)[j]? with
    | none => rw [hz] at hj; cases hj
    | some z =>
      rw [hz] at hj
      cases hj
      rw [addPlain]
      exact (HT2.out.seg_cell hz).2.2
  have HSRC := Lib.hid hsrc
  clear hsrc
  go_wp2_with (refine wpList_copy_into rfl (.tmp 14) (.tmp 19) 61 61 rfl 21 Tryz.underlying61 hsz32 g (i * W) W W ⟨g, x * W, none⟩ W W rfl rfl (dnCells L) 21 HT2.out.row (dnCells (seg L W x)) (by rw [HSC.out]; exact (Nat.min_self W).symm) HSRC.out (by rw [HSC.out, dnCells_length]; exact HIN.out) (dnOne _) ?_)
  intro w3 hI3 hrow3
  have HT3 := Lib.hid (HT2.out.lay hil HSL.out (fun z hz => HT.out.fit z (seg_mem hz)) hI3 hrow3.out)
  have HB3 : Hid (Below w0.heap.size w0 w3) := Lib.hid (HB2.out.trans ⟨hI3.os, hI3.tape, hI3.output, Nat.le_of_eq hI3.size.symm, fun k hk => hI3.block k (by omega)⟩)
  have HZ3 : Hid (seg (splice L (i * W) (seg L W x)) W i = rwP us S s []) := Lib.hid (by
    rw [seg_splice_same HT.out.len hil HSL.out]; exact HROW.out)
  have HO3 : Hid (∀ j, j ≠ i → seg (splice L (i * W) (seg L W x)) W j = seg L W j) := Lib.hid (fun j hj => seg_splice_other HT.out.len hil HSL.out (Ne.symm hj))
  clear hrow3 hI3 HSRC HSC HSL HT2 HB2 HROW HIN
  generalize splice L (i * W) (seg L W x) = L3 at *
  have hs3 := HB3.out.size
  have HTr := Lib.hid (fun (W1 : World) (h : Below w0.heap.size w0 W1) => lktrie_any (HLk.out.below h).has)
  have HBy := Lib.hid (ts_bytes (HLk.out.below HB3.out).tr i HS.out)
  go_wp2_with fail
  refine (HTr.out w3 HB3.out).mono ?_
  rintro e w' ⟨rfl, hw'⟩
  obtain rfl := hw'.symm
  clear hw'
  go_wp2_with fail
  refine HBy.out.mono ?_
  rintro e w4 ⟨rfl, hb4⟩
  have HT4 := Lib.hid (HT3.out.below hb4)
  have HB4 := Lib.hid (HB3.out.trans (hb4.mono hs3))
  clear HBy hb4 HT3 HB3 hs3
  obtain ⟨K, hK⟩ : ∃ K, kidsL us s = K := ⟨_, rfl⟩
  rw [hK]
  have hKl : K.length ≤ 256 := by rw [← hK]; exact kids_few us s
  have HK := Lib.hid hK
  clear hK
  have hcv := run_bytes_of_string (P := Tryz.prog) w4 9 97 5 ⟨K.toArray⟩ Tryz.underlying9 Tryz.underlying97 Tryz.underlying5
  rw [bsize] at hcv
  obtain ⟨cp, hcp⟩ : ∃ cp, grownCap w4 K.length 0 5 = cp := ⟨_, rfl⟩
  rw [hcp] at hcv
  have HKC : Hid (∀ j (c : UInt8), K[j]? = some c → (bytesRow ⟨K.toArray⟩ cp)[j]? = some (Value.int .u8 (c.toNat : Int))) := Lib.hid (fun j c hj => by
    obtain ⟨h1, h2⟩ := List.getElem?_eq_some_iff.1 hj
    have := bytesRow_at ⟨K.toArray⟩ cp j (by simpa using h1)
    rw [this]
    simp [h2])
  generalize bytesRow ⟨K.toArray⟩ cp = cells at *
  have hs4 := HB4.out.size
  have HX : Hid ((w4.alloc (.cells cells 5 (cells.size, cells.size + 1))).drew.heap[w4.heap.size]? = some (.cells cells 5 (cells.size, cells.size + 1))) := Lib.hid (heap_alloc_new w4 _)
  have b5 : Below w4.heap.size w4 (w4.alloc (.cells cells 5 (cells.size, cells.size + 1))).drew := ((Below.refl _ _).alloc (Nat.le_refl _) _).drew
  have HT5 := Lib.hid (HT4.out.below b5)
  have HB5 := Lib.hid (HB4.out.trans (b5.mono hs4))
  have HXG : Hid (w4.heap.size ≠ g) := Lib.hid (fun e => by have := HT4.out.ltg; omega)
  clear b5 HT4 HB4 hcp
  go_wp2_with fail
  generalize (w4.alloc (.cells cells 5 (cells.size, cells.size + 1))).drew = w5 at *
  generalize w4.heap.size = X at *
  go_loopw [27] (fun v wr => ∃ (j : Nat) (L' : List Nat), j ≤ K.length ∧ v = .int .i64 j ∧ Hid (IsTb wr b g pc S.length W L') ∧ Hid (seg L' W i = rwP us S s (K.take j)) ∧ Hid (∀ m, m ≠ i → seg L' W m = seg L W m) ∧ Hid (wr.heap[X]? = some (.cells cells 5 (cells.size, cells.size + 1))) ∧ Hid (Below w0.heap.size w0 wr)) (fun v _ => K.length - (RowKit.intOf v).toNat)
  case atStart => exact ⟨0, L3, Nat.zero_le _, rfl, HT5, HZ3, HO3, HX, HB5⟩
  case round =>
    clear HT5 HZ3 HO3 HX HB5
    obtain ⟨j, L', hj, rfl, HTj, HZj, HOj, HXj, HBj⟩ := hrel
    have hsj := HBj.out.size
    by_cases hlt : j < K.length
    · obtain ⟨c, hc⟩ : ∃ c, K[j]? = some c := ⟨_, List.getElem?_eq_getElem hlt⟩
      have c0 : wr.cell? ⟨X, j, none⟩ = some (.int .u8 (c.toNat : Int)) := by
        rw [Lib.cell_of_heap HXj.out]
        exact HKC.out j c hc
      have hck : c ∈ kidsL us s := by rw [HK.out]; exact List.mem_of_getElem? hc
      have hin : s ++ [c] ∈ S := (hst.2 _).2 (.inr (kids_mem.1 hck))
      have HN := Lib.hid (ts_next (HLk.out.below HBj.out).tr i HS.out c)
      have HTk : Hid (K.take (j + 1) = K.take j ++ [c]) := Lib.hid (by
        obtain ⟨hk', e⟩ := List.getElem?_eq_some_iff.1 hc
        rw [List.take_succ_eq_append_getElem hk', e])
      have HHas := Lib.hid (kid_has (us := us) (S := S) hck)
      have HIn := Lib.hid hin
      have g0 : (0 : Int) ≤ (j : Int) := by omega
      have g1 : (j : Int) < (K.length : Int) := by omega
      have hcl := c.toNat_lt
      clear hc hck hin
      go_wp2_with fail
      refine (HTr.out wr HBj.out).mono ?_
      rintro e w' ⟨rfl, hw'⟩
      obtain rfl := hw'.symm
      clear hw'
      go_wp2_with fail
      refine HN.out.mono ?_
      rintro e w6 ⟨⟨h1, _⟩, hb6⟩
      obtain ⟨n, rfl, hn⟩ := h1 HIn.out
      have hnl := (List.getElem?_eq_some_iff.1 hn).1
      have HE := Lib.hid (dn_is hnd (show S[n]? = some (lgL S (s ++ [c])) by rw [lg_hit HIn.out]; exact hn))
      have HT6 := Lib.hid (HTj.out.below hb6)
      have HX6 : Hid (w6.heap[X]? = some (.cells cells 5 (cells.size, cells.size + 1))) := Lib.hid ((hb6.block X (heap_lt HXj.out)).trans HXj.out)
      have HB6 := Lib.hid (HBj.out.trans (hb6.mono hsj))
      have c1 := HT6.out.reads.1
      have HO := Lib.hid (clof_any (HCl.out.below HB6.out) c.toNat hcl)
      have hkl : ofC us c.toNat < W := by rw [HWW.out]; exact of_few us c
      clear h1 hn hb6 HN HTj HXj HBj hsj
      have HSET := Lib.hid (rwP_set (S := S) (s := s) (ks := K.take j) HHas.out)
      obtain ⟨kc, hkc⟩ : ∃ kc, ofC us c.toNat = kc := ⟨_, rfl⟩
      rw [hkc] at HO hkl HSET
      clear hkc
      have HSG : Hid ((seg L' W i).length = W) := Lib.hid (seg_length HT6.out.len hil)
      obtain ⟨u, hu⟩ : ∃ u, (seg L' W i)[kc]? = some u := ⟨_, List.getElem?_eq_getElem (by rw [HSG.out]; exact hkl)⟩
      have c2 := (HT6.out.seg_cell hu).2.2
      have f2 := HT6.out.free (i * W + kc)
      have w32 : IntKind.i32.wrap (n : Int) = (n : Int) := by
        rw [IntKind.wrap_i32]; omega
      have g2 : (0 : Int) ≤ (kc : Int) := by omega
      have g3 : (kc : Int) < (W : Int) := by omega
      have HP := Lib.hid (HT6.out.put (i * W + kc) n (by omega))
      have HP1 := Lib.hid (seg_set_same HT6.out.len hil hkl n)
      have HP2 : Hid (∀ m, m ≠ i → seg (L'.set (i * W + kc) n) W m = seg L' W m) := Lib.hid (fun m hm => seg_set_other (Ne.symm hm) hkl n)
      clear hu HSG
      have HZ7 : Hid (seg (L'.set (i * W + kc) n) W i = rwP us S s (K.take (j + 1))) := Lib.hid (by
        rw [HP1.out, HZj.out, ← HE.out, HSET.out, HTk.out])
      have HO7 : Hid (∀ m, m ≠ i → seg (L'.set (i * W + kc) n) W m = seg L W m) := Lib.hid (fun m hm => (HP2.out m hm).trans (HOj.out m hm))
      have HX7 : Hid ((w6.setCell ⟨g, i * W + kc, none⟩ (.int .i32 (n : Int))).heap[X]? = some (.cells cells 5 (cells.size, cells.size + 1))) := Lib.hid ((put_other HXG.out _).trans HX6.out)
      have HB7 : Hid (Below w0.heap.size w0 (w6.setCell ⟨g, i * W + kc, none⟩ (.int .i32 (n : Int)))) := Lib.hid (HB6.out.setCell hg _)
      clear HP1 HP2 HZj HOj HSET HTk HX6 HB6 HT6 HE HHas HIn
      go_wp2_with fail
      refine HO.out.mono ?_
      rintro e w' ⟨rfl, hw'⟩
      obtain rfl := hw'.symm
      clear hw' HO
      go_wp2
      exact ⟨⟨j + 1, _, by omega, by go_num, HP, HZ7, HO7, HX7, HB7⟩, by simp [RowKit.intOf]; omega⟩
    · obtain rfl : j = K.length := by omega
      have hz : ¬ (K.length : Int) < (K.length : Int) := by omega
      have HRW : Hid (RwOk us S W (i + 1) L') := Lib.hid ⟨fun m t hm ht => by
          by_cases e : m = i
          · subst e
            obtain rfl : t = s := Option.some.inj (ht.symm.trans HS.out)
            rw [HZj.out, List.take_length, ← HK.out]
            exact rwP_all hst hnd hroot t (List.mem_of_getElem? ht)
          · rw [HOj.out m e]
            exact HOk.out.known m t (by omega) ht,
        fun m hm hl => by
          rw [HOj.out m (by omega)]
          exact HOk.out.zero m (by omega) hl⟩
      clear HZj HOj HXj HOk HKC
      go_wp2
      go_end0
      exact ⟨rfl, L', HTj.out, HRW.out, HBj.out⟩
end Go.Proofs.YtlbgigkkjlfklaaGreat

namespace Go.Proofs.YtlbgigkkjlfklaaGreat
open Go.RowKit

/-- An array that says this of each byte. -/
def SayAt (cs : Array Value) (T : Nat → Bool) : Prop := cs.size = 256 ∧ ∀ c, c < 256 → cs[c]? = some (.bool (T c))
/-- .. in block b. -/
def IsSay (w : World) (b : Nat) (T : Nat → Bool) : Prop := ∃ cs : Array Value, w.heap[b]? = some (.cells cs 99 (0, 0)) ∧ SayAt cs T
theorem IsSay.lt {w : World} {b : Nat} {T : Nat → Bool} (h : IsSay w b T) : b < w.heap.size := by
  obtain ⟨cs, h, _⟩ := h
  exact heap_lt h
theorem IsSay.heap {w W : World} {b : Nat} {T : Nat → Bool} (h : IsSay w b T) (e : W.heap = w.heap) : IsSay W b T := by
  unfold IsSay at *
  rw [e]
  exact h
theorem IsSay.congr {w : World} {b : Nat} {T U : Nat → Bool} (h : IsSay w b T) (e : ∀ c, c < 256 → T c = U c) : IsSay w b U := by
  obtain ⟨cs, h1, h2, h3⟩ := h
  exact ⟨cs, h1, h2, fun c hc => by rw [← e c hc]; exact h3 c hc⟩
theorem IsSay.put {w : World} {b c : Nat} {T : Nat → Bool} (h : IsSay w b T) (hc : c < 256) : IsSay (w.setCell ⟨b, c, none⟩ (.bool true)) b (fun d => T d || c == d) := by
  obtain ⟨cs, h1, h2, h3⟩ := h
  refine ⟨_, put_heap h1 _, by rw [Array.size_setIfInBounds]; exact h2, fun d hd => ?_⟩
  by_cases e : c = d
  · subst e
    rw [Array.getElem?_setIfInBounds_self_of_lt (by omega)]
    simp
  · rw [Array.getElem?_setIfInBounds_ne (by omega), h3 d hd]
    simp [e]
theorem IsSay.cell {w : World} {b c : Nat} {T : Nat → Bool} (h : IsSay w b T) (hc : c < 256) : w.cell? ⟨b, c, none⟩ = some (.bool (T c)) := by
  obtain ⟨cs, h1, _, h2⟩ := h
  rw [Lib.cell_of_heap h1]
  exact h2 c hc
theorem IsSay.free {w : World} {b i : Nat} {T : Nat → Bool} (h : IsSay w b T) : w.frozen? ⟨b, i, none⟩ = false := by
  obtain ⟨cs, h1, _⟩ := h
  exact Lib.frozen_of_heap h1 _

/-- One of its cells, where the array is a value. -/
theorem say_index {cs : Array Value} {T : Nat → Bool} (h : SayAt cs T) (m : Nat) (hm : m < 256) (w : World) : (Instr.index 99 (.agg cs) (.int .i64 (m : Int))).run Tryz.prog w = .ok (.bool (T m)) w := by
  have hc := h.2 m hm
  have hs := h.1
  have hn : (0 : Int) ≤ (m : Int) ∧ (m : Int) < ((256 : Nat) : Int) := by omega
  have a4 := Tryz.isAgg4
  have z4 := Tryz.sizeOf4
  simp [Instr.index, run_underlying Tryz.underlying99, asIntOf, hn, part, a4, z4, hc, go_sem]
  intro h'
  omega

/-- A new array. -/
def sayZero : Array Value := Array.replicate 256 (.bool false)
theorem say_info : (Tryz.prog.info? 99).map (fun i => (i.zero, i.size)) = some (some (.agg sayZero), 256) := by kernel_rfl
theorem say_zero : SayAt sayZero (fun _ => false) := by
  unfold sayZero
  exact ⟨Array.size_replicate .., fun c hc => by rw [Array.getElem?_replicate, if_pos hc]⟩

/-- The cells of new classes. -/
def clZero : Array Value := (List.replicate 256 (Value.int .i64 0) ++ [Value.string ByteArray.empty]).toArray
theorem cl_built : Tryz.prog.built 104 [] = some clZero := by kernel_rfl
end Go.Proofs.YtlbgigkkjlfklaaGreat

namespace Go.Proofs.YtlbgigkkjlfklaaGreat
open Go.RowKit

theorem bubyte_info : (Tryz.prog.info? 5).map (fun i => (i.zero, i.size, i.bytes)) = some (some (.int .u8 0), 1, 1) := by kernel_rfl
theorem bubyte_one {x : Int} : ∀ v ∈ [Value.int .u8 x], v.oneCell' = true := by
  intro v hv
  simp at hv
  subst hv; rfl
theorem bucells_snoc (l : List UInt8) (c : Nat) (hc : c < 256) : Lib.byteCells (l ++ [UInt8.ofNat c]) = Lib.byteCells l ++ [.int .u8 (c : Int)] := by
  simp [Lib.byteCells]; omega

theorem u8_wrap (k : Nat) (h : k < 256) : IntKind.u8.wrap (k : Int) = (k : Int) := by
  have e : (2 ^ IntKind.u8.bits : Int) = 256 := rfl
  have s : IntKind.u8.signed = false := rfl
  unfold IntKind.wrap
  rw [e, s]
  simp
  omega
/-- A slice of bytes of the call's own, as a string says it. -/
theorem own_text {w : World} {base : Nat} {v : Value} {l : List UInt8} (h : w.ownsRow base 5 1 v l.length (Lib.byteCells l)) : (convert 97 9 v).run Tryz.prog w = .ok (.string ⟨l.toArray⟩) w := by
  rcases h.2 with ⟨rfl, h0⟩ | ⟨g, cap, cur, rfl, _⟩
  · obtain rfl := List.length_eq_zero_iff.1 h0
    rw [run_convert_bytes_string w 97 9 5 none 0 0 Tryz.underlying97 Tryz.underlying5 Tryz.underlying9]
    rfl
  · refine run_convert_bytes_back w 97 9 5 _ _ l Tryz.underlying97 Tryz.underlying5 Tryz.underlying9 (fun j hj => ?_)
    exact h.cells (g := g) rfl j _ (by simp [Lib.byteCells, List.getElem?_eq_getElem hj])
end Go.Proofs.YtlbgigkkjlfklaaGreat

namespace Go.Proofs.YtlbgigkkjlfklaaGreat
open Go.RowKit

theorem reps_at (x y : Value) (n : Nat) : (∀ c, c < n → (List.replicate n x ++ [y])[c]? = some x) ∧ (List.replicate n x ++ [y])[n]? = some y := by
  refine ⟨fun c hc => ?_, ?_⟩
  · rw [List.getElem?_append_left (by rw [List.length_replicate]; exact hc), List.getElem?_replicate, if_pos hc]
  · rw [List.getElem?_append_right (by rw [List.length_replicate]; exact Nat.le_refl _), List.length_replicate, Nat.sub_self]
    rfl
theorem wpList_built {P : Program} {w : World} {ops : Array Oper} {rest : List Oper} {o : Oper} {a : Act} {Q : Exit → Act → World → Prop} (hg : o.guard = none) (t : TypeId) (ho : o.op = .build t #[]) (cells : Array Value) (hc : P.built t [] = some cells)
    (h : wpList P ops Q rest (a.put o.dst (.agg cells)) w) : wpList P ops Q (o :: rest) a w :=
  wpList_build hg t #[] ho (by simp [hc]) (by simpa [hc] using h)

theorem wpList_built1 {P : Program} {w : World} {ops : Array Oper} {rest : List Oper} {o : Oper} {a : Act} {Q : Exit → Act → World → Prop} (hg : o.guard = none) (t : TypeId) (k : Nat) (x : Operand) (ho : o.op = .build t #[(k, x)]) (v : Value) (hv : a.eval x = v) (cells : Array Value) (hc : P.built t [(k, v)] = some cells)
    (h : wpList P ops Q rest (a.put o.dst (.agg cells)) w) : wpList P ops Q (o :: rest) a w :=
  wpList_build hg t #[(k, x)] ho (by simp [hv, hc]) (by simpa [hv, hc] using h)
end Go.Proofs.YtlbgigkkjlfklaaGreat

namespace Go.Proofs.YtlbgigkkjlfklaaGreat
open Go.RowKit

theorem clZero_at : ClsAt clZero (fun _ => 0) [] := by
  obtain ⟨h1, h2⟩ := reps_at (.int .i64 0) (.string ByteArray.empty) 256
  unfold clZero
  refine ⟨fun c hc => ?_, ?_⟩
  · rw [List.getElem?_toArray]; exact h1 c hc
  · rw [List.getElem?_toArray]; exact h2
set_option maxRecDepth 100000 in
set_option maxHeartbeats 4000000 in
theorem clnew_by (p : Value) (ws : List (List UInt8)) (w : World) (hn : ws.length ≤ 1000000) (he : ∀ t ∈ ws, t.length ≤ 1000000)
    (hL : ∀ W, Below w.heap.size w W → Calls Tryz.prog 62 #[p] W fun e w' => e = .returned (.int .i64 (ws.length : Int)) ∧ w' = W)
    (hA : ∀ (W : World) (k : Nat) (t : List UInt8), Below w.heap.size w W → ws[k]? = some t → Calls Tryz.prog 63 #[p, .int .i64 (k : Int)] W fun e w' => e = .returned (.tuple #[.string ⟨t.toArray⟩, .bool true]) ∧ w' = W) :
    Calls Tryz.prog 38 #[p] w fun e w' => ∃ b, e = .returned (.pointer (some ⟨b, 0, none⟩)) ∧ w.heap.size ≤ b ∧ IsCls w' b (ofC ws) (bcK ws 256) ∧ Below w.heap.size w w' := by
  have HA := Lib.hid hA
  have HE := Lib.hid he
  obtain ⟨hv, hvs⟩ := zero_of_info say_info
  have HZ : Hid (IsSay (w.alloc (.cells sayZero 99)) w.heap.size (fun _ => false)) := Lib.hid ⟨_, heap_alloc_new w _, say_zero⟩
  have B0 : Below w.heap.size w (w.alloc (.cells sayZero 99)) := (Below.refl _ w).alloc (Nat.le_refl _) _
  obtain ⟨zc, hzc⟩ : ∃ zc, sayZero = zc := ⟨_, rfl⟩
  rw [hzc] at hv HZ B0
  have HVS := Lib.hid hvs
  clear hzc hA he hvs
  obtain ⟨n, hnn⟩ : ∃ n, ws.length = n := ⟨_, rfl⟩
  rw [hnn] at hn hL
  have HNN := Lib.hid hnn
  have HLn := Lib.hid hL
  clear hnn hL
  go_enter Tryz.func38, Tryz.ntmps38
  go_wp2_with fail
  refine (HLn.out _ B0).mono ?_
  rintro e w' ⟨rfl, hw⟩
  obtain rfl := hw.symm
  clear hw HLn
  obtain ⟨W0, hW0⟩ : ∃ W0, w.alloc (.cells zc 99) = W0 := ⟨_, rfl⟩
  rw [hW0] at HZ B0 ⊢
  clear hW0 hv
  obtain ⟨b, hb⟩ : ∃ b, w.heap.size = b := ⟨_, rfl⟩
  rw [hb] at HZ ⊢
  have HBE := Lib.hid hb
  clear hb
  have HB0 : Hid (Below w.heap.size w W0) := Lib.hid B0
  clear B0
  go_wp2
  go_loopw [14] (fun i wr => ∃ k : Nat, k ≤ n ∧ i = .int .i64 k ∧ Hid (IsSay wr b (hasC (ws.take k))) ∧ Hid (Below w.heap.size w wr)) (fun i _ => n - (RowKit.intOf i).toNat)
  case atStart => exact ⟨0, Nat.zero_le _, rfl, Lib.hid (HZ.out.congr fun c _ => rfl), HB0⟩
  case round =>
    obtain ⟨k, hk, rfl, HK, HBk⟩ := hrel
    by_cases hlt : k < n
    · obtain ⟨t, hf⟩ : ∃ t, ws[k]? = some t := ⟨_, List.getElem?_eq_getElem (show k < ws.length by rw [HNN.out]; exact hlt)⟩
      have htl := HE.out t (List.mem_of_getElem? hf)
      have HA1 := Lib.hid (HA.out wr k t HBk.out hf)
      have HT0 : Hid (IsSay wr b (fun c => hasC (ws.take k) c || inT (t.take 0) c)) := Lib.hid (HK.out.congr fun c _ => by simp [inT])
      have HDn := Lib.hid (fun c => hasC_snoc hf c)
      have S1 := Lib.hid (bsize t)
      clear HK hf
      go_wp2_with fail
      refine HA1.out.mono ?_
      rintro e w' ⟨rfl, hw⟩
      obtain rfl := hw.symm
      clear hw HA1
      obtain ⟨W1, hW1⟩ : ∃ W1, wr = W1 := ⟨_, rfl⟩
      rw [hW1] at HT0 HBk ⊢
      clear hW1
      go_wp2
      go_loopw [25] (fun i wr => ∃ j : Nat, j ≤ t.length ∧ i = .int .i64 j ∧ Hid (IsSay wr b (fun c => hasC (ws.take k) c || inT (t.take j) c)) ∧ Hid (Below w.heap.size w wr)) (fun i _ => t.length - (RowKit.intOf i).toNat)
      case atStart => exact ⟨0, Nat.zero_le _, rfl, HT0, HBk⟩
      case round =>
        obtain ⟨j, hj, rfl, HJ, HBj⟩ := hrel
        by_cases hlt2 : j < t.length
        · have hjz : j < (⟨t.toArray⟩ : ByteArray).size := by rw [bsize]; exact hlt2
          have hb := byteAt t j hlt2 hjz
          obtain ⟨x, hx⟩ : ∃ x, t[j] = x := ⟨_, rfl⟩
          rw [hx] at hb
          have hxl := x.toNat_lt
          have c1 := HJ.out.cell hxl
          have f1 : wr.frozen? ⟨b, x.toNat, none⟩ = false := HJ.out.free
          have g0 : (0 : Int) ≤ (j : Int) := by omega
          have g1 : (j : Int) < (t.length : Int) := by omega
          have g2 : (x.toNat : Int) < 256 := by omega
          have HX : Hid (t[j]? = some x) := Lib.hid (by rw [List.getElem?_eq_getElem hlt2, hx])
          have HN : Hid (IsSay (wr.setCell ⟨b, x.toNat, none⟩ (.bool true)) b (fun c => hasC (ws.take k) c || inT (t.take (j + 1)) c)) := Lib.hid ((HJ.out.put hxl).congr fun c _ => by
            rw [inT_snoc HX.out c, Bool.or_assoc])
          have HB2 : Hid (Below w.heap.size w (wr.setCell ⟨b, x.toNat, none⟩ (.bool true))) := Lib.hid (HBj.out.setCell (by rw [HBE.out]; exact Nat.le_refl _) _)
          clear HJ HBj HX hx
          go_wp2
          exact ⟨⟨j + 1, by omega, by go_num, HN, HB2⟩, by simp [RowKit.intOf]; omega⟩
        · obtain rfl : j = t.length := by omega
          have hz : ¬ (t.length : Int) < (t.length : Int) := by omega
          have HN : Hid (IsSay wr b (hasC (ws.take (k + 1)))) := Lib.hid (HJ.out.congr fun c _ => by rw [HDn.out c, List.take_length])
          clear HJ
          go_wp2
          exact ⟨⟨k + 1, by omega, by go_num, HN, HBj⟩, by simp [RowKit.intOf]; omega⟩
    · obtain rfl : k = n := by omega
      have hz : ¬ (k : Int) < (k : Int) := by omega
      have HI : Hid (IsSay wr b (hasC ws)) := Lib.hid (HK.out.congr fun c _ => by rw [List.take_of_length_le (by rw [HNN.out]; exact Nat.le_refl _)])
      clear HK
      have hcb := cl_built
      have HC0 : Hid (IsCls (wr.alloc (.cells clZero 104)) wr.heap.size (fun _ => 0) []) := Lib.hid ⟨_, heap_alloc_new wr _, clZero_at⟩
      generalize clZero = zk at hcb HC0
      have hbw := HI.out.lt
      obtain ⟨cs, hh, hsay⟩ := HI.out
      have hcs := hsay.1
      have HH : Hid ((wr.alloc (.cells zk 104)).heap[b]? = some (.cells cs 99 (0, 0))) := Lib.hid (by rw [Lib.alloc_old _ _ _ hbw]; exact hh)
      have HB2 : Hid (Below w.heap.size w (wr.alloc (.cells zk 104))) := Lib.hid (HBk.out.alloc HBk.out.size _)
      have HBB : Hid (w.heap.size ≤ wr.heap.size) := Lib.hid HBk.out.size
      have HS2 : Hid ((wr.alloc (.cells zk 104)).heap.size = wr.heap.size + 1) := Lib.hid (by simp)
      clear hh HI HBk
      go_wp2_with (refine wpList_built rfl 104 rfl zk hcb ?_)
      obtain ⟨W2, hW2⟩ : ∃ W2, wr.alloc (.cells zk 104) = W2 := ⟨_, rfl⟩
      obtain ⟨q, hq⟩ : ∃ q, wr.heap.size = q := ⟨_, rfl⟩
      rw [hq] at HBB HS2
      rw [hW2] at HB2 HH HS2
      rw [hW2, hq] at HC0
      rw [hW2, hq]
      clear hW2 hq hcb
      refine wp_load_row 99 _ rfl b rfl 99 cs (0, 0) _ HH.out Tryz.underlying99 rfl (by rw [HVS.out, hcs]) ?_
      have HCS := Lib.hid (fun (m : Nat) (hm : m < 256) (w : World) => say_index hsay m hm w)
      clear hsay HH HVS
      obtain ⟨i0, hi, hz0, hz1, hz2⟩ := info_parts bubyte_info
      go_wp2
      go_loopw [9, 37] (fun v i wr => ∃ m : Nat, m ≤ 256 ∧ i = .int .i64 m ∧ Hid (wr.ownsRow W2.heap.size 5 1 v (bcK ws m).length (Lib.byteCells (bcK ws m))) ∧ Hid (IsCls wr q (fun c => if c < m then ofC ws c else 0) []) ∧ Hid (Below w.heap.size w wr) ∧ W2.heap.size ≤ wr.heap.size) (fun _ i _ => 256 - (RowKit.intOf i).toNat)
      case atStart => exact ⟨0, Nat.zero_le _, rfl, Lib.hid (World.ownsRow_nil _ _ _ _), Lib.hid (HC0.out.congr fun c _ => rfl), HB2, Nat.le_refl _⟩
      case round =>
        obtain ⟨m, hm, rfl, HO, HK, HBm, hsz⟩ := hrel
        obtain ⟨a, cap, rfl⟩ := owns_slice HO.out
        by_cases hlt3 : m < 256
        · have hc1 := HCS.out m hlt3
          have g0 : (0 : Int) ≤ (m : Int) := by omega
          have g1 : (m : Int) < 256 := by omega
          have hw8 : IntKind.u8.wrap (m : Int) = (m : Int) := u8_wrap m hlt3
          cases hq : hasC ws m with
          | true =>
            simp only [hq] at hc1
            have hl := bc_length ws m
            have HV := Lib.hid (bc_hit hq)
            have HF : Hid (ofC ws m = (bcK ws (m + 1)).length) := Lib.hid (by rw [of_hit hq, bc_hit hq]; simp)
            have c1 := HK.out.cell hlt3
            rw [if_neg (Nat.lt_irrefl m)] at c1
            have hown := HO.out
            clear hq
            go_wp2_with (at_builtin; refine wpList_append_own _ rfl _ _ 97 rfl W2.heap.size 5 i0 (.int .u8 0) 1 1 Tryz.underlying97 hi hz0 hz1 hz2 rfl (by decide) _ _ _ rfl (hown.alloc _) ⟨wr.heap.size, 0, none⟩ 1 1 [.int .u8 (m : Int)] rfl rfl (one_news (heap_alloc_new _ _)) bubyte_one (by unfold maxLen; omega) (by omega) (by simp; omega) ?_)
            intro v' w3 hown3 hgrow _
            obtain ⟨a3, cap3, rfl⟩ := owns_slice hown3
            have HW := Lib.hid (show w3.ownsRow W2.heap.size 5 1 (.slice a3 ((bcK ws m).length + 1) cap3) (bcK ws (m + 1)).length (Lib.byteCells (bcK ws (m + 1))) by rw [HV.out, bucells_snoc _ _ hlt3, List.length_append]; exact hown3)
            have B3 : Below W2.heap.size wr w3 := ⟨hgrow.os, hgrow.tape, hgrow.output, Nat.le_trans (by simp) hgrow.size, fun i hi => by
              rw [hgrow.block i (by simp; omega) (fun e => by have := (hown.lt i e.symm).1; omega), Lib.alloc_old _ _ i (by omega)]⟩
            have hs3 := B3.size
            have HQ2 : Hid (q < W2.heap.size) := Lib.hid (by rw [HS2.out]; omega)
            have HK3 : Hid (IsCls w3 q (fun c => if c < m then ofC ws c else 0) []) := Lib.hid (by
              obtain ⟨cs', e1, e2⟩ := HK.out
              exact ⟨cs', (B3.block q HQ2.out).trans e1, e2⟩)
            have c3 := HK3.out.cell hlt3
            rw [if_neg (Nat.lt_irrefl m)] at c3
            have f3 : w3.frozen? ⟨q, m, none⟩ = false := HK3.out.free
            have HL3 : Hid ((bcK ws m).length + 1 = (bcK ws (m + 1)).length) := Lib.hid (by rw [HV.out]; simp)
            have HB3 : Hid (Below w.heap.size w w3) := Lib.hid (HBm.out.trans ⟨B3.os, B3.tape, B3.output, B3.size, fun i hi => B3.block i (by have := HB2.out.size; omega)⟩)
            have HI3 : Hid (Into q w3 (w3.setCell ⟨q, m, none⟩ (.int .i64 (((bcK ws m).length : Int) + 1)))) := Lib.hid ((Into.refl q w3).set m _)
            have HW4 := Lib.hid (HI3.out.owns HQ2.out HW.out)
            have HB4 : Hid (Below w.heap.size w (w3.setCell ⟨q, m, none⟩ (.int .i64 (((bcK ws m).length : Int) + 1)))) := Lib.hid (HB3.out.setCell HBB.out _)
            have HK4 : Hid (IsCls (w3.setCell ⟨q, m, none⟩ (.int .i64 (((bcK ws m).length : Int) + 1))) q (fun c => if c < m + 1 then ofC ws c else 0) []) := Lib.hid (by
              have e : (((bcK ws m).length : Int) + 1) = (((bcK ws m).length + 1 : Nat) : Int) := by omega
              rw [e]
              refine (HK3.out.put hlt3).congr fun c _ => ?_
              by_cases e : c = m
              · subst e
                simp only [↓reduceIte]
                rw [if_pos (Nat.lt_succ_self c), HF.out, HL3.out]
              · simp only [if_neg e]
                by_cases e2 : c < m
                · rw [if_pos e2, if_pos (by omega)]
                · rw [if_neg e2, if_neg (by omega)])
            have hsz4 := Nat.le_trans (Nat.le_trans hsz hs3) (Nat.le_of_eq HI3.out.size.symm)
            clear hown hown3 hgrow HK HO HV B3 HK3 HB3 HI3 HW hs3 hsz
            go_wp2
            exact ⟨⟨m + 1, by omega, by go_num, HW4, HK4, HB4, hsz4⟩, by simp [RowKit.intOf]; omega⟩
          | false =>
            simp only [hq] at hc1
            have HV := Lib.hid (bc_miss hq)
            have HF : Hid (ofC ws m = 0) := Lib.hid (of_miss hq)
            clear hq
            go_wp2
            exact ⟨⟨m + 1, by omega, by go_num, by rw [HV.out]; exact HO, Lib.hid (HK.out.congr fun c _ => by
              by_cases e : c = m
              · subst e
                rw [if_neg (Nat.lt_irrefl c), if_pos (Nat.lt_succ_self c), HF.out]
              · by_cases e2 : c < m
                · rw [if_pos e2, if_pos (by omega)]
                · rw [if_neg e2, if_neg (by omega)]), HBm, hsz⟩, by simp [RowKit.intOf]; omega⟩
        · obtain rfl : m = 256 := by omega
          have hz : ¬ ((256 : Nat) : Int) < 256 := by omega
          have hct := own_text HO.out
          have c1 := HK.out.last
          have f1 : wr.frozen? ⟨q, 256, none⟩ = false := HK.out.free
          have HI : Hid (IsCls wr q (ofC ws) []) := Lib.hid (HK.out.congr fun c hc => by rw [if_pos hc])
          have HL := Lib.hid (HI.out.putB (bcK ws 256))
          have HB3 : Hid (Below w.heap.size w (wr.setCell ⟨q, 256, none⟩ (.string ⟨(bcK ws 256).toArray⟩))) := Lib.hid (HBm.out.setCell HBB.out _)
          clear HK
          go_wp2
          go_ret
          exact ⟨q, rfl, HBB.out, HL.out, HB3.out⟩
end Go.Proofs.YtlbgigkkjlfklaaGreat

namespace Go.Proofs.YtlbgigkkjlfklaaGreat
open Go.RowKit


theorem clnew_all {w : World} {p : Option Addr} {us : List (List UInt8)} (h : IsPats w p us) :
    Calls Tryz.prog 38 #[.pointer p] w fun e w' => ∃ b, e = .returned (.pointer (some ⟨b, 0, none⟩)) ∧ w.heap.size ≤ b ∧ HasCls w' (some ⟨b, 0, none⟩) (ofC us) (bcK us 256) ((bcK us 256).length + 1) ∧ Below w.heap.size w w' := by
  have go : Calls Tryz.prog 38 #[.pointer p] w (fun e w' => ∃ b, e = .returned (.pointer (some ⟨b, 0, none⟩)) ∧ w.heap.size ≤ b ∧ IsCls w' b (ofC us) (bcK us 256) ∧ Below w.heap.size w w') → Calls Tryz.prog 38 #[.pointer p] w fun e w' => ∃ b, e = .returned (.pointer (some ⟨b, 0, none⟩)) ∧ w.heap.size ≤ b ∧ HasCls w' (some ⟨b, 0, none⟩) (ofC us) (bcK us 256) ((bcK us 256).length + 1) ∧ Below w.heap.size w w' := by
    intro h
    refine h.mono ?_
    rintro e w' ⟨b, rfl, h1, h2, h3⟩
    exact ⟨b, rfl, h1, .inr ⟨b, rfl, h2, rfl⟩, h3⟩
  rcases h with ⟨rfl, rfl⟩ | ⟨b, rfl, h, hp⟩
  · exact go (clnew_by _ [] w (by simp) (by simp) (fun W _ => ptlen_nil W) (fun W k t _ h => by simp at h))
  · exact go (clnew_by _ us w (by have := hp.few; omega) (fun t ht => by have := hp.each t ht; omega) (fun W hW => ptlen_any (h.below hW)) (fun W k t hW hk => ptat_in (h.below hW) k t hk))

end Go.Proofs.YtlbgigkkjlfklaaGreat

namespace Go.Proofs.YtlbgigkkjlfklaaGreat
open Go.RowKit

/-- A table of a set, whose states these are. -/
structure IsDense (w : World) (b g : Nat) (pc : Option Addr) (us S : List (List UInt8)) (L : List Nat) : Prop where
  dn : IsDn w b g pc S.length ((bcK us 256).length + 1) L (ofC us) (bcK us 256)
  rows : ∀ j t, S[j]? = some t → seg L ((bcK us 256).length + 1) j = rwF us S t
  st : IsSt us S
  root : S[0]? = some []
theorem IsDense.below {w w' : World} {b g : Nat} {pc : Option Addr} {us S : List (List UInt8)} {L : List Nat} (h : IsDense w b g pc us S L) (hb : Below w.heap.size w w') : IsDense w' b g pc us S L := ⟨h.dn.below hb, h.rows, h.st, h.root⟩

theorem dn32_all : (Tryz.prog.info? 21).map (fun i => (i.zero, i.size, i.bytes)) = some (some (.int .i32 0), 1, 4) := by kernel_rfl
theorem made_rows (n : Nat) : madeCells (Value.int .i32 0).cells n = (dnCells (List.replicate n 0)).toArray := by
  have e : (Value.int .i32 0).cells = #[.int .i32 0] := by rfl
  rw [e]
  unfold madeCells dnCells dnV
  apply Array.ext
  · simp
  · intro i h1 h2
    simp [Nat.mod_one]
theorem make_rows (c : Nat) (w : World) (hc : c ≤ 4311744769) : (Instr.makeSlice 61 (.int .i64 (c : Int)) (.int .i64 (c : Int))).run Tryz.prog w = .ok (.slice (some ⟨w.heap.size, 0, none⟩) c c) (w.alloc (.cells (dnCells (List.replicate c 0)).toArray 21)) := by
  obtain ⟨i0, hi, hz0, hz1, hz2⟩ := info_parts dn32_all
  have h := run_make (P := Tryz.prog) w 61 21 i0 (.int .i32 0) Tryz.underlying61 hi hz0 .i64 .i64 c c (by omega) (Int.le_refl _) (by rw [hz2]; omega) (by omega)
  rw [h, hz1, Int.toNat_natCast, Nat.mul_one, made_rows]

set_option maxRecDepth 100000 in
set_option maxHeartbeats 4000000 in
theorem dnnew_any {w : World} {p : Option Addr} {us : List (List UInt8)} (hp : IsPats w p us) (ha : Asc us) (hn : us.Nodup) :
    Calls Tryz.prog 19 #[.pointer p] w fun e w' => ∃ b g pc S L, e = .returned (.pointer (some ⟨b, 0, none⟩)) ∧ IsDense w' b g pc us S L ∧ Below w.heap.size w w' := by
  have HK := Lib.hid (lknew_any hp ha hn)
  have HC := Lib.hid (fun (W : World) (h : Below w.heap.size w W) => clnew_all (hp.below h))
  have hcb := bc_length us 256
  clear hp ha hn
  go_enter Tryz.func19, Tryz.ntmps19
  go_wp2_with fail
  refine HK.out.mono ?_
  rintro e w1 ⟨k, q, S, F, rfl, hL, hb1⟩
  have HC1 := Lib.hid (HC.out w1 hb1)
  have hs1 := hb1.size
  have hfew := hL.tr.few.2.2
  have HL1 := Lib.hid hL
  clear HK HC hL
  go_wp2_with fail
  refine HC1.out.mono ?_
  rintro e w2 ⟨pc, rfl, _, hC, hb2⟩
  have HL2 := Lib.hid (HL1.out.below hb2)
  have HB2 := Lib.hid (hb1.trans (hb2.mono hs1))
  have HC2 := Lib.hid hC
  have HTr := Lib.hid (lktrie_any HL2.out.has)
  have HLen := Lib.hid (ts_len HL2.out.tr)
  have HCL := Lib.hid (cllen_any hC (by omega))
  clear HL1 HC1 hC hb1 hb2 hs1
  obtain ⟨W, hW⟩ : ∃ W, (bcK us 256).length + 1 = W := ⟨_, rfl⟩
  rw [hW] at HC2 HCL
  have HW := Lib.hid hW
  have hWl : W ≤ 257 := by omega
  have hWp : 0 < W := by omega
  obtain ⟨n, hnS⟩ : ∃ n, S.length = n := ⟨_, rfl⟩
  rw [hnS] at HLen hfew
  have HN := Lib.hid hnS
  have hmost : n * W ≤ 4311744769 := by
    have := Nat.mul_le_mul hfew hWl
    omega
  have hmul : IntKind.i64.wrap ((n : Int) * (W : Int)) = ((n * W : Nat) : Int) := by
    rw [show (n : Int) * (W : Int) = ((n * W : Nat) : Int) by simp, IntKind.wrap_i64]; omega
  obtain ⟨m, hm⟩ : ∃ m, n * W = m := ⟨_, rfl⟩
  rw [hm] at hmul hmost
  have HM := Lib.hid hm
  have hmake := make_rows m w2 hmost
  clear hW hnS hm hcb
  go_wp2_with fail
  refine HTr.out.mono ?_
  rintro e w' ⟨rfl, hw'⟩
  obtain rfl := hw'.symm
  clear hw' HTr
  go_wp2_with fail
  refine HLen.out.mono ?_
  rintro e w' ⟨rfl, hw'⟩
  obtain rfl := hw'.symm
  clear hw' HLen
  go_wp2_with fail
  refine HCL.out.mono ?_
  rintro e w' ⟨rfl, hw'⟩
  obtain rfl := hw'.symm
  clear hw' HCL
  have hb3 : Below w2.heap.size w2 (w2.alloc (.cells (dnCells (List.replicate m 0)).toArray 21)) := (Below.refl _ _).alloc (Nat.le_refl _) _
  have hh3 := heap_alloc_new w2 (.cells (dnCells (List.replicate m 0)).toArray 21)
  have hz3 : (w2.alloc (.cells (dnCells (List.replicate m 0)).toArray 21)).heap.size = w2.heap.size + 1 := by simp
  generalize w2.alloc (.cells (dnCells (List.replicate m 0)).toArray 21) = w3 at *
  have HZ3 := Lib.hid hz3
  clear hz3
  go_wp2_with fail
  have HS2 := Lib.hid (HB2.out.size)
  have hlr : (List.replicate m (0 : Nat)).length = m := List.length_replicate
  have HT0 : Hid (IsTb (w3.alloc (.cells #[.pointer (some ⟨pc, 0, none⟩), .int .i64 (n : Int), .slice (some ⟨w2.heap.size, 0, none⟩) m m] 63)) w3.heap.size w2.heap.size (some ⟨pc, 0, none⟩) S.length W (List.replicate m 0)) := Lib.hid (by
    refine ⟨?_, ?_, by rw [hlr, HN.out, HM.out], by rw [HN.out]; exact hfew, hWl, hWp, fun x hx => by rw [List.eq_of_mem_replicate hx]; omega⟩
    · rw [hlr, HN.out]; exact heap_alloc_new w3 _
    · rw [Below.heap_alloc _ _ _ (by have := HZ3.out; omega)]; exact hh3)
  have HB0 : Hid (Below w2.heap.size w2 (w3.alloc (.cells #[.pointer (some ⟨pc, 0, none⟩), .int .i64 (n : Int), .slice (some ⟨w2.heap.size, 0, none⟩) m m] 63))) := Lib.hid (hb3.alloc hb3.size _)
  have HR0 : Hid (RwOk us S W 0 (List.replicate m 0)) := Lib.hid ⟨fun j t hj => absurd hj (Nat.not_lt_zero _), fun j _ hj => by rw [← HM.out, ← HN.out]; exact seg_zero hj⟩
  have hs23 := hb3.size
  clear hh3 HZ3 hb3 hmake
  generalize (w3.alloc (.cells #[.pointer (some ⟨pc, 0, none⟩), .int .i64 (n : Int), .slice (some ⟨w2.heap.size, 0, none⟩) m m] 63)) = w4 at *
  generalize w3.heap.size = b at *
  go_loopw [25] (fun x wr => ∃ (i : Nat) (L : List Nat), i ≤ n ∧ x = .int .i64 i ∧ Hid (IsTb wr b w2.heap.size (some ⟨pc, 0, none⟩) S.length W L) ∧ Hid (RwOk us S W i L) ∧ Hid (Below w2.heap.size w2 wr)) (fun x _ => n - (RowKit.intOf x).toNat)
  case atStart => exact ⟨0, _, Nat.zero_le _, rfl, HT0, HR0, HB0⟩
  case round =>
    clear HT0 HR0 HB0
    obtain ⟨i, L, hi, rfl, HT, HR, HB⟩ := hrel
    by_cases hlt : i < n
    · obtain ⟨s, hs⟩ : ∃ s, S[i]? = some s := ⟨_, List.getElem?_eq_getElem (show i < S.length by rw [HN.out]; exact hlt)⟩
      have HF := Lib.hid (dnfill_any HL2.out HC2.out HW.out.symm HB.out (Nat.le_refl _) hs23 HT.out i hs HR.out)
      clear HT HR HB hs
      go_wp2_with fail
      refine HF.out.mono ?_
      rintro e w5 ⟨rfl, L', h1, h2, h3⟩
      have H1 := Lib.hid h1
      have H2 := Lib.hid h2
      have H3 := Lib.hid h3
      clear h1 h2 h3 HF
      go_wp2
      exact ⟨⟨i + 1, L', by omega, by go_num, H1, H2, H3⟩, by simp [RowKit.intOf]; omega⟩
    · obtain rfl : i = n := by omega
      have hz : ¬ (i : Int) < (i : Int) := by omega
      have HE : Hid (IsDense wr b w2.heap.size (some ⟨pc, 0, none⟩) us S L) := Lib.hid (by
        have hb := HB.out
        refine ⟨⟨?_, ?_, by have := HW.out; omega⟩, fun j t ht => ?_, HL2.out.tr.st, HL2.out.root⟩
        · rw [HW.out]; exact HT.out
        · rw [HW.out]; exact HC2.out.below hb
        · rw [HW.out]; exact HR.out.known j t (by rw [← HN.out]; exact (List.getElem?_eq_some_iff.1 ht).1) ht)
      have HBE := Lib.hid (HB2.out.trans (HB.out.mono HS2.out))
      clear HT HR HB
      go_wp2
      go_ret
      exact ⟨b, rfl, ⟨_, _, S, L, HE.out⟩, HBE.out⟩

/-- What a table tells. -/
theorem IsDense.nodup {w : World} {b g : Nat} {pc : Option Addr} {us S : List (List UInt8)} {L : List Nat} (h : IsDense w b g pc us S L) : S.Nodup := slx_nodup h.st.1
theorem IsDense.mem {w : World} {b g : Nat} {pc : Option Addr} {us S : List (List UInt8)} {L : List Nat} (h : IsDense w b g pc us S L) : [] ∈ S := st_root h.st
theorem ds_len {w : World} {b g : Nat} {pc : Option Addr} {us S : List (List UInt8)} {L : List Nat} (h : IsDense w b g pc us S L) : Calls Tryz.prog 30 #[.pointer (some ⟨b, 0, none⟩)] w fun e w' => e = .returned (.int .i64 (S.length : Int)) ∧ w' = w := dnlen_any h.dn.tb
theorem ds_step {w : World} {b g : Nat} {pc : Option Addr} {us S : List (List UInt8)} {L : List Nat} (h : IsDense w b g pc us S L) (i : Nat) {s : List UInt8} (hs : S[i]? = some s) (c : UInt8) : Calls Tryz.prog 27 #[.pointer (some ⟨b, 0, none⟩), .int .i64 (i : Int), .int .u8 (c.toNat : Int)] w fun e w' => e = .returned (.int .i64 (dnS S s c : Int)) ∧ w' = w :=
  dnstep_in h.dn i (List.getElem?_eq_some_iff.1 hs).1 c (by rw [h.rows i s hs]; exact rw_of h.st h.nodup h.root s c)
theorem ds_norow {w : World} {b g : Nat} {pc : Option Addr} {us S : List (List UInt8)} {L : List Nat} (h : IsDense w b g pc us S L) {s : Int} (hs : s < 0 ∨ (S.length : Int) ≤ s) : NoRow w (some ⟨b, 0, none⟩) s := fun W e => dnrow_out (h.dn.tb.heap e) s hs
theorem nil_norow (w : World) (s : Int) : NoRow w none s := fun W _ => dnrow_nil s W
end Go.Proofs.YtlbgigkkjlfklaaGreat

namespace Go.Proofs.YtlbgigkkjlfklaaGreat
open Go.RowKit

/-- A type that no classes and no table is made of. -/
structure OthD (T : TypeId) : Prop where
  cls : 104 ≠ T
  tab : 63 ≠ T
  num : 21 ≠ T
theorem HasCls.other {T : TypeId} {w w' : World} {p : Option Addr} {F : Nat → Nat} {B : List UInt8} {n : Nat} (h : HasCls w p F B n) (ho : Other T w w') (hT : OthD T) : HasCls w' p F B n := by
  rcases h with h | ⟨b, h1, ⟨cs, h2, h3⟩, h4⟩
  · exact .inl h
  · exact .inr ⟨b, h1, ⟨cs, ho _ _ _ _ hT.cls h2, h3⟩, h4⟩
theorem IsTb.other {T : TypeId} {w w' : World} {b g : Nat} {pc : Option Addr} {n W : Nat} {L : List Nat} (h : IsTb w b g pc n W L) (ho : Other T w w') (hT : OthD T) : IsTb w' b g pc n W L :=
  ⟨ho _ _ _ _ hT.tab h.head, ho _ _ _ _ hT.num h.row, h.len, h.fn, h.fw, h.wp, h.fit⟩
theorem IsDense.other {T : TypeId} {w w' : World} {b g : Nat} {pc : Option Addr} {us S : List (List UInt8)} {L : List Nat} (h : IsDense w b g pc us S L) (ho : Other T w w') (hT : OthD T) : IsDense w' b g pc us S L :=
  ⟨⟨h.dn.tb.other ho hT, h.dn.cl.other ho hT, h.dn.fb⟩, h.rows, h.st, h.root⟩
end Go.Proofs.YtlbgigkkjlfklaaGreat

namespace Go.Proofs.YtlbgigkkjlfklaaGreat
open Go.RowKit

/-- A type that no set, no trie and no links are made of. -/
structure OthT (T : TypeId) : Prop where
  set : 43 ≠ T
  str : 9 ≠ T
  tri : 87 ≠ T
  sta : 83 ≠ T
  lnk : 74 ≠ T
  fal : 76 ≠ T
theorem IsPats.other {T : TypeId} {w w' : World} {p : Option Addr} {us : List (List UInt8)} (h : IsPats w p us) (ho : Other T w w') (hT : OthT T) : IsPats w' p us := by
  rcases h with h | ⟨b, h1, ⟨g, cap, h2, h3⟩, h4⟩
  · exact .inl h
  · exact .inr ⟨b, h1, ⟨g, cap, ho _ _ _ _ hT.set h2, ho.owns hT.str h3⟩, h4⟩
theorem HasTr.other {T : TypeId} {w w' : World} {q p : Option Addr} {R : List Rc} (h : HasTr w q p R) (ho : Other T w w') (hT : OthT T) : HasTr w' q p R := by
  rcases h with h | ⟨base, b, h1, n, cap, h2, h3, h4, h5, h6⟩
  · exact .inl h
  · exact .inr ⟨base, b, h1, n, cap, ho _ _ _ _ hT.tri h2, h3, ho.owns hT.sta h4, h5, h6⟩
theorem IsTrie.other {T : TypeId} {w w' : World} {q p : Option Addr} {us S : List (List UInt8)} (h : IsTrie w q p us S) (ho : Other T w w') (hT : OthT T) : IsTrie w' q p us S := by
  obtain ⟨R, h1, h2, h3, h4⟩ := h
  exact ⟨R, h1.other ho hT, h2, h3, h4.other ho hT⟩
theorem HasLk.other {T : TypeId} {w w' : World} {k q : Option Addr} {F : List (Nat × Nat)} (h : HasLk w k q F) (ho : Other T w w') (hT : OthT T) : HasLk w' k q F := by
  rcases h with h | ⟨base, b, g, h1, h2⟩
  · exact .inl h
  · exact .inr ⟨base, b, g, h1, ho _ _ _ _ hT.lnk h2.head, ho _ _ _ _ hT.fal h2.row, h2.bb, h2.gg, h2.few, h2.fit⟩
theorem IsLink.other {T : TypeId} {w w' : World} {k q p : Option Addr} {us S : List (List UInt8)} {m : Nat} {F : List (Nat × Nat)} (h : IsLink w k q p us S m F) (ho : Other T w w') (hT : OthT T) : IsLink w' k q p us S m F :=
  ⟨h.has.other ho hT, h.tr.other ho hT, h.asc, h.ok⟩
end Go.Proofs.YtlbgigkkjlfklaaGreat

namespace Go.Proofs.YtlbgigkkjlfklaaGreat
open Go.Lib

/-- How many of the first m states lead on. -/
def ldN (us S : List (List UInt8)) : Nat → Nat
  | 0 => 0
  | m + 1 => ldN us S m + if kidsL us (S.getD m []) = [] then 0 else 1
theorem ld_hit {us S : List (List UInt8)} {m : Nat} {s : List UInt8} (hs : S[m]? = some s) (h : kidsL us s ≠ []) : ldN us S (m + 1) = ldN us S m + 1 := by
  rw [ldN, List.getD_eq_getElem?_getD, hs]
  simp [h]
theorem ld_miss {us S : List (List UInt8)} {m : Nat} {s : List UInt8} (hs : S[m]? = some s) (h : kidsL us s = []) : ldN us S (m + 1) = ldN us S m := by
  rw [ldN, List.getD_eq_getElem?_getD, hs]
  simp [h]
theorem ld_le (us S : List (List UInt8)) : ∀ m, ldN us S m ≤ m
  | 0 => Nat.le_refl _
  | m + 1 => by
    have := ld_le us S m
    unfold ldN
    split <;> omega

/-- Does a cell belong to a state? -/
def tkC (C : List (Nat × Nat)) (j : Nat) : Bool := decide (0 < (C.getD j (0, 0)).2)
theorem tk_out {C : List (Nat × Nat)} {j : Nat} (h : C.length ≤ j) : tkC C j = false := by
  unfold tkC
  rw [List.getD_eq_getElem?_getD, List.getElem?_eq_none h]; rfl
theorem tk_in {C : List (Nat × Nat)} {j o x : Nat} (h : C[j]? = some (o, x)) : tkC C j = decide (0 < x) := by
  unfold tkC
  rw [List.getD_eq_getElem?_getD, h]; rfl
/-- Are the cells of these bytes free, from a place on? -/
def FreeAt (C : List (Nat × Nat)) (K : List UInt8) (p : Nat) : Prop := ∀ c ∈ K, tkC C (p + c.toNat) = false
theorem free_behind (C : List (Nat × Nat)) (K : List UInt8) {p : Nat} (h : C.length ≤ p) : FreeAt C K p := fun c _ => tk_out (by omega)

/-- The rows of the first m states are laid. -/
structure SpOk (us S : List (List UInt8)) (m : Nat) (P : List Nat) (C : List (Nat × Nat)) : Prop where
  plen : P.length = S.length
  has : ∀ (i : Nat) (s : List UInt8) (c : UInt8), i < m → S[i]? = some s → c ∈ kidsL us s → ∃ p x, P[i]? = some p ∧ C[p + c.toNat]? = some (i, x) ∧ S[x]? = some (s ++ [c])
  own : ∀ j o x : Nat, C[j]? = some (o, x) → 0 < x → o < m ∧ ∃ s p c, S[o]? = some s ∧ P[o]? = some p ∧ j = p + UInt8.toNat c ∧ c ∈ kidsL us s
  few : C.length ≤ 256 * ldN us S m
theorem SpOk.start (us S : List (List UInt8)) : SpOk us S 0 (List.replicate S.length 0) [] :=
  ⟨List.length_replicate .., fun i s c hi => absurd hi (Nat.not_lt_zero _), fun j o x h => by simp at h, by simp [ldN]⟩
theorem SpOk.none {us S : List (List UInt8)} {m : Nat} {P : List Nat} {C : List (Nat × Nat)} (h : SpOk us S m P C) {s : List UInt8} (hs : S[m]? = some s) (hk : kidsL us s = []) : SpOk us S (m + 1) P C := by
  refine ⟨h.plen, fun i t c hi ht hc => ?_, fun j o x hj hx => ?_, by rw [ld_miss hs hk]; exact h.few⟩
  · by_cases e : i = m
    · subst e
      obtain rfl : t = s := Option.some.inj (ht.symm.trans hs)
      rw [hk] at hc; cases hc
    · exact h.has i t c (by omega) ht hc
  · obtain ⟨h1, h2⟩ := h.own j o x hj hx
    exact ⟨by omega, h2⟩

/-- The cells of the first k bytes of a row are laid. -/
structure SpMid (S : List (List UInt8)) (i p : Nat) (s : List UInt8) (C1 : List (Nat × Nat)) (ks : List UInt8) (C : List (Nat × Nat)) : Prop where
  len : C.length = C1.length
  done : ∀ c ∈ ks, ∃ x, C[p + c.toNat]? = some (i, x) ∧ S[x]? = some (s ++ [c])
  rest : ∀ j, (∀ c ∈ ks, j ≠ p + UInt8.toNat c) → C[j]? = C1[j]?
theorem SpMid.start (S : List (List UInt8)) (i p : Nat) (s : List UInt8) (C1 : List (Nat × Nat)) : SpMid S i p s C1 [] C1 := ⟨rfl, fun c hc => absurd hc List.not_mem_nil, fun j _ => rfl⟩
theorem SpMid.put {S : List (List UInt8)} {i p : Nat} {s : List UInt8} {C1 C : List (Nat × Nat)} {ks : List UInt8} (h : SpMid S i p s C1 ks C) {c : UInt8} {x : Nat} (hx : S[x]? = some (s ++ [c])) (hl : p + c.toNat < C1.length) : SpMid S i p s C1 (ks ++ [c]) (C.set (p + c.toNat) (i, x)) := by
  refine ⟨by rw [List.length_set]; exact h.len, fun d hd => ?_, fun j hj => ?_⟩
  · by_cases e : d = c
    · subst e
      exact ⟨x, List.getElem?_set_self (by rw [h.len]; exact hl), hx⟩
    · rw [List.mem_append, List.mem_singleton] at hd
      obtain ⟨y, h1, h2⟩ := h.done d (hd.resolve_right e)
      refine ⟨y, ?_, h2⟩
      rw [List.getElem?_set_ne (fun e2 => e (UInt8.toNat_inj.1 (by omega)))]
      exact h1
  · rw [List.getElem?_set_ne (Ne.symm (hj c (by simp)))]
    exact h.rest j fun d hd => hj d (by simp [hd])

/-- A list with free cells behind it. -/
def moreC (C : List (Nat × Nat)) (n : Nat) : List (Nat × Nat) := C ++ List.replicate (n - C.length) (0, 0)
theorem more_length (C : List (Nat × Nat)) (n : Nat) : (moreC C n).length = max C.length n := by unfold moreC; simp; omega
theorem more_at {C : List (Nat × Nat)} {n j o x : Nat} (h : (moreC C n)[j]? = some (o, x)) (hx : 0 < x) : C[j]? = some (o, x) := by
  unfold moreC at h
  by_cases hj : j < C.length
  · rwa [List.getElem?_append_left hj] at h
  · rw [List.getElem?_append_right (by omega)] at h
    have := List.eq_of_mem_replicate (List.mem_of_getElem? h)
    cases this
    omega
theorem more_old {C : List (Nat × Nat)} {n j : Nat} {r : Nat × Nat} (h : C[j]? = some r) : (moreC C n)[j]? = some r := by
  unfold moreC
  rw [List.getElem?_append_left (List.getElem?_eq_some_iff.1 h).1]; exact h

/-- One more row is laid. -/
theorem SpOk.row {us S : List (List UInt8)} {m : Nat} {P : List Nat} {C C' : List (Nat × Nat)} (h : SpOk us S m P C) (h0 : S[0]? = some []) {s : List UInt8} (hs : S[m]? = some s) {p n : Nat} (hne : kidsL us s ≠ [])
    (hf : FreeAt C (kidsL us s) p) (hp : p ≤ C.length) (hn : n ≤ p + 256) (hM : SpMid S m p s (moreC C n) (kidsL us s) C') : SpOk us S (m + 1) (P.set m p) C' := by
  have hml := (List.getElem?_eq_some_iff.1 hs).1
  have hnew : ∀ (c : UInt8), c ∈ kidsL us s → ∀ o x, C[p + c.toNat]? = some (o, x) → x = 0 := fun c hc o x hx => by
    have h1 := hf c hc
    rw [tk_in hx] at h1
    have : ¬ 0 < x := by simpa using h1
    omega
  refine ⟨by rw [List.length_set]; exact h.plen, fun i t c hi ht hc => ?_, fun j o x hj hx => ?_, ?_⟩
  · by_cases e : i = m
    · subst e
      obtain rfl : t = s := Option.some.inj (ht.symm.trans hs)
      obtain ⟨x, h1, h2⟩ := hM.done c hc
      exact ⟨p, x, List.getElem?_set_self (by rw [h.plen]; exact hml), h1, h2⟩
    · obtain ⟨q, x, h1, h2, h3⟩ := h.has i t c (by omega) ht hc
      refine ⟨q, x, by rw [List.getElem?_set_ne (Ne.symm e)]; exact h1, ?_, h3⟩
      rw [hM.rest _ fun d hd e2 => ?_]
      · exact more_old h2
      · rw [e2] at h2
        have hx := hnew d hd _ _ h2
        subst hx
        rw [h0] at h3
        simp at h3
  · by_cases e : ∃ c ∈ kidsL us s, j = p + UInt8.toNat c
    · obtain ⟨c, hc, rfl⟩ := e
      obtain ⟨y, h1, h2⟩ := hM.done c hc
      rw [h1] at hj
      cases hj
      exact ⟨by omega, s, p, c, hs, List.getElem?_set_self (by rw [h.plen]; exact hml), rfl, hc⟩
    · rw [hM.rest j fun c hc e2 => e ⟨c, hc, e2⟩] at hj
      obtain ⟨h1, t, q, c, h2, h3, h4, h5⟩ := h.own j o x (more_at hj hx) hx
      exact ⟨by omega, t, q, c, h2, by rw [List.getElem?_set_ne (by omega)]; exact h3, h4, h5⟩
  · rw [ld_hit hs hne, hM.len, more_length]
    have := h.few
    omega

/-- What is told of a state and a byte. -/
theorem SpOk.hit {us S : List (List UInt8)} {P : List Nat} {C : List (Nat × Nat)} (h : SpOk us S S.length P C) (hst : IsSt us S) {i : Nat} {s : List UInt8} (hs : S[i]? = some s) {c : UInt8} (hc : s ++ [c] ∈ S) : ∃ p x, P[i]? = some p ∧ C[p + c.toNat]? = some (i, x) ∧ S[x]? = some (s ++ [c]) := by
  refine h.has i s c (List.getElem?_eq_some_iff.1 hs).1 hs (kids_mem.2 ?_)
  rcases (hst.2 _).1 hc with h1 | h1
  · simp at h1
  · exact h1
theorem SpOk.miss {us S : List (List UInt8)} {P : List Nat} {C : List (Nat × Nat)} (h : SpOk us S S.length P C) (hst : IsSt us S) {i : Nat} {s : List UInt8} (hs : S[i]? = some s) {c : UInt8} (hc : s ++ [c] ∉ S) {p o x : Nat} (hp : P[i]? = some p) (hx : C[p + c.toNat]? = some (o, x)) : x = 0 ∨ o ≠ i := by
  by_cases h0 : x = 0
  · exact .inl h0
  · refine .inr fun e => ?_
    subst e
    obtain ⟨_, t, q, d, h1, h2, h3, h4⟩ := h.own _ _ _ hx (by omega)
    obtain rfl : t = s := Option.some.inj (h1.symm.trans hs)
    obtain rfl : q = p := Option.some.inj (h2.symm.trans hp)
    have : d = c := UInt8.toNat_inj.1 (by omega)
    subst this
    exact hc ((hst.2 _).2 (.inr (kids_mem.1 h4)))
/-- There are as many cells as states but the root. -/
theorem SpOk.least {us S : List (List UInt8)} {P : List Nat} {C : List (Nat × Nat)} (h : SpOk us S S.length P C) (hst : IsSt us S) (h0 : S[0]? = some []) : S.length ≤ C.length + 1 := by
  have hnd := slx_nodup hst.1
  have h1 : ((List.range (S.length - 1)).map (· + 1)).Nodup := by
    rw [List.Nodup, List.pairwise_map]
    exact List.nodup_range.imp fun {a b} hab e => hab (by omega)
  have := subset_length ((List.range (S.length - 1)).map (· + 1)) (C.map (·.2)) h1 fun x hx => by
    obtain ⟨y, hy, rfl⟩ := List.mem_map.1 hx
    rw [List.mem_range] at hy
    obtain ⟨q, hq⟩ : ∃ q, S[y + 1]? = some q := ⟨_, List.getElem?_eq_getElem (show y + 1 < S.length by omega)⟩
    rcases List.eq_nil_or_concat q with rfl | ⟨s, c, rfl⟩
    · have := rise_same hst.1 hq h0
      omega
    · rw [List.concat_eq_append] at hq
      have hm := List.mem_of_getElem? hq
      have hd := st_closed hst _ hm
      rw [List.dropLast_concat] at hd
      obtain ⟨i, hi⟩ := List.mem_iff_getElem?.1 hd
      obtain ⟨p, x, _, h2, h3⟩ := h.hit hst hi hm
      have e := rise_same hst.1 h3 hq
      subst e
      exact List.mem_map.2 ⟨_, List.mem_of_getElem? h2, rfl⟩
  simp at this
  omega
theorem SpOk.most {us S : List (List UInt8)} {m : Nat} {P : List Nat} {C : List (Nat × Nat)} (h : SpOk us S m P C) : C.length ≤ 256 * m := by
  have h1 := h.few
  have h2 := ld_le us S m
  omega
end Go.Proofs.YtlbgigkkjlfklaaGreat

namespace Go.Proofs.YtlbgigkkjlfklaaGreat
open Go.RowKit

/-- The cells of places. -/
def spV (n : Nat) : Value := .int .i32 (n : Int)
def spCells (P : List Nat) : List Value := P.map spV
theorem spCells_length (P : List Nat) : (spCells P).length = P.length := List.length_map _
theorem sp_info : (Tryz.prog.info? 107).map (fun i => (i.zero, i.size, i.bytes)) = some (some (.agg #[.int .i32 0, .int .i32 0]), 2, 8) := by kernel_rfl

/-- What is owned is a slice. -/
theorem owns_sl {w : World} {base size : Nat} {e : TypeId} {v : Value} {n : Nat} {xs : List Value} (h : w.ownsRow base e size v n xs) : ∃ a cap, v = .slice a n cap := by
  rcases h.2 with ⟨rfl, rfl⟩ | ⟨g, cap, cur, rfl, _⟩
  · exact ⟨_, _, rfl⟩
  · exact ⟨_, _, rfl⟩

/-- A table in block b, its places in block p; what it owns lies from 'base' on. -/
structure IsSp (w : World) (base b pb : Nat) (k : Option Addr) (P : List Nat) (C : List (Nat × Nat)) (v : Value) : Prop where
  head : w.heap[b]? = some (.cells #[.pointer k, .slice (some ⟨pb, 0, none⟩) P.length P.length, v] 67 (0, 0))
  row : w.heap[pb]? = some (.cells (spCells P).toArray 21 (0, 0))
  own : w.ownsRow base 107 2 v C.length (flCells C)
  bb : base ≤ b
  bp : base ≤ pb
  plen : P.length ≤ 4194304
  clen : C.length ≤ 1073741824
  pfit : ∀ p ∈ P, p ≤ 1073741824
  cfit : ∀ r ∈ C, r.1 ≤ 16777217 ∧ r.2 ≤ 16777217
theorem IsSp.lt {w : World} {base b pb : Nat} {k : Option Addr} {P : List Nat} {C : List (Nat × Nat)} {v : Value} (h : IsSp w base b pb k P C v) : b < w.heap.size := heap_lt h.head
theorem IsSp.ltp {w : World} {base b pb : Nat} {k : Option Addr} {P : List Nat} {C : List (Nat × Nat)} {v : Value} (h : IsSp w base b pb k P C v) : pb < w.heap.size := heap_lt h.row
theorem IsSp.below {w w' : World} {base b pb : Nat} {k : Option Addr} {P : List Nat} {C : List (Nat × Nat)} {v : Value} (h : IsSp w base b pb k P C v) (hb : Below w.heap.size w w') : IsSp w' base b pb k P C v :=
  ⟨(hb.block b h.lt).trans h.head, (hb.block pb h.ltp).trans h.row, tx_below h.own hb, h.bb, h.bp, h.plen, h.clen, h.pfit, h.cfit⟩
theorem IsSp.heap {w W : World} {base b pb : Nat} {k : Option Addr} {P : List Nat} {C : List (Nat × Nat)} {v : Value} (h : IsSp w base b pb k P C v) (e : W.heap = w.heap) : IsSp W base b pb k P C v :=
  ⟨by rw [e]; exact h.head, by rw [e]; exact h.row, by have := h.own; unfold World.ownsRow at *; rw [e]; exact this, h.bb, h.bp, h.plen, h.clen, h.pfit, h.cfit⟩
theorem IsSp.reads {w : World} {base b pb : Nat} {k : Option Addr} {P : List Nat} {C : List (Nat × Nat)} {v : Value} (h : IsSp w base b pb k P C v) : w.cell? ⟨b, 0, none⟩ = some (.pointer k) ∧ w.cell? ⟨b, 1, none⟩ = some (.slice (some ⟨pb, 0, none⟩) P.length P.length) ∧ w.cell? ⟨b, 2, none⟩ = some v := by
  refine ⟨?_, ?_, ?_⟩ <;> rw [Lib.cell_of_heap h.head] <;> rfl
theorem IsSp.place {w : World} {base b pb : Nat} {k : Option Addr} {P : List Nat} {C : List (Nat × Nat)} {v : Value} (h : IsSp w base b pb k P C v) {i p : Nat} (hp : P[i]? = some p) : p ≤ 1073741824 ∧ w.cell? ⟨pb, i, none⟩ = some (.int .i32 (p : Int)) := by
  refine ⟨h.pfit p (List.mem_of_getElem? hp), ?_⟩
  rw [Lib.cell_of_heap h.row]
  simp [spCells, hp, spV]
/-- A cell is read. -/
theorem IsSp.at {w : World} {base b pb : Nat} {k : Option Addr} {P : List Nat} {C : List (Nat × Nat)} {v : Value} (h : IsSp w base b pb k P C v) {j o x : Nat} (hj : C[j]? = some (o, x)) : ∃ g cap, v = .slice (some ⟨g, 0, none⟩) C.length cap ∧ g < w.heap.size ∧ o ≤ 16777217 ∧ x ≤ 16777217 ∧
    w.cell? ⟨g, j * 2, none⟩ = some (.int .i32 (o : Int)) ∧ w.cell? ⟨g, j * 2 + 1, none⟩ = some (.int .i32 (x : Int)) := by
  have hl := (List.getElem?_eq_some_iff.1 hj).1
  obtain ⟨g, cap, rfl, _⟩ := World.ownsRow.form h.own (by omega)
  have hf := h.cfit _ (List.mem_of_getElem? hj)
  refine ⟨g, cap, rfl, (h.own.lt g rfl).2, hf.1, hf.2, ?_, ?_⟩
  · rw [h.own.cellAt (j * 2) (by omega)]
    exact flCells_at C j 0 hj (by omega)
  · rw [h.own.cellAt (j * 2 + 1) (by omega)]
    exact flCells_at C j 1 hj (by omega)
theorem IsSp.sl {w : World} {base b pb : Nat} {k : Option Addr} {P : List Nat} {C : List (Nat × Nat)} {v : Value} (h : IsSp w base b pb k P C v) : ∃ a cap, v = .slice a C.length cap := owns_sl h.own

/-- A table of a set: its links, and the rows of all states. -/
structure IsSparse (w : World) (p : Option Addr) (us S : List (List UInt8)) (C : List (Nat × Nat)) : Prop where
  tab : ∃ base b pb k q y F P v, p = some ⟨b, 0, none⟩ ∧ IsSp w base b pb k P C v ∧ IsLink w k q y us S S.length F ∧ SpOk us S S.length P C
theorem IsSparse.below {w w' : World} {p : Option Addr} {us S : List (List UInt8)} {C : List (Nat × Nat)} (h : IsSparse w p us S C) (hb : Below w.heap.size w w') : IsSparse w' p us S C := by
  obtain ⟨base, b, pb, k, q, y, F, P, v, h1, h2, h3, h4⟩ := h.tab
  exact ⟨base, b, pb, k, q, y, F, P, v, h1, h2.below hb, h3.below hb, h4⟩
end Go.Proofs.YtlbgigkkjlfklaaGreat

namespace Go.Proofs.YtlbgigkkjlfklaaGreat
open Go.RowKit

/-- A type that no such table is made of. -/
structure OthS (T : TypeId) : Prop where
  tab : 67 ≠ T
  num : 21 ≠ T
  cel : 107 ≠ T
theorem IsSp.other {T : TypeId} {w w' : World} {base b pb : Nat} {k : Option Addr} {P : List Nat} {C : List (Nat × Nat)} {v : Value} (h : IsSp w base b pb k P C v) (ho : Other T w w') (hT : OthS T) : IsSp w' base b pb k P C v :=
  ⟨ho _ _ _ _ hT.tab h.head, ho _ _ _ _ hT.num h.row, ho.owns hT.cel h.own, h.bb, h.bp, h.plen, h.clen, h.pfit, h.cfit⟩
theorem IsSparse.other {T : TypeId} {w w' : World} {p : Option Addr} {us S : List (List UInt8)} {C : List (Nat × Nat)} (h : IsSparse w p us S C) (ho : Other T w w') (hT : OthS T) (hL : OthT T) : IsSparse w' p us S C := by
  obtain ⟨base, b, pb, k, q, y, F, P, v, h1, h2, h3, h4⟩ := h.tab
  exact ⟨base, b, pb, k, q, y, F, P, v, h1, h2.other ho hT, h3.other ho hL, h4⟩
end Go.Proofs.YtlbgigkkjlfklaaGreat

namespace Go.Proofs.YtlbgigkkjlfklaaGreat
open Go.RowKit

theorem splen_any {w : World} {base b pb : Nat} {k : Option Addr} {P : List Nat} {C : List (Nat × Nat)} {v : Value} (h : IsSp w base b pb k P C v) : Calls Tryz.prog 54 #[.pointer (some ⟨b, 0, none⟩)] w fun e w' => e = .returned (.int .i64 (P.length : Int)) ∧ w' = w := by
  have c1 := h.reads.2.1
  clear h
  go_enter Tryz.func54, Tryz.ntmps54
  go_wp2
  go_ret
  exact ⟨rfl, rfl⟩
theorem spcells_any {w : World} {base b pb : Nat} {k : Option Addr} {P : List Nat} {C : List (Nat × Nat)} {v : Value} (h : IsSp w base b pb k P C v) : Calls Tryz.prog 32 #[.pointer (some ⟨b, 0, none⟩)] w fun e w' => e = .returned (.int .i64 (C.length : Int)) ∧ w' = w := by
  have c1 := h.reads.2.2
  obtain ⟨a, cap, rfl⟩ := h.sl
  clear h
  go_enter Tryz.func32, Tryz.ntmps32
  go_wp2
  go_ret
  exact ⟨rfl, rfl⟩
/-- A nil table. -/
theorem splen_nil (w : World) : Calls Tryz.prog 54 #[.pointer none] w fun e w' => e = .returned (.int .i64 0) ∧ w' = w := by
  go_enter Tryz.func54, Tryz.ntmps54
  go_wp2
  go_ret
  exact ⟨rfl, rfl⟩
theorem spcells_nil (w : World) : Calls Tryz.prog 32 #[.pointer none] w fun e w' => e = .returned (.int .i64 0) ∧ w' = w := by
  go_enter Tryz.func32, Tryz.ntmps32
  go_wp2
  go_ret
  exact ⟨rfl, rfl⟩

set_option maxHeartbeats 1000000 in
theorem sptaken_any {w : World} {base b pb : Nat} {k : Option Addr} {P : List Nat} {C : List (Nat × Nat)} {v : Value} (h : IsSp w base b pb k P C v) (j : Nat) : Calls Tryz.prog 65 #[.pointer (some ⟨b, 0, none⟩), .int .i64 (j : Int)] w fun e w' => e = .returned (.bool (tkC C j)) ∧ w' = w := by
  have c2 := h.reads.2.2
  by_cases hj : j < C.length
  · obtain ⟨o, x, hx⟩ : ∃ o x, C[j]? = some (o, x) := ⟨_, _, List.getElem?_eq_getElem hj⟩
    obtain ⟨g, cap, rfl, hg, ho, hxl, e0, e1⟩ := h.at hx
    rw [tk_in hx]
    clear h hx
    have g0 : (0 : Int) ≤ (j : Int) := by omega
    have g1 : (j : Int) < (C.length : Int) := by omega
    generalize C.length = m at *
    by_cases h0 : 0 < x
    · have q0 : (0 : Int) < (x : Int) := by omega
      rw [decide_eq_true h0]
      go_enter Tryz.func65, Tryz.ntmps65
      go_wp2
      go_ret
      exact ⟨rfl, rfl⟩
    · obtain rfl : x = 0 := by omega
      go_enter Tryz.func65, Tryz.ntmps65
      go_wp2
      go_ret
      exact ⟨rfl, rfl⟩
  · obtain ⟨a, cap, rfl⟩ := h.sl
    rw [tk_out (by omega)]
    clear h
    have g1 : ¬ (j : Int) < (C.length : Int) := by omega
    have g2 : decide ((j : Int) < (C.length : Int)) = false := decide_eq_false g1
    generalize C.length = m at *
    go_enter Tryz.func65, Tryz.ntmps65
    go_wp2
    go_ret
    exact ⟨rfl, rfl⟩
end Go.Proofs.YtlbgigkkjlfklaaGreat
