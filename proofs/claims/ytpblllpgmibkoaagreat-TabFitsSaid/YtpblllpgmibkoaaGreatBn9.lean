/-
  Texts put together: DnFi, ClT, ByT, Arr, ClN, ClNs, DnN, TbC, TbQ.
-/
import Derived.Test.YtpblllpgmibkoaaGreatBn8
import Derived.Test.YtpblllpgmibkoaaGreatBn5
import Derived.Test.YtpblllpgmibkoaaGreatBn2
import Derived.Deep.WholeRow
import Derived.Lib.Builder
import Derived.Laws.IdiomStrings
import Derived.Laws.Tables
import Derived.WalkKit
import Derived.Test.YtpblllpgmibkoaaGreatBn6
import Derived.Laws.Rows
import Derived.Laws.MakeOwn
import Derived.OneCell
set_option linter.unusedSimpArgs false
set_option linter.unusedVariables false
namespace Go.Proofs.YtpblllpgmibkoaaGreat
open Go.RowKit

theorem kids_few (us : List (List UInt8)) (q : List UInt8) : (kidsL us q).length ≤ 256 := Nat.le_trans (List.length_filter_le _ _) (by unfold bytU; simp)
/-- Of the first m states the rows are known; all others hold nothing. -/
structure RwOk (us S : List (List UInt8)) (W m : Nat) (L : List Nat) : Prop where
  known : ∀ j t, j < m → S[j]? = some t → seg L W j = rwF us S t
  zero : ∀ j, m ≤ j → j < S.length → seg L W j = List.replicate W 0

set_option maxRecDepth 100000 in
set_option maxHeartbeats 8000000 in
theorem dnfill_any {w0 w : World} {b g : Nat} {pc k q p : Option Addr} {us S : List (List UInt8)} {Fl : List (Nat × Nat)} {W : Nat} {L : List Nat}
    (hL : IsLink w0 k q p us S S.length Fl) (hC : HasCls w0 pc (ofC us) (bcK us 256) W) (hW : W = (bcK us 256).length + 1) (hb : Below w0.heap.size w0 w) (hg : w0.heap.size ≤ g) (hbb : w0.heap.size ≤ b)
    (hT : IsTb w b g pc S.length W L) (i : Nat) {s : List UInt8} (hs : S[i]? = some s) (hR : RwOk us S W i L) :
    Calls Tryz.prog 58 #[.pointer (some ⟨b, 0, none⟩), .pointer k, .int .i64 (i : Int)] w fun e w' => e = .returned (.tuple #[]) ∧ ∃ L', IsTb w' b g pc S.length W L' ∧ RwOk us S W (i + 1) L' ∧ Below w0.heap.size w0 w' := by
  have hil := (List.getElem?_eq_some_iff.1 hs).1
  have hst := hL.tr.st
  have hnd := slx_nodup hst.1
  have hroot := hL.root
  have h0 := hL.mem
  have hfew := hL.tr.few.2.2
  have hcb : (bcK us 256).length ≤ 1000 := by have := bc_length us 256; omega
  obtain ⟨x, y, hF, hx, _⟩ := hL.ok.at_ i s hil hs
  have hxl := (List.getElem?_eq_some_iff.1 hx).1
  -- what the copied row says
  have hrow : seg L W x = rwP us S s [] := by
    by_cases e : s = []
    · subst e
      obtain rfl := rise_same hst.1 hx hroot
      obtain rfl := rise_same hst.1 hs hroot
      rw [rwP_root, ← hW]
      exact hR.zero 0 (Nat.le_refl _) hil
    · rw [rwP_fall us S e]
      exact hR.known x _ (hL.less hx hs (fb_less e)) hx
  have hsz := hb.size
  have hD : IsDn w b g pc S.length W L (ofC us) (bcK us 256) := ⟨hT, hC.below hb, hcb⟩
  have HR1 := Lib.hid (dnrow_in hD i hil)
  have HFl := Lib.hid (lkfail_any (hL.below hb).has (i : Int))
  rw [flOf_in hF] at HFl
  have HR2 := Lib.hid (fun w2 (h : Below w.heap.size w w2) => dnrow_in (hD.below h) x hxl)
  have HLk := Lib.hid hL
  have HCl := Lib.hid hC
  have HT := Lib.hid hT
  have HOk := Lib.hid hR
  have HS := Lib.hid hs
  have HROW := Lib.hid hrow
  have HB := Lib.hid hb
  have hslen : (seg L W x).length = W := seg_length hT.len hxl
  have hslc : (dnCells (seg L W x)).length = W := by rw [dnCells_length]; exact hslen
  have hin := seg_in (W := W) hil
  rw [← hT.len] at hin
  have HIN := Lib.hid hin
  have HSL := Lib.hid hslen
  have HSC := Lib.hid hslc
  have HWW := Lib.hid hW
  have hsz32 := dn32_info
  clear hL hC hW hb hT hs hR hF hx hD hrow hslen hslc hin
  go_enter Tryz.func58, Tryz.ntmps58
  go_wp2_with fail
  refine HR1.out.mono ?_
  rintro e w' ⟨rfl, hw'⟩
  obtain rfl := hw'.symm
  clear hw' HR1
  go_wp2_with fail
  refine HFl.out.mono ?_
  rintro e w2 ⟨rfl, hb2⟩
  have HR3 := Lib.hid (HR2.out w2 hb2)
  have HT2 := Lib.hid (HT.out.below hb2)
  have HB2 := Lib.hid (HB.out.trans (hb2.mono hsz))
  clear HR2 HFl hb2 HB
  go_wp2_with fail
  refine HR3.out.mono ?_
  rintro e w' ⟨rfl, hw'⟩
  obtain rfl := hw'.symm
  clear hw' HR3
  have hsrc : ∀ j v, (dnCells (seg L W x))[j]? = some v → w2.cell? ((⟨g, x * W, none⟩ : Addr).add j) = some v := fun j v hj => by
    unfold dnCells at hj
    rw [List.getElem?_map] at hj
    cases hz : (seg L W x)[j]? with
    | none => rw [hz] at hj; cases hj
    | some z =>
      rw [hz] at hj
      cases hj
      rw [addPlain]
      exact (HT2.out.seg_cell hz).2.2
  have HSRC := Lib.hid hsrc
  clear hsrc
  go_wp2_with (refine wpList_copy_into rfl (.tmp 14) (.tmp 19) 65 65 rfl 21 Tryz.underlying65 hsz32 g (i * W) W W ⟨g, x * W, none⟩ W W rfl rfl (dnCells L) 21 HT2.out.row (dnCells (seg L W x)) (by rw [HSC.out]; exact (Nat.min_self W).symm) HSRC.out (by rw [HSC.out, dnCells_length]; exact HIN.out) (dnOne _) ?_)
  intro w3 hI3 hrow3
  have HT3 := Lib.hid (HT2.out.lay hil HSL.out (fun z hz => HT.out.fit z (seg_mem hz)) hI3 hrow3.out)
  have HB3 : Hid (Below w0.heap.size w0 w3) := Lib.hid (HB2.out.trans ⟨hI3.os, hI3.tape, hI3.output, Nat.le_of_eq hI3.size.symm, fun k hk => hI3.block k (by omega)⟩)
  have HZ3 : Hid (seg (splice L (i * W) (seg L W x)) W i = rwP us S s []) := Lib.hid (by
    rw [seg_splice_same HT.out.len hil HSL.out]; exact HROW.out)
  have HO3 : Hid (∀ j, j ≠ i → seg (splice L (i * W) (seg L W x)) W j = seg L W j) := Lib.hid (fun j hj => seg_splice_other HT.out.len hil HSL.out (Ne.symm hj))
  clear hrow3 hI3 HSRC HSC HSL HT2 HB2 HROW HIN
  generalize splice L (i * W) (seg L W x) = L3 at *
  have hs3 := HB3.out.size
  have HTr := Lib.hid (fun (W1 : World) (h : Below w0.heap.size w0 W1) => lktrie_any (HLk.out.below h).has)
  have HBy := Lib.hid (ts_bytes (HLk.out.below HB3.out).tr i HS.out)
  go_wp2_with fail
  refine (HTr.out w3 HB3.out).mono ?_
  rintro e w' ⟨rfl, hw'⟩
  obtain rfl := hw'.symm
  clear hw'
  go_wp2_with fail
  refine HBy.out.mono ?_
  rintro e w4 ⟨rfl, hb4⟩
  have HT4 := Lib.hid (HT3.out.below hb4)
  have HB4 := Lib.hid (HB3.out.trans (hb4.mono hs3))
  clear HBy hb4 HT3 HB3 hs3
  obtain ⟨K, hK⟩ : ∃ K, kidsL us s = K := ⟨_, rfl⟩
  rw [hK]
  have hKl : K.length ≤ 256 := by rw [← hK]; exact kids_few us s
  have HK := Lib.hid hK
  clear hK
  have hcv := run_bytes_of_string (P := Tryz.prog) w4 9 70 5 ⟨K.toArray⟩ Tryz.underlying9 Tryz.underlying70 Tryz.underlying5
  rw [bsize] at hcv
  obtain ⟨cp, hcp⟩ : ∃ cp, grownCap w4 K.length 0 5 = cp := ⟨_, rfl⟩
  rw [hcp] at hcv
  have HKC : Hid (∀ j (c : UInt8), K[j]? = some c → (bytesRow ⟨K.toArray⟩ cp)[j]? = some (Value.int .u8 (c.toNat : Int))) := Lib.hid (fun j c hj => by
    obtain ⟨h1, h2⟩ := List.getElem?_eq_some_iff.1 hj
    have := bytesRow_at ⟨K.toArray⟩ cp j (by simpa using h1)
    rw [this]
    simp [h2])
  generalize bytesRow ⟨K.toArray⟩ cp = cells at *
  have hs4 := HB4.out.size
  have HX : Hid ((w4.alloc (.cells cells 5 (cells.size, cells.size + 1))).drew.heap[w4.heap.size]? = some (.cells cells 5 (cells.size, cells.size + 1))) := Lib.hid (heap_alloc_new w4 _)
  have b5 : Below w4.heap.size w4 (w4.alloc (.cells cells 5 (cells.size, cells.size + 1))).drew := ((Below.refl _ _).alloc (Nat.le_refl _) _).drew
  have HT5 := Lib.hid (HT4.out.below b5)
  have HB5 := Lib.hid (HB4.out.trans (b5.mono hs4))
  have HXG : Hid (w4.heap.size ≠ g) := Lib.hid (fun e => by have := HT4.out.ltg; omega)
  clear b5 HT4 HB4 hcp
  go_wp2_with fail
  generalize (w4.alloc (.cells cells 5 (cells.size, cells.size + 1))).drew = w5 at *
  generalize w4.heap.size = X at *
  go_loopw [27] (fun v wr => ∃ (j : Nat) (L' : List Nat), j ≤ K.length ∧ v = .int .i64 j ∧ Hid (IsTb wr b g pc S.length W L') ∧ Hid (seg L' W i = rwP us S s (K.take j)) ∧ Hid (∀ m, m ≠ i → seg L' W m = seg L W m) ∧ Hid (wr.heap[X]? = some (.cells cells 5 (cells.size, cells.size + 1))) ∧ Hid (Below w0.heap.size w0 wr)) (fun v _ => K.length - (RowKit.intOf v).toNat)
  case atStart => exact ⟨0, L3, Nat.zero_le _, rfl, HT5, HZ3, HO3, HX, HB5⟩
  case round =>
    clear HT5 HZ3 HO3 HX HB5
    obtain ⟨j, L', hj, rfl, HTj, HZj, HOj, HXj, HBj⟩ := hrel
    have hsj := HBj.out.size
    by_cases hlt : j < K.length
    · obtain ⟨c, hc⟩ : ∃ c, K[j]? = some c := ⟨_, List.getElem?_eq_getElem hlt⟩
      have c0 : wr.cell? ⟨X, j, none⟩ = some (.int .u8 (c.toNat : Int)) := by
        rw [Lib.cell_of_heap HXj.out]
        exact HKC.out j c hc
      have hck : c ∈ kidsL us s := by rw [HK.out]; exact List.mem_of_getElem? hc
      have hin : s ++ [c] ∈ S := (hst.2 _).2 (.inr (kids_mem.1 hck))
      have HN := Lib.hid (ts_next (HLk.out.below HBj.out).tr i HS.out c)
      have HTk : Hid (K.take (j + 1) = K.take j ++ [c]) := Lib.hid (by
        obtain ⟨hk', e⟩ := List.getElem?_eq_some_iff.1 hc
        rw [List.take_succ_eq_append_getElem hk', e])
      have HHas := Lib.hid (kid_has (us := us) (S := S) hck)
      have HIn := Lib.hid hin
      have g0 : (0 : Int) ≤ (j : Int) := by omega
      have g1 : (j : Int) < (K.length : Int) := by omega
      have hcl := c.toNat_lt
      clear hc hck hin
      go_wp2_with fail
      refine (HTr.out wr HBj.out).mono ?_
      rintro e w' ⟨rfl, hw'⟩
      obtain rfl := hw'.symm
      clear hw'
      go_wp2_with fail
      refine HN.out.mono ?_
      rintro e w6 ⟨⟨h1, _⟩, hb6⟩
      obtain ⟨n, rfl, hn⟩ := h1 HIn.out
      have hnl := (List.getElem?_eq_some_iff.1 hn).1
      have HE := Lib.hid (dn_is hnd (show S[n]? = some (lgL S (s ++ [c])) by rw [lg_hit HIn.out]; exact hn))
      have HT6 := Lib.hid (HTj.out.below hb6)
      have HX6 : Hid (w6.heap[X]? = some (.cells cells 5 (cells.size, cells.size + 1))) := Lib.hid ((hb6.block X (heap_lt HXj.out)).trans HXj.out)
      have HB6 := Lib.hid (HBj.out.trans (hb6.mono hsj))
      have c1 := HT6.out.reads.1
      have HO := Lib.hid (clof_any (HCl.out.below HB6.out) c.toNat hcl)
      have hkl : ofC us c.toNat < W := by rw [HWW.out]; exact of_few us c
      clear h1 hn hb6 HN HTj HXj HBj hsj
      have HSET := Lib.hid (rwP_set (S := S) (s := s) (ks := K.take j) HHas.out)
      obtain ⟨kc, hkc⟩ : ∃ kc, ofC us c.toNat = kc := ⟨_, rfl⟩
      rw [hkc] at HO hkl HSET
      clear hkc
      have HSG : Hid ((seg L' W i).length = W) := Lib.hid (seg_length HT6.out.len hil)
      obtain ⟨u, hu⟩ : ∃ u, (seg L' W i)[kc]? = some u := ⟨_, List.getElem?_eq_getElem (by rw [HSG.out]; exact hkl)⟩
      have c2 := (HT6.out.seg_cell hu).2.2
      have f2 := HT6.out.free (i * W + kc)
      have w32 : IntKind.i32.wrap (n : Int) = (n : Int) := by
        rw [IntKind.wrap_i32]; omega
      have g2 : (0 : Int) ≤ (kc : Int) := by omega
      have g3 : (kc : Int) < (W : Int) := by omega
      have HP := Lib.hid (HT6.out.put (i * W + kc) n (by omega))
      have HP1 := Lib.hid (seg_set_same HT6.out.len hil hkl n)
      have HP2 : Hid (∀ m, m ≠ i → seg (L'.set (i * W + kc) n) W m = seg L' W m) := Lib.hid (fun m hm => seg_set_other (Ne.symm hm) hkl n)
      clear hu HSG
      have HZ7 : Hid (seg (L'.set (i * W + kc) n) W i = rwP us S s (K.take (j + 1))) := Lib.hid (by
        rw [HP1.out, HZj.out, ← HE.out, HSET.out, HTk.out])
      have HO7 : Hid (∀ m, m ≠ i → seg (L'.set (i * W + kc) n) W m = seg L W m) := Lib.hid (fun m hm => (HP2.out m hm).trans (HOj.out m hm))
      have HX7 : Hid ((w6.setCell ⟨g, i * W + kc, none⟩ (.int .i32 (n : Int))).heap[X]? = some (.cells cells 5 (cells.size, cells.size + 1))) := Lib.hid ((put_other HXG.out _).trans HX6.out)
      have HB7 : Hid (Below w0.heap.size w0 (w6.setCell ⟨g, i * W + kc, none⟩ (.int .i32 (n : Int)))) := Lib.hid (HB6.out.setCell hg _)
      clear HP1 HP2 HZj HOj HSET HTk HX6 HB6 HT6 HE HHas HIn
      go_wp2_with fail
      refine HO.out.mono ?_
      rintro e w' ⟨rfl, hw'⟩
      obtain rfl := hw'.symm
      clear hw' HO
      go_wp2
      exact ⟨⟨j + 1, _, by omega, by go_num, HP, HZ7, HO7, HX7, HB7⟩, by simp [RowKit.intOf]; omega⟩
    · obtain rfl : j = K.length := by omega
      have hz : ¬ (K.length : Int) < (K.length : Int) := by omega
      have HRW : Hid (RwOk us S W (i + 1) L') := Lib.hid ⟨fun m t hm ht => by
          by_cases e : m = i
          · subst e
            obtain rfl : t = s := Option.some.inj (ht.symm.trans HS.out)
            rw [HZj.out, List.take_length, ← HK.out]
            exact rwP_all hst hnd hroot t (List.mem_of_getElem? ht)
          · rw [HOj.out m e]
            exact HOk.out.known m t (by omega) ht,
        fun m hm hl => by
          rw [HOj.out m (by omega)]
          exact HOk.out.zero m (by omega) hl⟩
      clear HZj HOj HXj HOk HKC
      go_wp2
      go_end0
      exact ⟨rfl, L', HTj.out, HRW.out, HBj.out⟩
end Go.Proofs.YtpblllpgmibkoaaGreat

namespace Go.Proofs.YtpblllpgmibkoaaGreat
open Go.RowKit

/-- An array that says this of each byte. -/
def SayAt (cs : Array Value) (T : Nat → Bool) : Prop := cs.size = 256 ∧ ∀ c, c < 256 → cs[c]? = some (.bool (T c))
/-- .. in block b. -/
def IsSay (w : World) (b : Nat) (T : Nat → Bool) : Prop := ∃ cs : Array Value, w.heap[b]? = some (.cells cs 126 (0, 0)) ∧ SayAt cs T
theorem IsSay.lt {w : World} {b : Nat} {T : Nat → Bool} (h : IsSay w b T) : b < w.heap.size := by
  obtain ⟨cs, h, _⟩ := h
  exact heap_lt h
theorem IsSay.heap {w W : World} {b : Nat} {T : Nat → Bool} (h : IsSay w b T) (e : W.heap = w.heap) : IsSay W b T := by
  unfold IsSay at *
  rw [e]
  exact h
theorem IsSay.congr {w : World} {b : Nat} {T U : Nat → Bool} (h : IsSay w b T) (e : ∀ c, c < 256 → T c = U c) : IsSay w b U := by
  obtain ⟨cs, h1, h2, h3⟩ := h
  exact ⟨cs, h1, h2, fun c hc => by rw [← e c hc]; exact h3 c hc⟩
theorem IsSay.put {w : World} {b c : Nat} {T : Nat → Bool} (h : IsSay w b T) (hc : c < 256) : IsSay (w.setCell ⟨b, c, none⟩ (.bool true)) b (fun d => T d || c == d) := by
  obtain ⟨cs, h1, h2, h3⟩ := h
  refine ⟨_, put_heap h1 _, by rw [Array.size_setIfInBounds]; exact h2, fun d hd => ?_⟩
  by_cases e : c = d
  · subst e
    rw [Array.getElem?_setIfInBounds_self_of_lt (by omega)]
    simp
  · rw [Array.getElem?_setIfInBounds_ne (by omega), h3 d hd]
    simp [e]
theorem IsSay.cell {w : World} {b c : Nat} {T : Nat → Bool} (h : IsSay w b T) (hc : c < 256) : w.cell? ⟨b, c, none⟩ = some (.bool (T c)) := by
  obtain ⟨cs, h1, _, h2⟩ := h
  rw [Lib.cell_of_heap h1]
  exact h2 c hc
theorem IsSay.free {w : World} {b i : Nat} {T : Nat → Bool} (h : IsSay w b T) : w.frozen? ⟨b, i, none⟩ = false := by
  obtain ⟨cs, h1, _⟩ := h
  exact Lib.frozen_of_heap h1 _

/-- One of its cells, where the array is a value. -/
theorem say_index {cs : Array Value} {T : Nat → Bool} (h : SayAt cs T) (m : Nat) (hm : m < 256) (w : World) : (Instr.index 126 (.agg cs) (.int .i64 (m : Int))).run Tryz.prog w = .ok (.bool (T m)) w := by
  have hc := h.2 m hm
  have hs := h.1
  have hn : (0 : Int) ≤ (m : Int) ∧ (m : Int) < ((256 : Nat) : Int) := by omega
  have a4 := Tryz.isAgg4
  have z4 := Tryz.sizeOf4
  simp [Instr.index, run_underlying Tryz.underlying126, asIntOf, hn, part, a4, z4, hc, go_sem]
  intro h'
  omega

/-- A new array. -/
def sayZero : Array Value := Array.replicate 256 (.bool false)
theorem say_info : (Tryz.prog.info? 126).map (fun i => (i.zero, i.size)) = some (some (.agg sayZero), 256) := by kernel_rfl
theorem say_zero : SayAt sayZero (fun _ => false) := by
  unfold sayZero
  exact ⟨Array.size_replicate .., fun c hc => by rw [Array.getElem?_replicate, if_pos hc]⟩

/-- The cells of new classes. -/
def clZero : Array Value := (List.replicate 256 (Value.int .i64 0) ++ [Value.string ByteArray.empty]).toArray
theorem cl_built : Tryz.prog.built 109 [] = some clZero := by kernel_rfl
end Go.Proofs.YtpblllpgmibkoaaGreat

namespace Go.Proofs.YtpblllpgmibkoaaGreat
open Go.RowKit

theorem bubyte_info : (Tryz.prog.info? 5).map (fun i => (i.zero, i.size, i.bytes)) = some (some (.int .u8 0), 1, 1) := by kernel_rfl
theorem bubyte_one {x : Int} : ∀ v ∈ [Value.int .u8 x], v.oneCell' = true := by
  intro v hv
  simp at hv
  subst hv; rfl
theorem bucells_snoc (l : List UInt8) (c : Nat) (hc : c < 256) : Lib.byteCells (l ++ [UInt8.ofNat c]) = Lib.byteCells l ++ [.int .u8 (c : Int)] := by
  simp [Lib.byteCells]; omega

theorem u8_wrap (k : Nat) (h : k < 256) : IntKind.u8.wrap (k : Int) = (k : Int) := by
  have e : (2 ^ IntKind.u8.bits : Int) = 256 := rfl
  have s : IntKind.u8.signed = false := rfl
  unfold IntKind.wrap
  rw [e, s]
  simp
  omega
/-- A slice of bytes of the call's own, as a string says it. -/
theorem own_text {w : World} {base : Nat} {v : Value} {l : List UInt8} (h : w.ownsRow base 5 1 v l.length (Lib.byteCells l)) : (convert 70 9 v).run Tryz.prog w = .ok (.string ⟨l.toArray⟩) w := by
  rcases h.2 with ⟨rfl, h0⟩ | ⟨g, cap, cur, rfl, _⟩
  · obtain rfl := List.length_eq_zero_iff.1 h0
    rw [run_convert_bytes_string w 70 9 5 none 0 0 Tryz.underlying70 Tryz.underlying5 Tryz.underlying9]
    rfl
  · refine run_convert_bytes_back w 70 9 5 _ _ l Tryz.underlying70 Tryz.underlying5 Tryz.underlying9 (fun j hj => ?_)
    exact h.cells (g := g) rfl j _ (by simp [Lib.byteCells, List.getElem?_eq_getElem hj])
end Go.Proofs.YtpblllpgmibkoaaGreat

namespace Go.Proofs.YtpblllpgmibkoaaGreat
open Go.RowKit

theorem reps_at (x y : Value) (n : Nat) : (∀ c, c < n → (List.replicate n x ++ [y])[c]? = some x) ∧ (List.replicate n x ++ [y])[n]? = some y := by
  refine ⟨fun c hc => ?_, ?_⟩
  · rw [List.getElem?_append_left (by rw [List.length_replicate]; exact hc), List.getElem?_replicate, if_pos hc]
  · rw [List.getElem?_append_right (by rw [List.length_replicate]; exact Nat.le_refl _), List.length_replicate, Nat.sub_self]
    rfl
theorem wpList_built {P : Program} {w : World} {ops : Array Oper} {rest : List Oper} {o : Oper} {a : Act} {Q : Exit → Act → World → Prop} (hg : o.guard = none) (t : TypeId) (ho : o.op = .build t #[]) (cells : Array Value) (hc : P.built t [] = some cells)
    (h : wpList P ops Q rest (a.put o.dst (.agg cells)) w) : wpList P ops Q (o :: rest) a w :=
  wpList_build hg t #[] ho (by simp [hc]) (by simpa [hc] using h)

theorem wpList_built1 {P : Program} {w : World} {ops : Array Oper} {rest : List Oper} {o : Oper} {a : Act} {Q : Exit → Act → World → Prop} (hg : o.guard = none) (t : TypeId) (k : Nat) (x : Operand) (ho : o.op = .build t #[(k, x)]) (v : Value) (hv : a.eval x = v) (cells : Array Value) (hc : P.built t [(k, v)] = some cells)
    (h : wpList P ops Q rest (a.put o.dst (.agg cells)) w) : wpList P ops Q (o :: rest) a w :=
  wpList_build hg t #[(k, x)] ho (by simp [hv, hc]) (by simpa [hv, hc] using h)
end Go.Proofs.YtpblllpgmibkoaaGreat

namespace Go.Proofs.YtpblllpgmibkoaaGreat
open Go.RowKit

theorem clZero_at : ClsAt clZero (fun _ => 0) [] := by
  obtain ⟨h1, h2⟩ := reps_at (.int .i64 0) (.string ByteArray.empty) 256
  unfold clZero
  refine ⟨fun c hc => ?_, ?_⟩
  · rw [List.getElem?_toArray]; exact h1 c hc
  · rw [List.getElem?_toArray]; exact h2
set_option maxRecDepth 100000 in
set_option maxHeartbeats 4000000 in
theorem clnew_by (p : Value) (ws : List (List UInt8)) (w : World) (hn : ws.length ≤ 1000000) (he : ∀ t ∈ ws, t.length ≤ 1000000)
    (hL : ∀ W, Below w.heap.size w W → Calls Tryz.prog 77 #[p] W fun e w' => e = .returned (.int .i64 (ws.length : Int)) ∧ w' = W)
    (hA : ∀ (W : World) (k : Nat) (t : List UInt8), Below w.heap.size w W → ws[k]? = some t → Calls Tryz.prog 78 #[p, .int .i64 (k : Int)] W fun e w' => e = .returned (.tuple #[.string ⟨t.toArray⟩, .bool true]) ∧ w' = W) :
    Calls Tryz.prog 55 #[p] w fun e w' => ∃ b, e = .returned (.pointer (some ⟨b, 0, none⟩)) ∧ w.heap.size ≤ b ∧ IsCls w' b (ofC ws) (bcK ws 256) ∧ Below w.heap.size w w' := by
  have HA := Lib.hid hA
  have HE := Lib.hid he
  obtain ⟨hv, hvs⟩ := zero_of_info say_info
  have HZ : Hid (IsSay (w.alloc (.cells sayZero 126)) w.heap.size (fun _ => false)) := Lib.hid ⟨_, heap_alloc_new w _, say_zero⟩
  have B0 : Below w.heap.size w (w.alloc (.cells sayZero 126)) := (Below.refl _ w).alloc (Nat.le_refl _) _
  obtain ⟨zc, hzc⟩ : ∃ zc, sayZero = zc := ⟨_, rfl⟩
  rw [hzc] at hv HZ B0
  have HVS := Lib.hid hvs
  clear hzc hA he hvs
  obtain ⟨n, hnn⟩ : ∃ n, ws.length = n := ⟨_, rfl⟩
  rw [hnn] at hn hL
  have HNN := Lib.hid hnn
  have HLn := Lib.hid hL
  clear hnn hL
  go_enter Tryz.func55, Tryz.ntmps55
  go_wp2_with fail
  refine (HLn.out _ B0).mono ?_
  rintro e w' ⟨rfl, hw⟩
  obtain rfl := hw.symm
  clear hw HLn
  obtain ⟨W0, hW0⟩ : ∃ W0, w.alloc (.cells zc 126) = W0 := ⟨_, rfl⟩
  rw [hW0] at HZ B0 ⊢
  clear hW0 hv
  obtain ⟨b, hb⟩ : ∃ b, w.heap.size = b := ⟨_, rfl⟩
  rw [hb] at HZ ⊢
  have HBE := Lib.hid hb
  clear hb
  have HB0 : Hid (Below w.heap.size w W0) := Lib.hid B0
  clear B0
  go_wp2
  go_loopw [14] (fun i wr => ∃ k : Nat, k ≤ n ∧ i = .int .i64 k ∧ Hid (IsSay wr b (hasC (ws.take k))) ∧ Hid (Below w.heap.size w wr)) (fun i _ => n - (RowKit.intOf i).toNat)
  case atStart => exact ⟨0, Nat.zero_le _, rfl, Lib.hid (HZ.out.congr fun c _ => rfl), HB0⟩
  case round =>
    obtain ⟨k, hk, rfl, HK, HBk⟩ := hrel
    by_cases hlt : k < n
    · obtain ⟨t, hf⟩ : ∃ t, ws[k]? = some t := ⟨_, List.getElem?_eq_getElem (show k < ws.length by rw [HNN.out]; exact hlt)⟩
      have htl := HE.out t (List.mem_of_getElem? hf)
      have HA1 := Lib.hid (HA.out wr k t HBk.out hf)
      have HT0 : Hid (IsSay wr b (fun c => hasC (ws.take k) c || inT (t.take 0) c)) := Lib.hid (HK.out.congr fun c _ => by simp [inT])
      have HDn := Lib.hid (fun c => hasC_snoc hf c)
      have S1 := Lib.hid (bsize t)
      clear HK hf
      go_wp2_with fail
      refine HA1.out.mono ?_
      rintro e w' ⟨rfl, hw⟩
      obtain rfl := hw.symm
      clear hw HA1
      obtain ⟨W1, hW1⟩ : ∃ W1, wr = W1 := ⟨_, rfl⟩
      rw [hW1] at HT0 HBk ⊢
      clear hW1
      go_wp2
      go_loopw [25] (fun i wr => ∃ j : Nat, j ≤ t.length ∧ i = .int .i64 j ∧ Hid (IsSay wr b (fun c => hasC (ws.take k) c || inT (t.take j) c)) ∧ Hid (Below w.heap.size w wr)) (fun i _ => t.length - (RowKit.intOf i).toNat)
      case atStart => exact ⟨0, Nat.zero_le _, rfl, HT0, HBk⟩
      case round =>
        obtain ⟨j, hj, rfl, HJ, HBj⟩ := hrel
        by_cases hlt2 : j < t.length
        · have hjz : j < (⟨t.toArray⟩ : ByteArray).size := by rw [bsize]; exact hlt2
          have hb := byteAt t j hlt2 hjz
          obtain ⟨x, hx⟩ : ∃ x, t[j] = x := ⟨_, rfl⟩
          rw [hx] at hb
          have hxl := x.toNat_lt
          have c1 := HJ.out.cell hxl
          have f1 : wr.frozen? ⟨b, x.toNat, none⟩ = false := HJ.out.free
          have g0 : (0 : Int) ≤ (j : Int) := by omega
          have g1 : (j : Int) < (t.length : Int) := by omega
          have g2 : (x.toNat : Int) < 256 := by omega
          have HX : Hid (t[j]? = some x) := Lib.hid (by rw [List.getElem?_eq_getElem hlt2, hx])
          have HN : Hid (IsSay (wr.setCell ⟨b, x.toNat, none⟩ (.bool true)) b (fun c => hasC (ws.take k) c || inT (t.take (j + 1)) c)) := Lib.hid ((HJ.out.put hxl).congr fun c _ => by
            rw [inT_snoc HX.out c, Bool.or_assoc])
          have HB2 : Hid (Below w.heap.size w (wr.setCell ⟨b, x.toNat, none⟩ (.bool true))) := Lib.hid (HBj.out.setCell (by rw [HBE.out]; exact Nat.le_refl _) _)
          clear HJ HBj HX hx
          go_wp2
          exact ⟨⟨j + 1, by omega, by go_num, HN, HB2⟩, by simp [RowKit.intOf]; omega⟩
        · obtain rfl : j = t.length := by omega
          have hz : ¬ (t.length : Int) < (t.length : Int) := by omega
          have HN : Hid (IsSay wr b (hasC (ws.take (k + 1)))) := Lib.hid (HJ.out.congr fun c _ => by rw [HDn.out c, List.take_length])
          clear HJ
          go_wp2
          exact ⟨⟨k + 1, by omega, by go_num, HN, HBj⟩, by simp [RowKit.intOf]; omega⟩
    · obtain rfl : k = n := by omega
      have hz : ¬ (k : Int) < (k : Int) := by omega
      have HI : Hid (IsSay wr b (hasC ws)) := Lib.hid (HK.out.congr fun c _ => by rw [List.take_of_length_le (by rw [HNN.out]; exact Nat.le_refl _)])
      clear HK
      have hcb := cl_built
      have HC0 : Hid (IsCls (wr.alloc (.cells clZero 109)) wr.heap.size (fun _ => 0) []) := Lib.hid ⟨_, heap_alloc_new wr _, clZero_at⟩
      generalize clZero = zk at hcb HC0
      have hbw := HI.out.lt
      obtain ⟨cs, hh, hsay⟩ := HI.out
      have hcs := hsay.1
      have HH : Hid ((wr.alloc (.cells zk 109)).heap[b]? = some (.cells cs 126 (0, 0))) := Lib.hid (by rw [Lib.alloc_old _ _ _ hbw]; exact hh)
      have HB2 : Hid (Below w.heap.size w (wr.alloc (.cells zk 109))) := Lib.hid (HBk.out.alloc HBk.out.size _)
      have HBB : Hid (w.heap.size ≤ wr.heap.size) := Lib.hid HBk.out.size
      have HS2 : Hid ((wr.alloc (.cells zk 109)).heap.size = wr.heap.size + 1) := Lib.hid (by simp)
      clear hh HI HBk
      go_wp2_with (refine wpList_built rfl 109 rfl zk hcb ?_)
      obtain ⟨W2, hW2⟩ : ∃ W2, wr.alloc (.cells zk 109) = W2 := ⟨_, rfl⟩
      obtain ⟨q, hq⟩ : ∃ q, wr.heap.size = q := ⟨_, rfl⟩
      rw [hq] at HBB HS2
      rw [hW2] at HB2 HH HS2
      rw [hW2, hq] at HC0
      rw [hW2, hq]
      clear hW2 hq hcb
      refine wp_load_row 126 _ rfl b rfl 126 cs (0, 0) _ HH.out Tryz.underlying126 rfl (by rw [HVS.out, hcs]) ?_
      have HCS := Lib.hid (fun (m : Nat) (hm : m < 256) (w : World) => say_index hsay m hm w)
      clear hsay HH HVS
      obtain ⟨i0, hi, hz0, hz1, hz2⟩ := info_parts bubyte_info
      go_wp2
      go_loopw [9, 37] (fun v i wr => ∃ m : Nat, m ≤ 256 ∧ i = .int .i64 m ∧ Hid (wr.ownsRow W2.heap.size 5 1 v (bcK ws m).length (Lib.byteCells (bcK ws m))) ∧ Hid (IsCls wr q (fun c => if c < m then ofC ws c else 0) []) ∧ Hid (Below w.heap.size w wr) ∧ W2.heap.size ≤ wr.heap.size) (fun _ i _ => 256 - (RowKit.intOf i).toNat)
      case atStart => exact ⟨0, Nat.zero_le _, rfl, Lib.hid (World.ownsRow_nil _ _ _ _), Lib.hid (HC0.out.congr fun c _ => rfl), HB2, Nat.le_refl _⟩
      case round =>
        obtain ⟨m, hm, rfl, HO, HK, HBm, hsz⟩ := hrel
        obtain ⟨a, cap, rfl⟩ := owns_slice HO.out
        by_cases hlt3 : m < 256
        · have hc1 := HCS.out m hlt3
          have g0 : (0 : Int) ≤ (m : Int) := by omega
          have g1 : (m : Int) < 256 := by omega
          have hw8 : IntKind.u8.wrap (m : Int) = (m : Int) := u8_wrap m hlt3
          cases hq : hasC ws m with
          | true =>
            simp only [hq] at hc1
            have hl := bc_length ws m
            have HV := Lib.hid (bc_hit hq)
            have HF : Hid (ofC ws m = (bcK ws (m + 1)).length) := Lib.hid (by rw [of_hit hq, bc_hit hq]; simp)
            have c1 := HK.out.cell hlt3
            rw [if_neg (Nat.lt_irrefl m)] at c1
            have hown := HO.out
            clear hq
            go_wp2_with (at_builtin; refine wpList_append_own _ rfl _ _ 70 rfl W2.heap.size 5 i0 (.int .u8 0) 1 1 Tryz.underlying70 hi hz0 hz1 hz2 rfl (by decide) _ _ _ rfl (hown.alloc _) ⟨wr.heap.size, 0, none⟩ 1 1 [.int .u8 (m : Int)] rfl rfl (one_news (heap_alloc_new _ _)) bubyte_one (by unfold maxLen; omega) (by omega) (by simp; omega) ?_)
            intro v' w3 hown3 hgrow _
            obtain ⟨a3, cap3, rfl⟩ := owns_slice hown3
            have HW := Lib.hid (show w3.ownsRow W2.heap.size 5 1 (.slice a3 ((bcK ws m).length + 1) cap3) (bcK ws (m + 1)).length (Lib.byteCells (bcK ws (m + 1))) by rw [HV.out, bucells_snoc _ _ hlt3, List.length_append]; exact hown3)
            have B3 : Below W2.heap.size wr w3 := ⟨hgrow.os, hgrow.tape, hgrow.output, Nat.le_trans (by simp) hgrow.size, fun i hi => by
              rw [hgrow.block i (by simp; omega) (fun e => by have := (hown.lt i e.symm).1; omega), Lib.alloc_old _ _ i (by omega)]⟩
            have hs3 := B3.size
            have HQ2 : Hid (q < W2.heap.size) := Lib.hid (by rw [HS2.out]; omega)
            have HK3 : Hid (IsCls w3 q (fun c => if c < m then ofC ws c else 0) []) := Lib.hid (by
              obtain ⟨cs', e1, e2⟩ := HK.out
              exact ⟨cs', (B3.block q HQ2.out).trans e1, e2⟩)
            have c3 := HK3.out.cell hlt3
            rw [if_neg (Nat.lt_irrefl m)] at c3
            have f3 : w3.frozen? ⟨q, m, none⟩ = false := HK3.out.free
            have HL3 : Hid ((bcK ws m).length + 1 = (bcK ws (m + 1)).length) := Lib.hid (by rw [HV.out]; simp)
            have HB3 : Hid (Below w.heap.size w w3) := Lib.hid (HBm.out.trans ⟨B3.os, B3.tape, B3.output, B3.size, fun i hi => B3.block i (by have := HB2.out.size; omega)⟩)
            have HI3 : Hid (Into q w3 (w3.setCell ⟨q, m, none⟩ (.int .i64 (((bcK ws m).length : Int) + 1)))) := Lib.hid ((Into.refl q w3).set m _)
            have HW4 := Lib.hid (HI3.out.owns HQ2.out HW.out)
            have HB4 : Hid (Below w.heap.size w (w3.setCell ⟨q, m, none⟩ (.int .i64 (((bcK ws m).length : Int) + 1)))) := Lib.hid (HB3.out.setCell HBB.out _)
            have HK4 : Hid (IsCls (w3.setCell ⟨q, m, none⟩ (.int .i64 (((bcK ws m).length : Int) + 1))) q (fun c => if c < m + 1 then ofC ws c else 0) []) := Lib.hid (by
              have e : (((bcK ws m).length : Int) + 1) = (((bcK ws m).length + 1 : Nat) : Int) := by omega
              rw [e]
              refine (HK3.out.put hlt3).congr fun c _ => ?_
              by_cases e : c = m
              · subst e
                simp only [↓reduceIte]
                rw [if_pos (Nat.lt_succ_self c), HF.out, HL3.out]
              · simp only [if_neg e]
                by_cases e2 : c < m
                · rw [if_pos e2, if_pos (by omega)]
                · rw [if_neg e2, if_neg (by omega)])
            have hsz4 := Nat.le_trans (Nat.le_trans hsz hs3) (Nat.le_of_eq HI3.out.size.symm)
            clear hown hown3 hgrow HK HO HV B3 HK3 HB3 HI3 HW hs3 hsz
            go_wp2
            exact ⟨⟨m + 1, by omega, by go_num, HW4, HK4, HB4, hsz4⟩, by simp [RowKit.intOf]; omega⟩
          | false =>
            simp only [hq] at hc1
            have HV := Lib.hid (bc_miss hq)
            have HF : Hid (ofC ws m = 0) := Lib.hid (of_miss hq)
            clear hq
            go_wp2
            exact ⟨⟨m + 1, by omega, by go_num, by rw [HV.out]; exact HO, Lib.hid (HK.out.congr fun c _ => by
              by_cases e : c = m
              · subst e
                rw [if_neg (Nat.lt_irrefl c), if_pos (Nat.lt_succ_self c), HF.out]
              · by_cases e2 : c < m
                · rw [if_pos e2, if_pos (by omega)]
                · rw [if_neg e2, if_neg (by omega)]), HBm, hsz⟩, by simp [RowKit.intOf]; omega⟩
        · obtain rfl : m = 256 := by omega
          have hz : ¬ ((256 : Nat) : Int) < 256 := by omega
          have hct := own_text HO.out
          have c1 := HK.out.last
          have f1 : wr.frozen? ⟨q, 256, none⟩ = false := HK.out.free
          have HI : Hid (IsCls wr q (ofC ws) []) := Lib.hid (HK.out.congr fun c hc => by rw [if_pos hc])
          have HL := Lib.hid (HI.out.putB (bcK ws 256))
          have HB3 : Hid (Below w.heap.size w (wr.setCell ⟨q, 256, none⟩ (.string ⟨(bcK ws 256).toArray⟩))) := Lib.hid (HBm.out.setCell HBB.out _)
          clear HK
          go_wp2
          go_ret
          exact ⟨q, rfl, HBB.out, HL.out, HB3.out⟩
end Go.Proofs.YtpblllpgmibkoaaGreat

namespace Go.Proofs.YtpblllpgmibkoaaGreat
open Go.RowKit


theorem clnew_all {w : World} {p : Option Addr} {us : List (List UInt8)} (h : IsPats w p us) :
    Calls Tryz.prog 55 #[.pointer p] w fun e w' => ∃ b, e = .returned (.pointer (some ⟨b, 0, none⟩)) ∧ w.heap.size ≤ b ∧ HasCls w' (some ⟨b, 0, none⟩) (ofC us) (bcK us 256) ((bcK us 256).length + 1) ∧ Below w.heap.size w w' := by
  have go : Calls Tryz.prog 55 #[.pointer p] w (fun e w' => ∃ b, e = .returned (.pointer (some ⟨b, 0, none⟩)) ∧ w.heap.size ≤ b ∧ IsCls w' b (ofC us) (bcK us 256) ∧ Below w.heap.size w w') → Calls Tryz.prog 55 #[.pointer p] w fun e w' => ∃ b, e = .returned (.pointer (some ⟨b, 0, none⟩)) ∧ w.heap.size ≤ b ∧ HasCls w' (some ⟨b, 0, none⟩) (ofC us) (bcK us 256) ((bcK us 256).length + 1) ∧ Below w.heap.size w w' := by
    intro h
    refine h.mono ?_
    rintro e w' ⟨b, rfl, h1, h2, h3⟩
    exact ⟨b, rfl, h1, .inr ⟨b, rfl, h2, rfl⟩, h3⟩
  rcases h with ⟨rfl, rfl⟩ | ⟨b, rfl, h, hp⟩
  · exact go (clnew_by _ [] w (by simp) (by simp) (fun W _ => ptlen_nil W) (fun W k t _ h => by simp at h))
  · exact go (clnew_by _ us w (by have := hp.few; omega) (fun t ht => by have := hp.each t ht; omega) (fun W hW => ptlen_any (h.below hW)) (fun W k t hW hk => ptat_in (h.below hW) k t hk))

end Go.Proofs.YtpblllpgmibkoaaGreat

namespace Go.Proofs.YtpblllpgmibkoaaGreat
open Go.RowKit

/-- A table of a set, whose states these are. -/
structure IsDense (w : World) (b g : Nat) (pc : Option Addr) (us S : List (List UInt8)) (L : List Nat) : Prop where
  dn : IsDn w b g pc S.length ((bcK us 256).length + 1) L (ofC us) (bcK us 256)
  rows : ∀ j t, S[j]? = some t → seg L ((bcK us 256).length + 1) j = rwF us S t
  st : IsSt us S
  root : S[0]? = some []
theorem IsDense.below {w w' : World} {b g : Nat} {pc : Option Addr} {us S : List (List UInt8)} {L : List Nat} (h : IsDense w b g pc us S L) (hb : Below w.heap.size w w') : IsDense w' b g pc us S L := ⟨h.dn.below hb, h.rows, h.st, h.root⟩

theorem dn32_all : (Tryz.prog.info? 21).map (fun i => (i.zero, i.size, i.bytes)) = some (some (.int .i32 0), 1, 4) := by kernel_rfl
theorem made_rows (n : Nat) : madeCells (Value.int .i32 0).cells n = (dnCells (List.replicate n 0)).toArray := by
  have e : (Value.int .i32 0).cells = #[.int .i32 0] := by rfl
  rw [e]
  unfold madeCells dnCells dnV
  apply Array.ext
  · simp
  · intro i h1 h2
    simp [Nat.mod_one]
theorem make_rows (c : Nat) (w : World) (hc : c ≤ 4311744769) : (Instr.makeSlice 65 (.int .i64 (c : Int)) (.int .i64 (c : Int))).run Tryz.prog w = .ok (.slice (some ⟨w.heap.size, 0, none⟩) c c) (w.alloc (.cells (dnCells (List.replicate c 0)).toArray 21)) := by
  obtain ⟨i0, hi, hz0, hz1, hz2⟩ := info_parts dn32_all
  have h := run_make (P := Tryz.prog) w 65 21 i0 (.int .i32 0) Tryz.underlying65 hi hz0 .i64 .i64 c c (by omega) (Int.le_refl _) (by rw [hz2]; omega) (by omega)
  rw [h, hz1, Int.toNat_natCast, Nat.mul_one, made_rows]

set_option maxRecDepth 100000 in
set_option maxHeartbeats 4000000 in
theorem dnnew_any {w : World} {p : Option Addr} {us : List (List UInt8)} (hp : IsPats w p us) (ha : Asc us) (hn : us.Nodup) :
    Calls Tryz.prog 28 #[.pointer p] w fun e w' => ∃ b g pc S L, e = .returned (.pointer (some ⟨b, 0, none⟩)) ∧ IsDense w' b g pc us S L ∧ Below w.heap.size w w' := by
  have HK := Lib.hid (lknew_any hp ha hn)
  have HC := Lib.hid (fun (W : World) (h : Below w.heap.size w W) => clnew_all (hp.below h))
  have hcb := bc_length us 256
  clear hp ha hn
  go_enter Tryz.func28, Tryz.ntmps28
  go_wp2_with fail
  refine HK.out.mono ?_
  rintro e w1 ⟨k, q, S, F, rfl, hL, hb1⟩
  have HC1 := Lib.hid (HC.out w1 hb1)
  have hs1 := hb1.size
  have hfew := hL.tr.few.2.2
  have HL1 := Lib.hid hL
  clear HK HC hL
  go_wp2_with fail
  refine HC1.out.mono ?_
  rintro e w2 ⟨pc, rfl, _, hC, hb2⟩
  have HL2 := Lib.hid (HL1.out.below hb2)
  have HB2 := Lib.hid (hb1.trans (hb2.mono hs1))
  have HC2 := Lib.hid hC
  have HTr := Lib.hid (lktrie_any HL2.out.has)
  have HLen := Lib.hid (ts_len HL2.out.tr)
  have HCL := Lib.hid (cllen_any hC (by omega))
  clear HL1 HC1 hC hb1 hb2 hs1
  obtain ⟨W, hW⟩ : ∃ W, (bcK us 256).length + 1 = W := ⟨_, rfl⟩
  rw [hW] at HC2 HCL
  have HW := Lib.hid hW
  have hWl : W ≤ 257 := by omega
  have hWp : 0 < W := by omega
  obtain ⟨n, hnS⟩ : ∃ n, S.length = n := ⟨_, rfl⟩
  rw [hnS] at HLen hfew
  have HN := Lib.hid hnS
  have hmost : n * W ≤ 4311744769 := by
    have := Nat.mul_le_mul hfew hWl
    omega
  have hmul : IntKind.i64.wrap ((n : Int) * (W : Int)) = ((n * W : Nat) : Int) := by
    rw [show (n : Int) * (W : Int) = ((n * W : Nat) : Int) by simp, IntKind.wrap_i64]; omega
  obtain ⟨m, hm⟩ : ∃ m, n * W = m := ⟨_, rfl⟩
  rw [hm] at hmul hmost
  have HM := Lib.hid hm
  have hmake := make_rows m w2 hmost
  clear hW hnS hm hcb
  go_wp2_with fail
  refine HTr.out.mono ?_
  rintro e w' ⟨rfl, hw'⟩
  obtain rfl := hw'.symm
  clear hw' HTr
  go_wp2_with fail
  refine HLen.out.mono ?_
  rintro e w' ⟨rfl, hw'⟩
  obtain rfl := hw'.symm
  clear hw' HLen
  go_wp2_with fail
  refine HCL.out.mono ?_
  rintro e w' ⟨rfl, hw'⟩
  obtain rfl := hw'.symm
  clear hw' HCL
  have hb3 : Below w2.heap.size w2 (w2.alloc (.cells (dnCells (List.replicate m 0)).toArray 21)) := (Below.refl _ _).alloc (Nat.le_refl _) _
  have hh3 := heap_alloc_new w2 (.cells (dnCells (List.replicate m 0)).toArray 21)
  have hz3 : (w2.alloc (.cells (dnCells (List.replicate m 0)).toArray 21)).heap.size = w2.heap.size + 1 := by simp
  generalize w2.alloc (.cells (dnCells (List.replicate m 0)).toArray 21) = w3 at *
  have HZ3 := Lib.hid hz3
  clear hz3
  go_wp2_with fail
  have HS2 := Lib.hid (HB2.out.size)
  have hlr : (List.replicate m (0 : Nat)).length = m := List.length_replicate
  have HT0 : Hid (IsTb (w3.alloc (.cells #[.pointer (some ⟨pc, 0, none⟩), .int .i64 (n : Int), .slice (some ⟨w2.heap.size, 0, none⟩) m m] 98)) w3.heap.size w2.heap.size (some ⟨pc, 0, none⟩) S.length W (List.replicate m 0)) := Lib.hid (by
    refine ⟨?_, ?_, by rw [hlr, HN.out, HM.out], by rw [HN.out]; exact hfew, hWl, hWp, fun x hx => by rw [List.eq_of_mem_replicate hx]; omega⟩
    · rw [hlr, HN.out]; exact heap_alloc_new w3 _
    · rw [Below.heap_alloc _ _ _ (by have := HZ3.out; omega)]; exact hh3)
  have HB0 : Hid (Below w2.heap.size w2 (w3.alloc (.cells #[.pointer (some ⟨pc, 0, none⟩), .int .i64 (n : Int), .slice (some ⟨w2.heap.size, 0, none⟩) m m] 98))) := Lib.hid (hb3.alloc hb3.size _)
  have HR0 : Hid (RwOk us S W 0 (List.replicate m 0)) := Lib.hid ⟨fun j t hj => absurd hj (Nat.not_lt_zero _), fun j _ hj => by rw [← HM.out, ← HN.out]; exact seg_zero hj⟩
  have hs23 := hb3.size
  clear hh3 HZ3 hb3 hmake
  generalize (w3.alloc (.cells #[.pointer (some ⟨pc, 0, none⟩), .int .i64 (n : Int), .slice (some ⟨w2.heap.size, 0, none⟩) m m] 98)) = w4 at *
  generalize w3.heap.size = b at *
  go_loopw [25] (fun x wr => ∃ (i : Nat) (L : List Nat), i ≤ n ∧ x = .int .i64 i ∧ Hid (IsTb wr b w2.heap.size (some ⟨pc, 0, none⟩) S.length W L) ∧ Hid (RwOk us S W i L) ∧ Hid (Below w2.heap.size w2 wr)) (fun x _ => n - (RowKit.intOf x).toNat)
  case atStart => exact ⟨0, _, Nat.zero_le _, rfl, HT0, HR0, HB0⟩
  case round =>
    clear HT0 HR0 HB0
    obtain ⟨i, L, hi, rfl, HT, HR, HB⟩ := hrel
    by_cases hlt : i < n
    · obtain ⟨s, hs⟩ : ∃ s, S[i]? = some s := ⟨_, List.getElem?_eq_getElem (show i < S.length by rw [HN.out]; exact hlt)⟩
      have HF := Lib.hid (dnfill_any HL2.out HC2.out HW.out.symm HB.out (Nat.le_refl _) hs23 HT.out i hs HR.out)
      clear HT HR HB hs
      go_wp2_with fail
      refine HF.out.mono ?_
      rintro e w5 ⟨rfl, L', h1, h2, h3⟩
      have H1 := Lib.hid h1
      have H2 := Lib.hid h2
      have H3 := Lib.hid h3
      clear h1 h2 h3 HF
      go_wp2
      exact ⟨⟨i + 1, L', by omega, by go_num, H1, H2, H3⟩, by simp [RowKit.intOf]; omega⟩
    · obtain rfl : i = n := by omega
      have hz : ¬ (i : Int) < (i : Int) := by omega
      have HE : Hid (IsDense wr b w2.heap.size (some ⟨pc, 0, none⟩) us S L) := Lib.hid (by
        have hb := HB.out
        refine ⟨⟨?_, ?_, by have := HW.out; omega⟩, fun j t ht => ?_, HL2.out.tr.st, HL2.out.root⟩
        · rw [HW.out]; exact HT.out
        · rw [HW.out]; exact HC2.out.below hb
        · rw [HW.out]; exact HR.out.known j t (by rw [← HN.out]; exact (List.getElem?_eq_some_iff.1 ht).1) ht)
      have HBE := Lib.hid (HB2.out.trans (HB.out.mono HS2.out))
      clear HT HR HB
      go_wp2
      go_ret
      exact ⟨b, rfl, ⟨_, _, S, L, HE.out⟩, HBE.out⟩

/-- What a table tells. -/
theorem IsDense.nodup {w : World} {b g : Nat} {pc : Option Addr} {us S : List (List UInt8)} {L : List Nat} (h : IsDense w b g pc us S L) : S.Nodup := slx_nodup h.st.1
theorem IsDense.mem {w : World} {b g : Nat} {pc : Option Addr} {us S : List (List UInt8)} {L : List Nat} (h : IsDense w b g pc us S L) : [] ∈ S := st_root h.st
theorem ds_len {w : World} {b g : Nat} {pc : Option Addr} {us S : List (List UInt8)} {L : List Nat} (h : IsDense w b g pc us S L) : Calls Tryz.prog 32 #[.pointer (some ⟨b, 0, none⟩)] w fun e w' => e = .returned (.int .i64 (S.length : Int)) ∧ w' = w := dnlen_any h.dn.tb
theorem ds_step {w : World} {b g : Nat} {pc : Option Addr} {us S : List (List UInt8)} {L : List Nat} (h : IsDense w b g pc us S L) (i : Nat) {s : List UInt8} (hs : S[i]? = some s) (c : UInt8) : Calls Tryz.prog 35 #[.pointer (some ⟨b, 0, none⟩), .int .i64 (i : Int), .int .u8 (c.toNat : Int)] w fun e w' => e = .returned (.int .i64 (dnS S s c : Int)) ∧ w' = w :=
  dnstep_in h.dn i (List.getElem?_eq_some_iff.1 hs).1 c (by rw [h.rows i s hs]; exact rw_of h.st h.nodup h.root s c)
theorem ds_norow {w : World} {b g : Nat} {pc : Option Addr} {us S : List (List UInt8)} {L : List Nat} (h : IsDense w b g pc us S L) {s : Int} (hs : s < 0 ∨ (S.length : Int) ≤ s) : NoRow w (some ⟨b, 0, none⟩) s := fun W e => dnrow_out (h.dn.tb.heap e) s hs
theorem nil_norow (w : World) (s : Int) : NoRow w none s := fun W _ => dnrow_nil s W
end Go.Proofs.YtpblllpgmibkoaaGreat

namespace Go.Proofs.YtpblllpgmibkoaaGreat
open Go.RowKit

/-- The cells of numbers of four bytes. -/
def c32 (L : List Int) : List Value := L.map (Value.int .i32)
theorem c32_length (L : List Int) : (c32 L).length = L.length := List.length_map _
theorem c32_snoc (L : List Int) (x : Int) : c32 (L ++ [x]) = c32 L ++ [.int .i32 x] := by simp [c32]
theorem c32_one {x : Int} : ∀ v ∈ [Value.int .i32 x], v.oneCell' = true := by
  intro v hv
  simp at hv
  subst hv; rfl
/-- 'make([]int32, 0, c)'. -/
theorem make_cells (c : Nat) (w : World) (hc : c ≤ 4311744769) : ∃ w', (Instr.makeSlice 65 (.int .i64 0) (.int .i64 (c : Int))).run Tryz.prog w = .ok (.slice (some ⟨w.heap.size, 0, none⟩) 0 c) w' ∧
    w'.ownsRow w.heap.size 21 1 (.slice (some ⟨w.heap.size, 0, none⟩) 0 c) 0 (c32 []) ∧ Below w.heap.size w w' ∧ w'.heap.size = w.heap.size + 1 := by
  obtain ⟨i0, hi, hz0, hz1, hz2⟩ := info_parts dn32_all
  have h := run_make (P := Tryz.prog) w 65 21 i0 _ Tryz.underlying65 hi hz0 .i64 .i64 0 c (by omega) (by omega) (by rw [hz2]; omega) (by omega)
  rw [hz1, Int.toNat_natCast] at h
  refine ⟨_, h, ?_, (Below.refl _ _).alloc (Nat.le_refl _) _, by simp⟩
  exact World.ownsRow_made w _ c (Nat.le_refl _) (by unfold maxLen; omega) (size_madeCells _ _)
/-- An append to what the call owns leaves what lies ahead of it. -/
theorem tb_grow {w0 w w' : World} {b B : Nat} {o : Obj} {e : TypeId} {v : Value} {n : Nat} {xs : List Value} (hb : Below b w0 w) (hbB : b ≤ B) (hB : B ≤ w.heap.size) (hown : w.ownsRow B e 1 v n xs) (hg : (w.alloc o).grownBy w' v.ownBlock) :
    Below b w0 w' ∧ (∀ k, k < B → w'.heap[k]? = w.heap[k]?) ∧ w.heap.size ≤ w'.heap.size := by
  have hk : ∀ k, k < B → w'.heap[k]? = w.heap[k]? := fun k hk => by
    rw [hg.block k (by simp; omega) (fun e => by have := (hown.lt k e.symm).1; omega), Lib.alloc_old _ _ k (by omega)]
  have hs : w.heap.size ≤ w'.heap.size := Nat.le_trans (by simp) hg.size
  exact ⟨hb.trans ⟨hg.os, hg.tape, hg.output, hs, fun k h => hk k (by omega)⟩, hk, hs⟩
theorem mul_wrap (n K : Nat) (h : n * (K + 1) ≤ 4311744769) : IntKind.i64.wrap ((n : Int) * (1 + (K : Int))) = ((n * (K + 1) : Nat) : Int) := by
  have e : (n : Int) * (1 + (K : Int)) = ((n * (K + 1) : Nat) : Int) := by rw [Int.natCast_mul, Int.natCast_add, Int.add_comm 1]; rfl
  rw [e]
  generalize n * (K + 1) = m at *
  rw [IntKind.wrap_i64]; omega
/-- Rows behind a block, whose cells are the call's own. -/
theorem tab_of {w : World} {b B : Nat} {own : List UInt8} {R : List (List Int)} {v : Value} (h : w.heap[b]? = some (.cells #[.string ⟨own.toArray⟩, v] 67 (0, 0))) (hv : w.ownsRow B 21 1 v R.flatten.length (c32 R.flatten)) (hg : GoodT own R) : IsTab w b own R := by
  have hl := flat_len hg.len
  have hs := hg.some
  have hpos : 0 < R.flatten.length := by
    rw [hl]
    exact Nat.mul_pos (by omega) (by omega)
  obtain ⟨hx, ⟨_, h0⟩ | ⟨g, cap, cur, rfl, hB, hh, hc, hm, hs2, ht⟩⟩ := hv
  · omega
  · refine ⟨⟨g, 0, cap, by rw [← hl]; exact h, by rw [← hl]; exact hc, hm, fun i hi => ?_⟩, hg⟩
    have hv2 : w.ownsRow B 21 1 (.slice (some ⟨g, 0, none⟩) R.flatten.length cap) R.flatten.length (c32 R.flatten) := ⟨hx, .inr ⟨g, cap, cur, rfl, hB, hh, hc, hm, hs2, ht⟩⟩
    have hz : R.flatten[i]? = some (R.flatten.getD i 0) := by rw [List.getD_eq_getElem?_getD, List.getElem?_eq_getElem (show i < R.flatten.length by omega)]; rfl
    have hc2 := hv2.cells (g := g) rfl i (.int .i32 (R.flatten.getD i 0)) (by unfold c32; rw [List.getElem?_map, hz]; rfl)
    rw [addPlain] at hc2
    exact hc2

/-- Does a text begin as rows do? -/
theorem hdt_take (s : List UInt8) : Lib.hasPrefix s hdT = decide (s.take 4 = hdT) := by
  rw [Bool.eq_iff_iff]
  simp only [Lib.hasPrefix, List.isPrefixOf_iff_prefix, decide_eq_true_eq]
  rw [List.prefix_iff_eq_take]
  exact eq_comm

theorem ask_stuck {x : Int} (h : ¬ x = 0) (q : Bool) (e : Int) : askX x q e = x := by unfold askX; rw [if_neg (fun hh => h hh.1)]
theorem num_stuck {x : Int} (h : ¬ x = 0) (m : Int) (s : List UInt8) : numX x m s = x := by unfold numX; rw [if_neg h]

/-- What the reader's first calls tell, one behind the other. -/
theorem hd_run {s : List UInt8} {x1 y1 y2 y3 y4 y5 y6 n k : Int} {s1 s2 s3 s4 own : List UInt8}
    (e1 : askX 0 (Lib.hasPrefix s hdT) 15 = x1) (e2 : askX x1 (decide (4 ≤ s.length)) 4 = y1) (f1 : (if y1 = 0 then s.drop 4 else s) = s1)
    (e3 : numX y1 16777217 s1 = y2) (fn : (if y2 = 0 then tN s1 else 0) = n) (f2 : (if y2 = 0 then pasT s1 else s1) = s2)
    (e4 : askX y2 (decide (0 < n)) 14 = y3)
    (e5 : numX y3 256 s2 = y4) (fk : (if y4 = 0 then tN s2 else 0) = k) (f3 : (if y4 = 0 then pasT s2 else s2) = s3)
    (e6 : askX y4 (decide (k.toNat ≤ s3.length)) 4 = y5) (fo : (if y5 = 0 then s3.take k.toNat else []) = own) (f4 : (if y5 = 0 then s3.drop k.toNat else s3) = s4)
    (e7 : askX y5 (riseT own) 9 = y6) : y6 = hdE s ∧ (y6 = 0 → (hdN s : Int) = n ∧ hdO s = own ∧ hdR s = s4 ∧ hdK s = own.length ∧ 1 ≤ n) := by
  have z2 : ¬ y1 = 0 → y2 = y1 := fun h => by rw [← e3, num_stuck h]
  have z3 : ¬ y2 = 0 → y3 = y2 := fun h => by rw [← e4, ask_stuck h]
  have z4 : ¬ y3 = 0 → y4 = y3 := fun h => by rw [← e5, num_stuck h]
  have z5 : ¬ y4 = 0 → y5 = y4 := fun h => by rw [← e6, ask_stuck h]
  have z6 : ¬ y5 = 0 → y6 = y5 := fun h => by rw [← e7, ask_stuck h]
  rw [hdt_take] at e1
  unfold hdE hdO hdR hdN hdK
  by_cases c0 : s.take 4 = hdT
  · have hl : 4 ≤ s.length := by have := congrArg List.length c0; rw [List.length_take] at this; simp [hdT] at this; omega
    rw [decide_eq_true c0, ask_true] at e1
    subst e1
    rw [decide_eq_true hl, ask_true] at e2
    subst e2
    rw [if_pos rfl] at f1
    subst f1
    rw [if_pos c0]
    rw [numX, if_pos rfl] at e3
    by_cases c1 : nmE 16777217 (s.drop 4) = 0
    · have n1 := nm_ok c1
      rw [c1] at e3
      subst e3
      rw [if_pos rfl] at fn f2
      subst fn f2
      rw [if_pos c1]
      by_cases c2 : tN (s.drop 4) = 0
      · rw [if_pos c2]
        rw [c2, decide_eq_false (by omega)] at e4
        have h3 : y3 = 14 := by rw [← e4]; rfl
        have h4 := z4 (by omega)
        have h5 := z5 (by omega)
        have h6 := z6 (by omega)
        exact ⟨by omega, fun h => absurd h (by omega)⟩
      · rw [if_neg c2]
        rw [decide_eq_true (by omega), ask_true] at e4
        subst e4
        rw [numX, if_pos rfl] at e5
        by_cases c3 : nmE 256 (pasT (s.drop 4)) = 0
        · have n2 := nm_ok c3
          rw [c3] at e5
          subst e5
          rw [if_pos rfl] at fk f3
          subst fk f3
          rw [if_pos c3]
          by_cases c4 : (pasT (pasT (s.drop 4))).length < (tN (pasT (s.drop 4))).toNat
          · rw [if_pos c4]
            rw [decide_eq_false (by omega)] at e6
            have h5 : y5 = 4 := by rw [← e6]; rfl
            have h6 := z6 (by omega)
            exact ⟨by omega, fun h => absurd h (by omega)⟩
          · rw [if_neg c4]
            rw [decide_eq_true (by omega), ask_true] at e6
            subst e6
            rw [if_pos rfl] at fo f4
            subst fo f4
            cases c5 : riseT ((pasT (pasT (s.drop 4))).take (tN (pasT (s.drop 4))).toNat) with
            | true =>
              rw [c5, ask_true] at e7
              subst e7
              refine ⟨by simp, fun _ => ⟨by omega, rfl, rfl, by rw [List.length_take]; omega, by omega⟩⟩
            | false =>
              rw [c5] at e7
              have h6 : y6 = 9 := by rw [← e7]; rfl
              exact ⟨by rw [h6]; simp, fun h => absurd h (by omega)⟩
        · rw [if_neg c3]
          have h4 := z5 (by omega)
          have h6 := z6 (by omega)
          exact ⟨by omega, fun h => absurd h (by omega)⟩
    · rw [if_neg c1]
      have h3 := z3 (by omega)
      have h4 := z4 (by omega)
      have h5 := z5 (by omega)
      have h6 := z6 (by omega)
      exact ⟨by omega, fun h => absurd h (by omega)⟩
  · rw [if_neg c0]
    rw [decide_eq_false c0] at e1
    have h1 : x1 = 15 := by rw [← e1]; rfl
    subst h1
    rw [ask_stuck (by decide)] at e2
    have h2 := z2 (by omega)
    have h3 := z3 (by omega)
    have h4 := z4 (by omega)
    have h5 := z5 (by omega)
    have h6 := z6 (by omega)
    exact ⟨by omega, fun h => absurd h (by omega)⟩
end Go.Proofs.YtpblllpgmibkoaaGreat

namespace Go.Proofs.YtpblllpgmibkoaaGreat

/-- A state's numbers: its depth, and where each byte leads. -/
def rowT (us S : List (List UInt8)) (s : List UInt8) : List Int := (s.length : Int) :: (bcK us 256).map fun c => (dnS S s c : Int)
def ofT (us S : List (List UInt8)) : List (List Int) := S.map (rowT us S)
theorem ofT_length (us S : List (List UInt8)) : (ofT us S).length = S.length := List.length_map _
theorem ofT_at {us S : List (List UInt8)} {j : Nat} {s : List UInt8} (h : S[j]? = some s) : (ofT us S)[j]? = some (rowT us S s) := by simp [ofT, h]

theorem rise_iff {l : List UInt8} : ∀ {k : Nat}, riseK l k = true ↔ ∀ i, i + 1 < k → l.getD i 0 < l.getD (i + 1) 0
  | 0 => ⟨fun _ i hi => absurd hi (by omega), fun _ => rfl⟩
  | k + 1 => by
    rw [riseK, Bool.and_eq_true, rise_iff (k := k)]
    cases k with
    | zero => exact ⟨fun _ i hi => absurd hi (by omega), fun _ => ⟨fun i hi => absurd hi (by omega), rfl⟩⟩
    | succ k =>
      have e : (k + 1 == 0) = false := by simp
      rw [e, Bool.false_or, decide_eq_true_eq, Nat.add_sub_cancel]
      constructor
      · rintro ⟨h1, h2⟩ i hi
        rcases Nat.lt_or_ge (i + 1) (k + 1) with h | h
        · exact h1 i h
        · obtain rfl : i = k := by omega
          exact h2
      · intro h
        exact ⟨fun i hi => h i (by omega), h k (by omega)⟩
/-- The bytes of classes rise. -/
theorem bc_rise (us : List (List UInt8)) : riseT (bcK us 256) = true := by
  unfold riseT
  rw [rise_iff]
  intro i hi
  have e1 : (bcK us 256)[i]? = some (bcK us 256)[i] := List.getElem?_eq_getElem (by omega)
  have e2 : (bcK us 256)[i + 1]? = some (bcK us 256)[i + 1] := List.getElem?_eq_getElem hi
  obtain ⟨_, a2⟩ := (bc_at us i _).1 e1
  obtain ⟨_, b2⟩ := (bc_at us (i + 1) _).1 e2
  have := (of_lt (us := us) (a := (bcK us 256)[i].toNat) (b := (bcK us 256)[i + 1].toNat) (by omega) (by omega)).1 (by omega)
  simp only [List.getD, e1, e2, Option.getD_some]
  exact UInt8.lt_iff_toNat_lt.2 this

theorem st_len {us S : List (List UInt8)} (hs : IsSt us S) {n : Nat} (h : ∀ t ∈ us, t.length ≤ n) : ∀ t ∈ S, t.length ≤ n := fun t ht => by
  rcases (hs.2 t).1 ht with rfl | hb
  · simp
  · obtain ⟨q, hq, hpre⟩ := beg_iff.1 hb
    exact Nat.le_trans hpre.length_le (h q hq)

/-- They are rows as they may be. -/
theorem of_good {us S : List (List UInt8)} (hs : IsSt us S) (h0 : S[0]? = some []) (hl : ∀ t ∈ us, t.length ≤ 65535) (hm : S.length ≤ 16777217) : GoodT (bcK us 256) (ofT us S) := by
  have hnd := slx_nodup hs.1
  have hmem := st_root hs
  have hpos : 0 < S.length := (List.getElem?_eq_some_iff.1 h0).1
  refine ⟨bc_length us 256, bc_rise us, by rw [ofT_length]; exact hpos, by rw [ofT_length]; exact hm, fun j r hr => ?_⟩
  rw [ofT_length]
  unfold ofT at hr
  rw [List.getElem?_map] at hr
  cases hj : S[j]? with
  | none => rw [hj] at hr; cases hr
  | some s =>
    rw [hj] at hr
    obtain rfl : rowT us S s = r := by simpa using hr
    have hsl := st_len hs hl s (List.mem_of_getElem? hj)
    refine ⟨_, _, rfl, by omega, by omega, ?_, by rw [List.length_map], fun x hx => ?_⟩
    · constructor
      · intro h
        have : s = [] := List.eq_nil_of_length_eq_zero (by omega)
        subst this
        exact rise_same hs.1 hj h0
      · rintro rfl
        rw [h0] at hj
        cases hj
        rfl
    · obtain ⟨c, _, rfl⟩ := List.mem_map.1 hx
      have := dn_lt hnd hmem s c
      omega
/-- What they tell. -/
theorem of_dpt {us S : List (List UInt8)} {j : Nat} {s : List UInt8} (h : S[j]? = some s) : dptT (ofT us S) (j : Int) = (s.length : Int) := by
  rw [dpt_in (ofT_at h)]; rfl
theorem of_stp {us S : List (List UInt8)} (hs : IsSt us S) (h0 : S[0]? = some []) {j : Nat} {s : List UInt8} (h : S[j]? = some s) (c : UInt8) : stpT (bcK us 256) (ofT us S) (j : Int) c = (dnS S s c : Int) := by
  rcases index_cases (bcK us 256) c with ⟨hx, hn⟩ | ⟨k, hx, hk, hkl⟩
  · rw [stp_none (by omega)]
    have hf : hasC us c.toNat = false := by
      rw [Bool.eq_false_iff]
      intro ht
      have h1 := of_pos.2 ht
      exact hn (List.mem_of_getElem? ((bc_at us (ofC us c.toNat - 1) c).2 ⟨ht, by omega⟩))
    rw [dn_root (slx_nodup hs.1) h0 (lg_foreign hs hf s)]
    rfl
  · rw [stp_in (ofT_at h) hx]
    unfold rowT
    rw [Nat.add_comm 1 k]
    simp [List.getD, hk]
end Go.Proofs.YtpblllpgmibkoaaGreat
