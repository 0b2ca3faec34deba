/-
  Texts put together: LkS, TrCb, TrTb, DnF, LkN, LkNw, DnFi, ClT, ByT, Arr, ClN.
-/
import Derived.Test.YtjmlabggocfikaaGreatBn4
import Derived.Test.YtjmlabggocfikaaGreatBn6
import Derived.Laws.IdiomStrings
import Derived.Deep.RegionWith
import Derived.Test.YtjmlabggocfikaaGreatBn3
import Derived.Test.YtjmlabggocfikaaGreatBn2
import Derived.Deep.WholeRow
import Derived.Lib.Builder
import Derived.Laws.Tables
import Derived.WalkKit
import Derived.Laws.Rows
set_option linter.unusedSimpArgs false
set_option linter.unusedVariables false
namespace Go.Proofs.YtjmlabggocfikaaGreat
open Go.RowKit

/-- Of the first m states it is known where they fall back to. -/
structure FlOk (us S : List (List UInt8)) (m : Nat) (F : List (Nat × Nat)) : Prop where
  len : F.length = S.length
  at_ : ∀ (i : Nat) (s : List UInt8), i < m → S[i]? = some s → ∃ a b : Nat, F[i]? = some (a, b) ∧ S[a]? = some (fbL S s) ∧ S[b]? = some (fbL us s)
/-- Links of a trie of a set: of the first m states it is known where they fall back to. -/
structure IsLink (w : World) (k q p : Option Addr) (us S : List (List UInt8)) (m : Nat) (F : List (Nat × Nat)) : Prop where
  has : HasLk w k q F
  tr : IsTrie w q p us S
  asc : Asc us
  ok : FlOk us S m F
theorem IsLink.below {w w' : World} {k q p : Option Addr} {us S : List (List UInt8)} {m : Nat} {F : List (Nat × Nat)} (h : IsLink w k q p us S m F) (hb : Below w.heap.size w w') : IsLink w' k q p us S m F :=
  ⟨h.has.below hb, h.tr.below hb, h.asc, h.ok⟩
theorem IsLink.root {w : World} {k q p : Option Addr} {us S : List (List UInt8)} {m : Nat} {F : List (Nat × Nat)} (h : IsLink w k q p us S m F) : S[0]? = some [] := by
  obtain ⟨R, _, _, h3, _⟩ := h.tr
  exact h3.root
theorem IsLink.zero {w : World} {k q p : Option Addr} {us S : List (List UInt8)} {m : Nat} {F : List (Nat × Nat)} (h : IsLink w k q p us S m F) {i : Nat} {s : List UInt8} (hs : S[i]? = some s) : i = 0 ↔ s = [] := by
  constructor
  · rintro rfl
    rw [h.root] at hs
    exact (Option.some.inj hs).symm
  · rintro rfl
    exact rise_same h.tr.st.1 hs h.root
theorem IsLink.less {w : World} {k q p : Option Addr} {us S : List (List UInt8)} {m : Nat} {F : List (Nat × Nat)} (h : IsLink w k q p us S m F) {i j : Nat} {s t : List UInt8} (hs : S[i]? = some s) (ht : S[j]? = some t) (hl : s.length < t.length) : i < j := rise_lt h.tr.st.1 hs ht (.inl hl)
theorem IsLink.mem {w : World} {k q p : Option Addr} {us S : List (List UInt8)} {m : Nat} {F : List (Nat × Nat)} (h : IsLink w k q p us S m F) : [] ∈ S := st_root h.tr.st
theorem IsLink.flen {w : World} {k q p : Option Addr} {us S : List (List UInt8)} {m : Nat} {F : List (Nat × Nat)} (h : IsLink w k q p us S m F) : F.length = S.length := h.ok.len

set_option maxHeartbeats 1000000 in
theorem lkstep_out {w : World} {k q : Option Addr} {F : List (Nat × Nat)} (h : HasLk w k q F) (s : Int) (hs : s < 0 ∨ (F.length : Int) ≤ s) (c : UInt8) : Calls Tryz.prog 42 #[.pointer k, .int .i64 s, .int .u8 (c.toNat : Int)] w fun e w' => e = .returned (.int .i64 0) ∧ w' = w := by
  have HS := Lib.hid (lkis_out h s hs)
  clear h hs
  go_enter Tryz.func42, Tryz.ntmps42
  go_wp2_with fail
  refine HS.out.mono ?_
  rintro e w' ⟨rfl, rfl⟩
  go_wp2
  go_ret
  exact ⟨rfl, rfl⟩

set_option maxHeartbeats 2000000 in
theorem lkstep_in {w : World} {k q p : Option Addr} {us S : List (List UInt8)} {m : Nat} {F : List (Nat × Nat)} (h : IsLink w k q p us S m F) (i : Nat) {s : List UInt8} (hs : S[i]? = some s) (hi : i < m) (c : UInt8) :
    Calls Tryz.prog 42 #[.pointer k, .int .i64 (i : Int), .int .u8 (c.toNat : Int)] w fun e w' => ∃ n : Nat, e = .returned (.int .i64 (n : Int)) ∧ S[n]? = some (lgL S (s ++ [c])) ∧ Below w.heap.size w w' := by
  have hil := (List.getElem?_eq_some_iff.1 hs).1
  have HS := Lib.hid (lkis_in h.has i (by rw [h.flen]; exact hil))
  obtain ⟨base, b, g, rfl, hk⟩ := h.has.some (i := i) (by rw [h.flen]; exact hil)
  have HH := Lib.hid h
  have HK := Lib.hid hk
  have c0 := hk.reads.1
  have hi0 := Lib.hid hi
  have hs0 := Lib.hid hs
  clear h hk hil hi hs
  go_enter Tryz.func42, Tryz.ntmps42
  go_wp2_with fail
  refine HS.out.mono ?_
  rintro e w' ⟨rfl, hw'⟩
  obtain rfl := hw'.symm
  clear hw' HS
  go_wp2
  go_loopw [1, 7, 8] (fun x _ _ wr => ∃ (j : Nat) (t : List UInt8), x = .int .i64 j ∧ Hid (j < m) ∧ Hid (S[j]? = some t) ∧ Hid (lgL S (s ++ [c]) = lgL S (t ++ [c])) ∧ Below w.heap.size w wr) (fun x _ _ _ => (RowKit.intOf x).toNat)
  case atStart => exact ⟨i, s, rfl, hi0, hs0, Lib.hid rfl, Below.refl _ _⟩
  case round =>
    clear hi0 hs0 c0
    obtain ⟨j, t, rfl, hj, ht, hg, hbe⟩ := hrel
    have hsz := hbe.size
    have c0 := (HK.out.below hbe).reads.1
    have HN := Lib.hid (ts_next (HH.out.below hbe).tr j ht.out c)
    by_cases hm : t ++ [c] ∈ S
    · go_wp2_with fail
      refine HN.out.mono ?_
      rintro e w2 ⟨⟨h1, _⟩, hb2⟩
      obtain ⟨n, rfl, hn⟩ := h1 hm
      have HE := Lib.hid (show S[n]? = some (lgL S (s ++ [c])) by rw [hg.out, lg_hit hm]; exact hn)
      have d2 := Lib.hid (hbe.trans (hb2.mono hsz))
      clear h1 hb2 HN hn hm hbe hg ht
      go_wp2
      go_ret
      exact ⟨n, rfl, HE.out, d2.out⟩
    · by_cases h0 : j = 0
      · have e0 := (HH.out.zero ht.out).1 h0
        subst h0
        have HE := Lib.hid (show S[0]? = some (lgL S (s ++ [c])) by
          rw [hg.out, lg_miss hm, e0]; exact HH.out.root)
        go_wp2_with fail
        refine HN.out.mono ?_
        rintro e w2 ⟨⟨_, h1⟩, hb2⟩
        obtain rfl := h1 hm
        have d2 := Lib.hid (hbe.trans (hb2.mono hsz))
        clear h1 hb2 HN hm hbe hg ht e0
        go_wp2
        go_ret
        exact ⟨0, rfl, HE.out, d2.out⟩
      · have e0 : t ≠ [] := fun e => h0 ((HH.out.zero ht.out).2 e)
        have g0 : ((j : Int) == 0) = false := by simp; omega
        have g1 : ¬ (j : Int) = 0 := by omega
        have g2 : (j == 0) = false := by simp; omega
        obtain ⟨a, a', hF, ha, _⟩ := HH.out.ok.at_ j t hj.out ht.out
        have hlt := HH.out.less ha ht.out (fb_less e0)
        have HF := Lib.hid (fun W hb => lkfail_any ((HH.out.below (w' := W) hb).has) (j : Int))
        rw [flOf_in hF] at HF
        have HE := Lib.hid (show lgL S (s ++ [c]) = lgL S (fbL S t ++ [c]) by
          rw [hg.out]; exact lg_step HH.out.tr.st c e0 hm)
        have hj2 := Lib.hid (Nat.lt_trans hlt hj.out)
        have ha2 := Lib.hid ha
        go_wp2_with fail
        refine HN.out.mono ?_
        rintro e w2 ⟨⟨_, h1⟩, hb2⟩
        obtain rfl := h1 hm
        have d2 := Lib.hid (hbe.trans (hb2.mono hsz))
        have HF2 := Lib.hid (HF.out w2 d2.out)
        clear h1 hb2 HN hm hbe hg ht e0 ha hF hj HF hsz
        go_wp2_with fail
        refine HF2.out.mono ?_
        rintro e w3 ⟨rfl, hb3⟩
        have d3 := Lib.hid (d2.out.trans (hb3.mono d2.out.size))
        clear hb3 HF2
        go_wp2
        exact ⟨⟨a, _, rfl, hj2, ha2, HE, d3.out⟩, by simp [RowKit.intOf]; omega⟩
end Go.Proofs.YtjmlabggocfikaaGreat

namespace Go.Proofs.YtjmlabggocfikaaGreat
open Go.RowKit

set_option maxHeartbeats 1000000 in
theorem trbytes_out {w : World} {q p : Option Addr} {R : List Rc} (h : HasTr w q p R) (s : Int) (hs : s < 0 ∨ (R.length : Int) ≤ s + 1) : Calls Tryz.prog 54 #[.pointer q, .int .i64 s] w fun e w' => e = .returned (.string ByteArray.empty) ∧ Below w.heap.size w w' := by
  have HS := Lib.hid (trbelow_out h s hs)
  have hct := fun W : World => trown_text (w := W) (base := 0) (v := .slice none 0 0) (l := []) (World.ownsRow_nil _ _ _ _)
  clear h hs
  go_enter Tryz.func54, Tryz.ntmps54
  go_wp2_with fail
  refine HS.out.mono ?_
  rintro e w' ⟨rfl, rfl⟩
  go_wp2
  go_loopw [5, 12] (fun v i wr => v = .slice none 0 0 ∧ i = .int .i64 0 ∧ wr = w') (fun _ _ _ => 0)
  case atStart => exact ⟨rfl, rfl, rfl⟩
  case round =>
    obtain ⟨rfl, rfl, rfl⟩ := hrel
    go_wp2
    go_ret
    exact ⟨rfl, Below.refl _ _⟩

set_option maxRecDepth 100000 in
set_option maxHeartbeats 2000000 in
theorem trbytes_in {w : World} {q p : Option Addr} {R : List Rc} (h : HasTr w q p R) (k : Nat) (r r' : Rc) (hr : R[k]? = some r) (hr' : R[k + 1]? = some r') (h1 : r.below ≤ r'.below) (h2 : r'.below ≤ R.length) :
    Calls Tryz.prog 54 #[.pointer q, .int .i64 (k : Int)] w fun e w' => e = .returned (.string ⟨((((R.drop r.below).take (r'.below - r.below)).map Rc.last)).toArray⟩) ∧ Below w.heap.size w w' := by
  obtain ⟨i0, hi, hz0, hz1, hz2⟩ := info_parts trbyte_info
  have hm := h.few
  have HB := Lib.hid (trbelow_in h k r r' hr hr' h1 h2)
  generalize (R.drop r.below).take (r'.below - r.below) = L at *
  have hn : r'.below - r.below ≤ 2147483647 := by omega
  generalize r'.below - r.below = n at *
  clear h hr hr' h1 h2
  go_enter Tryz.func54, Tryz.ntmps54
  go_wp2_with fail
  refine HB.out.mono ?_
  rintro e w' ⟨⟨a, cap', rfl, hL⟩, m, rfl⟩
  have HL := Lib.hid hL
  have hl := hL.1
  clear hL HB
  go_wp2
  go_loopw [5, 12] (fun v i wr => ∃ j : Nat, j ≤ n ∧ i = .int .i64 j ∧ Hid (wr.ownsRow w.heap.size 5 1 v ((L.take j).map Rc.last).length (Lib.byteCells ((L.take j).map Rc.last))) ∧ Below w.heap.size w wr) (fun _ i _ => n - (RowKit.intOf i).toNat)
  case atStart => exact ⟨0, Nat.zero_le _, rfl, Lib.hid (World.ownsRow_nil _ _ _ _), below_drewS (Below.refl _ _) m⟩
  case round =>
    obtain ⟨j, hj, rfl, HO, hbe⟩ := hrel
    have hsz := hbe.size
    obtain ⟨ao, co, rfl⟩ := owns_slice HO.out
    by_cases hlt : j < n
    · obtain ⟨b, off, rfl, x, hf, hat⟩ := rc_at HL.out hbe j hlt
      obtain ⟨e0, e1, e2, e3, e4⟩ := hat
      have HN : Hid ((L.take (j + 1)).map Rc.last = (L.take j).map Rc.last ++ [x.last]) := Lib.hid (by
        obtain ⟨hk, rfl⟩ := List.getElem?_eq_some_iff.1 hf
        rw [List.take_succ_eq_append_getElem hk, List.map_append]; rfl)
      have hlen : ((L.take j).map Rc.last).length = j := by rw [List.length_map, List.length_take]; omega
      generalize (L.take j).map Rc.last = D at *
      have hown := HO.out
      have g0 : (0 : Int) ≤ (j : Int) := by omega
      have g1 : (j : Int) < (n : Int) := by omega
      have HD := Lib.hid hlen
      clear hlen
      clear hf HO
      have hX : ∀ (o : Obj) (u : Value), ((wr.alloc o).alloc (.cells #[u] 5)).heap[wr.heap.size + 1]? = some (.cells #[u] 5 (0, 0)) := fun o u => by
        have := heap_alloc_new (wr.alloc o) (.cells #[u] 5)
        rwa [show (wr.alloc o).heap.size = wr.heap.size + 1 by simp] at this
      go_wp2_with (at_builtin; refine wpList_append_own _ rfl _ _ 79 rfl w.heap.size 5 i0 (.int .u8 0) 1 1 Tryz.underlying79 hi hz0 hz1 hz2 rfl (by decide) _ _ _ rfl ((hown.alloc _).alloc _) ⟨wr.heap.size + 1, 0, none⟩ 1 1 [.int .u8 (x.last.toNat : Int)] rfl rfl (one_news (hX _ _)) trbyte_one (by have := HD.out; unfold maxLen; omega) (by have := HD.out; omega) (by simp; omega) ?_)
      intro v' w3 hown3 hgrow _
      obtain ⟨a3, cap3, rfl⟩ := owns_slice hown3
      have B3 : Below w.heap.size w w3 := ((hbe.alloc hsz _).alloc (by simp; omega) _).trans ⟨hgrow.os, hgrow.tape, hgrow.output, Nat.le_trans (by simp) hgrow.size, fun i hi => by
        rw [hgrow.block i (by simp; omega) (fun e => by have := (hown.lt i e.symm).1; omega)]⟩
      have HW : Hid (w3.ownsRow w.heap.size 5 1 (.slice a3 (D.length + 1) cap3) ((L.take (j + 1)).map Rc.last).length (Lib.byteCells ((L.take (j + 1)).map Rc.last))) := Lib.hid (by
        rw [HN.out, trcells_snoc, List.length_append]; exact hown3)
      clear hown hown3 hgrow hX e0 e1 e2 e3 e4
      go_wp2
      exact ⟨⟨j + 1, by omega, by go_num, HW, B3⟩, by simp [RowKit.intOf]; omega⟩
    · obtain rfl : j = n := by omega
      have HE : Hid ((L.take j).map Rc.last = L.map Rc.last) := Lib.hid (by rw [List.take_of_length_le (by omega)])
      generalize (L.take j).map Rc.last = D at *
      have hct := trown_text HO.out
      have hz : ¬ (j : Int) < (j : Int) := by omega
      clear HO
      go_wp2
      go_ret
      exact ⟨by rw [← HE.out]; rfl, hbe⟩
end Go.Proofs.YtjmlabggocfikaaGreat

namespace Go.Proofs.YtjmlabggocfikaaGreat
open Go.RowKit

theorem ts_bytes {w : World} {q p : Option Addr} {us S : List (List UInt8)} (h : IsTrie w q p us S) (k : Nat) {s : List UInt8} (hs : S[k]? = some s) : Calls Tryz.prog 54 #[.pointer q, .int .i64 (k : Int)] w fun e w' =>
    e = .returned (.string ⟨(kidsL us s).toArray⟩) ∧ Below w.heap.size w w' := by
  have hst := h.st
  obtain ⟨R, h1, h2, h3, h4⟩ := h
  have hk := (List.getElem?_eq_some_iff.1 hs).1
  by_cases hl : k + 1 < S.length
  · obtain ⟨r, r', hr, hr', ho, hle1, hle2, hm⟩ := kids_kept h3 h2 hs (List.getElem?_eq_getElem hl)
    have := trbytes_in h1 k r r' hr hr' hle1 hle2
    rw [hm] at this
    exact this
  · have hkk : k = S.length - 1 := by omega
    have hn := last_none hst (by rw [← hkk]; exact hs)
    rw [hn]
    exact trbytes_out h1 (k : Int) (.inr (by rw [h2.1]; omega))
end Go.Proofs.YtjmlabggocfikaaGreat

namespace Go.Proofs.YtjmlabggocfikaaGreat
open Go.RowKit

/-- 'copy' into a row of a block: all else is as it was. -/
theorem wpList_copy_into {P : Program} {w : World} {ops : Array Oper} {rest : List Oper} {o : Oper} {a : Act} {Q : Exit → Act → World → Prop} (hgd : o.guard = none) (d s : Operand) (dT sT : TypeId)
    (ho : o.op = .call { callee := .builtin .copy, args := #[d, s], argTypes := #[dT, sT] }) (elem : TypeId) (hu : P.underlying dT = some (.slice elem)) (hsz : (P.info? elem).map (·.size) = some 1)
    (g off dLen dCap : Nat) (ad : Addr) (sLen sCap : Nat) (hd : a.eval d = .slice (some ⟨g, off, none⟩) dLen dCap) (hs : a.eval s = .slice (some ad) sLen sCap)
    (cur : List Value) (t : TypeId) (hg : w.heap[g]? = some (.cells cur.toArray t (0, 0))) (cs : List Value) (hn : cs.length = Nat.min sLen dLen)
    (hsrc : ∀ j v, cs[j]? = some v → w.cell? (ad.add j) = some v) (hfit : off + cs.length ≤ cur.length) (h1 : ∀ v ∈ cs, v.oneCell' = true)
    (h : ∀ w', Into g w w' → Hid (w'.heap[g]? = some (.cells (splice cur off cs).toArray t (0, 0))) → wpList P ops Q rest (a.put o.dst (goInt cs.length)) w') : wpList P ops Q (o :: rest) a w := by
  refine wpList_copy_own hgd d s dT sT ho elem hu hsz g off dLen dCap ad sLen sCap hd hs cur.toArray t hg cs hn hsrc (by simpa using hfit) h1 ?_
  refine h _ ⟨rfl, rfl, rfl, by simp [World.setRow], fun k hk => setRow_other w g k _ hk⟩ (show _ = _ by simpa [splice] using setRow_heap w g _ _ t _ hg)

theorem dnCells_splice (L : List Nat) (o : Nat) (R : List Nat) : splice (dnCells L) o (dnCells R) = dnCells (splice L o R) := by
  unfold splice dnCells
  rw [List.map_append, List.map_append, List.map_take, List.map_drop, List.length_map]
theorem dn32_info : (Tryz.prog.info? 21).map (·.size) = some 1 := by kernel_rfl
theorem dnOne (R : List Nat) : ∀ v ∈ dnCells R, v.oneCell' = true := by
  intro v hv
  obtain ⟨x, _, rfl⟩ := List.mem_map.1 hv
  rfl
theorem splice_mem {L R : List Nat} {o x : Nat} (h : x ∈ splice L o R) : x ∈ L ∨ x ∈ R := by
  unfold splice at h
  simp only [List.mem_append] at h
  rcases h with h | h | h
  · exact .inl (List.mem_of_mem_take h)
  · exact .inr h
  · exact .inl (List.mem_of_mem_drop h)
theorem seg_mem {L : List Nat} {W i x : Nat} (h : x ∈ seg L W i) : x ∈ L := List.mem_of_mem_drop (List.mem_of_mem_take h)

theorem IsTb.ne {w : World} {b g : Nat} {pc : Option Addr} {n W : Nat} {L : List Nat} (h : IsTb w b g pc n W L) : b ≠ g := fun e => by
  have h1 := h.head
  rw [e, h.row] at h1
  simp at h1
/-- A row is laid. -/
theorem IsTb.lay {w w' : World} {b g : Nat} {pc : Option Addr} {n W : Nat} {L R : List Nat} (h : IsTb w b g pc n W L) {i : Nat} (hi : i < n) (hR : R.length = W) (hfit : ∀ x ∈ R, x ≤ 16777217) (hI : Into g w w') (hrow : w'.heap[g]? = some (.cells (splice (dnCells L) (i * W) (dnCells R)).toArray 21 (0, 0))) : IsTb w' b g pc n W (splice L (i * W) R) := by
  have hin := seg_in (W := W) hi
  have hl : (splice L (i * W) R).length = L.length := length_splice L _ R (by rw [h.len]; omega)
  refine ⟨?_, ?_, by rw [hl]; exact h.len, h.fn, h.fw, h.wp, fun x hx => (splice_mem hx).elim (h.fit x) (hfit x)⟩
  · rw [hl, hI.block b h.ne]; exact h.head
  · rw [hrow, dnCells_splice]
/-- One number is put. -/
theorem IsTb.put {w : World} {b g : Nat} {pc : Option Addr} {n W : Nat} {L : List Nat} (h : IsTb w b g pc n W L) (j x : Nat) (hx : x ≤ 16777217) : IsTb (w.setCell ⟨g, j, none⟩ (.int .i32 (x : Int))) b g pc n W (L.set j x) := by
  refine ⟨?_, ?_, by rw [List.length_set]; exact h.len, h.fn, h.fw, h.wp, fun y hy => ?_⟩
  · rw [List.length_set, put_other h.ne]; exact h.head
  · rw [put_heap h.row]
    congr 2
    unfold dnCells
    rw [List.map_set]
    simp [dnV]
  · rcases List.mem_or_eq_of_mem_set hy with h1 | rfl
    · exact h.fit y h1
    · exact hx
end Go.Proofs.YtjmlabggocfikaaGreat

namespace Go.Proofs.YtjmlabggocfikaaGreat
open Go.RowKit

/-- What fallOf tells of a state. -/
def RetFl (us S : List (List UInt8)) (s : List UInt8) (w : World) (e : Ending) (w' : World) : Prop :=
  ∃ a b : Nat, e = .returned (flV (a, b)) ∧ S[a]? = some (fbL S s) ∧ S[b]? = some (fbL us s) ∧ Below w.heap.size w w'

theorem put_two {w : World} {r : Nat} {T : TypeId} {u v : Value} (h : w.heap[r]? = some (.cells #[u, v] T (0, 0))) (x y : Value) : ((w.setCell ⟨r, 0, none⟩ x).setCell ⟨r, 1, none⟩ y).heap[r]? = some (.cells #[x, y] T (0, 0)) := by
  rw [put_heap (put_heap h x) y]; rfl

set_option maxHeartbeats 2000000 in
theorem lkfall_any {w : World} {k q p : Option Addr} {us S : List (List UInt8)} {m : Nat} {F : List (Nat × Nat)} (h : IsLink w k q p us S m F) {s : List UInt8} (hs : S[m]? = some s) :
    Calls Tryz.prog 59 #[.pointer k, .int .i64 (m : Int)] w (RetFl us S s w) := by
  have hil := (List.getElem?_eq_some_iff.1 hs).1
  obtain ⟨base, b, g, rfl, hk⟩ := h.has.some (i := m) (by rw [h.flen]; exact hil)
  have hfew := h.tr.few.2.2
  have HH := Lib.hid h
  have HK := Lib.hid hk
  have hB1 := (Below.refl w.heap.size w).alloc (Nat.le_refl _) (.cells #[.int .i32 0, .int .i32 0] 98)
  obtain ⟨a, hS, hle, hA⟩ := ts_above (h.tr.below hB1) m hs
  have HA := Lib.hid hA
  have c0 := (hk.below hB1).reads.1
  have hcell := heap_alloc_new w (.cells #[.int .i32 0, .int .i32 0] 98)
  have hrs : w.heap.size < (w.alloc (.cells #[.int .i32 0, .int .i32 0] 98)).heap.size := by simp
  clear h hk hA
  go_enter Tryz.func59, Tryz.ntmps59
  go_wp2_with fail
  refine HA.out.mono ?_
  rintro e w2 ⟨rfl, hb2⟩
  have hR2 : w2.heap[w.heap.size]? = some (.cells #[.int .i32 0, .int .i32 0] 98 (0, 0)) := (hb2.block _ hrs).trans hcell
  have d2 := hB1.trans (hb2.mono hB1.size)
  generalize hr : w.heap.size = r at *
  by_cases ha0 : a = 0
  · have e0 := (HH.out.zero hS).1 ha0
    subst ha0
    have hf : fbL S s = [] ∧ fbL us s = [] := by
      match s, e0 with
      | [], _ => exact ⟨rfl, rfl⟩
      | [x], _ => exact ⟨rfl, rfl⟩
    have HE : Hid (S[0]? = some (fbL S s) ∧ S[0]? = some (fbL us s)) := Lib.hid (by rw [hf.1, hf.2]; exact ⟨HH.out.root, HH.out.root⟩)
    have f0 := Lib.frozen_of_heap hR2 0
    have f1 := Lib.frozen_of_heap hR2 1
    have k0 : w2.cell? ⟨r, 0, none⟩ = some (.int .i32 0) := by rw [Lib.cell_of_heap hR2]; rfl
    have k1 : w2.cell? ⟨r, 1, none⟩ = some (.int .i32 0) := by rw [Lib.cell_of_heap hR2]; rfl
    clear HA hb2 hB1 hcell hrs hS hf e0 hs
    go_wp2
    have hfin := put_two hR2 (.int .i32 0) (.int .i32 0)
    have d3 : Below r w ((w2.setCell ⟨r, 0, none⟩ (.int .i32 0)).setCell ⟨r, 1, none⟩ (.int .i32 0)) := (d2.setCell (p := ⟨r, 0, none⟩) (Nat.le_refl _) _).setCell (p := ⟨r, 1, none⟩) (Nat.le_refl _) _
    generalize (w2.setCell ⟨r, 0, none⟩ (.int .i32 0)).setCell ⟨r, 1, none⟩ (.int .i32 0) = w3 at *
    have j0 : w3.cell? ⟨r, 0, none⟩ = some (.int .i32 0) := by rw [Lib.cell_of_heap hfin]; rfl
    have j1 : w3.cell? ⟨r, 1, none⟩ = some (.int .i32 0) := by rw [Lib.cell_of_heap hfin]; rfl
    refine bodyPost_ret (v := flV (0, 0)) (by simp [results, Tryz.results59, go_sem, flV, j0, j1]) rfl ?_
    exact ⟨0, 0, rfl, HE.out.1, HE.out.2, by rw [hr]; exact d3⟩
  · have e0 : s.dropLast ≠ [] := fun e => ha0 ((HH.out.zero hS).2 e)
    have hs0 : s ≠ [] := fun e => e0 (by rw [e]; rfl)
    have es : s.dropLast ++ [s.getLastD 0] = s := by
      rw [List.getLastD_eq_getLast?, List.getLast?_eq_some_getLast hs0]
      exact List.dropLast_concat_getLast hs0
    have ham : a < m := HH.out.less hS hs (by
      rw [List.length_dropLast]
      have : 0 < s.length := List.length_pos_iff.2 hs0
      omega)
    obtain ⟨f, f', hF, hf, _⟩ := HH.out.ok.at_ a _ ham hS
    have hfa := HH.out.less hf hS (fb_less e0)
    have H2 := HH.out.below (by rw [hr]; exact d2)
    have HF := Lib.hid (lkfail_any H2.has (a : Int))
    rw [flOf_in hF] at HF
    have g0 : ((a : Int) == 0) = false := by simp; omega
    have g1 : ¬ (a : Int) = 0 := by omega
    have HT := Lib.hid (fun W hb => lkstep_in (H2.below (w' := W) hb) f hf (show f < m by omega) (s.getLastD 0))
    have HES := Lib.hid (show lgL S (fbL S s.dropLast ++ [s.getLastD 0]) = fbL S s by
      have := fb_above HH.out.tr.st (s.getLastD 0) e0
      rw [es] at this
      exact this.symm)
    have HFS := Lib.hid (show (fbL S s).length < s.length from fb_less hs0)
    have HS := Lib.hid hs
    have hs2 : r < w2.heap.size := lt_of_heap hR2
    clear HA hb2 hB1 hcell hrs hS e0 hs0 es hs ha0 hF hf hfa H2
    generalize s.getLastD 0 = c at *
    go_wp2_with fail
    refine HF.out.mono ?_
    rintro e w3 ⟨rfl, hb3⟩
    have H3 := Lib.hid (HT.out w3 hb3)
    have hR3 := (hb3.block _ hs2).trans hR2
    have d3 := d2.trans (hb3.mono (by rw [← hr]; exact d2.size))
    clear HT HF hb3 hs2 hR2 d2
    go_wp2_with fail
    refine H3.out.mono ?_
    rintro e w4 ⟨n, rfl, hn, hb4⟩
    rw [HES.out] at hn
    have hs3 : r < w3.heap.size := lt_of_heap hR3
    have hR4 := (hb4.block _ hs3).trans hR3
    have d4 := d3.trans (hb4.mono (by rw [← hr]; exact d3.size))
    have H4 := HH.out.below (by rw [hr]; exact d4)
    have c4 := (HK.out.below (by rw [hr]; exact d4)).reads.1
    have hnm := H4.less hn HS.out HFS.out
    have hnl := (List.getElem?_eq_some_iff.1 hn).1
    have HN := Lib.hid (ts_ends H4.tr H4.asc n hn)
    have wn : IntKind.i32.wrap (n : Int) = (n : Int) := by rw [IntKind.wrap_i32]; omega
    clear H3 hb4 hs3 hR3 d3 HES HFS HS c0
    have hs4 : r < w4.heap.size := lt_of_heap hR4
    by_cases hu : fbL S s ∈ us
    · have HE : Hid (S[n]? = some (fbL S s) ∧ S[n]? = some (fbL us s)) := Lib.hid ⟨hn, by rw [out_hit HH.out.tr.st hu]; exact hn⟩
      clear H4 hn
      go_wp2_with fail
      refine HN.out.mono ?_
      rintro e w5 ⟨⟨h1, _⟩, hb5⟩
      obtain rfl := h1 hu
      have hR5 := (hb5.block _ hs4).trans hR4
      have d5 := d4.trans (hb5.mono (by rw [← hr]; exact d4.size))
      have f0 := Lib.frozen_of_heap hR5 0
      have f1 := Lib.frozen_of_heap hR5 1
      have k0 : w5.cell? ⟨r, 0, none⟩ = some (.int .i32 0) := by rw [Lib.cell_of_heap hR5]; rfl
      have k1 : w5.cell? ⟨r, 1, none⟩ = some (.int .i32 0) := by rw [Lib.cell_of_heap hR5]; rfl
      clear h1 hb5 hs4 hR4 d4 HN hu
      go_wp2
      have hfin := put_two hR5 (.int .i32 (n : Int)) (.int .i32 (n : Int))
      have d6 : Below r w ((w5.setCell ⟨r, 0, none⟩ (.int .i32 (n : Int))).setCell ⟨r, 1, none⟩ (.int .i32 (n : Int))) := (d5.setCell (p := ⟨r, 0, none⟩) (Nat.le_refl _) _).setCell (p := ⟨r, 1, none⟩) (Nat.le_refl _) _
      generalize (w5.setCell ⟨r, 0, none⟩ (.int .i32 (n : Int))).setCell ⟨r, 1, none⟩ (.int .i32 (n : Int)) = w6 at *
      have j0 : w6.cell? ⟨r, 0, none⟩ = some (.int .i32 (n : Int)) := by rw [Lib.cell_of_heap hfin]; rfl
      have j1 : w6.cell? ⟨r, 1, none⟩ = some (.int .i32 (n : Int)) := by rw [Lib.cell_of_heap hfin]; rfl
      refine bodyPost_ret (v := flV (n, n)) (by simp [results, Tryz.results59, go_sem, flV, j0, j1]) rfl ?_
      exact ⟨n, n, rfl, HE.out.1, HE.out.2, by rw [hr]; exact d6⟩
    · obtain ⟨x, y, hFn, _, hy⟩ := HH.out.ok.at_ n _ hnm hn
      have HE : Hid (S[n]? = some (fbL S s) ∧ S[y]? = some (fbL us s)) := Lib.hid ⟨hn, by rw [out_miss HH.out.tr.st hu]; exact hy⟩
      have HO := Lib.hid (fun W hb => lkof_in (H4.below (w' := W) hb).has n (x, y) hFn)
      have FD := flfield1 (.int .i32 (x : Int)) (.int .i32 (y : Int))
      clear H4 hn hy hFn
      go_wp2_with fail
      refine HN.out.mono ?_
      rintro e w5 ⟨⟨_, h1⟩, hb5⟩
      obtain rfl := h1 hu
      have HO2 := Lib.hid (HO.out w5 hb5)
      have hR5 := (hb5.block _ hs4).trans hR4
      have d5 := d4.trans (hb5.mono (by rw [← hr]; exact d4.size))
      have hs5 : r < w5.heap.size := lt_of_heap hR5
      clear h1 hb5 hs4 hR4 d4 HN hu HO
      go_wp2_with fail
      refine HO2.out.mono ?_
      rintro e w6 ⟨rfl, hb6⟩
      have hR6 := (hb6.block _ hs5).trans hR5
      have d6 := d5.trans (hb6.mono (by rw [← hr]; exact d5.size))
      have f0 := Lib.frozen_of_heap hR6 0
      have f1 := Lib.frozen_of_heap hR6 1
      have k0 : w6.cell? ⟨r, 0, none⟩ = some (.int .i32 0) := by rw [Lib.cell_of_heap hR6]; rfl
      have k1 : w6.cell? ⟨r, 1, none⟩ = some (.int .i32 0) := by rw [Lib.cell_of_heap hR6]; rfl
      clear HO2 hb6 hs5 hR5 d5
      unfold flV
      go_wp2
      have hfin := put_two hR6 (.int .i32 (n : Int)) (.int .i32 (y : Int))
      have d7 : Below r w ((w6.setCell ⟨r, 0, none⟩ (.int .i32 (n : Int))).setCell ⟨r, 1, none⟩ (.int .i32 (y : Int))) := (d6.setCell (p := ⟨r, 0, none⟩) (Nat.le_refl _) _).setCell (p := ⟨r, 1, none⟩) (Nat.le_refl _) _
      generalize (w6.setCell ⟨r, 0, none⟩ (.int .i32 (n : Int))).setCell ⟨r, 1, none⟩ (.int .i32 (y : Int)) = w7 at *
      have j0 : w7.cell? ⟨r, 0, none⟩ = some (.int .i32 (n : Int)) := by rw [Lib.cell_of_heap hfin]; rfl
      have j1 : w7.cell? ⟨r, 1, none⟩ = some (.int .i32 (y : Int)) := by rw [Lib.cell_of_heap hfin]; rfl
      refine bodyPost_ret (v := flV (n, y)) (by simp [results, Tryz.results59, go_sem, flV, j0, j1]) rfl ?_
      exact ⟨n, y, rfl, HE.out.1, HE.out.2, by rw [hr]; exact d7⟩
end Go.Proofs.YtjmlabggocfikaaGreat

namespace Go.Proofs.YtjmlabggocfikaaGreat
open Go.RowKit

theorem made_fl (n : Nat) : madeCells (Value.agg #[.int .i32 0, .int .i32 0]).cells (n * 2) = (flCells (List.replicate n (0, 0))).toArray := by
  have e : (Value.agg #[.int .i32 0, .int .i32 0]).cells = #[.int .i32 0, .int .i32 0] := by rfl
  rw [e, fl_rep]
  unfold madeCells
  apply Array.ext
  · simp
  · intro i h1 h2
    simp at h1
    have : i % 2 = 0 ∨ i % 2 = 1 := by omega
    rcases this with h | h <;> simp [h]
set_option maxRecDepth 100000 in
theorem make_falls (c : Nat) (w : World) (hc : c ≤ 16777217) : (Instr.makeSlice 94 (.int .i64 (c : Int)) (.int .i64 (c : Int))).run Tryz.prog w = .ok (.slice (some ⟨w.heap.size, 0, none⟩) c c) (w.alloc (.cells (flCells (List.replicate c (0, 0))).toArray 98)) := by
  obtain ⟨i0, hi, hz0, hz1, hz2⟩ := info_parts fl_info
  have h := run_make (P := Tryz.prog) w 94 98 i0 (.agg #[.int .i32 0, .int .i32 0]) Tryz.underlying94 hi hz0 .i64 .i64 c c (by omega) (Int.le_refl _) (by rw [hz2]; omega) (by omega)
  rw [h, hz1, Int.toNat_natCast, made_fl]

/-- One more state is known. -/
theorem FlOk.put {us S : List (List UInt8)} {i : Nat} {F : List (Nat × Nat)} (h : FlOk us S i F) {s : List UInt8} (hs : S[i]? = some s) {a b : Nat} (ha : S[a]? = some (fbL S s)) (hb : S[b]? = some (fbL us s)) : FlOk us S (i + 1) (F.set i (a, b)) := by
  have hil := (List.getElem?_eq_some_iff.1 hs).1
  refine ⟨by rw [List.length_set]; exact h.len, fun j t hj ht => ?_⟩
  by_cases e : j = i
  · subst e
    obtain rfl : t = s := Option.some.inj (ht.symm.trans hs)
    exact ⟨a, b, List.getElem?_set_self (by rw [h.len]; exact hil), ha, hb⟩
  · obtain ⟨x, y, h1, h2, h3⟩ := h.at_ j t (by omega) ht
    exact ⟨x, y, by rw [List.getElem?_set_ne (Ne.symm e)]; exact h1, h2, h3⟩
theorem IsLk.ne {w : World} {base b g : Nat} {q : Option Addr} {F : List (Nat × Nat)} (h : IsLk w base b g q F) : b ≠ g := fun e => by
  have h1 := h.head
  rw [e, h.row] at h1
  simp at h1
theorem IsLk.put {w : World} {base b g : Nat} {q : Option Addr} {F : List (Nat × Nat)} (h : IsLk w base b g q F) {i : Nat} (hi : i < F.length) {x y : Nat} (hx : x ≤ 16777217) (hy : y ≤ 16777217) :
    IsLk ((w.setCell ⟨g, i * 2, none⟩ (.int .i32 (x : Int))).setCell ⟨g, i * 2 + 1, none⟩ (.int .i32 (y : Int))) base b g q (F.set i (x, y)) := by
  have hne := h.ne
  refine ⟨?_, ?_, h.bb, h.gg, by rw [List.length_set]; exact h.few, fun r hr => ?_⟩
  · rw [List.length_set, put_other hne, put_other hne]; exact h.head
  · rw [put_heap (put_heap h.row _)]
    congr 2
    have := fl_set F i x y (List.getElem?_eq_getElem hi)
    rw [← this]
    simp
  · rcases List.mem_or_eq_of_mem_set hr with h1 | rfl
    · exact h.fit r h1
    · exact ⟨hx, hy⟩

set_option maxRecDepth 100000 in
set_option maxHeartbeats 4000000 in
theorem lknew_any {w : World} {p : Option Addr} {us : List (List UInt8)} (hp : IsPats w p us) (ha : Asc us) (hn : us.Nodup) :
    Calls Tryz.prog 38 #[.pointer p] w fun e w' => ∃ k q S F, e = .returned (.pointer k) ∧ IsLink w' k q p us S S.length F ∧ Below w.heap.size w w' := by
  have HT := Lib.hid (trnew_any hp ha hn)
  have HA := Lib.hid ha
  clear hp ha hn
  go_enter Tryz.func38, Tryz.ntmps38
  go_wp2_with fail
  refine HT.out.mono ?_
  rintro e w1 ⟨q, S, rfl, hT, hb1⟩
  have hfew := hT.few
  have HL := Lib.hid (ts_len hT)
  have hmake := make_falls S.length w1 hfew.2.2
  have hS1 := hb1.size
  have HT1 := Lib.hid hT
  clear HT hT
  go_wp2_with fail
  refine HL.out.mono ?_
  rintro e w' ⟨rfl, hw'⟩
  obtain rfl := hw'.symm
  clear hw' HL
  have hb2 : Below w1.heap.size w1 (w1.alloc (.cells (flCells (List.replicate S.length (0, 0))).toArray 98)) := (Below.refl _ _).alloc (Nat.le_refl _) _
  have hh2 := heap_alloc_new w1 (.cells (flCells (List.replicate S.length (0, 0))).toArray 98)
  have hz2 : (w1.alloc (.cells (flCells (List.replicate S.length (0, 0))).toArray 98)).heap.size = w1.heap.size + 1 := by simp
  generalize w1.alloc (.cells (flCells (List.replicate S.length (0, 0))).toArray 98) = w2 at *
  have HZ2 := Lib.hid hz2
  clear hz2
  go_wp2_with fail
  have LK0 : Hid (IsLk (w2.alloc (.cells #[.pointer q, .slice (some ⟨w1.heap.size, 0, none⟩) S.length S.length] 96)) w1.heap.size w2.heap.size w1.heap.size q (List.replicate S.length (0, 0))) := Lib.hid (by
    refine ⟨?_, ?_, hb2.size, Nat.le_refl _, by rw [List.length_replicate]; exact hfew.2.2, fun r hr => by rw [List.eq_of_mem_replicate hr]; simp⟩
    · rw [List.length_replicate]; exact heap_alloc_new w2 _
    · rw [Below.heap_alloc _ _ _ (by have := HZ2.out; omega)]; exact hh2)
  have B0 : Hid (Below w1.heap.size w1 (w2.alloc (.cells #[.pointer q, .slice (some ⟨w1.heap.size, 0, none⟩) S.length S.length] 96))) := Lib.hid (hb2.alloc hb2.size _)
  have FK0 : Hid (FlOk us S 0 (List.replicate S.length (0, 0))) := Lib.hid ⟨List.length_replicate .., fun i s hi => absurd hi (Nat.not_lt_zero _)⟩
  have c1 : (w2.alloc (.cells #[.pointer q, .slice (some ⟨w1.heap.size, 0, none⟩) S.length S.length] 96)).cell? ⟨w2.heap.size, 1, none⟩ = some (.slice (some ⟨w1.heap.size, 0, none⟩) S.length S.length) := by
    rw [Lib.cell_of_heap (heap_alloc_new w2 _)]; rfl
  clear hb2 hh2 HZ2 hmake
  generalize w2.alloc (.cells #[.pointer q, .slice (some ⟨w1.heap.size, 0, none⟩) S.length S.length] 96) = w3 at *
  generalize w2.heap.size = b at *
  obtain ⟨n, hnS⟩ : ∃ n, S.length = n := ⟨_, rfl⟩
  have HN := Lib.hid hnS
  have hn1 := hfew.2.2
  rw [hnS] at c1 hn1
  clear hfew
  rw [hnS]
  go_loopw [19] (fun x wr => ∃ (i : Nat) (F : List (Nat × Nat)), i ≤ n ∧ x = .int .i64 i ∧ Hid (IsLk wr w1.heap.size b w1.heap.size q F) ∧ Hid (FlOk us S i F) ∧ Hid (Below w1.heap.size w1 wr)) (fun x _ => n - (RowKit.intOf x).toNat)
  case atStart => exact ⟨0, _, Nat.zero_le _, rfl, LK0, FK0, B0⟩
  case round =>
    clear c1 LK0 FK0 B0
    obtain ⟨i, F, hi, rfl, HK, HF, HB⟩ := hrel
    have hFn : F.length = n := by rw [HF.out.len, hnS]
    by_cases hlt : i < n
    · obtain ⟨s, hs⟩ : ∃ s, S[i]? = some s := ⟨_, List.getElem?_eq_getElem (show i < S.length by omega)⟩
      have HI : Hid (IsLink wr (some ⟨b, 0, none⟩) q p us S i F) := Lib.hid ⟨.inr ⟨_, _, _, rfl, HK.out⟩, HT1.out.below HB.out, HA.out, HF.out⟩
      have HC := Lib.hid (fun W (hW : Below wr.heap.size wr W) => lkfall_any (HI.out.below hW) hs)
      obtain ⟨r, hr⟩ : ∃ r, F[i]? = some r := ⟨_, List.getElem?_eq_getElem (show i < F.length by omega)⟩
      have c1 := HK.out.reads.2.1
      rw [hFn] at c1
      have HO := Lib.hid (fun (W w4 : World) (hb : Below W.heap.size W w4) (e : W.heap = wr.heap) => show (w4.cell? ⟨b, 1, none⟩ = some (.slice (some ⟨w1.heap.size, 0, none⟩) n n) ∧ w4.cell? ⟨w1.heap.size, i * 2, none⟩ = some (.int .i32 (r.1 : Int)) ∧ w4.cell? ⟨w1.heap.size, i * 2 + 1, none⟩ = some (.int .i32 (r.2 : Int)) ∧ w4.frozen? ⟨w1.heap.size, i * 2, none⟩ = false ∧ w4.frozen? ⟨w1.heap.size, i * 2 + 1, none⟩ = false) from by
        have h4 := (HK.out.heap (W := W) e).below hb
        have h5 := h4.reads.2.1
        rw [hFn] at h5
        exact ⟨h5, (h4.reads.2.2 i _ hr).1, (h4.reads.2.2 i _ hr).2, Lib.frozen_of_heap h4.row _, Lib.frozen_of_heap h4.row _⟩)
      have g0 : (0 : Int) ≤ (i : Int) := by omega
      have g1 : (i : Int) < (n : Int) := by omega
      have HSi := Lib.hid hs
      have HFn := Lib.hid hFn
      clear hs HI hr hFn hnS
      generalize r.1 = z1 at HO
      generalize r.2 = z2 at HO
      go_wp2_with fail
      go_region_with (go_at_call 59; refine (HC.out _ (Below.refl _ _).drew).mono ?_; rintro e w4 ⟨x, y, he, h1, h2, hb3⟩; unfold flV at he; subst he; (obtain ⟨q0, q1, q2, q3, q4⟩ := HO.out _ _ hb3 (by rfl)))
      all_goals
        have hxl := (List.getElem?_eq_some_iff.1 h1).1
        have hyl := (List.getElem?_eq_some_iff.1 h2).1
        rw [HN.out] at hxl hyl
        have HK5 := Lib.hid (((HK.out.heap (W := wr.drew) rfl).below hb3).put (i := i) (by rw [HFn.out]; exact hlt) (x := x) (y := y) (by omega) (by omega))
        have HF5 := Lib.hid (HF.out.put HSi.out h1 h2)
        have HB5 := Lib.hid (((HB.out.drew.trans (hb3.mono HB.out.size)).setCell (p := ⟨w1.heap.size, i * 2, none⟩) (Nat.le_refl _) (.int .i32 (x : Int))).setCell (p := ⟨w1.heap.size, i * 2 + 1, none⟩) (Nat.le_refl _) (.int .i32 (y : Int)))
        generalize (w4.setCell ⟨w1.heap.size, i * 2, none⟩ (.int .i32 (x : Int))).setCell ⟨w1.heap.size, i * 2 + 1, none⟩ (.int .i32 (y : Int)) = w5 at HK5 HB5 ⊢
        clear hb3 h1 h2 HC HO HK HF HB q0 q1 q2 q3 q4 c1
        go_wp2
        exact ⟨⟨i + 1, _, by omega, by go_num, HK5, HF5, HB5⟩, by simp [RowKit.intOf]; omega⟩
    · obtain rfl : i = n := by omega
      have HE : Hid (∃ S F, IsLink wr (some ⟨b, 0, none⟩) q p us S S.length F ∧ Below w.heap.size w wr) := Lib.hid ⟨S, F, ⟨.inr ⟨_, _, _, rfl, HK.out⟩, HT1.out.below HB.out, HA.out, by rw [HN.out]; exact HF.out⟩, hb1.trans (HB.out.mono hS1)⟩
      clear HK HF HB hFn hnS
      go_wp2
      go_ret
      obtain ⟨S, F, h1, h2⟩ := HE.out
      exact ⟨_, q, S, F, rfl, h1, h2⟩
end Go.Proofs.YtjmlabggocfikaaGreat

namespace Go.Proofs.YtjmlabggocfikaaGreat
open Go.RowKit

theorem kids_few (us : List (List UInt8)) (q : List UInt8) : (kidsL us q).length ≤ 256 := Nat.le_trans (List.length_filter_le _ _) (by unfold bytU; simp)
/-- Of the first m states the rows are known; all others hold nothing. -/
structure RwOk (us S : List (List UInt8)) (W m : Nat) (L : List Nat) : Prop where
  known : ∀ j t, j < m → S[j]? = some t → seg L W j = rwF us S t
  zero : ∀ j, m ≤ j → j < S.length → seg L W j = List.replicate W 0

set_option maxRecDepth 100000 in
set_option maxHeartbeats 8000000 in
theorem dnfill_any {w0 w : World} {b g : Nat} {pc k q p : Option Addr} {us S : List (List UInt8)} {Fl : List (Nat × Nat)} {W : Nat} {L : List Nat}
    (hL : IsLink w0 k q p us S S.length Fl) (hC : HasCls w0 pc (ofC us) (bcK us 256) W) (hW : W = (bcK us 256).length + 1) (hb : Below w0.heap.size w0 w) (hg : w0.heap.size ≤ g) (hbb : w0.heap.size ≤ b)
    (hT : IsTb w b g pc S.length W L) (i : Nat) {s : List UInt8} (hs : S[i]? = some s) (hR : RwOk us S W i L) :
    Calls Tryz.prog 53 #[.pointer (some ⟨b, 0, none⟩), .pointer k, .int .i64 (i : Int)] w fun e w' => e = .returned (.tuple #[]) ∧ ∃ L', IsTb w' b g pc S.length W L' ∧ RwOk us S W (i + 1) L' ∧ Below w0.heap.size w0 w' := by
  have hil := (List.getElem?_eq_some_iff.1 hs).1
  have hst := hL.tr.st
  have hnd := slx_nodup hst.1
  have hroot := hL.root
  have h0 := hL.mem
  have hfew := hL.tr.few.2.2
  have hcb : (bcK us 256).length ≤ 1000 := by have := bc_length us 256; omega
  obtain ⟨x, y, hF, hx, _⟩ := hL.ok.at_ i s hil hs
  have hxl := (List.getElem?_eq_some_iff.1 hx).1
  -- what the copied row says
  have hrow : seg L W x = rwP us S s [] := by
    by_cases e : s = []
    · subst e
      obtain rfl := rise_same hst.1 hx hroot
      obtain rfl := rise_same hst.1 hs hroot
      rw [rwP_root, ← hW]
      exact hR.zero 0 (Nat.le_refl _) hil
    · rw [rwP_fall us S e]
      exact hR.known x _ (hL.less hx hs (fb_less e)) hx
  have hsz := hb.size
  have hD : IsDn w b g pc S.length W L (ofC us) (bcK us 256) := ⟨hT, hC.below hb, hcb⟩
  have HR1 := Lib.hid (dnrow_in hD i hil)
  have HFl := Lib.hid (lkfail_any (hL.below hb).has (i : Int))
  rw [flOf_in hF] at HFl
  have HR2 := Lib.hid (fun w2 (h : Below w.heap.size w w2) => dnrow_in (hD.below h) x hxl)
  have HLk := Lib.hid hL
  have HCl := Lib.hid hC
  have HT := Lib.hid hT
  have HOk := Lib.hid hR
  have HS := Lib.hid hs
  have HROW := Lib.hid hrow
  have HB := Lib.hid hb
  have hslen : (seg L W x).length = W := seg_length hT.len hxl
  have hslc : (dnCells (seg L W x)).length = W := by rw [dnCells_length]; exact hslen
  have hin := seg_in (W := W) hil
  rw [← hT.len] at hin
  have HIN := Lib.hid hin
  have HSL := Lib.hid hslen
  have HSC := Lib.hid hslc
  have HWW := Lib.hid hW
  have hsz32 := dn32_info
  clear hL hC hW hb hT hs hR hF hx hD hrow hslen hslc hin
  go_enter Tryz.func53, Tryz.ntmps53
  go_wp2_with fail
  refine HR1.out.mono ?_
  rintro e w' ⟨rfl, hw'⟩
  obtain rfl := hw'.symm
  clear hw' HR1
  go_wp2_with fail
  refine HFl.out.mono ?_
  rintro e w2 ⟨rfl, hb2⟩
  have HR3 := Lib.hid (HR2.out w2 hb2)
  have HT2 := Lib.hid (HT.out.below hb2)
  have HB2 := Lib.hid (HB.out.trans (hb2.mono hsz))
  clear HR2 HFl hb2 HB
  go_wp2_with fail
  refine HR3.out.mono ?_
  rintro e w' ⟨rfl, hw'⟩
  obtain rfl := hw'.symm
  clear hw' HR3
  have hsrc : ∀ j v, (dnCells (seg L W x))[j]? = some v → w2.cell? ((⟨g, x * W, none⟩ : Addr).add j) = some v := fun j v hj => by
    unfold dnCells at hj
    rw [List.getElem?_map] at hj
    cases hz : (seg L W x)[j]? with
    | none => rw [hz] at hj; cases hj
    | some z =>
      rw [hz] at hj
      cases hj
      rw [addPlain]
      exact (HT2.out.seg_cell hz).2.2
  have HSRC := Lib.hid hsrc
  clear hsrc
  go_wp2_with (refine wpList_copy_into rfl (.tmp 14) (.tmp 19) 83 83 rfl 21 Tryz.underlying83 hsz32 g (i * W) W W ⟨g, x * W, none⟩ W W rfl rfl (dnCells L) 21 HT2.out.row (dnCells (seg L W x)) (by rw [HSC.out]; exact (Nat.min_self W).symm) HSRC.out (by rw [HSC.out, dnCells_length]; exact HIN.out) (dnOne _) ?_)
  intro w3 hI3 hrow3
  have HT3 := Lib.hid (HT2.out.lay hil HSL.out (fun z hz => HT.out.fit z (seg_mem hz)) hI3 hrow3.out)
  have HB3 : Hid (Below w0.heap.size w0 w3) := Lib.hid (HB2.out.trans ⟨hI3.os, hI3.tape, hI3.output, Nat.le_of_eq hI3.size.symm, fun k hk => hI3.block k (by omega)⟩)
  have HZ3 : Hid (seg (splice L (i * W) (seg L W x)) W i = rwP us S s []) := Lib.hid (by
    rw [seg_splice_same HT.out.len hil HSL.out]; exact HROW.out)
  have HO3 : Hid (∀ j, j ≠ i → seg (splice L (i * W) (seg L W x)) W j = seg L W j) := Lib.hid (fun j hj => seg_splice_other HT.out.len hil HSL.out (Ne.symm hj))
  clear hrow3 hI3 HSRC HSC HSL HT2 HB2 HROW HIN
  generalize splice L (i * W) (seg L W x) = L3 at *
  have hs3 := HB3.out.size
  have HTr := Lib.hid (fun (W1 : World) (h : Below w0.heap.size w0 W1) => lktrie_any (HLk.out.below h).has)
  have HBy := Lib.hid (ts_bytes (HLk.out.below HB3.out).tr i HS.out)
  go_wp2_with fail
  refine (HTr.out w3 HB3.out).mono ?_
  rintro e w' ⟨rfl, hw'⟩
  obtain rfl := hw'.symm
  clear hw'
  go_wp2_with fail
  refine HBy.out.mono ?_
  rintro e w4 ⟨rfl, hb4⟩
  have HT4 := Lib.hid (HT3.out.below hb4)
  have HB4 := Lib.hid (HB3.out.trans (hb4.mono hs3))
  clear HBy hb4 HT3 HB3 hs3
  obtain ⟨K, hK⟩ : ∃ K, kidsL us s = K := ⟨_, rfl⟩
  rw [hK]
  have hKl : K.length ≤ 256 := by rw [← hK]; exact kids_few us s
  have HK := Lib.hid hK
  clear hK
  have hcv := run_bytes_of_string (P := Tryz.prog) w4 9 79 5 ⟨K.toArray⟩ Tryz.underlying9 Tryz.underlying79 Tryz.underlying5
  rw [bsize] at hcv
  obtain ⟨cp, hcp⟩ : ∃ cp, grownCap w4 K.length 0 5 = cp := ⟨_, rfl⟩
  rw [hcp] at hcv
  have HKC : Hid (∀ j (c : UInt8), K[j]? = some c → (bytesRow ⟨K.toArray⟩ cp)[j]? = some (Value.int .u8 (c.toNat : Int))) := Lib.hid (fun j c hj => by
    obtain ⟨h1, h2⟩ := List.getElem?_eq_some_iff.1 hj
    have := bytesRow_at ⟨K.toArray⟩ cp j (by simpa using h1)
    rw [this]
    simp [h2])
  generalize bytesRow ⟨K.toArray⟩ cp = cells at *
  have hs4 := HB4.out.size
  have HX : Hid ((w4.alloc (.cells cells 5 (cells.size, cells.size + 1))).drew.heap[w4.heap.size]? = some (.cells cells 5 (cells.size, cells.size + 1))) := Lib.hid (heap_alloc_new w4 _)
  have b5 : Below w4.heap.size w4 (w4.alloc (.cells cells 5 (cells.size, cells.size + 1))).drew := ((Below.refl _ _).alloc (Nat.le_refl _) _).drew
  have HT5 := Lib.hid (HT4.out.below b5)
  have HB5 := Lib.hid (HB4.out.trans (b5.mono hs4))
  have HXG : Hid (w4.heap.size ≠ g) := Lib.hid (fun e => by have := HT4.out.ltg; omega)
  clear b5 HT4 HB4 hcp
  go_wp2_with fail
  generalize (w4.alloc (.cells cells 5 (cells.size, cells.size + 1))).drew = w5 at *
  generalize w4.heap.size = X at *
  go_loopw [27] (fun v wr => ∃ (j : Nat) (L' : List Nat), j ≤ K.length ∧ v = .int .i64 j ∧ Hid (IsTb wr b g pc S.length W L') ∧ Hid (seg L' W i = rwP us S s (K.take j)) ∧ Hid (∀ m, m ≠ i → seg L' W m = seg L W m) ∧ Hid (wr.heap[X]? = some (.cells cells 5 (cells.size, cells.size + 1))) ∧ Hid (Below w0.heap.size w0 wr)) (fun v _ => K.length - (RowKit.intOf v).toNat)
  case atStart => exact ⟨0, L3, Nat.zero_le _, rfl, HT5, HZ3, HO3, HX, HB5⟩
  case round =>
    clear HT5 HZ3 HO3 HX HB5
    obtain ⟨j, L', hj, rfl, HTj, HZj, HOj, HXj, HBj⟩ := hrel
    have hsj := HBj.out.size
    by_cases hlt : j < K.length
    · obtain ⟨c, hc⟩ : ∃ c, K[j]? = some c := ⟨_, List.getElem?_eq_getElem hlt⟩
      have c0 : wr.cell? ⟨X, j, none⟩ = some (.int .u8 (c.toNat : Int)) := by
        rw [Lib.cell_of_heap HXj.out]
        exact HKC.out j c hc
      have hck : c ∈ kidsL us s := by rw [HK.out]; exact List.mem_of_getElem? hc
      have hin : s ++ [c] ∈ S := (hst.2 _).2 (.inr (kids_mem.1 hck))
      have HN := Lib.hid (ts_next (HLk.out.below HBj.out).tr i HS.out c)
      have HTk : Hid (K.take (j + 1) = K.take j ++ [c]) := Lib.hid (by
        obtain ⟨hk', e⟩ := List.getElem?_eq_some_iff.1 hc
        rw [List.take_succ_eq_append_getElem hk', e])
      have HHas := Lib.hid (kid_has (us := us) (S := S) hck)
      have HIn := Lib.hid hin
      have g0 : (0 : Int) ≤ (j : Int) := by omega
      have g1 : (j : Int) < (K.length : Int) := by omega
      have hcl := c.toNat_lt
      clear hc hck hin
      go_wp2_with fail
      refine (HTr.out wr HBj.out).mono ?_
      rintro e w' ⟨rfl, hw'⟩
      obtain rfl := hw'.symm
      clear hw'
      go_wp2_with fail
      refine HN.out.mono ?_
      rintro e w6 ⟨⟨h1, _⟩, hb6⟩
      obtain ⟨n, rfl, hn⟩ := h1 HIn.out
      have hnl := (List.getElem?_eq_some_iff.1 hn).1
      have HE := Lib.hid (dn_is hnd (show S[n]? = some (lgL S (s ++ [c])) by rw [lg_hit HIn.out]; exact hn))
      have HT6 := Lib.hid (HTj.out.below hb6)
      have HX6 : Hid (w6.heap[X]? = some (.cells cells 5 (cells.size, cells.size + 1))) := Lib.hid ((hb6.block X (heap_lt HXj.out)).trans HXj.out)
      have HB6 := Lib.hid (HBj.out.trans (hb6.mono hsj))
      have c1 := HT6.out.reads.1
      have HO := Lib.hid (clof_any (HCl.out.below HB6.out) c.toNat hcl)
      have hkl : ofC us c.toNat < W := by rw [HWW.out]; exact of_few us c
      clear h1 hn hb6 HN HTj HXj HBj hsj
      have HSET := Lib.hid (rwP_set (S := S) (s := s) (ks := K.take j) HHas.out)
      obtain ⟨kc, hkc⟩ : ∃ kc, ofC us c.toNat = kc := ⟨_, rfl⟩
      rw [hkc] at HO hkl HSET
      clear hkc
      have HSG : Hid ((seg L' W i).length = W) := Lib.hid (seg_length HT6.out.len hil)
      obtain ⟨u, hu⟩ : ∃ u, (seg L' W i)[kc]? = some u := ⟨_, List.getElem?_eq_getElem (by rw [HSG.out]; exact hkl)⟩
      have c2 := (HT6.out.seg_cell hu).2.2
      have f2 := HT6.out.free (i * W + kc)
      have w32 : IntKind.i32.wrap (n : Int) = (n : Int) := by
        rw [IntKind.wrap_i32]; omega
      have g2 : (0 : Int) ≤ (kc : Int) := by omega
      have g3 : (kc : Int) < (W : Int) := by omega
      have HP := Lib.hid (HT6.out.put (i * W + kc) n (by omega))
      have HP1 := Lib.hid (seg_set_same HT6.out.len hil hkl n)
      have HP2 : Hid (∀ m, m ≠ i → seg (L'.set (i * W + kc) n) W m = seg L' W m) := Lib.hid (fun m hm => seg_set_other (Ne.symm hm) hkl n)
      clear hu HSG
      have HZ7 : Hid (seg (L'.set (i * W + kc) n) W i = rwP us S s (K.take (j + 1))) := Lib.hid (by
        rw [HP1.out, HZj.out, ← HE.out, HSET.out, HTk.out])
      have HO7 : Hid (∀ m, m ≠ i → seg (L'.set (i * W + kc) n) W m = seg L W m) := Lib.hid (fun m hm => (HP2.out m hm).trans (HOj.out m hm))
      have HX7 : Hid ((w6.setCell ⟨g, i * W + kc, none⟩ (.int .i32 (n : Int))).heap[X]? = some (.cells cells 5 (cells.size, cells.size + 1))) := Lib.hid ((put_other HXG.out _).trans HX6.out)
      have HB7 : Hid (Below w0.heap.size w0 (w6.setCell ⟨g, i * W + kc, none⟩ (.int .i32 (n : Int)))) := Lib.hid (HB6.out.setCell hg _)
      clear HP1 HP2 HZj HOj HSET HTk HX6 HB6 HT6 HE HHas HIn
      go_wp2_with fail
      refine HO.out.mono ?_
      rintro e w' ⟨rfl, hw'⟩
      obtain rfl := hw'.symm
      clear hw' HO
      go_wp2
      exact ⟨⟨j + 1, _, by omega, by go_num, HP, HZ7, HO7, HX7, HB7⟩, by simp [RowKit.intOf]; omega⟩
    · obtain rfl : j = K.length := by omega
      have hz : ¬ (K.length : Int) < (K.length : Int) := by omega
      have HRW : Hid (RwOk us S W (i + 1) L') := Lib.hid ⟨fun m t hm ht => by
          by_cases e : m = i
          · subst e
            obtain rfl : t = s := Option.some.inj (ht.symm.trans HS.out)
            rw [HZj.out, List.take_length, ← HK.out]
            exact rwP_all hst hnd hroot t (List.mem_of_getElem? ht)
          · rw [HOj.out m e]
            exact HOk.out.known m t (by omega) ht,
        fun m hm hl => by
          rw [HOj.out m (by omega)]
          exact HOk.out.zero m (by omega) hl⟩
      clear HZj HOj HXj HOk HKC
      go_wp2
      go_end0
      exact ⟨rfl, L', HTj.out, HRW.out, HBj.out⟩
end Go.Proofs.YtjmlabggocfikaaGreat

namespace Go.Proofs.YtjmlabggocfikaaGreat
open Go.RowKit

/-- An array that says this of each byte. -/
def SayAt (cs : Array Value) (T : Nat → Bool) : Prop := cs.size = 256 ∧ ∀ c, c < 256 → cs[c]? = some (.bool (T c))
/-- .. in block b. -/
def IsSay (w : World) (b : Nat) (T : Nat → Bool) : Prop := ∃ cs : Array Value, w.heap[b]? = some (.cells cs 122 (0, 0)) ∧ SayAt cs T
theorem IsSay.lt {w : World} {b : Nat} {T : Nat → Bool} (h : IsSay w b T) : b < w.heap.size := by
  obtain ⟨cs, h, _⟩ := h
  exact heap_lt h
theorem IsSay.heap {w W : World} {b : Nat} {T : Nat → Bool} (h : IsSay w b T) (e : W.heap = w.heap) : IsSay W b T := by
  unfold IsSay at *
  rw [e]
  exact h
theorem IsSay.congr {w : World} {b : Nat} {T U : Nat → Bool} (h : IsSay w b T) (e : ∀ c, c < 256 → T c = U c) : IsSay w b U := by
  obtain ⟨cs, h1, h2, h3⟩ := h
  exact ⟨cs, h1, h2, fun c hc => by rw [← e c hc]; exact h3 c hc⟩
theorem IsSay.put {w : World} {b c : Nat} {T : Nat → Bool} (h : IsSay w b T) (hc : c < 256) : IsSay (w.setCell ⟨b, c, none⟩ (.bool true)) b (fun d => T d || c == d) := by
  obtain ⟨cs, h1, h2, h3⟩ := h
  refine ⟨_, put_heap h1 _, by rw [Array.size_setIfInBounds]; exact h2, fun d hd => ?_⟩
  by_cases e : c = d
  · subst e
    rw [Array.getElem?_setIfInBounds_self_of_lt (by omega)]
    simp
  · rw [Array.getElem?_setIfInBounds_ne (by omega), h3 d hd]
    simp [e]
theorem IsSay.cell {w : World} {b c : Nat} {T : Nat → Bool} (h : IsSay w b T) (hc : c < 256) : w.cell? ⟨b, c, none⟩ = some (.bool (T c)) := by
  obtain ⟨cs, h1, _, h2⟩ := h
  rw [Lib.cell_of_heap h1]
  exact h2 c hc
theorem IsSay.free {w : World} {b i : Nat} {T : Nat → Bool} (h : IsSay w b T) : w.frozen? ⟨b, i, none⟩ = false := by
  obtain ⟨cs, h1, _⟩ := h
  exact Lib.frozen_of_heap h1 _

/-- One of its cells, where the array is a value. -/
theorem say_index {cs : Array Value} {T : Nat → Bool} (h : SayAt cs T) (m : Nat) (hm : m < 256) (w : World) : (Instr.index 122 (.agg cs) (.int .i64 (m : Int))).run Tryz.prog w = .ok (.bool (T m)) w := by
  have hc := h.2 m hm
  have hs := h.1
  have hn : (0 : Int) ≤ (m : Int) ∧ (m : Int) < ((256 : Nat) : Int) := by omega
  have a4 := Tryz.isAgg4
  have z4 := Tryz.sizeOf4
  simp [Instr.index, run_underlying Tryz.underlying122, asIntOf, hn, part, a4, z4, hc, go_sem]
  intro h'
  omega

/-- A new array. -/
def sayZero : Array Value := Array.replicate 256 (.bool false)
theorem say_info : (Tryz.prog.info? 122).map (fun i => (i.zero, i.size)) = some (some (.agg sayZero), 256) := by kernel_rfl
theorem say_zero : SayAt sayZero (fun _ => false) := by
  unfold sayZero
  exact ⟨Array.size_replicate .., fun c hc => by rw [Array.getElem?_replicate, if_pos hc]⟩

/-- The cells of new classes. -/
def clZero : Array Value := (List.replicate 256 (Value.int .i64 0) ++ [Value.string ByteArray.empty]).toArray
theorem cl_built : Tryz.prog.built 127 [] = some clZero := by kernel_rfl
end Go.Proofs.YtjmlabggocfikaaGreat

namespace Go.Proofs.YtjmlabggocfikaaGreat
open Go.RowKit

theorem bubyte_info : (Tryz.prog.info? 5).map (fun i => (i.zero, i.size, i.bytes)) = some (some (.int .u8 0), 1, 1) := by kernel_rfl
theorem bubyte_one {x : Int} : ∀ v ∈ [Value.int .u8 x], v.oneCell' = true := by
  intro v hv
  simp at hv
  subst hv; rfl
theorem bucells_snoc (l : List UInt8) (c : Nat) (hc : c < 256) : Lib.byteCells (l ++ [UInt8.ofNat c]) = Lib.byteCells l ++ [.int .u8 (c : Int)] := by
  simp [Lib.byteCells]; omega

theorem u8_wrap (k : Nat) (h : k < 256) : IntKind.u8.wrap (k : Int) = (k : Int) := by
  have e : (2 ^ IntKind.u8.bits : Int) = 256 := rfl
  have s : IntKind.u8.signed = false := rfl
  unfold IntKind.wrap
  rw [e, s]
  simp
  omega
/-- A slice of bytes of the call's own, as a string says it. -/
theorem own_text {w : World} {base : Nat} {v : Value} {l : List UInt8} (h : w.ownsRow base 5 1 v l.length (Lib.byteCells l)) : (convert 79 9 v).run Tryz.prog w = .ok (.string ⟨l.toArray⟩) w := by
  rcases h.2 with ⟨rfl, h0⟩ | ⟨g, cap, cur, rfl, _⟩
  · obtain rfl := List.length_eq_zero_iff.1 h0
    rw [run_convert_bytes_string w 79 9 5 none 0 0 Tryz.underlying79 Tryz.underlying5 Tryz.underlying9]
    rfl
  · refine run_convert_bytes_back w 79 9 5 _ _ l Tryz.underlying79 Tryz.underlying5 Tryz.underlying9 (fun j hj => ?_)
    exact h.cells (g := g) rfl j _ (by simp [Lib.byteCells, List.getElem?_eq_getElem hj])
end Go.Proofs.YtjmlabggocfikaaGreat

namespace Go.Proofs.YtjmlabggocfikaaGreat
open Go.RowKit

theorem reps_at (x y : Value) (n : Nat) : (∀ c, c < n → (List.replicate n x ++ [y])[c]? = some x) ∧ (List.replicate n x ++ [y])[n]? = some y := by
  refine ⟨fun c hc => ?_, ?_⟩
  · rw [List.getElem?_append_left (by rw [List.length_replicate]; exact hc), List.getElem?_replicate, if_pos hc]
  · rw [List.getElem?_append_right (by rw [List.length_replicate]; exact Nat.le_refl _), List.length_replicate, Nat.sub_self]
    rfl
theorem wpList_built {P : Program} {w : World} {ops : Array Oper} {rest : List Oper} {o : Oper} {a : Act} {Q : Exit → Act → World → Prop} (hg : o.guard = none) (t : TypeId) (ho : o.op = .build t #[]) (cells : Array Value) (hc : P.built t [] = some cells)
    (h : wpList P ops Q rest (a.put o.dst (.agg cells)) w) : wpList P ops Q (o :: rest) a w :=
  wpList_build hg t #[] ho (by simp [hc]) (by simpa [hc] using h)

theorem wpList_built1 {P : Program} {w : World} {ops : Array Oper} {rest : List Oper} {o : Oper} {a : Act} {Q : Exit → Act → World → Prop} (hg : o.guard = none) (t : TypeId) (k : Nat) (x : Operand) (ho : o.op = .build t #[(k, x)]) (v : Value) (hv : a.eval x = v) (cells : Array Value) (hc : P.built t [(k, v)] = some cells)
    (h : wpList P ops Q rest (a.put o.dst (.agg cells)) w) : wpList P ops Q (o :: rest) a w :=
  wpList_build hg t #[(k, x)] ho (by simp [hv, hc]) (by simpa [hv, hc] using h)
end Go.Proofs.YtjmlabggocfikaaGreat

namespace Go.Proofs.YtjmlabggocfikaaGreat
open Go.RowKit

theorem clZero_at : ClsAt clZero (fun _ => 0) [] := by
  obtain ⟨h1, h2⟩ := reps_at (.int .i64 0) (.string ByteArray.empty) 256
  unfold clZero
  refine ⟨fun c hc => ?_, ?_⟩
  · rw [List.getElem?_toArray]; exact h1 c hc
  · rw [List.getElem?_toArray]; exact h2
set_option maxRecDepth 100000 in
set_option maxHeartbeats 4000000 in
theorem clnew_by (p : Value) (ws : List (List UInt8)) (w : World) (hn : ws.length ≤ 1000000) (he : ∀ t ∈ ws, t.length ≤ 1000000)
    (hL : ∀ W, Below w.heap.size w W → Calls Tryz.prog 82 #[p] W fun e w' => e = .returned (.int .i64 (ws.length : Int)) ∧ w' = W)
    (hA : ∀ (W : World) (k : Nat) (t : List UInt8), Below w.heap.size w W → ws[k]? = some t → Calls Tryz.prog 83 #[p, .int .i64 (k : Int)] W fun e w' => e = .returned (.tuple #[.string ⟨t.toArray⟩, .bool true]) ∧ w' = W) :
    Calls Tryz.prog 50 #[p] w fun e w' => ∃ b, e = .returned (.pointer (some ⟨b, 0, none⟩)) ∧ w.heap.size ≤ b ∧ IsCls w' b (ofC ws) (bcK ws 256) ∧ Below w.heap.size w w' := by
  have HA := Lib.hid hA
  have HE := Lib.hid he
  obtain ⟨hv, hvs⟩ := zero_of_info say_info
  have HZ : Hid (IsSay (w.alloc (.cells sayZero 122)) w.heap.size (fun _ => false)) := Lib.hid ⟨_, heap_alloc_new w _, say_zero⟩
  have B0 : Below w.heap.size w (w.alloc (.cells sayZero 122)) := (Below.refl _ w).alloc (Nat.le_refl _) _
  obtain ⟨zc, hzc⟩ : ∃ zc, sayZero = zc := ⟨_, rfl⟩
  rw [hzc] at hv HZ B0
  have HVS := Lib.hid hvs
  clear hzc hA he hvs
  obtain ⟨n, hnn⟩ : ∃ n, ws.length = n := ⟨_, rfl⟩
  rw [hnn] at hn hL
  have HNN := Lib.hid hnn
  have HLn := Lib.hid hL
  clear hnn hL
  go_enter Tryz.func50, Tryz.ntmps50
  go_wp2_with fail
  refine (HLn.out _ B0).mono ?_
  rintro e w' ⟨rfl, hw⟩
  obtain rfl := hw.symm
  clear hw HLn
  obtain ⟨W0, hW0⟩ : ∃ W0, w.alloc (.cells zc 122) = W0 := ⟨_, rfl⟩
  rw [hW0] at HZ B0 ⊢
  clear hW0 hv
  obtain ⟨b, hb⟩ : ∃ b, w.heap.size = b := ⟨_, rfl⟩
  rw [hb] at HZ ⊢
  have HBE := Lib.hid hb
  clear hb
  have HB0 : Hid (Below w.heap.size w W0) := Lib.hid B0
  clear B0
  go_wp2
  go_loopw [14] (fun i wr => ∃ k : Nat, k ≤ n ∧ i = .int .i64 k ∧ Hid (IsSay wr b (hasC (ws.take k))) ∧ Hid (Below w.heap.size w wr)) (fun i _ => n - (RowKit.intOf i).toNat)
  case atStart => exact ⟨0, Nat.zero_le _, rfl, Lib.hid (HZ.out.congr fun c _ => rfl), HB0⟩
  case round =>
    obtain ⟨k, hk, rfl, HK, HBk⟩ := hrel
    by_cases hlt : k < n
    · obtain ⟨t, hf⟩ : ∃ t, ws[k]? = some t := ⟨_, List.getElem?_eq_getElem (show k < ws.length by rw [HNN.out]; exact hlt)⟩
      have htl := HE.out t (List.mem_of_getElem? hf)
      have HA1 := Lib.hid (HA.out wr k t HBk.out hf)
      have HT0 : Hid (IsSay wr b (fun c => hasC (ws.take k) c || inT (t.take 0) c)) := Lib.hid (HK.out.congr fun c _ => by simp [inT])
      have HDn := Lib.hid (fun c => hasC_snoc hf c)
      have S1 := Lib.hid (bsize t)
      clear HK hf
      go_wp2_with fail
      refine HA1.out.mono ?_
      rintro e w' ⟨rfl, hw⟩
      obtain rfl := hw.symm
      clear hw HA1
      obtain ⟨W1, hW1⟩ : ∃ W1, wr = W1 := ⟨_, rfl⟩
      rw [hW1] at HT0 HBk ⊢
      clear hW1
      go_wp2
      go_loopw [25] (fun i wr => ∃ j : Nat, j ≤ t.length ∧ i = .int .i64 j ∧ Hid (IsSay wr b (fun c => hasC (ws.take k) c || inT (t.take j) c)) ∧ Hid (Below w.heap.size w wr)) (fun i _ => t.length - (RowKit.intOf i).toNat)
      case atStart => exact ⟨0, Nat.zero_le _, rfl, HT0, HBk⟩
      case round =>
        obtain ⟨j, hj, rfl, HJ, HBj⟩ := hrel
        by_cases hlt2 : j < t.length
        · have hjz : j < (⟨t.toArray⟩ : ByteArray).size := by rw [bsize]; exact hlt2
          have hb := byteAt t j hlt2 hjz
          obtain ⟨x, hx⟩ : ∃ x, t[j] = x := ⟨_, rfl⟩
          rw [hx] at hb
          have hxl := x.toNat_lt
          have c1 := HJ.out.cell hxl
          have f1 : wr.frozen? ⟨b, x.toNat, none⟩ = false := HJ.out.free
          have g0 : (0 : Int) ≤ (j : Int) := by omega
          have g1 : (j : Int) < (t.length : Int) := by omega
          have g2 : (x.toNat : Int) < 256 := by omega
          have HX : Hid (t[j]? = some x) := Lib.hid (by rw [List.getElem?_eq_getElem hlt2, hx])
          have HN : Hid (IsSay (wr.setCell ⟨b, x.toNat, none⟩ (.bool true)) b (fun c => hasC (ws.take k) c || inT (t.take (j + 1)) c)) := Lib.hid ((HJ.out.put hxl).congr fun c _ => by
            rw [inT_snoc HX.out c, Bool.or_assoc])
          have HB2 : Hid (Below w.heap.size w (wr.setCell ⟨b, x.toNat, none⟩ (.bool true))) := Lib.hid (HBj.out.setCell (by rw [HBE.out]; exact Nat.le_refl _) _)
          clear HJ HBj HX hx
          go_wp2
          exact ⟨⟨j + 1, by omega, by go_num, HN, HB2⟩, by simp [RowKit.intOf]; omega⟩
        · obtain rfl : j = t.length := by omega
          have hz : ¬ (t.length : Int) < (t.length : Int) := by omega
          have HN : Hid (IsSay wr b (hasC (ws.take (k + 1)))) := Lib.hid (HJ.out.congr fun c _ => by rw [HDn.out c, List.take_length])
          clear HJ
          go_wp2
          exact ⟨⟨k + 1, by omega, by go_num, HN, HBj⟩, by simp [RowKit.intOf]; omega⟩
    · obtain rfl : k = n := by omega
      have hz : ¬ (k : Int) < (k : Int) := by omega
      have HI : Hid (IsSay wr b (hasC ws)) := Lib.hid (HK.out.congr fun c _ => by rw [List.take_of_length_le (by rw [HNN.out]; exact Nat.le_refl _)])
      clear HK
      have hcb := cl_built
      have HC0 : Hid (IsCls (wr.alloc (.cells clZero 127)) wr.heap.size (fun _ => 0) []) := Lib.hid ⟨_, heap_alloc_new wr _, clZero_at⟩
      generalize clZero = zk at hcb HC0
      have hbw := HI.out.lt
      obtain ⟨cs, hh, hsay⟩ := HI.out
      have hcs := hsay.1
      have HH : Hid ((wr.alloc (.cells zk 127)).heap[b]? = some (.cells cs 122 (0, 0))) := Lib.hid (by rw [Lib.alloc_old _ _ _ hbw]; exact hh)
      have HB2 : Hid (Below w.heap.size w (wr.alloc (.cells zk 127))) := Lib.hid (HBk.out.alloc HBk.out.size _)
      have HBB : Hid (w.heap.size ≤ wr.heap.size) := Lib.hid HBk.out.size
      have HS2 : Hid ((wr.alloc (.cells zk 127)).heap.size = wr.heap.size + 1) := Lib.hid (by simp)
      clear hh HI HBk
      go_wp2_with (refine wpList_built rfl 127 rfl zk hcb ?_)
      obtain ⟨W2, hW2⟩ : ∃ W2, wr.alloc (.cells zk 127) = W2 := ⟨_, rfl⟩
      obtain ⟨q, hq⟩ : ∃ q, wr.heap.size = q := ⟨_, rfl⟩
      rw [hq] at HBB HS2
      rw [hW2] at HB2 HH HS2
      rw [hW2, hq] at HC0
      rw [hW2, hq]
      clear hW2 hq hcb
      refine wp_load_row 122 _ rfl b rfl 122 cs (0, 0) _ HH.out Tryz.underlying122 rfl (by rw [HVS.out, hcs]) ?_
      have HCS := Lib.hid (fun (m : Nat) (hm : m < 256) (w : World) => say_index hsay m hm w)
      clear hsay HH HVS
      obtain ⟨i0, hi, hz0, hz1, hz2⟩ := info_parts bubyte_info
      go_wp2
      go_loopw [9, 37] (fun v i wr => ∃ m : Nat, m ≤ 256 ∧ i = .int .i64 m ∧ Hid (wr.ownsRow W2.heap.size 5 1 v (bcK ws m).length (Lib.byteCells (bcK ws m))) ∧ Hid (IsCls wr q (fun c => if c < m then ofC ws c else 0) []) ∧ Hid (Below w.heap.size w wr) ∧ W2.heap.size ≤ wr.heap.size) (fun _ i _ => 256 - (RowKit.intOf i).toNat)
      case atStart => exact ⟨0, Nat.zero_le _, rfl, Lib.hid (World.ownsRow_nil _ _ _ _), Lib.hid (HC0.out.congr fun c _ => rfl), HB2, Nat.le_refl _⟩
      case round =>
        obtain ⟨m, hm, rfl, HO, HK, HBm, hsz⟩ := hrel
        obtain ⟨a, cap, rfl⟩ := owns_slice HO.out
        by_cases hlt3 : m < 256
        · have hc1 := HCS.out m hlt3
          have g0 : (0 : Int) ≤ (m : Int) := by omega
          have g1 : (m : Int) < 256 := by omega
          have hw8 : IntKind.u8.wrap (m : Int) = (m : Int) := u8_wrap m hlt3
          cases hq : hasC ws m with
          | true =>
            simp only [hq] at hc1
            have hl := bc_length ws m
            have HV := Lib.hid (bc_hit hq)
            have HF : Hid (ofC ws m = (bcK ws (m + 1)).length) := Lib.hid (by rw [of_hit hq, bc_hit hq]; simp)
            have c1 := HK.out.cell hlt3
            rw [if_neg (Nat.lt_irrefl m)] at c1
            have hown := HO.out
            clear hq
            go_wp2_with (at_builtin; refine wpList_append_own _ rfl _ _ 79 rfl W2.heap.size 5 i0 (.int .u8 0) 1 1 Tryz.underlying79 hi hz0 hz1 hz2 rfl (by decide) _ _ _ rfl (hown.alloc _) ⟨wr.heap.size, 0, none⟩ 1 1 [.int .u8 (m : Int)] rfl rfl (one_news (heap_alloc_new _ _)) bubyte_one (by unfold maxLen; omega) (by omega) (by simp; omega) ?_)
            intro v' w3 hown3 hgrow _
            obtain ⟨a3, cap3, rfl⟩ := owns_slice hown3
            have HW := Lib.hid (show w3.ownsRow W2.heap.size 5 1 (.slice a3 ((bcK ws m).length + 1) cap3) (bcK ws (m + 1)).length (Lib.byteCells (bcK ws (m + 1))) by rw [HV.out, bucells_snoc _ _ hlt3, List.length_append]; exact hown3)
            have B3 : Below W2.heap.size wr w3 := ⟨hgrow.os, hgrow.tape, hgrow.output, Nat.le_trans (by simp) hgrow.size, fun i hi => by
              rw [hgrow.block i (by simp; omega) (fun e => by have := (hown.lt i e.symm).1; omega), Lib.alloc_old _ _ i (by omega)]⟩
            have hs3 := B3.size
            have HQ2 : Hid (q < W2.heap.size) := Lib.hid (by rw [HS2.out]; omega)
            have HK3 : Hid (IsCls w3 q (fun c => if c < m then ofC ws c else 0) []) := Lib.hid (by
              obtain ⟨cs', e1, e2⟩ := HK.out
              exact ⟨cs', (B3.block q HQ2.out).trans e1, e2⟩)
            have c3 := HK3.out.cell hlt3
            rw [if_neg (Nat.lt_irrefl m)] at c3
            have f3 : w3.frozen? ⟨q, m, none⟩ = false := HK3.out.free
            have HL3 : Hid ((bcK ws m).length + 1 = (bcK ws (m + 1)).length) := Lib.hid (by rw [HV.out]; simp)
            have HB3 : Hid (Below w.heap.size w w3) := Lib.hid (HBm.out.trans ⟨B3.os, B3.tape, B3.output, B3.size, fun i hi => B3.block i (by have := HB2.out.size; omega)⟩)
            have HI3 : Hid (Into q w3 (w3.setCell ⟨q, m, none⟩ (.int .i64 (((bcK ws m).length : Int) + 1)))) := Lib.hid ((Into.refl q w3).set m _)
            have HW4 := Lib.hid (HI3.out.owns HQ2.out HW.out)
            have HB4 : Hid (Below w.heap.size w (w3.setCell ⟨q, m, none⟩ (.int .i64 (((bcK ws m).length : Int) + 1)))) := Lib.hid (HB3.out.setCell HBB.out _)
            have HK4 : Hid (IsCls (w3.setCell ⟨q, m, none⟩ (.int .i64 (((bcK ws m).length : Int) + 1))) q (fun c => if c < m + 1 then ofC ws c else 0) []) := Lib.hid (by
              have e : (((bcK ws m).length : Int) + 1) = (((bcK ws m).length + 1 : Nat) : Int) := by omega
              rw [e]
              refine (HK3.out.put hlt3).congr fun c _ => ?_
              by_cases e : c = m
              · subst e
                simp only [↓reduceIte]
                rw [if_pos (Nat.lt_succ_self c), HF.out, HL3.out]
              · simp only [if_neg e]
                by_cases e2 : c < m
                · rw [if_pos e2, if_pos (by omega)]
                · rw [if_neg e2, if_neg (by omega)])
            have hsz4 := Nat.le_trans (Nat.le_trans hsz hs3) (Nat.le_of_eq HI3.out.size.symm)
            clear hown hown3 hgrow HK HO HV B3 HK3 HB3 HI3 HW hs3 hsz
            go_wp2
            exact ⟨⟨m + 1, by omega, by go_num, HW4, HK4, HB4, hsz4⟩, by simp [RowKit.intOf]; omega⟩
          | false =>
            simp only [hq] at hc1
            have HV := Lib.hid (bc_miss hq)
            have HF : Hid (ofC ws m = 0) := Lib.hid (of_miss hq)
            clear hq
            go_wp2
            exact ⟨⟨m + 1, by omega, by go_num, by rw [HV.out]; exact HO, Lib.hid (HK.out.congr fun c _ => by
              by_cases e : c = m
              · subst e
                rw [if_neg (Nat.lt_irrefl c), if_pos (Nat.lt_succ_self c), HF.out]
              · by_cases e2 : c < m
                · rw [if_pos e2, if_pos (by omega)]
                · rw [if_neg e2, if_neg (by omega)]), HBm, hsz⟩, by simp [RowKit.intOf]; omega⟩
        · obtain rfl : m = 256 := by omega
          have hz : ¬ ((256 : Nat) : Int) < 256 := by omega
          have hct := own_text HO.out
          have c1 := HK.out.last
          have f1 : wr.frozen? ⟨q, 256, none⟩ = false := HK.out.free
          have HI : Hid (IsCls wr q (ofC ws) []) := Lib.hid (HK.out.congr fun c hc => by rw [if_pos hc])
          have HL := Lib.hid (HI.out.putB (bcK ws 256))
          have HB3 : Hid (Below w.heap.size w (wr.setCell ⟨q, 256, none⟩ (.string ⟨(bcK ws 256).toArray⟩))) := Lib.hid (HBm.out.setCell HBB.out _)
          clear HK
          go_wp2
          go_ret
          exact ⟨q, rfl, HBB.out, HL.out, HB3.out⟩
end Go.Proofs.YtjmlabggocfikaaGreat
