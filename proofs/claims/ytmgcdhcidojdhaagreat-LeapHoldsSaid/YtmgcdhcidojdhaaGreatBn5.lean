/-
  Texts put together: LpQ, PtIs, PtLa, PtIp, Ints, BuW, BuO, Arr, BuN, BuNs, PtLe, ShW, ShN, ShNs, PrK.
-/
import Derived.Test.YtmgcdhcidojdhaaGreatBn2
import Derived.Test.YtmgcdhcidojdhaaGreatBn4
import Derived.Test.YtmgcdhcidojdhaaGreatBn1
import Derived.Test.YtmgcdhcidojdhaaGreatBn3
import Derived.Laws.ResultCell
import Derived.Laws.Tables
import Derived.WalkKit
import Derived.Deep.RegionWith
import Derived.Lib.MinMax
import Derived.Lib.Hide
import Derived.Test.YtmgcdhcidojdhaaGreatRows
import Derived.DeepKeys4
import Derived.Maps.OwnOps
import Derived.Maps.OwnSet
import Derived.Maps.Views
import Derived.KernelRfl
set_option linter.unusedSimpArgs false
set_option linter.unusedVariables false
namespace Go.Proofs.YtmgcdhcidojdhaaGreat
open Go.RowKit

theorem midL_app (s : List UInt8) (q m t : Nat) (h1 : q ≤ m) (h2 : m ≤ t) (h3 : t ≤ s.length) : midL s q m ++ midL s m t = midL s q t := by
  have l1 := midL_length s q m (by omega)
  have l2 := midL_length s m t h3
  have l3 := midL_length s q t h3
  refine List.ext_getElem? fun i => ?_
  rcases Nat.lt_or_ge i (m - q) with h | h
  · rw [List.getElem?_append_left (by omega), midL_get s q m i (by omega) h, midL_get s q t i h3 (by omega)]
  · rw [List.getElem?_append_right (by omega), l1]
    rcases Nat.lt_or_ge i (t - q) with h' | h'
    · rw [midL_get s m t _ h3 (by omega), midL_get s q t i h3 h', show m + (i - (m - q)) = q + i by omega]
    · rw [List.getElem?_eq_none (by omega), List.getElem?_eq_none (by omega)]

/-- In the midst: the text, the carry, the records so far; 'ps' are records whose numbers are kept. -/
structure RunAt (w : World) (X b base keep : Nat) (s : List UInt8) (vT vC vR : Value) (l : List UInt8) (d : Nat) (rs ps : List Rc) (wr : World) : Prop where
  hX : w.heap.size ≤ X
  hb : b < w.heap.size
  frame : But w.heap.size b w wr
  text : IsText wr X X vT l
  car : IsCarV wr base b vC keep s d
  apart : Apart X vT.ownBlock b vC
  recs : wr.ownsRow w.heap.size 45 4 vR rs.length (rcCells rs)
  ids : ∀ x ∈ ps, IdsAt wr x

section
variable {w : World} {X b base kp : Nat} {s : List UInt8} {vT vC vR : Value} {l : List UInt8} {d : Nat} {rs ps : List Rc} {wr : World}

set_option maxRecDepth 100000 in
theorem IsText.kept {T : TypeId} {w w' : World} {B X : Nat} {v : Value} {l : List UInt8} (h : IsText w B X v l) (hs : Save X v.ownBlock w w') (h1 : T ≠ 87) (h2 : T ≠ 5) : Keep T w w' := fun k cs m hh => by
  rw [hs.block k (heap_lt hh) (type_ne hh h.2.1 h1) ?_]
  · exact hh
  · intro e
    obtain ⟨_, _, _, ds, fz, hd⟩ := h.row e.symm
    exact type_ne hh hd h2 rfl
theorem But.save {w u v : World} {b X : Nat} {r : Option Nat} (h : But w.heap.size b w u) (hX : w.heap.size ≤ X) (hr : ∀ g, r = some g → w.heap.size ≤ g) (hs : Save X r u v) : But w.heap.size b w v :=
  h.trans ⟨hs.os, hs.tape, hs.output, hs.size, fun k hk _ => hs.block k (by have := h.size; omega) (by omega) (fun e => by have := hr k e.symm; omega)⟩

set_option maxRecDepth 100000 in
/-- String. -/
theorem RunAt.string (h : RunAt w X b base kp s vT vC vR l d rs ps wr) {w1 : World} (ht : IsText w1 X X vT l) (hs : Save X vT.ownBlock wr w1) : RunAt w X b base kp s vT vC vR l d rs ps w1 where
  hX := h.hX
  hb := h.hb
  frame := h.frame.save h.hX (fun g e => Nat.le_trans h.hX (h.text.row e).1) hs
  text := ht
  car := h.car.save hs h.apart
  apart := h.apart
  recs := (h.text.kept hs (by decide) (by decide)).owns h.recs
  ids := fun x hx => (h.ids x hx).keep (h.text.kept hs (by decide) (by decide))
/-- A call that writes nothing that was there. -/
theorem RunAt.below (h : RunAt w X b base kp s vT vC vR l d rs ps wr) {w1 : World} (hb : Below wr.heap.size wr w1) : RunAt w X b base kp s vT vC vR l d rs ps w1 where
  hX := h.hX
  hb := h.hb
  frame := h.frame.trans (But.of (hb.mono h.frame.size))
  text := h.text.below hb
  car := h.car.below hb
  apart := h.apart
  recs := (Keep.below hb).owns h.recs
  ids := fun x hx => (h.ids x hx).keep (.below hb)
theorem RunAt.drewN (h : RunAt w X b base kp s vT vC vR l d rs ps wr) (n : Nat) : RunAt w X b base kp s vT vC vR l d rs ps (wr.drewN n) := h.below ⟨rfl, rfl, rfl, Nat.le_refl _, fun _ _ => rfl⟩
theorem RunAt.add (h : RunAt w X b base kp s vT vC vR l d rs ps wr) {x : Rc} (hx : IdsAt wr x) : RunAt w X b base kp s vT vC vR l d rs (ps ++ [x]) wr :=
  ⟨h.hX, h.hb, h.frame, h.text, h.car, h.apart, h.recs, fun y hy => by
    rcases List.mem_append.1 hy with hy | hy
    · exact h.ids y hy
    · rw [List.mem_singleton.1 hy]
      exact hx⟩
set_option maxRecDepth 100000 in
/-- lay. -/
theorem RunAt.lay (h : RunAt w X b base kp s vT vC vR l d rs ps wr) {w1 : World} {vT' : Value} {l' : List UInt8} (ht : IsText w1 X X vT' l') (hv : vT'.ownBlock = vT.ownBlock ∨ ∃ g, vT'.ownBlock = some g ∧ wr.heap.size ≤ g) (hs : Save X vT.ownBlock wr w1) : RunAt w X b base kp s vT' vC vR l' d rs ps w1 where
  hX := h.hX
  hb := h.hb
  frame := h.frame.save h.hX (fun g e => Nat.le_trans h.hX (h.text.row e).1) hs
  text := ht
  car := h.car.save hs h.apart
  apart := by
    rcases hv with hv | ⟨g, hv, hg⟩
    · rw [hv]; exact h.apart
    · rw [hv]
      refine ⟨h.apart.1, fun e => ?_, fun k hk => ⟨(h.apart.2.2 k hk).1, fun e => ?_⟩⟩
      · injection e with e
        have := h.car.lt
        omega
      · injection e with e
        have := (h.car.row hk).2
        omega
  recs := (h.text.kept hs (by decide) (by decide)).owns h.recs
  ids := fun x hx => (h.ids x hx).keep (h.text.kept hs (by decide) (by decide))
theorem IsCarV.typ {w : World} {base b keep done : Nat} {s : List UInt8} {v : Value} (h : IsCarV w base b v keep s done) : ∃ cs m, w.heap[b]? = some (.cells cs 82 m) := by
  obtain ⟨_, _, _, _, _, gone, _, hh, _⟩ := h
  exact ⟨_, _, hh⟩
set_option maxRecDepth 100000 in
/-- Pass. -/
theorem RunAt.pass (h : RunAt w X b base kp s vT vC vR l d rs ps wr) {w1 : World} {vC' : Value} {e : Nat} (hc : IsCarV w1 base b vC' kp s e) (hv : vC'.ownBlock = vC.ownBlock ∨ vC'.ownBlock = some wr.heap.size) (hs : But wr.heap.size b wr w1) : RunAt w X b base kp s vT vC' vR l e rs ps w1 := by
  obtain ⟨cs, m, hty⟩ := h.car.typ
  have hbX : X ≠ b := fun e => h.apart.1 e.symm
  refine ⟨h.hX, h.hb, ?_, ?_, hc, ?_, ?_, ?_⟩
  · exact h.frame.trans ⟨hs.os, hs.tape, hs.output, hs.size, fun k hk hkb => hs.block k (by have := h.frame.size; omega) hkb⟩
  · exact h.text.same (hs.block X h.text.lt hbX) (fun g hg => hs.block g (h.text.row hg).2.1 (fun e => h.apart.2.1 (by rw [hg, e])))
  · rcases hv with hv | hv
    · refine ⟨h.apart.1, h.apart.2.1, ?_⟩
      rw [hv]
      exact h.apart.2.2
    · refine ⟨h.apart.1, h.apart.2.1, fun g hg => ?_⟩
      rw [hv] at hg
      injection hg with hg
      refine ⟨by have := h.text.lt; omega, fun e => ?_⟩
      have := (h.text.row e.symm).2.1
      omega
  · exact (Keep.but hs hty (by decide)).owns h.recs
  · exact fun x hx => (h.ids x hx).keep (Keep.but hs hty (by decide))
set_option maxRecDepth 100000 in
/-- An append to the records. -/
theorem RunAt.append (h : RunAt w X b base kp s vT vC vR l d rs ps wr) {w1 : World} {vR' : Value} {rs' : List Rc} (ho : w1.ownsRow w.heap.size 45 4 vR' rs'.length (rcCells rs')) (hg : wr.grownBy w1 vR.ownBlock) : RunAt w X b base kp s vT vC vR' l d rs' ps w1 := by
  obtain ⟨cs, m, hty⟩ := h.car.typ
  have hne : ∀ k ds U n, wr.heap[k]? = some (Obj.cells ds U n) → U ≠ 45 → w1.heap[k]? = some (Obj.cells ds U n) := fun k ds U n hh hU => Keep.grown h.recs hg hU k ds n hh
  refine ⟨h.hX, h.hb, ?_, ?_, ?_, h.apart, ho, ?_⟩
  · refine h.frame.trans ⟨hg.os, hg.tape, hg.output, hg.size, fun k hk hkb => hg.block k (by have := h.frame.size; omega) (fun e => ?_)⟩
    have := (h.recs.lt k e.symm).1
    omega
  · refine h.text.same ?_ (fun g hgg => ?_)
    · rw [hne X _ _ _ h.text.2.1 (by decide)]; exact h.text.2.1.symm
    · obtain ⟨_, _, _, ds, fz, hd⟩ := h.text.row hgg
      rw [hne g _ _ _ hd (by decide)]; exact hd.symm
  · refine h.car.same hg.size ?_ (fun g hgg => ?_)
    · rw [hne b _ _ _ hty (by decide)]; exact hty.symm
    · obtain ⟨_, _, _, _, _, gone, _, _, hown⟩ := h.car
      rcases hown.2 with ⟨rfl, _⟩ | ⟨g', cap, cur, rfl, _, hd, _⟩
      · simp [Value.ownBlock] at hgg
      · simp only [Value.ownBlock, Option.some.injEq] at hgg
        subst hgg
        rw [hne g' _ _ _ hd (by decide)]; exact hd.symm
  · exact fun x hx => (h.ids x hx).keep (Keep.grown h.recs hg (by decide))
end
end Go.Proofs.YtmgcdhcidojdhaaGreat

namespace Go.Proofs.YtmgcdhcidojdhaaGreat
open Go.RowKit

/-- A set of these patterns lies in block b. -/
def IsSet (w : World) (b : Nat) (ws : List (List UInt8)) : Prop :=
  ∃ g cap, w.heap[b]? = some (.cells #[.slice (some ⟨g, 0, none⟩) ws.length cap, .int .i64 (leastL ws : Int), .int .i64 (mostL ws : Int), .int .i64 (totalL ws : Int)] 63 (0, 0)) ∧
    w.ownsRow 0 9 1 (.slice (some ⟨g, 0, none⟩) ws.length cap) ws.length (txCells ws)

theorem IsSet.lt {w : World} {b : Nat} {ws : List (List UInt8)} (h : IsSet w b ws) : b < w.heap.size := by
  obtain ⟨g, cap, h1, _⟩ := h
  exact heap_lt h1
theorem IsSet.below {w w' : World} {b : Nat} {ws : List (List UInt8)} (h : IsSet w b ws) (hb : Below w.heap.size w w') : IsSet w' b ws := by
  obtain ⟨g, cap, h1, h2⟩ := h
  exact ⟨g, cap, (hb.block b (heap_lt h1)).trans h1, tx_below h2 hb⟩
theorem IsSet.drewN {w : World} {b : Nat} {ws : List (List UInt8)} (h : IsSet w b ws) (n : Nat) : IsSet (w.drewN n) b ws := h
theorem own_strs {w : World} {base : Nat} {g n cap : Nat} {ws : List (List UInt8)} (h : w.ownsRow base 9 1 (.slice (some ⟨g, 0, none⟩) n cap) n (txCells ws)) : IsStrs w (some ⟨g, 0, none⟩) n ws := by
  have e : ws.length = n := by have := h.1; rw [txCells, List.length_map] at this; omega
  refine ⟨e, .inr ⟨g, 0, rfl, fun i hi => ?_⟩⟩
  have hc := h.cells (g := g) rfl i (.string ⟨(ws[i]'hi).toArray⟩) (by simp [txCells, List.getElem?_eq_getElem hi])
  rwa [addPlain] at hc

/-- What is read of a set. -/
theorem IsSet.reads {w : World} {b : Nat} {ws : List (List UInt8)} (h : IsSet w b ws) : ∃ g cap, w.cell? ⟨b, 0, none⟩ = some (.slice (some ⟨g, 0, none⟩) ws.length cap) ∧ w.cell? ⟨b, 1, none⟩ = some (.int .i64 (leastL ws : Int)) ∧
    w.cell? ⟨b, 2, none⟩ = some (.int .i64 (mostL ws : Int)) ∧ w.cell? ⟨b, 3, none⟩ = some (.int .i64 (totalL ws : Int)) ∧ w.ownsRow 0 9 1 (.slice (some ⟨g, 0, none⟩) ws.length cap) ws.length (txCells ws) := by
  obtain ⟨g, cap, h1, h2⟩ := h
  refine ⟨g, cap, ?_, ?_, ?_, ?_, h2⟩ <;> rw [Lib.cell_of_heap h1] <;> rfl
end Go.Proofs.YtmgcdhcidojdhaaGreat

namespace Go.Proofs.YtmgcdhcidojdhaaGreat
open Go.RowKit

theorem ptlen_nil (w : World) : Calls Tryz.prog 71 #[.pointer none] w fun e w' => e = .returned (.int .i64 0) ∧ w' = w := by
  go_enter Tryz.func71, Tryz.ntmps71
  go_wp2
  go_ret
  exact ⟨rfl, rfl⟩
theorem ptlen_any {w : World} {b : Nat} {ws : List (List UInt8)} (h : IsSet w b ws) : Calls Tryz.prog 71 #[.pointer (some ⟨b, 0, none⟩)] w fun e w' => e = .returned (.int .i64 (ws.length : Int)) ∧ w' = w := by
  obtain ⟨g, cap, c0, _⟩ := h.reads
  clear h
  go_enter Tryz.func71, Tryz.ntmps71
  go_wp2
  go_ret
  exact ⟨rfl, rfl⟩
theorem ptat_nil (n : Int) (w : World) : Calls Tryz.prog 72 #[.pointer none, .int .i64 n] w fun e w' => e = .returned (.tuple #[.string ByteArray.empty, .bool false]) ∧ w' = w := by
  by_cases h : n < 0
  · go_enter Tryz.func72, Tryz.ntmps72
    go_wp2
    go_ret2
    exact ⟨rfl, rfl⟩
  · go_enter Tryz.func72, Tryz.ntmps72
    go_wp2_with fail
    refine (ptlen_nil w).mono ?_
    rintro e w' ⟨rfl, rfl⟩
    go_wp2
    go_ret2
    exact ⟨rfl, rfl⟩
theorem ptat_out {w : World} {b : Nat} {ws : List (List UInt8)} (h : IsSet w b ws) (n : Int) (hn : n < 0 ∨ (ws.length : Int) ≤ n) : Calls Tryz.prog 72 #[.pointer (some ⟨b, 0, none⟩), .int .i64 n] w fun e w' => e = .returned (.tuple #[.string ByteArray.empty, .bool false]) ∧ w' = w := by
  have HL := Lib.hid (ptlen_any h)
  clear h
  by_cases h0 : n < 0
  · clear hn
    go_enter Tryz.func72, Tryz.ntmps72
    go_wp2
    go_ret2
    exact ⟨rfl, rfl⟩
  · have h1 : (ws.length : Int) ≤ n := by omega
    clear hn
    go_enter Tryz.func72, Tryz.ntmps72
    go_wp2_with fail
    refine HL.out.mono ?_
    rintro e w' ⟨rfl, rfl⟩
    go_wp2
    go_ret2
    exact ⟨rfl, rfl⟩
theorem ptat_in {w : World} {b : Nat} {ws : List (List UInt8)} (h : IsSet w b ws) (k : Nat) (t : List UInt8) (ht : ws[k]? = some t) : Calls Tryz.prog 72 #[.pointer (some ⟨b, 0, none⟩), .int .i64 (k : Int)] w fun e w' => e = .returned (.tuple #[.string ⟨t.toArray⟩, .bool true]) ∧ w' = w := by
  have HL := Lib.hid (ptlen_any h)
  obtain ⟨g, cap, c0, _, _, _, hown⟩ := h.reads
  have hk := (List.getElem?_eq_some_iff.1 ht).1
  have hc := own_strs hown
  obtain ⟨b', off, e, t', ht', hcell⟩ := str_at hc (Below.refl _ _) k hk
  cases e
  obtain rfl : t' = t := Option.some.inj (ht'.symm.trans ht)
  rw [Nat.zero_add] at hcell
  have g0 : ¬ (k : Int) < 0 := by omega
  have g1 : (k : Int) < (ws.length : Int) := by omega
  have g2 : (0 : Int) ≤ (k : Int) := by omega
  clear h ht ht' hown hc
  go_enter Tryz.func72, Tryz.ntmps72
  go_wp2_with fail
  refine HL.out.mono ?_
  rintro e w' ⟨rfl, rfl⟩
  go_wp2
  go_ret2
  exact ⟨rfl, rfl⟩
end Go.Proofs.YtmgcdhcidojdhaaGreat

namespace Go.Proofs.YtmgcdhcidojdhaaGreat
open Go.RowKit


/-- The patterns of the set that texts make; none, if they make none. -/
def setL (ws : List (List UInt8)) : List (List UInt8) := if faultL ws = 0 then srt ws else []
theorem set_good {ws : List (List UInt8)} (h : faultL ws = 0) : setL ws = srt ws := if_pos h
theorem set_bad {ws : List (List UInt8)} (h : ¬ faultL ws = 0) : setL ws = [] := if_neg h
theorem set_length (ws : List (List UInt8)) : (setL ws).length ≤ ws.length := by
  unfold setL
  split
  · rw [srt_length]; exact Nat.le_refl _
  · exact Nat.zero_le _
theorem set_mem {ws : List (List UInt8)} {t : List UInt8} (h : t ∈ setL ws) : t ∈ ws ∧ 1 ≤ t.length ∧ t.length ≤ 65535 := by
  by_cases hf : faultL ws = 0
  · rw [set_good hf] at h
    have hm := (srt_perm ws).mem_iff.1 h
    exact ⟨hm, ((fault_zero ws).1 hf).each t hm⟩
  · rw [set_bad hf] at h; cases h
theorem set_asc (ws : List (List UInt8)) : Asc (setL ws) := by
  by_cases hf : faultL ws = 0
  · rw [set_good hf]; exact srt_asc ws
  · rw [set_bad hf]; exact List.Pairwise.nil

/-- A set behind a pointer, or none. -/
def IsPats (w : World) (p : Option Addr) (us : List (List UInt8)) : Prop := (p = none ∧ us = []) ∨ ∃ b, p = some ⟨b, 0, none⟩ ∧ IsSet w b us ∧ Pats us
theorem IsPats.below {w w' : World} {p : Option Addr} {us : List (List UInt8)} (h : IsPats w p us) (hb : Below w.heap.size w w') : IsPats w' p us :=
  h.elim .inl (fun ⟨b, h1, h2, h3⟩ => .inr ⟨b, h1, h2.below hb, h3⟩)

theorem IsPats.heap {w W : World} {p : Option Addr} {us : List (List UInt8)} (h : IsPats w p us) (e : W.heap = w.heap) : IsPats W p us := by
  unfold IsPats IsSet World.ownsRow at *
  rw [e]
  exact h

theorem ptlen_all {w : World} {p : Option Addr} {us : List (List UInt8)} (h : IsPats w p us) : Calls Tryz.prog 71 #[.pointer p] w fun e w' => e = .returned (.int .i64 (us.length : Int)) ∧ w' = w := by
  rcases h with ⟨rfl, rfl⟩ | ⟨b, rfl, h, _⟩
  · exact ptlen_nil w
  · exact ptlen_any h
theorem ptat_all {w : World} {p : Option Addr} {us : List (List UInt8)} (h : IsPats w p us) (k : Nat) (t : List UInt8) (ht : us[k]? = some t) : Calls Tryz.prog 72 #[.pointer p, .int .i64 (k : Int)] w fun e w' => e = .returned (.tuple #[.string ⟨t.toArray⟩, .bool true]) ∧ w' = w := by
  rcases h with ⟨rfl, rfl⟩ | ⟨b, rfl, h, _⟩
  · simp at ht
  · exact ptat_in h k t ht
end Go.Proofs.YtmgcdhcidojdhaaGreat

namespace Go.Proofs.YtmgcdhcidojdhaaGreat
open Go.RowKit

set_option maxRecDepth 100000 in
theorem make_row (c : Nat) (w : World) (hc : c ≤ 1000000000) : (Instr.makeSlice 43 (.int .i64 (c : Int)) (.int .i64 (c : Int))).run Tryz.prog w = .ok (.slice (some ⟨w.heap.size, 0, none⟩) c c) (w.alloc (.cells (inCells (List.replicate c 0)).toArray 3)) := by
  obtain ⟨i0, hi, hz0, hz1, hz2⟩ := info_parts int_info
  have h := run_make (P := Tryz.prog) w 43 3 i0 (.int .i64 0) Tryz.underlying43 hi hz0 .i64 .i64 c c (by omega) (Int.le_refl _) (by rw [hz2]; omega) (by omega)
  rw [h, hz1, Nat.mul_one, Int.toNat_natCast, show inCells (List.replicate c 0) = List.replicate c (Value.int .i64 0) by simp [inCells]]
  congr 3
  show madeCells #[Value.int .i64 0] c = _
  rw [← toList_madeCells_one]
end Go.Proofs.YtmgcdhcidojdhaaGreat

namespace Go.Proofs.YtmgcdhcidojdhaaGreat
open Go.RowKit

/-- Buckets in block b: of each byte a slice of numbers of their own, and a number; no two slices lie in one block. -/
def IsBks (w : World) (base b : Nat) (I : Nat → List Int) (L : Nat → Nat) : Prop :=
  b < base ∧ base ≤ w.heap.size ∧ ∃ (cs : Array Value) (v : Nat → Value), w.heap[b]? = some (.cells cs 125 (0, 0)) ∧
    (∀ c, c < 256 → cs[c * 2]? = some (v c) ∧ cs[c * 2 + 1]? = some (.int .i64 (L c : Int)) ∧ w.ownsRow base 3 1 (v c) (I c).length (inCells (I c))) ∧
    (∀ c d, c < 256 → d < 256 → c ≠ d → ∀ g, (v c).ownBlock = some g → (v d).ownBlock ≠ some g)

theorem IsBks.lt {w : World} {base b : Nat} {I : Nat → List Int} {L : Nat → Nat} (h : IsBks w base b I L) : b < w.heap.size := by
  have h1 := h.1
  have h2 := h.2.1
  omega
theorem IsBks.below {w w' : World} {base b : Nat} {I : Nat → List Int} {L : Nat → Nat} (h : IsBks w base b I L) (hb : Below w.heap.size w w') : IsBks w' base b I L := by
  have hlt := h.lt
  obtain ⟨h1, h2, cs, v, h3, h4, h5⟩ := h
  refine ⟨h1, Nat.le_trans h2 hb.size, cs, v, (hb.block b hlt).trans h3, fun c hc => ?_, h5⟩
  obtain ⟨a1, a2, a3⟩ := h4 c hc
  exact ⟨a1, a2, tx_below a3 hb⟩
theorem IsBks.drewN {w : World} {base b : Nat} {I : Nat → List Int} {L : Nat → Nat} (h : IsBks w base b I L) (n : Nat) : IsBks (w.drewN n) base b I L := h

/-- One byte's bucket is stored anew. -/
theorem bks_put {w w2 : World} {base b c : Nat} {I : Nat → List Int} {L : Nat → Nat} {l : List Int} {m : Nat} {cs : Array Value} {v : Nat → Value} {v' : Value} (hb : b < base) (hB : base ≤ w.heap.size) (hs : w.heap.size ≤ w2.heap.size)
    (h4 : ∀ d, d < 256 → cs[d * 2]? = some (v d) ∧ cs[d * 2 + 1]? = some (.int .i64 (L d : Int)) ∧ w.ownsRow base 3 1 (v d) (I d).length (inCells (I d)))
    (h5 : ∀ c d, c < 256 → d < 256 → c ≠ d → ∀ g, (v c).ownBlock = some g → (v d).ownBlock ≠ some g)
    (hc : c < 256) (hkeep : ∀ d, d < 256 → d ≠ c → ∀ g, g < w.heap.size → (v d).ownBlock = some g → w2.heap[g]? = w.heap[g]?)
    (hv : v'.ownBlock = (v c).ownBlock ∨ ∃ g, v'.ownBlock = some g ∧ w.heap.size ≤ g)
    (hown : w2.ownsRow base 3 1 v' l.length (inCells l))
    (hh : w2.heap[b]? = some (.cells ((cs.setIfInBounds (c * 2 + 1) (.int .i64 (m : Int))).setIfInBounds (c * 2) v') 125 (0, 0))) :
    IsBks w2 base b (fun d => if d = c then l else I d) (fun d => if d = c then m else L d) := by
  have hnew : ∀ d, d < 256 → d ≠ c → ∀ g, (v d).ownBlock = some g → v'.ownBlock ≠ some g := by
    intro d hd hdc g hg
    have hlt := ((h4 d hd).2.2.lt g hg).2
    rcases hv with hv | ⟨g', hv, hg'⟩
    · rw [hv]; exact h5 d c hd hc hdc g hg
    · rw [hv]; intro e; cases e; omega
  refine ⟨hb, Nat.le_trans hB hs, _, fun d => if d = c then v' else v d, hh, fun d hd => ?_, fun d e hd he hde g => ?_⟩
  · obtain ⟨a1, a2, a3⟩ := h4 d hd
    have b1 := (Array.getElem?_eq_some_iff.1 a1).1
    have b2 := (Array.getElem?_eq_some_iff.1 a2).1
    by_cases hdc : d = c
    · subst hdc
      refine ⟨?_, ?_, ?_⟩
      · simp only [↓reduceIte]
        rw [Array.getElem?_setIfInBounds_self_of_lt (by simpa using b1)]
      · simp only [↓reduceIte]
        rw [Array.getElem?_setIfInBounds_ne (by omega), Array.getElem?_setIfInBounds_self_of_lt b2]
      · simp only [↓reduceIte]; exact hown
    · refine ⟨?_, ?_, ?_⟩
      · simp only [if_neg hdc]
        rw [Array.getElem?_setIfInBounds_ne (by omega), Array.getElem?_setIfInBounds_ne (by omega)]
        exact a1
      · simp only [if_neg hdc]
        rw [Array.getElem?_setIfInBounds_ne (by omega), Array.getElem?_setIfInBounds_ne (by omega)]
        exact a2
      · simp only [if_neg hdc]
        obtain ⟨hl, hx⟩ := a3
        refine ⟨hl, ?_⟩
        rcases hx with hx | ⟨g, cap, cur, hv', hg, hgg, r⟩
        · exact .inl hx
        · exact .inr ⟨g, cap, cur, hv', hg, (hkeep d hd hdc g (heap_lt hgg) (by rw [hv']; rfl)).trans hgg, r⟩
  · by_cases hdc : d = c
    · subst hdc
      simp only [↓reduceIte, if_neg (Ne.symm hde)]
      intro hg h2
      exact hnew e he (Ne.symm hde) g h2 hg
    · by_cases hec : e = c
      · subst hec
        simp only [↓reduceIte, if_neg hdc]
        exact hnew d hd hdc g
      · simp only [if_neg hdc, if_neg hec]
        exact h5 d e hd he hde g

/-- Behind the append and the store of its outcome. -/
theorem bks_tail {w W1 w3 : World} {base b c n id m cap : Nat} {a : Option Addr} {x : Value} {I : Nat → List Int} {L : Nat → Nat} {cs : Array Value} {v : Nat → Value} {v' : Value} (hb : b < base) (hB : base ≤ w.heap.size)
    (hh : w.heap[b]? = some (.cells cs 125 (0, 0)))
    (h4 : ∀ d, d < 256 → cs[d * 2]? = some (v d) ∧ cs[d * 2 + 1]? = some (.int .i64 (L d : Int)) ∧ w.ownsRow base 3 1 (v d) (I d).length (inCells (I d)))
    (h5 : ∀ c d, c < 256 → d < 256 → c ≠ d → ∀ g, (v c).ownBlock = some g → (v d).ownBlock ≠ some g)
    (hc : c < 256) (hv : v c = .slice a n cap) (hn : (I c).length = n) (hW : Into b w W1) (hWh : W1.heap[b]? = some (.cells (cs.setIfInBounds (c * 2 + 1) (.int .i64 (m : Int))) 125 (0, 0)))
    (hown : w3.ownsRow base 3 1 v' (n + 1) (inCells (I c) ++ [.int .i64 (id : Int)])) (hgrow : (W1.alloc (.cells #[x] 3)).grownBy w3 (Value.slice a n cap).ownBlock)
    (hto : v'.ownBlock = (Value.slice a n cap).ownBlock ∨ v'.ownBlock = some (w.heap.size + 1)) :
    w3.heap[b]? = some (.cells (cs.setIfInBounds (c * 2 + 1) (.int .i64 (m : Int))) 125 (0, 0)) ∧
      IsBks (w3.setCell ⟨b, c * 2, none⟩ v') base b (fun d => if d = c then I c ++ [(id : Int)] else I d) (fun d => if d = c then m else L d) ∧ But base b w (w3.setCell ⟨b, c * 2, none⟩ v') := by
  have hlt : b < w.heap.size := heap_lt hh
  have hsz := hW.size
  have hsa : (W1.alloc (.cells #[x] 3)).heap.size = w.heap.size + 1 := by simp [hsz]
  have hge := hgrow.size
  rw [hsa] at hge
  have hrow : ∀ k, some k = (Value.slice a n cap).ownBlock → base ≤ k ∧ k < w.heap.size := fun k hk => (h4 c hc).2.2.lt k (by rw [hv]; exact hk.symm)
  have hold : ∀ k, k < w.heap.size → k ≠ b → some k ≠ (Value.slice a n cap).ownBlock → w3.heap[k]? = w.heap[k]? := by
    intro k hk hkb hne
    rw [hgrow.block k (by omega) hne, Lib.alloc_old _ _ k (by omega), hW.block k hkb]
  have hh3 : w3.heap[b]? = some (.cells (cs.setIfInBounds (c * 2 + 1) (.int .i64 (m : Int))) 125 (0, 0)) := by
    rw [hgrow.block b (by omega) (fun e => by have := (hrow b e).1; omega), Lib.alloc_old _ _ b (by omega)]
    exact hWh
  have hown2 : (w3.setCell ⟨b, c * 2, none⟩ v').ownsRow base 3 1 v' (I c ++ [(id : Int)]).length (inCells (I c ++ [(id : Int)])) := by
    rw [inCells_snoc, List.length_append, hn]
    exact ((Into.refl b w3).set _ _).owns hb hown
  have hs3 : (w3.setCell ⟨b, c * 2, none⟩ v').heap.size = w3.heap.size := by simp [World.setCell]
  refine ⟨hh3, bks_put hb hB (by rw [hs3]; omega) h4 h5 hc (fun d hd hdc g hg hvg => ?_) ?_ hown2 (put_heap hh3 _), ⟨hgrow.os.trans hW.os, hgrow.tape.trans hW.tape, hgrow.output.trans hW.output, by rw [hs3]; omega, fun k hk hkb => ?_⟩⟩
  · have hgb : g ≠ b := fun e => by have := ((h4 d hd).2.2.lt g hvg).1; omega
    rw [put_other hgb]
    exact hold g hg hgb (fun e => h5 d c hd hc hdc g hvg (by rw [hv]; exact e.symm))
  · rcases hto with h | h
    · exact .inl (by rw [h, hv])
    · exact .inr ⟨_, h, by omega⟩
  · rw [put_other hkb]
    exact hold k (by omega) hkb (fun e => by have := (hrow k e).1; omega)

set_option maxHeartbeats 2000000 in
theorem buadd_any (base b c : Nat) (I : Nat → List Int) (L : Nat → Nat) (id len : Nat) (w : World) (h : IsBks w base b I L) (hc : c < 256) (hid : id ≤ 1000000) (hlen : len ≤ 1000000) (hn : (I c).length ≤ 1000000) :
    Calls Tryz.prog 73 #[.pointer (some ⟨b, c * 2, none⟩), .int .i64 (id : Int), .int .i64 (len : Int)] w fun e w' => e = .returned (.tuple #[]) ∧
      IsBks w' base b (fun d => if d = c then I c ++ [(id : Int)] else I d) (fun d => if d = c then (if (I c).length = 0 ∨ len < L c then len else L c) else L d) ∧ But base b w w' := by
  obtain ⟨hb, hB, cs, v, hh, h4, h5⟩ := h
  obtain ⟨a1, a2, hown⟩ := h4 c hc
  obtain ⟨a, cap, hv⟩ := owns_slice hown
  have b1 := (Array.getElem?_eq_some_iff.1 a1).1
  have b2 := (Array.getElem?_eq_some_iff.1 a2).1
  obtain ⟨i0, hi, hz0, hz1, hz2⟩ := info_parts int_info
  have H4 := Lib.hid h4
  have H5 := Lib.hid h5
  rw [hv] at hown a1
  obtain ⟨n, hnn⟩ : ∃ n, (I c).length = n := ⟨_, rfl⟩
  rw [hnn] at hown a1 hn hv ⊢
  have HV := Lib.hid hv
  obtain ⟨M, hM⟩ : ∃ M, L c = M := ⟨_, rfl⟩
  rw [hM] at a2 ⊢
  have c0 : w.cell? ⟨b, c * 2, none⟩ = some (.slice a n cap) := by rw [Lib.cell_of_heap hh]; exact a1
  have c1 : w.cell? ⟨b, c * 2 + 1, none⟩ = some (.int .i64 (M : Int)) := by rw [Lib.cell_of_heap hh]; exact a2
  have f1 : w.frozen? ⟨b, c * 2 + 1, none⟩ = false := Lib.frozen_of_heap hh _
  have HN := Lib.hid hnn
  have A1 := Lib.hid a1
  have A2 := Lib.hid a2
  clear h4 h5 hv a1 a2 hnn hM
  obtain ⟨mm, hmm⟩ : ∃ mm, (if n = 0 ∨ len < M then len else M) = mm := ⟨_, rfl⟩
  rw [hmm]
  have HM := Lib.hid hmm
  clear hmm
  have hsame : cs.setIfInBounds (c * 2 + 1) (.int .i64 (M : Int)) = cs := by
    refine Array.ext (by simp) fun i h1 h2 => ?_
    rw [Array.getElem_setIfInBounds]
    split
    · rename_i h
      subst h
      exact (Option.some.inj ((Array.getElem?_eq_getElem h2).symm.trans A2.out)).symm
    · rfl
  have hown1 : (w.setCell ⟨b, c * 2 + 1, none⟩ (.int .i64 (len : Int))).ownsRow base 3 1 (.slice a n cap) n (inCells (I c)) := ((Into.refl b w).set _ _).owns hb hown
  by_cases h0 : n = 0
  · have h00 : ((n : Int) == 0) = true := by simp [h0]
    have H0 := Lib.hid h0
    clear h0
    go_enter Tryz.func73, Tryz.ntmps73
    go_wp2_with (at_builtin; refine wpList_append_to _ rfl _ _ 43 rfl base 3 i0 (.int .i64 0) 1 8 Tryz.underlying43 hi hz0 hz1 hz2 rfl (by decide) _ _ _ rfl (hown1.alloc _) ⟨w.heap.size, 0, none⟩ 1 1 [.int .i64 (id : Int)] rfl rfl (int_news (by rw [show w.heap.size = (w.setCell ⟨b, c * 2 + 1, none⟩ (.int .i64 (len : Int))).heap.size by simp [World.setCell]]; exact heap_alloc_new _ _)) int_one (by unfold maxLen; omega) (by omega) (by simp [World.setCell]; omega) (by omega) ?_)
    intro v' w3 hown3 hgrow hto
    obtain ⟨a3, cap3, rfl⟩ := owns_slice hown3
    obtain ⟨hh3, hfin⟩ := bks_tail (n := n) (id := id) (m := len) hb hB hh H4.out H5.out hc HV.out HN.out ((Into.refl b w).set _ _) (put_heap hh _) hown3 hgrow hto
    have c0 : w3.cell? ⟨b, c * 2, none⟩ = some (.slice a n cap) := by rw [Lib.cell_of_heap hh3, Array.getElem?_setIfInBounds_ne (by omega)]; exact A1.out
    have f0 : w3.frozen? ⟨b, c * 2, none⟩ = false := Lib.frozen_of_heap hh3 _
    have HF := Lib.hid hfin
    clear hfin hown3 hgrow hto hh3 hown1
    go_wp2
    go_end0
    exact ⟨rfl, by rw [← HM.out, if_pos (.inl H0.out)]; exact HF.out⟩
  · have h00 : ((n : Int) == 0) = false := by simp [h0]
    by_cases h1 : len < M
    · have h11 : (len : Int) < (M : Int) := by omega
      go_enter Tryz.func73, Tryz.ntmps73
      go_wp2_with (at_builtin; refine wpList_append_to _ rfl _ _ 43 rfl base 3 i0 (.int .i64 0) 1 8 Tryz.underlying43 hi hz0 hz1 hz2 rfl (by decide) _ _ _ rfl (hown1.alloc _) ⟨w.heap.size, 0, none⟩ 1 1 [.int .i64 (id : Int)] rfl rfl (int_news (by rw [show w.heap.size = (w.setCell ⟨b, c * 2 + 1, none⟩ (.int .i64 (len : Int))).heap.size by simp [World.setCell]]; exact heap_alloc_new _ _)) int_one (by unfold maxLen; omega) (by omega) (by simp [World.setCell]; omega) (by omega) ?_)
      intro v' w3 hown3 hgrow hto
      obtain ⟨a3, cap3, rfl⟩ := owns_slice hown3
      obtain ⟨hh3, hfin⟩ := bks_tail (n := n) (id := id) (m := len) hb hB hh H4.out H5.out hc HV.out HN.out ((Into.refl b w).set _ _) (put_heap hh _) hown3 hgrow hto
      have c0 : w3.cell? ⟨b, c * 2, none⟩ = some (.slice a n cap) := by rw [Lib.cell_of_heap hh3, Array.getElem?_setIfInBounds_ne (by omega)]; exact A1.out
      have f0 : w3.frozen? ⟨b, c * 2, none⟩ = false := Lib.frozen_of_heap hh3 _
      have HF := Lib.hid hfin
      clear hfin hown3 hgrow hto hh3 hown1
      go_wp2
      go_end0
      exact ⟨rfl, by rw [← HM.out, if_pos (.inr h1)]; exact HF.out⟩
    · have h11 : ¬ (len : Int) < (M : Int) := by omega
      clear hown1
      have hown1 := hown
      go_enter Tryz.func73, Tryz.ntmps73
      go_wp2_with (at_builtin; refine wpList_append_to _ rfl _ _ 43 rfl base 3 i0 (.int .i64 0) 1 8 Tryz.underlying43 hi hz0 hz1 hz2 rfl (by decide) _ _ _ rfl (hown1.alloc _) ⟨w.heap.size, 0, none⟩ 1 1 [.int .i64 (id : Int)] rfl rfl (int_news (by rw [show w.heap.size = w.heap.size from rfl]; exact heap_alloc_new _ _)) int_one (by unfold maxLen; omega) (by omega) (by simp [World.setCell]; omega) (by omega) ?_)
      intro v' w3 hown3 hgrow hto
      obtain ⟨a3, cap3, rfl⟩ := owns_slice hown3
      obtain ⟨hh3, hfin⟩ := bks_tail (n := n) (id := id) (m := M) hb hB hh H4.out H5.out hc HV.out HN.out (Into.refl b w) (by rw [hsame]; exact hh) hown3 hgrow hto
      have c0 : w3.cell? ⟨b, c * 2, none⟩ = some (.slice a n cap) := by rw [Lib.cell_of_heap hh3, Array.getElem?_setIfInBounds_ne (by omega)]; exact A1.out
      have f0 : w3.frozen? ⟨b, c * 2, none⟩ = false := Lib.frozen_of_heap hh3 _
      have HF := Lib.hid hfin
      clear hfin hown3 hgrow hto hh3 hown1
      go_wp2
      go_end0
      exact ⟨rfl, by rw [← HM.out, if_neg (fun h => h.elim h0 h1)]; exact HF.out⟩
end Go.Proofs.YtmgcdhcidojdhaaGreat

namespace Go.Proofs.YtmgcdhcidojdhaaGreat
open Go.RowKit

/-- Buckets behind a pointer, or none: then each is empty. -/
def HasBks (w : World) (p : Value) (I : Nat → List Int) (L : Nat → Nat) : Prop :=
  (p = .pointer none ∧ ∀ c, c < 256 → I c = [] ∧ L c = 0) ∨ ∃ base b, p = .pointer (some ⟨b, 0, none⟩) ∧ IsBks w base b I L
theorem HasBks.below {w w' : World} {p : Value} {I : Nat → List Int} {L : Nat → Nat} (h : HasBks w p I L) (hb : Below w.heap.size w w') : HasBks w' p I L :=
  h.elim .inl (fun ⟨base, b, h1, h2⟩ => .inr ⟨base, b, h1, h2.below hb⟩)

/-- A bucket, as an answer: its numbers and how long the shortest is. -/
def RetOf (l : List Int) (m : Nat) (w : World) (e : Ending) (w' : World) : Prop :=
  ∃ a cap, e = .returned (.agg #[.slice a l.length cap, .int .i64 (m : Int)]) ∧ w'.ownsRow 0 3 1 (.slice a l.length cap) l.length (inCells l) ∧ Below w.heap.size w w'

theorem owns_zero {w : World} {base : Nat} {e : TypeId} {size : Nat} {v : Value} {n : Nat} {xs : List Value} (h : w.ownsRow base e size v n xs) : w.ownsRow 0 e size v n xs := by
  obtain ⟨h1, h2⟩ := h
  refine ⟨h1, h2.imp id ?_⟩
  rintro ⟨g, cap, cur, hv, _, r⟩
  exact ⟨g, cap, cur, hv, Nat.zero_le _, r⟩

/-- What 'of' answers, and the one block that it lays. -/
def AtOf (a : Option Addr) (n cap m : Nat) (w : World) (e : Ending) (w' : World) : Prop :=
  e = .returned (.agg #[.slice a n cap, .int .i64 (m : Int)]) ∧ w' = w.alloc (.cells #[.slice a n cap, .int .i64 (m : Int)] 122)

set_option maxHeartbeats 1000000 in
theorem buof_nil (c : Nat) (hc : c < 256) (w : World) : Calls Tryz.prog 110 #[.pointer none, .int .u8 (c : Int)] w (AtOf none 0 0 0 w) := by
  go_enter Tryz.func110, Tryz.ntmps110
  go_wp2
  refine bodyPost_ret (v := .agg #[.slice none 0 0, .int .i64 0]) (by simp [results, Tryz.results110, go_sem]) rfl ?_
  exact ⟨rfl, rfl⟩
set_option maxHeartbeats 1000000 in
theorem buof_cells {w : World} {b c m n cap : Nat} {a : Option Addr} (hc : c < 256) (hlt : b < w.heap.size) (c0 : w.cell? ⟨b, c * 2, none⟩ = some (.slice a n cap)) (c1 : w.cell? ⟨b, c * 2 + 1, none⟩ = some (.int .i64 (m : Int))) :
    Calls Tryz.prog 110 #[.pointer (some ⟨b, 0, none⟩), .int .u8 (c : Int)] w (AtOf a n cap m w) := by
  have d0 : ∀ o, (w.alloc o).cell? ⟨b, c * 2, none⟩ = some (.slice a n cap) := fun o => by rw [World.cell?_alloc_lt _ _ _ hlt]; exact c0
  have d1 : ∀ o, (w.alloc o).cell? ⟨b, c * 2 + 1, none⟩ = some (.int .i64 (m : Int)) := fun o => by rw [World.cell?_alloc_lt _ _ _ hlt]; exact c1
  have g0 : (0 : Int) ≤ (c : Int) := by omega
  have g1 : (c : Int) < 256 := by omega
  go_enter Tryz.func110, Tryz.ntmps110
  go_wp2
  refine bodyPost_ret (v := .agg #[.slice a n cap, .int .i64 (m : Int)]) (by simp [results, Tryz.results110, go_sem]) rfl ?_
  exact ⟨rfl, rfl⟩

/-- One byte's bucket, wherever it is read. -/
theorem buof_at {w : World} {p : Value} {I : Nat → List Int} {L : Nat → Nat} (h : HasBks w p I L) (c : Nat) (hc : c < 256) :
    ∃ a cap, w.ownsRow 0 3 1 (.slice a (I c).length cap) (I c).length (inCells (I c)) ∧
      ∀ W, Below w.heap.size w W → Calls Tryz.prog 110 #[p, .int .u8 (c : Int)] W (AtOf a (I c).length cap (L c) W) := by
  rcases h with ⟨rfl, h⟩ | ⟨base, b, rfl, h⟩
  · obtain ⟨h1, h2⟩ := h c hc
    rw [h1, h2]
    exact ⟨none, 0, World.ownsRow_nil _ _ _ _, fun W _ => buof_nil c hc W⟩
  · have hlt := h.lt
    obtain ⟨hb, hB, cs, v, hh, h4, h5⟩ := h
    obtain ⟨a1, a2, hown⟩ := h4 c hc
    obtain ⟨a, cap, hv⟩ := owns_slice hown
    rw [hv] at a1 hown
    refine ⟨a, cap, owns_zero hown, fun W hW => buof_cells hc (Nat.lt_of_lt_of_le hlt hW.size) ?_ ?_⟩
    · rw [Lib.cell_of_heap ((hW.block b hlt).trans hh)]; exact a1
    · rw [Lib.cell_of_heap ((hW.block b hlt).trans hh)]; exact a2

theorem buof_any {w : World} {p : Value} {I : Nat → List Int} {L : Nat → Nat} (h : HasBks w p I L) (c : Nat) (hc : c < 256) :
    Calls Tryz.prog 110 #[p, .int .u8 (c : Int)] w (RetOf (I c) (L c) w) := by
  obtain ⟨a, cap, hown, hC⟩ := buof_at h c hc
  refine (hC w (Below.refl _ _)).mono ?_
  rintro e w' ⟨rfl, rfl⟩
  exact ⟨a, cap, rfl, hown.alloc _, (Below.refl _ _).alloc (Nat.le_refl _) _⟩

theorem bufield_ids (x y : Value) (w : World) : (Instr.field 122 (.agg #[x, y]) 0).run Tryz.prog w = .ok x w := by
  simp [Instr.field, go_sem, part, asAgg, Tryz.underlying122, isAgg, Tryz.underlying43]
theorem bufield_least (x y : Value) (w : World) : (Instr.field 122 (.agg #[x, y]) 1).run Tryz.prog w = .ok y w := by
  simp [Instr.field, go_sem, part, asAgg, Tryz.underlying122, isAgg, Tryz.underlying3]

set_option maxHeartbeats 1000000 in
theorem buleast_any {w : World} {p : Value} {I : Nat → List Int} {L : Nat → Nat} (h : HasBks w p I L) (c : Nat) (hc : c < 256) :
    Calls Tryz.prog 101 #[p, .int .u8 (c : Int)] w fun e w' => e = .returned (.int .i64 (L c : Int)) ∧ Below w.heap.size w w' := by
  have HO := Lib.hid (buof_any h c hc)
  clear h
  go_enter Tryz.func101, Tryz.ntmps101
  go_wp2_with fail
  refine HO.out.mono ?_
  rintro e w' ⟨a, cap, rfl, hown, hb⟩
  have hfl := bufield_least
  go_wp2
  go_ret
  exact ⟨rfl, hb⟩
end Go.Proofs.YtmgcdhcidojdhaaGreat

namespace Go.Proofs.YtmgcdhcidojdhaaGreat
open Go.RowKit

theorem reps_at (x y : Value) (n : Nat) : (∀ c, c < n → (List.replicate n x ++ [y])[c]? = some x) ∧ (List.replicate n x ++ [y])[n]? = some y := by
  refine ⟨fun c hc => ?_, ?_⟩
  · rw [List.getElem?_append_left (by rw [List.length_replicate]; exact hc), List.getElem?_replicate, if_pos hc]
  · rw [List.getElem?_append_right (by rw [List.length_replicate]; exact Nat.le_refl _), List.length_replicate, Nat.sub_self]
    rfl
theorem wpList_built {P : Program} {w : World} {ops : Array Oper} {rest : List Oper} {o : Oper} {a : Act} {Q : Exit → Act → World → Prop} (hg : o.guard = none) (t : TypeId) (ho : o.op = .build t #[]) (cells : Array Value) (hc : P.built t [] = some cells)
    (h : wpList P ops Q rest (a.put o.dst (.agg cells)) w) : wpList P ops Q (o :: rest) a w :=
  wpList_build hg t #[] ho (by simp [hc]) (by simpa [hc] using h)

theorem wpList_built1 {P : Program} {w : World} {ops : Array Oper} {rest : List Oper} {o : Oper} {a : Act} {Q : Exit → Act → World → Prop} (hg : o.guard = none) (t : TypeId) (k : Nat) (x : Operand) (ho : o.op = .build t #[(k, x)]) (v : Value) (hv : a.eval x = v) (cells : Array Value) (hc : P.built t [(k, v)] = some cells)
    (h : wpList P ops Q rest (a.put o.dst (.agg cells)) w) : wpList P ops Q (o :: rest) a w :=
  wpList_build hg t #[(k, x)] ho (by simp [hv, hc]) (by simpa [hv, hc] using h)
end Go.Proofs.YtmgcdhcidojdhaaGreat

namespace Go.Proofs.YtmgcdhcidojdhaaGreat
open Go.RowKit

/-- The cells of empty buckets. -/
def buZeros : Array Value := (List.replicate 256 [Value.slice none 0 0, Value.int .i64 0]).flatten.toArray
theorem bu_built : Tryz.prog.built 125 [] = some buZeros := by kernel_rfl
theorem twos_at (x y : Value) : ∀ (n c : Nat), c < n → (List.replicate n [x, y]).flatten[c * 2]? = some x ∧ (List.replicate n [x, y]).flatten[c * 2 + 1]? = some y
  | 0, c, h => by omega
  | n + 1, 0, _ => by simp [List.replicate_succ]
  | n + 1, c + 1, h => by
    have ih := twos_at x y n c (by omega)
    rw [List.replicate_succ, List.flatten_cons]
    simp only [show (c + 1) * 2 = c * 2 + 1 + 1 by omega, List.cons_append, List.nil_append, List.getElem?_cons_succ]
    exact ih
theorem buZeros_at (c : Nat) (h : c < 256) : buZeros[c * 2]? = some (.slice none 0 0) ∧ buZeros[c * 2 + 1]? = some (.int .i64 0) := by
  have h1 := twos_at (.slice none 0 0) (.int .i64 0) 256 c h
  unfold buZeros
  rw [List.getElem?_toArray, List.getElem?_toArray]
  exact h1

theorem IsBks.heap {w W : World} {base b : Nat} {I : Nat → List Int} {L : Nat → Nat} (h : IsBks w base b I L) (e : W.heap = w.heap) : IsBks W base b I L := by
  unfold IsBks World.ownsRow at *
  rw [e]
  exact h
theorem IsBks.congr {w : World} {base b : Nat} {I I' : Nat → List Int} {L L' : Nat → Nat} (h : IsBks w base b I L) (e : ∀ c, I c = I' c) (f : ∀ c, L c = L' c) : IsBks w base b I' L' := by
  rw [← funext e, ← funext f]
  exact h
theorem bks_fresh (w : World) : IsBks (w.alloc (.cells buZeros 125)) (w.heap.size + 1) w.heap.size (fun _ => []) (fun _ => 0) :=
  ⟨by omega, by simp, buZeros, fun _ => .slice none 0 0, heap_alloc_new w _, fun c hc => ⟨(buZeros_at c hc).1, (buZeros_at c hc).2, World.ownsRow_nil _ _ _ _⟩, fun _ _ _ _ _ g h => by cases h⟩
/-- A store ahead of all that the buckets own. -/
theorem HasBks.setCell {w : World} {b k i : Nat} {I : Nat → List Int} {L : Nat → Nat} (h : HasBks w (.pointer (some ⟨b, 0, none⟩)) I L) (hk : k < b) (u : Value) : HasBks (w.setCell ⟨k, i, none⟩ u) (.pointer (some ⟨b, 0, none⟩)) I L := by
  rcases h with ⟨h, _⟩ | ⟨base, b', e, h1, h2, cs, v, h3, h4, h5⟩
  · cases h
  · cases e
    refine .inr ⟨base, b, rfl, h1, by simpa [World.setCell] using h2, cs, v, (put_other (by omega) _).trans h3, fun c hc => ?_, h5⟩
    obtain ⟨a1, a2, a3⟩ := h4 c hc
    exact ⟨a1, a2, ((Into.refl k w).set _ _).owns (by omega) a3⟩
theorem But.drewN {base b : Nat} {w w' : World} (h : But base b w w') (n : Nat) : But base b (w.drewN n) w' := ⟨h.os, h.tape, h.output, h.size, h.block⟩

set_option maxRecDepth 100000 in
set_option maxHeartbeats 4000000 in
theorem bunew_by (p : Value) (ws : List (List UInt8)) (w : World) (hn : ws.length ≤ 1000000) (he : ∀ t ∈ ws, 0 < t.length ∧ t.length ≤ 1000000)
    (hL : ∀ W, Below w.heap.size w W → Calls Tryz.prog 71 #[p] W fun e w' => e = .returned (.int .i64 (ws.length : Int)) ∧ w' = W)
    (hA : ∀ (W : World) (k : Nat) (t : List UInt8), Below w.heap.size w W → ws[k]? = some t → Calls Tryz.prog 72 #[p, .int .i64 (k : Int)] W fun e w' => e = .returned (.tuple #[.string ⟨t.toArray⟩, .bool true]) ∧ w' = W) :
    Calls Tryz.prog 53 #[p] w fun e w' => ∃ b, e = .returned (.pointer (some ⟨b, 0, none⟩)) ∧ w.heap.size ≤ b ∧ HasBks w' (.pointer (some ⟨b, 0, none⟩)) (idsL ws) (lstL ws) ∧ Below w.heap.size w w' := by
  have HLn := Lib.hid hL
  have HA := Lib.hid hA
  have HE := Lib.hid he
  clear hL hA he
  have hb := bu_built
  have HZ := Lib.hid (bks_fresh w)
  have B0 : Below w.heap.size w (w.alloc (.cells buZeros 125)) := (Below.refl _ w).alloc (Nat.le_refl _) _
  generalize buZeros = zc at hb HZ B0
  go_enter Tryz.func53, Tryz.ntmps53
  go_wp2_with (refine wpList_built rfl 125 rfl zc hb ?_)
  refine (HLn.out _ B0).mono ?_
  rintro e w' ⟨rfl, rfl⟩
  have hsz := B0.size
  obtain ⟨W0, hW0⟩ : ∃ W0, w.alloc (.cells zc 125) = W0 := ⟨_, rfl⟩
  have hs0 : W0.heap.size = w.heap.size + 1 := by rw [← hW0]; simp
  rw [hW0] at HZ B0 ⊢
  clear hW0 hsz hb
  obtain ⟨b, hb⟩ : ∃ b, w.heap.size = b := ⟨_, rfl⟩
  rw [hb] at HZ hs0 ⊢
  have HBE := Lib.hid hb
  clear hb
  have HB0 : Hid (Below w.heap.size w W0) := Lib.hid B0
  clear B0
  obtain ⟨n, hnn⟩ : ∃ n, ws.length = n := ⟨_, rfl⟩
  rw [hnn] at hn ⊢
  have HNN := Lib.hid hnn
  clear hnn
  go_wp2
  go_loopw [11] (fun i wr => ∃ k : Nat, k ≤ n ∧ i = .int .i64 k ∧ Hid (IsBks wr (b + 1) b (fun c => bidsK ws c k) (fun c => lstA ws (bidsK ws c k))) ∧ Hid (Below w.heap.size w wr)) (fun i _ => n - (RowKit.intOf i).toNat)
  case atStart => exact ⟨0, Nat.zero_le _, rfl, HZ, HB0⟩
  case round =>
    obtain ⟨k, hk, rfl, HK, HBe⟩ := hrel
    by_cases hlt : k < n
    · obtain ⟨t, hf⟩ : ∃ t, ws[k]? = some t := ⟨_, List.getElem?_eq_getElem (show k < ws.length by rw [HNN.out]; exact hlt)⟩
      have htl := HE.out t (List.mem_of_getElem? hf)
      have htl1 := htl.2
      have HA1 := Lib.hid (HA.out wr k t HBe.out hf)
      have S1 := Lib.hid (bsize t)
      obtain ⟨m, hm⟩ : ∃ m, m + 1 = t.length := ⟨t.length - 1, by omega⟩
      have hml : m < t.length := by omega
      have hmz : m < (⟨t.toArray⟩ : ByteArray).size := by rw [bsize]; omega
      have w1 : IntKind.i64.wrap ((t.length : Int) - 1) = (m : Int) := by rw [IntKind.wrap_i64]; omega
      obtain ⟨c, hc, hl, hx⟩ := lastN_some htl.1
      have hq : ((⟨t.toArray⟩ : ByteArray)[m]'hmz).toNat = c := by
        rw [byteAt t m hml hmz, ← hx]
        congr 2
        omega
      have g0 : (0 : Int) ≤ (c : Int) := by omega
      have g1 : (c : Int) < 256 := by omega
      have HAdd := Lib.hid (fun (W : World) (e : W.heap = wr.heap) => buadd_any (b + 1) b c _ _ k t.length W (HK.out.heap e) hc (by omega) htl1 (Nat.le_trans (bids_length ws c k) (by omega)))
      have HHit := Lib.hid (bids_hit (ws := ws) (c := c) (k := k) ((ends_of hf).2 hl))
      have HMiss := Lib.hid (fun d (hd : d ≠ c) => bids_miss (ws := ws) (c := d) (k := k) (fun h => hd (Option.some.inj (((ends_of hf).1 h).symm.trans hl))))
      have HLst := Lib.hid (show lstA ws (bidsK ws c k ++ [(k : Int)]) = _ from lst_snoc ws (bidsK ws c k) (k : Int))
      have HLen := Lib.hid (lenAt_of hf)
      clear hf hl hx hm htl
      go_wp2_with fail
      refine HA1.out.mono ?_
      rintro e w' ⟨rfl, rfl⟩
      go_wp2_with fail
      go_region_with (go_at_call 73; refine (HAdd.out _ (by rfl)).mono ?_; rintro e w3 ⟨rfl, hK3, hB3⟩)
      have HK4 : Hid (IsBks w3 (b + 1) b (fun d => bidsK ws d (k + 1)) (fun d => lstA ws (bidsK ws d (k + 1)))) := Lib.hid (hK3.congr (fun d => by
        by_cases hd : d = c
        · subst hd; rw [if_pos rfl, HHit.out]
        · rw [if_neg hd, HMiss.out d hd]) (fun d => by
        by_cases hd : d = c
        · subst hd; rw [if_pos rfl, HHit.out, HLst.out, HLen.out]
        · rw [if_neg hd, HMiss.out d hd]))
      have HB4 : Hid (Below w.heap.size w w3) := Lib.hid (HBe.out.drew.trans (by have h := hB3.below (Nat.le_succ b); rw [HBE.out]; exact h))
      clear hK3 hB3 HK HBe HA1 HAdd
      go_wp2
      exact ⟨⟨k + 1, by omega, by go_num, HK4, HB4⟩, by simp [RowKit.intOf]; omega⟩
    · obtain rfl : k = n := by omega
      have hz : ¬ (k : Int) < (k : Int) := by omega
      have HI : Hid (HasBks wr (.pointer (some ⟨b, 0, none⟩)) (idsL ws) (lstL ws)) := Lib.hid (.inr ⟨b + 1, b, rfl, HK.out.congr (fun c => by unfold idsL; rw [HNN.out]) (fun c => by unfold lstL idsL; rw [HNN.out])⟩)
      clear HK
      go_wp2
      go_ret
      exact ⟨b, rfl, Nat.le_of_eq HBE.out, HI.out, HBe.out⟩

theorem bunew_nil (w : World) : Calls Tryz.prog 53 #[.pointer none] w fun e w' => ∃ b, e = .returned (.pointer (some ⟨b, 0, none⟩)) ∧ w.heap.size ≤ b ∧ HasBks w' (.pointer (some ⟨b, 0, none⟩)) (idsL []) (lstL []) ∧ Below w.heap.size w w' :=
  bunew_by (.pointer none) [] w (by simp) (by simp) (fun W _ => ptlen_nil W) (fun W k t _ h => by simp at h)
theorem bunew_any {w : World} {b : Nat} {ws : List (List UInt8)} (h : IsSet w b ws) (hp : Pats ws) :
    Calls Tryz.prog 53 #[.pointer (some ⟨b, 0, none⟩)] w fun e w' => ∃ b, e = .returned (.pointer (some ⟨b, 0, none⟩)) ∧ w.heap.size ≤ b ∧ HasBks w' (.pointer (some ⟨b, 0, none⟩)) (idsL ws) (lstL ws) ∧ Below w.heap.size w w' :=
  bunew_by _ ws w (by have := hp.few; omega) (fun t ht => by have := hp.each t ht; omega) (fun W hW => ptlen_any (h.below hW)) (fun W k t hW hk => ptat_in (h.below hW) k t hk)
end Go.Proofs.YtmgcdhcidojdhaaGreat

namespace Go.Proofs.YtmgcdhcidojdhaaGreat
open Go.RowKit


theorem bunew_from {w : World} {p : Option Addr} {us : List (List UInt8)} (h : IsPats w p us) :
    Calls Tryz.prog 53 #[.pointer p] w fun e w' => ∃ b, e = .returned (.pointer (some ⟨b, 0, none⟩)) ∧ w.heap.size ≤ b ∧ HasBks w' (.pointer (some ⟨b, 0, none⟩)) (idsL us) (lstL us) ∧ Below w.heap.size w w' := by
  rcases h with ⟨rfl, rfl⟩ | ⟨b, rfl, h, hp⟩
  · exact bunew_nil w
  · exact bunew_any h hp
theorem bunew_all {w : World} {p : Option Addr} {us : List (List UInt8)} (h : IsPats w p us) :
    Calls Tryz.prog 53 #[.pointer p] w fun e w' => ∃ b : Option Addr, e = .returned (.pointer b) ∧ HasBks w' (.pointer b) (idsL us) (lstL us) ∧ Below w.heap.size w w' := by
  refine (bunew_from h).mono ?_
  rintro e w' ⟨b, rfl, _, h1, h2⟩
  exact ⟨_, rfl, h1, h2⟩
theorem bks_none (w : World) : HasBks w (.pointer none) (idsL []) (lstL []) := .inl ⟨rfl, fun c _ => ⟨rfl, rfl⟩⟩

end Go.Proofs.YtmgcdhcidojdhaaGreat

namespace Go.Proofs.YtmgcdhcidojdhaaGreat
open Go.RowKit

theorem ptleast_nil (w : World) : Calls Tryz.prog 74 #[.pointer none] w fun e w' => e = .returned (.int .i64 0) ∧ w' = w := by
  go_enter Tryz.func74, Tryz.ntmps74
  go_wp2
  go_ret
  exact ⟨rfl, rfl⟩
theorem ptleast_any {w : World} {b : Nat} {ws : List (List UInt8)} (h : IsSet w b ws) : Calls Tryz.prog 74 #[.pointer (some ⟨b, 0, none⟩)] w fun e w' => e = .returned (.int .i64 (leastL ws : Int)) ∧ w' = w := by
  obtain ⟨g, cap, _, c1, _⟩ := h.reads
  clear h
  generalize leastL ws = n at c1 ⊢
  go_enter Tryz.func74, Tryz.ntmps74
  go_wp2
  go_ret
  exact ⟨rfl, rfl⟩
end Go.Proofs.YtmgcdhcidojdhaaGreat

namespace Go.Proofs.YtmgcdhcidojdhaaGreat
open Go.RowKit

/-- The cells of a table: each byte's number, and one more. -/
def TabAt (cs : Array Value) (F : Nat → Nat) (m : Nat) : Prop := (∀ c, c < 256 → cs[c]? = some (.int .i64 (F c : Int))) ∧ cs[256]? = some (.int .i64 (m : Int))
/-- A table in block b. -/
def IsTab (w : World) (b : Nat) (F : Nat → Nat) (m : Nat) : Prop := ∃ cs : Array Value, w.heap[b]? = some (.cells cs 129 (0, 0)) ∧ TabAt cs F m
theorem IsTab.lt {w : World} {b : Nat} {F : Nat → Nat} {m : Nat} (h : IsTab w b F m) : b < w.heap.size := by
  obtain ⟨cs, h, _⟩ := h
  exact heap_lt h
theorem IsTab.below {w w' : World} {b : Nat} {F : Nat → Nat} {m : Nat} (h : IsTab w b F m) (hb : Below w.heap.size w w') : IsTab w' b F m := by
  have hlt := h.lt
  obtain ⟨cs, h1, h2⟩ := h
  exact ⟨cs, (hb.block b hlt).trans h1, h2⟩
theorem IsTab.heap {w W : World} {b : Nat} {F : Nat → Nat} {m : Nat} (h : IsTab w b F m) (e : W.heap = w.heap) : IsTab W b F m := by
  unfold IsTab at *
  rw [e]
  exact h
theorem IsTab.congr {w : World} {b : Nat} {F G : Nat → Nat} {m : Nat} (h : IsTab w b F m) (e : ∀ c, c < 256 → F c = G c) : IsTab w b G m := by
  obtain ⟨cs, h1, h2, h3⟩ := h
  exact ⟨cs, h1, fun c hc => by rw [← e c hc]; exact h2 c hc, h3⟩
theorem IsTab.put {w : World} {b c n : Nat} {F : Nat → Nat} {m : Nat} (h : IsTab w b F m) (hc : c < 256) : IsTab (w.setCell ⟨b, c, none⟩ (.int .i64 (n : Int))) b (fun d => if d = c then n else F d) m := by
  obtain ⟨cs, h1, h2, h3⟩ := h
  refine ⟨_, put_heap h1 _, fun d hd => ?_, ?_⟩
  · have hl := (Array.getElem?_eq_some_iff.1 (h2 d hd)).1
    by_cases e : d = c
    · subst e
      simp only [↓reduceIte]
      rw [Array.getElem?_setIfInBounds_self_of_lt hl]
    · simp only [if_neg e]
      rw [Array.getElem?_setIfInBounds_ne (by omega)]
      exact h2 d hd
  · rw [Array.getElem?_setIfInBounds_ne (by omega)]
    exact h3
theorem IsTab.cell {w : World} {b c : Nat} {F : Nat → Nat} {m : Nat} (h : IsTab w b F m) (hc : c < 256) : w.cell? ⟨b, c, none⟩ = some (.int .i64 (F c : Int)) := by
  obtain ⟨cs, h1, h2, _⟩ := h
  rw [Lib.cell_of_heap h1]
  exact h2 c hc
theorem IsTab.last {w : World} {b : Nat} {F : Nat → Nat} {m : Nat} (h : IsTab w b F m) : w.cell? ⟨b, 256, none⟩ = some (.int .i64 (m : Int)) := by
  obtain ⟨cs, h1, _, h3⟩ := h
  rw [Lib.cell_of_heap h1]
  exact h3
theorem IsTab.free {w : World} {b i : Nat} {F : Nat → Nat} {m : Nat} (h : IsTab w b F m) : w.frozen? ⟨b, i, none⟩ = false := by
  obtain ⟨cs, h1, _⟩ := h
  exact Lib.frozen_of_heap h1 _

/-- A table behind a pointer, or none: then all shifts are 0. -/
def HasTab (w : World) (p : Option Addr) (F : Nat → Nat) (m : Nat) : Prop := (p = none ∧ (∀ c, F c = 0) ∧ m = 0) ∨ ∃ b, p = some ⟨b, 0, none⟩ ∧ IsTab w b F m
theorem HasTab.below {w w' : World} {p : Option Addr} {F : Nat → Nat} {m : Nat} (h : HasTab w p F m) (hb : Below w.heap.size w w') : HasTab w' p F m :=
  h.elim .inl (fun ⟨b, h1, h2⟩ => .inr ⟨b, h1, h2.below hb⟩)
theorem HasTab.heap {w W : World} {p : Option Addr} {F : Nat → Nat} {m : Nat} (h : HasTab w p F m) (e : W.heap = w.heap) : HasTab W p F m :=
  h.elim .inl (fun ⟨b, h1, h2⟩ => .inr ⟨b, h1, h2.heap e⟩)

theorem shfirst_any {w : World} {p : Option Addr} {F : Nat → Nat} {m : Nat} (h : HasTab w p F m) (c : Nat) (hc : c < 256) :
    Calls Tryz.prog 96 #[.pointer p, .int .u8 (c : Int)] w fun e w' => e = .returned (.int .i64 (F c : Int)) ∧ w' = w := by
  rcases h with ⟨rfl, h, _⟩ | ⟨b, rfl, h⟩
  · rw [h c]
    clear h
    go_enter Tryz.func96, Tryz.ntmps96
    go_wp2
    go_ret
    exact ⟨rfl, rfl⟩
  · have c0 := h.cell hc
    clear h
    have g0 : (0 : Int) ≤ (c : Int) := by omega
    have g1 : (c : Int) < 256 := by omega
    go_enter Tryz.func96, Tryz.ntmps96
    go_wp2
    go_ret
    exact ⟨rfl, rfl⟩
set_option maxRecDepth 100000 in
set_option maxHeartbeats 2000000 in
theorem shlower_any {w : World} {b : Nat} {F : Nat → Nat} {m : Nat} (h : IsTab w b F m) (t : List UInt8) (hm : m ≤ t.length) (ht : t.length ≤ 1000000) (hF : ∀ c, F c ≤ m) :
    Calls Tryz.prog 75 #[.pointer (some ⟨b, 0, none⟩), .string ⟨t.toArray⟩] w fun e w' => e = .returned (.tuple #[]) ∧ IsTab w' b (lowF F t m) m ∧ Into b w w' := by
  have c0 := h.last
  have HT := Lib.hid h
  have HLE := Lib.hid (fun j c => low_le (t := t) hF j c)
  have S1 := Lib.hid (bsize t)
  clear h hF
  go_enter Tryz.func75, Tryz.ntmps75
  go_wp2
  go_loopw [10] (fun i wr => ∃ k : Nat, k ≤ m ∧ i = .int .i64 k ∧ Hid (IsTab wr b (lowF F t k) m) ∧ Hid (Into b w wr)) (fun i _ => m - (RowKit.intOf i).toNat)
  case atStart => exact ⟨0, Nat.zero_le _, rfl, HT, Lib.hid (Into.refl b w)⟩
  case round =>
    obtain ⟨k, hk, rfl, HK, HB⟩ := hrel
    by_cases hlt : k < m
    · obtain ⟨j, hj⟩ : ∃ j, j + 1 + k = t.length := ⟨t.length - 1 - k, by omega⟩
      have hjl : j < t.length := by omega
      have hjz : j < (⟨t.toArray⟩ : ByteArray).size := by rw [bsize]; omega
      obtain ⟨q, hq1⟩ : ∃ q, q + 1 = t.length := ⟨t.length - 1, by omega⟩
      have w1 : IntKind.i64.wrap ((t.length : Int) - 1) = (q : Int) := by rw [IntKind.wrap_i64]; omega
      have w2 : IntKind.i64.wrap ((q : Int) - (k : Int)) = (j : Int) := by rw [IntKind.wrap_i64]; omega
      obtain ⟨c, hcc⟩ : ∃ c, (t[j]).toNat = c := ⟨_, rfl⟩
      have hc : c < 256 := by rw [← hcc]; exact UInt8.toNat_lt _
      have hq : ((⟨t.toArray⟩ : ByteArray)[j]'hjz).toNat = c := by rw [byteAt t j hjl hjz, hcc]
      have hat : ∀ d, atD t d k = true ↔ c = d := by
        intro d
        rw [at_iff (by omega), show t.length - 1 - k = j by omega]
        simp only [List.getD, List.getElem?_eq_getElem hjl, Option.getD_some, hcc]
      have hle := HLE.out k c
      have c1 := HK.out.cell hc
      have f1 : wr.frozen? ⟨b, c, none⟩ = false := HK.out.free
      have g0 : (0 : Int) ≤ (c : Int) := by omega
      have g1 : (c : Int) < 256 := by omega
      obtain ⟨M, hM⟩ : ∃ M, lowF F t k c = M := ⟨_, rfl⟩
      rw [hM] at c1 hle
      have HM := Lib.hid hM
      have HAT := Lib.hid hat
      have HQ1 := Lib.hid hq1
      have HJ := Lib.hid hj
      clear hM hat hcc hq1 hj
      go_wp2_with fail
      go_region
      have HK2 : Hid (IsTab (wr.setCell ⟨b, c, none⟩ (.int .i64 (min (M : Int) (k : Int)))).drew b (lowF F t (k + 1)) m) := Lib.hid (by
        rw [show min (M : Int) (k : Int) = ((min M k : Nat) : Int) by omega]
        refine ((HK.out.put hc).congr fun d hd => ?_).heap rfl
        by_cases e : d = c
        · subst e
          simp only [↓reduceIte]
          rw [low_hit ((HAT.out d).2 rfl), HM.out]
        · simp only [if_neg e]
          rw [low_keep fun h => e ((HAT.out d).1 h).symm])
      have HB2 : Hid (Into b w (wr.setCell ⟨b, c, none⟩ (.int .i64 (min (M : Int) (k : Int)))).drew) := Lib.hid ((HB.out.set _ _).drewN 1)
      clear HK HB
      go_wp2
      exact ⟨⟨k + 1, by omega, by go_num, HK2, HB2⟩, by simp [RowKit.intOf]; omega⟩
    · obtain rfl : k = m := by omega
      have hz : ¬ (k : Int) < (k : Int) := by omega
      go_wp2
      go_end0
      exact ⟨rfl, HK.out, HB.out⟩
end Go.Proofs.YtmgcdhcidojdhaaGreat

namespace Go.Proofs.YtmgcdhcidojdhaaGreat
open Go.RowKit

/-- The cells of a new table. -/
def shCells (m : Nat) : Array Value := (List.replicate 256 (Value.int .i64 0) ++ [Value.int .i64 (m : Int)]).toArray
theorem sh_built (m : Nat) : Tryz.prog.built 129 [(1, .int .i64 (m : Int))] = some (shCells m) := by kernel_rfl
theorem shCells_at (m : Nat) : TabAt (shCells m) (fun _ => 0) m := by
  obtain ⟨h1, h2⟩ := reps_at (.int .i64 0) (.int .i64 (m : Int)) 256
  unfold shCells
  refine ⟨fun c hc => ?_, ?_⟩
  · rw [List.getElem?_toArray]; exact h1 c hc
  · rw [List.getElem?_toArray]; exact h2

set_option maxRecDepth 100000 in
set_option maxHeartbeats 4000000 in
theorem shnew_by (p : Value) (ws : List (List UInt8)) (w : World) (hn : ws.length ≤ 1000000) (he : ∀ t ∈ ws, t.length ≤ 1000000)
    (hM : ∀ W, Below w.heap.size w W → Calls Tryz.prog 74 #[p] W fun e w' => e = .returned (.int .i64 (leastR ws : Int)) ∧ w' = W)
    (hL : ∀ W, Below w.heap.size w W → Calls Tryz.prog 71 #[p] W fun e w' => e = .returned (.int .i64 (ws.length : Int)) ∧ w' = W)
    (hA : ∀ (W : World) (k : Nat) (t : List UInt8), Below w.heap.size w W → ws[k]? = some t → Calls Tryz.prog 72 #[p, .int .i64 (k : Int)] W fun e w' => e = .returned (.tuple #[.string ⟨t.toArray⟩, .bool true]) ∧ w' = W) :
    Calls Tryz.prog 54 #[p] w fun e w' => ∃ b, e = .returned (.pointer (some ⟨b, 0, none⟩)) ∧ w.heap.size ≤ b ∧ IsTab w' b (fstL ws) (leastR ws) ∧ Below w.heap.size w w' := by
  have HM0 := Lib.hid (hM w (Below.refl _ _))
  have HLn := Lib.hid hL
  have HA := Lib.hid hA
  have HE := Lib.hid (fun t (ht : t ∈ ws) => (⟨leastR_le ht, he t ht⟩ : leastR ws ≤ t.length ∧ t.length ≤ 1000000))
  have HF : Hid (∀ c, fstL ws c = mn (hasD ws c) (leastR ws)) := Lib.hid (fun c => rfl)
  clear hL hA he hM
  generalize leastR ws = m at HM0 HE HF ⊢
  have hb := sh_built m
  have HZ : Hid (IsTab (w.alloc (.cells (shCells m) 129)) w.heap.size (fun _ => 0) m) := Lib.hid ⟨_, heap_alloc_new w _, shCells_at m⟩
  have B0 : Below w.heap.size w (w.alloc (.cells (shCells m) 129)) := (Below.refl _ w).alloc (Nat.le_refl _) _
  generalize shCells m = zc at hb HZ B0
  go_enter Tryz.func54, Tryz.ntmps54
  go_wp2_with fail
  refine HM0.out.mono ?_
  rintro e w' ⟨rfl, hw⟩
  obtain rfl := hw.symm
  clear hw HM0
  go_wp2_with (refine wpList_built1 rfl 129 1 _ rfl _ rfl zc hb ?_)
  obtain ⟨W0, hW0⟩ : ∃ W0, w.alloc (.cells zc 129) = W0 := ⟨_, rfl⟩
  rw [hW0] at HZ B0 ⊢
  clear hW0 hb
  obtain ⟨b, hb⟩ : ∃ b, w.heap.size = b := ⟨_, rfl⟩
  rw [hb] at HZ ⊢
  have HBE := Lib.hid hb
  clear hb
  have HB0 : Hid (Below w.heap.size w W0) := Lib.hid B0
  clear B0
  obtain ⟨n, hnn⟩ : ∃ n, ws.length = n := ⟨_, rfl⟩
  rw [hnn] at hn
  have HNN := Lib.hid hnn
  have HLN : Hid (∀ W, Below w.heap.size w W → Calls Tryz.prog 71 #[p] W fun e w' => e = .returned (.int .i64 (n : Int)) ∧ w' = W) := Lib.hid (fun W hW => by have := HLn.out W hW; rwa [hnn] at this)
  clear hnn HLn
  go_loopw [12] (fun i wr => ∃ k : Nat, k ≤ 256 ∧ i = .int .i64 k ∧ Hid (IsTab wr b (fun c => if c < k then m else 0) m) ∧ Hid (Below w.heap.size w wr)) (fun i _ => 256 - (RowKit.intOf i).toNat)
  case atStart => exact ⟨0, Nat.zero_le _, rfl, Lib.hid (HZ.out.congr fun c _ => rfl), HB0⟩
  case round =>
    obtain ⟨k, hk, rfl, HK, HBe⟩ := hrel
    by_cases hlt : k < 256
    · have c0 := HK.out.last
      have c1 := HK.out.cell hlt
      have f1 : wr.frozen? ⟨b, k, none⟩ = false := HK.out.free
      rw [if_neg (Nat.lt_irrefl k)] at c1
      have g0 : (0 : Int) ≤ (k : Int) := by omega
      have g1 : (k : Int) < 256 := by omega
      go_wp2_with fail
      go_region
      have HK2 : Hid (IsTab (wr.setCell ⟨b, k, none⟩ (.int .i64 (m : Int))).drew b (fun c => if c < k + 1 then m else 0) m) := Lib.hid (by
        refine ((HK.out.put hlt).congr fun d hd => ?_).heap rfl
        by_cases e : d = k
        · subst e
          simp
        · simp only [if_neg e]
          by_cases e2 : d < k
          · rw [if_pos e2, if_pos (by omega)]
          · rw [if_neg e2, if_neg (by omega)])
      have HB2 : Hid (Below w.heap.size w (wr.setCell ⟨b, k, none⟩ (.int .i64 (m : Int))).drew) := Lib.hid ((HBe.out.setCell (by rw [HBE.out]; exact Nat.le_refl _) _).drew)
      clear HK HBe
      go_wp2
      exact ⟨⟨k + 1, by omega, by go_num, HK2, HB2⟩, by simp [RowKit.intOf]; omega⟩
    · obtain rfl : k = 256 := by omega
      have HT : Hid (IsTab wr b (fun c => mn (hasD (ws.take 0) c) m) m) := Lib.hid (HK.out.congr fun c hc => by rw [if_pos hc, List.take_zero, low_start])
      obtain ⟨W1, hW1⟩ : ∃ W1, wr = W1 := ⟨_, rfl⟩
      rw [hW1] at HT HBe ⊢
      clear HK hW1
      go_wp2_with fail
      refine (HLN.out _ HBe.out).mono ?_
      rintro e w' ⟨rfl, hw⟩
      obtain rfl := hw.symm
      clear hw
      go_wp2
      go_loopw [27] (fun i wr => ∃ k : Nat, k ≤ n ∧ i = .int .i64 k ∧ Hid (IsTab wr b (fun c => mn (hasD (ws.take k) c) m) m) ∧ Hid (Below w.heap.size w wr)) (fun i _ => n - (RowKit.intOf i).toNat)
      case atStart => exact ⟨0, Nat.zero_le _, rfl, HT, HBe⟩
      case round =>
        obtain ⟨k, hk, rfl, HK, HBk⟩ := hrel
        by_cases hlt : k < n
        · obtain ⟨t, hf⟩ : ∃ t, ws[k]? = some t := ⟨_, List.getElem?_eq_getElem (show k < ws.length by rw [HNN.out]; exact hlt)⟩
          have htl := HE.out t (List.mem_of_getElem? hf)
          have HA1 := Lib.hid (HA.out wr k t HBk.out hf)
          have HLo := Lib.hid (shlower_any HK.out t htl.1 htl.2 (fun c => mn_le _ _))
          have HDn := Lib.hid (fun c => low_done (m := m) hf c)
          clear HK hf htl
          go_wp2_with fail
          refine HA1.out.mono ?_
          rintro e w' ⟨rfl, hw⟩
          obtain rfl := hw.symm
          clear hw
          go_wp2_with fail
          refine HLo.out.mono ?_
          rintro e w3 ⟨rfl, hT3, hI3⟩
          have HT3 : Hid (IsTab w3 b (fun c => mn (hasD (ws.take (k + 1)) c) m) m) := Lib.hid (hT3.congr fun c _ => HDn.out c)
          have HB3 : Hid (Below w.heap.size w w3) := Lib.hid (HBk.out.trans ⟨hI3.os, hI3.tape, hI3.output, Nat.le_of_eq hI3.size.symm, fun i hi => hI3.block i (by rw [HBE.out] at hi; omega)⟩)
          clear hT3 hI3 HBk HLo HA1
          go_wp2
          exact ⟨⟨k + 1, by omega, by go_num, HT3, HB3⟩, by simp [RowKit.intOf]; omega⟩
        · obtain rfl : k = n := by omega
          have hz : ¬ (k : Int) < (k : Int) := by omega
          have HI : Hid (IsTab wr b (fstL ws) m) := Lib.hid (HK.out.congr fun c _ => by rw [HF.out, List.take_of_length_le (by rw [HNN.out]; exact Nat.le_refl _)])
          clear HK
          go_wp2
          go_ret
          exact ⟨b, rfl, Nat.le_of_eq HBE.out, HI.out, HBk.out⟩
end Go.Proofs.YtmgcdhcidojdhaaGreat

namespace Go.Proofs.YtmgcdhcidojdhaaGreat
open Go.RowKit


theorem shnew_all {w : World} {p : Option Addr} {us : List (List UInt8)} (h : IsPats w p us) :
    Calls Tryz.prog 54 #[.pointer p] w fun e w' => ∃ b, e = .returned (.pointer (some ⟨b, 0, none⟩)) ∧ w.heap.size ≤ b ∧ HasTab w' (some ⟨b, 0, none⟩) (fstL us) (leastR us) ∧ Below w.heap.size w w' := by
  have go : ∀ {Q : Ending → World → Prop}, Calls Tryz.prog 54 #[.pointer p] w (fun e w' => ∃ b, e = .returned (.pointer (some ⟨b, 0, none⟩)) ∧ w.heap.size ≤ b ∧ IsTab w' b (fstL us) (leastR us) ∧ Below w.heap.size w w') → Calls Tryz.prog 54 #[.pointer p] w fun e w' => ∃ b, e = .returned (.pointer (some ⟨b, 0, none⟩)) ∧ w.heap.size ≤ b ∧ HasTab w' (some ⟨b, 0, none⟩) (fstL us) (leastR us) ∧ Below w.heap.size w w' := by
    intro _ h
    refine h.mono ?_
    rintro e w' ⟨b, rfl, h1, h2, h3⟩
    exact ⟨b, rfl, h1, .inr ⟨b, rfl, h2⟩, h3⟩
  rcases h with ⟨rfl, rfl⟩ | ⟨b, rfl, h, hp⟩
  · exact go (Q := fun _ _ => True) (shnew_by _ [] w (by simp) (by simp) (fun W _ => ptleast_nil W) (fun W _ => ptlen_nil W) (fun W k t _ h => by simp at h))
  · exact go (Q := fun _ _ => True) (shnew_by _ us w (by have := hp.few; omega) (fun t ht => by have := hp.each t ht; omega) (fun W hW => by rw [leastR_some hp]; exact ptleast_any (h.below hW)) (fun W hW => ptlen_any (h.below hW)) (fun W k t hW hk => ptat_in (h.below hW) k t hk))
end Go.Proofs.YtmgcdhcidojdhaaGreat

namespace Go.Proofs.YtmgcdhcidojdhaaGreat
open Go.RowKit Go.Maps Go.WideMaps

set_option maxRecDepth 100000 in
theorem pkLaid : laidOutB Tryz.prog = true := by kernel_rfl
set_option maxRecDepth 100000 in
theorem pkRow : (153 : TypeId) < Tryz.prog.types.size := of_decide_eq_true (by kernel_rfl)
set_option maxRecDepth 100000 in
theorem pkCells : Tryz.prog.cellsOf 153 = 2 := by kernel_rfl
set_option maxRecDepth 100000 in
theorem pkCell : Tryz.prog.cellsOf 5 = 1 := by kernel_rfl
set_option maxRecDepth 100000 in
theorem pkType : Tryz.prog.keyType 153 = true := by kernel_rfl
set_option maxRecDepth 100000 in
theorem pkWide : (match Tryz.prog.underlying 153 with | some (.array _ _) | some (.struct _) => true | _ => false) = true := by rw [Tryz.underlying153]
set_option maxRecDepth 100000 in
theorem keyP : Keyed Tryz.prog 153 := Keyed.of_law (deep_law_laid pkLaid (m := 2) (by omega) pkRow (by kernel_rfl) pkWide)
set_option maxRecDepth 100000 in
theorem zeroP (w : World) : (zeroValue 3).run Tryz.prog w = .ok (.int .i64 0) w := by kernel_rfl

/-- Two bytes as a value. -/
def twoV (x y : Nat) : Value := .agg #[.int .u8 (x : Int), .int .u8 (y : Int)]
set_option maxRecDepth 100000 in
theorem u8_wf {x : Nat} (h : x < 256) : (Lit.int .u8 (x : Int)).wf = true := by
  simp [Lit.wf, IntKind.min, IntKind.max, IntKind.bits, IntKind.signed]
  omega
set_option maxRecDepth 100000 in
theorem key_some {x y : Nat} (hx : x < 256) (hy : y < 256) : ∃ l, keyOf Tryz.prog 153 (twoV x y) = some l := by
  have h1 : ∀ n, (Tryz.prog.keyLits (n + 1) 5 [.int .u8 (x : Int)]) = some [.int .u8 (x : Int)] := fun n => by
    simp [Program.keyLits, Tryz.underlying5, u8_wf hx]
  have h2 : ∀ n, (Tryz.prog.keyLits (n + 1) 5 [.int .u8 (y : Int)]) = some [.int .u8 (y : Int)] := fun n => by
    simp [Program.keyLits, Tryz.underlying5, u8_wf hy]
  have h3 : ∀ n, Tryz.prog.keyLits (n + 2) 153 [.int .u8 (x : Int), .int .u8 (y : Int)] = some [.int .u8 (x : Int), .int .u8 (y : Int)] := fun n => by
    unfold Program.keyLits
    rw [Tryz.underlying153]
    simp [pkCells, pkCell, List.range_succ, h1, h2]
  obtain ⟨n, hn⟩ : ∃ n, Tryz.prog.types.size = n + 1 := ⟨_, rfl⟩
  refine ⟨.string (keyBytes [.int .u8 (x : Int), .int .u8 (y : Int)]), ?_⟩
  unfold keyOf
  rw [Tryz.underlying153, hn]
  simp [pkType, twoV, Value.formed, Tryz.underlying153, pkCells, Value.cells, h3]
/-- What they read as. -/
noncomputable def keyL (x y : Nat) : Lit := (keyOf Tryz.prog 153 (twoV x y)).getD (.bool true)
set_option maxRecDepth 100000 in
theorem key_two {x y : Nat} (hx : x < 256) (hy : y < 256) : keyOf Tryz.prog 153 (twoV x y) = some (keyL x y) := by
  obtain ⟨l, h⟩ := key_some hx hy
  unfold keyL
  rw [h]
  rfl
set_option maxRecDepth 100000 in
theorem keyL_lit {x y : Nat} (hx : x < 256) (hy : y < 256) : WideAt.IsKeyLit (keyL x y) := keyP.key (key_two hx hy)
set_option maxRecDepth 100000 in
theorem keyL_inj {x y u v : Nat} (hx : x < 256) (hy : y < 256) (hu : u < 256) (hv : v < 256) (h : keyL x y = keyL u v) : two x y = two u v := by
  have h1 := key_two hx hy
  rw [h] at h1
  have h2 := keyP.inj h1 (key_two hu hv)
  unfold twoV at h2
  simp at h2
  rw [show x = u by omega, show y = v by omega]
end Go.Proofs.YtmgcdhcidojdhaaGreat
