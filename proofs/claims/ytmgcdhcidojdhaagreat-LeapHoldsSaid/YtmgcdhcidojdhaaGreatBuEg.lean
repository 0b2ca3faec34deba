/-
  Each as what one ranges over, its numbers with what is known of them.
-/
import Derived.Test.YtmgcdhcidojdhaaGreatBuE
set_option linter.unusedSimpArgs false
set_option linter.unusedVariables false
namespace Go.Proofs.YtmgcdhcidojdhaaGreat
open Go.RowKit Go.Shelf

attribute [local go_sem] Oper.semAt_some

set_option maxRecDepth 100000 in
set_option maxHeartbeats 2000000 in
theorem each_walks {α : Type} (val : α → Int) (xs : List α) (n : Nat) (hn : 2 ≤ n) (B : Nat) (p : Value) (I : Nat → List Int) (L : Nat → Nat) (c : Nat) (hc : c < 256) (w0 w : World) (hb0 : Below w0.heap.size w0 w) (hxs : xs.map val = I c) (hl : xs.length ≤ 1000000)
    (hB : B + 1 < w.heap.size) (h1 : w.cell? ⟨B, 0, none⟩ = some p) (h2 : w.cell? ⟨B + 1, 0, none⟩ = some (.int .u8 (c : Int))) (h : HasBks w0 p I L) :
    SeqStopsK Fence.wide n Tryz.prog 109 #[.pointer (some ⟨B, 0, none⟩), .pointer (some ⟨B + 1, 0, none⟩)] (fun x => #[.int .i64 (val x)]) (Below w0.heap.size) (fun ys => ys = xs) (fun pre => pre <+: xs) xs.length w := by
  intro l J Jx W hW hJ hJx hY h0
  obtain ⟨a, cap, hown, hC⟩ := buof_at h c hc
  have hbW := hb0.trans (hW.mono hb0.size)
  have HC := Lib.hid (hC W hbW)
  have HL : Hid (xs.length = (I c).length) := Lib.hid (by rw [← hxs, List.length_map])
  have HXS := Lib.hid hxs
  obtain ⟨ao, cap', hv, hrow⟩ := row_of_ints hown (by rw [← HL.out]; unfold maxLen; omega)
  cases hv
  have HR := Lib.hid hrow
  have e1 : W.cell? ⟨B, 0, none⟩ = some p := (hW.cell (p := ⟨B, 0, none⟩) (by simp; omega)).trans h1
  have e2 : W.cell? ⟨B + 1, 0, none⟩ = some (.int .u8 (c : Int)) := (hW.cell (p := ⟨B + 1, 0, none⟩) (by simp; omega)).trans h2
  have hJ0 : ∀ o, J [] (W.alloc o) := fun o => hJ [] W (W.alloc o) none h0 (World.grownBy_alloc W o none) (fun r e => by cases e)
  clear hC hown hrow h h1 h2
  rw [HL.out] at hl
  clear hxs
  generalize I c = ids at *
  generalize L c = m at *
  refine callsIn_of_wp Tryz.func109 rfl trivial ?_ rfl
  simp only [Tryz.ntmps109, List.size_toArray, List.length_cons, List.length_nil, Nat.reduceAdd, Nat.reduceSub, Array.replicate_succ, Array.replicate_zero, List.push_toArray, List.append_toArray, List.nil_append, List.cons_append]
  have hfi := bufield_ids
  have hn1 : 1 ≤ n := by omega
  gi_wp2_with fail
  refine ⟨trivial, ?_⟩
  refine (callsIn_wide.2 HC.out).mono ?_
  rintro e w' ⟨rfl, rfl⟩
  gi_wp2
  gi_loopw [5, 11] (fun v i wr => ∃ k : Nat, k ≤ ids.length ∧ i = .int .i64 k ∧ Hid (J (xs.take k) wr) ∧ Below w0.heap.size w0 wr) (fun _ i _ => ids.length - (intOf i).toNat)
  case atStart => exact ⟨0, Nat.zero_le _, rfl, Lib.hid (hJ0 _), hbW.trans (((Below.refl _ W).alloc (Nat.le_refl _) _).mono hbW.size)⟩
  case round =>
    obtain ⟨k, hk, rfl, HJ, hbe⟩ := hrel
    by_cases hlt : k < ids.length
    · obtain h0' | ⟨b, off, rfl, _, _, _, hci⟩ := HR.out.below hbe
      · omega
      have hc2 := hci k hlt
      obtain ⟨x, hx⟩ : ∃ x, xs[k]? = some x := ⟨_, List.getElem?_eq_getElem (by rw [HL.out]; exact hlt)⟩
      rw [← HXS.out, List.getD_eq_getElem?_getD, List.getElem?_map, hx, Option.map_some, Option.getD_some] at hc2
      have HT : Hid (xs.take k ++ [x] = xs.take (k + 1)) := Lib.hid (by rw [List.take_add_one, hx]; rfl)
      obtain ⟨fn, tmps, assign, body, hy, hR⟩ := hY _ x wr HJ.out (by have := HL.out; rw [List.length_take]; omega)
      generalize val x = z at hy hc2
      have g0 : (0 : Int) ≤ (k : Int) := by omega
      have g1 : (k : Int) < (ids.length : Int) := by omega
      clear hci hx HJ
      gi_wp2
      refine hR.mono ?_
      rintro e W3 (⟨rfl, hJ3, hk3⟩ | ⟨rfl, hJx3⟩)
      · rw [HT.out] at hJ3
        have HJ3 := Lib.hid hJ3
        have hb3 := hbe.trans hk3
        clear hJ3 hk3 hR hy
        gi_wp2
        go_roundw
        case rel => exact ⟨k + 1, by omega, by go_num, HJ3, hb3⟩
        case measure => simp [intOf]; omega
      · rw [HT.out] at hJx3
        gi_wp2
        refine bodyPost_ret (results_none rfl _ _ _) rfl ?_
        exact ⟨⟨_, rfl⟩, .inr ⟨_, List.take_prefix _ _, hJx3⟩⟩
    · obtain rfl : k = ids.length := by omega
      have hJe := HJ.out
      rw [← HL.out, List.take_length] at hJe
      gi_wp2
      go_end0
      exact ⟨⟨_, rfl⟩, .inl ⟨_, rfl, hJe⟩⟩

/-- A number of a bucket. -/
abbrev InB (us : List (List UInt8)) (c : Nat) := {x : Int // x ∈ idsL us c}
theorem inB_all (us : List (List UInt8)) (c : Nat) : (idsL us c).attach.map Subtype.val = idsL us c := List.attach_map_subtype_val _
theorem inB_filter {us : List (List UInt8)} {c : Nat} (p : Int → Bool) : ((idsL us c).attach.filter fun x => p x.1).map Subtype.val = (idsL us c).filter p := by
  have h : ((idsL us c).attach.filter (p ∘ Subtype.val)).map Subtype.val = ((idsL us c).attach.map Subtype.val).filter p := List.filter_map.symm
  rw [inB_all] at h
  exact h

end Go.Proofs.YtmgcdhcidojdhaaGreat
