/-
  The document's own answers for layer 16: Find, States: walked; and that of layer 10, Find.
-/
import Derived.Test.YtkaldfcpcimacaaTrR
import Derived.Test.YtkaldfcpcimacaaStr
import Derived.Test.YtkaldfcpcimacaaBut
import Derived.Test.YtkaldfcpcimacaaOwnTo
import Derived.Deep.AppendLies
set_option linter.unusedSimpArgs false
set_option linter.unusedVariables false
namespace Go.Proofs.Ytkaldfcpcimacaa
open Go.RowKit

/-- The first place of a text; -1: none. -/
def ixL (s : List UInt8) (ws : List (List UInt8)) : Int := if s ∈ ws then (ws.findIdx (· == s) : Int) else -1
theorem ix_hit {s : List UInt8} {ws : List (List UInt8)} {k : Nat} (h : ws[k]? = some s) (hn : s ∉ ws.take k) : ixL s ws = k := by
  obtain ⟨hk, e⟩ := List.getElem?_eq_some_iff.1 h
  unfold ixL
  rw [if_pos (List.mem_of_getElem? h)]
  congr 1
  rw [List.findIdx_eq hk]
  refine ⟨by rw [e]; simp, fun j hj => ?_⟩
  rw [Bool.eq_false_iff]
  intro hs
  have hs2 : ws[j] = s := by simpa using hs
  exact hn (List.mem_of_getElem? (i := j) (by rw [List.getElem?_take, if_pos hj, ← hs2]; exact List.getElem?_eq_getElem (by omega)))
theorem ix_miss {s : List UInt8} {ws : List (List UInt8)} (h : s ∉ ws) : ixL s ws = -1 := if_neg h
theorem ix_is {s : List UInt8} {ws : List (List UInt8)} {k : Nat} (hn : ws.Nodup) (h : ws[k]? = some s) : ixL s ws = k := by
  refine ix_hit h fun hm => ?_
  obtain ⟨j, hj⟩ := List.mem_iff_getElem?.1 hm
  rw [List.getElem?_take] at hj
  split at hj
  · rename_i hlt
    obtain ⟨a1, b1⟩ := List.getElem?_eq_some_iff.1 hj
    obtain ⟨a2, b2⟩ := List.getElem?_eq_some_iff.1 h
    have := (List.getElem_inj hn).1 (b1.trans b2.symm)
    omega
  · cases hj
theorem ix_pos (s : List UInt8) (ws : List (List UInt8)) : decide (0 ≤ ixL s ws) = decide (s ∈ ws) := by
  unfold ixL
  split <;> simp_all

set_option maxHeartbeats 1000000 in
theorem rfind16_any (a : Option Addr) (len cap : Nat) (ws : List (List UInt8)) (s : List UInt8) (w : World) (hlen : len ≤ 1000000000) (hr : IsStrs w a len ws) :
    Calls Try.prog 35 #[.slice a len cap, .string ⟨s.toArray⟩] w fun e w' => e = .returned (.int .i64 (ixL s ws)) ∧ w' = w := by
  have hwl := hr.1
  have HI := Lib.hid hr
  clear hr
  go_enter Try.func35, Try.ntmps35
  go_wp2
  go_loop [5] (fun i => ∃ k : Nat, k ≤ len ∧ i = .int .i64 k ∧ Hid (s ∉ ws.take k)) (fun i => len - (RowKit.intOf i).toNat)
  case atStart => exact ⟨0, Nat.zero_le _, rfl, Lib.hid (by simp)⟩
  case round =>
    obtain ⟨k, hk, rfl, HK⟩ := hrel
    by_cases hlt : k < len
    · obtain ⟨b, off, rfl, t, hf, hc⟩ := str_at HI.out (Below.refl _ _) k hlt
      cases hq : (t == s) with
      | true =>
        have e1 : t = s := by simpa using hq
        have HE : Hid (ixL s ws = k) := Lib.hid (ix_hit (by rw [← e1]; exact hf) HK.out)
        clear hf HK e1
        go_wp2
        go_ret
        exact ⟨by rw [HE.out]; rfl, rfl⟩
      | false =>
        have HK2 : Hid (s ∉ ws.take (k + 1)) := Lib.hid (fun hm => by
          obtain ⟨hk', e⟩ := List.getElem?_eq_some_iff.1 hf
          rw [List.take_succ_eq_append_getElem hk', List.mem_append, List.mem_singleton, e] at hm
          rcases hm with hm | hm
          · exact HK.out hm
          · subst hm; simp at hq)
        clear hf HK
        go_wp2
        exact ⟨⟨k + 1, by omega, by go_num, HK2⟩, by simp [RowKit.intOf]; omega⟩
    · obtain rfl : k = len := by omega
      have HE : Hid (ixL s ws = -1) := Lib.hid (ix_miss (by have := HK.out; rwa [List.take_of_length_le (by omega)] at this))
      clear HK
      go_wp2
      go_ret
      exact ⟨by rw [HE.out]; rfl, rfl⟩
set_option maxHeartbeats 1000000 in
theorem rfind10_any (a : Option Addr) (len cap : Nat) (ws : List (List UInt8)) (s : List UInt8) (w : World) (hlen : len ≤ 1000000000) (hr : IsStrs w a len ws) :
    Calls Try.prog 34 #[.slice a len cap, .string ⟨s.toArray⟩] w fun e w' => e = .returned (.int .i64 (ixL s ws)) ∧ w' = w := by
  have hwl := hr.1
  have HI := Lib.hid hr
  clear hr
  go_enter Try.func34, Try.ntmps34
  go_wp2
  go_loop [5] (fun i => ∃ k : Nat, k ≤ len ∧ i = .int .i64 k ∧ Hid (s ∉ ws.take k)) (fun i => len - (RowKit.intOf i).toNat)
  case atStart => exact ⟨0, Nat.zero_le _, rfl, Lib.hid (by simp)⟩
  case round =>
    obtain ⟨k, hk, rfl, HK⟩ := hrel
    by_cases hlt : k < len
    · obtain ⟨b, off, rfl, t, hf, hc⟩ := str_at HI.out (Below.refl _ _) k hlt
      cases hq : (t == s) with
      | true =>
        have e1 : t = s := by simpa using hq
        have HE : Hid (ixL s ws = k) := Lib.hid (ix_hit (by rw [← e1]; exact hf) HK.out)
        clear hf HK e1
        go_wp2
        go_ret
        exact ⟨by rw [HE.out]; rfl, rfl⟩
      | false =>
        have HK2 : Hid (s ∉ ws.take (k + 1)) := Lib.hid (fun hm => by
          obtain ⟨hk', e⟩ := List.getElem?_eq_some_iff.1 hf
          rw [List.take_succ_eq_append_getElem hk', List.mem_append, List.mem_singleton, e] at hm
          rcases hm with hm | hm
          · exact HK.out hm
          · subst hm; simp at hq)
        clear hf HK
        go_wp2
        exact ⟨⟨k + 1, by omega, by go_num, HK2⟩, by simp [RowKit.intOf]; omega⟩
    · obtain rfl : k = len := by omega
      have HE : Hid (ixL s ws = -1) := Lib.hid (ix_miss (by have := HK.out; rwa [List.take_of_length_le (by omega)] at this))
      clear HK
      go_wp2
      go_ret
      exact ⟨by rw [HE.out]; rfl, rfl⟩
theorem IsStP.few {us out : List (List UInt8)} {n j : Nat} (h : IsStP us n j out) : out.length ≤ totalL us + 1 :=
  states_few (slx_nodup h.1) fun q hq => by
    rcases (h.2.2 q).1 hq with h1 | ⟨_, h1⟩ | ⟨_, h1⟩
    · exact .inl h1
    · exact .inr h1
    · obtain ⟨i, t, _, ht, hp⟩ := beg_take.1 h1
      exact .inr (beg_at ht hp)

/-- The states, as an answer. -/
def RetSt (us : List (List UInt8)) (w : World) (e : Ending) (w' : World) : Prop := ∃ (S : List (List UInt8)) (a : Option Addr) (cap : Nat), e = .returned (.slice a S.length cap) ∧ IsSt us S ∧ IsStrs w' a S.length S ∧ Below w.heap.size w w'
set_option maxRecDepth 100000 in
set_option maxHeartbeats 4000000 in
theorem rstates_any (a : Option Addr) (len cap : Nat) (us : List (List UInt8)) (w : World) (hlen : len ≤ 1000000) (hr : IsStrs w a len us) (ha : Asc us) (ht : ∀ t ∈ us, t.length ≤ 65535) (htot : totalL us ≤ 16777216) :
    Calls Try.prog 11 #[.slice a len cap] w (RetSt us w) := by
  have hwl := hr.1
  obtain ⟨i0, hi, hz0, hz1, hz2⟩ := info_parts string_info
  have HI := Lib.hid hr
  have HA := Lib.hid ha
  have HT := Lib.hid ht
  clear hr ha ht
  go_enter Try.func11, Try.ntmps11
  go_wp2
  go_loopw [4, 5] (fun x i wr => ∃ k n : Nat, k ≤ len ∧ i = .int .i64 k ∧ x = .int .i64 n ∧ n ≤ 65535 ∧ Hid (∀ t ∈ us.take k, t.length ≤ n) ∧ Hid (wr = w.alloc (.cells #[.string ⟨#[]⟩] 9))) (fun _ i _ => len - (RowKit.intOf i).toNat)
  case atStart => exact ⟨0, 0, Nat.zero_le _, rfl, rfl, by omega, Lib.hid (by simp), Lib.hid rfl⟩
  case round =>
    obtain ⟨k, n, hk, rfl, rfl, hn, HK, hwr⟩ := hrel
    have hbe : Below w.heap.size w wr := by rw [hwr.out]; exact (Below.refl _ _).alloc (Nat.le_refl _) _
    by_cases hlt : k < len
    · obtain ⟨b, off, rfl, t, hf, hc⟩ := str_at HI.out hbe k hlt
      have HS := Lib.hid (bsize t)
      have htl := HT.out t (List.mem_of_getElem? hf)
      have hsn : ∀ m, n ≤ m → t.length ≤ m → ∀ u ∈ us.take (k + 1), u.length ≤ m := fun m h1 h2 u hu => by
        obtain ⟨hk', e⟩ := List.getElem?_eq_some_iff.1 hf
        rw [List.take_succ_eq_append_getElem hk', List.mem_append, List.mem_singleton, e] at hu
        rcases hu with hu | rfl
        · exact Nat.le_trans (HK.out u hu) h1
        · exact h2
      have g1 : (k : Int) < (len : Int) := by omega
      by_cases hq : n < t.length
      · have HK2 := Lib.hid (hsn t.length (by omega) (Nat.le_refl _))
        clear hf HK hsn
        go_wp2
        exact ⟨⟨k + 1, t.length, by omega, by go_num, rfl, htl, HK2, hwr⟩, by simp [RowKit.intOf]; omega⟩
      · have HK2 := Lib.hid (hsn n (Nat.le_refl _) (by omega))
        clear hf HK hsn
        go_wp2
        exact ⟨⟨k + 1, n, by omega, by go_num, rfl, hn, HK2, hwr⟩, by simp [RowKit.intOf]; omega⟩
    · obtain rfl : k = len := by omega
      have HM : Hid (∀ t ∈ us, t.length ≤ n) := Lib.hid (by have := HK.out; rwa [List.take_of_length_le (by omega)] at this)
      have HW : Hid (us.take k = us) := Lib.hid (List.take_of_length_le (by omega))
      have g1 : ¬ (k : Int) < (k : Int) := by omega
      have H0 : Hid (wr.ownsRow w.heap.size 9 1 (.slice (some ⟨w.heap.size, 0, none⟩) 1 1) ([[]] : List (List UInt8)).length (txCells [[]])) := Lib.hid (by
        rw [hwr.out]
        exact ⟨rfl, .inr ⟨w.heap.size, 1, _, rfl, Nat.le_refl _, heap_alloc_new w _, Nat.le_refl _, by decide, rfl, rfl⟩⟩)
      have HB0 := Lib.hid hbe
      clear HK hbe hwr
      go_wp2
      obtain ⟨W1, hW1⟩ : ∃ W, W = wr := ⟨_, rfl⟩
      subst hW1
      go_loopw [3, 6] (fun v x wr => ∃ (m g cap' : Nat) (out : List (List UInt8)), m ≤ n + 1 ∧ x = .int .i64 m ∧ v = .slice (some ⟨g, 0, none⟩) out.length cap' ∧ Hid (IsStP us m 0 out) ∧ Hid (wr.ownsRow w.heap.size 9 1 (.slice (some ⟨g, 0, none⟩) out.length cap') out.length (txCells out)) ∧ Below w.heap.size w wr) (fun _ x _ => n + 1 - (RowKit.intOf x).toNat)
      case atStart => exact ⟨1, w.heap.size, 1, [[]], by omega, rfl, rfl, Lib.hid (IsStP.start us), H0, HB0.out⟩
      case round =>
        obtain ⟨m, g, cap', out, hm, rfl, rfl, HP, HO, hbe⟩ := hrel
        by_cases hmn : m ≤ n
        · have g2 : (m : Int) ≤ (n : Int) := by omega
          have hm1 := HP.out.2.1.2
          clear H0 HB0
          go_wp2
          obtain ⟨W2, hW2⟩ : ∃ W, W = wr := ⟨_, rfl⟩
          subst hW2
          go_loopw [3, 7] (fun v x wr => ∃ (j g cap' : Nat) (out : List (List UInt8)), j ≤ k ∧ x = .int .i64 j ∧ v = .slice (some ⟨g, 0, none⟩) out.length cap' ∧ Hid (IsStP us m j out) ∧ Hid (wr.ownsRow w.heap.size 9 1 (.slice (some ⟨g, 0, none⟩) out.length cap') out.length (txCells out)) ∧ Below w.heap.size w wr) (fun _ x _ => k - (RowKit.intOf x).toNat)
          case atStart => exact ⟨0, g, cap', out, Nat.zero_le _, rfl, rfl, HP, HO, hbe⟩
          case round =>
            clear HP HO hbe
            obtain ⟨j, g, cap', out, hj, rfl, rfl, HP, HO, hbe⟩ := hrel
            have hsz := hbe.size
            have hlo := HP.out.2.1.1
            have hof := HP.out.few
            by_cases hlt : j < k
            · obtain ⟨b, off, rfl, t, hf, hc⟩ := str_at HI.out hbe j hlt
              obtain ⟨l, hl⟩ : ∃ l, out[out.length - 1]? = some l := ⟨out[out.length - 1], List.getElem?_eq_getElem (by omega)⟩
              have hol : wr.cell? ⟨g, out.length - 1, none⟩ = some (.string ⟨l.toArray⟩) := by
                have := HO.out.cells (g := g) rfl (out.length - 1) (.string ⟨l.toArray⟩) (by simp [txCells, hl])
                rwa [addPlain, Nat.zero_add] at this
              have HS := Lib.hid (bsize t)
              have S2 := Lib.hid (bsize l)
              have hx := ext_cut t 0 m
              rw [List.drop_zero] at hx
              have q1 : (0 : Int) ≤ (j : Int) := by omega
              have q2 : (j : Int) < (k : Int) := by omega
              have q3 : IntKind.i64.wrap ((out.length : Int) - 1) = (out.length : Int) - 1 := by rw [IntKind.wrap_i64]; omega
              have q4 : ((out.length : Int) - 1).toNat = out.length - 1 := by omega
              have q5 : (0 : Int) ≤ (out.length : Int) - 1 := by omega
              have q6 : (out.length : Int) - 1 < (out.length : Int) := by omega
              have q7 : (0 : Int) ≤ (m : Int) := by omega
              by_cases hlong : m ≤ t.length
              · have q8 : (m : Int) ≤ (t.length : Int) := by omega
                by_cases heq : t.take m = l
                · have HP2 := Lib.hid (HP.out.skip hf (.inr (by rw [heq]; exact List.mem_of_getElem? hl)))
                  subst heq
                  clear hf hl HP
                  go_wp2_with fail
                  go_quiet (fail)
                  go_wp2
                  exact ⟨⟨j + 1, g, cap', out, by omega, by go_num, rfl, HP2, Lib.hid (HO.out : _), below_drewS hbe nq⟩, by simp [RowKit.intOf]; omega⟩
                · have HP2 := Lib.hid (HP.out.put HA.out hf hlong hl heq)
                  have hq : (t.take m == l) = false := by rw [beq_eq_false_iff_ne]; exact heq
                  have hcut : (0 : Int) ≤ (m : Int) := by omega
                  have H7 : Hid (∀ r, wr.cell? ⟨b, off + j, none⟩ = r → ∀ q o, ((wr.drewN q).alloc o).cell? ⟨b, off + j, none⟩ = r) := Lib.hid fun r hr' q o => by
                    have hblt := World.block_lt_of_cell? wr _ hc
                    rw [World.cell?_alloc_lt _ _ _ (show b < (wr.drewN q).heap.size from hblt)]; exact hr'
                  clear hf hl HP heq
                  have hown := HO.out
                  go_wp2_with fail
                  go_quiet (fail)
                  go_wp2_with (at_builtin; refine wpList_append_to _ rfl _ _ 22 rfl w.heap.size 9 i0 (.string ByteArray.empty) 1 16 Try.underlying22 hi hz0 hz1 hz2 rfl (by decide) _ _ _ rfl (World.ownsRow.alloc (w := wr.drewN nq) hown _) ⟨wr.heap.size, 0, none⟩ 1 1 [.string ⟨(t.take m).toArray⟩] rfl rfl (one_news (heap_alloc_new (wr.drewN nq) _)) str_one (by unfold maxLen; omega) (by omega) (by simp; omega) (by decide) ?_)
                  intro v' w4 hown4 hgrow4 hat4
                  have e1 : (out ++ [t.take m]).length = out.length + 1 := by simp
                  have B4 : Below w.heap.size w w4 := ((below_drewS hbe nq).alloc (by show _ ≤ wr.heap.size; exact hsz) _).grown hgrow4 (by simp; omega) (fun i hi => (hown.lt i hi).1)
                  obtain ⟨g4, c4, rfl, _⟩ := World.ownsRow.form hown4 (by omega)
                  have HO4 : Hid (w4.ownsRow w.heap.size 9 1 (.slice (some ⟨g4, 0, none⟩) (out ++ [t.take m]).length c4) (out ++ [t.take m]).length (txCells (out ++ [t.take m]))) := Lib.hid (by
                    rw [e1, txCells_snoc]; exact hown4)
                  rw [← e1]
                  generalize out ++ [t.take m] = out2 at HO4 HP2 ⊢
                  clear hown hown4 hgrow4 hat4 e1
                  go_wp2
                  exact ⟨⟨j + 1, g4, c4, out2, by omega, by go_num, rfl, HP2, HO4, B4⟩, by simp [RowKit.intOf]; omega⟩
              · have HP2 := Lib.hid (HP.out.skip hf (.inl (by omega)))
                have q8 : ¬ (m : Int) ≤ (t.length : Int) := by omega
                clear hf hl HP hx
                go_wp2_with fail
                go_quiet (fail)
                go_wp2
                exact ⟨⟨j + 1, g, cap', out, by omega, by go_num, rfl, HP2, Lib.hid (HO.out : _), below_drewS hbe nq⟩, by simp [RowKit.intOf]; omega⟩
            · obtain rfl : j = k := by omega
              have q2 : ¬ (j : Int) < (j : Int) := by omega
              have HP2 := Lib.hid (by have := HP.out; rw [← hwl] at this; exact this.next : IsStP us (m + 1) 0 out)
              clear HP
              go_wp2
              exact ⟨⟨m + 1, g, cap', out, by omega, by go_num, rfl, HP2, HO, hbe⟩, by simp [RowKit.intOf]; omega⟩
        · have g2 : ¬ (m : Int) ≤ (n : Int) := by omega
          have hst : IsSt us out := by
            have : m = n + 1 := by omega
            subst this
            exact HP.out.done fun t ht => Nat.lt_succ_of_le (HM.out t ht)
          have HE : Hid (RetSt us w (.returned (.slice (some ⟨g, 0, none⟩) out.length cap')) wr) := Lib.hid (by
            obtain ⟨ao, cp, he, hs⟩ := owns_strs HO.out
            cases he
            exact ⟨out, _, _, rfl, hst, hs, hbe⟩)
          clear HP HO hbe hst
          go_wp2
          go_ret
          exact HE.out
end Go.Proofs.Ytkaldfcpcimacaa
