/-
  The law's 'awake' of layer 17.
-/
import Derived.Test.YtkaldfcpcimacaaLkH
import Derived.Test.YtkaldfcpcimacaaSameI
set_option linter.unusedSimpArgs false
set_option linter.unusedVariables false
namespace Go.Proofs.Ytkaldfcpcimacaa
open Go.RowKit

/-- New links of a set that texts make. -/
theorem lknew_set {w : World} {p : Option Addr} {ws : List (List UInt8)} (h : IsPats w p (setL ws)) :
    Calls Try.prog 10 #[.pointer p] w fun e w' => ∃ k q S F, e = .returned (.pointer k) ∧ IsLink w' k q p (setL ws) S S.length F ∧ Below w.heap.size w w' := lknew_any h (set_asc ws) (pats_nodup h)

theorem lkex_fault : faultL [[104, 101], [104, 101, 114, 115], [115, 104, 101]] = 0 := by decide +kernel
theorem lkex_set : setL [[104, 101], [104, 101, 114, 115], [115, 104, 101]] = [[104, 101], [104, 101, 114, 115], [115, 104, 101]] := by
  rw [set_good lkex_fault, ← ins_srt]; decide +kernel
theorem lkex_kids (q : List UInt8) (l : List UInt8) (h : kidsL [[104, 101], [104, 101, 114, 115], [115, 104, 101]] q = l) : kidsP [[104, 101], [104, 101, 114, 115], [115, 104, 101]] q = l.map fun c => q ++ [c] := by unfold kidsP; rw [h]
theorem lkex_bfs : Bfs [[104, 101], [104, 101, 114, 115], [115, 104, 101]] 8 [[], [104], [115], [104, 101], [115, 104], [104, 101, 114], [115, 104, 101], [104, 101, 114, 115]] := by
  have k0 := lkex_kids [] [104, 115] (by decide +kernel)
  have k1 := lkex_kids [104] [101] (by decide +kernel)
  have k2 := lkex_kids [115] [104] (by decide +kernel)
  have k3 := lkex_kids [104, 101] [114] (by decide +kernel)
  have k4 := lkex_kids [115, 104] [101] (by decide +kernel)
  have k5 := lkex_kids [104, 101, 114] [115] (by decide +kernel)
  have k6 := lkex_kids [115, 104, 101] [] (by decide +kernel)
  have k7 := lkex_kids [104, 101, 114, 115] [] (by decide +kernel)
  have h0 := Bfs.zero (us := [[104, 101], [104, 101, 114, 115], [115, 104, 101]])
  have h1 := h0.step (p := []) rfl
  rw [k0] at h1
  have h2 := h1.step (p := [104]) rfl
  rw [k1] at h2
  have h3 := h2.step (p := [115]) rfl
  rw [k2] at h3
  have h4 := h3.step (p := [104, 101]) rfl
  rw [k3] at h4
  have h5 := h4.step (p := [115, 104]) rfl
  rw [k4] at h5
  have h6 := h5.step (p := [104, 101, 114]) rfl
  rw [k5] at h6
  have h7 := h6.step (p := [115, 104, 101]) rfl
  rw [k6] at h7
  have h8 := h7.step (p := [104, 101, 114, 115]) rfl
  rw [k7] at h8
  exact h8
theorem lkex_is {S : List (List UInt8)} (h : IsSt [[104, 101], [104, 101, 114, 115], [115, 104, 101]] S) : S = [[], [104], [115], [104, 101], [115, 104], [104, 101, 114], [115, 104, 101], [104, 101, 114, 115]] := h.unique (Bfs.done lkex_bfs)
theorem lkex_fall : fbL [[], [104], [115], [104, 101], [115, 104], [104, 101, 114], [115, 104, 101], [104, 101, 114, 115]] [115, 104, 101] = [104, 101] := by decide +kernel
theorem lkex_step : lgL [[], [104], [115], [104, 101], [115, 104], [104, 101, 114], [115, 104, 101], [104, 101, 114, 115]] ([115, 104, 101] ++ [114]) = [104, 101, 114] := by decide +kernel
theorem lkex_hits : hsL [[104, 101], [104, 101, 114, 115], [115, 104, 101]] [115, 104, 101] = [0, 2] := by decide +kernel

/-- What awake's links tell. -/
structure Woke (W : World) (k q : Option Addr) : Prop where
  trie : Calls Try.prog 21 #[.pointer k] W fun e w' => e = .returned (.pointer q) ∧ w' = W
  she : Calls Try.prog 25 #[.pointer q, .string ⟨#[115, 104, 101]⟩] W fun e w' => e = .returned (.tuple #[.int .i64 6, .bool true]) ∧ Below W.heap.size W w'
  he : Calls Try.prog 25 #[.pointer q, .string ⟨#[104, 101]⟩] W fun e w' => e = .returned (.tuple #[.int .i64 3, .bool true]) ∧ Below W.heap.size W w'
  her : Calls Try.prog 25 #[.pointer q, .string ⟨#[104, 101, 114]⟩] W fun e w' => e = .returned (.tuple #[.int .i64 5, .bool true]) ∧ Below W.heap.size W w'
  fail : Calls Try.prog 14 #[.pointer k, .int .i64 6] W fun e w' => e = .returned (.int .i64 3) ∧ Below W.heap.size W w'
  hits : Calls Try.prog 19 #[.pointer k, .int .i64 6] W fun e w' => ∃ a c, e = .returned (.slice a 2 c) ∧ IsRow .i64 w' a 2 2 [0, 2] ∧ Below W.heap.size W w'
  step : Calls Try.prog 16 #[.pointer k, .int .i64 6, .int .u8 114] W fun e w' => e = .returned (.int .i64 5) ∧ Below W.heap.size W w'

theorem woke_any {W : World} {k q p : Option Addr} {S : List (List UInt8)} {F : List (Nat × Nat)} (h : IsLink W k q p [[104, 101], [104, 101, 114, 115], [115, 104, 101]] S S.length F) (hp : IsPats W p [[104, 101], [104, 101, 114, 115], [115, 104, 101]]) : Woke W k q := by
  obtain rfl := lkex_is h.tr.st
  have same : ∀ {i j : Nat} {t : List UInt8}, ([[], [104], [115], [104, 101], [115, 104], [104, 101, 114], [115, 104, 101], [104, 101, 114, 115]] : List (List UInt8))[i]? = some t → ([[], [104], [115], [104, 101], [115, 104], [104, 101, 114], [115, 104, 101], [104, 101, 114, 115]] : List (List UInt8))[j]? = some t → i = j := fun a b => rise_same h.tr.st.1 a b
  have find : ∀ (t : List UInt8) (n : Nat), t.length ≤ 10 → ([[], [104], [115], [104, 101], [115, 104], [104, 101, 114], [115, 104, 101], [104, 101, 114, 115]] : List (List UInt8))[n]? = some t → Calls Try.prog 25 #[.pointer q, .string ⟨t.toArray⟩] W fun e w' => e = .returned (.tuple #[.int .i64 (n : Int), .bool true]) ∧ Below W.heap.size W w' := fun t n hl hn => by
    refine (ts_find h.tr t (by omega)).mono ?_
    rintro e w' ⟨⟨h1, _⟩, hb⟩
    obtain ⟨m, he, hm⟩ := h1 (List.mem_of_getElem? hn)
    exact ⟨by rw [he, same hm hn], hb⟩
  refine ⟨lktrie_any h.has, find _ 6 (by decide) rfl, find _ 3 (by decide) rfl, find _ 5 (by decide) rfl, ?_, ?_, ?_⟩
  · obtain ⟨a, b, hF, ha, _⟩ := h.ok.at_ 6 [115, 104, 101] (by decide) rfl
    rw [lkex_fall] at ha
    have := lkfail_any h.has 6
    rw [show (6 : Int) = ((6 : Nat) : Int) from rfl, flOf_in hF, same ha (j := 3) rfl] at this
    exact this
  · refine (lkhits_in h hp (pats_nodup hp) 6 (s := [115, 104, 101]) rfl).mono ?_
    rintro e w' ⟨v, rfl, hown, hb⟩
    rw [lkex_hits] at hown
    obtain ⟨a, c, rfl, hr⟩ := row_of_ints hown (by decide)
    exact ⟨a, c, rfl, hr, hb⟩
  · refine (lkstep_in h 6 (s := [115, 104, 101]) rfl (by decide) 114).mono ?_
    rintro e w' ⟨n, rfl, hn, hb⟩
    rw [lkex_step] at hn
    exact ⟨by rw [same hn (j := 5) rfl]; rfl, hb⟩

set_option maxRecDepth 100000 in
set_option maxHeartbeats 2000000 in
theorem lkawake_any (w : World) : Calls Try.prog 7 #[] w fun e w' => e = .returned (.bool true) ∧ Below w.heap.size w w' := by
  have hA := strs_heap (ws := [[104, 101], [104, 101, 114, 115], [115, 104, 101]]) (heap_alloc_new w (.cells (txCells [[104, 101], [104, 101, 114, 115], [115, 104, 101]]).toArray 9)) rfl
  have H1 := Lib.hid (ptnew_all (some ⟨w.heap.size, 0, none⟩) 3 3 _ _ (by omega) hA (by decide))
  rw [lkex_fault] at H1
  have c1 : Below w.heap.size w (w.alloc (.cells (txCells [[104, 101], [104, 101, 114, 115], [115, 104, 101]]).toArray 9)) := (Below.refl _ w).alloc (Nat.le_refl _) _
  have s1 := c1.size
  clear hA
  go_enter Try.func7, Try.ntmps7
  go_wp2_with fail
  refine H1.out.mono ?_
  rintro e w2 ⟨p, rfl, hs, hb2⟩
  have d2 := c1.trans (hb2.mono s1)
  have e2 := d2.size
  have N2 := Lib.hid (lknew_set hs)
  have HS := Lib.hid hs
  clear H1 hs hb2 c1 s1
  go_wp2_with fail
  refine N2.out.mono ?_
  rintro e w3 ⟨k, q, S, F, rfl, hT, hb3⟩
  have d3 := d2.trans (hb3.mono e2)
  rw [lkex_set] at hT HS
  have HW := Lib.hid (fun W (hb : Below w3.heap.size w3 W) => woke_any (hT.below hb) ((HS.out.below hb3).below hb))
  have HR := Lib.hid (Below.refl w3.heap.size w3)
  clear N2 hb3 hT e2 HS d2
  have Q1 := Lib.hid (HW.out _ HR.out).trie
  have Q2 := Lib.hid (HW.out _ HR.out).she
  go_wp2_with fail
  refine Q1.out.mono ?_
  rintro e w' ⟨rfl, hw'⟩
  obtain rfl := hw'.symm
  clear hw'
  go_wp2_with fail
  refine Q2.out.mono ?_
  rintro e w4 ⟨rfl, hb4⟩
  clear Q1 Q2
  have Q1 := Lib.hid (HW.out _ hb4).trie
  have Q2 := Lib.hid (HW.out _ hb4).he
  go_wp2_with fail
  refine Q1.out.mono ?_
  rintro e w' ⟨rfl, hw'⟩
  obtain rfl := hw'.symm
  clear hw'
  go_wp2_with fail
  refine Q2.out.mono ?_
  rintro e w5 ⟨rfl, hb5⟩
  have f5 := hb4.trans (hb5.mono hb4.size)
  clear Q1 Q2 hb4 hb5
  have Q1 := Lib.hid (HW.out _ f5).trie
  have Q2 := Lib.hid (HW.out _ f5).her
  go_wp2_with fail
  refine Q1.out.mono ?_
  rintro e w' ⟨rfl, hw'⟩
  obtain rfl := hw'.symm
  clear hw'
  go_wp2_with fail
  refine Q2.out.mono ?_
  rintro e w6 ⟨rfl, hb6⟩
  have f6 := f5.trans (hb6.mono f5.size)
  clear Q1 Q2 hb6 f5
  have Q1 := Lib.hid (HW.out _ f6).fail
  go_wp2_with fail
  refine Q1.out.mono ?_
  rintro e w7 ⟨rfl, hb7⟩
  have f7 := f6.trans (hb7.mono f6.size)
  clear Q1 hb7 f6
  have Q1 := Lib.hid (HW.out _ f7).hits
  go_wp2_with fail
  refine Q1.out.mono ?_
  rintro e w8 ⟨a, c, rfl, hrow, hb8⟩
  have f8 := f7.trans (hb8.mono f7.size)
  clear Q1 hb8 f7
  have f9 := f8.alloc f8.size (.cells #[.int .i64 0, .int .i64 2] 3)
  have r1 := hrow.below ((Below.refl _ _).alloc (Nat.le_refl _) (.cells #[.int .i64 0, .int .i64 2] 3))
  have r2 := row_heap (zs := [0, 2]) (heap_alloc_new w8 (.cells #[.int .i64 0, .int .i64 2] 3)) rfl (by decide)
  have Q1 := Lib.hid (isame_any a _ 2 c 2 2 2 [0, 2] _ (by decide) r1 r2)
  clear hrow r1 r2 f8
  go_wp2_with fail
  refine Q1.out.mono ?_
  rintro e w10 ⟨rfl, hb10⟩
  have f10 := f9.trans (hb10.mono f9.size)
  clear Q1 hb10 f9
  have Q1 := Lib.hid (HW.out _ f10).step
  go_wp2_with fail
  refine Q1.out.mono ?_
  rintro e w11 ⟨rfl, hb11⟩
  have f11 := f10.trans (hb11.mono f10.size)
  have d11 := d3.trans (f11.mono d3.size)
  clear Q1 hb11 f10 f11 d3 HW HR
  go_wp2
  go_ret
  exact ⟨rfl, d11⟩
end Go.Proofs.Ytkaldfcpcimacaa
