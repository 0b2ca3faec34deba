/-
  Where a byte leads: Step: walked.
-/
import Derived.Test.YtkaldfcpcimacaaLkF
import Derived.Test.YtkaldfcpcimacaaTrN0
set_option linter.unusedSimpArgs false
set_option linter.unusedVariables false
namespace Go.Proofs.Ytkaldfcpcimacaa
open Go.RowKit

/-- Of the first m states it is known where they fall back to. -/
structure FlOk (us S : List (List UInt8)) (m : Nat) (F : List (Nat × Nat)) : Prop where
  len : F.length = S.length
  at_ : ∀ (i : Nat) (s : List UInt8), i < m → S[i]? = some s → ∃ a b : Nat, F[i]? = some (a, b) ∧ S[a]? = some (fbL S s) ∧ S[b]? = some (fbL us s)
/-- Links of a trie of a set: of the first m states it is known where they fall back to. -/
structure IsLink (w : World) (k q p : Option Addr) (us S : List (List UInt8)) (m : Nat) (F : List (Nat × Nat)) : Prop where
  has : HasLk w k q F
  tr : IsTrie w q p us S
  asc : Asc us
  ok : FlOk us S m F
theorem IsLink.below {w w' : World} {k q p : Option Addr} {us S : List (List UInt8)} {m : Nat} {F : List (Nat × Nat)} (h : IsLink w k q p us S m F) (hb : Below w.heap.size w w') : IsLink w' k q p us S m F :=
  ⟨h.has.below hb, h.tr.below hb, h.asc, h.ok⟩
theorem IsLink.root {w : World} {k q p : Option Addr} {us S : List (List UInt8)} {m : Nat} {F : List (Nat × Nat)} (h : IsLink w k q p us S m F) : S[0]? = some [] := by
  obtain ⟨R, _, _, h3, _⟩ := h.tr
  exact h3.root
theorem IsLink.zero {w : World} {k q p : Option Addr} {us S : List (List UInt8)} {m : Nat} {F : List (Nat × Nat)} (h : IsLink w k q p us S m F) {i : Nat} {s : List UInt8} (hs : S[i]? = some s) : i = 0 ↔ s = [] := by
  constructor
  · rintro rfl
    rw [h.root] at hs
    exact (Option.some.inj hs).symm
  · rintro rfl
    exact rise_same h.tr.st.1 hs h.root
theorem IsLink.less {w : World} {k q p : Option Addr} {us S : List (List UInt8)} {m : Nat} {F : List (Nat × Nat)} (h : IsLink w k q p us S m F) {i j : Nat} {s t : List UInt8} (hs : S[i]? = some s) (ht : S[j]? = some t) (hl : s.length < t.length) : i < j := rise_lt h.tr.st.1 hs ht (.inl hl)
theorem IsLink.mem {w : World} {k q p : Option Addr} {us S : List (List UInt8)} {m : Nat} {F : List (Nat × Nat)} (h : IsLink w k q p us S m F) : [] ∈ S := st_root h.tr.st
theorem IsLink.flen {w : World} {k q p : Option Addr} {us S : List (List UInt8)} {m : Nat} {F : List (Nat × Nat)} (h : IsLink w k q p us S m F) : F.length = S.length := h.ok.len

set_option maxHeartbeats 1000000 in
theorem lkstep_out {w : World} {k q : Option Addr} {F : List (Nat × Nat)} (h : HasLk w k q F) (s : Int) (hs : s < 0 ∨ (F.length : Int) ≤ s) (c : UInt8) : Calls Try.prog 16 #[.pointer k, .int .i64 s, .int .u8 (c.toNat : Int)] w fun e w' => e = .returned (.int .i64 0) ∧ w' = w := by
  have HS := Lib.hid (lkis_out h s hs)
  clear h hs
  go_enter Try.func16, Try.ntmps16
  go_wp2_with fail
  refine HS.out.mono ?_
  rintro e w' ⟨rfl, rfl⟩
  go_wp2
  go_ret
  exact ⟨rfl, rfl⟩

set_option maxHeartbeats 2000000 in
theorem lkstep_in {w : World} {k q p : Option Addr} {us S : List (List UInt8)} {m : Nat} {F : List (Nat × Nat)} (h : IsLink w k q p us S m F) (i : Nat) {s : List UInt8} (hs : S[i]? = some s) (hi : i < m) (c : UInt8) :
    Calls Try.prog 16 #[.pointer k, .int .i64 (i : Int), .int .u8 (c.toNat : Int)] w fun e w' => ∃ n : Nat, e = .returned (.int .i64 (n : Int)) ∧ S[n]? = some (lgL S (s ++ [c])) ∧ Below w.heap.size w w' := by
  have hil := (List.getElem?_eq_some_iff.1 hs).1
  have HS := Lib.hid (lkis_in h.has i (by rw [h.flen]; exact hil))
  obtain ⟨base, b, g, rfl, hk⟩ := h.has.some (i := i) (by rw [h.flen]; exact hil)
  have HH := Lib.hid h
  have HK := Lib.hid hk
  have c0 := hk.reads.1
  have hi0 := Lib.hid hi
  have hs0 := Lib.hid hs
  clear h hk hil hi hs
  go_enter Try.func16, Try.ntmps16
  go_wp2_with fail
  refine HS.out.mono ?_
  rintro e w' ⟨rfl, hw'⟩
  obtain rfl := hw'.symm
  clear hw' HS
  go_wp2
  go_loopw [1, 7, 8] (fun x _ _ wr => ∃ (j : Nat) (t : List UInt8), x = .int .i64 j ∧ Hid (j < m) ∧ Hid (S[j]? = some t) ∧ Hid (lgL S (s ++ [c]) = lgL S (t ++ [c])) ∧ Below w.heap.size w wr) (fun x _ _ _ => (RowKit.intOf x).toNat)
  case atStart => exact ⟨i, s, rfl, hi0, hs0, Lib.hid rfl, Below.refl _ _⟩
  case round =>
    clear hi0 hs0 c0
    obtain ⟨j, t, rfl, hj, ht, hg, hbe⟩ := hrel
    have hsz := hbe.size
    have c0 := (HK.out.below hbe).reads.1
    have HN := Lib.hid (ts_next (HH.out.below hbe).tr j ht.out c)
    by_cases hm : t ++ [c] ∈ S
    · go_wp2_with fail
      refine HN.out.mono ?_
      rintro e w2 ⟨⟨h1, _⟩, hb2⟩
      obtain ⟨n, rfl, hn⟩ := h1 hm
      have HE := Lib.hid (show S[n]? = some (lgL S (s ++ [c])) by rw [hg.out, lg_hit hm]; exact hn)
      have d2 := Lib.hid (hbe.trans (hb2.mono hsz))
      clear h1 hb2 HN hn hm hbe hg ht
      go_wp2
      go_ret
      exact ⟨n, rfl, HE.out, d2.out⟩
    · by_cases h0 : j = 0
      · have e0 := (HH.out.zero ht.out).1 h0
        subst h0
        have HE := Lib.hid (show S[0]? = some (lgL S (s ++ [c])) by
          rw [hg.out, lg_miss hm, e0]; exact HH.out.root)
        go_wp2_with fail
        refine HN.out.mono ?_
        rintro e w2 ⟨⟨_, h1⟩, hb2⟩
        obtain rfl := h1 hm
        have d2 := Lib.hid (hbe.trans (hb2.mono hsz))
        clear h1 hb2 HN hm hbe hg ht e0
        go_wp2
        go_ret
        exact ⟨0, rfl, HE.out, d2.out⟩
      · have e0 : t ≠ [] := fun e => h0 ((HH.out.zero ht.out).2 e)
        have g0 : ((j : Int) == 0) = false := by simp; omega
        have g1 : ¬ (j : Int) = 0 := by omega
        have g2 : (j == 0) = false := by simp; omega
        obtain ⟨a, a', hF, ha, _⟩ := HH.out.ok.at_ j t hj.out ht.out
        have hlt := HH.out.less ha ht.out (fb_less e0)
        have HF := Lib.hid (fun W hb => lkfail_any ((HH.out.below (w' := W) hb).has) (j : Int))
        rw [flOf_in hF] at HF
        have HE := Lib.hid (show lgL S (s ++ [c]) = lgL S (fbL S t ++ [c]) by
          rw [hg.out]; exact lg_step HH.out.tr.st c e0 hm)
        have hj2 := Lib.hid (Nat.lt_trans hlt hj.out)
        have ha2 := Lib.hid ha
        go_wp2_with fail
        refine HN.out.mono ?_
        rintro e w2 ⟨⟨_, h1⟩, hb2⟩
        obtain rfl := h1 hm
        have d2 := Lib.hid (hbe.trans (hb2.mono hsz))
        have HF2 := Lib.hid (HF.out w2 d2.out)
        clear h1 hb2 HN hm hbe hg ht e0 ha hF hj HF hsz
        go_wp2_with fail
        refine HF2.out.mono ?_
        rintro e w3 ⟨rfl, hb3⟩
        have d3 := Lib.hid (d2.out.trans (hb3.mono d2.out.size))
        clear hb3 HF2
        go_wp2
        exact ⟨⟨a, _, rfl, hj2, ha2, HE, d3.out⟩, by simp [RowKit.intOf]; omega⟩
end Go.Proofs.Ytkaldfcpcimacaa
