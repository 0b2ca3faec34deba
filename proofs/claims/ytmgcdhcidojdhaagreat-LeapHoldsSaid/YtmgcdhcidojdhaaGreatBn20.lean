/-
  Texts put together: PbV, OcRa, OcSa.
-/
import Derived.Test.YtmgcdhcidojdhaaGreatPbU
import Derived.Test.YtmgcdhcidojdhaaGreatPbT
import Derived.Test.YtmgcdhcidojdhaaGreatBn17
import Derived.Test.YtmgcdhcidojdhaaGreatBn19
import Derived.Test.YtmgcdhcidojdhaaGreatBn13
set_option linter.unusedSimpArgs false
set_option linter.unusedVariables false
namespace Go.Proofs.YtmgcdhcidojdhaaGreat
open Go.RowKit

theorem misN_le {us : List (List UInt8)} {s : List UInt8} {e : Nat} (h : ∀ t ∈ us, t.length ≤ 65535) : misN us s e ≤ 65535 := by
  have h1 : misN us s e < max (mostL us) 2 := misK_lt _ _ (by omega)
  have h2 : mostL us ≤ 65535 := most_le h
  omega
theorem rholds_of (a : Option Addr) (len cap : Nat) (us : List (List UInt8)) (s : List UInt8) (e : Nat) (w : World) (hlen : len ≤ 1000000) (hr : IsStrs w a len us) (hu : ∀ t ∈ us, 0 < t.length ∧ t.length ≤ 65535) (hs : s.length ≤ 1000000) (he : 0 < e) (hes : e ≤ s.length) (skip : Bool) (R : EvR) (hR : ofR us s e skip = R) (aa : Option Addr) (cc : Nat)
    (hrow : IsRow .i64 w aa R.ids.length R.ids.length R.ids) :
    Calls Tryz.prog 15 #[.slice a len cap, .string ⟨s.toArray⟩, .int .i64 (e : Int), .agg #[.int .i64 (R.k : Int), .int .i64 (R.n : Int), .int .i64 (R.r : Int), .slice aa R.ids.length cc]] w fun E w' => E = .returned (.bool true) ∧ Below w.heap.size w w' := by
  subst hR
  rcases of_cases us s e skip with ⟨_, h, h1⟩ | ⟨_, h, h1⟩ | ⟨h0, h, h1⟩ | h1
  · rw [h1] at hrow ⊢
    have h2 : 2 ≤ e := by
      rcases Nat.lt_or_ge e 2 with h' | h'
      · unfold twoN at h; rw [if_neg (by omega)] at h; omega
      · exact h'
    have h3 : twoN us s e = nearL us (prS s e) := if_pos h2
    exact rholds_leap a len cap us s e w hlen hr hu hs he hes aa cc (twoN us s e) 1 h2 (by omega) (two_le us s e) (by omega)
  · rw [h1] at hrow ⊢
    exact rholds_skip a len cap us s e w hlen hr hu hs he hes aa cc (fstL us (byN s (e - 1))) 1 h (fst_le _ _) (Nat.le_refl _)
  · rw [h1] at hrow ⊢
    exact rholds_miss a len cap us s e w hlen hr hu hs he hes aa cc (misN us s e) 1 h (by have := misN_le (s := s) (e := e) (fun t ht => (hu t ht).2); omega) (misK_says _ _ h)
  · rw [h1] at hrow ⊢
    exact rholds_at a len cap us s e w hlen hr hu hs he hes aa cc _ rfl hrow

theorem pbex_of (s : List UInt8) (e : Nat) (R : EvR) (he : 0 < e) (hl : s.length = e) (h6 : e ≤ 1000) (hR : ofR [[97, 98, 99], [98, 99]] s e true = R) (b : Nat) (w : World) (h : IsProbe w b [[97, 98, 99], [98, 99]]) :
    Calls Tryz.prog 63 #[.pointer (some ⟨b, 0, none⟩), .string ⟨s.toArray⟩, .int .i64 (e : Int), .bool true] w (RetE R w) := by
  have ht := IsTail.whole (us := [[97, 98, 99], [98, 99]]) (s := s) he (by omega)
  rw [List.take_of_length_le (by omega)] at ht
  have := pbof_any h ht (by omega) (by omega) (by decide) (by decide) true
  rwa [hR] at this

end Go.Proofs.YtmgcdhcidojdhaaGreat

namespace Go.Proofs.YtmgcdhcidojdhaaGreat
open Go.RowKit

set_option maxRecDepth 100000 in
set_option maxHeartbeats 2000000 in
theorem rall_any (a : Option Addr) (len cap : Nat) (us : List (List UInt8)) (s : List UInt8) (w : World) (hlen : len ≤ 1000000) (hr : IsStrs w a len us) (hu : ∀ t ∈ us, t.length ≤ 1000000) (hs : s.length ≤ 100000) :
    Calls Tryz.prog 19 #[.slice a len cap, .string ⟨s.toArray⟩] w (RetH (hitL us s) w) := by
  have hwl := hr.1
  have HH := Lib.hid hr
  have HU := Lib.hid hu
  have S1 := Lib.hid (bsize s)
  have HN := Lib.hid (fun n => hitK_next us s n)
  have HLn := Lib.hid (fun n (hn : n ≤ s.length + 1) => (show (hitK us s n).length ≤ 1000000000000 by
    have h1 := hitK_length us s n
    have h2 : n * us.length ≤ 100001 * 1000000 := Nat.mul_le_mul (by omega) (by omega)
    omega))
  have HLe := Lib.hid (fun e k => hitE_length us s e k)
  obtain ⟨i0, hi, hz0, hz1, hz2⟩ := info_parts hit_info
  clear hr hu
  go_enter Tryz.func19, Tryz.ntmps19
  go_wp2
  go_loopw [5, 6] (fun v i wr => ∃ (m : Nat) (acc : List Ht), m ≤ s.length + 1 ∧ i = .int .i64 m ∧ Hid (hitK us s m = acc) ∧ wr.ownsRow w.heap.size 78 2 v acc.length (hiCells acc) ∧ Below w.heap.size w wr) (fun _ i _ => s.length + 1 - (RowKit.intOf i).toNat)
  case atStart => exact ⟨0, [], Nat.zero_le _, rfl, Lib.hid rfl, World.ownsRow_made w #[] 0 (Nat.le_refl _) (by unfold maxLen; omega) rfl, (Below.refl _ _).alloc (Nat.le_refl _) _⟩
  case round =>
    obtain ⟨m, acc, hm, rfl, HK, hown, hbe⟩ := hrel
    by_cases hlt : m ≤ s.length
    · obtain ⟨W1, hW1⟩ : ∃ W1, W1 = wr := ⟨_, rfl⟩
      subst hW1
      have hal : acc.length ≤ 1000000000000 := by rw [← HK.out]; exact HLn.out m hm
      have g9 : (m : Int) ≤ (s.length : Int) := by omega
      have HO := Lib.hid hown
      have HB := Lib.hid hbe
      clear hown hbe
      go_wp2
      go_loopw [5, 7] (fun v i wr => ∃ (k : Nat) (bcc : List Ht), k ≤ len ∧ i = .int .i64 k ∧ bcc.length ≤ acc.length + k ∧ Hid (acc ++ hitE us s m k = bcc) ∧ wr.ownsRow w.heap.size 78 2 v bcc.length (hiCells bcc) ∧ Below w.heap.size w wr) (fun _ i _ => len - (RowKit.intOf i).toNat)
      case atStart => exact ⟨0, acc, Nat.zero_le _, rfl, Nat.le_refl _, Lib.hid (by simp [hitE, idsK]), HO.out, HB.out⟩
      case round =>
        obtain ⟨k, bcc, hk, rfl, hbl, HE, hown, hbe⟩ := hrel
        have hsz := hbe.size
        by_cases hlt2 : k < len
        · obtain ⟨b, off, rfl, t, hf, hc⟩ := str_at HH.out hbe k hlt2
          have htl := HU.out t (List.mem_of_getElem? hf)
          have HC := Lib.hid (rstands_any t s m wr htl (by omega) (by omega))
          have g0 : (0 : Int) ≤ (k : Int) := by omega
          have g1 : (k : Int) < (len : Int) := by omega
          cases hq : stB t s m with
          | true =>
            have HR : Hid (acc ++ hitE us s m (k + 1) = bcc ++ [((m : Int), (k : Int))]) := Lib.hid (by rw [hitE_hit hf hq, ← List.append_assoc, HE.out])
            rw [hq] at HC
            clear hq hf HE
            go_wp2_with fail
            refine HC.out.mono ?_
            rintro en w' ⟨rfl, rfl⟩
            clear HC
            go_wp2_with (at_builtin; refine wpList_append_own _ rfl _ _ 48 rfl w.heap.size 78 i0 (.agg #[.int .i64 0, .int .i64 0]) 2 16 Tryz.underlying48 hi hz0 hz1 hz2 rfl (by decide) _ _ _ rfl (hown.alloc _) ⟨wr.heap.size, 0, none⟩ 1 1 [.int .i64 (m : Int), .int .i64 (k : Int)] rfl rfl (hit_news (heap_alloc_new wr _)) hit_one (by unfold maxLen; omega) (by omega) (by simp; omega) ?_)
            intro v' w3 hown3 hgrow _
            have h3 : Below w.heap.size w w3 := (hbe.alloc hsz _).grown hgrow (by simp; omega) (fun j hj => (hown.lt j hj).1)
            clear hgrow hown hbe
            go_wp2
            exact ⟨⟨k + 1, bcc ++ [((m : Int), (k : Int))], by omega, by go_num, by rw [List.length_append, List.length_singleton]; omega, HR, by rw [hiCells_snoc, List.length_append]; exact hown3, h3⟩, by simp [RowKit.intOf]; omega⟩
          | false =>
            have HR : Hid (acc ++ hitE us s m (k + 1) = bcc) := Lib.hid (by rw [hitE_miss hf hq, HE.out])
            rw [hq] at HC
            clear hq hf HE
            go_wp2_with fail
            refine HC.out.mono ?_
            rintro en w' ⟨rfl, rfl⟩
            clear HC
            go_wp2
            exact ⟨⟨k + 1, bcc, by omega, by go_num, by omega, HR, hown, hbe⟩, by simp [RowKit.intOf]; omega⟩
        · obtain rfl : k = len := by omega
          have hz : ¬ (k : Int) < (k : Int) := by omega
          have HR : Hid (hitK us s (m + 1) = bcc) := Lib.hid (by rw [HN.out, HK.out, hwl]; exact HE.out)
          have HO2 := Lib.hid hown
          have HB2 := Lib.hid hbe
          clear hown hbe HE HK
          go_wp2
          exact ⟨⟨m + 1, bcc, by omega, by go_num, HR, HO2.out, HB2.out⟩, by simp [RowKit.intOf]; omega⟩
    · obtain rfl : m = s.length + 1 := by omega
      have hz : ¬ ((s.length : Int) + 1) ≤ (s.length : Int) := by omega
      have HE : Hid (hitL us s = acc) := Lib.hid (by unfold hitL; exact HK.out)
      have HO := Lib.hid hown
      clear hown HK
      go_wp2
      go_ret
      exact ⟨_, rfl, by rw [HE.out]; exact HO.out, hbe⟩
end Go.Proofs.YtmgcdhcidojdhaaGreat

namespace Go.Proofs.YtmgcdhcidojdhaaGreat
open Go.RowKit


/-- Not equal, as the model compares them. -/
theorem run_ne_hit (a b c d : Int) (w : World) : Sem.run Tryz.prog (binOp .neq 78 (.agg #[.int .i64 a, .int .i64 b]) (.agg #[.int .i64 c, .int .i64 d])) w = .ok (.bool (!decide ((a, b) = (c, d)))) w := by
  have u3 := Tryz.underlying3
  have a3 := Tryz.isAgg3
  have z3 := Tryz.sizeOf3
  have hS : Tryz.prog.underlying 78 = some (.struct (Tryz.prog.fieldsOf 78)) := by kernel_rfl
  have hp : Tryz.prog.stoodInHeld 78 = false := by kernel_rfl
  rw [run_neq_struct, show (10000 : Nat) = 9999 + 1 from rfl, run_equalIn_agg w 9999 78 _ _ hS hp]
  simp only [Program.fieldsOf, Tryz.underlying78]
  go_simp
  by_cases h1 : a = c <;> by_cases h2 : b = d <;> simp [h1, h2]

set_option maxHeartbeats 2000000 in
theorem hsame_any (a b : Option Addr) (len ca cb : Nat) (hs : List Ht) (w : World) (hlen : len ≤ 1000000000000000) (ha : IsHits w a len hs) (hb : IsHits w b len hs) :
    Calls Tryz.prog 17 #[.slice a len ca, .slice b len cb] w fun e w' => e = .returned (.bool true) ∧ Below w.heap.size w w' := by
  go_enter Tryz.func17, Tryz.ntmps17
  go_wp2
  go_loopw [5] (fun i wr => ∃ k : Nat, k ≤ len ∧ i = .int .i64 k ∧ Below w.heap.size w wr) (fun i _ => len - (RowKit.intOf i).toNat)
  case atStart => exact ⟨0, Nat.zero_le _, rfl, Below.refl _ _⟩
  case round =>
    obtain ⟨k, hk, rfl, hbe⟩ := hrel
    by_cases hlt : k < len
    · obtain ⟨b1, off1, rfl, x, hx, c0, c1⟩ := hit_at ha hbe k hlt
      obtain ⟨b2, off2, rfl, y, hy, d0, d1⟩ := hit_at hb hbe k hlt
      obtain rfl : x = y := Option.some.inj (hx.symm.trans hy)
      clear ha hb hx hy
      obtain ⟨x1, x2⟩ := x
      simp only at c0 c1 d0 d1
      have hq := run_ne_hit x1 x2 x1 x2
      rw [decide_eq_true rfl] at hq
      have g0 : (0 : Int) ≤ (k : Int) := by omega
      have g1 : (k : Int) < (len : Int) := by omega
      go_wp2_with fail
      go_quiet (fail)
      go_wp2
      exact ⟨⟨k + 1, by omega, by go_num, below_drewS hbe _⟩, by simp [RowKit.intOf]; omega⟩
    · obtain rfl : k = len := by omega
      go_wp2
      go_ret
      exact ⟨rfl, hbe⟩
end Go.Proofs.YtmgcdhcidojdhaaGreat
