/-
  The document's own answers for layer 23: Open, Feed: walked.
-/
import Derived.Test.YtjmlabggocfikaaGreatBn3
import Derived.Test.YtjmlabggocfikaaGreatBn11
import Derived.Test.YtjmlabggocfikaaGreatBn10
import Derived.Test.YtjmlabggocfikaaGreatBn2
import Derived.BigQuiet
import Derived.Deep.QuietTactic
set_option linter.unusedSimpArgs false
set_option linter.unusedVariables false
namespace Go.Proofs.YtjmlabggocfikaaGreat
open Go.RowKit

set_option maxRecDepth 100000 in
set_option maxHeartbeats 4000000 in
theorem ropen_any (a : Option Addr) (len cap : Nat) (us S : List (List UInt8)) (s : List UInt8) (w : World) (hlen : len ≤ 1000000) (hr : IsStrs w a len us) (hu : ∀ t ∈ us, t.length ≤ 1000000) (hs : s.length ≤ 1000000) (hS : IsSt us S) :
    Calls Tryz.prog 14 #[.slice a len cap, .string ⟨s.toArray⟩] w fun e w' => e = .returned (.int .i64 ((lgL S s).length : Int)) ∧ Below w.heap.size w w' := by
  have hwl := hr.1
  have HH := Lib.hid hr
  have HU := Lib.hid hu
  have HS := Lib.hid hS
  have S1 := Lib.hid (bsize s)
  clear hr hu hS
  go_enter Tryz.func14, Tryz.ntmps14
  go_wp2
  go_loopw [5, 6] (fun vn vi wr => ∃ (i n : Nat), i ≤ len ∧ vi = .int .i64 i ∧ vn = .int .i64 n ∧ n ≤ s.length ∧ Hid (OpIn us s i 0 n) ∧ Below w.heap.size w wr) (fun _ vi _ => len - (RowKit.intOf vi).toNat)
  case atStart => exact ⟨0, 0, Nat.zero_le _, rfl, rfl, Nat.zero_le _, Lib.hid (OpIn.zero us s), Below.refl _ _⟩
  case round =>
    obtain ⟨i, n, hi, rfl, rfl, hn, HO, hbe⟩ := hrel
    obtain ⟨W1, hW1⟩ : ∃ W1, W1 = wr := ⟨_, rfl⟩
    subst hW1
    by_cases hlt : i < len
    · obtain ⟨b, off, rfl, t, hf, hc⟩ := str_at HH.out hbe i hlt
      have htl := HU.out t (List.mem_of_getElem? hf)
      have HT := Lib.hid (bsize t)
      have HF := Lib.hid hf
      have HB := Lib.hid hbe
      have hblt := World.block_lt_of_cell? W1 _ hc
      have HC := Lib.hid (fun (W : World) (hW : Below W1.heap.size W1 W) => (show W.cell? ⟨b, off + i, none⟩ = some (.string ⟨t.toArray⟩) from by rw [hW.cell (p := ⟨b, off + i, none⟩) hblt]; exact hc))
      have g0 : (0 : Int) ≤ (i : Int) := by omega
      have g1 : (i : Int) < (len : Int) := by omega
      clear hf hbe hblt hc
      go_wp2
      go_loopw [5, 7] (fun vn vq wr => ∃ (q m : Nat), 1 ≤ q ∧ q ≤ t.length + 1 ∧ q ≤ s.length + 1 ∧ vq = .int .i64 q ∧ vn = .int .i64 m ∧ m ≤ s.length ∧ Hid (OpIn us s i (q - 1) m) ∧ Below W1.heap.size W1 wr) (fun _ vq _ => t.length + 1 - (RowKit.intOf vq).toNat)
      case atStart => exact ⟨1, n, Nat.le_refl _, by omega, by omega, rfl, rfl, hn, HO, Below.refl _ _⟩
      case round =>
        obtain ⟨q, m, hq1, hqt, hqs, rfl, rfl, hm, HQ, hbe⟩ := hrel
        have hc := HC.out _ hbe
        by_cases h1 : q ≤ t.length
        · have j1 : (q : Int) ≤ (t.length : Int) := by omega
          have j2 : decide ((q : Int) ≤ (t.length : Int)) = true := decide_eq_true j1
          by_cases h2 : q ≤ s.length
          · have j3 : (q : Int) ≤ (s.length : Int) := by omega
            have j4 : decide ((q : Int) ≤ (s.length : Int)) = true := decide_eq_true j3
            have hqq : q - 1 + 1 = q := by omega
            obtain ⟨d, hd⟩ : ∃ d, d + q = s.length := ⟨s.length - q, by omega⟩
            have hd2 : s.length - q = d := by omega
            by_cases h3 : m < q
            · have j5 : (m : Int) < (q : Int) := by omega
              have j6 : decide ((m : Int) < (q : Int)) = true := decide_eq_true j5
              have w0 : IntKind.i64.wrap ((s.length : Int) - (q : Int)) = (d : Int) := by rw [IntKind.wrap_i64]; omega
              have j7 : (0 : Int) ≤ (d : Int) := by omega
              have j8 : (d : Int) ≤ (s.length : Int) := by omega
              have j9 : (0 : Int) ≤ (q : Int) := by omega
              have x1 := ext_rest s d
              have x2 : (⟨t.toArray⟩ : ByteArray).extract 0 q = ⟨(t.take q).toArray⟩ := by rw [ext_cut]; rfl
              by_cases he : s.drop d = t.take q
              · have HN : Hid (OpIn us s i (q + 1 - 1) q) := Lib.hid (by
                  have := HQ.out.hit HF.out (by omega) (by omega) (by omega) (by rw [hqq, hd2]; exact he)
                  rw [hqq] at this
                  rw [Nat.add_sub_cancel]
                  exact this)
                rw [he] at x1
                have HD := Lib.hid hd
                clear HQ he hd hd2 hqq
                go_wp2_with fail
                go_quiet (fail)
                go_wp2
                exact ⟨⟨q + 1, q, by omega, by omega, by omega, by go_num, rfl, by omega, HN, below_drewS hbe _⟩, by simp [RowKit.intOf]; omega⟩
              · have HN : Hid (OpIn us s i (q + 1 - 1) m) := Lib.hid (by
                  have := HQ.out.miss HF.out (by rw [hqq, hd2]; exact fun h => he h.2)
                  rw [hqq] at this
                  rw [Nat.add_sub_cancel]
                  exact this)
                have he2 : (s.drop d == t.take q) = false := beq_eq_false_iff_ne.2 he
                have HD := Lib.hid hd
                clear HQ he hd hd2 hqq
                go_wp2_with fail
                go_quiet (fail)
                go_wp2
                exact ⟨⟨q + 1, m, by omega, by omega, by omega, by go_num, rfl, hm, HN, below_drewS hbe _⟩, by simp [RowKit.intOf]; omega⟩
            · have j5 : ¬ (m : Int) < (q : Int) := by omega
              have j6 : decide ((m : Int) < (q : Int)) = false := decide_eq_false j5
              have HN : Hid (OpIn us s i (q + 1 - 1) m) := Lib.hid (by
                have := HQ.out.miss HF.out (by rw [hqq]; exact fun h => h3 h.1)
                rw [hqq] at this
                rw [Nat.add_sub_cancel]
                exact this)
              clear HQ hd hd2 hqq
              go_wp2_with fail
              go_quiet (fail)
              go_wp2
              exact ⟨⟨q + 1, m, by omega, by omega, by omega, by go_num, rfl, hm, HN, below_drewS hbe _⟩, by simp [RowKit.intOf]; omega⟩
          · have j3 : ¬ (q : Int) ≤ (s.length : Int) := by omega
            have j4 : decide ((q : Int) ≤ (s.length : Int)) = false := decide_eq_false j3
            have HN : Hid (OpIn us s (i + 1) 0 m) := Lib.hid (HQ.out.row HF.out (by omega))
            have HB2 := Lib.hid (HB.out.trans (hbe.mono HB.out.size))
            clear HQ hbe
            go_wp2
            exact ⟨⟨i + 1, m, by omega, by go_num, rfl, hm, HN, HB2.out⟩, by simp [RowKit.intOf]; omega⟩
        · have j1 : ¬ (q : Int) ≤ (t.length : Int) := by omega
          have j2 : decide ((q : Int) ≤ (t.length : Int)) = false := decide_eq_false j1
          have HN : Hid (OpIn us s (i + 1) 0 m) := Lib.hid (HQ.out.row HF.out (by omega))
          have HB2 := Lib.hid (HB.out.trans (hbe.mono HB.out.size))
          clear HQ hbe
          go_wp2
          exact ⟨⟨i + 1, m, by omega, by go_num, rfl, hm, HN, HB2.out⟩, by simp [RowKit.intOf]; omega⟩
    · obtain rfl : i = len := by omega
      have HE : Hid ((lgL S s).length = n) := Lib.hid (by
        have := HO.out
        rw [← hwl] at this
        exact (this.done HS.out).symm)
      clear HO
      go_wp2
      go_ret
      exact ⟨by rw [HE.out]; rfl, hbe⟩

theorem But.owns {base B X n size : Nat} {w w' : World} {e : TypeId} {v : Value} {xs : List Value} (h : But B X w w') (hB : w.heap.size ≤ B) (hX : X < base) (hown : w.ownsRow base e size v n xs) : w'.ownsRow base e size v n xs := by
  obtain ⟨hl, hx⟩ := hown
  refine ⟨hl, ?_⟩
  rcases hx with hx | ⟨g, cap, cur, hv, hg, hh, r⟩
  · exact .inl hx
  · exact .inr ⟨g, cap, cur, hv, hg, (h.block g (by have := lt_of_heap hh; omega) (by omega)).trans hh, r⟩
/-- One of the hits of an own slice: where it lies. -/
theorem hit_own {w : World} {base n cap k : Nat} {a : Option Addr} {hs : List Ht} (h : w.ownsRow base 48 2 (.slice a n cap) n (hiCells hs)) (hn : hs.length = n) (hk : k < n) :
    ∃ b off, a = some ⟨b, off, none⟩ ∧ ∃ x : Ht, hs[k]? = some x ∧ w.cell? ⟨b, off + k * 2, none⟩ = some (.int .i64 x.1) ∧ w.cell? ⟨b, off + k * 2 + 1, none⟩ = some (.int .i64 x.2) := by
  obtain ⟨ao, cap', he, hh⟩ := owns_hits h hn
  simp only [Value.slice.injEq] at he
  obtain ⟨rfl, _, _⟩ := he
  exact hit_at hh (Below.refl _ _) k hk
end Go.Proofs.YtjmlabggocfikaaGreat
