/-
  trie.alike, trie.count: walked: how many states there are is at least one, and not many.
-/
import Derived.Test.YtkaldfcpcimacaaTrE
import Derived.Lib.MinMax
set_option linter.unusedSimpArgs false
set_option linter.unusedVariables false
namespace Go.Proofs.Ytkaldfcpcimacaa
open Go.RowKit

/-- A number that is none too great, after some draws. -/
def RetAl (m : Nat) (w : World) (e : Ending) (w' : World) : Prop := ∃ n q : Nat, e = .returned (.int .i64 (n : Int)) ∧ n ≤ m ∧ w' = w.drewN q
theorem trdrew_all (w : World) (n m : Nat) : (w.drewN n).drewN m = w.drewN (n + m) := by simp [World.drewN, Nat.add_assoc]

set_option maxHeartbeats 1000000 in
theorem tralike_any (a b : List UInt8) (w : World) (ha : a.length ≤ 1000000000) (hb : b.length ≤ 1000000000) :
    Calls Try.prog 59 #[.string ⟨a.toArray⟩, .string ⟨b.toArray⟩] w (RetAl b.length w) := by
  have S1 := Lib.hid (bsize a)
  have S2 := Lib.hid (bsize b)
  obtain ⟨m, hm, hma, hmb⟩ : ∃ m : Nat, min (a.length : Int) (b.length : Int) = (m : Int) ∧ m ≤ a.length ∧ m ≤ b.length := ⟨min a.length b.length, by omega, by omega, by omega⟩
  go_enter Try.func59, Try.ntmps59
  go_wp2
  go_loopw [5] (fun i wr => ∃ k : Nat, k ≤ m ∧ i = .int .i64 k ∧ ∃ q, wr = w.drewN q) (fun i _ => m - (RowKit.intOf i).toNat)
  case atStart => exact ⟨0, Nat.zero_le _, rfl, 0, rfl⟩
  case round =>
    obtain ⟨k, hk, rfl, q, rfl⟩ := hrel
    by_cases hlt : k < m
    · have g1 : (k : Int) < (m : Int) := by omega
      have g2 : k < a.length := by omega
      have g3 : k < b.length := by omega
      have hza : k < (⟨a.toArray⟩ : ByteArray).size := by rw [bsize]; omega
      have hzb : k < (⟨b.toArray⟩ : ByteArray).size := by rw [bsize]; omega
      have HA := byteAt a k (by omega) hza
      have HB := byteAt b k (by omega) hzb
      by_cases hc : a[k] = b[k]
      · have hq : (((((⟨a.toArray⟩ : ByteArray)[k]'hza).toNat : Int)) = ((((⟨b.toArray⟩ : ByteArray)[k]'hzb).toNat : Int))) := by rw [HA, HB, hc]
        clear HA HB hc
        go_wp2_with fail
        go_quiet (fail)
        go_wp2
        exact ⟨⟨k + 1, by omega, by go_num, _, rfl⟩, by simp [RowKit.intOf]; omega⟩
      · have hq : ¬ (((((⟨a.toArray⟩ : ByteArray)[k]'hza).toNat : Int)) = ((((⟨b.toArray⟩ : ByteArray)[k]'hzb).toNat : Int))) := by
          rw [HA, HB]
          exact fun e => hc (UInt8.toNat_inj.1 (by omega))
        clear HA HB hc
        go_wp2_with fail
        go_quiet (fail)
        go_wp2
        go_ret
        exact ⟨k, _, rfl, by omega, trdrew_all _ _ _⟩
    · obtain rfl : k = m := by omega
      have g1 : ¬ (k : Int) < (k : Int) := by omega
      go_wp2_with fail
      go_quiet (fail)
      go_wp2
      go_ret
      exact ⟨k, _, rfl, by omega, trdrew_all _ _ _⟩

theorem pats_each {w : World} {p : Option Addr} {us : List (List UInt8)} (h : IsPats w p us) : (∀ t ∈ us, t.length ≤ 65535) ∧ us.length ≤ 65535 ∧ totalL us ≤ 16777216 := by
  rcases h with ⟨_, rfl⟩ | ⟨b, _, _, h⟩
  · simp [totalL]
  · exact ⟨fun t ht => (h.each t ht).2, h.few, h.total⟩

set_option maxHeartbeats 1000000 in
theorem trcount_any {w : World} {p : Option Addr} {us : List (List UInt8)} (h : IsPats w p us) : Calls Try.prog 47 #[.pointer p] w fun e w' => ∃ n q : Nat, e = .returned (.int .i64 (n : Int)) ∧ 1 ≤ n ∧ n ≤ 16777217 ∧ w' = w.drewN q := by
  obtain ⟨he, hf, ht⟩ := pats_each h
  have HE := Lib.hid he
  have HL := Lib.hid (ptlen_all h)
  have HA : Hid (∀ (q k : Nat) t, us[k]? = some t → _) := Lib.hid fun q k t ht => ptat_all (h.heap (W := w.drewN q) rfl) k t ht
  have HT : Hid (∀ k, totalL (us.take k) ≤ totalL us) := Lib.hid (total_take_le us)
  clear he h
  go_enter Try.func47, Try.ntmps47
  go_wp2_with fail
  refine HL.out.mono ?_
  rintro e w' ⟨rfl, rfl⟩
  go_wp2
  go_loopw [3, 4, 10] (fun x y i wr => ∃ (k n : Nat) (a : List UInt8), k ≤ us.length ∧ i = .int .i64 k ∧ x = .int .i64 n ∧ y = .string ⟨a.toArray⟩ ∧ a.length ≤ 65535 ∧ 1 ≤ n ∧ Hid (n ≤ totalL (us.take k) + 1) ∧ ∃ q, wr = w'.drewN q) (fun _ _ i _ => us.length - (RowKit.intOf i).toNat)
  case atStart => exact ⟨0, 1, [], Nat.zero_le _, rfl, rfl, rfl, by simp, by omega, Lib.hid (by omega), 0, rfl⟩
  case round =>
    obtain ⟨k, n, a, hk, rfl, rfl, rfl, ha, hn, HN, q, rfl⟩ := hrel
    have hnt := HN.out
    have htk := HT.out k
    by_cases hlt : k < us.length
    · obtain ⟨t, hft⟩ : ∃ t, us[k]? = some t := ⟨us[k], List.getElem?_eq_getElem hlt⟩
      have htl := HE.out t (List.mem_of_getElem? hft)
      have HA2 := Lib.hid (HA.out q k t hft)
      have HK := Lib.hid (tralike_any a t (w'.drewN q) (by omega) (by omega))
      have HS := Lib.hid (bsize t)
      have hts := total_snoc hft
      have htk2 := HT.out (k + 1)
      have g1 : (k : Int) < (us.length : Int) := by omega
      clear hft
      have hs2 : ∀ m : Nat, m ≤ t.length → (n + (t.length - m) ≤ totalL (us.take (k + 1)) + 1) := fun m hm => by omega
      have HS2 := Lib.hid hs2
      have hbig : n ≤ 16777217 := by omega
      clear hts htk2 htk hnt HN hs2
      go_wp2_with fail
      refine HA2.out.mono ?_
      rintro e w2 ⟨rfl, rfl⟩
      go_wp2_with fail
      refine HK.out.mono ?_
      rintro e w3 ⟨m, q2, rfl, hm, rfl⟩
      have w1 : IntKind.i64.wrap ((t.length : Int) - (m : Int)) = ((t.length - m : Nat) : Int) := by rw [IntKind.wrap_i64]; omega
      have w2 : IntKind.i64.wrap ((n : Int) + ((t.length - m : Nat) : Int)) = ((n + (t.length - m) : Nat) : Int) := by rw [IntKind.wrap_i64]; omega
      clear HA2 HK
      go_wp2
      exact ⟨⟨k + 1, n + (t.length - m), t, by omega, by go_num, by rw [show ((n + (t.length - m) : Nat) : Int) = (n : Int) + ((t.length - m : Nat) : Int) by omega], rfl, htl, by omega, Lib.hid (HS2.out m hm), _, rfl⟩, by simp [RowKit.intOf]; omega⟩
    · obtain rfl : k = us.length := by omega
      have g1 : ¬ (us.length : Int) < (us.length : Int) := by omega
      have hbig : n ≤ 16777217 := by omega
      clear hnt htk HN
      go_wp2
      go_ret
      exact ⟨n, rfl, hn, hbig, q, rfl⟩
end Go.Proofs.Ytkaldfcpcimacaa
