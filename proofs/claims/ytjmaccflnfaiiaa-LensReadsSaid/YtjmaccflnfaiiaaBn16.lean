/-
  Texts put together: AfFb, AfFw, Mask.
-/
import Derived.Test.YtjmaccflnfaiiaaBn1
import Derived.Test.YtjmaccflnfaiiaaBn4
set_option linter.unusedSimpArgs false
set_option linter.unusedVariables false
namespace Go.Proofs.Ytjmaccflnfaiiaa
open Go.RowKit


/-- Are they few, and short? -/
def fewB (ws : List (List UInt8)) (m n : Nat) : Bool := decide (ws.length ≤ m) && ws.all fun t => decide (t.length ≤ n)
theorem few_iff (ws : List (List UInt8)) (m n : Nat) : fewB ws m n = true ↔ ws.length ≤ m ∧ ∀ t ∈ ws, t.length ≤ n := by
  unfold fewB
  simp only [Bool.and_eq_true, decide_eq_true_eq, List.all_eq_true]
theorem few_no {ws : List (List UInt8)} {m n : Nat} (h : ¬ (ws.length ≤ m ∧ ∀ t ∈ ws, t.length ≤ n)) : fewB ws m n = false := by
  rw [Bool.eq_false_iff]
  exact fun e => h ((few_iff ws m n).1 e)
theorem mem_take_snoc {ws : List (List UInt8)} {k : Nat} {t x : List UInt8} (h : ws[k]? = some t) (hx : x ∈ ws.take (k + 1)) : x ∈ ws.take k ∨ x = t := by
  obtain ⟨hk, rfl⟩ := List.getElem?_eq_some_iff.1 h
  rw [List.take_succ_eq_append_getElem hk, List.mem_append, List.mem_singleton] at hx
  exact hx
theorem mem_take_last {ws : List (List UInt8)} {k : Nat} {t : List UInt8} (h : ws[k]? = some t) : t ∈ ws.take (k + 1) := by
  obtain ⟨hk, rfl⟩ := List.getElem?_eq_some_iff.1 h
  rw [List.take_succ_eq_append_getElem hk]
  exact List.mem_append_right _ (List.mem_singleton.2 rfl)

end Go.Proofs.Ytjmaccflnfaiiaa

namespace Go.Proofs.Ytjmaccflnfaiiaa
open Go.RowKit
set_option maxHeartbeats 1000000 in
theorem few_any (a : Option Addr) (len cap : Nat) (ws : List (List UInt8)) (m n : Nat) (w : World) (hlen : len ≤ 9223372036854775807) (hm : m ≤ 1000000) (hn : n ≤ 1000000) (hr : IsStrs w a len ws) (ht : ∀ t ∈ ws, t.length ≤ 9223372036854775807) :
    Calls Try.prog 6 #[.slice a len cap, .int .i64 (m : Int), .int .i64 (n : Int)] w fun e w' => e = .returned (.bool (fewB ws m n)) ∧ w' = w := by
  have hwl := hr.1
  by_cases hbig : m < len
  · have HE : Hid (fewB ws m n = false) := Lib.hid (few_no (fun h => by omega))
    clear hr ht hwl
    go_enter Try.func6, Try.ntmps6
    go_wp2
    go_ret
    exact ⟨by rw [HE.out]; rfl, rfl⟩
  · have HT := Lib.hid ht
    clear ht
    go_enter Try.func6, Try.ntmps6
    go_wp2
    go_loop [7] (fun i => ∃ k : Nat, k ≤ len ∧ i = .int .i64 k ∧ Hid (∀ t ∈ ws.take k, t.length ≤ n)) (fun i => len - (RowKit.intOf i).toNat)
    case atStart => exact ⟨0, Nat.zero_le _, rfl, Lib.hid (by simp)⟩
    case round =>
      obtain ⟨k, hk, rfl, HK⟩ := hrel
      by_cases hlt : k < len
      · obtain ⟨b, off, rfl, t, hf, hc⟩ := str_at hr (Below.refl _ _) k hlt
        have htl := HT.out t (List.mem_of_getElem? hf)
        have HS := Lib.hid (bsize t)
        by_cases hq : n < t.length
        · have HE : Hid (fewB ws m n = false) := Lib.hid (few_no (fun h => by have := h.2 t (List.mem_of_getElem? hf); omega))
          clear hf HK hr
          go_wp2
          go_ret
          exact ⟨by rw [HE.out]; rfl, rfl⟩
        · have HN : Hid (∀ t ∈ ws.take (k + 1), t.length ≤ n) := Lib.hid (fun x hx => by
            rcases mem_take_snoc hf hx with h | rfl
            · exact HK.out x h
            · omega)
          clear hf HK hr
          go_wp2
          exact ⟨⟨k + 1, by omega, by go_num, HN⟩, by simp [RowKit.intOf]; omega⟩
      · obtain rfl : k = len := by omega
        have HE : Hid (fewB ws m n = true) := Lib.hid ((few_iff ws m n).2 ⟨by omega, by have := HK.out; rwa [List.take_of_length_le (by omega)] at this⟩)
        clear HK hr
        go_wp2
        go_ret
        exact ⟨by rw [HE.out]; rfl, rfl⟩

theorem few_not (a : Option Addr) (len cap : Nat) (ws : List (List UInt8)) (w : World) (hlen : len ≤ 9223372036854775807) (hr : IsStrs w a len ws) (ht : ∀ t ∈ ws, t.length ≤ 9223372036854775807) (hq : fewB ws 20 50 = false) :
    Calls Try.prog 6 #[.slice a len cap, .int .i64 20, .int .i64 50] w fun e w' => e = .returned (.bool false) ∧ w' = w := by
  have := few_any a len cap ws 20 50 w hlen (by omega) (by omega) hr ht
  rw [hq] at this
  exact this
theorem few_yes (a : Option Addr) (len cap : Nat) (ws : List (List UInt8)) (w : World) (hlen : len ≤ 9223372036854775807) (hr : IsStrs w a len ws) (ht : ∀ t ∈ ws, t.length ≤ 9223372036854775807) (hq : fewB ws 20 50 = true) :
    Calls Try.prog 6 #[.slice a len cap, .int .i64 20, .int .i64 50] w fun e w' => e = .returned (.bool true) ∧ w' = w := by
  have := few_any a len cap ws 20 50 w hlen (by omega) (by omega) hr ht
  rw [hq] at this
  exact this

end Go.Proofs.Ytjmaccflnfaiiaa

namespace Go.Proofs.Ytjmaccflnfaiiaa

/-- A mask leaves a number that is none greater. -/
theorem mask_at (x : Int) (m : Nat) (hm : m ≤ 1000000000) : ∃ c : Nat, c ≤ m ∧ bits .and .i64 x (m : Int) = (c : Int) := by
  have e : (BitVec.ofInt 64 x &&& BitVec.ofInt 64 (m : Int)).toNat ≤ m := by
    rw [BitVec.toNat_and]
    refine Nat.le_trans Nat.and_le_right ?_
    rw [BitVec.toNat_ofInt]
    omega
  refine ⟨_, e, ?_⟩
  show IntKind.i64.wrap ((BitVec.ofInt 64 x &&& BitVec.ofInt 64 (m : Int)).toNat : Int) = _
  generalize (BitVec.ofInt 64 x &&& BitVec.ofInt 64 (m : Int)).toNat = c at e
  rw [IntKind.wrap_i64]; omega
end Go.Proofs.Ytjmaccflnfaiiaa
