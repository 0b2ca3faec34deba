/-
  The law RingKeeps, walked.
-/
import Derived.Test.YtbdpdfdcenidkaaRgA
import Derived.Test.YtbdpdfdcenidkaaLon
set_option linter.unusedSimpArgs false
set_option linter.unusedVariables false
namespace Go.Proofs.Ytbdpdfdcenidkaa
open Go.RowKit

theorem flat_le {m : Nat} : ∀ (ws : List (List UInt8)), (∀ t ∈ ws, t.length ≤ m) → ws.flatten.length ≤ ws.length * m
  | [], _ => by simp
  | t :: r, h => by
    have h1 := h t (by simp)
    have h2 := flat_le r (fun x hx => h x (by simp [hx]))
    rw [List.flatten_cons, List.length_append, List.length_cons, Nat.add_mul, Nat.one_mul]
    omega

set_option maxHeartbeats 1000000 in
theorem keeps_long (size : Int) (a : Option Addr) (len cap : Nat) (d n : Int) (t : ByteArray) (w : World) (h : 30 < len) (hm : len ≤ 9223372036854775807) :
    Calls Try.prog 3 #[.int .i64 size, .slice a len cap, .int .i64 d, .int .i64 n, .string t] w fun e w' => e = .returned (.bool true) ∧ Below w.heap.size w w' := by
  go_enter Try.func3, Try.ntmps3
  go_wp2_with fail
  refine (rgawake_any _).mono ?_
  rintro e w' ⟨rfl, hb⟩
  go_wp2
  go_ret
  exact ⟨rfl, hb⟩

set_option maxHeartbeats 1000000 in
theorem keeps_wide (size : Int) (a : Option Addr) (len cap : Nat) (ws : List (List UInt8)) (d n : Int) (t : ByteArray) (w : World) (h : len ≤ 30) (hr : IsStrs w a len ws) (hw : 100 < lonL ws ∨ 100 < t.size) (hm : lonL ws ≤ 9223372036854775807) (hm2 : t.size ≤ 9223372036854775807) :
    Calls Try.prog 3 #[.int .i64 size, .slice a len cap, .int .i64 d, .int .i64 n, .string t] w fun e w' => e = .returned (.bool true) ∧ Below w.heap.size w w' := by
  have HL := Lib.hid (rlongest_any a len cap ws w (by omega) hr)
  generalize lonL ws = m at HL hw hm
  by_cases h1 : 100 < m
  · clear hw hr
    go_enter Try.func3, Try.ntmps3
    go_wp2_with fail
    refine HL.out.mono ?_
    rintro e w1 ⟨rfl, b1⟩
    have s1 := b1.size
    go_wp2_with fail
    refine (rgawake_any _).mono ?_
    rintro e w' ⟨rfl, hb⟩
    go_wp2
    go_ret
    exact ⟨rfl, b1.trans (hb.mono s1)⟩
  · have h2 : 100 < t.size := by omega
    clear hw hr
    go_enter Try.func3, Try.ntmps3
    go_wp2_with fail
    refine HL.out.mono ?_
    rintro e w1 ⟨rfl, b1⟩
    have s1 := b1.size
    go_wp2_with fail
    refine (rgawake_any _).mono ?_
    rintro e w' ⟨rfl, hb⟩
    go_wp2
    go_ret
    exact ⟨rfl, b1.trans (hb.mono s1)⟩

set_option maxHeartbeats 1000000 in
theorem keeps_bad (size : Int) (a : Option Addr) (len cap : Nat) (ws : List (List UInt8)) (d n : Int) (t : ByteArray) (w : World) (h : len ≤ 30) (hr : IsStrs w a len ws) (hw : lonL ws ≤ 100) (ht : t.size ≤ 100) (hs : size < 1 ∨ 65536 < size) :
    Calls Try.prog 3 #[.int .i64 size, .slice a len cap, .int .i64 d, .int .i64 n, .string t] w fun e w' => e = .returned (.bool true) ∧ Below w.heap.size w w' := by
  have HL := Lib.hid (rlongest_any a len cap ws w (by omega) hr)
  generalize lonL ws = m at HL hw
  clear hr
  have HN := Lib.hid (fun w => rgnew_bad size w hs)
  by_cases h1 : size < 1
  · clear hs
    go_enter Try.func3, Try.ntmps3
    go_wp2_with fail
    refine HL.out.mono ?_
    rintro e w1 ⟨rfl, b1⟩
    have s1 := b1.size
    go_wp2_with fail
    refine (HN.out w1).mono ?_
    rintro e w' ⟨rfl, rfl⟩
    go_wp2_with fail
    refine (rgawake_any _).mono ?_
    rintro e w' ⟨rfl, hb⟩
    go_wp2
    go_ret
    exact ⟨rfl, b1.trans (hb.mono s1)⟩
  · have h2 : 65536 < size := by omega
    clear hs
    go_enter Try.func3, Try.ntmps3
    go_wp2_with fail
    refine HL.out.mono ?_
    rintro e w1 ⟨rfl, b1⟩
    have s1 := b1.size
    go_wp2_with fail
    refine (HN.out w1).mono ?_
    rintro e w' ⟨rfl, rfl⟩
    go_wp2_with fail
    refine (rgawake_any _).mono ?_
    rintro e w' ⟨rfl, hb⟩
    go_wp2
    go_ret
    exact ⟨rfl, b1.trans (hb.mono s1)⟩

theorem flat_snoc (ws : List (List UInt8)) (k : Nat) (t : List UInt8) (h : ws[k]? = some t) : (ws.take (k + 1)).flatten = (ws.take k).flatten ++ t := by
  rw [take_snocT ws k t h]; simp

set_option maxHeartbeats 4000000 in
theorem keeps_good (size : Nat) (a : Option Addr) (len cap : Nat) (ws : List (List UInt8)) (d n : Int) (t : List UInt8) (w : World) (h : len ≤ 30) (hr : IsStrs w a len ws) (hw : lonL ws ≤ 100) (ht : t.length ≤ 100) (hs1 : 1 ≤ size) (hs2 : size ≤ 65536) :
    Calls Try.prog 3 #[.int .i64 size, .slice a len cap, .int .i64 d, .int .i64 n, .string ⟨t.toArray⟩] w fun e w' => e = .returned (.bool true) ∧ Below w.heap.size w w' := by
  have HL := Lib.hid (rlongest_any a len cap ws w (by omega) hr)
  have HT := Lib.hid (bsize t)
  have h100 : ∀ x ∈ ws, x.length ≤ 100 := fun x hx => by have := lonL_ge hx; omega
  have hflat : ∀ k, (ws.take k).flatten.length ≤ 3000 := fun k => by
    have h1 := flat_le (ws.take k) (fun x hx => h100 x (List.mem_of_mem_take hx))
    have h2 : (ws.take k).length ≤ 30 := by rw [List.length_take, hr.1]; omega
    have h3 := Nat.mul_le_mul_right 100 h2
    omega
  have HF := Lib.hid hflat
  have H1 := Lib.hid h100
  have HR := Lib.hid hr
  generalize lonL ws = m at HL hw
  clear hflat h100 hr
  go_enter Try.func3, Try.ntmps3
  go_wp2_with fail
  refine HL.out.mono ?_
  rintro e w1 ⟨rfl, b1⟩
  have s1 := b1.size
  have HN := Lib.hid (rgnew_good size w1 (by omega) (by omega))
  go_wp2_with fail
  refine HN.out.mono ?_
  rintro e w2 ⟨rfl, ring2, s2, b2⟩
  have b02 := b1.trans (b2.mono s1)
  rw [Int.toNat_natCast] at ring2
  obtain ⟨A, HAA⟩ : ∃ A, Hid (w1.heap.size = A) := ⟨_, Lib.hid rfl⟩
  rw [HAA.out] at s1 s2 ring2 ⊢
  have R2 := Lib.hid ring2
  clear HN HL b1 b2 ring2
  go_wp2_with fail
  go_loopw [13, 14] (fun s i wr => ∃ k : Nat, k ≤ len ∧ i = .int .i64 k ∧ s = .string ⟨((ws.take k).flatten).toArray⟩ ∧ Hid (IsRing wr (A + 1) A size ((ws.take k).flatten)) ∧ Below w.heap.size w wr) (fun _ i _ => len - (RowKit.intOf i).toNat)
  case atStart => exact ⟨0, Nat.zero_le _, rfl, rfl, R2, b02⟩
  case round =>
    obtain ⟨k, hk, rfl, rfl, hring, hbe⟩ := hrel
    have hF1 := HF.out k
    have HK := Lib.hid (keeps_any hring.out d n t (by omega) (by omega))
    by_cases hlt : k < len
    · obtain ⟨b, off, rfl, x, hf, hc0⟩ := str_at HR.out (Below.refl _ _) k hlt
      have hbl := World.block_lt_of_cell? w _ hc0
      have hbl2 : b < A := Nat.lt_of_lt_of_le hbl s1
      have hc : wr.cell? ⟨b, off + k, none⟩ = some (.string ⟨x.toArray⟩) := by rw [hbe.cell (p := ⟨b, off + k, none⟩) hbl]; exact hc0
      clear hc0 hbl
      have hx1 := H1.out x (List.mem_of_getElem? hf)
      have hF2 := HF.out (k + 1)
      have hfl := flat_snoc ws k x hf
      rw [hfl] at hF2
      have HFL := Lib.hid hfl
      have HX := Lib.hid (bsize x)
      generalize (ws.take k).flatten = acc at *
      clear hf hfl HK
      have HW := Lib.hid (write_any (A + 1) A size acc x wr (by rw [List.length_append] at hF2; omega) hring.out)
      have HK2 : Hid (∀ w4, IsRing w4 (A + 1) A size (acc ++ x) → Calls Try.prog 11 #[.pointer (some ⟨A, 0, none⟩), .string (⟨acc.toArray⟩ ++ ⟨x.toArray⟩), .int .i64 size, .int .i64 d, .int .i64 n, .string ⟨t.toArray⟩] w4 fun e w' => e = .returned (.bool true) ∧ ∃ k, w' = w4.drewN k) := Lib.hid (fun w4 hr4 => by
        have h1 := keeps_any hr4 d n t (by omega) (by omega)
        rwa [show (⟨(acc ++ x).toArray⟩ : ByteArray) = ⟨acc.toArray⟩ ++ ⟨x.toArray⟩ by simp [ByteArray.mk_append_mk]] at h1)
      have hap : acc.length + x.length ≤ 3000 := by rw [List.length_append] at hF2; exact hF2
      by_cases h1 : x.length = 1
      · obtain ⟨c, rfl⟩ := List.length_eq_one_iff.1 h1
        have HP := Lib.hid (push_any (A + 1) A size acc c wr (by omega) hring.out)
        clear h1
        go_wp2_with fail
        refine HP.out.mono ?_
        rintro e w4 ⟨rfl, hr4, hb4⟩
        have HK3 := Lib.hid (HK2.out w4 hr4)
        have hb5 := hb4.below (by omega)
        have hc4 : w4.cell? ⟨b, off + k, none⟩ = some (.string ⟨#[c]⟩) := by rw [hb5.cell (p := ⟨b, off + k, none⟩) hbl2]; exact hc
        have hbe2 := hbe.trans (hb5.mono s1)
        have HR4 := Lib.hid (hr4.drewN)
        clear hb4 hb5 hc hr4 HK2 HW hbe hring
        go_wp2_with fail
        refine HK3.out.mono ?_
        rintro e w5 ⟨rfl, m1, rfl⟩
        go_wp2
        exact ⟨⟨k + 1, by omega, by go_num, by rw [HFL.out]; simp [ByteArray.mk_append_mk], Lib.hid (by rw [HFL.out]; exact HR4.out m1), below_drewN hbe2 m1⟩, by simp [RowKit.intOf]; omega⟩
      · go_wp2_with fail
        refine HW.out.mono ?_
        rintro e w4 ⟨rfl, hr4, hb4⟩
        have HK3 := Lib.hid (HK2.out w4 hr4)
        have hb5 := hb4.below (by omega)
        have hc4 : w4.cell? ⟨b, off + k, none⟩ = some (.string ⟨x.toArray⟩) := by rw [hb5.cell (p := ⟨b, off + k, none⟩) hbl2]; exact hc
        have hbe2 := hbe.trans (hb5.mono s1)
        have HR4 := Lib.hid (hr4.drewN)
        clear hb4 hb5 hc hr4 HK2 HW hbe hring
        go_wp2_with fail
        refine HK3.out.mono ?_
        rintro e w5 ⟨rfl, m1, rfl⟩
        go_wp2
        exact ⟨⟨k + 1, by omega, by go_num, by rw [HFL.out]; simp [ByteArray.mk_append_mk], Lib.hid (by rw [HFL.out]; exact HR4.out m1), below_drewN hbe2 m1⟩, by simp [RowKit.intOf]; omega⟩
    · obtain rfl : k = len := by omega
      clear HF hF1
      go_wp2_with fail
      refine HK.out.mono ?_
      rintro e w' ⟨rfl, m1, rfl⟩
      have b6 := below_drewN hbe m1
      have s6 := b6.size
      go_wp2_with fail
      refine (rgawake_any _).mono ?_
      rintro e w6 ⟨rfl, hb6⟩
      go_wp2
      go_ret
      exact ⟨rfl, b6.trans (hb6.mono s6)⟩
end Go.Proofs.Ytbdpdfdcenidkaa
