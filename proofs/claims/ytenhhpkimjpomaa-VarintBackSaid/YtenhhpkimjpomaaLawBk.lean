/-
  The law VarintBack, walked: for every two numbers and every string it returns true, and writes nothing that was there.
-/
import Derived.Test.YtenhhpkimjpomaaVarAw
import Derived.Deep.RegionWith
import Derived.Deep.RegionHeld3
import Derived.BigGuard
import Derived.BigQuiet
import Derived.Deep.QuietTactic
import Derived.Lib.Strings
set_option linter.unusedSimpArgs false
set_option linter.unusedVariables false
namespace Go.Proofs.Ytenhhpkimjpomaa
open Go.RowKit

theorem back_long (n m : Int) (s : ByteArray) (w : World) (h : 1000 < s.size) (hm : s.size ≤ maxLen) :
    Calls Try.prog 5 #[.int .i64 n, .int .i64 m, .string s] w fun e w' => e = .returned (.bool true) ∧ Below w.heap.size w w' := by
  unfold maxLen at hm
  go_enter Try.func5, Try.ntmps5
  go_wp2_with fail
  refine (awake_any _).mono ?_
  rintro e w' ⟨rfl, hb⟩
  go_wp2
  go_ret
  exact ⟨rfl, hb⟩

/-- What is taken behind a number that was put. -/
theorem take_behind (n : Int) (l : List UInt8) (w : World) (h0 : 0 ≤ n) (h1 : n ≤ 9223372036854775807) (hl : l.length ≤ 1000) :
    Calls Try.prog 11 #[.string (⟨(vput n).toArray⟩ ++ ⟨l.toArray⟩)] w (RetT n ((vput n).length : Int) 0 w) := by
  have hlen := vput_length n h1
  have h := take_any (vput n ++ l) w (by rw [List.length_append]; omega)
  obtain ⟨e1, e2, e3⟩ := take_put n h0 h1 l
  rw [e1, e2, e3] at h
  rw [ByteArray.mk_append_mk]
  exact h

theorem take_alone (n : Int) (l : List UInt8) (w : World) (h1 : n ≤ 9223372036854775807) (hl : l.length ≤ 1000) :
    Calls Try.prog 11 #[.string (⟨(vput n).toArray⟩ ++ ⟨l.toArray⟩)] w (RetT (tN (vput n ++ l)) (tS (vput n ++ l)) (tE (vput n ++ l)) w) := by
  have hlen := vput_length n h1
  have h := take_any (vput n ++ l) w (by rw [List.length_append]; omega)
  rw [ByteArray.mk_append_mk]
  exact h

/-- Bytes that are taken: the number, and how many they are. -/
theorem take_good (l : List UInt8) (hE : tE l = 0) (hl : l.length ≤ 1000) : ∃ (y : Int) (j : Nat), 1 ≤ j ∧ j ≤ l.length ∧ 0 ≤ y ∧ y ≤ 9223372036854775807 ∧ Hid (vput y = l.take j) ∧
    Hid (∀ W, Calls Try.prog 11 #[.string ⟨l.toArray⟩] W (RetT y (j : Int) 0 W)) := by
  obtain ⟨j1, j2, hput⟩ := put_take l hE
  obtain ⟨y0, y1⟩ := tN_bounds l
  refine ⟨tN l, (tS l).toNat, by omega, by omega, y0, y1, Lib.hid hput, Lib.hid (fun W => ?_)⟩
  have h := take_any l W (by omega)
  rw [hE] at h
  rw [Int.toNat_of_nonneg (by omega)]
  exact h

theorem take_eq (l : List UInt8) (y : Int) (j : Nat) (h : vput y = l.take j) : (vput y == ((⟨l.toArray⟩ : ByteArray).extract 0 j).toList) = true := by
  rw [Lib.extract_toList, h]
  simp

set_option maxHeartbeats 2000000 in
theorem back_pg (n m : Int) (l : List UInt8) (w : World) (n1 : -9223372036854775808 ≤ n) (h0 : 0 ≤ n) (h1 : n ≤ 9223372036854775807) (m1 : -9223372036854775808 ≤ m) (m2 : m ≤ 9223372036854775807) (hl : l.length ≤ 1000)
    (hE : tE l = 0) :
    Calls Try.prog 5 #[.int .i64 n, .int .i64 m, .string ⟨l.toArray⟩] w fun e w' => e = .returned (.bool true) ∧ Below w.heap.size w w' := by
  have hlen := vput_length n h1
  obtain ⟨y, j, j1, j2, y0, y1, HP, HTw⟩ := take_good l hE hl
  clear hE
  have HN := Lib.hid (take_eq l y j HP.out)
  go_enter Try.func5, Try.ntmps5
  go_wp2_with fail
  refine (put_any n _ (by omega) h1).mono ?_
  rintro e w1 ⟨rfl, hb1⟩
  go_wp2_with fail
  refine (take_behind n l _ h0 h1 hl).mono ?_
  rintro e w' ⟨rfl, rfl⟩
  go_wp2_with fail
  refine (size_any n _ h1).mono ?_
  rintro e w' ⟨rfl, rfl⟩
  go_wp2_with fail
  refine (HTw.out _).mono ?_
  rintro e w' ⟨rfl, rfl⟩
  go_wp2_with fail
  have hd1 : decide ((j : Int) < 1) = false := by simp; omega
  have hd2 : decide (l.length < j) = false := by simp; omega
  have hd3 : decide ((l.length : Int) < (j : Int)) = false := by simp; omega
  have hd4 : (j : Int) ≤ (l.length : Int) := by omega
  go_region_held3 (fun _ => True) (trivial) (first | (go_at_call 8; refine (put_any y _ (by omega) y1).mono ?_; rintro e w2 ⟨rfl, hb2⟩))
  have hn : (!(vput y == ((⟨l.toArray⟩ : ByteArray).extract 0 j).toList)) = false := by rw [HN.out]; rfl
  rw [hn]
  clear hn
  have hb12 := hb1.drew.trans (hb2.mono (by simpa using hb1.size))
  clear hd1 hd2 hd3
  by_cases hnm : n < m
  · go_wp2_with fail
    refine (awake_any _).mono ?_
    rintro e w3 ⟨rfl, hb3⟩
    go_wp2
    go_ret
    exact ⟨rfl, hb12.trans (hb3.mono hb12.size)⟩
  · have hmono := vlen_mono n m (by omega)
    go_wp2_with fail
    refine (size_any n _ h1).mono ?_
    rintro e w' ⟨rfl, rfl⟩
    go_wp2_with fail
    refine (size_any m _ m2).mono ?_
    rintro e w' ⟨rfl, rfl⟩
    go_wp2_with fail
    refine (awake_any _).mono ?_
    rintro e w3 ⟨rfl, hb3⟩
    go_wp2
    go_ret
    exact ⟨rfl, hb12.trans (hb3.mono hb12.size)⟩

set_option maxHeartbeats 2000000 in
theorem back_pb (n m : Int) (l : List UInt8) (w : World) (n1 : -9223372036854775808 ≤ n) (h0 : 0 ≤ n) (h1 : n ≤ 9223372036854775807) (m1 : -9223372036854775808 ≤ m) (m2 : m ≤ 9223372036854775807) (hl : l.length ≤ 1000)
    (hE : ¬ tE l = 0) :
    Calls Try.prog 5 #[.int .i64 n, .int .i64 m, .string ⟨l.toArray⟩] w fun e w' => e = .returned (.bool true) ∧ Below w.heap.size w w' := by
  have hlen := vput_length n h1
  have HTw : Hid (∀ W, Calls Try.prog 11 #[.string ⟨l.toArray⟩] W (RetT (tN l) (tS l) (tE l) W)) := Lib.hid (fun W => take_any l W (by omega))
  have hf : (tE l == 0) = false := by simpa using hE
  generalize tE l = f at *
  generalize tN l = y at *
  generalize tS l = j at *
  clear hE
  go_enter Try.func5, Try.ntmps5
  go_wp2_with fail
  refine (put_any n _ (by omega) h1).mono ?_
  rintro e w1 ⟨rfl, hb1⟩
  go_wp2_with fail
  refine (take_behind n l _ h0 h1 hl).mono ?_
  rintro e w' ⟨rfl, rfl⟩
  go_wp2_with fail
  refine (size_any n _ h1).mono ?_
  rintro e w' ⟨rfl, rfl⟩
  go_wp2_with fail
  refine (HTw.out _).mono ?_
  rintro e w' ⟨rfl, rfl⟩
  go_wp2_with fail
  go_quiet (fail)
  have hb12 : Below w.heap.size w (w1.drewN nq) := below_drewN hb1 _
  by_cases hnm : n < m
  · go_wp2_with fail
    refine (awake_any _).mono ?_
    rintro e w3 ⟨rfl, hb3⟩
    go_wp2
    go_ret
    exact ⟨rfl, hb12.trans (hb3.mono hb12.size)⟩
  · have hmono := vlen_mono n m (by omega)
    go_wp2_with fail
    refine (size_any n _ h1).mono ?_
    rintro e w' ⟨rfl, rfl⟩
    go_wp2_with fail
    refine (size_any m _ m2).mono ?_
    rintro e w' ⟨rfl, rfl⟩
    go_wp2_with fail
    refine (awake_any _).mono ?_
    rintro e w3 ⟨rfl, hb3⟩
    go_wp2
    go_ret
    exact ⟨rfl, hb12.trans (hb3.mono hb12.size)⟩

set_option maxHeartbeats 2000000 in
theorem back_ng (n m : Int) (l : List UInt8) (w : World) (n1 : -9223372036854775808 ≤ n) (h0 : n < 0) (h1 : n ≤ 9223372036854775807) (m1 : -9223372036854775808 ≤ m) (m2 : m ≤ 9223372036854775807) (hl : l.length ≤ 1000)
    (hE : tE l = 0) :
    Calls Try.prog 5 #[.int .i64 n, .int .i64 m, .string ⟨l.toArray⟩] w fun e w' => e = .returned (.bool true) ∧ Below w.heap.size w w' := by
  have hlen := vput_length n h1
  obtain ⟨y, j, j1, j2, y0, y1, HP, HTw⟩ := take_good l hE hl
  clear hE
  have HN := Lib.hid (take_eq l y j HP.out)
  obtain ⟨x1, x2, x3, HA⟩ : ∃ x1 x2 x3 : Int, Hid (∀ W, Calls Try.prog 11 #[.string (⟨(vput n).toArray⟩ ++ ⟨l.toArray⟩)] W (RetT x1 x2 x3 W)) :=
    ⟨tN (vput n ++ l), tS (vput n ++ l), tE (vput n ++ l), Lib.hid (fun W => take_alone n l W h1 hl)⟩
  go_enter Try.func5, Try.ntmps5
  go_wp2_with fail
  refine (put_any n _ (by omega) h1).mono ?_
  rintro e w1 ⟨rfl, hb1⟩
  go_wp2_with fail
  refine (HA.out _).mono ?_
  rintro e w' ⟨rfl, rfl⟩
  go_wp2_with fail
  refine (HTw.out _).mono ?_
  rintro e w' ⟨rfl, rfl⟩
  go_wp2_with fail
  have hd1 : decide ((j : Int) < 1) = false := by simp; omega
  have hd2 : decide (l.length < j) = false := by simp; omega
  have hd3 : decide ((l.length : Int) < (j : Int)) = false := by simp; omega
  have hd4 : (j : Int) ≤ (l.length : Int) := by omega
  go_region_held3 (fun _ => True) (trivial) (first | (go_at_call 8; refine (put_any y _ (by omega) y1).mono ?_; rintro e w2 ⟨rfl, hb2⟩))
  have hn : (!(vput y == ((⟨l.toArray⟩ : ByteArray).extract 0 j).toList)) = false := by rw [HN.out]; rfl
  rw [hn]
  clear hn
  have hb12 := hb1.drew.trans (hb2.mono (by simpa using hb1.size))
  clear hd1 hd2 hd3
  by_cases hnm : n < m
  · go_wp2_with fail
    refine (awake_any _).mono ?_
    rintro e w3 ⟨rfl, hb3⟩
    go_wp2
    go_ret
    exact ⟨rfl, hb12.trans (hb3.mono hb12.size)⟩
  · have hmono := vlen_mono n m (by omega)
    go_wp2_with fail
    refine (size_any n _ h1).mono ?_
    rintro e w' ⟨rfl, rfl⟩
    go_wp2_with fail
    refine (size_any m _ m2).mono ?_
    rintro e w' ⟨rfl, rfl⟩
    go_wp2_with fail
    refine (awake_any _).mono ?_
    rintro e w3 ⟨rfl, hb3⟩
    go_wp2
    go_ret
    exact ⟨rfl, hb12.trans (hb3.mono hb12.size)⟩

set_option maxHeartbeats 2000000 in
theorem back_nb (n m : Int) (l : List UInt8) (w : World) (n1 : -9223372036854775808 ≤ n) (h0 : n < 0) (h1 : n ≤ 9223372036854775807) (m1 : -9223372036854775808 ≤ m) (m2 : m ≤ 9223372036854775807) (hl : l.length ≤ 1000)
    (hE : ¬ tE l = 0) :
    Calls Try.prog 5 #[.int .i64 n, .int .i64 m, .string ⟨l.toArray⟩] w fun e w' => e = .returned (.bool true) ∧ Below w.heap.size w w' := by
  have hlen := vput_length n h1
  have HTw : Hid (∀ W, Calls Try.prog 11 #[.string ⟨l.toArray⟩] W (RetT (tN l) (tS l) (tE l) W)) := Lib.hid (fun W => take_any l W (by omega))
  have hf : (tE l == 0) = false := by simpa using hE
  generalize tE l = f at *
  generalize tN l = y at *
  generalize tS l = j at *
  clear hE
  obtain ⟨x1, x2, x3, HA⟩ : ∃ x1 x2 x3 : Int, Hid (∀ W, Calls Try.prog 11 #[.string (⟨(vput n).toArray⟩ ++ ⟨l.toArray⟩)] W (RetT x1 x2 x3 W)) :=
    ⟨tN (vput n ++ l), tS (vput n ++ l), tE (vput n ++ l), Lib.hid (fun W => take_alone n l W h1 hl)⟩
  go_enter Try.func5, Try.ntmps5
  go_wp2_with fail
  refine (put_any n _ (by omega) h1).mono ?_
  rintro e w1 ⟨rfl, hb1⟩
  go_wp2_with fail
  refine (HA.out _).mono ?_
  rintro e w' ⟨rfl, rfl⟩
  go_wp2_with fail
  refine (HTw.out _).mono ?_
  rintro e w' ⟨rfl, rfl⟩
  go_wp2_with fail
  go_quiet (fail)
  have hb12 : Below w.heap.size w (w1.drewN nq) := below_drewN hb1 _
  by_cases hnm : n < m
  · go_wp2_with fail
    refine (awake_any _).mono ?_
    rintro e w3 ⟨rfl, hb3⟩
    go_wp2
    go_ret
    exact ⟨rfl, hb12.trans (hb3.mono hb12.size)⟩
  · have hmono := vlen_mono n m (by omega)
    go_wp2_with fail
    refine (size_any n _ h1).mono ?_
    rintro e w' ⟨rfl, rfl⟩
    go_wp2_with fail
    refine (size_any m _ m2).mono ?_
    rintro e w' ⟨rfl, rfl⟩
    go_wp2_with fail
    refine (awake_any _).mono ?_
    rintro e w3 ⟨rfl, hb3⟩
    go_wp2
    go_ret
    exact ⟨rfl, hb12.trans (hb3.mono hb12.size)⟩

theorem back_short (n m : Int) (l : List UInt8) (w : World) (n1 : -9223372036854775808 ≤ n) (h1 : n ≤ 9223372036854775807) (m1 : -9223372036854775808 ≤ m) (m2 : m ≤ 9223372036854775807) (hl : l.length ≤ 1000) :
    Calls Try.prog 5 #[.int .i64 n, .int .i64 m, .string ⟨l.toArray⟩] w fun e w' => e = .returned (.bool true) ∧ Below w.heap.size w w' := by
  by_cases h0 : 0 ≤ n
  · by_cases hE : tE l = 0
    · exact back_pg n m l w n1 h0 h1 m1 m2 hl hE
    · exact back_pb n m l w n1 h0 h1 m1 m2 hl hE
  · by_cases hE : tE l = 0
    · exact back_ng n m l w n1 (by omega) h1 m1 m2 hl hE
    · exact back_nb n m l w n1 (by omega) h1 m1 m2 hl hE

end Go.Proofs.Ytenhhpkimjpomaa
