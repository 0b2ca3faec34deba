/-
  The law FrameBack, walked: for every slice of frames, every string and every number it returns true, and writes nothing that was there.
-/
import Derived.Test.YtgkhfdifgeboaaaFrSm
import Derived.Test.YtgkhfdifgeboaaaFrLw
import Derived.Test.YtgkhfdifgeboaaaFrMn
import Derived.Test.YtgkhfdifgeboaaaFrS
set_option linter.unusedSimpArgs false
set_option linter.unusedVariables false
namespace Go.Proofs.Ytgkhfdifgeboaaa
open Go.RowKit

/-- Split's answer, by its parts. -/
def RetQ (fs : List Fr) (n x : Int) (w : World) (e : Ending) (w' : World) : Prop := ∃ (a : Option Addr) (cap : Nat), e = .returned (.tuple #[.slice a fs.length cap, .int .i64 n, .int .i64 x]) ∧ IsFrames w' a fs.length fs ∧ Below w.heap.size w w'

/-- A mask leaves a number that is none greater. -/
theorem mask_le (x : Int) : ∃ c : Nat, c ≤ 16383 ∧ bits .and .i64 x 16383 = (c : Int) := by
  have e : (BitVec.ofInt 64 x &&& BitVec.ofInt 64 16383).toNat ≤ 16383 := by
    rw [BitVec.toNat_and]
    exact Nat.le_trans Nat.and_le_right (by decide)
  refine ⟨_, e, ?_⟩
  show IntKind.i64.wrap ((BitVec.ofInt 64 x &&& BitVec.ofInt 64 16383).toNat : Int) = _
  generalize (BitVec.ofInt 64 x &&& BitVec.ofInt 64 16383).toNat = c at e
  rw [IntKind.wrap_i64]; omega

theorem frs_mem : ∀ (l : List Fr) (f : Fr), f ∈ l → f.2.size ≤ (frs l).length
  | g :: r, f, h => by
    simp only [frs, frB, List.length_append, List.length_cons]
    rcases List.mem_cons.1 h with rfl | h
    · have := Lib.size_eq f.2; omega
    · have := frs_mem r f h; omega

/-- What is split of any bytes, and joined again. -/
theorem split_join (l : List UInt8) (h : l.length ≤ 2000) (he : (spl l).2.2 = 0) :
    ∀ a len cap w, len = (spl l).1.length → IsFrames w a len (spl l).1 → Calls Try.prog 9 #[.slice a len cap] w fun e w' => e = .returned (.tuple #[.string ⟨l.toArray⟩, .int .i64 0]) ∧ Below w.heap.size w w' := by
  intro a len cap w hl hr
  obtain ⟨b1, b2⟩ := spl_back l.length l (Nat.le_refl _) he
  have hf := spl_few l
  have := frjoin_good a len cap (spl l).1 w (by omega) hr (fun f hf => by have := frs_mem _ f hf; rw [b2] at this; omega) b1 (by rw [b2]; omega)
  rw [b2] at this
  exact this

theorem cut_any (fs : List Fr) (c : Nat) (h : joinE fs = 0) : 0 ≤ (spl ((frs fs).take c)).2.1 ∧ (spl ((frs fs).take c)).2.1 ≤ c ∧ ((spl ((frs fs).take c)).2.2 = 0 ∨ (spl ((frs fs).take c)).2.2 = 4) := by
  obtain ⟨_, f1, f2, _, _⟩ := spl_form _ ((frs fs).take c) (Nat.le_refl _)
  have hl : ((frs fs).take c).length ≤ c := List.length_take_le _ _
  refine ⟨f1, by omega, ?_⟩
  rcases spl_cut fs c h with q | q
  · exact .inl q
  · exact .inr q.1

/-- The law, of frames that are many, or one of them long. -/
theorem fback_not (a : Option Addr) (len cap : Nat) (s : ByteArray) (cut : Int) (w : World) (HF : Calls Try.prog 6 #[.slice a len cap] w fun e w' => e = .returned (.bool false) ∧ w = w') :
    Calls Try.prog 5 #[.slice a len cap, .string s, .int .i64 cut] w fun e w' => e = .returned (.bool true) ∧ Below w.heap.size w w' := by
  have H := Lib.hid HF
  clear HF
  go_enter Try.func5, Try.ntmps5
  go_wp2_with fail
  refine H.out.mono ?_
  rintro e w' ⟨rfl, rfl⟩
  go_wp2_with fail
  refine (awake_any _).mono ?_
  rintro e w' ⟨rfl, hb⟩
  go_wp2
  go_ret
  exact ⟨rfl, hb⟩

/-- The law, of a string that is long. -/
theorem fback_long (a : Option Addr) (len cap : Nat) (s : ByteArray) (cut : Int) (w : World) (hs : 2000 < s.size) (hm : s.size ≤ 9223372036854775807) (HF : Calls Try.prog 6 #[.slice a len cap] w fun e w' => e = .returned (.bool true) ∧ w = w') :
    Calls Try.prog 5 #[.slice a len cap, .string s, .int .i64 cut] w fun e w' => e = .returned (.bool true) ∧ Below w.heap.size w w' := by
  have H := Lib.hid HF
  clear HF
  go_enter Try.func5, Try.ntmps5
  go_wp2_with fail
  refine H.out.mono ?_
  rintro e w' ⟨rfl, rfl⟩
  go_wp2_with fail
  refine (awake_any _).mono ?_
  rintro e w' ⟨rfl, hb⟩
  go_wp2
  go_ret
  exact ⟨rfl, hb⟩

set_option maxHeartbeats 2000000 in
theorem fback_bad_err (a : Option Addr) (len cap : Nat) (fs : List Fr) (l : List UInt8) (cut : Int) (w : World) (hr : IsFrames w a len fs) (h : len ≤ 20) (hl : l.length ≤ 2000)
    (HF : Hid (∀ w, IsFrames w a len fs → Calls Try.prog 6 #[.slice a len cap] w fun e w' => e = .returned (.bool true) ∧ w = w'))
    (E : Int) (hE : (E == 0) = false)
    (HJ : Hid (∀ a len cap w, len ≤ 20 → IsFrames w a len fs → Calls Try.prog 9 #[.slice a len cap] w fun e w' => e = .returned (.tuple #[.string ⟨#[]⟩, .int .i64 E]) ∧ Below w.heap.size w w'))
    (n2 x2 : Int) (hx2 : (x2 == 0) = false) (HS2 : Hid (∀ w, Calls Try.prog 15 #[.string ⟨l.toArray⟩] w (RetQ [] n2 x2 w))) :
    Calls Try.prog 5 #[.slice a len cap, .string ⟨l.toArray⟩, .int .i64 cut] w fun e w' => e = .returned (.bool true) ∧ Below w.heap.size w w' := by
  have hfl := hr.1
  go_enter Try.func5, Try.ntmps5
  go_wp2_with fail
  refine (HF.out _ hr).mono ?_
  rintro e w' ⟨rfl, rfl⟩
  go_wp2_with fail
  refine (mine_any a len cap fs _ (by omega) hr).mono ?_
  rintro e w1 ⟨a1, c1, rfl, hm1, hb1⟩
  rw [hfl] at hm1
  have hr1 := hr.below hb1
  have hs1 := hb1.size
  rw [hfl]
  go_wp2_with fail
  refine (HJ.out a1 len c1 _ h hm1).mono ?_
  rintro e w2 ⟨rfl, hb2⟩
  have hr2 := hr1.below hb2
  have hb02 := hb1.trans (hb2.mono hs1)
  have hs2 := hb02.size
  clear hm1 hr1 hb1 hb2
  go_wp2_with fail
  refine (HS2.out _).mono ?_
  rintro e w6 ⟨a6, c6, rfl, hf6, hb6⟩
  have hb06 := hb02.trans (hb6.mono hs2)
  have hs6 := hb06.size
  go_wp2_with fail
  refine (awake_any _).mono ?_
  rintro e w7 ⟨rfl, hb7⟩
  go_wp2
  go_ret
  exact ⟨rfl, hb06.trans (hb7.mono hs6)⟩

set_option maxHeartbeats 2000000 in
theorem fback_bad_ok (a : Option Addr) (len cap : Nat) (fs : List Fr) (l : List UInt8) (cut : Int) (w : World) (hr : IsFrames w a len fs) (h : len ≤ 20) (hl : l.length ≤ 2000)
    (HF : Hid (∀ w, IsFrames w a len fs → Calls Try.prog 6 #[.slice a len cap] w fun e w' => e = .returned (.bool true) ∧ w = w'))
    (E : Int) (hE : (E == 0) = false)
    (HJ : Hid (∀ a len cap w, len ≤ 20 → IsFrames w a len fs → Calls Try.prog 9 #[.slice a len cap] w fun e w' => e = .returned (.tuple #[.string ⟨#[]⟩, .int .i64 E]) ∧ Below w.heap.size w w'))
    (gs : List Fr) (HS2 : Hid (∀ w, Calls Try.prog 15 #[.string ⟨l.toArray⟩] w (RetQ gs 0 0 w)))
    (hgs : gs.length ≤ 2000) (HJ2 : Hid (∀ a len cap w, len = gs.length → IsFrames w a len gs → Calls Try.prog 9 #[.slice a len cap] w fun e w' => e = .returned (.tuple #[.string ⟨l.toArray⟩, .int .i64 0]) ∧ Below w.heap.size w w')) :
    Calls Try.prog 5 #[.slice a len cap, .string ⟨l.toArray⟩, .int .i64 cut] w fun e w' => e = .returned (.bool true) ∧ Below w.heap.size w w' := by
  have hfl := hr.1
  go_enter Try.func5, Try.ntmps5
  go_wp2_with fail
  refine (HF.out _ hr).mono ?_
  rintro e w' ⟨rfl, rfl⟩
  go_wp2_with fail
  refine (mine_any a len cap fs _ (by omega) hr).mono ?_
  rintro e w1 ⟨a1, c1, rfl, hm1, hb1⟩
  rw [hfl] at hm1
  have hr1 := hr.below hb1
  have hs1 := hb1.size
  rw [hfl]
  go_wp2_with fail
  refine (HJ.out a1 len c1 _ h hm1).mono ?_
  rintro e w2 ⟨rfl, hb2⟩
  have hr2 := hr1.below hb2
  have hb02 := hb1.trans (hb2.mono hs1)
  have hs2 := hb02.size
  clear hm1 hr1 hb1 hb2
  go_wp2_with fail
  refine (HS2.out _).mono ?_
  rintro e w6 ⟨a6, c6, rfl, hf6, hb6⟩
  have hb06 := hb02.trans (hb6.mono hs2)
  have hs6 := hb06.size
  go_wp2_with fail
  refine (HJ2.out a6 gs.length c6 _ rfl hf6).mono ?_
  rintro e w7 ⟨rfl, hb7⟩
  have hb07 := hb06.trans (hb7.mono hs6)
  have hs7 := hb07.size
  go_wp2_with fail
  refine (awake_any _).mono ?_
  rintro e w8 ⟨rfl, hb8⟩
  go_wp2
  go_ret
  exact ⟨rfl, hb07.trans (hb8.mono hs7)⟩

set_option maxHeartbeats 2000000 in
theorem fback_nocut_err (a : Option Addr) (len cap : Nat) (fs : List Fr) (l : List UInt8) (cut : Int) (w : World) (hr : IsFrames w a len fs) (h : len ≤ 20) (hl : l.length ≤ 2000)
    (HF : Hid (∀ w, IsFrames w a len fs → Calls Try.prog 6 #[.slice a len cap] w fun e w' => e = .returned (.bool true) ∧ w = w'))
    (tb : List UInt8) (htb : tb.length ≤ 1000000)
    (HJ : Hid (∀ a len cap w, len ≤ 20 → IsFrames w a len fs → Calls Try.prog 9 #[.slice a len cap] w fun e w' => e = .returned (.tuple #[.string ⟨tb.toArray⟩, .int .i64 0]) ∧ Below w.heap.size w w'))
    (HS : Hid (∀ w, Calls Try.prog 15 #[.string ⟨tb.toArray⟩] w (RetQ fs 0 0 w)))
    (c : Nat) (hc : c ≤ 16383) (hcut : bits .and .i64 cut 16383 = (c : Int))
    (hlt : ¬ c < tb.length)
    (n2 x2 : Int) (hx2 : (x2 == 0) = false) (HS2 : Hid (∀ w, Calls Try.prog 15 #[.string ⟨l.toArray⟩] w (RetQ [] n2 x2 w))) :
    Calls Try.prog 5 #[.slice a len cap, .string ⟨l.toArray⟩, .int .i64 cut] w fun e w' => e = .returned (.bool true) ∧ Below w.heap.size w w' := by
  have hfl := hr.1
  go_enter Try.func5, Try.ntmps5
  go_wp2_with fail
  refine (HF.out _ hr).mono ?_
  rintro e w' ⟨rfl, rfl⟩
  go_wp2_with fail
  refine (mine_any a len cap fs _ (by omega) hr).mono ?_
  rintro e w1 ⟨a1, c1, rfl, hm1, hb1⟩
  rw [hfl] at hm1
  have hr1 := hr.below hb1
  have hs1 := hb1.size
  rw [hfl]
  go_wp2_with fail
  refine (HJ.out a1 len c1 _ h hm1).mono ?_
  rintro e w2 ⟨rfl, hb2⟩
  have hr2 := hr1.below hb2
  have hb02 := hb1.trans (hb2.mono hs1)
  have hs2 := hb02.size
  clear hm1 hr1 hb1 hb2
  go_wp2_with fail
  refine (HS.out _).mono ?_
  rintro e w3 ⟨a3, c3, rfl, hf3, hb3⟩
  rw [hfl] at hf3
  rw [hfl]
  have hr3 := hr2.below hb3
  have hb03 := hb02.trans (hb3.mono hs2)
  have hs3 := hb03.size
  go_wp2_with fail
  refine (same_any a3 a len c3 cap fs _ (by omega) hf3 hr3).mono ?_
  rintro e w4 ⟨rfl, hb4⟩
  have hb04 := hb03.trans (hb4.mono hs3)
  have hs4 := hb04.size
  clear hr2 hr3 hf3 hb3 hb4 hb02 hb03
  go_wp2_with fail
  refine (HS2.out _).mono ?_
  rintro e w6 ⟨a6, c6, rfl, hf6, hb6⟩
  have hb06 := hb04.trans (hb6.mono hs4)
  have hs6 := hb06.size
  go_wp2_with fail
  refine (awake_any _).mono ?_
  rintro e w7 ⟨rfl, hb7⟩
  go_wp2
  go_ret
  exact ⟨rfl, hb06.trans (hb7.mono hs6)⟩

set_option maxHeartbeats 2000000 in
theorem fback_nocut_ok (a : Option Addr) (len cap : Nat) (fs : List Fr) (l : List UInt8) (cut : Int) (w : World) (hr : IsFrames w a len fs) (h : len ≤ 20) (hl : l.length ≤ 2000)
    (HF : Hid (∀ w, IsFrames w a len fs → Calls Try.prog 6 #[.slice a len cap] w fun e w' => e = .returned (.bool true) ∧ w = w'))
    (tb : List UInt8) (htb : tb.length ≤ 1000000)
    (HJ : Hid (∀ a len cap w, len ≤ 20 → IsFrames w a len fs → Calls Try.prog 9 #[.slice a len cap] w fun e w' => e = .returned (.tuple #[.string ⟨tb.toArray⟩, .int .i64 0]) ∧ Below w.heap.size w w'))
    (HS : Hid (∀ w, Calls Try.prog 15 #[.string ⟨tb.toArray⟩] w (RetQ fs 0 0 w)))
    (c : Nat) (hc : c ≤ 16383) (hcut : bits .and .i64 cut 16383 = (c : Int))
    (hlt : ¬ c < tb.length)
    (gs : List Fr) (HS2 : Hid (∀ w, Calls Try.prog 15 #[.string ⟨l.toArray⟩] w (RetQ gs 0 0 w)))
    (hgs : gs.length ≤ 2000) (HJ2 : Hid (∀ a len cap w, len = gs.length → IsFrames w a len gs → Calls Try.prog 9 #[.slice a len cap] w fun e w' => e = .returned (.tuple #[.string ⟨l.toArray⟩, .int .i64 0]) ∧ Below w.heap.size w w')) :
    Calls Try.prog 5 #[.slice a len cap, .string ⟨l.toArray⟩, .int .i64 cut] w fun e w' => e = .returned (.bool true) ∧ Below w.heap.size w w' := by
  have hfl := hr.1
  go_enter Try.func5, Try.ntmps5
  go_wp2_with fail
  refine (HF.out _ hr).mono ?_
  rintro e w' ⟨rfl, rfl⟩
  go_wp2_with fail
  refine (mine_any a len cap fs _ (by omega) hr).mono ?_
  rintro e w1 ⟨a1, c1, rfl, hm1, hb1⟩
  rw [hfl] at hm1
  have hr1 := hr.below hb1
  have hs1 := hb1.size
  rw [hfl]
  go_wp2_with fail
  refine (HJ.out a1 len c1 _ h hm1).mono ?_
  rintro e w2 ⟨rfl, hb2⟩
  have hr2 := hr1.below hb2
  have hb02 := hb1.trans (hb2.mono hs1)
  have hs2 := hb02.size
  clear hm1 hr1 hb1 hb2
  go_wp2_with fail
  refine (HS.out _).mono ?_
  rintro e w3 ⟨a3, c3, rfl, hf3, hb3⟩
  rw [hfl] at hf3
  rw [hfl]
  have hr3 := hr2.below hb3
  have hb03 := hb02.trans (hb3.mono hs2)
  have hs3 := hb03.size
  go_wp2_with fail
  refine (same_any a3 a len c3 cap fs _ (by omega) hf3 hr3).mono ?_
  rintro e w4 ⟨rfl, hb4⟩
  have hb04 := hb03.trans (hb4.mono hs3)
  have hs4 := hb04.size
  clear hr2 hr3 hf3 hb3 hb4 hb02 hb03
  go_wp2_with fail
  refine (HS2.out _).mono ?_
  rintro e w6 ⟨a6, c6, rfl, hf6, hb6⟩
  have hb06 := hb04.trans (hb6.mono hs4)
  have hs6 := hb06.size
  go_wp2_with fail
  refine (HJ2.out a6 gs.length c6 _ rfl hf6).mono ?_
  rintro e w7 ⟨rfl, hb7⟩
  have hb07 := hb06.trans (hb7.mono hs6)
  have hs7 := hb07.size
  go_wp2_with fail
  refine (awake_any _).mono ?_
  rintro e w8 ⟨rfl, hb8⟩
  go_wp2
  go_ret
  exact ⟨rfl, hb07.trans (hb8.mono hs7)⟩

set_option maxHeartbeats 2000000 in
theorem fback_cut0_err (a : Option Addr) (len cap : Nat) (fs : List Fr) (l : List UInt8) (cut : Int) (w : World) (hr : IsFrames w a len fs) (h : len ≤ 20) (hl : l.length ≤ 2000)
    (HF : Hid (∀ w, IsFrames w a len fs → Calls Try.prog 6 #[.slice a len cap] w fun e w' => e = .returned (.bool true) ∧ w = w'))
    (tb : List UInt8) (htb : tb.length ≤ 1000000)
    (HJ : Hid (∀ a len cap w, len ≤ 20 → IsFrames w a len fs → Calls Try.prog 9 #[.slice a len cap] w fun e w' => e = .returned (.tuple #[.string ⟨tb.toArray⟩, .int .i64 0]) ∧ Below w.heap.size w w'))
    (HS : Hid (∀ w, Calls Try.prog 15 #[.string ⟨tb.toArray⟩] w (RetQ fs 0 0 w)))
    (c : Nat) (hc : c ≤ 16383) (hcut : bits .and .i64 cut 16383 = (c : Int))
    (hlt : c < tb.length) (cs : List Fr) (m : Int) (hm0 : 0 ≤ m) (hm : m ≤ c)
    (HC : Hid (∀ w, Calls Try.prog 15 #[.string ((⟨tb.toArray⟩ : ByteArray).extract 0 c)] w (RetQ cs m 0 w)))
    (n2 x2 : Int) (hx2 : (x2 == 0) = false) (HS2 : Hid (∀ w, Calls Try.prog 15 #[.string ⟨l.toArray⟩] w (RetQ [] n2 x2 w))) :
    Calls Try.prog 5 #[.slice a len cap, .string ⟨l.toArray⟩, .int .i64 cut] w fun e w' => e = .returned (.bool true) ∧ Below w.heap.size w w' := by
  have hfl := hr.1
  go_enter Try.func5, Try.ntmps5
  go_wp2_with fail
  refine (HF.out _ hr).mono ?_
  rintro e w' ⟨rfl, rfl⟩
  go_wp2_with fail
  refine (mine_any a len cap fs _ (by omega) hr).mono ?_
  rintro e w1 ⟨a1, c1, rfl, hm1, hb1⟩
  rw [hfl] at hm1
  have hr1 := hr.below hb1
  have hs1 := hb1.size
  rw [hfl]
  go_wp2_with fail
  refine (HJ.out a1 len c1 _ h hm1).mono ?_
  rintro e w2 ⟨rfl, hb2⟩
  have hr2 := hr1.below hb2
  have hb02 := hb1.trans (hb2.mono hs1)
  have hs2 := hb02.size
  clear hm1 hr1 hb1 hb2
  go_wp2_with fail
  refine (HS.out _).mono ?_
  rintro e w3 ⟨a3, c3, rfl, hf3, hb3⟩
  rw [hfl] at hf3
  rw [hfl]
  have hr3 := hr2.below hb3
  have hb03 := hb02.trans (hb3.mono hs2)
  have hs3 := hb03.size
  go_wp2_with fail
  refine (same_any a3 a len c3 cap fs _ (by omega) hf3 hr3).mono ?_
  rintro e w4 ⟨rfl, hb4⟩
  have hb04 := hb03.trans (hb4.mono hs3)
  have hs4 := hb04.size
  clear hr2 hr3 hf3 hb3 hb4 hb02 hb03
  go_wp2_with fail
  refine (HC.out _).mono ?_
  rintro e w5 ⟨a5, c5, rfl, _, hb5⟩
  have hb05 := hb04.trans (hb5.mono hs4)
  have hs5 := hb05.size
  clear hb5 hb04
  go_wp2_with fail
  refine (HS2.out _).mono ?_
  rintro e w6 ⟨a6, c6, rfl, hf6, hb6⟩
  have hb06 := hb05.trans (hb6.mono hs5)
  have hs6 := hb06.size
  go_wp2_with fail
  refine (awake_any _).mono ?_
  rintro e w7 ⟨rfl, hb7⟩
  go_wp2
  go_ret
  exact ⟨rfl, hb06.trans (hb7.mono hs6)⟩

set_option maxHeartbeats 2000000 in
theorem fback_cut0_ok (a : Option Addr) (len cap : Nat) (fs : List Fr) (l : List UInt8) (cut : Int) (w : World) (hr : IsFrames w a len fs) (h : len ≤ 20) (hl : l.length ≤ 2000)
    (HF : Hid (∀ w, IsFrames w a len fs → Calls Try.prog 6 #[.slice a len cap] w fun e w' => e = .returned (.bool true) ∧ w = w'))
    (tb : List UInt8) (htb : tb.length ≤ 1000000)
    (HJ : Hid (∀ a len cap w, len ≤ 20 → IsFrames w a len fs → Calls Try.prog 9 #[.slice a len cap] w fun e w' => e = .returned (.tuple #[.string ⟨tb.toArray⟩, .int .i64 0]) ∧ Below w.heap.size w w'))
    (HS : Hid (∀ w, Calls Try.prog 15 #[.string ⟨tb.toArray⟩] w (RetQ fs 0 0 w)))
    (c : Nat) (hc : c ≤ 16383) (hcut : bits .and .i64 cut 16383 = (c : Int))
    (hlt : c < tb.length) (cs : List Fr) (m : Int) (hm0 : 0 ≤ m) (hm : m ≤ c)
    (HC : Hid (∀ w, Calls Try.prog 15 #[.string ((⟨tb.toArray⟩ : ByteArray).extract 0 c)] w (RetQ cs m 0 w)))
    (gs : List Fr) (HS2 : Hid (∀ w, Calls Try.prog 15 #[.string ⟨l.toArray⟩] w (RetQ gs 0 0 w)))
    (hgs : gs.length ≤ 2000) (HJ2 : Hid (∀ a len cap w, len = gs.length → IsFrames w a len gs → Calls Try.prog 9 #[.slice a len cap] w fun e w' => e = .returned (.tuple #[.string ⟨l.toArray⟩, .int .i64 0]) ∧ Below w.heap.size w w')) :
    Calls Try.prog 5 #[.slice a len cap, .string ⟨l.toArray⟩, .int .i64 cut] w fun e w' => e = .returned (.bool true) ∧ Below w.heap.size w w' := by
  have hfl := hr.1
  go_enter Try.func5, Try.ntmps5
  go_wp2_with fail
  refine (HF.out _ hr).mono ?_
  rintro e w' ⟨rfl, rfl⟩
  go_wp2_with fail
  refine (mine_any a len cap fs _ (by omega) hr).mono ?_
  rintro e w1 ⟨a1, c1, rfl, hm1, hb1⟩
  rw [hfl] at hm1
  have hr1 := hr.below hb1
  have hs1 := hb1.size
  rw [hfl]
  go_wp2_with fail
  refine (HJ.out a1 len c1 _ h hm1).mono ?_
  rintro e w2 ⟨rfl, hb2⟩
  have hr2 := hr1.below hb2
  have hb02 := hb1.trans (hb2.mono hs1)
  have hs2 := hb02.size
  clear hm1 hr1 hb1 hb2
  go_wp2_with fail
  refine (HS.out _).mono ?_
  rintro e w3 ⟨a3, c3, rfl, hf3, hb3⟩
  rw [hfl] at hf3
  rw [hfl]
  have hr3 := hr2.below hb3
  have hb03 := hb02.trans (hb3.mono hs2)
  have hs3 := hb03.size
  go_wp2_with fail
  refine (same_any a3 a len c3 cap fs _ (by omega) hf3 hr3).mono ?_
  rintro e w4 ⟨rfl, hb4⟩
  have hb04 := hb03.trans (hb4.mono hs3)
  have hs4 := hb04.size
  clear hr2 hr3 hf3 hb3 hb4 hb02 hb03
  go_wp2_with fail
  refine (HC.out _).mono ?_
  rintro e w5 ⟨a5, c5, rfl, _, hb5⟩
  have hb05 := hb04.trans (hb5.mono hs4)
  have hs5 := hb05.size
  clear hb5 hb04
  go_wp2_with fail
  refine (HS2.out _).mono ?_
  rintro e w6 ⟨a6, c6, rfl, hf6, hb6⟩
  have hb06 := hb05.trans (hb6.mono hs5)
  have hs6 := hb06.size
  go_wp2_with fail
  refine (HJ2.out a6 gs.length c6 _ rfl hf6).mono ?_
  rintro e w7 ⟨rfl, hb7⟩
  have hb07 := hb06.trans (hb7.mono hs6)
  have hs7 := hb07.size
  go_wp2_with fail
  refine (awake_any _).mono ?_
  rintro e w8 ⟨rfl, hb8⟩
  go_wp2
  go_ret
  exact ⟨rfl, hb07.trans (hb8.mono hs7)⟩

set_option maxHeartbeats 2000000 in
theorem fback_cut4_err (a : Option Addr) (len cap : Nat) (fs : List Fr) (l : List UInt8) (cut : Int) (w : World) (hr : IsFrames w a len fs) (h : len ≤ 20) (hl : l.length ≤ 2000)
    (HF : Hid (∀ w, IsFrames w a len fs → Calls Try.prog 6 #[.slice a len cap] w fun e w' => e = .returned (.bool true) ∧ w = w'))
    (tb : List UInt8) (htb : tb.length ≤ 1000000)
    (HJ : Hid (∀ a len cap w, len ≤ 20 → IsFrames w a len fs → Calls Try.prog 9 #[.slice a len cap] w fun e w' => e = .returned (.tuple #[.string ⟨tb.toArray⟩, .int .i64 0]) ∧ Below w.heap.size w w'))
    (HS : Hid (∀ w, Calls Try.prog 15 #[.string ⟨tb.toArray⟩] w (RetQ fs 0 0 w)))
    (c : Nat) (hc : c ≤ 16383) (hcut : bits .and .i64 cut 16383 = (c : Int))
    (hlt : c < tb.length) (cs : List Fr) (m : Int) (hm0 : 0 ≤ m) (hm : m ≤ c)
    (HC : Hid (∀ w, Calls Try.prog 15 #[.string ((⟨tb.toArray⟩ : ByteArray).extract 0 c)] w (RetQ cs m 4 w)))
    (n2 x2 : Int) (hx2 : (x2 == 0) = false) (HS2 : Hid (∀ w, Calls Try.prog 15 #[.string ⟨l.toArray⟩] w (RetQ [] n2 x2 w))) :
    Calls Try.prog 5 #[.slice a len cap, .string ⟨l.toArray⟩, .int .i64 cut] w fun e w' => e = .returned (.bool true) ∧ Below w.heap.size w w' := by
  have hfl := hr.1
  go_enter Try.func5, Try.ntmps5
  go_wp2_with fail
  refine (HF.out _ hr).mono ?_
  rintro e w' ⟨rfl, rfl⟩
  go_wp2_with fail
  refine (mine_any a len cap fs _ (by omega) hr).mono ?_
  rintro e w1 ⟨a1, c1, rfl, hm1, hb1⟩
  rw [hfl] at hm1
  have hr1 := hr.below hb1
  have hs1 := hb1.size
  rw [hfl]
  go_wp2_with fail
  refine (HJ.out a1 len c1 _ h hm1).mono ?_
  rintro e w2 ⟨rfl, hb2⟩
  have hr2 := hr1.below hb2
  have hb02 := hb1.trans (hb2.mono hs1)
  have hs2 := hb02.size
  clear hm1 hr1 hb1 hb2
  go_wp2_with fail
  refine (HS.out _).mono ?_
  rintro e w3 ⟨a3, c3, rfl, hf3, hb3⟩
  rw [hfl] at hf3
  rw [hfl]
  have hr3 := hr2.below hb3
  have hb03 := hb02.trans (hb3.mono hs2)
  have hs3 := hb03.size
  go_wp2_with fail
  refine (same_any a3 a len c3 cap fs _ (by omega) hf3 hr3).mono ?_
  rintro e w4 ⟨rfl, hb4⟩
  have hb04 := hb03.trans (hb4.mono hs3)
  have hs4 := hb04.size
  clear hr2 hr3 hf3 hb3 hb4 hb02 hb03
  go_wp2_with fail
  refine (HC.out _).mono ?_
  rintro e w5 ⟨a5, c5, rfl, _, hb5⟩
  have hb05 := hb04.trans (hb5.mono hs4)
  have hs5 := hb05.size
  clear hb5 hb04
  go_wp2_with fail
  refine (HS2.out _).mono ?_
  rintro e w6 ⟨a6, c6, rfl, hf6, hb6⟩
  have hb06 := hb05.trans (hb6.mono hs5)
  have hs6 := hb06.size
  go_wp2_with fail
  refine (awake_any _).mono ?_
  rintro e w7 ⟨rfl, hb7⟩
  go_wp2
  go_ret
  exact ⟨rfl, hb06.trans (hb7.mono hs6)⟩

set_option maxHeartbeats 2000000 in
theorem fback_cut4_ok (a : Option Addr) (len cap : Nat) (fs : List Fr) (l : List UInt8) (cut : Int) (w : World) (hr : IsFrames w a len fs) (h : len ≤ 20) (hl : l.length ≤ 2000)
    (HF : Hid (∀ w, IsFrames w a len fs → Calls Try.prog 6 #[.slice a len cap] w fun e w' => e = .returned (.bool true) ∧ w = w'))
    (tb : List UInt8) (htb : tb.length ≤ 1000000)
    (HJ : Hid (∀ a len cap w, len ≤ 20 → IsFrames w a len fs → Calls Try.prog 9 #[.slice a len cap] w fun e w' => e = .returned (.tuple #[.string ⟨tb.toArray⟩, .int .i64 0]) ∧ Below w.heap.size w w'))
    (HS : Hid (∀ w, Calls Try.prog 15 #[.string ⟨tb.toArray⟩] w (RetQ fs 0 0 w)))
    (c : Nat) (hc : c ≤ 16383) (hcut : bits .and .i64 cut 16383 = (c : Int))
    (hlt : c < tb.length) (cs : List Fr) (m : Int) (hm0 : 0 ≤ m) (hm : m ≤ c)
    (HC : Hid (∀ w, Calls Try.prog 15 #[.string ((⟨tb.toArray⟩ : ByteArray).extract 0 c)] w (RetQ cs m 4 w)))
    (gs : List Fr) (HS2 : Hid (∀ w, Calls Try.prog 15 #[.string ⟨l.toArray⟩] w (RetQ gs 0 0 w)))
    (hgs : gs.length ≤ 2000) (HJ2 : Hid (∀ a len cap w, len = gs.length → IsFrames w a len gs → Calls Try.prog 9 #[.slice a len cap] w fun e w' => e = .returned (.tuple #[.string ⟨l.toArray⟩, .int .i64 0]) ∧ Below w.heap.size w w')) :
    Calls Try.prog 5 #[.slice a len cap, .string ⟨l.toArray⟩, .int .i64 cut] w fun e w' => e = .returned (.bool true) ∧ Below w.heap.size w w' := by
  have hfl := hr.1
  go_enter Try.func5, Try.ntmps5
  go_wp2_with fail
  refine (HF.out _ hr).mono ?_
  rintro e w' ⟨rfl, rfl⟩
  go_wp2_with fail
  refine (mine_any a len cap fs _ (by omega) hr).mono ?_
  rintro e w1 ⟨a1, c1, rfl, hm1, hb1⟩
  rw [hfl] at hm1
  have hr1 := hr.below hb1
  have hs1 := hb1.size
  rw [hfl]
  go_wp2_with fail
  refine (HJ.out a1 len c1 _ h hm1).mono ?_
  rintro e w2 ⟨rfl, hb2⟩
  have hr2 := hr1.below hb2
  have hb02 := hb1.trans (hb2.mono hs1)
  have hs2 := hb02.size
  clear hm1 hr1 hb1 hb2
  go_wp2_with fail
  refine (HS.out _).mono ?_
  rintro e w3 ⟨a3, c3, rfl, hf3, hb3⟩
  rw [hfl] at hf3
  rw [hfl]
  have hr3 := hr2.below hb3
  have hb03 := hb02.trans (hb3.mono hs2)
  have hs3 := hb03.size
  go_wp2_with fail
  refine (same_any a3 a len c3 cap fs _ (by omega) hf3 hr3).mono ?_
  rintro e w4 ⟨rfl, hb4⟩
  have hb04 := hb03.trans (hb4.mono hs3)
  have hs4 := hb04.size
  clear hr2 hr3 hf3 hb3 hb4 hb02 hb03
  go_wp2_with fail
  refine (HC.out _).mono ?_
  rintro e w5 ⟨a5, c5, rfl, _, hb5⟩
  have hb05 := hb04.trans (hb5.mono hs4)
  have hs5 := hb05.size
  clear hb5 hb04
  go_wp2_with fail
  refine (HS2.out _).mono ?_
  rintro e w6 ⟨a6, c6, rfl, hf6, hb6⟩
  have hb06 := hb05.trans (hb6.mono hs5)
  have hs6 := hb06.size
  go_wp2_with fail
  refine (HJ2.out a6 gs.length c6 _ rfl hf6).mono ?_
  rintro e w7 ⟨rfl, hb7⟩
  have hb07 := hb06.trans (hb7.mono hs6)
  have hs7 := hb07.size
  go_wp2_with fail
  refine (awake_any _).mono ?_
  rintro e w8 ⟨rfl, hb8⟩
  go_wp2
  go_ret
  exact ⟨rfl, hb07.trans (hb8.mono hs7)⟩

theorem fback_few (a : Option Addr) (len cap : Nat) (fs : List Fr) (l : List UInt8) (cut : Int) (w : World) (hr : IsFrames w a len fs) (h : len ≤ 20) (hs : ∀ f ∈ fs, f.2.size ≤ 500) (hl : l.length ≤ 2000) :
    Calls Try.prog 5 #[.slice a len cap, .string ⟨l.toArray⟩, .int .i64 cut] w fun e w' => e = .returned (.bool true) ∧ Below w.heap.size w w' := by
  have hfl := hr.1
  have H9 : ∀ f ∈ fs, f.2.size ≤ 9223372036854775807 := fun f hf => Nat.le_trans (hs f hf) (by decide)
  have HF : Hid (∀ w, IsFrames w a len fs → Calls Try.prog 6 #[.slice a len cap] w fun e w' => e = .returned (.bool true) ∧ w = w') := Lib.hid (fun w hr => few_yes a len cap fs w hr h hs)
  have hS2 := fun w => fsplit_any l w (by omega)
  by_cases hx : (spl l).2.2 = 0
  · have hn := spl_ok l hx
    have HS2 : Hid (∀ w, Calls Try.prog 15 #[.string ⟨l.toArray⟩] w (RetQ (spl l).1 0 0 w)) := Lib.hid (fun w => (hS2 w).mono (by rintro e w' ⟨a, c, he, hf, hb⟩; rw [hn, hx] at he; exact ⟨a, c, he, hf, hb⟩))
    have HJ2 := Lib.hid (split_join l hl hx)
    have hgs : (spl l).1.length ≤ 2000 := Nat.le_trans (spl_few l) hl
    by_cases he : joinE fs = 0
    · have hN : (frs fs).length ≤ 1000000 := by
        have := frs_length fs 500 hs (joinE_all _ he); omega
      have HJ : Hid (∀ a len cap w, len ≤ 20 → IsFrames w a len fs → Calls Try.prog 9 #[.slice a len cap] w fun e w' => e = .returned (.tuple #[.string ⟨(frs fs).toArray⟩, .int .i64 0]) ∧ Below w.heap.size w w') :=
        Lib.hid (fun a len cap w hl hr => frjoin_good a len cap fs w (by omega) hr H9 he (by omega))
      have hj := spl_join fs he
      have HS : Hid (∀ w, Calls Try.prog 15 #[.string ⟨(frs fs).toArray⟩] w (RetQ fs 0 0 w)) := Lib.hid (fun w => (fsplit_any (frs fs) w hN).mono (by rintro e w' ⟨a, c, he, hf, hb⟩; rw [hj] at he hf; exact ⟨a, c, he, hf, hb⟩))
      obtain ⟨c, hc, hcut⟩ := mask_le cut
      by_cases hlt : c < (frs fs).length
      · obtain ⟨q1, q2, q3⟩ := cut_any fs c he
        have hC : ∀ w, Calls Try.prog 15 #[.string ((⟨(frs fs).toArray⟩ : ByteArray).extract 0 c)] w (RetQ (spl ((frs fs).take c)).1 (spl ((frs fs).take c)).2.1 (spl ((frs fs).take c)).2.2 w) := fun w => by
          rw [Lib.extract_eq]
          simp only [List.drop_zero, Nat.sub_zero]
          exact fsplit_any _ w (by rw [List.length_take]; omega)
        rcases q3 with q | q
        · rw [q] at hC
          exact fback_cut0_ok a len cap fs l cut w hr h hl HF _ hN HJ HS c hc hcut hlt _ _ q1 q2 (Lib.hid hC) _ HS2 hgs HJ2
        · rw [q] at hC
          exact fback_cut4_ok a len cap fs l cut w hr h hl HF _ hN HJ HS c hc hcut hlt _ _ q1 q2 (Lib.hid hC) _ HS2 hgs HJ2
      · exact fback_nocut_ok a len cap fs l cut w hr h hl HF _ hN HJ HS c hc hcut hlt _ HS2 hgs HJ2
    · exact fback_bad_ok a len cap fs l cut w hr h hl HF (joinE fs) (by simpa using he) (Lib.hid (fun a len cap w hl hr => frjoin_bad a len cap fs w (by omega) hr H9 he)) _ HS2 hgs HJ2
  · have hn := spl_err l hx
    have hx2 : ((spl l).2.2 == 0) = false := by simpa using hx
    have HS2 : Hid (∀ w, Calls Try.prog 15 #[.string ⟨l.toArray⟩] w (RetQ [] (spl l).2.1 (spl l).2.2 w)) := Lib.hid (fun w => (hS2 w).mono (by rintro e w' ⟨a, c, he, hf, hb⟩; rw [hn] at he hf; exact ⟨a, c, he, hf, hb⟩))
    by_cases he : joinE fs = 0
    · have hN : (frs fs).length ≤ 1000000 := by
        have := frs_length fs 500 hs (joinE_all _ he); omega
      have HJ : Hid (∀ a len cap w, len ≤ 20 → IsFrames w a len fs → Calls Try.prog 9 #[.slice a len cap] w fun e w' => e = .returned (.tuple #[.string ⟨(frs fs).toArray⟩, .int .i64 0]) ∧ Below w.heap.size w w') :=
        Lib.hid (fun a len cap w hl hr => frjoin_good a len cap fs w (by omega) hr H9 he (by omega))
      have hj := spl_join fs he
      have HS : Hid (∀ w, Calls Try.prog 15 #[.string ⟨(frs fs).toArray⟩] w (RetQ fs 0 0 w)) := Lib.hid (fun w => (fsplit_any (frs fs) w hN).mono (by rintro e w' ⟨a, c, he, hf, hb⟩; rw [hj] at he hf; exact ⟨a, c, he, hf, hb⟩))
      obtain ⟨c, hc, hcut⟩ := mask_le cut
      by_cases hlt : c < (frs fs).length
      · obtain ⟨q1, q2, q3⟩ := cut_any fs c he
        have hC : ∀ w, Calls Try.prog 15 #[.string ((⟨(frs fs).toArray⟩ : ByteArray).extract 0 c)] w (RetQ (spl ((frs fs).take c)).1 (spl ((frs fs).take c)).2.1 (spl ((frs fs).take c)).2.2 w) := fun w => by
          rw [Lib.extract_eq]
          simp only [List.drop_zero, Nat.sub_zero]
          exact fsplit_any _ w (by rw [List.length_take]; omega)
        rcases q3 with q | q
        · rw [q] at hC
          exact fback_cut0_err a len cap fs l cut w hr h hl HF _ hN HJ HS c hc hcut hlt _ _ q1 q2 (Lib.hid hC) _ _ hx2 HS2
        · rw [q] at hC
          exact fback_cut4_err a len cap fs l cut w hr h hl HF _ hN HJ HS c hc hcut hlt _ _ q1 q2 (Lib.hid hC) _ _ hx2 HS2
      · exact fback_nocut_err a len cap fs l cut w hr h hl HF _ hN HJ HS c hc hcut hlt _ _ hx2 HS2
    · exact fback_bad_err a len cap fs l cut w hr h hl HF (joinE fs) (by simpa using he) (Lib.hid (fun a len cap w hl hr => frjoin_bad a len cap fs w (by omega) hr H9 he)) _ _ hx2 HS2
end Go.Proofs.Ytgkhfdifgeboaaa
