/-
  The law RingGrows, walked.
-/
import Derived.Test.YtbdpdfdcenidkaaRgA
set_option linter.unusedSimpArgs false
set_option linter.unusedVariables false
namespace Go.Proofs.Ytbdpdfdcenidkaa
open Go.RowKit

/-- A mask leaves a number that is none greater. -/
theorem mask_at (x : Int) (m : Nat) (hm : m ≤ 1000000000) : ∃ c : Nat, c ≤ m ∧ bits .and .i64 x (m : Int) = (c : Int) := by
  have e : (BitVec.ofInt 64 x &&& BitVec.ofInt 64 (m : Int)).toNat ≤ m := by
    rw [BitVec.toNat_and]
    refine Nat.le_trans Nat.and_le_right ?_
    rw [BitVec.toNat_ofInt]
    omega
  refine ⟨_, e, ?_⟩
  show IntKind.i64.wrap ((BitVec.ofInt 64 x &&& BitVec.ofInt 64 (m : Int)).toNat : Int) = _
  generalize (BitVec.ofInt 64 x &&& BitVec.ofInt 64 (m : Int)).toNat = c at e
  rw [IntKind.wrap_i64]; omega

/-- A ring is one still where another block is written. -/
theorem IsRing.apart {w w' : World} {base b size B c : Nat} {s : List UInt8} (h : IsRing w base b size s) (hk : But B c w w') (hB : w.heap.size ≤ B) (hc : c < base) (hcb : c ≠ b) : IsRing w' base b size s := by
  obtain ⟨h1, h2, room, next, v, hm, hb, hown⟩ := h
  have hsz := hk.size
  refine ⟨h1, by omega, room, next, v, hm, (hk.block b (by omega) (by omega)).trans hb, ?_⟩
  obtain ⟨hl, hx⟩ := hown
  refine ⟨hl, ?_⟩
  rcases hx with hx | ⟨g, cap, cur, hv, hg, hh, r⟩
  · exact .inl hx
  · have hlt := lt_of_heap hh
    exact .inr ⟨g, cap, cur, hv, hg, (hk.block g (by omega) (by omega)).trans hh, r⟩

/-- A ring to which nothing came. -/
theorem ring_new {w : World} {b size base : Nat} (h : 1 ≤ size) (hb : b < base) (hB : base ≤ w.heap.size) (hh : w.heap[b]? = some (.cells #[.int .i64 size, .slice none 0 0, .int .i64 0, .int .i64 0] 42 (0, 0))) : IsRing w base b size [] :=
  ⟨hb, hB, [], 0, .slice none 0 0, RingM.none h, hh, World.ownsRow_nil _ _ _ _⟩

set_option maxHeartbeats 1000000 in
theorem rgnew_w (n : Nat) (w : World) (h1 : 1 ≤ n) (h2 : n ≤ 65536) :
    Calls Try.prog 8 #[.int .i64 n] w fun e w' => e = .returned (.tuple #[.pointer (some ⟨w.heap.size, 0, none⟩), .int .i64 0]) ∧ w' = w.alloc (.cells #[.int .i64 n, .slice none 0 0, .int .i64 0, .int .i64 0] 42) := by
  go_enter Try.func8, Try.ntmps8
  go_wp2
  go_ret2
  exact ⟨rfl, rfl⟩

theorem tail_self (s : List UInt8) (n : Nat) : tailL (lastL s n) (n : Int) = lastL s n := by
  rw [tailL, Int.toNat_natCast, lastL_lastL, Nat.min_self]
theorem grows_tail (s : List UInt8) (n m : Nat) : tailL (lastL s (n + m)) ((lastL s n).length : Int) = lastL s n := by
  have := lastL_length s n
  rw [tailL, Int.toNat_natCast, lastL_lastL]
  refine lastL_congr s ?_
  rw [this]
  omega
theorem grows_ends (s : List UInt8) (n m : Nat) : endsB (lastL s (n + m)) (lastL s n) = true := by
  rw [endsB, lastL_lastL, decide_eq_true (by rw [lastL_length, lastL_length]; omega), lastL_congr s (m := n) (by rw [lastL_length]; omega)]
  simp
theorem lastL_get (s : List UInt8) (n i : Nat) : (lastL s n)[i]? = s[s.length - n + i]? := by unfold lastL; rw [List.getElem?_drop]
theorem grows_at (s : List UInt8) (n m : Nat) (d : Int) (x : UInt8) (h : atO (lastL s n) d = some x) : atO (lastL s (n + m)) d = some x := by
  obtain ⟨h0, h1, h2⟩ := atO_some h
  have e1 := lastL_length s n
  have e2 := lastL_length s (n + m)
  unfold atO
  rw [if_pos ⟨h0, by omega⟩, ← h2, lastL_get, lastL_get]
  congr 1
  omega

def AtN (o : Option UInt8) : Int := match o with | none => 0 | some x => (x.toNat : Int)
theorem AtR_eq (o : Option UInt8) : AtR o = .returned (.tuple #[.int .u8 (AtN o), .bool o.isSome]) := by cases o <;> rfl

/-- What the law asks of two rings of one text. -/
theorem grows_facts {w : World} {p q A B size more : Nat} {s : List UInt8} (ra : IsRing w p A size s) (rb : IsRing w q B (size + more) s) (d : Int) (hs : s.length ≤ 500) :
    ∃ (x y : Int) (ok is : Bool) (L : List UInt8), (ok = true → is = true ∧ x = y) ∧ L.length ≤ 500 ∧
      Hid (Calls Try.prog 12 #[.pointer (some ⟨A, 0, none⟩), .int .i64 d] w fun e w' => e = .returned (.tuple #[.int .u8 x, .bool ok]) ∧ w = w') ∧
      Hid (Calls Try.prog 12 #[.pointer (some ⟨B, 0, none⟩), .int .i64 d] w fun e w' => e = .returned (.tuple #[.int .u8 y, .bool is]) ∧ w = w') ∧
      Hid (∀ k, Calls Try.prog 14 #[.pointer (some ⟨A, 0, none⟩), .int .i64 size] (w.drewN k) fun e w' => e = .returned (.string ⟨L.toArray⟩) ∧ ∃ m, w' = w.drewN m) ∧
      Hid (∀ k, Calls Try.prog 13 #[.pointer (some ⟨B, 0, none⟩), .string ⟨L.toArray⟩] (w.drewN k) fun e w' => e = .returned (.bool true) ∧ ∃ m, w' = w.drewN m) ∧
      Hid (∀ k, Calls Try.prog 15 #[.pointer (some ⟨A, 0, none⟩)] (w.drewN k) fun e w' => e = .returned (.int .i64 L.length) ∧ w.drewN k = w') ∧
      Hid (∀ k, Calls Try.prog 14 #[.pointer (some ⟨B, 0, none⟩), .int .i64 L.length] (w.drewN k) fun e w' => e = .returned (.string ⟨L.toArray⟩) ∧ ∃ m, w' = w.drewN m) := by
  have hl := lastL_len s size
  have h1 := rgat_any ra d (by omega)
  have h2 := rgat_any rb d (by omega)
  have h3 := fun k => tail_any (ra.drewN k) size (by omega)
  have h4 := fun k => ends_any (rb.drewN k) (lastL s size) (by omega) (by omega)
  have h5 := fun k => rglen_any (ra.drewN k)
  have h6 := fun k => tail_any (rb.drewN k) (lastL s size).length (by omega)
  rw [AtR_eq] at h1 h2
  rw [tail_self] at h3
  rw [grows_ends] at h4
  rw [grows_tail] at h6
  have hd : ∀ (k : Nat) (v : Value) (e : Ending) (w' : World), (e = Ending.returned v ∧ ∃ m, w' = (w.drewN k).drewN m) → (e = Ending.returned v ∧ ∃ m, w' = w.drewN m) := by
    rintro k v e w' ⟨h, m, rfl⟩
    exact ⟨h, k + m, World.drewN_drewN _ _ _⟩
  refine ⟨_, _, _, _, lastL s size, ?_, by omega, Lib.hid h1, Lib.hid h2, Lib.hid (fun k => (h3 k).mono fun e w' => hd k _ e w'), Lib.hid (fun k => (h4 k).mono fun e w' => hd k _ e w'), Lib.hid h5, Lib.hid (fun k => (h6 k).mono fun e w' => hd k _ e w')⟩
  intro hok
  cases ho : atO (lastL s size) d with
  | none => rw [ho] at hok; cases hok
  | some x => rw [grows_at s size more d x ho]; exact ⟨rfl, rfl⟩

set_option maxHeartbeats 1000000 in
theorem grows_bad (s : ByteArray) (size more cut d : Int) (w : World) (h : 500 < s.size ∨ size < 1 ∨ 300 < size ∨ more < 0 ∨ 300 < more) (hm : s.size ≤ 9223372036854775807) :
    Calls Try.prog 4 #[.string s, .int .i64 size, .int .i64 more, .int .i64 cut, .int .i64 d] w fun e w' => e = .returned (.bool true) ∧ Below w.heap.size w w' := by
  by_cases h1 : 500 < s.size
  · go_enter Try.func4, Try.ntmps4
    go_wp2_with fail
    refine (rgawake_any _).mono ?_
    rintro e w' ⟨rfl, hb⟩
    go_wp2
    go_ret
    exact ⟨rfl, hb⟩
  by_cases h2 : size < 1
  · go_enter Try.func4, Try.ntmps4
    go_wp2_with fail
    refine (rgawake_any _).mono ?_
    rintro e w' ⟨rfl, hb⟩
    go_wp2
    go_ret
    exact ⟨rfl, hb⟩
  by_cases h3 : 300 < size
  · go_enter Try.func4, Try.ntmps4
    go_wp2_with fail
    refine (rgawake_any _).mono ?_
    rintro e w' ⟨rfl, hb⟩
    go_wp2
    go_ret
    exact ⟨rfl, hb⟩
  by_cases h4 : more < 0
  · go_enter Try.func4, Try.ntmps4
    go_wp2_with fail
    refine (rgawake_any _).mono ?_
    rintro e w' ⟨rfl, hb⟩
    go_wp2
    go_ret
    exact ⟨rfl, hb⟩
  have h5 : 300 < more := by omega
  go_enter Try.func4, Try.ntmps4
  go_wp2_with fail
  refine (rgawake_any _).mono ?_
  rintro e w' ⟨rfl, hb⟩
  go_wp2
  go_ret
  exact ⟨rfl, hb⟩

set_option maxHeartbeats 2000000 in
theorem grows_good (s : List UInt8) (size more : Nat) (cut d : Int) (w : World) (h1 : s.length ≤ 500) (h2 : 1 ≤ size) (h3 : size ≤ 300) (h4 : more ≤ 300) :
    Calls Try.prog 4 #[.string ⟨s.toArray⟩, .int .i64 size, .int .i64 more, .int .i64 cut, .int .i64 d] w fun e w' => e = .returned (.bool true) ∧ Below w.heap.size w w' := by
  have HS := Lib.hid (bsize s)
  obtain ⟨c, hc, hcut⟩ : ∃ c : Nat, c ≤ 511 ∧ bits .and .i64 cut 511 = (c : Int) := mask_at cut 511 (by omega)
  have HA := Lib.hid (rgnew_w size w h2 (by omega))
  go_enter Try.func4, Try.ntmps4
  go_wp2_with fail
  refine HA.out.mono ?_
  rintro e w1 ⟨rfl, hw1⟩
  have s1 : w1.heap.size = w.heap.size + 1 := by rw [hw1]; simp
  have g1 : w1.heap[w.heap.size]? = some (.cells #[.int .i64 size, .slice none 0 0, .int .i64 0, .int .i64 0] 42 (0, 0)) := by rw [hw1]; exact heap_alloc_new w _
  have b1 : Below w.heap.size w w1 := by rw [hw1]; exact (Below.refl _ _).alloc (Nat.le_refl _) _
  clear hw1 HA
  have HB : Hid (Calls Try.prog 8 #[.int .i64 ((size : Int) + more)] w1 fun e w' => e = .returned (.tuple #[.pointer (some ⟨w1.heap.size, 0, none⟩), .int .i64 0]) ∧ w' = w1.alloc (.cells #[.int .i64 ((size : Int) + more), .slice none 0 0, .int .i64 0, .int .i64 0] 42)) :=
    Lib.hid (rgnew_w (size + more) w1 (by omega) (by omega))
  go_wp2_with fail
  refine HB.out.mono ?_
  rintro e w2 ⟨rfl, hw2⟩
  have s2 : w2.heap.size = w1.heap.size + 1 := by rw [hw2]; simp
  have g2 : w2.heap[w.heap.size]? = some (.cells #[.int .i64 size, .slice none 0 0, .int .i64 0, .int .i64 0] 42 (0, 0)) := by rw [hw2, Lib.alloc_old _ _ _ (by omega)]; exact g1
  have g3 : w2.heap[w1.heap.size]? = some (.cells #[.int .i64 ((size + more : Nat) : Int), .slice none 0 0, .int .i64 0, .int .i64 0] 42 (0, 0)) := by rw [hw2]; exact heap_alloc_new w1 _
  have b2 : Below w.heap.size w w2 := by rw [hw2]; exact b1.alloc (by omega) _
  clear hw2 HB g1 b1
  have ra : IsRing w2 w2.heap.size w.heap.size size [] := ring_new h2 (by omega) (Nat.le_refl _) g2
  obtain ⟨A, HAA⟩ : ∃ A, Hid (w.heap.size = A) := ⟨_, Lib.hid rfl⟩
  obtain ⟨B, HBB⟩ : ∃ B, Hid (w1.heap.size = B) := ⟨_, Lib.hid rfl⟩
  rw [HAA.out] at s1 b2 ra ⊢
  rw [HBB.out] at s1 s2 g3 ⊢
  subst s1
  clear g2
  have HWA := Lib.hid (write_any _ _ _ _ s w2 (by simp; omega) ra)
  clear ra
  go_wp2_with fail
  refine HWA.out.mono ?_
  rintro e w3 ⟨rfl, ra3, k3⟩
  rw [List.nil_append] at ra3
  have s3 := k3.size
  have rb3 : IsRing w3 w3.heap.size (A + 1) (size + more) [] := ring_new (by omega) (by omega) (Nat.le_refl _) ((k3.block (A + 1) (by omega) (by omega)).trans g3)
  have b3 : Below A w w3 := b2.trans ((k3.below (by omega)).mono (by omega))
  clear g3 k3 b2 HWA
  -- how much comes first
  obtain ⟨q, hq, HC, HX⟩ : ∃ q : Nat, q ≤ s.length ∧ Hid (511 = 511 → (s.length < c → q = s.length) ∧ (¬ s.length < c → q = c)) ∧ Hid ((⟨s.toArray⟩ : ByteArray).extract 0 q = ⟨(s.take q).toArray⟩ ∧ (⟨s.toArray⟩ : ByteArray).extract q s.length = ⟨(s.drop q).toArray⟩) := by
    refine ⟨min c s.length, by omega, Lib.hid (fun _ => ⟨fun _ => by omega, fun _ => by omega⟩), Lib.hid ⟨?_, ?_⟩⟩
    · rw [Lib.extract_eq]; simp
    · exact lastL_cut s _
  have HW1 := Lib.hid (write_any _ _ _ _ (s.take q) w3 (by simp; omega) rb3)
  have HW2 := Lib.hid (fun w4 (h : IsRing w4 w3.heap.size (A + 1) (size + more) ([] ++ s.take q)) => write_any _ _ _ _ (s.drop q) w4 (by simp; omega) h)
  rw [← HX.out.1] at HW1
  rw [← HX.out.2] at HW2
  have hq0 : (q : Int) ≤ (s.length : Int) := by omega
  clear rb3
  by_cases hlt : s.length < c
  · obtain rfl := (HC.out rfl).1 hlt
    have hlt2 : (s.length : Int) < (c : Int) := by omega
    rw [show (⟨s.toArray⟩ : ByteArray).extract s.length s.length = ByteArray.empty by rw [lastL_cut, List.drop_length]; rfl] at HW2
    go_wp2_with fail
    refine HW1.out.mono ?_
    rintro e w4 ⟨rfl, rb4, k4⟩
    have HW3 := Lib.hid (HW2.out w4 rb4)
    clear HW1 HW2 rb4
    go_wp2_with fail
    refine HW3.out.mono ?_
    rintro e w5 ⟨rfl, rb5, k5⟩
    have k35 := k4.trans k5
    have ra5 := ra3.apart k35 (Nat.le_refl _) (by omega) (by omega)
    have b5 := b3.trans ((k35.below (by omega)).mono (show A ≤ A + 1 by omega))
    have rb6 : IsRing w5 w3.heap.size (A + 1) (size + more) s := by
      have h := rb5
      rw [List.nil_append, List.take_append_drop] at h
      exact h
    obtain ⟨x, y, ok, is, L, hok, hL, P1, P2, P3, P4, P5, P6⟩ := grows_facts ra5 rb6 d h1
    have HZ := Lib.hid (b5.size)
    clear k35 k4 k5 ra5 ra3 b3 rb5 rb6 HW3 s3 s2
    cases ok with
    | false =>
      clear hok
      go_wp2_with fail
      refine P1.out.mono ?_
      rintro e w' ⟨rfl, rfl⟩
      go_wp2_with fail
      refine P2.out.mono ?_
      rintro e w' ⟨rfl, rfl⟩
      go_wp2_with fail
      refine (P3.out 0).mono ?_
      rintro e w' ⟨rfl, m1, rfl⟩
      go_wp2_with fail
      refine (P4.out m1).mono ?_
      rintro e w' ⟨rfl, m2, rfl⟩
      go_wp2_with fail
      refine (P3.out m2).mono ?_
      rintro e w' ⟨rfl, m3, rfl⟩
      go_wp2_with fail
      refine (P5.out m3).mono ?_
      rintro e w' ⟨rfl, rfl⟩
      go_wp2_with fail
      refine (P6.out m3).mono ?_
      rintro e w' ⟨rfl, m4, rfl⟩
      have b6 := below_drewN b5 m4
      go_wp2_with fail
      refine (rgawake_any _).mono ?_
      rintro e w6 ⟨rfl, hb6⟩
      have b7 := b6.trans (hb6.mono (by rw [← HAA.out]; exact HZ.out))
      go_wp2
      go_ret
      refine ⟨rfl, ?_⟩
      rw [HAA.out]
      exact b7
    | true =>
      obtain ⟨rfl, rfl⟩ := hok rfl
      clear hok
      go_wp2_with fail
      refine P1.out.mono ?_
      rintro e w' ⟨rfl, rfl⟩
      go_wp2_with fail
      refine P2.out.mono ?_
      rintro e w' ⟨rfl, rfl⟩
      go_wp2_with fail
      refine (P3.out 0).mono ?_
      rintro e w' ⟨rfl, m1, rfl⟩
      go_wp2_with fail
      refine (P4.out m1).mono ?_
      rintro e w' ⟨rfl, m2, rfl⟩
      go_wp2_with fail
      refine (P3.out m2).mono ?_
      rintro e w' ⟨rfl, m3, rfl⟩
      go_wp2_with fail
      refine (P5.out m3).mono ?_
      rintro e w' ⟨rfl, rfl⟩
      go_wp2_with fail
      refine (P6.out m3).mono ?_
      rintro e w' ⟨rfl, m4, rfl⟩
      have b6 := below_drewN b5 m4
      go_wp2_with fail
      refine (rgawake_any _).mono ?_
      rintro e w6 ⟨rfl, hb6⟩
      have b7 := b6.trans (hb6.mono (by rw [← HAA.out]; exact HZ.out))
      go_wp2
      go_ret
      refine ⟨rfl, ?_⟩
      rw [HAA.out]
      exact b7
  · obtain rfl := (HC.out rfl).2 hlt
    have hlt2 : ¬ (s.length : Int) < (q : Int) := by omega
    go_wp2_with fail
    refine HW1.out.mono ?_
    rintro e w4 ⟨rfl, rb4, k4⟩
    have HW3 := Lib.hid (HW2.out w4 rb4)
    clear HW1 HW2 rb4
    go_wp2_with fail
    refine HW3.out.mono ?_
    rintro e w5 ⟨rfl, rb5, k5⟩
    have k35 := k4.trans k5
    have ra5 := ra3.apart k35 (Nat.le_refl _) (by omega) (by omega)
    have b5 := b3.trans ((k35.below (by omega)).mono (show A ≤ A + 1 by omega))
    have rb6 : IsRing w5 w3.heap.size (A + 1) (size + more) s := by
      have h := rb5
      rw [List.nil_append, List.take_append_drop] at h
      exact h
    obtain ⟨x, y, ok, is, L, hok, hL, P1, P2, P3, P4, P5, P6⟩ := grows_facts ra5 rb6 d h1
    have HZ := Lib.hid (b5.size)
    clear k35 k4 k5 ra5 ra3 b3 rb5 rb6 HW3 s3 s2
    cases ok with
    | false =>
      clear hok
      go_wp2_with fail
      refine P1.out.mono ?_
      rintro e w' ⟨rfl, rfl⟩
      go_wp2_with fail
      refine P2.out.mono ?_
      rintro e w' ⟨rfl, rfl⟩
      go_wp2_with fail
      refine (P3.out 0).mono ?_
      rintro e w' ⟨rfl, m1, rfl⟩
      go_wp2_with fail
      refine (P4.out m1).mono ?_
      rintro e w' ⟨rfl, m2, rfl⟩
      go_wp2_with fail
      refine (P3.out m2).mono ?_
      rintro e w' ⟨rfl, m3, rfl⟩
      go_wp2_with fail
      refine (P5.out m3).mono ?_
      rintro e w' ⟨rfl, rfl⟩
      go_wp2_with fail
      refine (P6.out m3).mono ?_
      rintro e w' ⟨rfl, m4, rfl⟩
      have b6 := below_drewN b5 m4
      go_wp2_with fail
      refine (rgawake_any _).mono ?_
      rintro e w6 ⟨rfl, hb6⟩
      have b7 := b6.trans (hb6.mono (by rw [← HAA.out]; exact HZ.out))
      go_wp2
      go_ret
      refine ⟨rfl, ?_⟩
      rw [HAA.out]
      exact b7
    | true =>
      obtain ⟨rfl, rfl⟩ := hok rfl
      clear hok
      go_wp2_with fail
      refine P1.out.mono ?_
      rintro e w' ⟨rfl, rfl⟩
      go_wp2_with fail
      refine P2.out.mono ?_
      rintro e w' ⟨rfl, rfl⟩
      go_wp2_with fail
      refine (P3.out 0).mono ?_
      rintro e w' ⟨rfl, m1, rfl⟩
      go_wp2_with fail
      refine (P4.out m1).mono ?_
      rintro e w' ⟨rfl, m2, rfl⟩
      go_wp2_with fail
      refine (P3.out m2).mono ?_
      rintro e w' ⟨rfl, m3, rfl⟩
      go_wp2_with fail
      refine (P5.out m3).mono ?_
      rintro e w' ⟨rfl, rfl⟩
      go_wp2_with fail
      refine (P6.out m3).mono ?_
      rintro e w' ⟨rfl, m4, rfl⟩
      have b6 := below_drewN b5 m4
      go_wp2_with fail
      refine (rgawake_any _).mono ?_
      rintro e w6 ⟨rfl, hb6⟩
      have b7 := b6.trans (hb6.mono (by rw [← HAA.out]; exact HZ.out))
      go_wp2
      go_ret
      refine ⟨rfl, ?_⟩
      rw [HAA.out]
      exact b7
end Go.Proofs.Ytbdpdfdcenidkaa
