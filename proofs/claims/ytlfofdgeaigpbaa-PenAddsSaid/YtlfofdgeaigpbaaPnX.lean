/-
  The law PenWhole: walked.
-/
import Derived.Test.YtlfofdgeaigpbaaBn13
import Derived.Test.YtlfofdgeaigpbaaBn12
set_option linter.unusedSimpArgs false
set_option linter.unusedVariables false
namespace Go.Proofs.Ytlfofdgeaigpbaa
open Go.RowKit

/-- What was put together can be read, too. -/
theorem Fits.put {w : World} {rs : List Rv} (h : Fits w rs) : Fits w (mgAll rs) := by
  refine mg_ind (P := fun l => Fits w l → Fits w (mgAll l)) (fun _ y hy => by cases hy) (fun l x ih h => ?_) rs h
  have i := ih (fun y hy => h y (List.mem_append_left _ hy))
  have hx := h x (by simp)
  intro z hz
  rw [mga_snoc] at hz
  rcases mgs_cases (mgAll l) x with ⟨_, e⟩ | ⟨o, y, e', _, e⟩ | ⟨o, y, e', _, e⟩ <;> rw [e] at hz
  · rw [List.mem_singleton] at hz
    subst hz
    exact hx
  · rcases List.mem_append.1 hz with hz | hz
    · exact i z (by rw [e']; exact List.mem_append_left _ hz)
    · rw [List.mem_singleton] at hz
      subst hz
      exact ⟨Rd.none (fun _ => rfl) rfl, by show (0 : Nat) ≤ 30; omega⟩
  · rcases List.mem_append.1 hz with hz | hz
    · exact i z (by rw [e']; exact hz)
    · rw [List.mem_singleton] at hz
      subst hz
      exact hx
theorem wh_again {w : World} {f : List UInt8} {rs : List Rv} (h : whE (rvOk w) rs = 0) : whE (rvOk w) (mgAll rs) = 0 ∧ whB w f (mgAll rs) = whB w f rs := by
  have h2 := wh_all (ok := rvOk w) (fun y x a b c => rvOk_plus y x a b c) rs h
  exact ⟨h2, by rw [whB_good h, whB_good h2, mga_twice]⟩

set_option maxHeartbeats 1000000 in
theorem penWhole_long (f : ByteArray) (a : Option Addr) (m ca : Nat) (rs : List Rv) (w : World) (hn : rs.length = m) (ha : RecAt w a rs) (hfs : f.size ≤ 9223372036854775807) (h : fewM rs 20 = false ∨ 300 < f.size) :
    Calls Try.prog 4 #[.string f, .slice a m ca] w fun e w' => e = .returned (.bool true) ∧ Below w.heap.size w w' := by
  cases hq : fewM rs 20 with
  | false =>
    have HF := Lib.hid (mgfew_any a m ca 20 rs w hn (by omega) ha false hq)
    clear ha h hq
    go_enter Try.func4, Try.ntmps4
    go_wp2_with fail
    refine HF.out.mono ?_
    rintro E w1 ⟨rfl, rfl⟩
    clear HF
    go_wp2_with fail
    refine (pnawake_any _).mono ?_
    rintro E w2 ⟨rfl, hb⟩
    go_wp2
    go_ret
    exact ⟨rfl, hb⟩
  | true =>
    have g : (300 : Int) < (f.size : Int) := by
      rcases h with h | h
      · rw [hq] at h; cases h
      · omega
    have HF := Lib.hid (mgfew_any a m ca 20 rs w hn (by omega) ha true hq)
    clear ha h hq
    go_enter Try.func4, Try.ntmps4
    go_wp2_with fail
    refine HF.out.mono ?_
    rintro E w1 ⟨rfl, rfl⟩
    clear HF
    go_wp2_with fail
    refine (pnawake_any _).mono ?_
    rintro E w2 ⟨rfl, hb⟩
    go_wp2
    go_ret
    exact ⟨rfl, hb⟩

set_option maxRecDepth 100000 in
set_option maxHeartbeats 4000000 in
theorem penWhole_few (f : List UInt8) (a : Option Addr) (m ca : Nat) (rs : List Rv) (w : World) (hn : rs.length = m) (hmc : m ≤ ca) (ha : RecAt w a rs) (hrd : ∀ x ∈ rs, Rd w x) (hq : fewM rs 20 = true) (hfl : f.length ≤ 300) :
    Calls Try.prog 4 #[.string ⟨f.toArray⟩, .slice a m ca] w fun e w' => e = .returned (.bool true) ∧ Below w.heap.size w w' := by
  have HF := Lib.hid (mgfew_any a m ca 20 rs w hn (by omega) ha true hq)
  obtain ⟨hm, h30⟩ := fewM_yes hq
  have hft : Fits w rs := fun x hx => ⟨hrd x hx, h30 x hx⟩
  have H1 : Hid (∀ (W : World), Below w.heap.size w W → Calls Try.prog 14 #[.string ⟨f.toArray⟩, .slice a m ca] W fun e W' => e = .returned (.tuple #[.string ⟨(whB w f rs).toArray⟩, .int .i64 (whE (rvOk w) rs)]) ∧ Below W.heap.size W W') := Lib.hid (fun W hW => pnwhole_any hW hn (by omega) (ha.below hW) hft f (by omega))
  have H2 : Hid (∀ (W : World), Below w.heap.size w W → Calls Try.prog 15 #[.string ⟨f.toArray⟩, .slice a m ca] W fun e W' => e = .returned (.tuple #[.string ⟨(whB w f rs).toArray⟩, .int .i64 (whE (rvOk w) rs)]) ∧ Below W.heap.size W W') := Lib.hid (fun W hW => rpnwhole_any hW hn (by omega) hmc (ha.below hW) hft f (by omega))
  have H3 : Hid (∀ (W : World), Below w.heap.size w W → Calls Try.prog 16 #[.slice a m ca] W fun e W' => ∃ (aa : Option Addr) (c : Nat), e = .returned (.slice aa (mgAll rs).length c) ∧ (mgAll rs).length ≤ c ∧ RecAt W' aa (mgAll rs) ∧ (∀ g off sp, aa = some ⟨g, off, sp⟩ → W.heap.size ≤ g) ∧ Below W.heap.size W W') := Lib.hid (fun W hW => mgrall_any a m ca rs W hn (by omega) (ha.below hW))
  have hl := mga_len rs
  have H4 : Hid (∀ (W : World) (aa : Option Addr) (c : Nat), Below w.heap.size w W → RecAt W aa (mgAll rs) → whE (rvOk w) rs = 0 → Calls Try.prog 14 #[.string ⟨f.toArray⟩, .slice aa (mgAll rs).length c] W fun e W' => e = .returned (.tuple #[.string ⟨(whB w f rs).toArray⟩, .int .i64 0]) ∧ Below W.heap.size W W') := Lib.hid (fun W aa c hW hA h0 => by
    have h : Calls Try.prog 14 #[.string ⟨f.toArray⟩, .slice aa (mgAll rs).length c] W fun e W' => e = .returned (.tuple #[.string ⟨(whB w f (mgAll rs)).toArray⟩, .int .i64 (whE (rvOk w) (mgAll rs))]) ∧ Below W.heap.size W W' := pnwhole_any hW rfl (by omega) hA hft.put f (by omega)
    obtain ⟨e1, e2⟩ := wh_again (f := f) h0
    rw [e1, e2] at h
    exact h)
  generalize whE (rvOk w) rs = E at *
  generalize whB w f rs = S at *
  generalize mgAll rs = A at *
  obtain ⟨al, hal⟩ : ∃ al, A.length = al := ⟨_, rfl⟩
  rw [hal] at H3 H4
  have Z1 := Lib.hid (bsize f)
  have g : ¬ (300 : Int) < (f.length : Int) := by omega
  clear ha hrd hq h30 hft hl hal hn hfl
  go_enter Try.func4, Try.ntmps4
  go_wp2_with fail
  refine HF.out.mono ?_
  rintro e w1 ⟨rfl, hw⟩
  obtain rfl := hw.symm
  clear HF hw
  go_wp2_with fail
  refine (H1.out _ (Below.refl _ _)).mono ?_
  rintro e w2 ⟨rfl, hb2⟩
  have HB2 := Lib.hid hb2
  clear hb2 H1
  go_wp2_with fail
  refine (H2.out _ HB2.out).mono ?_
  rintro e w3 ⟨rfl, hb3⟩
  have HB3 := Lib.hid (HB2.out.trans (hb3.mono HB2.out.size))
  clear hb3 H2
  by_cases hE : E = 0
  · subst hE
    go_wp2_with fail
    refine (H3.out _ HB3.out).mono ?_
    rintro e w4 ⟨aa, c, rfl, _, hA4, _, hb4⟩
    have HB4 := Lib.hid (HB3.out.trans (hb4.mono HB3.out.size))
    have H5 := Lib.hid (H4.out w4 aa c HB4.out hA4 (by trivial))
    clear hb4 H3 H4 hA4
    go_wp2_with fail
    refine H5.out.mono ?_
    rintro e w5 ⟨rfl, hb5⟩
    have HB5 := Lib.hid (HB4.out.trans (hb5.mono HB4.out.size))
    clear hb5 H5
    go_wp2_with fail
    refine (pnawake_any _).mono ?_
    rintro e w6 ⟨rfl, hb6⟩
    have HB6 := Lib.hid (HB5.out.trans (hb6.mono HB5.out.size))
    clear hb6
    go_wp2
    go_ret
    exact ⟨rfl, HB6.out⟩
  · have g2 : (E == 0) = false := by simpa using hE
    have g3 : (E != 0) = true := by simpa using hE
    clear H3 H4
    go_wp2_with fail
    refine (pnawake_any _).mono ?_
    rintro e w6 ⟨rfl, hb6⟩
    have HB6 := Lib.hid (HB3.out.trans (hb6.mono HB3.out.size))
    clear hb6
    go_wp2
    go_ret
    exact ⟨rfl, HB6.out⟩

theorem penWhole_walk (f : ByteArray) (a : Option Addr) (m ca : Nat) (rs : List Rv) (w : World) (hn : rs.length = m) (hmc : m ≤ ca) (ha : RecAt w a rs) (hrd : ∀ x ∈ rs, Rd w x) (hfs : f.size ≤ 9223372036854775807) :
    Calls Try.prog 4 #[.string f, .slice a m ca] w fun e w' => e = .returned (.bool true) ∧ Below w.heap.size w w' := by
  by_cases h : fewM rs 20 = false ∨ 300 < f.size
  · exact penWhole_long f a m ca rs w hn ha hfs h
  · have e1 := Lib.size_eq f
    have b1 : f = ⟨f.data.toList.toArray⟩ := by simp
    have hq : fewM rs 20 = true := by
      cases hq : fewM rs 20 with
      | true => rfl
      | false => exact absurd (.inl hq) h
    have h3 : ¬ 300 < f.size := fun h' => h (.inr h')
    rw [b1]
    exact penWhole_few f.data.toList a m ca rs w hn hmc ha hrd hq (by omega)
end Go.Proofs.Ytlfofdgeaigpbaa
