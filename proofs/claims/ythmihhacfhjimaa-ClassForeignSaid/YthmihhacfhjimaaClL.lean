/-
  The law ClassForeign, walked.
-/
import Derived.Test.YthmihhacfhjimaaClA
import Derived.Test.YthmihhacfhjimaaOcRa
set_option linter.unusedSimpArgs false
set_option linter.unusedVariables false
namespace Go.Proofs.Ythmihhacfhjimaa
open Go.RowKit

set_option maxRecDepth 100000 in
set_option maxHeartbeats 1000000 in
theorem clforeign_many (a : Option Addr) (len cap : Nat) (ws : List (List UInt8)) (s : List UInt8) (x y : Int) (w : World) (hlen : len ≤ 9223372036854775807) (hr : IsStrs w a len ws) (ht : ∀ t ∈ ws, t.length ≤ 9223372036854775807) (hq : fewB ws 12 20 = false) :
    Calls Try.prog 3 #[.slice a len cap, .string ⟨s.toArray⟩, .int .u8 x, .int .u8 y] w fun e w' => e = .returned (.bool true) ∧ Below w.heap.size w w' := by
  have HF := Lib.hid (few_noN a len cap ws w hlen hr ht _ hq)
  clear hr ht hq
  go_enter Try.func3, Try.ntmps3
  go_wp2_with fail
  refine HF.out.mono ?_
  rintro e w' ⟨rfl, rfl⟩
  go_wp2_with fail
  refine (clawake_any _).mono ?_
  rintro e w' ⟨rfl, hb⟩
  go_wp2
  go_ret
  exact ⟨rfl, hb⟩
set_option maxRecDepth 100000 in
set_option maxHeartbeats 1000000 in
theorem clforeign_long (a : Option Addr) (len cap : Nat) (ws : List (List UInt8)) (s : List UInt8) (x y : Int) (w : World) (hlen : len ≤ 9223372036854775807) (hr : IsStrs w a len ws) (ht : ∀ t ∈ ws, t.length ≤ 9223372036854775807) (hq : fewB ws 12 20 = true) (hs : 100 < s.length) :
    Calls Try.prog 3 #[.slice a len cap, .string ⟨s.toArray⟩, .int .u8 x, .int .u8 y] w fun e w' => e = .returned (.bool true) ∧ Below w.heap.size w w' := by
  have HF := Lib.hid (few_noN a len cap ws w hlen hr ht _ hq)
  have S1 := Lib.hid (bsize s)
  have g1 : (100 : Int) < (s.length : Int) := by omega
  have g2 : decide ((100 : Int) < (s.length : Int)) = true := decide_eq_true g1
  clear hr ht hq
  go_enter Try.func3, Try.ntmps3
  go_wp2_with fail
  refine HF.out.mono ?_
  rintro e w' ⟨rfl, rfl⟩
  go_wp2_with fail
  refine (clawake_any _).mono ?_
  rintro e w' ⟨rfl, hb⟩
  go_wp2
  go_ret
  exact ⟨rfl, hb⟩

/-- A byte at which a text lies that ends at an end: it stands in that text. -/
theorem st_mem {p s : List UInt8} {e j : Nat} {x : UInt8} (h : stB p s e = true) (h1 : e - p.length ≤ j) (h2 : j < e) (hx : s[j]? = some x) : x ∈ p := by
  obtain ⟨hl, he⟩ := st_len h
  have hc := st_cut hl he
  rw [h] at hc
  have hp : (s.take e).drop (e - p.length) = p := by simpa using hc.symm
  rw [← hp]
  refine List.mem_of_getElem? (i := j - (e - p.length)) ?_
  rw [List.getElem?_drop, List.getElem?_take_of_lt (by omega), show e - p.length + (j - (e - p.length)) = j by omega]
  exact hx

set_option maxRecDepth 100000 in
set_option maxHeartbeats 8000000 in
theorem clforeign_few (a : Option Addr) (len cap : Nat) (ws : List (List UInt8)) (s : List UInt8) (x y : Nat) (w : World) (hr : IsStrs w a len ws) (hq : fewB ws 12 20 = true) (hs : s.length ≤ 100) (hx : x < 256) (hy : y < 256) :
    Calls Try.prog 3 #[.slice a len cap, .string ⟨s.toArray⟩, .int .u8 (x : Int), .int .u8 (y : Int)] w fun e w' => e = .returned (.bool true) ∧ Below w.heap.size w w' := by
  have hwl := hr.1
  have hfw := (few_iff ws 12 20).1 hq
  have hlen : len ≤ 12 := by omega
  have HF := Lib.hid (few_noN a len cap ws w (by omega) hr (fun t ht => by have := hfw.2 t ht; omega) _ hq)
  have HN := Lib.hid (ptnew_all a len cap ws w (by omega) hr (fun t ht => by have := hfw.2 t ht; omega))
  have HN2 := Lib.hid (fun (w2 : World) (hb : Below w.heap.size w w2) => rptnew_all a len cap ws w2 (by omega) (hr.below hb) (fun t ht => by have := hfw.2 t ht; omega))
  obtain ⟨hs1, hs2⟩ := few_setN hq
  generalize setL ws = us at HN HN2 hs1 hs2
  generalize faultL ws = f at HN HN2
  have HNew := Lib.hid (fun (w2 : World) (p : Option Addr) (h : IsPats w2 p us) => clnew_all h)
  generalize (bcK us 256).length + 1 = m at HNew
  generalize bcK us 256 = B at HNew
  have HOf := Lib.hid (fun (w2 : World) (b : Option Addr) (h : HasCls w2 b (ofC us) B m) (c : Nat) (hc : c < 256) => clof_any h c hc)
  have HRAll := Lib.hid (fun (w2 : World) (a2 : Option Addr) (cap2 : Nat) (h : IsStrs w2 a2 us.length us) => rall_any a2 us.length cap2 us s w2 (by omega) h (fun t ht => by have := hs2 t ht; omega) (by omega))
  have HW : Hid (ofC us x = 0 ∨ (0 < ofC us x ∧ ofC us y = 0) ∨ (0 < ofC us x ∧ 0 < ofC us y ∧ (ofC us x < ofC us y ↔ x < y))) := Lib.hid (by
    by_cases h1 : 0 < ofC us x
    · by_cases h2 : 0 < ofC us y
      · exact .inr (.inr ⟨h1, h2, of_lt h1 h2⟩)
      · exact .inr (.inl ⟨h1, by omega⟩)
    · exact .inl (by omega))
  have HM : Hid (∀ h ∈ hitL us s, ∃ (e k : Nat) (p : List UInt8), h = ((e : Int), (k : Int)) ∧ us[k]? = some p ∧ k < us.length ∧ p.length ≤ e ∧ e ≤ s.length ∧ ∀ (j : Nat) (z : UInt8), e - p.length ≤ j → j < e → s[j]? = some z → 0 < ofC us z.toNat) := Lib.hid (fun h hh => by
    obtain ⟨e, k, rfl, _, hk, hst⟩ := (hitK_mem us s _ h).1 hh
    obtain ⟨h1, h2⟩ := getD_some hk
    obtain ⟨h3, h4⟩ := st_len hst
    exact ⟨e, k, _, rfl, h1, hk, h3, h4, fun j z j1 j2 hz => of_pos.2 (hasC_mem h2 (st_mem hst j1 j2 hz))⟩)
  have hhl : (hitL us s).length ≤ 1000000 := by
    have h1 := hitK_length us s (s.length + 1)
    have h2 : (s.length + 1) * us.length ≤ 101 * 12 := Nat.mul_le_mul (by omega) hs1
    unfold hitL; omega
  generalize hitL us s = H at HRAll HM hhl
  have HUL := Lib.hid hs1
  have HUS := Lib.hid hs2
  obtain ⟨α, hα⟩ : ∃ α, ofC us x = α := ⟨_, rfl⟩
  obtain ⟨β, hβ⟩ : ∃ β, ofC us y = β := ⟨_, rfl⟩
  rw [hα, hβ] at HW
  have HAL := Lib.hid hα
  have HBE := Lib.hid hβ
  have S1 := Lib.hid (bsize s)
  have g1 : ¬ (100 : Int) < (s.length : Int) := by omega
  have g2 : decide ((100 : Int) < (s.length : Int)) = false := decide_eq_false g1
  clear hr hq hfw hwl hs2 hs1 hα hβ
  go_enter Try.func3, Try.ntmps3
  go_wp2_with fail
  refine HF.out.mono ?_
  rintro e w' ⟨rfl, hw⟩
  obtain rfl := hw.symm
  clear HF hw
  go_wp2_with fail
  refine HN.out.mono ?_
  rintro e w1 ⟨p, rfl, hp, d1⟩
  have e1 := d1.size
  have HN3 := Lib.hid (HN2.out w1 d1)
  have HP1 := Lib.hid hp
  clear HN HN2 hp
  go_wp2_with fail
  refine HN3.out.mono ?_
  rintro e w2 ⟨a2, cap2, rfl, hstr, hb2⟩
  have d2 := d1.trans (hb2.mono e1)
  have e2 := d2.size
  have T2 := Lib.hid hstr
  have HB2 := Lib.hid (HNew.out w2 p (HP1.out.below hb2))
  clear HN3 hb2 d1 e1 hstr HP1 HNew
  go_wp2_with fail
  refine HB2.out.mono ?_
  rintro e w3 ⟨b, rfl, _, hB, hb3⟩
  have d3 := d2.trans (hb3.mono e2)
  have e3 := d3.size
  have T3 := Lib.hid (T2.out.below hb3)
  have HB3 := Lib.hid hB
  have CX := Lib.hid (HOf.out w3 _ hB x hx)
  have CY := Lib.hid (HOf.out w3 _ hB y hy)
  rw [HAL.out] at CX
  rw [HBE.out] at CY
  have CH := Lib.hid (HRAll.out w3 a2 cap2 T3.out)
  clear HB2 T2 hB hb3 d2 e2 HRAll HAL HBE
  go_wp2_with fail
  refine CX.out.mono ?_
  rintro e w' ⟨rfl, hw⟩
  obtain rfl := hw.symm
  clear hw
  have HWW : Hid (α = 0 ∨ (0 < α ∧ β = 0) ∨ (0 < α ∧ 0 < β ∧ α < β ∧ x < y) ∨ (0 < α ∧ 0 < β ∧ ¬ α < β ∧ ¬ x < y)) := Lib.hid (by
    rcases HW.out with h | h | ⟨h0, h1, h2⟩
    · exact .inl h
    · exact .inr (.inl h)
    · by_cases h3 : x < y
      · exact .inr (.inr (.inl ⟨h0, h1, h2.2 h3, h3⟩))
      · exact .inr (.inr (.inr ⟨h0, h1, fun h => h3 (h2.1 h), h3⟩)))
  clear HW
  rcases HWW.out with h0 | ⟨h0, h1⟩ | ⟨h0, h1, h2, h3⟩ | ⟨h0, h1, h2, h3⟩
  have q0 : decide ((0 : Int) < (α : Int)) = false := decide_eq_false (by omega)
  have q1 : ¬ ((0 : Int) < (α : Int)) := by omega
  clear h0
  go_wp2_with fail
  clear q0 q1
  rotate_left
  have q0 : decide ((0 : Int) < (α : Int)) = true := decide_eq_true (by omega)
  have q1 : ((0 : Int) < (α : Int)) := by omega
  have q2 : decide ((0 : Int) < (β : Int)) = false := decide_eq_false (by omega)
  have q3 : ¬ ((0 : Int) < (β : Int)) := by omega
  clear h0 h1
  go_wp2_with fail
  refine CY.out.mono ?_
  rintro e w' ⟨rfl, hw⟩
  obtain rfl := hw.symm
  clear hw
  go_wp2_with fail
  clear q0 q1 q2 q3
  rotate_left
  have q0 : decide ((0 : Int) < (α : Int)) = true := decide_eq_true (by omega)
  have q1 : ((0 : Int) < (α : Int)) := by omega
  have q2 : decide ((0 : Int) < (β : Int)) = true := decide_eq_true (by omega)
  have q3 : ((0 : Int) < (β : Int)) := by omega
  have q4 : decide ((α : Int) < (β : Int)) = true := decide_eq_true (by omega)
  have q5 : ((α : Int) < (β : Int)) := by omega
  have q6 : decide ((x : Int) < (y : Int)) = true := decide_eq_true (by omega)
  have q7 : ((x : Int) < (y : Int)) := by omega
  have q8 := h2
  have q9 := h3
  have r8 : decide (α < β) = decide (x < y) := by simp only [h2, h3]
  clear h0 h1 h2 h3
  go_wp2_with fail
  refine CY.out.mono ?_
  rintro e w' ⟨rfl, hw⟩
  obtain rfl := hw.symm
  clear hw
  go_wp2_with fail
  refine CX.out.mono ?_
  rintro e w' ⟨rfl, hw⟩
  obtain rfl := hw.symm
  clear hw
  go_wp2_with fail
  refine CY.out.mono ?_
  rintro e w' ⟨rfl, hw⟩
  obtain rfl := hw.symm
  clear hw
  go_wp2_with fail
  clear q0 q1 q2 q3 q4 q5 q6 q7 q8 q9 r8
  rotate_left
  have q0 : decide ((0 : Int) < (α : Int)) = true := decide_eq_true (by omega)
  have q1 : ((0 : Int) < (α : Int)) := by omega
  have q2 : decide ((0 : Int) < (β : Int)) = true := decide_eq_true (by omega)
  have q3 : ((0 : Int) < (β : Int)) := by omega
  have q4 : decide ((α : Int) < (β : Int)) = false := decide_eq_false (by omega)
  have q5 : ¬ ((α : Int) < (β : Int)) := by omega
  have q6 : decide ((x : Int) < (y : Int)) = false := decide_eq_false (by omega)
  have q7 : ¬ ((x : Int) < (y : Int)) := by omega
  have q8 := h2
  have q9 := h3
  have r8 : decide (α < β) = decide (x < y) := by simp only [h2, h3]
  clear h0 h1 h2 h3
  go_wp2_with fail
  refine CY.out.mono ?_
  rintro e w' ⟨rfl, hw⟩
  obtain rfl := hw.symm
  clear hw
  go_wp2_with fail
  refine CX.out.mono ?_
  rintro e w' ⟨rfl, hw⟩
  obtain rfl := hw.symm
  clear hw
  go_wp2_with fail
  refine CY.out.mono ?_
  rintro e w' ⟨rfl, hw⟩
  obtain rfl := hw.symm
  clear hw
  go_wp2_with fail
  clear q0 q1 q2 q3 q4 q5 q6 q7 q8 q9 r8
  rotate_left
  all_goals
    refine CH.out.mono ?_
    rintro e w4 hret
    obtain ⟨a4, cap4, rfl, hh4, hb4⟩ := hret.use
    have d4 := d3.trans (hb4.mono e3)
    have e4 := d4.size
    have T4 := Lib.hid (T3.out.below hb4)
    have HB4 := Lib.hid (HB3.out.below hb4)
    have HH4 := Lib.hid hh4
    have HD4 := Lib.hid d4
    clear CH CX CY hret hb4 hh4 d4 d3 e3 T3 HB3
    go_wp2
    go_loopw [15] (fun i wr => ∃ k : Nat, k ≤ H.length ∧ i = .int .i64 k ∧ Below w4.heap.size w4 wr) (fun i _ => H.length - (RowKit.intOf i).toNat)
    case atStart => exact ⟨0, Nat.zero_le _, rfl, Below.refl _ _⟩
    case round =>
      obtain ⟨k, hk, rfl, hbe⟩ := hrel
      by_cases hlt : k < H.length
      · obtain ⟨b5, off5, rfl, ht, hg, c0, c1⟩ := hit_at HH4.out hbe k hlt
        obtain ⟨e, n, p5, rfl, hp, hn, hl, hle, HJ⟩ := HM.out ht (List.mem_of_getElem? hg)
        obtain ⟨b6, off6, rfl, p6, hp6, c2⟩ := str_at T4.out hbe n hn
        obtain rfl : p6 = p5 := Option.some.inj (hp6.symm.trans hp)
        have HJ2 := Lib.hid HJ
        have S2 := Lib.hid (bsize p6)
        have hpl := HUS.out p6 (List.mem_of_getElem? hp)
        simp only at c0 c1
        have c4 : Hid (∀ wx, Below w4.heap.size w4 wx → wx.cell? ⟨b5, off5 + k * 2, none⟩ = some (.int .i64 (e : Int))) := Lib.hid (fun wx hwx => by
          obtain ⟨b5', off5', e5, h5, hg5, c5, _⟩ := hit_at HH4.out hwx k hlt
          cases e5
          rw [hg] at hg5
          cases hg5
          exact c5)
        clear hg hp hp6 HJ
        obtain ⟨r, hr⟩ : ∃ r, r + p6.length = e := ⟨e - p6.length, by omega⟩
        have q1 : IntKind.i64.wrap ((e : Int) - (p6.length : Int)) = (r : Int) := by rw [IntKind.wrap_i64]; omega
        have HR := Lib.hid hr
        clear hr
        have g3 : (0 : Int) ≤ (k : Int) := by omega
        have g4 : (k : Int) < (H.length : Int) := by omega
        have g5 : (0 : Int) ≤ (n : Int) := by omega
        have g6 : (n : Int) < (us.length : Int) := by omega
        go_wp2_with fail
        go_quiet (fail)
        clear c0 c1 c2
        go_wp2
        go_loopw [17] (fun j wx => ∃ i : Nat, r ≤ i ∧ i ≤ e ∧ j = .int .i64 i ∧ Below w4.heap.size w4 wx) (fun j _ => e - (RowKit.intOf j).toNat)
        case atStart => exact ⟨r, Nat.le_refl _, by have := HR.out; omega, rfl, below_drewS hbe _⟩
        case round =>
          rename_i wx _ _ _
          obtain ⟨i, hri, hie, rfl, hbx⟩ := hrel
          have c5 := c4.out _ hbx
          by_cases hlt2 : i < e
          · have his : i < s.length := by omega
            have hiz : i < (⟨s.toArray⟩ : ByteArray).size := by rw [bsize]; exact his
            have hb := byteAt s i his hiz
            obtain ⟨z, hz⟩ : ∃ z, s[i] = z := ⟨_, rfl⟩
            rw [hz] at hb
            have HP := HJ2.out i z (by have := HR.out; omega) hlt2 (by rw [List.getElem?_eq_getElem his, hz])
            have HC := Lib.hid (HOf.out _ _ (HB4.out.below hbx) z.toNat z.toNat_lt)
            obtain ⟨γ, hγ⟩ : ∃ γ, ofC us z.toNat = γ := ⟨_, rfl⟩
            rw [hγ] at HC HP
            have q2 : ((γ : Int) == 0) = false := by rw [beq_eq_false_iff_ne]; omega
            have g7 : (0 : Int) ≤ (i : Int) := by omega
            have g8 : (i : Int) < (s.length : Int) := by omega
            have g9 : (i : Int) < (e : Int) := by omega
            have HBX := Lib.hid hbx
            clear hz hγ HP hbx
            go_wp2_with fail
            refine HC.out.mono ?_
            rintro en w' ⟨rfl, hw⟩
            obtain rfl := hw.symm
            clear hw
            go_wp2
            exact ⟨⟨i + 1, by omega, by omega, by go_num, HBX.out⟩, by simp [RowKit.intOf]; omega⟩
          · obtain rfl : i = e := by omega
            have hz : ¬ (i : Int) < (i : Int) := by omega
            have HBX := Lib.hid hbx
            clear hbx
            go_wp2
            exact ⟨⟨k + 1, by omega, by go_num, HBX.out⟩, by simp [RowKit.intOf]; omega⟩
      · obtain rfl : k = H.length := by omega
        have hz : ¬ (H.length : Int) < (H.length : Int) := by omega
        go_wp2_with fail
        refine (clawake_any _).mono ?_
        rintro e w14 ⟨rfl, hb14⟩
        have d14 := HD4.out.trans ((hbe.trans (hb14.mono hbe.size)).mono e4)
        go_wp2
        go_ret
        exact ⟨rfl, d14⟩
end Go.Proofs.Ythmihhacfhjimaa
