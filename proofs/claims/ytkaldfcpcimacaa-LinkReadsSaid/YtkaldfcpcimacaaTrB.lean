/-
  A trie, read: the states below one, and a search in them: walked.
-/
import Derived.Test.YtkaldfcpcimacaaTrE
set_option linter.unusedSimpArgs false
set_option linter.unusedVariables false
namespace Go.Proofs.Ytkaldfcpcimacaa
open Go.RowKit

set_option maxHeartbeats 1000000 in
theorem trbelow_out {w : World} {q p : Option Addr} {R : List Rc} (h : HasTr w q p R) (s : Int) (hs : s < 0 ∨ (R.length : Int) ≤ s + 1) : Calls Try.prog 52 #[.pointer q, .int .i64 s] w fun e w' => e = .returned (.slice none 0 0) ∧ w' = w := by
  have hm := h.few
  by_cases h1 : s < 0 ∨ (R.length : Int) ≤ s
  · have HS := Lib.hid (tris_out h s h1)
    clear h hs h1
    go_enter Try.func52, Try.ntmps52
    go_wp2_with fail
    refine HS.out.mono ?_
    rintro e w' ⟨rfl, rfl⟩
    go_wp2
    go_ret
    exact ⟨rfl, rfl⟩
  · obtain ⟨k, rfl⟩ : ∃ k : Nat, s = k := ⟨s.toNat, by omega⟩
    have HS := Lib.hid (tris_in h k (by omega))
    have HT := Lib.hid (tris_out h ((k : Int) + 1) (.inr (by omega)))
    have hw : IntKind.i64.wrap ((k : Int) + 1) = (k : Int) + 1 := by rw [IntKind.wrap_i64]; omega
    clear h hs h1
    go_enter Try.func52, Try.ntmps52
    go_wp2_with fail
    refine HS.out.mono ?_
    rintro e w' ⟨rfl, rfl⟩
    go_wp2_with fail
    refine HT.out.mono ?_
    rintro e w' ⟨rfl, rfl⟩
    go_wp2
    go_ret
    exact ⟨rfl, rfl⟩

/-- The states below one, as an answer: to be read. -/
def RetB (n : Nat) (L : List Rc) (w : World) (e : Ending) (w' : World) : Prop := (∃ a cap, e = .returned (.slice a n cap) ∧ IsRcs w a n L) ∧ ∃ m, w' = w.drewN m
set_option maxHeartbeats 2000000 in
theorem trbelow_in {w : World} {q p : Option Addr} {R : List Rc} (h : HasTr w q p R) (k : Nat) (r r' : Rc) (hr : R[k]? = some r) (hr' : R[k + 1]? = some r') (h1 : r.below ≤ r'.below) (h2 : r'.below ≤ R.length) :
    Calls Try.prog 52 #[.pointer q, .int .i64 (k : Int)] w (RetB (r'.below - r.below) ((R.drop r.below).take (r'.below - r.below)) w) := by
  have hk := (List.getElem?_eq_some_iff.1 hr').1
  have hm := h.few
  have HS := Lib.hid (tris_in h k (by omega))
  have HT := tris_in h (k + 1) hk
  rw [show ((k + 1 : Nat) : Int) = (k : Int) + 1 by omega] at HT
  have HT := Lib.hid HT
  obtain ⟨base, b, rfl, ht⟩ := h.some hk
  obtain ⟨g, cap, c0, c1, hcap, _, hg, hat⟩ := ht.reads
  have e2 := (hat k r hr).c2
  have e2' := (hat (k + 1) r' hr').c2
  have hw : IntKind.i64.wrap ((k : Int) + 1) = (k : Int) + 1 := by rw [IntKind.wrap_i64]; omega
  have g0 : (0 : Int) ≤ (k : Int) := by omega
  have g1 : (k : Int) < (R.length : Int) := by omega
  have g2 : (0 : Int) ≤ (k : Int) + 1 := by omega
  have g3 : (k : Int) + 1 < (R.length : Int) := by omega
  have g4 : (0 : Int) ≤ (r.below : Int) := by omega
  have g5 : (r.below : Int) ≤ (r'.below : Int) := by omega
  have g6 : (r'.below : Int) ≤ (cap : Int) := by omega
  have HI : Hid (∀ (i : Nat) x, ((R.drop r.below).take (r'.below - r.below))[i]? = some x → RcAt w g (r.below * 5 + i * 5) x) := Lib.hid fun i x hx => by
    rw [List.getElem?_take] at hx
    split at hx
    · rw [List.getElem?_drop] at hx
      have := hat _ _ hx
      rwa [show (r.below + i) * 5 = r.below * 5 + i * 5 by omega] at this
    · cases hx
  have HL : Hid (((R.drop r.below).take (r'.below - r.below)).length = r'.below - r.below) := Lib.hid (by rw [List.length_take, List.length_drop]; omega)
  have hn : ((k : Int) + 1).toNat = k + 1 := by omega
  generalize (R.drop r.below).take (r'.below - r.below) = L at *
  clear h ht hat hr hr'
  by_cases hcb : cap = r.below
  · have hz : r'.below - r.below = 0 := by omega
    go_enter Try.func52, Try.ntmps52
    go_wp2_with fail
    refine HS.out.mono ?_
    rintro e w' ⟨rfl, rfl⟩
    go_wp2_with fail
    refine HT.out.mono ?_
    rintro e w' ⟨rfl, rfl⟩
    go_wp2_with fail
    go_quiet (fail)
    go_wp2
    go_ret
    exact ⟨⟨some ⟨g, 0, none⟩, 0, by rw [hz]; rfl, HL.out, .inl hz⟩, nq, rfl⟩
  · go_enter Try.func52, Try.ntmps52
    go_wp2_with fail
    refine HS.out.mono ?_
    rintro e w' ⟨rfl, rfl⟩
    go_wp2_with fail
    refine HT.out.mono ?_
    rintro e w' ⟨rfl, rfl⟩
    go_wp2_with fail
    go_quiet (fail)
    go_wp2
    go_ret
    exact ⟨⟨_, _, rfl, HL.out, .inr ⟨g, _, rfl, HI.out⟩⟩, nq, rfl⟩

/-- The closure of the search: a state's byte less the one that is sought. -/
theorem trcmp_any (r : Rc) (c : UInt8) (w : World) : Calls Try.prog 53 #[rcV r, .int .u8 (c.toNat : Int)] w fun e w' => e = .returned (.int .i64 ((r.last.toNat : Int) - (c.toNat : Int))) ∧ Below w.heap.size w w' := by
  have h1 := UInt8.toNat_lt r.last
  have h2 := UInt8.toNat_lt c
  have w1 : IntKind.i64.wrap (r.last.toNat : Int) = (r.last.toNat : Int) := by rw [IntKind.wrap_i64]; omega
  have w2 : IntKind.i64.wrap (c.toNat : Int) = (c.toNat : Int) := by rw [IntKind.wrap_i64]; omega
  have w3 : IntKind.i64.wrap ((r.last.toNat : Int) - (c.toNat : Int)) = (r.last.toNat : Int) - (c.toNat : Int) := by rw [IntKind.wrap_i64]; omega
  unfold rcV
  go_enter Try.func53, Try.ntmps53
  go_wp2
  go_ret
  exact ⟨rfl, (Below.refl _ _).alloc (Nat.le_refl _) _⟩
theorem trcmp_enters : ∀ args w, (callFunc 53 args).run Try.prog w = .ok (.enter 53 args) w := enters_of Try.func53 (by kernel_rfl) rfl

/-- One of some states: where it lies. -/
theorem rc_at {w wr : World} {a : Option Addr} {len : Nat} {rs : List Rc} (h : IsRcs w a len rs) (hb : Below w.heap.size w wr) (k : Nat) (hk : k < len) : ∃ b off, a = some ⟨b, off, none⟩ ∧ ∃ r, rs[k]? = some r ∧ RcAt wr b (off + k * 5) r := by
  obtain ⟨hl, h⟩ := h.below hb
  rcases h with h | ⟨b, off, ha, hc⟩
  · omega
  · have hkl : k < rs.length := by omega
    exact ⟨b, off, ha, rs[k], List.getElem?_eq_getElem hkl, hc k _ (List.getElem?_eq_getElem hkl)⟩

/-- What a search for a byte tells of rising ones. -/
def Sought (bs : List UInt8) (c : UInt8) (n : Nat) (b : Bool) : Prop := b = decide (c ∈ bs) ∧ (c ∈ bs → bs[n]? = some c)
def RetSk (bs : List UInt8) (c : UInt8) (w : World) (e : Ending) (w' : World) : Prop := ∃ (n : Nat) (b : Bool), e = .returned (.tuple #[.int .i64 (n : Int), .bool b]) ∧ Sought bs c n b ∧ Below w.heap.size w w'
/-- All ahead of lo are less, all from hi on are not. -/
def Halves (bs : List UInt8) (c : UInt8) (lo hi : Nat) : Prop := (∀ (i : Nat) d, i < lo → bs[i]? = some d → d < c) ∧ (∀ (i : Nat) d, hi ≤ i → bs[i]? = some d → c ≤ d)
theorem rise_at {bs : List UInt8} (h : bs.Pairwise (· < ·)) {i j : Nat} {c d : UInt8} (hij : i ≤ j) (hc : bs[i]? = some c) (hd : bs[j]? = some d) : c ≤ d := by
  obtain ⟨hi, rfl⟩ := List.getElem?_eq_some_iff.1 hc
  obtain ⟨hj, rfl⟩ := List.getElem?_eq_some_iff.1 hd
  rcases Nat.lt_or_ge i j with h' | h'
  · exact UInt8.le_of_lt (List.pairwise_iff_getElem.1 h i j hi hj h')
  · obtain rfl : i = j := by omega
    exact UInt8.le_refl _
theorem Halves.up {bs : List UInt8} {c d : UInt8} {lo hi m : Nat} (hr : bs.Pairwise (· < ·)) (h : Halves bs c lo hi) (hm : bs[m]? = some d) (hd : d < c) : Halves bs c (m + 1) hi :=
  ⟨fun i e hi he => UInt8.lt_of_le_of_lt (rise_at hr (by omega) he hm) hd, h.2⟩
theorem Halves.down {bs : List UInt8} {c d : UInt8} {lo hi m : Nat} (hr : bs.Pairwise (· < ·)) (h : Halves bs c lo hi) (hm : bs[m]? = some d) (hd : ¬ d < c) : Halves bs c lo m :=
  ⟨h.1, fun i e hi he => UInt8.le_trans (UInt8.not_lt.1 hd) (rise_at hr hi hm he)⟩
theorem Halves.hit {bs : List UInt8} {c : UInt8} {n : Nat} (hm : bs[n]? = some c) : Sought bs c n true :=
  ⟨(decide_eq_true (List.mem_of_getElem? hm)).symm, fun _ => hm⟩
theorem Halves.miss {bs : List UInt8} {c : UInt8} {n : Nat} (hr : bs.Pairwise (· < ·)) (h : Halves bs c n n) (hm : bs[n]? ≠ some c) : Sought bs c n false := by
  have hn : c ∉ bs := fun hc => by
    obtain ⟨i, hi⟩ := List.mem_iff_getElem?.1 hc
    rcases Nat.lt_trichotomy i n with h1 | h1 | h1
    · exact UInt8.lt_irrefl _ (h.1 i c h1 hi)
    · subst h1; exact hm hi
    · have hl := (List.getElem?_eq_some_iff.1 hi).1
      have he : bs[n]? = some (bs[n]'(by omega)) := List.getElem?_eq_getElem (by omega)
      have h2 := h.2 n _ (Nat.le_refl _) he
      have h3 := rise_at hr (Nat.le_of_lt h1) he hi
      rw [UInt8.le_antisymm h3 h2] at he
      exact hm he
  exact ⟨(decide_eq_false hn).symm, fun hc => absurd hc hn⟩

set_option maxHeartbeats 2000000 in
set_option maxRecDepth 100000 in
theorem trseek_any {w : World} {a : Option Addr} {len cap : Nat} {rs : List Rc} (h : IsRcs w a len rs) (hlen : len ≤ 2147483647) (c : UInt8) (hr : (rs.map Rc.last).Pairwise (· < ·)) :
    Calls Try.prog 51 #[.slice a len cap, .int .u8 (c.toNat : Int), .func (.func 53) #[] #[]] w (RetSk (rs.map Rc.last) c w) := by
  have eg := trcmp_enters
  have hl := h.1
  have HH := Lib.hid h
  have HR := Lib.hid hr
  have HC := Lib.hid trcmp_any
  clear h hr
  go_enter Try.func51, Try.ntmps51
  go_wp2
  go_loopw [9, 10] (fun x y wr => ∃ lo hi : Nat, x = .int .i64 lo ∧ y = .int .i64 hi ∧ lo ≤ hi ∧ hi ≤ len ∧ Hid (Halves (rs.map Rc.last) c lo hi) ∧ Below w.heap.size w wr) (fun x y _ => (RowKit.intOf y).toNat - (RowKit.intOf x).toNat)
  case atStart => exact ⟨0, len, rfl, rfl, Nat.zero_le _, Nat.le_refl _, Lib.hid ⟨fun i d hi _ => by omega, fun i d hi hd => by have := (List.getElem?_eq_some_iff.1 hd).1; rw [List.length_map] at this; omega⟩, Below.refl _ _⟩
  case round =>
    obtain ⟨lo, hi, rfl, rfl, hlh, hin, HV, hbe⟩ := hrel
    have hsz := hbe.size
    by_cases hlt : lo < hi
    · obtain ⟨b, off, rfl, r, hf, hat⟩ := rc_at HH.out hbe ((lo + hi) / 2) (by omega)
      obtain ⟨e0, e1, e2, e3, e4⟩ := hat
      have HK := Lib.hid (HC.out r c wr)
      have hm : (rs.map Rc.last)[(lo + hi) / 2]? = some r.last := by rw [List.getElem?_map, hf]; rfl
      unfold rcV at HK
      by_cases hq : r.last < c
      · have HV2 := Lib.hid (HV.out.up HR.out hm hq)
        have hq2 : (r.last.toNat : Int) - (c.toNat : Int) < 0 := by rw [UInt8.lt_iff_toNat_lt] at hq; omega
        clear hf hm hq HV
        go_wp2_with fail
        refine HK.out.mono ?_
        rintro e w2 ⟨rfl, hb2⟩
        have d2 := Lib.hid (hbe.trans (hb2.mono hsz))
        clear HK hb2 e0 e1 e2 e3 e4 hbe
        go_wp2
        exact ⟨⟨(lo + hi) / 2 + 1, hi, by rw [show ((lo : Int) + (hi : Int)) / 2 + 1 = (((lo + hi) / 2 + 1 : Nat) : Int) by omega], rfl, by omega, hin, HV2, d2.out⟩, by simp [RowKit.intOf]; omega⟩
      · have HV2 := Lib.hid (HV.out.down HR.out hm hq)
        have hq2 : ¬ (r.last.toNat : Int) - (c.toNat : Int) < 0 := by rw [UInt8.lt_iff_toNat_lt] at hq; omega
        clear hf hm hq HV
        go_wp2_with fail
        refine HK.out.mono ?_
        rintro e w2 ⟨rfl, hb2⟩
        have d2 := Lib.hid (hbe.trans (hb2.mono hsz))
        clear HK hb2 e0 e1 e2 e3 e4 hbe
        go_wp2
        exact ⟨⟨lo, (lo + hi) / 2, rfl, by rw [show ((lo : Int) + (hi : Int)) / 2 = (((lo + hi) / 2 : Nat) : Int) by omega], by omega, by omega, HV2, d2.out⟩, by simp [RowKit.intOf]; omega⟩
    · obtain rfl : hi = lo := by omega
      by_cases hn : hi < len
      · obtain ⟨b, off, rfl, r, hf, hat⟩ := rc_at HH.out hbe hi hn
        obtain ⟨e0, e1, e2, e3, e4⟩ := hat
        have HK := Lib.hid (HC.out r c wr)
        have hm : (rs.map Rc.last)[hi]? = some r.last := by rw [List.getElem?_map, hf]; rfl
        unfold rcV at HK
        have g0 : (0 : Int) ≤ (hi : Int) := by omega
        have g1 : (hi : Int) < (len : Int) := by omega
        by_cases hq : r.last = c
        · have HS := Lib.hid (Halves.hit (c := c) (by rw [hm, hq]))
          have hq2 : (r.last.toNat : Int) - (c.toNat : Int) = 0 := by rw [hq]; omega
          clear hf hm hq HV
          go_wp2_with fail
          refine HK.out.mono ?_
          rintro e w2 ⟨rfl, hb2⟩
          have d2 := Lib.hid (hbe.trans (hb2.mono hsz))
          clear HK hb2 e0 e1 e2 e3 e4 hbe
          go_wp2
          go_ret2
          exact ⟨hi, true, rfl, HS.out, d2.out⟩
        · have HS := Lib.hid (HV.out.miss HR.out (by rw [hm]; simpa using hq))
          have hq2 : ¬ (r.last.toNat : Int) - (c.toNat : Int) = 0 := fun h0 => hq (UInt8.toNat_inj.1 (by omega))
          have hq3 : ((r.last.toNat : Int) - (c.toNat : Int) == 0) = false := by simpa using hq2
          clear hf hm hq HV
          go_wp2_with fail
          refine HK.out.mono ?_
          rintro e w2 ⟨rfl, hb2⟩
          have d2 := Lib.hid (hbe.trans (hb2.mono hsz))
          clear HK hb2 e0 e1 e2 e3 e4 hbe
          go_wp2
          go_ret2
          exact ⟨hi, false, rfl, HS.out, d2.out⟩
      · have HS := Lib.hid (HV.out.miss HR.out (by rw [List.getElem?_eq_none (by rw [List.length_map]; omega)]; simp))
        have g1 : ¬ (hi : Int) < (len : Int) := by omega
        clear HV
        go_wp2
        go_ret2
        exact ⟨hi, false, rfl, HS.out, hbe⟩

/-- What Next tells of a state's bytes. -/
def RetNx (bs : List UInt8) (o : Nat) (c : UInt8) (w : World) (e : Ending) (w' : World) : Prop :=
  ((c ∈ bs → ∃ n : Nat, e = .returned (.tuple #[.int .i64 ((o + n : Nat) : Int), .bool true]) ∧ bs[n]? = some c) ∧ (c ∉ bs → e = .returned (.tuple #[.int .i64 0, .bool false]))) ∧ Below w.heap.size w w'
set_option maxHeartbeats 1000000 in
theorem trnext_out {w : World} {q p : Option Addr} {R : List Rc} (h : HasTr w q p R) (s : Int) (hs : s < 0 ∨ (R.length : Int) ≤ s + 1) (c : UInt8) : Calls Try.prog 37 #[.pointer q, .int .i64 s, .int .u8 (c.toNat : Int)] w fun e w' => e = .returned (.tuple #[.int .i64 0, .bool false]) ∧ Below w.heap.size w w' := by
  have HS := Lib.hid (trbelow_out h s hs)
  have HK := Lib.hid (trseek_any (w := w) (a := none) (len := 0) (cap := 0) (rs := []) ⟨rfl, .inl rfl⟩ (by omega) c (by simp))
  clear h hs
  go_enter Try.func37, Try.ntmps37
  go_wp2_with fail
  refine HS.out.mono ?_
  rintro e w' ⟨rfl, rfl⟩
  go_wp2_with fail
  refine HK.out.mono ?_
  rintro e w2 ⟨n, β, rfl, ⟨hβ, _⟩, hb⟩
  simp only [List.map_nil, List.not_mem_nil, decide_false] at hβ
  subst hβ
  clear HK
  go_wp2
  go_ret2
  exact ⟨rfl, hb⟩
set_option maxHeartbeats 1000000 in
theorem trnext_in {w : World} {q p : Option Addr} {R : List Rc} (h : HasTr w q p R) (k : Nat) (r r' : Rc) (hr : R[k]? = some r) (hr' : R[k + 1]? = some r') (h1 : r.below ≤ r'.below) (h2 : r'.below ≤ R.length) (c : UInt8)
    (hrise : (((R.drop r.below).take (r'.below - r.below)).map Rc.last).Pairwise (· < ·)) :
    Calls Try.prog 37 #[.pointer q, .int .i64 (k : Int), .int .u8 (c.toNat : Int)] w (RetNx (((R.drop r.below).take (r'.below - r.below)).map Rc.last) r.below c w) := by
  have hm := h.few
  have HB := Lib.hid (trbelow_in h k r r' hr hr' h1 h2)
  have hk := (List.getElem?_eq_some_iff.1 hr).1
  obtain ⟨base, b, rfl, ht⟩ := h.some hk
  obtain ⟨g, cap, c0, c1, hcap, _, hg, hat⟩ := ht.reads
  have e2 := (hat k r hr).c2
  have hblt := ht.lt
  have g0 : (0 : Int) ≤ (k : Int) := by omega
  have g1 : (k : Int) < (R.length : Int) := by omega
  have HK : Hid (∀ (a : Option Addr) (cap : Nat) (W : World), IsRcs W a (r'.below - r.below) ((R.drop r.below).take (r'.below - r.below)) → _) := Lib.hid fun a cap W hW => trseek_any (cap := cap) hW (by omega) c hrise
  have hlen : ((R.drop r.below).take (r'.below - r.below)).length ≤ R.length := by rw [List.length_take, List.length_drop]; omega
  generalize (R.drop r.below).take (r'.below - r.below) = L at *
  generalize r'.below - r.below = n at *
  clear h ht hat hr hr' hrise
  go_enter Try.func37, Try.ntmps37
  go_wp2_with fail
  refine HB.out.mono ?_
  rintro e w' ⟨⟨a, cap', rfl, hL⟩, m, rfl⟩
  have HL := Lib.hid (HK.out a cap' (w.drewN m) (hL.below (below_drewS (Below.refl _ _) m)))
  clear HK HB hL
  go_wp2_with fail
  refine HL.out.mono ?_
  rintro e w2 ⟨i, β, rfl, ⟨hβ, hi⟩, hb⟩
  clear HL
  have hb' : Below w.heap.size w w2 := (below_drewS (Below.refl _ _) m).trans hb
  have d1 : w2.cell? ⟨b, 1, none⟩ = some (.slice (some ⟨g, 0, none⟩) R.length cap) := (hb'.cell (p := ⟨b, 1, none⟩) hblt).trans c1
  have d2 : w2.cell? ⟨g, k * 5 + 2, none⟩ = some (.int .i32 (r.below : Int)) := (hb'.cell (p := ⟨g, k * 5 + 2, none⟩) hg).trans e2
  have HB := Lib.hid hb'
  clear hb hb' c0 c1 e2
  by_cases hc : c ∈ L.map Rc.last
  · have hi2 := Lib.hid (hi hc)
    rw [decide_eq_true hc] at hβ
    subst hβ
    have hil := (List.getElem?_eq_some_iff.1 (hi hc)).1
    rw [List.length_map] at hil
    have hw : IntKind.i64.wrap (r.below : Int) = (r.below : Int) := by rw [IntKind.wrap_i64]; omega
    have hw2 : IntKind.i64.wrap ((r.below : Int) + (i : Int)) = (r.below : Int) + (i : Int) := by rw [IntKind.wrap_i64]; omega
    have HC := Lib.hid hc
    clear hc hi
    go_wp2
    go_ret2
    exact ⟨⟨fun _ => ⟨i, by rw [show ((r.below + i : Nat) : Int) = (r.below : Int) + (i : Int) by omega]; rfl, hi2.out⟩, fun hh => absurd HC.out hh⟩, HB.out⟩
  · rw [decide_eq_false hc] at hβ
    subst hβ
    have HC := Lib.hid hc
    clear hc hi
    go_wp2
    go_ret2
    exact ⟨⟨fun hh => absurd hh HC.out, fun _ => rfl⟩, HB.out⟩
end Go.Proofs.Ytkaldfcpcimacaa
