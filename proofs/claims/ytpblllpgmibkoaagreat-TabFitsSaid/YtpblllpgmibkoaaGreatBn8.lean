/-
  Texts put together: TrB, TrC, TrT, TrN0, LkS, TrCb, TrTb, DnF, LkN, LkNw.
-/
import Derived.Shelf.Abstract
import Derived.Test.YtpblllpgmibkoaaGreatBn6
import Derived.Test.YtpblllpgmibkoaaGreatBn2
import Derived.Lib.Builder
import Derived.Laws.IdiomStrings
import Derived.Test.YtpblllpgmibkoaaGreatBn7
import Derived.Test.YtpblllpgmibkoaaGreatBn4
import Derived.Test.YtpblllpgmibkoaaGreatBn5
import Derived.Deep.RegionWith
set_option linter.unusedSimpArgs false
set_option linter.unusedVariables false
namespace Go.Proofs.YtpblllpgmibkoaaGreat
open Go.RowKit

set_option maxHeartbeats 1000000 in
theorem trbelow_out {w : World} {q p : Option Addr} {R : List Rc} (h : HasTr w q p R) (s : Int) (hs : s < 0 ∨ (R.length : Int) ≤ s + 1) : Calls Tryz.prog 106 #[.pointer q, .int .i64 s] w fun e w' => e = .returned (.slice none 0 0) ∧ w' = w := by
  have hm := h.few
  by_cases h1 : s < 0 ∨ (R.length : Int) ≤ s
  · have HS := Lib.hid (tris_out h s h1)
    clear h hs h1
    go_enter Tryz.func106, Tryz.ntmps106
    go_wp2_with fail
    refine HS.out.mono ?_
    rintro e w' ⟨rfl, rfl⟩
    go_wp2
    go_ret
    exact ⟨rfl, rfl⟩
  · obtain ⟨k, rfl⟩ : ∃ k : Nat, s = k := ⟨s.toNat, by omega⟩
    have HS := Lib.hid (tris_in h k (by omega))
    have HT := Lib.hid (tris_out h ((k : Int) + 1) (.inr (by omega)))
    have hw : IntKind.i64.wrap ((k : Int) + 1) = (k : Int) + 1 := by rw [IntKind.wrap_i64]; omega
    clear h hs h1
    go_enter Tryz.func106, Tryz.ntmps106
    go_wp2_with fail
    refine HS.out.mono ?_
    rintro e w' ⟨rfl, rfl⟩
    go_wp2_with fail
    refine HT.out.mono ?_
    rintro e w' ⟨rfl, rfl⟩
    go_wp2
    go_ret
    exact ⟨rfl, rfl⟩

/-- The states below one, as an answer: to be read. -/
def RetB (n : Nat) (L : List Rc) (w : World) (e : Ending) (w' : World) : Prop := (∃ a cap, e = .returned (.slice a n cap) ∧ IsRcs w a n L) ∧ ∃ m, w' = w.drewN m
set_option maxHeartbeats 2000000 in
theorem trbelow_in {w : World} {q p : Option Addr} {R : List Rc} (h : HasTr w q p R) (k : Nat) (r r' : Rc) (hr : R[k]? = some r) (hr' : R[k + 1]? = some r') (h1 : r.below ≤ r'.below) (h2 : r'.below ≤ R.length) :
    Calls Tryz.prog 106 #[.pointer q, .int .i64 (k : Int)] w (RetB (r'.below - r.below) ((R.drop r.below).take (r'.below - r.below)) w) := by
  have hk := (List.getElem?_eq_some_iff.1 hr').1
  have hm := h.few
  have HS := Lib.hid (tris_in h k (by omega))
  have HT := tris_in h (k + 1) hk
  rw [show ((k + 1 : Nat) : Int) = (k : Int) + 1 by omega] at HT
  have HT := Lib.hid HT
  obtain ⟨base, b, rfl, ht⟩ := h.some hk
  obtain ⟨g, cap, c0, c1, hcap, _, hg, hat⟩ := ht.reads
  have e2 := (hat k r hr).c2
  have e2' := (hat (k + 1) r' hr').c2
  have hw : IntKind.i64.wrap ((k : Int) + 1) = (k : Int) + 1 := by rw [IntKind.wrap_i64]; omega
  have g0 : (0 : Int) ≤ (k : Int) := by omega
  have g1 : (k : Int) < (R.length : Int) := by omega
  have g2 : (0 : Int) ≤ (k : Int) + 1 := by omega
  have g3 : (k : Int) + 1 < (R.length : Int) := by omega
  have g4 : (0 : Int) ≤ (r.below : Int) := by omega
  have g5 : (r.below : Int) ≤ (r'.below : Int) := by omega
  have g6 : (r'.below : Int) ≤ (cap : Int) := by omega
  have HI : Hid (∀ (i : Nat) x, ((R.drop r.below).take (r'.below - r.below))[i]? = some x → RcAt w g (r.below * 5 + i * 5) x) := Lib.hid fun i x hx => by
    rw [List.getElem?_take] at hx
    split at hx
    · rw [List.getElem?_drop] at hx
      have := hat _ _ hx
      rwa [show (r.below + i) * 5 = r.below * 5 + i * 5 by omega] at this
    · cases hx
  have HL : Hid (((R.drop r.below).take (r'.below - r.below)).length = r'.below - r.below) := Lib.hid (by rw [List.length_take, List.length_drop]; omega)
  have hn : ((k : Int) + 1).toNat = k + 1 := by omega
  generalize (R.drop r.below).take (r'.below - r.below) = L at *
  clear h ht hat hr hr'
  by_cases hcb : cap = r.below
  · have hz : r'.below - r.below = 0 := by omega
    go_enter Tryz.func106, Tryz.ntmps106
    go_wp2_with fail
    refine HS.out.mono ?_
    rintro e w' ⟨rfl, rfl⟩
    go_wp2_with fail
    refine HT.out.mono ?_
    rintro e w' ⟨rfl, rfl⟩
    go_wp2_with fail
    go_quiet (fail)
    go_wp2
    go_ret
    exact ⟨⟨some ⟨g, 0, none⟩, 0, by rw [hz]; rfl, HL.out, .inl hz⟩, nq, rfl⟩
  · go_enter Tryz.func106, Tryz.ntmps106
    go_wp2_with fail
    refine HS.out.mono ?_
    rintro e w' ⟨rfl, rfl⟩
    go_wp2_with fail
    refine HT.out.mono ?_
    rintro e w' ⟨rfl, rfl⟩
    go_wp2_with fail
    go_quiet (fail)
    go_wp2
    go_ret
    exact ⟨⟨_, _, rfl, HL.out, .inr ⟨g, _, rfl, HI.out⟩⟩, nq, rfl⟩

/-- The closure of the search: a state's byte less the one that is sought. -/
theorem trcmp_any (r : Rc) (c : UInt8) (w : World) : Calls Tryz.prog 108 #[rcV r, .int .u8 (c.toNat : Int)] w fun e w' => e = .returned (.int .i64 ((r.last.toNat : Int) - (c.toNat : Int))) ∧ Below w.heap.size w w' := by
  have h1 := UInt8.toNat_lt r.last
  have h2 := UInt8.toNat_lt c
  have w1 : IntKind.i64.wrap (r.last.toNat : Int) = (r.last.toNat : Int) := by rw [IntKind.wrap_i64]; omega
  have w2 : IntKind.i64.wrap (c.toNat : Int) = (c.toNat : Int) := by rw [IntKind.wrap_i64]; omega
  have w3 : IntKind.i64.wrap ((r.last.toNat : Int) - (c.toNat : Int)) = (r.last.toNat : Int) - (c.toNat : Int) := by rw [IntKind.wrap_i64]; omega
  unfold rcV
  go_enter Tryz.func108, Tryz.ntmps108
  go_wp2
  go_ret
  exact ⟨rfl, (Below.refl _ _).alloc (Nat.le_refl _) _⟩
theorem trcmp_enters : ∀ args w, (callFunc 108 args).run Tryz.prog w = .ok (.enter 108 args) w := enters_of Tryz.func108 (by kernel_rfl) rfl

/-- One of some states: where it lies. -/
theorem rc_at {w wr : World} {a : Option Addr} {len : Nat} {rs : List Rc} (h : IsRcs w a len rs) (hb : Below w.heap.size w wr) (k : Nat) (hk : k < len) : ∃ b off, a = some ⟨b, off, none⟩ ∧ ∃ r, rs[k]? = some r ∧ RcAt wr b (off + k * 5) r := by
  obtain ⟨hl, h⟩ := h.below hb
  rcases h with h | ⟨b, off, ha, hc⟩
  · omega
  · have hkl : k < rs.length := by omega
    exact ⟨b, off, ha, rs[k], List.getElem?_eq_getElem hkl, hc k _ (List.getElem?_eq_getElem hkl)⟩

/-- What a search for a byte tells of rising ones. -/
def Sought (bs : List UInt8) (c : UInt8) (n : Nat) (b : Bool) : Prop := b = decide (c ∈ bs) ∧ (c ∈ bs → bs[n]? = some c)
def RetSk (bs : List UInt8) (c : UInt8) (w : World) (e : Ending) (w' : World) : Prop := ∃ (n : Nat) (b : Bool), e = .returned (.tuple #[.int .i64 (n : Int), .bool b]) ∧ Sought bs c n b ∧ Below w.heap.size w w'
/-- All ahead of lo are less, all from hi on are not. -/
def Halves (bs : List UInt8) (c : UInt8) (lo hi : Nat) : Prop := (∀ (i : Nat) d, i < lo → bs[i]? = some d → d < c) ∧ (∀ (i : Nat) d, hi ≤ i → bs[i]? = some d → c ≤ d)
theorem rise_at {bs : List UInt8} (h : bs.Pairwise (· < ·)) {i j : Nat} {c d : UInt8} (hij : i ≤ j) (hc : bs[i]? = some c) (hd : bs[j]? = some d) : c ≤ d := by
  obtain ⟨hi, rfl⟩ := List.getElem?_eq_some_iff.1 hc
  obtain ⟨hj, rfl⟩ := List.getElem?_eq_some_iff.1 hd
  rcases Nat.lt_or_ge i j with h' | h'
  · exact UInt8.le_of_lt (List.pairwise_iff_getElem.1 h i j hi hj h')
  · obtain rfl : i = j := by omega
    exact UInt8.le_refl _
theorem Halves.up {bs : List UInt8} {c d : UInt8} {lo hi m : Nat} (hr : bs.Pairwise (· < ·)) (h : Halves bs c lo hi) (hm : bs[m]? = some d) (hd : d < c) : Halves bs c (m + 1) hi :=
  ⟨fun i e hi he => UInt8.lt_of_le_of_lt (rise_at hr (by omega) he hm) hd, h.2⟩
theorem Halves.down {bs : List UInt8} {c d : UInt8} {lo hi m : Nat} (hr : bs.Pairwise (· < ·)) (h : Halves bs c lo hi) (hm : bs[m]? = some d) (hd : ¬ d < c) : Halves bs c lo m :=
  ⟨h.1, fun i e hi he => UInt8.le_trans (UInt8.not_lt.1 hd) (rise_at hr hi hm he)⟩
theorem Halves.hit {bs : List UInt8} {c : UInt8} {n : Nat} (hm : bs[n]? = some c) : Sought bs c n true :=
  ⟨(decide_eq_true (List.mem_of_getElem? hm)).symm, fun _ => hm⟩
theorem Halves.miss {bs : List UInt8} {c : UInt8} {n : Nat} (hr : bs.Pairwise (· < ·)) (h : Halves bs c n n) (hm : bs[n]? ≠ some c) : Sought bs c n false := by
  have hn : c ∉ bs := fun hc => by
    obtain ⟨i, hi⟩ := List.mem_iff_getElem?.1 hc
    rcases Nat.lt_trichotomy i n with h1 | h1 | h1
    · exact UInt8.lt_irrefl _ (h.1 i c h1 hi)
    · subst h1; exact hm hi
    · have hl := (List.getElem?_eq_some_iff.1 hi).1
      have he : bs[n]? = some (bs[n]'(by omega)) := List.getElem?_eq_getElem (by omega)
      have h2 := h.2 n _ (Nat.le_refl _) he
      have h3 := rise_at hr (Nat.le_of_lt h1) he hi
      rw [UInt8.le_antisymm h3 h2] at he
      exact hm he
  exact ⟨(decide_eq_false hn).symm, fun hc => absurd hc hn⟩

set_option maxHeartbeats 2000000 in
set_option maxRecDepth 100000 in
theorem trseek_any {w : World} {a : Option Addr} {len cap : Nat} {rs : List Rc} (h : IsRcs w a len rs) (hlen : len ≤ 2147483647) (c : UInt8) (hr : (rs.map Rc.last).Pairwise (· < ·)) :
    Calls Tryz.prog 107 #[.slice a len cap, .int .u8 (c.toNat : Int), .func (.func 108) #[] #[]] w (RetSk (rs.map Rc.last) c w) := by
  have eg := trcmp_enters
  have hl := h.1
  have HH := Lib.hid h
  have HR := Lib.hid hr
  have HC := Lib.hid trcmp_any
  clear h hr
  go_enter Tryz.func107, Tryz.ntmps107
  go_wp2
  go_loopw [9, 10] (fun x y wr => ∃ lo hi : Nat, x = .int .i64 lo ∧ y = .int .i64 hi ∧ lo ≤ hi ∧ hi ≤ len ∧ Hid (Halves (rs.map Rc.last) c lo hi) ∧ Below w.heap.size w wr) (fun x y _ => (RowKit.intOf y).toNat - (RowKit.intOf x).toNat)
  case atStart => exact ⟨0, len, rfl, rfl, Nat.zero_le _, Nat.le_refl _, Lib.hid ⟨fun i d hi _ => by omega, fun i d hi hd => by have := (List.getElem?_eq_some_iff.1 hd).1; rw [List.length_map] at this; omega⟩, Below.refl _ _⟩
  case round =>
    obtain ⟨lo, hi, rfl, rfl, hlh, hin, HV, hbe⟩ := hrel
    have hsz := hbe.size
    by_cases hlt : lo < hi
    · obtain ⟨b, off, rfl, r, hf, hat⟩ := rc_at HH.out hbe ((lo + hi) / 2) (by omega)
      obtain ⟨e0, e1, e2, e3, e4⟩ := hat
      have HK := Lib.hid (HC.out r c wr)
      have hm : (rs.map Rc.last)[(lo + hi) / 2]? = some r.last := by rw [List.getElem?_map, hf]; rfl
      unfold rcV at HK
      by_cases hq : r.last < c
      · have HV2 := Lib.hid (HV.out.up HR.out hm hq)
        have hq2 : (r.last.toNat : Int) - (c.toNat : Int) < 0 := by rw [UInt8.lt_iff_toNat_lt] at hq; omega
        clear hf hm hq HV
        go_wp2_with fail
        refine HK.out.mono ?_
        rintro e w2 ⟨rfl, hb2⟩
        have d2 := Lib.hid (hbe.trans (hb2.mono hsz))
        clear HK hb2 e0 e1 e2 e3 e4 hbe
        go_wp2
        exact ⟨⟨(lo + hi) / 2 + 1, hi, by rw [show ((lo : Int) + (hi : Int)) / 2 + 1 = (((lo + hi) / 2 + 1 : Nat) : Int) by omega], rfl, by omega, hin, HV2, d2.out⟩, by simp [RowKit.intOf]; omega⟩
      · have HV2 := Lib.hid (HV.out.down HR.out hm hq)
        have hq2 : ¬ (r.last.toNat : Int) - (c.toNat : Int) < 0 := by rw [UInt8.lt_iff_toNat_lt] at hq; omega
        clear hf hm hq HV
        go_wp2_with fail
        refine HK.out.mono ?_
        rintro e w2 ⟨rfl, hb2⟩
        have d2 := Lib.hid (hbe.trans (hb2.mono hsz))
        clear HK hb2 e0 e1 e2 e3 e4 hbe
        go_wp2
        exact ⟨⟨lo, (lo + hi) / 2, rfl, by rw [show ((lo : Int) + (hi : Int)) / 2 = (((lo + hi) / 2 : Nat) : Int) by omega], by omega, by omega, HV2, d2.out⟩, by simp [RowKit.intOf]; omega⟩
    · obtain rfl : hi = lo := by omega
      by_cases hn : hi < len
      · obtain ⟨b, off, rfl, r, hf, hat⟩ := rc_at HH.out hbe hi hn
        obtain ⟨e0, e1, e2, e3, e4⟩ := hat
        have HK := Lib.hid (HC.out r c wr)
        have hm : (rs.map Rc.last)[hi]? = some r.last := by rw [List.getElem?_map, hf]; rfl
        unfold rcV at HK
        have g0 : (0 : Int) ≤ (hi : Int) := by omega
        have g1 : (hi : Int) < (len : Int) := by omega
        by_cases hq : r.last = c
        · have HS := Lib.hid (Halves.hit (c := c) (by rw [hm, hq]))
          have hq2 : (r.last.toNat : Int) - (c.toNat : Int) = 0 := by rw [hq]; omega
          clear hf hm hq HV
          go_wp2_with fail
          refine HK.out.mono ?_
          rintro e w2 ⟨rfl, hb2⟩
          have d2 := Lib.hid (hbe.trans (hb2.mono hsz))
          clear HK hb2 e0 e1 e2 e3 e4 hbe
          go_wp2
          go_ret2
          exact ⟨hi, true, rfl, HS.out, d2.out⟩
        · have HS := Lib.hid (HV.out.miss HR.out (by rw [hm]; simpa using hq))
          have hq2 : ¬ (r.last.toNat : Int) - (c.toNat : Int) = 0 := fun h0 => hq (UInt8.toNat_inj.1 (by omega))
          have hq3 : ((r.last.toNat : Int) - (c.toNat : Int) == 0) = false := by simpa using hq2
          clear hf hm hq HV
          go_wp2_with fail
          refine HK.out.mono ?_
          rintro e w2 ⟨rfl, hb2⟩
          have d2 := Lib.hid (hbe.trans (hb2.mono hsz))
          clear HK hb2 e0 e1 e2 e3 e4 hbe
          go_wp2
          go_ret2
          exact ⟨hi, false, rfl, HS.out, d2.out⟩
      · have HS := Lib.hid (HV.out.miss HR.out (by rw [List.getElem?_eq_none (by rw [List.length_map]; omega)]; simp))
        have g1 : ¬ (hi : Int) < (len : Int) := by omega
        clear HV
        go_wp2
        go_ret2
        exact ⟨hi, false, rfl, HS.out, hbe⟩

/-- What Next tells of a state's bytes. -/
def RetNx (bs : List UInt8) (o : Nat) (c : UInt8) (w : World) (e : Ending) (w' : World) : Prop :=
  ((c ∈ bs → ∃ n : Nat, e = .returned (.tuple #[.int .i64 ((o + n : Nat) : Int), .bool true]) ∧ bs[n]? = some c) ∧ (c ∉ bs → e = .returned (.tuple #[.int .i64 0, .bool false]))) ∧ Below w.heap.size w w'
set_option maxHeartbeats 1000000 in
theorem trnext_out {w : World} {q p : Option Addr} {R : List Rc} (h : HasTr w q p R) (s : Int) (hs : s < 0 ∨ (R.length : Int) ≤ s + 1) (c : UInt8) : Calls Tryz.prog 81 #[.pointer q, .int .i64 s, .int .u8 (c.toNat : Int)] w fun e w' => e = .returned (.tuple #[.int .i64 0, .bool false]) ∧ Below w.heap.size w w' := by
  have HS := Lib.hid (trbelow_out h s hs)
  have HK := Lib.hid (trseek_any (w := w) (a := none) (len := 0) (cap := 0) (rs := []) ⟨rfl, .inl rfl⟩ (by omega) c (by simp))
  clear h hs
  go_enter Tryz.func81, Tryz.ntmps81
  go_wp2_with fail
  refine HS.out.mono ?_
  rintro e w' ⟨rfl, rfl⟩
  go_wp2_with fail
  refine HK.out.mono ?_
  rintro e w2 ⟨n, β, rfl, ⟨hβ, _⟩, hb⟩
  simp only [List.map_nil, List.not_mem_nil, decide_false] at hβ
  subst hβ
  clear HK
  go_wp2
  go_ret2
  exact ⟨rfl, hb⟩
set_option maxHeartbeats 1000000 in
theorem trnext_in {w : World} {q p : Option Addr} {R : List Rc} (h : HasTr w q p R) (k : Nat) (r r' : Rc) (hr : R[k]? = some r) (hr' : R[k + 1]? = some r') (h1 : r.below ≤ r'.below) (h2 : r'.below ≤ R.length) (c : UInt8)
    (hrise : (((R.drop r.below).take (r'.below - r.below)).map Rc.last).Pairwise (· < ·)) :
    Calls Tryz.prog 81 #[.pointer q, .int .i64 (k : Int), .int .u8 (c.toNat : Int)] w (RetNx (((R.drop r.below).take (r'.below - r.below)).map Rc.last) r.below c w) := by
  have hm := h.few
  have HB := Lib.hid (trbelow_in h k r r' hr hr' h1 h2)
  have hk := (List.getElem?_eq_some_iff.1 hr).1
  obtain ⟨base, b, rfl, ht⟩ := h.some hk
  obtain ⟨g, cap, c0, c1, hcap, _, hg, hat⟩ := ht.reads
  have e2 := (hat k r hr).c2
  have hblt := ht.lt
  have g0 : (0 : Int) ≤ (k : Int) := by omega
  have g1 : (k : Int) < (R.length : Int) := by omega
  have HK : Hid (∀ (a : Option Addr) (cap : Nat) (W : World), IsRcs W a (r'.below - r.below) ((R.drop r.below).take (r'.below - r.below)) → _) := Lib.hid fun a cap W hW => trseek_any (cap := cap) hW (by omega) c hrise
  have hlen : ((R.drop r.below).take (r'.below - r.below)).length ≤ R.length := by rw [List.length_take, List.length_drop]; omega
  generalize (R.drop r.below).take (r'.below - r.below) = L at *
  generalize r'.below - r.below = n at *
  clear h ht hat hr hr' hrise
  go_enter Tryz.func81, Tryz.ntmps81
  go_wp2_with fail
  refine HB.out.mono ?_
  rintro e w' ⟨⟨a, cap', rfl, hL⟩, m, rfl⟩
  have HL := Lib.hid (HK.out a cap' (w.drewN m) (hL.below (below_drewS (Below.refl _ _) m)))
  clear HK HB hL
  go_wp2_with fail
  refine HL.out.mono ?_
  rintro e w2 ⟨i, β, rfl, ⟨hβ, hi⟩, hb⟩
  clear HL
  have hb' : Below w.heap.size w w2 := (below_drewS (Below.refl _ _) m).trans hb
  have d1 : w2.cell? ⟨b, 1, none⟩ = some (.slice (some ⟨g, 0, none⟩) R.length cap) := (hb'.cell (p := ⟨b, 1, none⟩) hblt).trans c1
  have d2 : w2.cell? ⟨g, k * 5 + 2, none⟩ = some (.int .i32 (r.below : Int)) := (hb'.cell (p := ⟨g, k * 5 + 2, none⟩) hg).trans e2
  have HB := Lib.hid hb'
  clear hb hb' c0 c1 e2
  by_cases hc : c ∈ L.map Rc.last
  · have hi2 := Lib.hid (hi hc)
    rw [decide_eq_true hc] at hβ
    subst hβ
    have hil := (List.getElem?_eq_some_iff.1 (hi hc)).1
    rw [List.length_map] at hil
    have hw : IntKind.i64.wrap (r.below : Int) = (r.below : Int) := by rw [IntKind.wrap_i64]; omega
    have hw2 : IntKind.i64.wrap ((r.below : Int) + (i : Int)) = (r.below : Int) + (i : Int) := by rw [IntKind.wrap_i64]; omega
    have HC := Lib.hid hc
    clear hc hi
    go_wp2
    go_ret2
    exact ⟨⟨fun _ => ⟨i, by rw [show ((r.below + i : Nat) : Int) = (r.below : Int) + (i : Int) by omega]; rfl, hi2.out⟩, fun hh => absurd HC.out hh⟩, HB.out⟩
  · rw [decide_eq_false hc] at hβ
    subst hβ
    have HC := Lib.hid hc
    clear hc hi
    go_wp2
    go_ret2
    exact ⟨⟨fun hh => absurd hh HC.out, fun _ => rfl⟩, HB.out⟩
end Go.Proofs.YtpblllpgmibkoaaGreat

namespace Go.Proofs.YtpblllpgmibkoaaGreat
open Go.RowKit

theorem trbyte_info : (Tryz.prog.info? 5).map (fun i => (i.zero, i.size, i.bytes)) = some (some (.int .u8 0), 1, 1) := by kernel_rfl
theorem trbyte_one {x : Int} : ∀ v ∈ [Value.int .u8 x], v.oneCell' = true := by
  intro v hv
  simp at hv
  subst hv; rfl
theorem trcells_snoc (l : List UInt8) (c : UInt8) : Lib.byteCells (l ++ [c]) = Lib.byteCells l ++ [.int .u8 (c.toNat : Int)] := by simp [Lib.byteCells]
/-- A slice of bytes of the call's own, as a string says it. -/
theorem trown_text {w : World} {base : Nat} {v : Value} {l : List UInt8} (h : w.ownsRow base 5 1 v l.length (Lib.byteCells l)) : (convert 70 9 v).run Tryz.prog w = .ok (.string ⟨l.toArray⟩) w := by
  rcases h.2 with ⟨rfl, h0⟩ | ⟨g, cap, cur, rfl, _⟩
  · obtain rfl := List.length_eq_zero_iff.1 h0
    rw [run_convert_bytes_string w 70 9 5 none 0 0 Tryz.underlying70 Tryz.underlying5 Tryz.underlying9]
    rfl
  · refine run_convert_bytes_back w 70 9 5 _ _ l Tryz.underlying70 Tryz.underlying5 Tryz.underlying9 (fun j hj => ?_)
    exact h.cells (g := g) rfl j _ (by simp [Lib.byteCells, List.getElem?_eq_getElem hj])
end Go.Proofs.YtpblllpgmibkoaaGreat

namespace Go.Proofs.YtpblllpgmibkoaaGreat
open Go.RowKit

theorem IsTrie.below {w w' : World} {q p : Option Addr} {us S : List (List UInt8)} (h : IsTrie w q p us S) (hb : Below w.heap.size w w') : IsTrie w' q p us S := by
  obtain ⟨R, h1, h2, h3, h4⟩ := h
  exact ⟨R, h1.below hb, h2, h3, h4.below hb⟩
theorem IsTrie.st {w : World} {q p : Option Addr} {us S : List (List UInt8)} (h : IsTrie w q p us S) : IsSt us S := by
  obtain ⟨R, h1, h2, h3, h4⟩ := h
  exact h3.done
theorem IsTrie.few {w : World} {q p : Option Addr} {us S : List (List UInt8)} (h : IsTrie w q p us S) : 1 ≤ S.length ∧ S.length ≤ totalL us + 1 ∧ S.length ≤ 16777217 := by
  obtain ⟨R, h1, h2, h3, h4⟩ := h
  have := (pats_each h4).2.2
  exact ⟨h3.le.2, h3.few, by have := h3.few; omega⟩
theorem ts_len {w : World} {q p : Option Addr} {us S : List (List UInt8)} (h : IsTrie w q p us S) : Calls Tryz.prog 56 #[.pointer q] w fun e w' => e = .returned (.int .i64 (S.length : Int)) ∧ w' = w := by
  obtain ⟨R, h1, h2, h3, h4⟩ := h
  rw [← h2.1]
  exact trlen_any h1
theorem ts_depth {w : World} {q p : Option Addr} {us S : List (List UInt8)} (h : IsTrie w q p us S) (k : Nat) {s : List UInt8} (hs : S[k]? = some s) : Calls Tryz.prog 34 #[.pointer q, .int .i64 (k : Int)] w fun e w' => e = .returned (.int .i64 (s.length : Int)) ∧ Below w.heap.size w w' := by
  obtain ⟨R, h1, h2, h3, h4⟩ := h
  obtain ⟨r, hr, _, _, hd, _⟩ := h2.at hs
  have := trdepth_any h1 (k : Int)
  rw [rcOf_in hr, hd] at this
  exact this
theorem ts_above {w : World} {q p : Option Addr} {us S : List (List UInt8)} (h : IsTrie w q p us S) (k : Nat) {s : List UInt8} (hs : S[k]? = some s) : ∃ a : Nat, S[a]? = some s.dropLast ∧ a ≤ k ∧
    Calls Tryz.prog 84 #[.pointer q, .int .i64 (k : Int)] w fun e w' => e = .returned (.tuple #[.int .i64 (a : Int), .int .u8 ((s.getLastD 0).toNat : Int), .bool (decide (0 < s.length))]) ∧ Below w.heap.size w w' := by
  obtain ⟨R, h1, h2, h3, h4⟩ := h
  obtain ⟨r, hr, _, _, hd, hl, ha, hk⟩ := h2.at hs
  have := trabove_any h1 (k : Int)
  rw [rcOf_in hr, hd, hl] at this
  exact ⟨_, ha, hk, this⟩
/-- The first pattern of a state begins with it. -/
theorem first_take {us S : List (List UInt8)} (ha : Asc us) (h : IsSt us S) {s : List UInt8} (hs : s ∈ S) : s.length ≤ (us.getD (frL us s) []).length ∧ (us.getD (frL us s) []).take s.length = s := by
  rcases (h.2 s).1 hs with rfl | hb
  · simp
  · have hr := range_pos ha hb
    have hl := to_le us s
    have e1 : us[frL us s]? = some (us[frL us s]'(by omega)) := List.getElem?_eq_getElem (by omega)
    have hp := (in_iff ha e1).2 ⟨Nat.le_refl _, hr⟩
    rw [List.getD_eq_getElem?_getD, e1]
    exact ⟨hp.length_le, (List.prefix_iff_eq_take.1 hp).symm⟩
theorem ts_ends {w : World} {q p : Option Addr} {us S : List (List UInt8)} (h : IsTrie w q p us S) (ha : Asc us) (k : Nat) {s : List UInt8} (hs : S[k]? = some s) : Calls Tryz.prog 86 #[.pointer q, .int .i64 (k : Int)] w fun e w' =>
    ((s ∈ us → e = .returned (.tuple #[.int .i64 (frL us s : Int), .bool true])) ∧ (s ∉ us → e = .returned (.tuple #[.int .i64 0, .bool false]))) ∧ Below w.heap.size w w' := by
  have hst := h.st
  obtain ⟨R, h1, h2, h3, h4⟩ := h
  obtain ⟨r, hr, hf, _, hd, _⟩ := h2.at hs
  have hi := endr_iff ha ((hst.2 s).1 (List.mem_of_getElem? hs)) hf hd
  refine (trends_in h1 h4 k r hr (by have := (pats_each h4).2.1; omega)).mono ?_
  rintro e w' ⟨⟨e1, e2⟩, hb⟩
  rw [hf] at e1
  exact ⟨⟨fun hm => e1 (hi.2 hm), fun hm => e2 fun he => hm (hi.1 he)⟩, hb⟩
/-- Where a pattern stands that a state is. -/
theorem ends_at {us : List (List UInt8)} (ha : Asc us) {s : List UInt8} (hs : s ∈ us) : us[frL us s]? = some s := by
  have hb : begL us s = true := beg_iff.2 ⟨s, hs, List.prefix_refl s⟩
  have hr := range_pos ha hb
  have hl := to_le us s
  have e1 : us[frL us s]? = some (us[frL us s]'(by omega)) := List.getElem?_eq_getElem (by omega)
  have hp := (in_iff ha e1).2 ⟨Nat.le_refl _, hr⟩
  exact e1.trans (congrArg some (hp.eq_of_length ((first_is ha e1 hp).2 hs).symm).symm)

/-- What is kept of the states below one. -/
theorem kids_kept {us S : List (List UInt8)} {R : List Rc} (hb : Bfs us S.length S) (hR : RecOk us S S.length R) {k : Nat} {s s' : List UInt8} (hs : S[k]? = some s) (hs' : S[k + 1]? = some s') : ∃ r r', R[k]? = some r ∧ R[k + 1]? = some r' ∧ r.below = offL us S k ∧
    r.below ≤ r'.below ∧ r'.below ≤ R.length ∧ ((R.drop r.below).take (r'.below - r.below)).map Rc.last = kidsL us s := by
  have hk := (List.getElem?_eq_some_iff.1 hs').1
  obtain ⟨r, hr, _, h2, _⟩ := hR.at hs
  obtain ⟨r', hr', _, h2', _⟩ := hR.at hs'
  rw [if_pos (by omega)] at h2 h2'
  have ho := off_snoc (us := us) hs
  have hle := off_le hb (i := k + 1) (by omega)
  refine ⟨r, r', hr, hr', h2, by omega, by rw [hR.1]; omega, ?_⟩
  rw [h2, h2', ho, Nat.add_sub_cancel_left]
  refine List.ext_getElem? fun j => ?_
  rw [List.getElem?_map, List.getElem?_take]
  by_cases hj : j < (kidsL us s).length
  · rw [if_pos hj, List.getElem?_drop]
    have hc : (kidsL us s)[j]? = some (kidsL us s)[j] := List.getElem?_eq_getElem hj
    obtain ⟨x, hx, _, _, _, hxl, _⟩ := hR.at (hb.at (by omega) hs hc)
    rw [hx, hc, Option.map_some, hxl]
    simp
  · rw [if_neg hj, List.getElem?_eq_none (by omega)]; rfl
theorem ts_next {w : World} {q p : Option Addr} {us S : List (List UInt8)} (h : IsTrie w q p us S) (k : Nat) {s : List UInt8} (hs : S[k]? = some s) (c : UInt8) : Calls Tryz.prog 81 #[.pointer q, .int .i64 (k : Int), .int .u8 (c.toNat : Int)] w fun e w' =>
    ((s ++ [c] ∈ S → ∃ n : Nat, e = .returned (.tuple #[.int .i64 (n : Int), .bool true]) ∧ S[n]? = some (s ++ [c])) ∧ (s ++ [c] ∉ S → e = .returned (.tuple #[.int .i64 0, .bool false]))) ∧ Below w.heap.size w w' := by
  have hst := h.st
  obtain ⟨R, h1, h2, h3, h4⟩ := h
  have hk := (List.getElem?_eq_some_iff.1 hs).1
  have hi : s ++ [c] ∈ S ↔ c ∈ kidsL us s := by
    rw [hst.2, kids_mem]
    simp
  by_cases hl : k + 1 < S.length
  · obtain ⟨r, r', hr, hr', ho, hle1, hle2, hm⟩ := kids_kept h3 h2 hs (List.getElem?_eq_getElem hl)
    refine (trnext_in h1 k r r' hr hr' hle1 hle2 c (by rw [hm]; exact kids_rise us s)).mono ?_
    rintro e w' ⟨⟨e1, e2⟩, hb⟩
    rw [hm] at e1 e2
    refine ⟨⟨fun hh => ?_, fun hh => e2 fun hx => hh (hi.2 hx)⟩, hb⟩
    obtain ⟨n, he, hn⟩ := e1 (hi.1 hh)
    rw [ho] at he
    exact ⟨_, he, h3.at hk hs hn⟩
  · have hkk : k = S.length - 1 := by omega
    have hn := last_none hst (by rw [← hkk]; exact hs)
    refine (trnext_out h1 (k : Int) (.inr (by rw [h2.1]; omega)) c).mono ?_
    rintro e w' ⟨he, hb⟩
    exact ⟨⟨fun hh => by rw [hi, hn] at hh; simp at hh, fun _ => he⟩, hb⟩
theorem st_take {us S : List (List UInt8)} (h : IsSt us S) {t : List UInt8} (ht : t ∈ S) (n : Nat) : t.take n ∈ S := by
  rcases (h.2 t).1 ht with rfl | hb
  · simpa using ht
  · exact (h.2 _).2 (.inr (beg_short hb (List.take_prefix n t)))
end Go.Proofs.YtpblllpgmibkoaaGreat

namespace Go.Proofs.YtpblllpgmibkoaaGreat
open Go.RowKit

theorem pats_nodup {w : World} {p : Option Addr} {us : List (List UInt8)} (h : IsPats w p us) : us.Nodup := by
  rcases h with ⟨_, rfl⟩ | ⟨b, _, _, h⟩
  · exact List.Pairwise.nil
  · exact h.once
/-- A new trie of a set that texts make. -/
theorem trnew_set {w : World} {p : Option Addr} {ws : List (List UInt8)} (h : IsPats w p (setL ws)) :
    Calls Tryz.prog 59 #[.pointer p] w fun e w' => ∃ q S, e = .returned (.pointer q) ∧ IsTrie w' q p (setL ws) S ∧ Below w.heap.size w w' := trnew_any h (set_asc ws) (pats_nodup h)
end Go.Proofs.YtpblllpgmibkoaaGreat

namespace Go.Proofs.YtpblllpgmibkoaaGreat
open Go.RowKit

/-- Of the first m states it is known where they fall back to. -/
structure FlOk (us S : List (List UInt8)) (m : Nat) (F : List (Nat × Nat)) : Prop where
  len : F.length = S.length
  at_ : ∀ (i : Nat) (s : List UInt8), i < m → S[i]? = some s → ∃ a b : Nat, F[i]? = some (a, b) ∧ S[a]? = some (fbL S s) ∧ S[b]? = some (fbL us s)
/-- Links of a trie of a set: of the first m states it is known where they fall back to. -/
structure IsLink (w : World) (k q p : Option Addr) (us S : List (List UInt8)) (m : Nat) (F : List (Nat × Nat)) : Prop where
  has : HasLk w k q F
  tr : IsTrie w q p us S
  asc : Asc us
  ok : FlOk us S m F
theorem IsLink.below {w w' : World} {k q p : Option Addr} {us S : List (List UInt8)} {m : Nat} {F : List (Nat × Nat)} (h : IsLink w k q p us S m F) (hb : Below w.heap.size w w') : IsLink w' k q p us S m F :=
  ⟨h.has.below hb, h.tr.below hb, h.asc, h.ok⟩
theorem IsLink.root {w : World} {k q p : Option Addr} {us S : List (List UInt8)} {m : Nat} {F : List (Nat × Nat)} (h : IsLink w k q p us S m F) : S[0]? = some [] := by
  obtain ⟨R, _, _, h3, _⟩ := h.tr
  exact h3.root
theorem IsLink.zero {w : World} {k q p : Option Addr} {us S : List (List UInt8)} {m : Nat} {F : List (Nat × Nat)} (h : IsLink w k q p us S m F) {i : Nat} {s : List UInt8} (hs : S[i]? = some s) : i = 0 ↔ s = [] := by
  constructor
  · rintro rfl
    rw [h.root] at hs
    exact (Option.some.inj hs).symm
  · rintro rfl
    exact rise_same h.tr.st.1 hs h.root
theorem IsLink.less {w : World} {k q p : Option Addr} {us S : List (List UInt8)} {m : Nat} {F : List (Nat × Nat)} (h : IsLink w k q p us S m F) {i j : Nat} {s t : List UInt8} (hs : S[i]? = some s) (ht : S[j]? = some t) (hl : s.length < t.length) : i < j := rise_lt h.tr.st.1 hs ht (.inl hl)
theorem IsLink.mem {w : World} {k q p : Option Addr} {us S : List (List UInt8)} {m : Nat} {F : List (Nat × Nat)} (h : IsLink w k q p us S m F) : [] ∈ S := st_root h.tr.st
theorem IsLink.flen {w : World} {k q p : Option Addr} {us S : List (List UInt8)} {m : Nat} {F : List (Nat × Nat)} (h : IsLink w k q p us S m F) : F.length = S.length := h.ok.len

set_option maxHeartbeats 1000000 in
theorem lkstep_out {w : World} {k q : Option Addr} {F : List (Nat × Nat)} (h : HasLk w k q F) (s : Int) (hs : s < 0 ∨ (F.length : Int) ≤ s) (c : UInt8) : Calls Tryz.prog 85 #[.pointer k, .int .i64 s, .int .u8 (c.toNat : Int)] w fun e w' => e = .returned (.int .i64 0) ∧ w' = w := by
  have HS := Lib.hid (lkis_out h s hs)
  clear h hs
  go_enter Tryz.func85, Tryz.ntmps85
  go_wp2_with fail
  refine HS.out.mono ?_
  rintro e w' ⟨rfl, rfl⟩
  go_wp2
  go_ret
  exact ⟨rfl, rfl⟩

set_option maxHeartbeats 2000000 in
theorem lkstep_in {w : World} {k q p : Option Addr} {us S : List (List UInt8)} {m : Nat} {F : List (Nat × Nat)} (h : IsLink w k q p us S m F) (i : Nat) {s : List UInt8} (hs : S[i]? = some s) (hi : i < m) (c : UInt8) :
    Calls Tryz.prog 85 #[.pointer k, .int .i64 (i : Int), .int .u8 (c.toNat : Int)] w fun e w' => ∃ n : Nat, e = .returned (.int .i64 (n : Int)) ∧ S[n]? = some (lgL S (s ++ [c])) ∧ Below w.heap.size w w' := by
  have hil := (List.getElem?_eq_some_iff.1 hs).1
  have HS := Lib.hid (lkis_in h.has i (by rw [h.flen]; exact hil))
  obtain ⟨base, b, g, rfl, hk⟩ := h.has.some (i := i) (by rw [h.flen]; exact hil)
  have HH := Lib.hid h
  have HK := Lib.hid hk
  have c0 := hk.reads.1
  have hi0 := Lib.hid hi
  have hs0 := Lib.hid hs
  clear h hk hil hi hs
  go_enter Tryz.func85, Tryz.ntmps85
  go_wp2_with fail
  refine HS.out.mono ?_
  rintro e w' ⟨rfl, hw'⟩
  obtain rfl := hw'.symm
  clear hw' HS
  go_wp2
  go_loopw [1, 7, 8] (fun x _ _ wr => ∃ (j : Nat) (t : List UInt8), x = .int .i64 j ∧ Hid (j < m) ∧ Hid (S[j]? = some t) ∧ Hid (lgL S (s ++ [c]) = lgL S (t ++ [c])) ∧ Below w.heap.size w wr) (fun x _ _ _ => (RowKit.intOf x).toNat)
  case atStart => exact ⟨i, s, rfl, hi0, hs0, Lib.hid rfl, Below.refl _ _⟩
  case round =>
    clear hi0 hs0 c0
    obtain ⟨j, t, rfl, hj, ht, hg, hbe⟩ := hrel
    have hsz := hbe.size
    have c0 := (HK.out.below hbe).reads.1
    have HN := Lib.hid (ts_next (HH.out.below hbe).tr j ht.out c)
    by_cases hm : t ++ [c] ∈ S
    · go_wp2_with fail
      refine HN.out.mono ?_
      rintro e w2 ⟨⟨h1, _⟩, hb2⟩
      obtain ⟨n, rfl, hn⟩ := h1 hm
      have HE := Lib.hid (show S[n]? = some (lgL S (s ++ [c])) by rw [hg.out, lg_hit hm]; exact hn)
      have d2 := Lib.hid (hbe.trans (hb2.mono hsz))
      clear h1 hb2 HN hn hm hbe hg ht
      go_wp2
      go_ret
      exact ⟨n, rfl, HE.out, d2.out⟩
    · by_cases h0 : j = 0
      · have e0 := (HH.out.zero ht.out).1 h0
        subst h0
        have HE := Lib.hid (show S[0]? = some (lgL S (s ++ [c])) by
          rw [hg.out, lg_miss hm, e0]; exact HH.out.root)
        go_wp2_with fail
        refine HN.out.mono ?_
        rintro e w2 ⟨⟨_, h1⟩, hb2⟩
        obtain rfl := h1 hm
        have d2 := Lib.hid (hbe.trans (hb2.mono hsz))
        clear h1 hb2 HN hm hbe hg ht e0
        go_wp2
        go_ret
        exact ⟨0, rfl, HE.out, d2.out⟩
      · have e0 : t ≠ [] := fun e => h0 ((HH.out.zero ht.out).2 e)
        have g0 : ((j : Int) == 0) = false := by simp; omega
        have g1 : ¬ (j : Int) = 0 := by omega
        have g2 : (j == 0) = false := by simp; omega
        obtain ⟨a, a', hF, ha, _⟩ := HH.out.ok.at_ j t hj.out ht.out
        have hlt := HH.out.less ha ht.out (fb_less e0)
        have HF := Lib.hid (fun W hb => lkfail_any ((HH.out.below (w' := W) hb).has) (j : Int))
        rw [flOf_in hF] at HF
        have HE := Lib.hid (show lgL S (s ++ [c]) = lgL S (fbL S t ++ [c]) by
          rw [hg.out]; exact lg_step HH.out.tr.st c e0 hm)
        have hj2 := Lib.hid (Nat.lt_trans hlt hj.out)
        have ha2 := Lib.hid ha
        go_wp2_with fail
        refine HN.out.mono ?_
        rintro e w2 ⟨⟨_, h1⟩, hb2⟩
        obtain rfl := h1 hm
        have d2 := Lib.hid (hbe.trans (hb2.mono hsz))
        have HF2 := Lib.hid (HF.out w2 d2.out)
        clear h1 hb2 HN hm hbe hg ht e0 ha hF hj HF hsz
        go_wp2_with fail
        refine HF2.out.mono ?_
        rintro e w3 ⟨rfl, hb3⟩
        have d3 := Lib.hid (d2.out.trans (hb3.mono d2.out.size))
        clear hb3 HF2
        go_wp2
        exact ⟨⟨a, _, rfl, hj2, ha2, HE, d3.out⟩, by simp [RowKit.intOf]; omega⟩
end Go.Proofs.YtpblllpgmibkoaaGreat

namespace Go.Proofs.YtpblllpgmibkoaaGreat
open Go.RowKit

set_option maxHeartbeats 1000000 in
theorem trbytes_out {w : World} {q p : Option Addr} {R : List Rc} (h : HasTr w q p R) (s : Int) (hs : s < 0 ∨ (R.length : Int) ≤ s + 1) : Calls Tryz.prog 80 #[.pointer q, .int .i64 s] w fun e w' => e = .returned (.string ByteArray.empty) ∧ Below w.heap.size w w' := by
  have HS := Lib.hid (trbelow_out h s hs)
  have hct := fun W : World => trown_text (w := W) (base := 0) (v := .slice none 0 0) (l := []) (World.ownsRow_nil _ _ _ _)
  clear h hs
  go_enter Tryz.func80, Tryz.ntmps80
  go_wp2_with fail
  refine HS.out.mono ?_
  rintro e w' ⟨rfl, rfl⟩
  go_wp2
  go_loopw [5, 12] (fun v i wr => v = .slice none 0 0 ∧ i = .int .i64 0 ∧ wr = w') (fun _ _ _ => 0)
  case atStart => exact ⟨rfl, rfl, rfl⟩
  case round =>
    obtain ⟨rfl, rfl, rfl⟩ := hrel
    go_wp2
    go_ret
    exact ⟨rfl, Below.refl _ _⟩

set_option maxRecDepth 100000 in
set_option maxHeartbeats 2000000 in
theorem trbytes_in {w : World} {q p : Option Addr} {R : List Rc} (h : HasTr w q p R) (k : Nat) (r r' : Rc) (hr : R[k]? = some r) (hr' : R[k + 1]? = some r') (h1 : r.below ≤ r'.below) (h2 : r'.below ≤ R.length) :
    Calls Tryz.prog 80 #[.pointer q, .int .i64 (k : Int)] w fun e w' => e = .returned (.string ⟨((((R.drop r.below).take (r'.below - r.below)).map Rc.last)).toArray⟩) ∧ Below w.heap.size w w' := by
  obtain ⟨i0, hi, hz0, hz1, hz2⟩ := info_parts trbyte_info
  have hm := h.few
  have HB := Lib.hid (trbelow_in h k r r' hr hr' h1 h2)
  generalize (R.drop r.below).take (r'.below - r.below) = L at *
  have hn : r'.below - r.below ≤ 2147483647 := by omega
  generalize r'.below - r.below = n at *
  clear h hr hr' h1 h2
  go_enter Tryz.func80, Tryz.ntmps80
  go_wp2_with fail
  refine HB.out.mono ?_
  rintro e w' ⟨⟨a, cap', rfl, hL⟩, m, rfl⟩
  have HL := Lib.hid hL
  have hl := hL.1
  clear hL HB
  go_wp2
  go_loopw [5, 12] (fun v i wr => ∃ j : Nat, j ≤ n ∧ i = .int .i64 j ∧ Hid (wr.ownsRow w.heap.size 5 1 v ((L.take j).map Rc.last).length (Lib.byteCells ((L.take j).map Rc.last))) ∧ Below w.heap.size w wr) (fun _ i _ => n - (RowKit.intOf i).toNat)
  case atStart => exact ⟨0, Nat.zero_le _, rfl, Lib.hid (World.ownsRow_nil _ _ _ _), below_drewS (Below.refl _ _) m⟩
  case round =>
    obtain ⟨j, hj, rfl, HO, hbe⟩ := hrel
    have hsz := hbe.size
    obtain ⟨ao, co, rfl⟩ := owns_slice HO.out
    by_cases hlt : j < n
    · obtain ⟨b, off, rfl, x, hf, hat⟩ := rc_at HL.out hbe j hlt
      obtain ⟨e0, e1, e2, e3, e4⟩ := hat
      have HN : Hid ((L.take (j + 1)).map Rc.last = (L.take j).map Rc.last ++ [x.last]) := Lib.hid (by
        obtain ⟨hk, rfl⟩ := List.getElem?_eq_some_iff.1 hf
        rw [List.take_succ_eq_append_getElem hk, List.map_append]; rfl)
      have hlen : ((L.take j).map Rc.last).length = j := by rw [List.length_map, List.length_take]; omega
      generalize (L.take j).map Rc.last = D at *
      have hown := HO.out
      have g0 : (0 : Int) ≤ (j : Int) := by omega
      have g1 : (j : Int) < (n : Int) := by omega
      have HD := Lib.hid hlen
      clear hlen
      clear hf HO
      have hX : ∀ (o : Obj) (u : Value), ((wr.alloc o).alloc (.cells #[u] 5)).heap[wr.heap.size + 1]? = some (.cells #[u] 5 (0, 0)) := fun o u => by
        have := heap_alloc_new (wr.alloc o) (.cells #[u] 5)
        rwa [show (wr.alloc o).heap.size = wr.heap.size + 1 by simp] at this
      go_wp2_with (at_builtin; refine wpList_append_own _ rfl _ _ 70 rfl w.heap.size 5 i0 (.int .u8 0) 1 1 Tryz.underlying70 hi hz0 hz1 hz2 rfl (by decide) _ _ _ rfl ((hown.alloc _).alloc _) ⟨wr.heap.size + 1, 0, none⟩ 1 1 [.int .u8 (x.last.toNat : Int)] rfl rfl (one_news (hX _ _)) trbyte_one (by have := HD.out; unfold maxLen; omega) (by have := HD.out; omega) (by simp; omega) ?_)
      intro v' w3 hown3 hgrow _
      obtain ⟨a3, cap3, rfl⟩ := owns_slice hown3
      have B3 : Below w.heap.size w w3 := ((hbe.alloc hsz _).alloc (by simp; omega) _).trans ⟨hgrow.os, hgrow.tape, hgrow.output, Nat.le_trans (by simp) hgrow.size, fun i hi => by
        rw [hgrow.block i (by simp; omega) (fun e => by have := (hown.lt i e.symm).1; omega)]⟩
      have HW : Hid (w3.ownsRow w.heap.size 5 1 (.slice a3 (D.length + 1) cap3) ((L.take (j + 1)).map Rc.last).length (Lib.byteCells ((L.take (j + 1)).map Rc.last))) := Lib.hid (by
        rw [HN.out, trcells_snoc, List.length_append]; exact hown3)
      clear hown hown3 hgrow hX e0 e1 e2 e3 e4
      go_wp2
      exact ⟨⟨j + 1, by omega, by go_num, HW, B3⟩, by simp [RowKit.intOf]; omega⟩
    · obtain rfl : j = n := by omega
      have HE : Hid ((L.take j).map Rc.last = L.map Rc.last) := Lib.hid (by rw [List.take_of_length_le (by omega)])
      generalize (L.take j).map Rc.last = D at *
      have hct := trown_text HO.out
      have hz : ¬ (j : Int) < (j : Int) := by omega
      clear HO
      go_wp2
      go_ret
      exact ⟨by rw [← HE.out]; rfl, hbe⟩
end Go.Proofs.YtpblllpgmibkoaaGreat

namespace Go.Proofs.YtpblllpgmibkoaaGreat
open Go.RowKit

theorem ts_bytes {w : World} {q p : Option Addr} {us S : List (List UInt8)} (h : IsTrie w q p us S) (k : Nat) {s : List UInt8} (hs : S[k]? = some s) : Calls Tryz.prog 80 #[.pointer q, .int .i64 (k : Int)] w fun e w' =>
    e = .returned (.string ⟨(kidsL us s).toArray⟩) ∧ Below w.heap.size w w' := by
  have hst := h.st
  obtain ⟨R, h1, h2, h3, h4⟩ := h
  have hk := (List.getElem?_eq_some_iff.1 hs).1
  by_cases hl : k + 1 < S.length
  · obtain ⟨r, r', hr, hr', ho, hle1, hle2, hm⟩ := kids_kept h3 h2 hs (List.getElem?_eq_getElem hl)
    have := trbytes_in h1 k r r' hr hr' hle1 hle2
    rw [hm] at this
    exact this
  · have hkk : k = S.length - 1 := by omega
    have hn := last_none hst (by rw [← hkk]; exact hs)
    rw [hn]
    exact trbytes_out h1 (k : Int) (.inr (by rw [h2.1]; omega))
end Go.Proofs.YtpblllpgmibkoaaGreat

namespace Go.Proofs.YtpblllpgmibkoaaGreat
open Go.RowKit

/-- 'copy' into a row of a block: all else is as it was. -/
theorem wpList_copy_into {P : Program} {w : World} {ops : Array Oper} {rest : List Oper} {o : Oper} {a : Act} {Q : Exit → Act → World → Prop} (hgd : o.guard = none) (d s : Operand) (dT sT : TypeId)
    (ho : o.op = .call { callee := .builtin .copy, args := #[d, s], argTypes := #[dT, sT] }) (elem : TypeId) (hu : P.underlying dT = some (.slice elem)) (hsz : (P.info? elem).map (·.size) = some 1)
    (g off dLen dCap : Nat) (ad : Addr) (sLen sCap : Nat) (hd : a.eval d = .slice (some ⟨g, off, none⟩) dLen dCap) (hs : a.eval s = .slice (some ad) sLen sCap)
    (cur : List Value) (t : TypeId) (hg : w.heap[g]? = some (.cells cur.toArray t (0, 0))) (cs : List Value) (hn : cs.length = Nat.min sLen dLen)
    (hsrc : ∀ j v, cs[j]? = some v → w.cell? (ad.add j) = some v) (hfit : off + cs.length ≤ cur.length) (h1 : ∀ v ∈ cs, v.oneCell' = true)
    (h : ∀ w', Into g w w' → Hid (w'.heap[g]? = some (.cells (splice cur off cs).toArray t (0, 0))) → wpList P ops Q rest (a.put o.dst (goInt cs.length)) w') : wpList P ops Q (o :: rest) a w := by
  refine wpList_copy_own hgd d s dT sT ho elem hu hsz g off dLen dCap ad sLen sCap hd hs cur.toArray t hg cs hn hsrc (by simpa using hfit) h1 ?_
  refine h _ ⟨rfl, rfl, rfl, by simp [World.setRow], fun k hk => setRow_other w g k _ hk⟩ (show _ = _ by simpa [splice] using setRow_heap w g _ _ t _ hg)

theorem dnCells_splice (L : List Nat) (o : Nat) (R : List Nat) : splice (dnCells L) o (dnCells R) = dnCells (splice L o R) := by
  unfold splice dnCells
  rw [List.map_append, List.map_append, List.map_take, List.map_drop, List.length_map]
theorem dn32_info : (Tryz.prog.info? 21).map (·.size) = some 1 := by kernel_rfl
theorem dnOne (R : List Nat) : ∀ v ∈ dnCells R, v.oneCell' = true := by
  intro v hv
  obtain ⟨x, _, rfl⟩ := List.mem_map.1 hv
  rfl
theorem splice_mem {L R : List Nat} {o x : Nat} (h : x ∈ splice L o R) : x ∈ L ∨ x ∈ R := by
  unfold splice at h
  simp only [List.mem_append] at h
  rcases h with h | h | h
  · exact .inl (List.mem_of_mem_take h)
  · exact .inr h
  · exact .inl (List.mem_of_mem_drop h)
theorem seg_mem {L : List Nat} {W i x : Nat} (h : x ∈ seg L W i) : x ∈ L := List.mem_of_mem_drop (List.mem_of_mem_take h)

theorem IsTb.ne {w : World} {b g : Nat} {pc : Option Addr} {n W : Nat} {L : List Nat} (h : IsTb w b g pc n W L) : b ≠ g := fun e => by
  have h1 := h.head
  rw [e, h.row] at h1
  simp at h1
/-- A row is laid. -/
theorem IsTb.lay {w w' : World} {b g : Nat} {pc : Option Addr} {n W : Nat} {L R : List Nat} (h : IsTb w b g pc n W L) {i : Nat} (hi : i < n) (hR : R.length = W) (hfit : ∀ x ∈ R, x ≤ 16777217) (hI : Into g w w') (hrow : w'.heap[g]? = some (.cells (splice (dnCells L) (i * W) (dnCells R)).toArray 21 (0, 0))) : IsTb w' b g pc n W (splice L (i * W) R) := by
  have hin := seg_in (W := W) hi
  have hl : (splice L (i * W) R).length = L.length := length_splice L _ R (by rw [h.len]; omega)
  refine ⟨?_, ?_, by rw [hl]; exact h.len, h.fn, h.fw, h.wp, fun x hx => (splice_mem hx).elim (h.fit x) (hfit x)⟩
  · rw [hl, hI.block b h.ne]; exact h.head
  · rw [hrow, dnCells_splice]
/-- One number is put. -/
theorem IsTb.put {w : World} {b g : Nat} {pc : Option Addr} {n W : Nat} {L : List Nat} (h : IsTb w b g pc n W L) (j x : Nat) (hx : x ≤ 16777217) : IsTb (w.setCell ⟨g, j, none⟩ (.int .i32 (x : Int))) b g pc n W (L.set j x) := by
  refine ⟨?_, ?_, by rw [List.length_set]; exact h.len, h.fn, h.fw, h.wp, fun y hy => ?_⟩
  · rw [List.length_set, put_other h.ne]; exact h.head
  · rw [put_heap h.row]
    congr 2
    unfold dnCells
    rw [List.map_set]
    simp [dnV]
  · rcases List.mem_or_eq_of_mem_set hy with h1 | rfl
    · exact h.fit y h1
    · exact hx
end Go.Proofs.YtpblllpgmibkoaaGreat

namespace Go.Proofs.YtpblllpgmibkoaaGreat
open Go.RowKit

/-- What fallOf tells of a state. -/
def RetFl (us S : List (List UInt8)) (s : List UInt8) (w : World) (e : Ending) (w' : World) : Prop :=
  ∃ a b : Nat, e = .returned (flV (a, b)) ∧ S[a]? = some (fbL S s) ∧ S[b]? = some (fbL us s) ∧ Below w.heap.size w w'

theorem put_two {w : World} {r : Nat} {T : TypeId} {u v : Value} (h : w.heap[r]? = some (.cells #[u, v] T (0, 0))) (x y : Value) : ((w.setCell ⟨r, 0, none⟩ x).setCell ⟨r, 1, none⟩ y).heap[r]? = some (.cells #[x, y] T (0, 0)) := by
  rw [put_heap (put_heap h x) y]; rfl

set_option maxHeartbeats 2000000 in
theorem lkfall_any {w : World} {k q p : Option Addr} {us S : List (List UInt8)} {m : Nat} {F : List (Nat × Nat)} (h : IsLink w k q p us S m F) {s : List UInt8} (hs : S[m]? = some s) :
    Calls Tryz.prog 60 #[.pointer k, .int .i64 (m : Int)] w (RetFl us S s w) := by
  have hil := (List.getElem?_eq_some_iff.1 hs).1
  obtain ⟨base, b, g, rfl, hk⟩ := h.has.some (i := m) (by rw [h.flen]; exact hil)
  have hfew := h.tr.few.2.2
  have HH := Lib.hid h
  have HK := Lib.hid hk
  have hB1 := (Below.refl w.heap.size w).alloc (Nat.le_refl _) (.cells #[.int .i32 0, .int .i32 0] 105)
  obtain ⟨a, hS, hle, hA⟩ := ts_above (h.tr.below hB1) m hs
  have HA := Lib.hid hA
  have c0 := (hk.below hB1).reads.1
  have hcell := heap_alloc_new w (.cells #[.int .i32 0, .int .i32 0] 105)
  have hrs : w.heap.size < (w.alloc (.cells #[.int .i32 0, .int .i32 0] 105)).heap.size := by simp
  clear h hk hA
  go_enter Tryz.func60, Tryz.ntmps60
  go_wp2_with fail
  refine HA.out.mono ?_
  rintro e w2 ⟨rfl, hb2⟩
  have hR2 : w2.heap[w.heap.size]? = some (.cells #[.int .i32 0, .int .i32 0] 105 (0, 0)) := (hb2.block _ hrs).trans hcell
  have d2 := hB1.trans (hb2.mono hB1.size)
  generalize hr : w.heap.size = r at *
  by_cases ha0 : a = 0
  · have e0 := (HH.out.zero hS).1 ha0
    subst ha0
    have hf : fbL S s = [] ∧ fbL us s = [] := by
      match s, e0 with
      | [], _ => exact ⟨rfl, rfl⟩
      | [x], _ => exact ⟨rfl, rfl⟩
    have HE : Hid (S[0]? = some (fbL S s) ∧ S[0]? = some (fbL us s)) := Lib.hid (by rw [hf.1, hf.2]; exact ⟨HH.out.root, HH.out.root⟩)
    have f0 := Lib.frozen_of_heap hR2 0
    have f1 := Lib.frozen_of_heap hR2 1
    have k0 : w2.cell? ⟨r, 0, none⟩ = some (.int .i32 0) := by rw [Lib.cell_of_heap hR2]; rfl
    have k1 : w2.cell? ⟨r, 1, none⟩ = some (.int .i32 0) := by rw [Lib.cell_of_heap hR2]; rfl
    clear HA hb2 hB1 hcell hrs hS hf e0 hs
    go_wp2
    have hfin := put_two hR2 (.int .i32 0) (.int .i32 0)
    have d3 : Below r w ((w2.setCell ⟨r, 0, none⟩ (.int .i32 0)).setCell ⟨r, 1, none⟩ (.int .i32 0)) := (d2.setCell (p := ⟨r, 0, none⟩) (Nat.le_refl _) _).setCell (p := ⟨r, 1, none⟩) (Nat.le_refl _) _
    generalize (w2.setCell ⟨r, 0, none⟩ (.int .i32 0)).setCell ⟨r, 1, none⟩ (.int .i32 0) = w3 at *
    have j0 : w3.cell? ⟨r, 0, none⟩ = some (.int .i32 0) := by rw [Lib.cell_of_heap hfin]; rfl
    have j1 : w3.cell? ⟨r, 1, none⟩ = some (.int .i32 0) := by rw [Lib.cell_of_heap hfin]; rfl
    refine bodyPost_ret (v := flV (0, 0)) (by simp [results, Tryz.results60, go_sem, flV, j0, j1]) rfl ?_
    exact ⟨0, 0, rfl, HE.out.1, HE.out.2, by rw [hr]; exact d3⟩
  · have e0 : s.dropLast ≠ [] := fun e => ha0 ((HH.out.zero hS).2 e)
    have hs0 : s ≠ [] := fun e => e0 (by rw [e]; rfl)
    have es : s.dropLast ++ [s.getLastD 0] = s := by
      rw [List.getLastD_eq_getLast?, List.getLast?_eq_some_getLast hs0]
      exact List.dropLast_concat_getLast hs0
    have ham : a < m := HH.out.less hS hs (by
      rw [List.length_dropLast]
      have : 0 < s.length := List.length_pos_iff.2 hs0
      omega)
    obtain ⟨f, f', hF, hf, _⟩ := HH.out.ok.at_ a _ ham hS
    have hfa := HH.out.less hf hS (fb_less e0)
    have H2 := HH.out.below (by rw [hr]; exact d2)
    have HF := Lib.hid (lkfail_any H2.has (a : Int))
    rw [flOf_in hF] at HF
    have g0 : ((a : Int) == 0) = false := by simp; omega
    have g1 : ¬ (a : Int) = 0 := by omega
    have HT := Lib.hid (fun W hb => lkstep_in (H2.below (w' := W) hb) f hf (show f < m by omega) (s.getLastD 0))
    have HES := Lib.hid (show lgL S (fbL S s.dropLast ++ [s.getLastD 0]) = fbL S s by
      have := fb_above HH.out.tr.st (s.getLastD 0) e0
      rw [es] at this
      exact this.symm)
    have HFS := Lib.hid (show (fbL S s).length < s.length from fb_less hs0)
    have HS := Lib.hid hs
    have hs2 : r < w2.heap.size := lt_of_heap hR2
    clear HA hb2 hB1 hcell hrs hS e0 hs0 es hs ha0 hF hf hfa H2
    generalize s.getLastD 0 = c at *
    go_wp2_with fail
    refine HF.out.mono ?_
    rintro e w3 ⟨rfl, hb3⟩
    have H3 := Lib.hid (HT.out w3 hb3)
    have hR3 := (hb3.block _ hs2).trans hR2
    have d3 := d2.trans (hb3.mono (by rw [← hr]; exact d2.size))
    clear HT HF hb3 hs2 hR2 d2
    go_wp2_with fail
    refine H3.out.mono ?_
    rintro e w4 ⟨n, rfl, hn, hb4⟩
    rw [HES.out] at hn
    have hs3 : r < w3.heap.size := lt_of_heap hR3
    have hR4 := (hb4.block _ hs3).trans hR3
    have d4 := d3.trans (hb4.mono (by rw [← hr]; exact d3.size))
    have H4 := HH.out.below (by rw [hr]; exact d4)
    have c4 := (HK.out.below (by rw [hr]; exact d4)).reads.1
    have hnm := H4.less hn HS.out HFS.out
    have hnl := (List.getElem?_eq_some_iff.1 hn).1
    have HN := Lib.hid (ts_ends H4.tr H4.asc n hn)
    have wn : IntKind.i32.wrap (n : Int) = (n : Int) := by rw [IntKind.wrap_i32]; omega
    clear H3 hb4 hs3 hR3 d3 HES HFS HS c0
    have hs4 : r < w4.heap.size := lt_of_heap hR4
    by_cases hu : fbL S s ∈ us
    · have HE : Hid (S[n]? = some (fbL S s) ∧ S[n]? = some (fbL us s)) := Lib.hid ⟨hn, by rw [out_hit HH.out.tr.st hu]; exact hn⟩
      clear H4 hn
      go_wp2_with fail
      refine HN.out.mono ?_
      rintro e w5 ⟨⟨h1, _⟩, hb5⟩
      obtain rfl := h1 hu
      have hR5 := (hb5.block _ hs4).trans hR4
      have d5 := d4.trans (hb5.mono (by rw [← hr]; exact d4.size))
      have f0 := Lib.frozen_of_heap hR5 0
      have f1 := Lib.frozen_of_heap hR5 1
      have k0 : w5.cell? ⟨r, 0, none⟩ = some (.int .i32 0) := by rw [Lib.cell_of_heap hR5]; rfl
      have k1 : w5.cell? ⟨r, 1, none⟩ = some (.int .i32 0) := by rw [Lib.cell_of_heap hR5]; rfl
      clear h1 hb5 hs4 hR4 d4 HN hu
      go_wp2
      have hfin := put_two hR5 (.int .i32 (n : Int)) (.int .i32 (n : Int))
      have d6 : Below r w ((w5.setCell ⟨r, 0, none⟩ (.int .i32 (n : Int))).setCell ⟨r, 1, none⟩ (.int .i32 (n : Int))) := (d5.setCell (p := ⟨r, 0, none⟩) (Nat.le_refl _) _).setCell (p := ⟨r, 1, none⟩) (Nat.le_refl _) _
      generalize (w5.setCell ⟨r, 0, none⟩ (.int .i32 (n : Int))).setCell ⟨r, 1, none⟩ (.int .i32 (n : Int)) = w6 at *
      have j0 : w6.cell? ⟨r, 0, none⟩ = some (.int .i32 (n : Int)) := by rw [Lib.cell_of_heap hfin]; rfl
      have j1 : w6.cell? ⟨r, 1, none⟩ = some (.int .i32 (n : Int)) := by rw [Lib.cell_of_heap hfin]; rfl
      refine bodyPost_ret (v := flV (n, n)) (by simp [results, Tryz.results60, go_sem, flV, j0, j1]) rfl ?_
      exact ⟨n, n, rfl, HE.out.1, HE.out.2, by rw [hr]; exact d6⟩
    · obtain ⟨x, y, hFn, _, hy⟩ := HH.out.ok.at_ n _ hnm hn
      have HE : Hid (S[n]? = some (fbL S s) ∧ S[y]? = some (fbL us s)) := Lib.hid ⟨hn, by rw [out_miss HH.out.tr.st hu]; exact hy⟩
      have HO := Lib.hid (fun W hb => lkof_in (H4.below (w' := W) hb).has n (x, y) hFn)
      have FD := flfield1 (.int .i32 (x : Int)) (.int .i32 (y : Int))
      clear H4 hn hy hFn
      go_wp2_with fail
      refine HN.out.mono ?_
      rintro e w5 ⟨⟨_, h1⟩, hb5⟩
      obtain rfl := h1 hu
      have HO2 := Lib.hid (HO.out w5 hb5)
      have hR5 := (hb5.block _ hs4).trans hR4
      have d5 := d4.trans (hb5.mono (by rw [← hr]; exact d4.size))
      have hs5 : r < w5.heap.size := lt_of_heap hR5
      clear h1 hb5 hs4 hR4 d4 HN hu HO
      go_wp2_with fail
      refine HO2.out.mono ?_
      rintro e w6 ⟨rfl, hb6⟩
      have hR6 := (hb6.block _ hs5).trans hR5
      have d6 := d5.trans (hb6.mono (by rw [← hr]; exact d5.size))
      have f0 := Lib.frozen_of_heap hR6 0
      have f1 := Lib.frozen_of_heap hR6 1
      have k0 : w6.cell? ⟨r, 0, none⟩ = some (.int .i32 0) := by rw [Lib.cell_of_heap hR6]; rfl
      have k1 : w6.cell? ⟨r, 1, none⟩ = some (.int .i32 0) := by rw [Lib.cell_of_heap hR6]; rfl
      clear HO2 hb6 hs5 hR5 d5
      unfold flV
      go_wp2
      have hfin := put_two hR6 (.int .i32 (n : Int)) (.int .i32 (y : Int))
      have d7 : Below r w ((w6.setCell ⟨r, 0, none⟩ (.int .i32 (n : Int))).setCell ⟨r, 1, none⟩ (.int .i32 (y : Int))) := (d6.setCell (p := ⟨r, 0, none⟩) (Nat.le_refl _) _).setCell (p := ⟨r, 1, none⟩) (Nat.le_refl _) _
      generalize (w6.setCell ⟨r, 0, none⟩ (.int .i32 (n : Int))).setCell ⟨r, 1, none⟩ (.int .i32 (y : Int)) = w7 at *
      have j0 : w7.cell? ⟨r, 0, none⟩ = some (.int .i32 (n : Int)) := by rw [Lib.cell_of_heap hfin]; rfl
      have j1 : w7.cell? ⟨r, 1, none⟩ = some (.int .i32 (y : Int)) := by rw [Lib.cell_of_heap hfin]; rfl
      refine bodyPost_ret (v := flV (n, y)) (by simp [results, Tryz.results60, go_sem, flV, j0, j1]) rfl ?_
      exact ⟨n, y, rfl, HE.out.1, HE.out.2, by rw [hr]; exact d7⟩
end Go.Proofs.YtpblllpgmibkoaaGreat

namespace Go.Proofs.YtpblllpgmibkoaaGreat
open Go.RowKit

theorem made_fl (n : Nat) : madeCells (Value.agg #[.int .i32 0, .int .i32 0]).cells (n * 2) = (flCells (List.replicate n (0, 0))).toArray := by
  have e : (Value.agg #[.int .i32 0, .int .i32 0]).cells = #[.int .i32 0, .int .i32 0] := by rfl
  rw [e, fl_rep]
  unfold madeCells
  apply Array.ext
  · simp
  · intro i h1 h2
    simp at h1
    have : i % 2 = 0 ∨ i % 2 = 1 := by omega
    rcases this with h | h <;> simp [h]
set_option maxRecDepth 100000 in
theorem make_falls (c : Nat) (w : World) (hc : c ≤ 16777217) : (Instr.makeSlice 101 (.int .i64 (c : Int)) (.int .i64 (c : Int))).run Tryz.prog w = .ok (.slice (some ⟨w.heap.size, 0, none⟩) c c) (w.alloc (.cells (flCells (List.replicate c (0, 0))).toArray 105)) := by
  obtain ⟨i0, hi, hz0, hz1, hz2⟩ := info_parts fl_info
  have h := run_make (P := Tryz.prog) w 101 105 i0 (.agg #[.int .i32 0, .int .i32 0]) Tryz.underlying101 hi hz0 .i64 .i64 c c (by omega) (Int.le_refl _) (by rw [hz2]; omega) (by omega)
  rw [h, hz1, Int.toNat_natCast, made_fl]

/-- One more state is known. -/
theorem FlOk.put {us S : List (List UInt8)} {i : Nat} {F : List (Nat × Nat)} (h : FlOk us S i F) {s : List UInt8} (hs : S[i]? = some s) {a b : Nat} (ha : S[a]? = some (fbL S s)) (hb : S[b]? = some (fbL us s)) : FlOk us S (i + 1) (F.set i (a, b)) := by
  have hil := (List.getElem?_eq_some_iff.1 hs).1
  refine ⟨by rw [List.length_set]; exact h.len, fun j t hj ht => ?_⟩
  by_cases e : j = i
  · subst e
    obtain rfl : t = s := Option.some.inj (ht.symm.trans hs)
    exact ⟨a, b, List.getElem?_set_self (by rw [h.len]; exact hil), ha, hb⟩
  · obtain ⟨x, y, h1, h2, h3⟩ := h.at_ j t (by omega) ht
    exact ⟨x, y, by rw [List.getElem?_set_ne (Ne.symm e)]; exact h1, h2, h3⟩
theorem IsLk.ne {w : World} {base b g : Nat} {q : Option Addr} {F : List (Nat × Nat)} (h : IsLk w base b g q F) : b ≠ g := fun e => by
  have h1 := h.head
  rw [e, h.row] at h1
  simp at h1
theorem IsLk.put {w : World} {base b g : Nat} {q : Option Addr} {F : List (Nat × Nat)} (h : IsLk w base b g q F) {i : Nat} (hi : i < F.length) {x y : Nat} (hx : x ≤ 16777217) (hy : y ≤ 16777217) :
    IsLk ((w.setCell ⟨g, i * 2, none⟩ (.int .i32 (x : Int))).setCell ⟨g, i * 2 + 1, none⟩ (.int .i32 (y : Int))) base b g q (F.set i (x, y)) := by
  have hne := h.ne
  refine ⟨?_, ?_, h.bb, h.gg, by rw [List.length_set]; exact h.few, fun r hr => ?_⟩
  · rw [List.length_set, put_other hne, put_other hne]; exact h.head
  · rw [put_heap (put_heap h.row _)]
    congr 2
    have := fl_set F i x y (List.getElem?_eq_getElem hi)
    rw [← this]
    simp
  · rcases List.mem_or_eq_of_mem_set hr with h1 | rfl
    · exact h.fit r h1
    · exact ⟨hx, hy⟩

set_option maxRecDepth 100000 in
set_option maxHeartbeats 4000000 in
theorem lknew_any {w : World} {p : Option Addr} {us : List (List UInt8)} (hp : IsPats w p us) (ha : Asc us) (hn : us.Nodup) :
    Calls Tryz.prog 29 #[.pointer p] w fun e w' => ∃ k q S F, e = .returned (.pointer k) ∧ IsLink w' k q p us S S.length F ∧ Below w.heap.size w w' := by
  have HT := Lib.hid (trnew_any hp ha hn)
  have HA := Lib.hid ha
  clear hp ha hn
  go_enter Tryz.func29, Tryz.ntmps29
  go_wp2_with fail
  refine HT.out.mono ?_
  rintro e w1 ⟨q, S, rfl, hT, hb1⟩
  have hfew := hT.few
  have HL := Lib.hid (ts_len hT)
  have hmake := make_falls S.length w1 hfew.2.2
  have hS1 := hb1.size
  have HT1 := Lib.hid hT
  clear HT hT
  go_wp2_with fail
  refine HL.out.mono ?_
  rintro e w' ⟨rfl, hw'⟩
  obtain rfl := hw'.symm
  clear hw' HL
  have hb2 : Below w1.heap.size w1 (w1.alloc (.cells (flCells (List.replicate S.length (0, 0))).toArray 105)) := (Below.refl _ _).alloc (Nat.le_refl _) _
  have hh2 := heap_alloc_new w1 (.cells (flCells (List.replicate S.length (0, 0))).toArray 105)
  have hz2 : (w1.alloc (.cells (flCells (List.replicate S.length (0, 0))).toArray 105)).heap.size = w1.heap.size + 1 := by simp
  generalize w1.alloc (.cells (flCells (List.replicate S.length (0, 0))).toArray 105) = w2 at *
  have HZ2 := Lib.hid hz2
  clear hz2
  go_wp2_with fail
  have LK0 : Hid (IsLk (w2.alloc (.cells #[.pointer q, .slice (some ⟨w1.heap.size, 0, none⟩) S.length S.length] 103)) w1.heap.size w2.heap.size w1.heap.size q (List.replicate S.length (0, 0))) := Lib.hid (by
    refine ⟨?_, ?_, hb2.size, Nat.le_refl _, by rw [List.length_replicate]; exact hfew.2.2, fun r hr => by rw [List.eq_of_mem_replicate hr]; simp⟩
    · rw [List.length_replicate]; exact heap_alloc_new w2 _
    · rw [Below.heap_alloc _ _ _ (by have := HZ2.out; omega)]; exact hh2)
  have B0 : Hid (Below w1.heap.size w1 (w2.alloc (.cells #[.pointer q, .slice (some ⟨w1.heap.size, 0, none⟩) S.length S.length] 103))) := Lib.hid (hb2.alloc hb2.size _)
  have FK0 : Hid (FlOk us S 0 (List.replicate S.length (0, 0))) := Lib.hid ⟨List.length_replicate .., fun i s hi => absurd hi (Nat.not_lt_zero _)⟩
  have c1 : (w2.alloc (.cells #[.pointer q, .slice (some ⟨w1.heap.size, 0, none⟩) S.length S.length] 103)).cell? ⟨w2.heap.size, 1, none⟩ = some (.slice (some ⟨w1.heap.size, 0, none⟩) S.length S.length) := by
    rw [Lib.cell_of_heap (heap_alloc_new w2 _)]; rfl
  clear hb2 hh2 HZ2 hmake
  generalize w2.alloc (.cells #[.pointer q, .slice (some ⟨w1.heap.size, 0, none⟩) S.length S.length] 103) = w3 at *
  generalize w2.heap.size = b at *
  obtain ⟨n, hnS⟩ : ∃ n, S.length = n := ⟨_, rfl⟩
  have HN := Lib.hid hnS
  have hn1 := hfew.2.2
  rw [hnS] at c1 hn1
  clear hfew
  rw [hnS]
  go_loopw [19] (fun x wr => ∃ (i : Nat) (F : List (Nat × Nat)), i ≤ n ∧ x = .int .i64 i ∧ Hid (IsLk wr w1.heap.size b w1.heap.size q F) ∧ Hid (FlOk us S i F) ∧ Hid (Below w1.heap.size w1 wr)) (fun x _ => n - (RowKit.intOf x).toNat)
  case atStart => exact ⟨0, _, Nat.zero_le _, rfl, LK0, FK0, B0⟩
  case round =>
    clear c1 LK0 FK0 B0
    obtain ⟨i, F, hi, rfl, HK, HF, HB⟩ := hrel
    have hFn : F.length = n := by rw [HF.out.len, hnS]
    by_cases hlt : i < n
    · obtain ⟨s, hs⟩ : ∃ s, S[i]? = some s := ⟨_, List.getElem?_eq_getElem (show i < S.length by omega)⟩
      have HI : Hid (IsLink wr (some ⟨b, 0, none⟩) q p us S i F) := Lib.hid ⟨.inr ⟨_, _, _, rfl, HK.out⟩, HT1.out.below HB.out, HA.out, HF.out⟩
      have HC := Lib.hid (fun W (hW : Below wr.heap.size wr W) => lkfall_any (HI.out.below hW) hs)
      obtain ⟨r, hr⟩ : ∃ r, F[i]? = some r := ⟨_, List.getElem?_eq_getElem (show i < F.length by omega)⟩
      have c1 := HK.out.reads.2.1
      rw [hFn] at c1
      have HO := Lib.hid (fun (W w4 : World) (hb : Below W.heap.size W w4) (e : W.heap = wr.heap) => show (w4.cell? ⟨b, 1, none⟩ = some (.slice (some ⟨w1.heap.size, 0, none⟩) n n) ∧ w4.cell? ⟨w1.heap.size, i * 2, none⟩ = some (.int .i32 (r.1 : Int)) ∧ w4.cell? ⟨w1.heap.size, i * 2 + 1, none⟩ = some (.int .i32 (r.2 : Int)) ∧ w4.frozen? ⟨w1.heap.size, i * 2, none⟩ = false ∧ w4.frozen? ⟨w1.heap.size, i * 2 + 1, none⟩ = false) from by
        have h4 := (HK.out.heap (W := W) e).below hb
        have h5 := h4.reads.2.1
        rw [hFn] at h5
        exact ⟨h5, (h4.reads.2.2 i _ hr).1, (h4.reads.2.2 i _ hr).2, Lib.frozen_of_heap h4.row _, Lib.frozen_of_heap h4.row _⟩)
      have g0 : (0 : Int) ≤ (i : Int) := by omega
      have g1 : (i : Int) < (n : Int) := by omega
      have HSi := Lib.hid hs
      have HFn := Lib.hid hFn
      clear hs HI hr hFn hnS
      generalize r.1 = z1 at HO
      generalize r.2 = z2 at HO
      go_wp2_with fail
      go_region_with (go_at_call 60; refine (HC.out _ (Below.refl _ _).drew).mono ?_; rintro e w4 ⟨x, y, he, h1, h2, hb3⟩; unfold flV at he; subst he; (obtain ⟨q0, q1, q2, q3, q4⟩ := HO.out _ _ hb3 (by rfl)))
      all_goals
        have hxl := (List.getElem?_eq_some_iff.1 h1).1
        have hyl := (List.getElem?_eq_some_iff.1 h2).1
        rw [HN.out] at hxl hyl
        have HK5 := Lib.hid (((HK.out.heap (W := wr.drew) rfl).below hb3).put (i := i) (by rw [HFn.out]; exact hlt) (x := x) (y := y) (by omega) (by omega))
        have HF5 := Lib.hid (HF.out.put HSi.out h1 h2)
        have HB5 := Lib.hid (((HB.out.drew.trans (hb3.mono HB.out.size)).setCell (p := ⟨w1.heap.size, i * 2, none⟩) (Nat.le_refl _) (.int .i32 (x : Int))).setCell (p := ⟨w1.heap.size, i * 2 + 1, none⟩) (Nat.le_refl _) (.int .i32 (y : Int)))
        generalize (w4.setCell ⟨w1.heap.size, i * 2, none⟩ (.int .i32 (x : Int))).setCell ⟨w1.heap.size, i * 2 + 1, none⟩ (.int .i32 (y : Int)) = w5 at HK5 HB5 ⊢
        clear hb3 h1 h2 HC HO HK HF HB q0 q1 q2 q3 q4 c1
        go_wp2
        exact ⟨⟨i + 1, _, by omega, by go_num, HK5, HF5, HB5⟩, by simp [RowKit.intOf]; omega⟩
    · obtain rfl : i = n := by omega
      have HE : Hid (∃ S F, IsLink wr (some ⟨b, 0, none⟩) q p us S S.length F ∧ Below w.heap.size w wr) := Lib.hid ⟨S, F, ⟨.inr ⟨_, _, _, rfl, HK.out⟩, HT1.out.below HB.out, HA.out, by rw [HN.out]; exact HF.out⟩, hb1.trans (HB.out.mono hS1)⟩
      clear HK HF HB hFn hnS
      go_wp2
      go_ret
      obtain ⟨S, F, h1, h2⟩ := HE.out
      exact ⟨_, q, S, F, rfl, h1, h2⟩
end Go.Proofs.YtpblllpgmibkoaaGreat
