/-
  The document's own answers for layer 5: Unquote, walked.
-/
import Derived.Test.YtoedbolmajcgpaaEsU
set_option linter.unusedSimpArgs false
set_option linter.unusedVariables false
namespace Go.Proofs.Ytoedbolmajcgpaa
open Go.RowKit

theorem by_below {w w' : World} {base : Nat} {e : TypeId} {size : Nat} {v : Value} {n : Nat} {xs : List Value} (h : w.ownsRow base e size v n xs) (hb : Below w.heap.size w w') : w'.ownsRow base e size v n xs :=
  h.kept (row := none) ⟨hb.os, hb.tape, hb.output, hb.size, fun k hk _ => hb.block k hk⟩ (Classical.em _)

/-- 'string(b)' of bytes of the call's own. -/
theorem owns_string {w : World} {base : Nat} {v : Value} {l : List UInt8} (h : w.ownsRow base 5 1 v l.length (Lib.byteCells l)) (h0 : l ≠ []) :
    ∃ ao n cap, v = .slice ao n cap ∧ (convert 35 9 (.slice ao n cap)).run Try.prog w = .ok (.string ⟨l.toArray⟩) w := by
  rcases h.2 with ⟨_, hn⟩ | ⟨g, cap, cur, hv, _⟩
  · exact absurd (List.length_eq_zero_iff.1 hn) h0
  · refine ⟨_, _, _, hv, ?_⟩
    refine run_convert_bytes_back w 35 9 5 ⟨g, 0, none⟩ cap l Try.underlying35 Try.underlying5 Try.underlying9 (fun j hj => ?_)
    refine h.cells (g := g) (by rw [hv]; rfl) j _ ?_
    simp [Lib.byteCells, List.getElem?_eq_getElem hj]

theorem ext_sgn {l r t : List UInt8} {a : Nat} (hd : l.drop a = t ++ r) : (((⟨l.toArray⟩ : ByteArray).extract a (a + t.length)).toList == t) = true := by
  rw [Lib.extract_toList, Nat.add_sub_cancel_left, hd, List.take_left]
  simp
theorem ext_not {l t : List UInt8} {a : Nat} (hd : ∀ r, l.drop a ≠ t ++ r) : (((⟨l.toArray⟩ : ByteArray).extract a (a + t.length)).toList == t) = false := by
  rw [Lib.extract_toList, Nat.add_sub_cancel_left]
  refine list_ne (fun e => hd ((l.drop a).drop t.length) ?_)
  have := List.take_append_drop t.length (l.drop a)
  rw [show List.take t.length (List.drop a l) = t from e] at this
  exact this.symm

/-- Where the inner loop stands. -/
def Inner (l acc : List UInt8) (a B : Nat) (v i f c : Value) (wr : World) : Prop := ∃ k : Nat, k ≤ 256 ∧ c = .int .i64 k ∧
  ((f = .bool false ∧ i = .int .i64 a ∧ (∀ d : UInt8, d.toNat < k → ∀ r, l.drop a ≠ sgn d ++ r) ∧ wr.ownsRow B 5 1 v acc.length (Lib.byteCells acc))
  ∨ (f = .bool true ∧ ∃ (d : UInt8) (r : List UInt8), Hid (l.drop a = sgn d ++ r) ∧ i = .int .i64 ((a + (sgn d).length : Nat) : Int) ∧ wr.ownsRow B 5 1 v (acc ++ [d]).length (Lib.byteCells (acc ++ [d]))))

set_option maxHeartbeats 2000000 in
set_option maxRecDepth 100000 in
theorem runquote_any (l : List UInt8) (w : World) (h : l.length ≤ 1000000) : Calls Try.prog 12 #[.string ⟨l.toArray⟩] w (RetU l w) := by
  by_cases h0 : l = []
  · subst h0
    go_enter Try.func12, Try.ntmps12
    go_wp2
    go_ret2
    exact RetU.mk unq_nil rfl (Below.refl _ _)
  by_cases h1 : l = [45]
  · subst h1
    go_enter Try.func12, Try.ntmps12
    go_wp2
    go_ret2
    exact RetU.mk unq_dash rfl (Below.refl _ _)
  by_cases h2 : l = [92, 120, 50, 100]
  · subst h2
    go_enter Try.func12, Try.ntmps12
    go_wp2
    go_ret2
    exact RetU.mk unq_2d rfl (Below.refl _ _)
  have t0 := list_full h0
  have t1 := list_ne h1
  have t2 := list_ne h2
  have H0 := Lib.hid h0
  have H1 := Lib.hid h1
  have H2 := Lib.hid h2
  clear h0 h1 h2
  obtain ⟨i0, hi, hz0, hz1, hz2⟩ := info_parts byte_info
  go_enter Try.func12, Try.ntmps12
  go_wp2
  go_loopw [4, 5] (fun v i wr => ∃ (a : Nat) (acc : List UInt8), a ≤ l.length ∧ i = .int .i64 a ∧ Hid (sgns acc ++ l.drop a = l) ∧ wr.ownsRow w.heap.size 5 1 v acc.length (Lib.byteCells acc) ∧ Below w.heap.size w wr) (fun _ i _ => l.length - (RowKit.intOf i).toNat)
  case atStart => exact ⟨0, [], Nat.zero_le _, rfl, Lib.hid rfl, World.ownsRow_made w #[] 0 (Nat.le_refl _) (by unfold maxLen; omega) rfl, (Below.refl _ _).alloc (Nat.le_refl _) _⟩
  case round =>
    obtain ⟨a, acc, ha, rfl, HA, hown, hbe⟩ := hrel
    have hsz := hbe.size
    have hacc := read_bound ha HA.out
    by_cases hlt : a < l.length
    · obtain ⟨W1, hw1⟩ : ∃ W1, W1 = wr := ⟨_, rfl⟩
      subst hw1
      go_wp2
      go_loopw [4, 5, 6, 7] (fun v i f c wr => Inner l acc a w.heap.size v i f c wr ∧ Below w.heap.size w wr) (fun _ _ _ c _ => 256 - (RowKit.intOf c).toNat)
      case atStart => exact ⟨⟨0, by omega, rfl, .inl ⟨rfl, rfl, fun d hd => absurd hd (by omega), hown⟩⟩, hbe⟩
      case round =>
        obtain ⟨⟨k, hk, rfl, (⟨rfl, rfl, hno, hown2⟩ | ⟨rfl, d, r, HD, rfl, hown2⟩)⟩, hbe2⟩ := hrel
        · clear hown
          have hsz2 := hbe2.size
          by_cases hk2 : k < 256
          · obtain ⟨c, rfl⟩ : ∃ c : UInt8, k = c.toNat := ⟨UInt8.ofNat k, by simp; omega⟩
            have hts := sgn_le c
            have HC := Lib.hid (fun w => sign_any c w)
            by_cases hpre : ∃ r, l.drop a = sgn c ++ r
            · obtain ⟨r, hr⟩ := hpre
              have hfit := read_fits ha hr
              have HX := Lib.hid (ext_sgn hr)
              have HR : Hid (∃ r, l.drop a = sgn c ++ r) := Lib.hid ⟨r, hr⟩
              have hlen : (sgn c).length ≤ l.length - a := by omega
              have hx := HX.out
              clear hr hno HX
              obtain ⟨t, HG⟩ : ∃ t, Hid (sgn c = t) := ⟨_, Lib.hid rfl⟩
              rw [HG.out] at hts hfit hlen hx HC
              go_wp2_with fail
              refine (HC.out _).mono ?_
              rintro e w2 ⟨rfl, hb2⟩
              have hs2 := hb2.size
              have hown3 := by_below hown2 hb2
              clear hown2
              have hal : acc.length ≤ 1000000 := by omega
              go_wp2_with (at_builtin; refine wpList_append_own _ rfl _ _ 35 rfl w.heap.size 5 i0 (.int .u8 0) 1 1 Try.underlying35 hi hz0 hz1 hz2 rfl (by decide) _ _ _ rfl (hown3.alloc _) ⟨w2.heap.size, 0, none⟩ 1 1 [.int .u8 (c.toNat : Int)] rfl rfl ?c1 ?c2 ?c3 ?c4 ?c5 ?_)
              case c1 =>
                intro j u hj
                match j, hj with
                | 0, hj => simp at hj; subst hj; simp [Addr.add]
              case c2 => intro u hu; simp at hu; subst hu; rfl
              case c3 => unfold maxLen; omega
              case c4 => omega
              case c5 => simp; omega
              intro v' w3 hown4 hgrow _
              have h2 := hbe2.trans (hb2.mono hsz2)
              have h3 : Below w.heap.size w w3 := (h2.alloc (by omega) _).grown hgrow (by simp; omega) (fun k hk => (hown3.lt k hk).1)
              clear hgrow h2 hown3 hb2
              go_wp2
              refine ⟨⟨⟨c.toNat + 1, by omega, by go_num, .inr ⟨rfl, c, _, Lib.hid HR.out.choose_spec, by rw [HG.out]; go_num, ?_⟩⟩, h3⟩, by simp [RowKit.intOf]; omega⟩
              rw [List.length_append, byteCells_snoc]
              exact hown4
            · have HN : Hid (∀ d : UInt8, d.toNat < c.toNat + 1 → ∀ r, l.drop a ≠ sgn d ++ r) := Lib.hid (fun d hd r e => by
                rcases Nat.lt_or_ge d.toNat c.toNat with q | q
                · exact hno d q r e
                · obtain rfl : d = c := u8_ext (by omega)
                  exact hpre ⟨r, e⟩)
              have hext := ext_not (fun r e => hpre ⟨r, e⟩ : ∀ r, l.drop a ≠ sgn c ++ r)
              clear hno hpre
              generalize sgn c = t at HC hts hext
              by_cases hlen : t.length ≤ l.length - a
              · go_wp2_with fail
                refine (HC.out _).mono ?_
                rintro e w2 ⟨rfl, hb2⟩
                go_wp2
                exact ⟨⟨⟨c.toNat + 1, by omega, by go_num, .inl ⟨rfl, rfl, HN.out, by_below hown2 hb2⟩⟩, hbe2.trans (hb2.mono hsz2)⟩, by simp [RowKit.intOf]; omega⟩
              · go_wp2_with fail
                refine (HC.out _).mono ?_
                rintro e w2 ⟨rfl, hb2⟩
                go_wp2
                exact ⟨⟨⟨c.toNat + 1, by omega, by go_num, .inl ⟨rfl, rfl, HN.out, by_below hown2 hb2⟩⟩, hbe2.trans (hb2.mono hsz2)⟩, by simp [RowKit.intOf]; omega⟩
          · have HU := Lib.hid (unq_stop H1.out H2.out HA.out (drop_full hlt) (fun d r => hno d (by have := d.toNat_lt; omega) r))
            clear hno
            go_wp2
            go_ret2
            exact RetU.mk HU.out rfl hbe2
        · clear hown
          have HA2 := Lib.hid (read_step HA.out HD.out)
          have hfit := read_fits ha HD.out
          have hpos := sgn_pos d
          generalize (sgn d).length = n at HA2 hfit hpos
          by_cases hk2 : k < 256
          · go_wp2
            exact ⟨⟨a + n, acc ++ [d], hfit, rfl, HA2, hown2, hbe2⟩, by simp [RowKit.intOf]; omega⟩
          · go_wp2
            exact ⟨⟨a + n, acc ++ [d], hfit, rfl, HA2, hown2, hbe2⟩, by simp [RowKit.intOf]; omega⟩
    · obtain rfl : a = l.length := by omega
      have HU := Lib.hid (unq_end H0.out H1.out (by have := HA.out; rwa [List.drop_length, List.append_nil] at this))
      have hne : acc ≠ [] := by
        rintro rfl
        have := HA.out
        rw [List.drop_length, List.append_nil, sgns_nil] at this
        exact H0.out this.symm
      obtain ⟨ao, n, cap, rfl, hconv⟩ := owns_string hown hne
      clear hown
      go_wp2
      go_ret2
      exact RetU.mk HU.out rfl hbe
end Go.Proofs.Ytoedbolmajcgpaa
