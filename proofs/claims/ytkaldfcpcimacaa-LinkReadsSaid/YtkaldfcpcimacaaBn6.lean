/-
  Texts put together: TrT, OwnTo, TrF, TrN0, LkS, LkN, Ints, LkNw, OwnBe.
-/
import Derived.Test.YtkaldfcpcimacaaBn5
import Derived.Laws.AppendOwn
import Derived.WalkKit
import Derived.Test.YtkaldfcpcimacaaBn2
import Derived.Deep.AppendLies
import Derived.Test.YtkaldfcpcimacaaBn3
import Derived.Laws.CopyOwn
import Derived.Deep.RegionWith
set_option linter.unusedSimpArgs false
set_option linter.unusedVariables false
namespace Go.Proofs.Ytkaldfcpcimacaa
open Go.RowKit

theorem IsTrie.below {w w' : World} {q p : Option Addr} {us S : List (List UInt8)} (h : IsTrie w q p us S) (hb : Below w.heap.size w w') : IsTrie w' q p us S := by
  obtain ⟨R, h1, h2, h3, h4⟩ := h
  exact ⟨R, h1.below hb, h2, h3, h4.below hb⟩
theorem IsTrie.st {w : World} {q p : Option Addr} {us S : List (List UInt8)} (h : IsTrie w q p us S) : IsSt us S := by
  obtain ⟨R, h1, h2, h3, h4⟩ := h
  exact h3.done
theorem IsTrie.few {w : World} {q p : Option Addr} {us S : List (List UInt8)} (h : IsTrie w q p us S) : 1 ≤ S.length ∧ S.length ≤ totalL us + 1 ∧ S.length ≤ 16777217 := by
  obtain ⟨R, h1, h2, h3, h4⟩ := h
  have := (pats_each h4).2.2
  exact ⟨h3.le.2, h3.few, by have := h3.few; omega⟩
theorem ts_len {w : World} {q p : Option Addr} {us S : List (List UInt8)} (h : IsTrie w q p us S) : Calls Try.prog 22 #[.pointer q] w fun e w' => e = .returned (.int .i64 (S.length : Int)) ∧ w' = w := by
  obtain ⟨R, h1, h2, h3, h4⟩ := h
  rw [← h2.1]
  exact trlen_any h1
theorem ts_depth {w : World} {q p : Option Addr} {us S : List (List UInt8)} (h : IsTrie w q p us S) (k : Nat) {s : List UInt8} (hs : S[k]? = some s) : Calls Try.prog 24 #[.pointer q, .int .i64 (k : Int)] w fun e w' => e = .returned (.int .i64 (s.length : Int)) ∧ Below w.heap.size w w' := by
  obtain ⟨R, h1, h2, h3, h4⟩ := h
  obtain ⟨r, hr, _, _, hd, _⟩ := h2.at hs
  have := trdepth_any h1 (k : Int)
  rw [rcOf_in hr, hd] at this
  exact this
theorem ts_above {w : World} {q p : Option Addr} {us S : List (List UInt8)} (h : IsTrie w q p us S) (k : Nat) {s : List UInt8} (hs : S[k]? = some s) : ∃ a : Nat, S[a]? = some s.dropLast ∧ a ≤ k ∧
    Calls Try.prog 50 #[.pointer q, .int .i64 (k : Int)] w fun e w' => e = .returned (.tuple #[.int .i64 (a : Int), .int .u8 ((s.getLastD 0).toNat : Int), .bool (decide (0 < s.length))]) ∧ Below w.heap.size w w' := by
  obtain ⟨R, h1, h2, h3, h4⟩ := h
  obtain ⟨r, hr, _, _, hd, hl, ha, hk⟩ := h2.at hs
  have := trabove_any h1 (k : Int)
  rw [rcOf_in hr, hd, hl] at this
  exact ⟨_, ha, hk, this⟩
/-- The first pattern of a state begins with it. -/
theorem first_take {us S : List (List UInt8)} (ha : Asc us) (h : IsSt us S) {s : List UInt8} (hs : s ∈ S) : s.length ≤ (us.getD (frL us s) []).length ∧ (us.getD (frL us s) []).take s.length = s := by
  rcases (h.2 s).1 hs with rfl | hb
  · simp
  · have hr := range_pos ha hb
    have hl := to_le us s
    have e1 : us[frL us s]? = some (us[frL us s]'(by omega)) := List.getElem?_eq_getElem (by omega)
    have hp := (in_iff ha e1).2 ⟨Nat.le_refl _, hr⟩
    rw [List.getD_eq_getElem?_getD, e1]
    exact ⟨hp.length_le, (List.prefix_iff_eq_take.1 hp).symm⟩
theorem ts_ends {w : World} {q p : Option Addr} {us S : List (List UInt8)} (h : IsTrie w q p us S) (ha : Asc us) (k : Nat) {s : List UInt8} (hs : S[k]? = some s) : Calls Try.prog 38 #[.pointer q, .int .i64 (k : Int)] w fun e w' =>
    ((s ∈ us → e = .returned (.tuple #[.int .i64 (frL us s : Int), .bool true])) ∧ (s ∉ us → e = .returned (.tuple #[.int .i64 0, .bool false]))) ∧ Below w.heap.size w w' := by
  have hst := h.st
  obtain ⟨R, h1, h2, h3, h4⟩ := h
  obtain ⟨r, hr, hf, _, hd, _⟩ := h2.at hs
  have hi := endr_iff ha ((hst.2 s).1 (List.mem_of_getElem? hs)) hf hd
  refine (trends_in h1 h4 k r hr (by have := (pats_each h4).2.1; omega)).mono ?_
  rintro e w' ⟨⟨e1, e2⟩, hb⟩
  rw [hf] at e1
  exact ⟨⟨fun hm => e1 (hi.2 hm), fun hm => e2 fun he => hm (hi.1 he)⟩, hb⟩
/-- Where a pattern stands that a state is. -/
theorem ends_at {us : List (List UInt8)} (ha : Asc us) {s : List UInt8} (hs : s ∈ us) : us[frL us s]? = some s := by
  have hb : begL us s = true := beg_iff.2 ⟨s, hs, List.prefix_refl s⟩
  have hr := range_pos ha hb
  have hl := to_le us s
  have e1 : us[frL us s]? = some (us[frL us s]'(by omega)) := List.getElem?_eq_getElem (by omega)
  have hp := (in_iff ha e1).2 ⟨Nat.le_refl _, hr⟩
  exact e1.trans (congrArg some (hp.eq_of_length ((first_is ha e1 hp).2 hs).symm).symm)

/-- What is kept of the states below one. -/
theorem kids_kept {us S : List (List UInt8)} {R : List Rc} (hb : Bfs us S.length S) (hR : RecOk us S S.length R) {k : Nat} {s s' : List UInt8} (hs : S[k]? = some s) (hs' : S[k + 1]? = some s') : ∃ r r', R[k]? = some r ∧ R[k + 1]? = some r' ∧ r.below = offL us S k ∧
    r.below ≤ r'.below ∧ r'.below ≤ R.length ∧ ((R.drop r.below).take (r'.below - r.below)).map Rc.last = kidsL us s := by
  have hk := (List.getElem?_eq_some_iff.1 hs').1
  obtain ⟨r, hr, _, h2, _⟩ := hR.at hs
  obtain ⟨r', hr', _, h2', _⟩ := hR.at hs'
  rw [if_pos (by omega)] at h2 h2'
  have ho := off_snoc (us := us) hs
  have hle := off_le hb (i := k + 1) (by omega)
  refine ⟨r, r', hr, hr', h2, by omega, by rw [hR.1]; omega, ?_⟩
  rw [h2, h2', ho, Nat.add_sub_cancel_left]
  refine List.ext_getElem? fun j => ?_
  rw [List.getElem?_map, List.getElem?_take]
  by_cases hj : j < (kidsL us s).length
  · rw [if_pos hj, List.getElem?_drop]
    have hc : (kidsL us s)[j]? = some (kidsL us s)[j] := List.getElem?_eq_getElem hj
    obtain ⟨x, hx, _, _, _, hxl, _⟩ := hR.at (hb.at (by omega) hs hc)
    rw [hx, hc, Option.map_some, hxl]
    simp
  · rw [if_neg hj, List.getElem?_eq_none (by omega)]; rfl
theorem ts_next {w : World} {q p : Option Addr} {us S : List (List UInt8)} (h : IsTrie w q p us S) (k : Nat) {s : List UInt8} (hs : S[k]? = some s) (c : UInt8) : Calls Try.prog 37 #[.pointer q, .int .i64 (k : Int), .int .u8 (c.toNat : Int)] w fun e w' =>
    ((s ++ [c] ∈ S → ∃ n : Nat, e = .returned (.tuple #[.int .i64 (n : Int), .bool true]) ∧ S[n]? = some (s ++ [c])) ∧ (s ++ [c] ∉ S → e = .returned (.tuple #[.int .i64 0, .bool false]))) ∧ Below w.heap.size w w' := by
  have hst := h.st
  obtain ⟨R, h1, h2, h3, h4⟩ := h
  have hk := (List.getElem?_eq_some_iff.1 hs).1
  have hi : s ++ [c] ∈ S ↔ c ∈ kidsL us s := by
    rw [hst.2, kids_mem]
    simp
  by_cases hl : k + 1 < S.length
  · obtain ⟨r, r', hr, hr', ho, hle1, hle2, hm⟩ := kids_kept h3 h2 hs (List.getElem?_eq_getElem hl)
    refine (trnext_in h1 k r r' hr hr' hle1 hle2 c (by rw [hm]; exact kids_rise us s)).mono ?_
    rintro e w' ⟨⟨e1, e2⟩, hb⟩
    rw [hm] at e1 e2
    refine ⟨⟨fun hh => ?_, fun hh => e2 fun hx => hh (hi.2 hx)⟩, hb⟩
    obtain ⟨n, he, hn⟩ := e1 (hi.1 hh)
    rw [ho] at he
    exact ⟨_, he, h3.at hk hs hn⟩
  · have hkk : k = S.length - 1 := by omega
    have hn := last_none hst (by rw [← hkk]; exact hs)
    refine (trnext_out h1 (k : Int) (.inr (by rw [h2.1]; omega)) c).mono ?_
    rintro e w' ⟨he, hb⟩
    exact ⟨⟨fun hh => by rw [hi, hn] at hh; simp at hh, fun _ => he⟩, hb⟩
theorem st_take {us S : List (List UInt8)} (h : IsSt us S) {t : List UInt8} (ht : t ∈ S) (n : Nat) : t.take n ∈ S := by
  rcases (h.2 t).1 ht with rfl | hb
  · simpa using ht
  · exact (h.2 _).2 (.inr (beg_short hb (List.take_prefix n t)))
/-- What Find tells of bytes. -/
def RetFd (S : List (List UInt8)) (t : List UInt8) (w : World) (e : Ending) (w' : World) : Prop :=
  ((t ∈ S → ∃ n : Nat, e = .returned (.tuple #[.int .i64 (n : Int), .bool true]) ∧ S[n]? = some t) ∧ (t ∉ S → e = .returned (.tuple #[.int .i64 0, .bool false]))) ∧ Below w.heap.size w w'
set_option maxHeartbeats 1000000 in
theorem trfind_none (t : List UInt8) (w : World) : Calls Try.prog 25 #[.pointer none, .string ⟨t.toArray⟩] w fun e w' => e = .returned (.tuple #[.int .i64 0, .bool false]) ∧ w' = w := by
  have HS := Lib.hid (tris_out (.inl ⟨rfl, rfl⟩ : HasTr w none none []) 0 (.inr (by simp)))
  go_enter Try.func25, Try.ntmps25
  go_wp2_with fail
  refine HS.out.mono ?_
  rintro e w' ⟨rfl, rfl⟩
  go_wp2
  go_loopw [6, 7, 8] (fun x y z wr => x = .int .i64 0 ∧ y = .bool false ∧ z = .int .i64 0 ∧ wr = w') (fun _ _ _ _ => 0)
  case atStart => exact ⟨rfl, rfl, rfl, rfl⟩
  case round =>
    obtain ⟨rfl, rfl, rfl, rfl⟩ := hrel
    go_wp2
    go_ret2
    exact ⟨rfl, rfl⟩
/-- How far Find has come. -/
def FindSt (S : List (List UInt8)) (t : List UInt8) (i : Nat) (x y : Value) : Prop := (∃ n : Nat, x = .int .i64 (n : Int) ∧ y = .bool true ∧ S[n]? = some (t.take i)) ∨ (x = .int .i64 0 ∧ y = .bool false ∧ t ∉ S)
set_option maxHeartbeats 1000000 in
theorem ts_find {w : World} {q p : Option Addr} {us S : List (List UInt8)} (h : IsTrie w q p us S) (t : List UInt8) (ht : t.length ≤ 1000000000) : Calls Try.prog 25 #[.pointer q, .string ⟨t.toArray⟩] w (RetFd S t w) := by
  have hst := h.st
  have hf := h.few
  have HH := Lib.hid h
  have HS := Lib.hid (by
    obtain ⟨R, h1, h2, h3, h4⟩ := h
    exact tris_in h1 0 (by rw [h2.1]; omega))
  have hroot : S[0]? = some [] := by
    obtain ⟨R, h1, h2, h3, h4⟩ := h
    exact h3.root
  have HT := Lib.hid hst
  have HZ := Lib.hid (bsize t)
  clear h hst
  go_enter Try.func25, Try.ntmps25
  go_wp2_with fail
  refine HS.out.mono ?_
  rintro e w' ⟨rfl, hw'⟩
  obtain rfl := hw'.symm
  clear hw'
  go_wp2
  go_loopw [6, 7, 8] (fun x y z wr => ∃ i : Nat, i ≤ t.length ∧ z = .int .i64 i ∧ Hid (FindSt S t i x y) ∧ Below w.heap.size w wr) (fun _ _ z _ => t.length - (RowKit.intOf z).toNat)
  case atStart => exact ⟨0, Nat.zero_le _, rfl, Lib.hid (.inl ⟨0, rfl, rfl, by simpa using hroot⟩), Below.refl _ _⟩
  case round =>
    obtain ⟨i, hi, rfl, HF, hbe⟩ := hrel
    have hsz := hbe.size
    rcases HF.out with ⟨n, rfl, rfl, hn⟩ | ⟨rfl, rfl, hno⟩
    · by_cases hlt : i < t.length
      · have hzb : i < (⟨t.toArray⟩ : ByteArray).size := by rw [bsize]; omega
        have HB := byteAt t i (by omega) hzb
        have HN := Lib.hid (ts_next (HH.out.below hbe) n hn t[i])
        have e1 : t.take (i + 1) = t.take i ++ [t[i]] := List.take_succ_eq_append_getElem hlt
        rw [← e1] at HN
        have g1 : (i : Int) < (t.length : Int) := by omega
        have g0 : (0 : Int) ≤ (i : Int) := by omega
        by_cases hm : t.take (i + 1) ∈ S
        · clear e1 HF hn
          go_wp2_with fail
          refine HN.out.mono ?_
          rintro e w2 ⟨⟨h1, _⟩, hb2⟩
          obtain ⟨n2, rfl, hn2⟩ := h1 hm
          have HF2 : Hid (FindSt S t (i + 1) (.int .i64 (n2 : Int)) (.bool true)) := Lib.hid (.inl ⟨n2, rfl, rfl, hn2⟩)
          have d2 := Lib.hid (hbe.trans (hb2.mono hsz))
          clear h1 hb2 HN hn2 hm HB hbe
          go_wp2
          exact ⟨⟨i + 1, by omega, by go_num, HF2, d2.out⟩, by simp [RowKit.intOf]; omega⟩
        · clear e1 HF hn
          go_wp2_with fail
          refine HN.out.mono ?_
          rintro e w2 ⟨⟨_, h1⟩, hb2⟩
          obtain rfl := h1 hm
          have HF2 : Hid (FindSt S t (i + 1) (.int .i64 0) (.bool false)) := Lib.hid (.inr ⟨rfl, rfl, fun hx => hm (st_take HT.out hx (i + 1))⟩)
          have d2 := Lib.hid (hbe.trans (hb2.mono hsz))
          clear h1 hb2 HN hm HB hbe
          go_wp2
          exact ⟨⟨i + 1, by omega, by go_num, HF2, d2.out⟩, by simp [RowKit.intOf]; omega⟩
      · have he : t.take i = t := List.take_of_length_le (by omega)
        rw [he] at hn
        have g1 : ¬ (i : Int) < (t.length : Int) := by omega
        have HE : Hid (RetFd S t w (.returned (.tuple #[.int .i64 (n : Int), .bool true])) wr) := Lib.hid ⟨⟨fun _ => ⟨n, rfl, hn⟩, fun hx => absurd (List.mem_of_getElem? hn) hx⟩, hbe⟩
        clear HF hn he hbe
        go_wp2
        go_ret2
        exact HE.out
    · have HE : Hid (RetFd S t w (.returned (.tuple #[.int .i64 0, .bool false])) wr) := Lib.hid ⟨⟨fun hx => absurd hx hno, fun _ => rfl⟩, hbe⟩
      clear HF hno hbe
      go_wp2
      go_ret2
      exact HE.out
end Go.Proofs.Ytkaldfcpcimacaa

namespace Go.Proofs.Ytkaldfcpcimacaa

variable {P : Program}

/-- The outcome lies where the slice lay, or in the block that is made next, or nowhere. -/
theorem run_append_to {w w' : World} {v' : Value} (base : Nat) (t ty e : TypeId) (i : TypeInfo) (z : Value) (size bytes : Nat) (ht : P.underlying t = some (.slice e)) (hi : P.info? e = some i) (hz : i.zero = some z)
    (hsize : i.size = size) (hby : i.bytes = bytes) (hzs : z.cells.size = size) (hsz : 0 < size)
    (v : Value) (n : Nat) (xs : List Value) (hown : w.ownsRow base e size v n xs)
    (a : Addr) (m c : Nat) (news : List Value) (hl : news.length = m * size) (hnews : ∀ j u, news[j]? = some u → w.cell? (a.add j) = some u) (h1 : ∀ u ∈ news, u.oneCell' = true)
    (h63 : n + m ≤ maxLen) (hbytes : (n + m) * bytes ≤ 140737488355328) (hm : 0 < m)
    (hr : (Builtin.append_ #[t, t] ty #[v, .slice (some a) m c]).run P w = .ok v' w') : v'.ownBlock = v.ownBlock ∨ v'.ownBlock = some w.heap.size := by
  subst hsize hby
  have hsmall : n + m ≤ 9223372036854775807 := by simp only [maxLen] at h63; omega
  rcases hown.2 with ⟨rfl, rfl⟩ | ⟨g, cap, cur, rfl, hbg, hg, hnc, hcm, hcs, htake⟩
  · have h2 := run_append_nil (P := P) w t ty e i z ht hi hz a m c news hl hnews (by omega) (by omega) (by have hb := hbytes; simp only [Nat.zero_add] at hb; omega)
    rw [h2] at hr
    cases hr
    exact .inr rfl
  · by_cases hroom : n + m ≤ cap
    · have h2 := run_append_room (P := P) w t ty e i ht hi g n cap cur hg a m c news hl hnews h1 hroom (by rw [hl, hcs, ← Nat.add_mul]; exact Nat.mul_le_mul_right _ hroom)
      rw [h2] at hr
      cases hr
      exact .inl rfl
    · have holds : ∀ j u, xs[j]? = some u → w.cell? ((⟨g, 0, none⟩ : Addr).add j) = some u := hown.cells (g := g) rfl
      have h2 := run_append_grow (P := P) w t ty e i z ht hi hz ⟨g, 0, none⟩ n cap xs hown.1 holds a m c news hl hnews (by omega) (by omega) (growslice_fits (by omega) hbytes)
      rw [h2] at hr
      cases hr
      exact .inr rfl

theorem wpList_append_to (w : World) {ops : Array Oper} {rest : List Oper} {o : Oper} {a : Act} {Q : Exit → Act → World → Prop} (hgd : o.guard = none) (s x : Operand) (t : TypeId)
    (ho : o.op = .call { callee := .builtin .append, args := #[s, x], argTypes := #[t, t] })
    (base : Nat) (e : TypeId) (i : TypeInfo) (z : Value) (size bytes : Nat) (ht : P.underlying t = some (.slice e)) (hi : P.info? e = some i) (hz : i.zero = some z)
    (hsize : i.size = size) (hby : i.bytes = bytes) (hzs : z.cells.size = size) (hsz : 0 < size)
    (v : Value) (n : Nat) (xs : List Value) (hs : a.eval s = v) (hown : w.ownsRow base e size v n xs)
    (ad : Addr) (m c : Nat) (news : List Value) (hx : a.eval x = .slice (some ad) m c) (hl : news.length = m * size) (hnews : ∀ j u, news[j]? = some u → w.cell? (ad.add j) = some u) (h1 : ∀ u ∈ news, u.oneCell' = true)
    (h63 : n + m ≤ maxLen) (hbytes : (n + m) * bytes ≤ 140737488355328) (hbase : base ≤ w.heap.size) (hm : 0 < m)
    (h : ∀ v' w', w'.ownsRow base e size v' (n + m) (xs ++ news) → w.grownBy w' v.ownBlock → (v'.ownBlock = v.ownBlock ∨ v'.ownBlock = some w.heap.size) → wpList P ops Q rest (a.put o.dst v') w') : wpList P ops Q (o :: rest) a w := by
  refine wpList_plain hgd fun K hK => ?_
  obtain ⟨v', w', hr, h2, h3, _⟩ := run_append_own (P := P) w base t o.type e i z size bytes ht hi hz hsize hby hzs hsz v n xs hown ad m c news hl hnews h1 h63 hbytes hbase
  have h4 := run_append_to base t o.type e i z size bytes ht hi hz hsize hby hzs hsz v n xs hown ad m c news hl hnews h1 h63 hbytes hm hr
  have hK2 := hK _ _ (h v' w' h2 h3 h4)
  unfold Oper.wp execOp
  simp only [ho, resolve, invoke, builtin, Sem.run_bind, Sem.run_pure, Result.andThen_ok, List.map_toArray, List.map_cons, List.map_nil, hs, hx, hr]
  exact hK2
end Go.Proofs.Ytkaldfcpcimacaa

namespace Go.Proofs.Ytkaldfcpcimacaa
open Go.RowKit

/-- The first place of a text; -1: none. -/
def ixL (s : List UInt8) (ws : List (List UInt8)) : Int := if s ∈ ws then (ws.findIdx (· == s) : Int) else -1
theorem ix_hit {s : List UInt8} {ws : List (List UInt8)} {k : Nat} (h : ws[k]? = some s) (hn : s ∉ ws.take k) : ixL s ws = k := by
  obtain ⟨hk, e⟩ := List.getElem?_eq_some_iff.1 h
  unfold ixL
  rw [if_pos (List.mem_of_getElem? h)]
  congr 1
  rw [List.findIdx_eq hk]
  refine ⟨by rw [e]; simp, fun j hj => ?_⟩
  rw [Bool.eq_false_iff]
  intro hs
  have hs2 : ws[j] = s := by simpa using hs
  exact hn (List.mem_of_getElem? (i := j) (by rw [List.getElem?_take, if_pos hj, ← hs2]; exact List.getElem?_eq_getElem (by omega)))
theorem ix_miss {s : List UInt8} {ws : List (List UInt8)} (h : s ∉ ws) : ixL s ws = -1 := if_neg h
theorem ix_is {s : List UInt8} {ws : List (List UInt8)} {k : Nat} (hn : ws.Nodup) (h : ws[k]? = some s) : ixL s ws = k := by
  refine ix_hit h fun hm => ?_
  obtain ⟨j, hj⟩ := List.mem_iff_getElem?.1 hm
  rw [List.getElem?_take] at hj
  split at hj
  · rename_i hlt
    obtain ⟨a1, b1⟩ := List.getElem?_eq_some_iff.1 hj
    obtain ⟨a2, b2⟩ := List.getElem?_eq_some_iff.1 h
    have := (List.getElem_inj hn).1 (b1.trans b2.symm)
    omega
  · cases hj
theorem ix_pos (s : List UInt8) (ws : List (List UInt8)) : decide (0 ≤ ixL s ws) = decide (s ∈ ws) := by
  unfold ixL
  split <;> simp_all

set_option maxHeartbeats 1000000 in
theorem rfind16_any (a : Option Addr) (len cap : Nat) (ws : List (List UInt8)) (s : List UInt8) (w : World) (hlen : len ≤ 1000000000) (hr : IsStrs w a len ws) :
    Calls Try.prog 35 #[.slice a len cap, .string ⟨s.toArray⟩] w fun e w' => e = .returned (.int .i64 (ixL s ws)) ∧ w' = w := by
  have hwl := hr.1
  have HI := Lib.hid hr
  clear hr
  go_enter Try.func35, Try.ntmps35
  go_wp2
  go_loop [5] (fun i => ∃ k : Nat, k ≤ len ∧ i = .int .i64 k ∧ Hid (s ∉ ws.take k)) (fun i => len - (RowKit.intOf i).toNat)
  case atStart => exact ⟨0, Nat.zero_le _, rfl, Lib.hid (by simp)⟩
  case round =>
    obtain ⟨k, hk, rfl, HK⟩ := hrel
    by_cases hlt : k < len
    · obtain ⟨b, off, rfl, t, hf, hc⟩ := str_at HI.out (Below.refl _ _) k hlt
      cases hq : (t == s) with
      | true =>
        have e1 : t = s := by simpa using hq
        have HE : Hid (ixL s ws = k) := Lib.hid (ix_hit (by rw [← e1]; exact hf) HK.out)
        clear hf HK e1
        go_wp2
        go_ret
        exact ⟨by rw [HE.out]; rfl, rfl⟩
      | false =>
        have HK2 : Hid (s ∉ ws.take (k + 1)) := Lib.hid (fun hm => by
          obtain ⟨hk', e⟩ := List.getElem?_eq_some_iff.1 hf
          rw [List.take_succ_eq_append_getElem hk', List.mem_append, List.mem_singleton, e] at hm
          rcases hm with hm | hm
          · exact HK.out hm
          · subst hm; simp at hq)
        clear hf HK
        go_wp2
        exact ⟨⟨k + 1, by omega, by go_num, HK2⟩, by simp [RowKit.intOf]; omega⟩
    · obtain rfl : k = len := by omega
      have HE : Hid (ixL s ws = -1) := Lib.hid (ix_miss (by have := HK.out; rwa [List.take_of_length_le (by omega)] at this))
      clear HK
      go_wp2
      go_ret
      exact ⟨by rw [HE.out]; rfl, rfl⟩
set_option maxHeartbeats 1000000 in
theorem rfind10_any (a : Option Addr) (len cap : Nat) (ws : List (List UInt8)) (s : List UInt8) (w : World) (hlen : len ≤ 1000000000) (hr : IsStrs w a len ws) :
    Calls Try.prog 34 #[.slice a len cap, .string ⟨s.toArray⟩] w fun e w' => e = .returned (.int .i64 (ixL s ws)) ∧ w' = w := by
  have hwl := hr.1
  have HI := Lib.hid hr
  clear hr
  go_enter Try.func34, Try.ntmps34
  go_wp2
  go_loop [5] (fun i => ∃ k : Nat, k ≤ len ∧ i = .int .i64 k ∧ Hid (s ∉ ws.take k)) (fun i => len - (RowKit.intOf i).toNat)
  case atStart => exact ⟨0, Nat.zero_le _, rfl, Lib.hid (by simp)⟩
  case round =>
    obtain ⟨k, hk, rfl, HK⟩ := hrel
    by_cases hlt : k < len
    · obtain ⟨b, off, rfl, t, hf, hc⟩ := str_at HI.out (Below.refl _ _) k hlt
      cases hq : (t == s) with
      | true =>
        have e1 : t = s := by simpa using hq
        have HE : Hid (ixL s ws = k) := Lib.hid (ix_hit (by rw [← e1]; exact hf) HK.out)
        clear hf HK e1
        go_wp2
        go_ret
        exact ⟨by rw [HE.out]; rfl, rfl⟩
      | false =>
        have HK2 : Hid (s ∉ ws.take (k + 1)) := Lib.hid (fun hm => by
          obtain ⟨hk', e⟩ := List.getElem?_eq_some_iff.1 hf
          rw [List.take_succ_eq_append_getElem hk', List.mem_append, List.mem_singleton, e] at hm
          rcases hm with hm | hm
          · exact HK.out hm
          · subst hm; simp at hq)
        clear hf HK
        go_wp2
        exact ⟨⟨k + 1, by omega, by go_num, HK2⟩, by simp [RowKit.intOf]; omega⟩
    · obtain rfl : k = len := by omega
      have HE : Hid (ixL s ws = -1) := Lib.hid (ix_miss (by have := HK.out; rwa [List.take_of_length_le (by omega)] at this))
      clear HK
      go_wp2
      go_ret
      exact ⟨by rw [HE.out]; rfl, rfl⟩
theorem IsStP.few {us out : List (List UInt8)} {n j : Nat} (h : IsStP us n j out) : out.length ≤ totalL us + 1 :=
  states_few (slx_nodup h.1) fun q hq => by
    rcases (h.2.2 q).1 hq with h1 | ⟨_, h1⟩ | ⟨_, h1⟩
    · exact .inl h1
    · exact .inr h1
    · obtain ⟨i, t, _, ht, hp⟩ := beg_take.1 h1
      exact .inr (beg_at ht hp)

/-- The states, as an answer. -/
def RetSt (us : List (List UInt8)) (w : World) (e : Ending) (w' : World) : Prop := ∃ (S : List (List UInt8)) (a : Option Addr) (cap : Nat), e = .returned (.slice a S.length cap) ∧ IsSt us S ∧ IsStrs w' a S.length S ∧ Below w.heap.size w w'
set_option maxRecDepth 100000 in
set_option maxHeartbeats 4000000 in
theorem rstates_any (a : Option Addr) (len cap : Nat) (us : List (List UInt8)) (w : World) (hlen : len ≤ 1000000) (hr : IsStrs w a len us) (ha : Asc us) (ht : ∀ t ∈ us, t.length ≤ 65535) (htot : totalL us ≤ 16777216) :
    Calls Try.prog 11 #[.slice a len cap] w (RetSt us w) := by
  have hwl := hr.1
  obtain ⟨i0, hi, hz0, hz1, hz2⟩ := info_parts string_info
  have HI := Lib.hid hr
  have HA := Lib.hid ha
  have HT := Lib.hid ht
  clear hr ha ht
  go_enter Try.func11, Try.ntmps11
  go_wp2
  go_loopw [4, 5] (fun x i wr => ∃ k n : Nat, k ≤ len ∧ i = .int .i64 k ∧ x = .int .i64 n ∧ n ≤ 65535 ∧ Hid (∀ t ∈ us.take k, t.length ≤ n) ∧ Hid (wr = w.alloc (.cells #[.string ⟨#[]⟩] 9))) (fun _ i _ => len - (RowKit.intOf i).toNat)
  case atStart => exact ⟨0, 0, Nat.zero_le _, rfl, rfl, by omega, Lib.hid (by simp), Lib.hid rfl⟩
  case round =>
    obtain ⟨k, n, hk, rfl, rfl, hn, HK, hwr⟩ := hrel
    have hbe : Below w.heap.size w wr := by rw [hwr.out]; exact (Below.refl _ _).alloc (Nat.le_refl _) _
    by_cases hlt : k < len
    · obtain ⟨b, off, rfl, t, hf, hc⟩ := str_at HI.out hbe k hlt
      have HS := Lib.hid (bsize t)
      have htl := HT.out t (List.mem_of_getElem? hf)
      have hsn : ∀ m, n ≤ m → t.length ≤ m → ∀ u ∈ us.take (k + 1), u.length ≤ m := fun m h1 h2 u hu => by
        obtain ⟨hk', e⟩ := List.getElem?_eq_some_iff.1 hf
        rw [List.take_succ_eq_append_getElem hk', List.mem_append, List.mem_singleton, e] at hu
        rcases hu with hu | rfl
        · exact Nat.le_trans (HK.out u hu) h1
        · exact h2
      have g1 : (k : Int) < (len : Int) := by omega
      by_cases hq : n < t.length
      · have HK2 := Lib.hid (hsn t.length (by omega) (Nat.le_refl _))
        clear hf HK hsn
        go_wp2
        exact ⟨⟨k + 1, t.length, by omega, by go_num, rfl, htl, HK2, hwr⟩, by simp [RowKit.intOf]; omega⟩
      · have HK2 := Lib.hid (hsn n (Nat.le_refl _) (by omega))
        clear hf HK hsn
        go_wp2
        exact ⟨⟨k + 1, n, by omega, by go_num, rfl, hn, HK2, hwr⟩, by simp [RowKit.intOf]; omega⟩
    · obtain rfl : k = len := by omega
      have HM : Hid (∀ t ∈ us, t.length ≤ n) := Lib.hid (by have := HK.out; rwa [List.take_of_length_le (by omega)] at this)
      have HW : Hid (us.take k = us) := Lib.hid (List.take_of_length_le (by omega))
      have g1 : ¬ (k : Int) < (k : Int) := by omega
      have H0 : Hid (wr.ownsRow w.heap.size 9 1 (.slice (some ⟨w.heap.size, 0, none⟩) 1 1) ([[]] : List (List UInt8)).length (txCells [[]])) := Lib.hid (by
        rw [hwr.out]
        exact ⟨rfl, .inr ⟨w.heap.size, 1, _, rfl, Nat.le_refl _, heap_alloc_new w _, Nat.le_refl _, by decide, rfl, rfl⟩⟩)
      have HB0 := Lib.hid hbe
      clear HK hbe hwr
      go_wp2
      obtain ⟨W1, hW1⟩ : ∃ W, W = wr := ⟨_, rfl⟩
      subst hW1
      go_loopw [3, 6] (fun v x wr => ∃ (m g cap' : Nat) (out : List (List UInt8)), m ≤ n + 1 ∧ x = .int .i64 m ∧ v = .slice (some ⟨g, 0, none⟩) out.length cap' ∧ Hid (IsStP us m 0 out) ∧ Hid (wr.ownsRow w.heap.size 9 1 (.slice (some ⟨g, 0, none⟩) out.length cap') out.length (txCells out)) ∧ Below w.heap.size w wr) (fun _ x _ => n + 1 - (RowKit.intOf x).toNat)
      case atStart => exact ⟨1, w.heap.size, 1, [[]], by omega, rfl, rfl, Lib.hid (IsStP.start us), H0, HB0.out⟩
      case round =>
        obtain ⟨m, g, cap', out, hm, rfl, rfl, HP, HO, hbe⟩ := hrel
        by_cases hmn : m ≤ n
        · have g2 : (m : Int) ≤ (n : Int) := by omega
          have hm1 := HP.out.2.1.2
          clear H0 HB0
          go_wp2
          obtain ⟨W2, hW2⟩ : ∃ W, W = wr := ⟨_, rfl⟩
          subst hW2
          go_loopw [3, 7] (fun v x wr => ∃ (j g cap' : Nat) (out : List (List UInt8)), j ≤ k ∧ x = .int .i64 j ∧ v = .slice (some ⟨g, 0, none⟩) out.length cap' ∧ Hid (IsStP us m j out) ∧ Hid (wr.ownsRow w.heap.size 9 1 (.slice (some ⟨g, 0, none⟩) out.length cap') out.length (txCells out)) ∧ Below w.heap.size w wr) (fun _ x _ => k - (RowKit.intOf x).toNat)
          case atStart => exact ⟨0, g, cap', out, Nat.zero_le _, rfl, rfl, HP, HO, hbe⟩
          case round =>
            clear HP HO hbe
            obtain ⟨j, g, cap', out, hj, rfl, rfl, HP, HO, hbe⟩ := hrel
            have hsz := hbe.size
            have hlo := HP.out.2.1.1
            have hof := HP.out.few
            by_cases hlt : j < k
            · obtain ⟨b, off, rfl, t, hf, hc⟩ := str_at HI.out hbe j hlt
              obtain ⟨l, hl⟩ : ∃ l, out[out.length - 1]? = some l := ⟨out[out.length - 1], List.getElem?_eq_getElem (by omega)⟩
              have hol : wr.cell? ⟨g, out.length - 1, none⟩ = some (.string ⟨l.toArray⟩) := by
                have := HO.out.cells (g := g) rfl (out.length - 1) (.string ⟨l.toArray⟩) (by simp [txCells, hl])
                rwa [addPlain, Nat.zero_add] at this
              have HS := Lib.hid (bsize t)
              have S2 := Lib.hid (bsize l)
              have hx := ext_cut t 0 m
              rw [List.drop_zero] at hx
              have q1 : (0 : Int) ≤ (j : Int) := by omega
              have q2 : (j : Int) < (k : Int) := by omega
              have q3 : IntKind.i64.wrap ((out.length : Int) - 1) = (out.length : Int) - 1 := by rw [IntKind.wrap_i64]; omega
              have q4 : ((out.length : Int) - 1).toNat = out.length - 1 := by omega
              have q5 : (0 : Int) ≤ (out.length : Int) - 1 := by omega
              have q6 : (out.length : Int) - 1 < (out.length : Int) := by omega
              have q7 : (0 : Int) ≤ (m : Int) := by omega
              by_cases hlong : m ≤ t.length
              · have q8 : (m : Int) ≤ (t.length : Int) := by omega
                by_cases heq : t.take m = l
                · have HP2 := Lib.hid (HP.out.skip hf (.inr (by rw [heq]; exact List.mem_of_getElem? hl)))
                  subst heq
                  clear hf hl HP
                  go_wp2_with fail
                  go_quiet (fail)
                  go_wp2
                  exact ⟨⟨j + 1, g, cap', out, by omega, by go_num, rfl, HP2, Lib.hid (HO.out : _), below_drewS hbe nq⟩, by simp [RowKit.intOf]; omega⟩
                · have HP2 := Lib.hid (HP.out.put HA.out hf hlong hl heq)
                  have hq : (t.take m == l) = false := by rw [beq_eq_false_iff_ne]; exact heq
                  have hcut : (0 : Int) ≤ (m : Int) := by omega
                  have H7 : Hid (∀ r, wr.cell? ⟨b, off + j, none⟩ = r → ∀ q o, ((wr.drewN q).alloc o).cell? ⟨b, off + j, none⟩ = r) := Lib.hid fun r hr' q o => by
                    have hblt := World.block_lt_of_cell? wr _ hc
                    rw [World.cell?_alloc_lt _ _ _ (show b < (wr.drewN q).heap.size from hblt)]; exact hr'
                  clear hf hl HP heq
                  have hown := HO.out
                  go_wp2_with fail
                  go_quiet (fail)
                  go_wp2_with (at_builtin; refine wpList_append_to _ rfl _ _ 22 rfl w.heap.size 9 i0 (.string ByteArray.empty) 1 16 Try.underlying22 hi hz0 hz1 hz2 rfl (by decide) _ _ _ rfl (World.ownsRow.alloc (w := wr.drewN nq) hown _) ⟨wr.heap.size, 0, none⟩ 1 1 [.string ⟨(t.take m).toArray⟩] rfl rfl (one_news (heap_alloc_new (wr.drewN nq) _)) str_one (by unfold maxLen; omega) (by omega) (by simp; omega) (by decide) ?_)
                  intro v' w4 hown4 hgrow4 hat4
                  have e1 : (out ++ [t.take m]).length = out.length + 1 := by simp
                  have B4 : Below w.heap.size w w4 := ((below_drewS hbe nq).alloc (by show _ ≤ wr.heap.size; exact hsz) _).grown hgrow4 (by simp; omega) (fun i hi => (hown.lt i hi).1)
                  obtain ⟨g4, c4, rfl, _⟩ := World.ownsRow.form hown4 (by omega)
                  have HO4 : Hid (w4.ownsRow w.heap.size 9 1 (.slice (some ⟨g4, 0, none⟩) (out ++ [t.take m]).length c4) (out ++ [t.take m]).length (txCells (out ++ [t.take m]))) := Lib.hid (by
                    rw [e1, txCells_snoc]; exact hown4)
                  rw [← e1]
                  generalize out ++ [t.take m] = out2 at HO4 HP2 ⊢
                  clear hown hown4 hgrow4 hat4 e1
                  go_wp2
                  exact ⟨⟨j + 1, g4, c4, out2, by omega, by go_num, rfl, HP2, HO4, B4⟩, by simp [RowKit.intOf]; omega⟩
              · have HP2 := Lib.hid (HP.out.skip hf (.inl (by omega)))
                have q8 : ¬ (m : Int) ≤ (t.length : Int) := by omega
                clear hf hl HP hx
                go_wp2_with fail
                go_quiet (fail)
                go_wp2
                exact ⟨⟨j + 1, g, cap', out, by omega, by go_num, rfl, HP2, Lib.hid (HO.out : _), below_drewS hbe nq⟩, by simp [RowKit.intOf]; omega⟩
            · obtain rfl : j = k := by omega
              have q2 : ¬ (j : Int) < (j : Int) := by omega
              have HP2 := Lib.hid (by have := HP.out; rw [← hwl] at this; exact this.next : IsStP us (m + 1) 0 out)
              clear HP
              go_wp2
              exact ⟨⟨m + 1, g, cap', out, by omega, by go_num, rfl, HP2, HO, hbe⟩, by simp [RowKit.intOf]; omega⟩
        · have g2 : ¬ (m : Int) ≤ (n : Int) := by omega
          have hst : IsSt us out := by
            have : m = n + 1 := by omega
            subst this
            exact HP.out.done fun t ht => Nat.lt_succ_of_le (HM.out t ht)
          have HE : Hid (RetSt us w (.returned (.slice (some ⟨g, 0, none⟩) out.length cap')) wr) := Lib.hid (by
            obtain ⟨ao, cp, he, hs⟩ := owns_strs HO.out
            cases he
            exact ⟨out, _, _, rfl, hst, hs, hbe⟩)
          clear HP HO hbe hst
          go_wp2
          go_ret
          exact HE.out
end Go.Proofs.Ytkaldfcpcimacaa

namespace Go.Proofs.Ytkaldfcpcimacaa
open Go.RowKit

theorem pats_nodup {w : World} {p : Option Addr} {us : List (List UInt8)} (h : IsPats w p us) : us.Nodup := by
  rcases h with ⟨_, rfl⟩ | ⟨b, _, _, h⟩
  · exact List.Pairwise.nil
  · exact h.once
/-- A new trie of a set that texts make. -/
theorem trnew_set {w : World} {p : Option Addr} {ws : List (List UInt8)} (h : IsPats w p (setL ws)) :
    Calls Try.prog 31 #[.pointer p] w fun e w' => ∃ q S, e = .returned (.pointer q) ∧ IsTrie w' q p (setL ws) S ∧ Below w.heap.size w w' := trnew_any h (set_asc ws) (pats_nodup h)
end Go.Proofs.Ytkaldfcpcimacaa

namespace Go.Proofs.Ytkaldfcpcimacaa
open Go.RowKit

/-- Of the first m states it is known where they fall back to. -/
structure FlOk (us S : List (List UInt8)) (m : Nat) (F : List (Nat × Nat)) : Prop where
  len : F.length = S.length
  at_ : ∀ (i : Nat) (s : List UInt8), i < m → S[i]? = some s → ∃ a b : Nat, F[i]? = some (a, b) ∧ S[a]? = some (fbL S s) ∧ S[b]? = some (fbL us s)
/-- Links of a trie of a set: of the first m states it is known where they fall back to. -/
structure IsLink (w : World) (k q p : Option Addr) (us S : List (List UInt8)) (m : Nat) (F : List (Nat × Nat)) : Prop where
  has : HasLk w k q F
  tr : IsTrie w q p us S
  asc : Asc us
  ok : FlOk us S m F
theorem IsLink.below {w w' : World} {k q p : Option Addr} {us S : List (List UInt8)} {m : Nat} {F : List (Nat × Nat)} (h : IsLink w k q p us S m F) (hb : Below w.heap.size w w') : IsLink w' k q p us S m F :=
  ⟨h.has.below hb, h.tr.below hb, h.asc, h.ok⟩
theorem IsLink.root {w : World} {k q p : Option Addr} {us S : List (List UInt8)} {m : Nat} {F : List (Nat × Nat)} (h : IsLink w k q p us S m F) : S[0]? = some [] := by
  obtain ⟨R, _, _, h3, _⟩ := h.tr
  exact h3.root
theorem IsLink.zero {w : World} {k q p : Option Addr} {us S : List (List UInt8)} {m : Nat} {F : List (Nat × Nat)} (h : IsLink w k q p us S m F) {i : Nat} {s : List UInt8} (hs : S[i]? = some s) : i = 0 ↔ s = [] := by
  constructor
  · rintro rfl
    rw [h.root] at hs
    exact (Option.some.inj hs).symm
  · rintro rfl
    exact rise_same h.tr.st.1 hs h.root
theorem IsLink.less {w : World} {k q p : Option Addr} {us S : List (List UInt8)} {m : Nat} {F : List (Nat × Nat)} (h : IsLink w k q p us S m F) {i j : Nat} {s t : List UInt8} (hs : S[i]? = some s) (ht : S[j]? = some t) (hl : s.length < t.length) : i < j := rise_lt h.tr.st.1 hs ht (.inl hl)
theorem IsLink.mem {w : World} {k q p : Option Addr} {us S : List (List UInt8)} {m : Nat} {F : List (Nat × Nat)} (h : IsLink w k q p us S m F) : [] ∈ S := st_root h.tr.st
theorem IsLink.flen {w : World} {k q p : Option Addr} {us S : List (List UInt8)} {m : Nat} {F : List (Nat × Nat)} (h : IsLink w k q p us S m F) : F.length = S.length := h.ok.len

set_option maxHeartbeats 1000000 in
theorem lkstep_out {w : World} {k q : Option Addr} {F : List (Nat × Nat)} (h : HasLk w k q F) (s : Int) (hs : s < 0 ∨ (F.length : Int) ≤ s) (c : UInt8) : Calls Try.prog 16 #[.pointer k, .int .i64 s, .int .u8 (c.toNat : Int)] w fun e w' => e = .returned (.int .i64 0) ∧ w' = w := by
  have HS := Lib.hid (lkis_out h s hs)
  clear h hs
  go_enter Try.func16, Try.ntmps16
  go_wp2_with fail
  refine HS.out.mono ?_
  rintro e w' ⟨rfl, rfl⟩
  go_wp2
  go_ret
  exact ⟨rfl, rfl⟩

set_option maxHeartbeats 2000000 in
theorem lkstep_in {w : World} {k q p : Option Addr} {us S : List (List UInt8)} {m : Nat} {F : List (Nat × Nat)} (h : IsLink w k q p us S m F) (i : Nat) {s : List UInt8} (hs : S[i]? = some s) (hi : i < m) (c : UInt8) :
    Calls Try.prog 16 #[.pointer k, .int .i64 (i : Int), .int .u8 (c.toNat : Int)] w fun e w' => ∃ n : Nat, e = .returned (.int .i64 (n : Int)) ∧ S[n]? = some (lgL S (s ++ [c])) ∧ Below w.heap.size w w' := by
  have hil := (List.getElem?_eq_some_iff.1 hs).1
  have HS := Lib.hid (lkis_in h.has i (by rw [h.flen]; exact hil))
  obtain ⟨base, b, g, rfl, hk⟩ := h.has.some (i := i) (by rw [h.flen]; exact hil)
  have HH := Lib.hid h
  have HK := Lib.hid hk
  have c0 := hk.reads.1
  have hi0 := Lib.hid hi
  have hs0 := Lib.hid hs
  clear h hk hil hi hs
  go_enter Try.func16, Try.ntmps16
  go_wp2_with fail
  refine HS.out.mono ?_
  rintro e w' ⟨rfl, hw'⟩
  obtain rfl := hw'.symm
  clear hw' HS
  go_wp2
  go_loopw [1, 7, 8] (fun x _ _ wr => ∃ (j : Nat) (t : List UInt8), x = .int .i64 j ∧ Hid (j < m) ∧ Hid (S[j]? = some t) ∧ Hid (lgL S (s ++ [c]) = lgL S (t ++ [c])) ∧ Below w.heap.size w wr) (fun x _ _ _ => (RowKit.intOf x).toNat)
  case atStart => exact ⟨i, s, rfl, hi0, hs0, Lib.hid rfl, Below.refl _ _⟩
  case round =>
    clear hi0 hs0 c0
    obtain ⟨j, t, rfl, hj, ht, hg, hbe⟩ := hrel
    have hsz := hbe.size
    have c0 := (HK.out.below hbe).reads.1
    have HN := Lib.hid (ts_next (HH.out.below hbe).tr j ht.out c)
    by_cases hm : t ++ [c] ∈ S
    · go_wp2_with fail
      refine HN.out.mono ?_
      rintro e w2 ⟨⟨h1, _⟩, hb2⟩
      obtain ⟨n, rfl, hn⟩ := h1 hm
      have HE := Lib.hid (show S[n]? = some (lgL S (s ++ [c])) by rw [hg.out, lg_hit hm]; exact hn)
      have d2 := Lib.hid (hbe.trans (hb2.mono hsz))
      clear h1 hb2 HN hn hm hbe hg ht
      go_wp2
      go_ret
      exact ⟨n, rfl, HE.out, d2.out⟩
    · by_cases h0 : j = 0
      · have e0 := (HH.out.zero ht.out).1 h0
        subst h0
        have HE := Lib.hid (show S[0]? = some (lgL S (s ++ [c])) by
          rw [hg.out, lg_miss hm, e0]; exact HH.out.root)
        go_wp2_with fail
        refine HN.out.mono ?_
        rintro e w2 ⟨⟨_, h1⟩, hb2⟩
        obtain rfl := h1 hm
        have d2 := Lib.hid (hbe.trans (hb2.mono hsz))
        clear h1 hb2 HN hm hbe hg ht e0
        go_wp2
        go_ret
        exact ⟨0, rfl, HE.out, d2.out⟩
      · have e0 : t ≠ [] := fun e => h0 ((HH.out.zero ht.out).2 e)
        have g0 : ((j : Int) == 0) = false := by simp; omega
        have g1 : ¬ (j : Int) = 0 := by omega
        have g2 : (j == 0) = false := by simp; omega
        obtain ⟨a, a', hF, ha, _⟩ := HH.out.ok.at_ j t hj.out ht.out
        have hlt := HH.out.less ha ht.out (fb_less e0)
        have HF := Lib.hid (fun W hb => lkfail_any ((HH.out.below (w' := W) hb).has) (j : Int))
        rw [flOf_in hF] at HF
        have HE := Lib.hid (show lgL S (s ++ [c]) = lgL S (fbL S t ++ [c]) by
          rw [hg.out]; exact lg_step HH.out.tr.st c e0 hm)
        have hj2 := Lib.hid (Nat.lt_trans hlt hj.out)
        have ha2 := Lib.hid ha
        go_wp2_with fail
        refine HN.out.mono ?_
        rintro e w2 ⟨⟨_, h1⟩, hb2⟩
        obtain rfl := h1 hm
        have d2 := Lib.hid (hbe.trans (hb2.mono hsz))
        have HF2 := Lib.hid (HF.out w2 d2.out)
        clear h1 hb2 HN hm hbe hg ht e0 ha hF hj HF hsz
        go_wp2_with fail
        refine HF2.out.mono ?_
        rintro e w3 ⟨rfl, hb3⟩
        have d3 := Lib.hid (d2.out.trans (hb3.mono d2.out.size))
        clear hb3 HF2
        go_wp2
        exact ⟨⟨a, _, rfl, hj2, ha2, HE, d3.out⟩, by simp [RowKit.intOf]; omega⟩
end Go.Proofs.Ytkaldfcpcimacaa

namespace Go.Proofs.Ytkaldfcpcimacaa
open Go.RowKit

/-- What fallOf tells of a state. -/
def RetFl (us S : List (List UInt8)) (s : List UInt8) (w : World) (e : Ending) (w' : World) : Prop :=
  ∃ a b : Nat, e = .returned (flV (a, b)) ∧ S[a]? = some (fbL S s) ∧ S[b]? = some (fbL us s) ∧ Below w.heap.size w w'

theorem put_two {w : World} {r : Nat} {T : TypeId} {u v : Value} (h : w.heap[r]? = some (.cells #[u, v] T (0, 0))) (x y : Value) : ((w.setCell ⟨r, 0, none⟩ x).setCell ⟨r, 1, none⟩ y).heap[r]? = some (.cells #[x, y] T (0, 0)) := by
  rw [put_heap (put_heap h x) y]; rfl

set_option maxHeartbeats 2000000 in
theorem lkfall_any {w : World} {k q p : Option Addr} {us S : List (List UInt8)} {m : Nat} {F : List (Nat × Nat)} (h : IsLink w k q p us S m F) {s : List UInt8} (hs : S[m]? = some s) :
    Calls Try.prog 32 #[.pointer k, .int .i64 (m : Int)] w (RetFl us S s w) := by
  have hil := (List.getElem?_eq_some_iff.1 hs).1
  obtain ⟨base, b, g, rfl, hk⟩ := h.has.some (i := m) (by rw [h.flen]; exact hil)
  have hfew := h.tr.few.2.2
  have HH := Lib.hid h
  have HK := Lib.hid hk
  have hB1 := (Below.refl w.heap.size w).alloc (Nat.le_refl _) (.cells #[.int .i32 0, .int .i32 0] 63)
  obtain ⟨a, hS, hle, hA⟩ := ts_above (h.tr.below hB1) m hs
  have HA := Lib.hid hA
  have c0 := (hk.below hB1).reads.1
  have hcell := heap_alloc_new w (.cells #[.int .i32 0, .int .i32 0] 63)
  have hrs : w.heap.size < (w.alloc (.cells #[.int .i32 0, .int .i32 0] 63)).heap.size := by simp
  clear h hk hA
  go_enter Try.func32, Try.ntmps32
  go_wp2_with fail
  refine HA.out.mono ?_
  rintro e w2 ⟨rfl, hb2⟩
  have hR2 : w2.heap[w.heap.size]? = some (.cells #[.int .i32 0, .int .i32 0] 63 (0, 0)) := (hb2.block _ hrs).trans hcell
  have d2 := hB1.trans (hb2.mono hB1.size)
  generalize hr : w.heap.size = r at *
  by_cases ha0 : a = 0
  · have e0 := (HH.out.zero hS).1 ha0
    subst ha0
    have hf : fbL S s = [] ∧ fbL us s = [] := by
      match s, e0 with
      | [], _ => exact ⟨rfl, rfl⟩
      | [x], _ => exact ⟨rfl, rfl⟩
    have HE : Hid (S[0]? = some (fbL S s) ∧ S[0]? = some (fbL us s)) := Lib.hid (by rw [hf.1, hf.2]; exact ⟨HH.out.root, HH.out.root⟩)
    have f0 := Lib.frozen_of_heap hR2 0
    have f1 := Lib.frozen_of_heap hR2 1
    have k0 : w2.cell? ⟨r, 0, none⟩ = some (.int .i32 0) := by rw [Lib.cell_of_heap hR2]; rfl
    have k1 : w2.cell? ⟨r, 1, none⟩ = some (.int .i32 0) := by rw [Lib.cell_of_heap hR2]; rfl
    clear HA hb2 hB1 hcell hrs hS hf e0 hs
    go_wp2
    have hfin := put_two hR2 (.int .i32 0) (.int .i32 0)
    have d3 : Below r w ((w2.setCell ⟨r, 0, none⟩ (.int .i32 0)).setCell ⟨r, 1, none⟩ (.int .i32 0)) := (d2.setCell (p := ⟨r, 0, none⟩) (Nat.le_refl _) _).setCell (p := ⟨r, 1, none⟩) (Nat.le_refl _) _
    generalize (w2.setCell ⟨r, 0, none⟩ (.int .i32 0)).setCell ⟨r, 1, none⟩ (.int .i32 0) = w3 at *
    have j0 : w3.cell? ⟨r, 0, none⟩ = some (.int .i32 0) := by rw [Lib.cell_of_heap hfin]; rfl
    have j1 : w3.cell? ⟨r, 1, none⟩ = some (.int .i32 0) := by rw [Lib.cell_of_heap hfin]; rfl
    refine bodyPost_ret (v := flV (0, 0)) (by simp [results, Try.results32, go_sem, flV, j0, j1]) rfl ?_
    exact ⟨0, 0, rfl, HE.out.1, HE.out.2, by rw [hr]; exact d3⟩
  · have e0 : s.dropLast ≠ [] := fun e => ha0 ((HH.out.zero hS).2 e)
    have hs0 : s ≠ [] := fun e => e0 (by rw [e]; rfl)
    have es : s.dropLast ++ [s.getLastD 0] = s := by
      rw [List.getLastD_eq_getLast?, List.getLast?_eq_some_getLast hs0]
      exact List.dropLast_concat_getLast hs0
    have ham : a < m := HH.out.less hS hs (by
      rw [List.length_dropLast]
      have : 0 < s.length := List.length_pos_iff.2 hs0
      omega)
    obtain ⟨f, f', hF, hf, _⟩ := HH.out.ok.at_ a _ ham hS
    have hfa := HH.out.less hf hS (fb_less e0)
    have H2 := HH.out.below (by rw [hr]; exact d2)
    have HF := Lib.hid (lkfail_any H2.has (a : Int))
    rw [flOf_in hF] at HF
    have g0 : ((a : Int) == 0) = false := by simp; omega
    have g1 : ¬ (a : Int) = 0 := by omega
    have HT := Lib.hid (fun W hb => lkstep_in (H2.below (w' := W) hb) f hf (show f < m by omega) (s.getLastD 0))
    have HES := Lib.hid (show lgL S (fbL S s.dropLast ++ [s.getLastD 0]) = fbL S s by
      have := fb_above HH.out.tr.st (s.getLastD 0) e0
      rw [es] at this
      exact this.symm)
    have HFS := Lib.hid (show (fbL S s).length < s.length from fb_less hs0)
    have HS := Lib.hid hs
    have hs2 : r < w2.heap.size := lt_of_heap hR2
    clear HA hb2 hB1 hcell hrs hS e0 hs0 es hs ha0 hF hf hfa H2
    generalize s.getLastD 0 = c at *
    go_wp2_with fail
    refine HF.out.mono ?_
    rintro e w3 ⟨rfl, hb3⟩
    have H3 := Lib.hid (HT.out w3 hb3)
    have hR3 := (hb3.block _ hs2).trans hR2
    have d3 := d2.trans (hb3.mono (by rw [← hr]; exact d2.size))
    clear HT HF hb3 hs2 hR2 d2
    go_wp2_with fail
    refine H3.out.mono ?_
    rintro e w4 ⟨n, rfl, hn, hb4⟩
    rw [HES.out] at hn
    have hs3 : r < w3.heap.size := lt_of_heap hR3
    have hR4 := (hb4.block _ hs3).trans hR3
    have d4 := d3.trans (hb4.mono (by rw [← hr]; exact d3.size))
    have H4 := HH.out.below (by rw [hr]; exact d4)
    have c4 := (HK.out.below (by rw [hr]; exact d4)).reads.1
    have hnm := H4.less hn HS.out HFS.out
    have hnl := (List.getElem?_eq_some_iff.1 hn).1
    have HN := Lib.hid (ts_ends H4.tr H4.asc n hn)
    have wn : IntKind.i32.wrap (n : Int) = (n : Int) := by rw [IntKind.wrap_i32]; omega
    clear H3 hb4 hs3 hR3 d3 HES HFS HS c0
    have hs4 : r < w4.heap.size := lt_of_heap hR4
    by_cases hu : fbL S s ∈ us
    · have HE : Hid (S[n]? = some (fbL S s) ∧ S[n]? = some (fbL us s)) := Lib.hid ⟨hn, by rw [out_hit HH.out.tr.st hu]; exact hn⟩
      clear H4 hn
      go_wp2_with fail
      refine HN.out.mono ?_
      rintro e w5 ⟨⟨h1, _⟩, hb5⟩
      obtain rfl := h1 hu
      have hR5 := (hb5.block _ hs4).trans hR4
      have d5 := d4.trans (hb5.mono (by rw [← hr]; exact d4.size))
      have f0 := Lib.frozen_of_heap hR5 0
      have f1 := Lib.frozen_of_heap hR5 1
      have k0 : w5.cell? ⟨r, 0, none⟩ = some (.int .i32 0) := by rw [Lib.cell_of_heap hR5]; rfl
      have k1 : w5.cell? ⟨r, 1, none⟩ = some (.int .i32 0) := by rw [Lib.cell_of_heap hR5]; rfl
      clear h1 hb5 hs4 hR4 d4 HN hu
      go_wp2
      have hfin := put_two hR5 (.int .i32 (n : Int)) (.int .i32 (n : Int))
      have d6 : Below r w ((w5.setCell ⟨r, 0, none⟩ (.int .i32 (n : Int))).setCell ⟨r, 1, none⟩ (.int .i32 (n : Int))) := (d5.setCell (p := ⟨r, 0, none⟩) (Nat.le_refl _) _).setCell (p := ⟨r, 1, none⟩) (Nat.le_refl _) _
      generalize (w5.setCell ⟨r, 0, none⟩ (.int .i32 (n : Int))).setCell ⟨r, 1, none⟩ (.int .i32 (n : Int)) = w6 at *
      have j0 : w6.cell? ⟨r, 0, none⟩ = some (.int .i32 (n : Int)) := by rw [Lib.cell_of_heap hfin]; rfl
      have j1 : w6.cell? ⟨r, 1, none⟩ = some (.int .i32 (n : Int)) := by rw [Lib.cell_of_heap hfin]; rfl
      refine bodyPost_ret (v := flV (n, n)) (by simp [results, Try.results32, go_sem, flV, j0, j1]) rfl ?_
      exact ⟨n, n, rfl, HE.out.1, HE.out.2, by rw [hr]; exact d6⟩
    · obtain ⟨x, y, hFn, _, hy⟩ := HH.out.ok.at_ n _ hnm hn
      have HE : Hid (S[n]? = some (fbL S s) ∧ S[y]? = some (fbL us s)) := Lib.hid ⟨hn, by rw [out_miss HH.out.tr.st hu]; exact hy⟩
      have HO := Lib.hid (fun W hb => lkof_in (H4.below (w' := W) hb).has n (x, y) hFn)
      have FD := flfield1 (.int .i32 (x : Int)) (.int .i32 (y : Int))
      clear H4 hn hy hFn
      go_wp2_with fail
      refine HN.out.mono ?_
      rintro e w5 ⟨⟨_, h1⟩, hb5⟩
      obtain rfl := h1 hu
      have HO2 := Lib.hid (HO.out w5 hb5)
      have hR5 := (hb5.block _ hs4).trans hR4
      have d5 := d4.trans (hb5.mono (by rw [← hr]; exact d4.size))
      have hs5 : r < w5.heap.size := lt_of_heap hR5
      clear h1 hb5 hs4 hR4 d4 HN hu HO
      go_wp2_with fail
      refine HO2.out.mono ?_
      rintro e w6 ⟨rfl, hb6⟩
      have hR6 := (hb6.block _ hs5).trans hR5
      have d6 := d5.trans (hb6.mono (by rw [← hr]; exact d5.size))
      have f0 := Lib.frozen_of_heap hR6 0
      have f1 := Lib.frozen_of_heap hR6 1
      have k0 : w6.cell? ⟨r, 0, none⟩ = some (.int .i32 0) := by rw [Lib.cell_of_heap hR6]; rfl
      have k1 : w6.cell? ⟨r, 1, none⟩ = some (.int .i32 0) := by rw [Lib.cell_of_heap hR6]; rfl
      clear HO2 hb6 hs5 hR5 d5
      unfold flV
      go_wp2
      have hfin := put_two hR6 (.int .i32 (n : Int)) (.int .i32 (y : Int))
      have d7 : Below r w ((w6.setCell ⟨r, 0, none⟩ (.int .i32 (n : Int))).setCell ⟨r, 1, none⟩ (.int .i32 (y : Int))) := (d6.setCell (p := ⟨r, 0, none⟩) (Nat.le_refl _) _).setCell (p := ⟨r, 1, none⟩) (Nat.le_refl _) _
      generalize (w6.setCell ⟨r, 0, none⟩ (.int .i32 (n : Int))).setCell ⟨r, 1, none⟩ (.int .i32 (y : Int)) = w7 at *
      have j0 : w7.cell? ⟨r, 0, none⟩ = some (.int .i32 (n : Int)) := by rw [Lib.cell_of_heap hfin]; rfl
      have j1 : w7.cell? ⟨r, 1, none⟩ = some (.int .i32 (y : Int)) := by rw [Lib.cell_of_heap hfin]; rfl
      refine bodyPost_ret (v := flV (n, y)) (by simp [results, Try.results32, go_sem, flV, j0, j1]) rfl ?_
      exact ⟨n, y, rfl, HE.out.1, HE.out.2, by rw [hr]; exact d7⟩
end Go.Proofs.Ytkaldfcpcimacaa

namespace Go.Proofs.Ytkaldfcpcimacaa
open Go.RowKit

theorem int_info : (Try.prog.info? 3).map (fun i => (i.zero, i.size, i.bytes)) = some (some (.int .i64 0), 1, 8) := by kernel_rfl

/-- The cells of numbers. -/
def inCells (zs : List Int) : List Value := zs.map (Value.int .i64)
theorem inCells_snoc (zs : List Int) (x : Int) : inCells (zs ++ [x]) = inCells zs ++ [.int .i64 x] := by simp [inCells]

theorem owns_ints {w : World} {base : Nat} {e : TypeId} {v : Value} {zs : List Int} (h : w.ownsRow base e 1 v zs.length (inCells zs)) :
    ∃ ao cap, v = .slice ao zs.length cap ∧ (zs.length = 0 ∨ ∃ g, ao = some ⟨g, 0, none⟩ ∧ base ≤ g ∧ g < w.heap.size ∧ ∀ i, i < zs.length → w.cell? ⟨g, 0 + i, none⟩ = some (.int .i64 (zs.getD i 0))) := by
  rcases h.2 with ⟨hv, h0⟩ | ⟨g, cap, cur, hv, hg, _⟩
  · have h0' : zs.length = 0 := h0
    exact ⟨none, 0, by rw [h0']; exact hv, .inl h0'⟩
  · have hlt := h.lt (k := g) (by rw [hv]; rfl)
    refine ⟨some ⟨g, 0, none⟩, cap, hv, .inr ⟨g, rfl, hlt.1, hlt.2, fun i hi => ?_⟩⟩
    have hc := h.cells (g := g) (by rw [hv]; rfl) i (.int .i64 (zs.getD i 0)) (by simp [inCells, List.getD, List.getElem?_eq_getElem hi])
    rwa [addPlain] at hc

/-- Numbers in memory: all cells, not just those of a slice that came in. -/
theorem row_of_ints {w : World} {base : Nat} {e : TypeId} {v : Value} {zs : List Int} (h : w.ownsRow base e 1 v zs.length (inCells zs)) (hm : zs.length ≤ maxLen) :
    ∃ ao cap, v = .slice ao zs.length cap ∧ IsRow .i64 w ao zs.length zs.length zs := by
  obtain ⟨ao, cap, hv, h0 | ⟨g, hao, _, _, hc⟩⟩ := owns_ints h
  · exact ⟨ao, cap, hv, .inl h0⟩
  · exact ⟨ao, cap, hv, .inr ⟨g, 0, hao, Nat.le_refl _, hm, rfl, hc⟩⟩

/-- A number's one cell, in a block of its own. -/
theorem int_news {w : World} {X : Nat} {T : TypeId} {u : Value} (h : w.heap[X]? = some (.cells #[u] T (0, 0))) : ∀ j x, [u][j]? = some x → w.cell? ((⟨X, 0, none⟩ : Addr).add j) = some x := one_news h
theorem int_one {x : Int} : ∀ v ∈ [Value.int .i64 x], v.oneCell' = true := by
  intro v hv
  simp at hv
  subst hv; rfl

/-- A list of numbers, as an answer: a slice of the call's own; nothing that was there is written. -/
def RetN (zs : List Int) (w : World) (e : Ending) (w' : World) : Prop := ∃ (v : Value), e = .returned v ∧ w'.ownsRow w.heap.size 3 1 v zs.length (inCells zs) ∧ Below w.heap.size w w'

/-- A list of numbers, to be read: a slice; nothing that was there is written. -/
def RetI (zs : List Int) (w : World) (e : Ending) (w' : World) : Prop := ∃ (a : Option Addr) (cap : Nat), e = .returned (.slice a zs.length cap) ∧ IsRow .i64 w' a zs.length zs.length zs ∧ Below w.heap.size w w'
theorem RetI.of {zs L : List Int} {w0 w w' : World} {v : Value} (e : zs = L) (h : w'.ownsRow w0.heap.size 3 1 v L.length (inCells L)) (hm : L.length ≤ maxLen) (hb : Below w.heap.size w w') : ∃ a cap, v = .slice a L.length cap ∧ RetI zs w (.returned (.slice a L.length cap)) w' := by
  obtain ⟨ao, cap, hv, hr⟩ := row_of_ints h hm
  subst e
  exact ⟨ao, cap, hv, ao, cap, rfl, hr, hb⟩

/-- A row in one block of its own. -/
theorem row_heap {w : World} {g n : Nat} {zs : List Int} {T : TypeId} (h : w.heap[g]? = some (.cells (inCells zs).toArray T (0, 0))) (hn : zs.length = n) (hm : n ≤ maxLen) : IsRow .i64 w (some ⟨g, 0, none⟩) n n zs := by
  refine .inr ⟨g, 0, rfl, Nat.le_refl _, hm, hn, fun i hi => ?_⟩
  rw [Nat.zero_add, Lib.cell_of_heap h]
  simp [inCells, List.getD, List.getElem?_eq_getElem (show i < zs.length by omega)]

set_option maxRecDepth 100000 in
theorem make_row (c : Nat) (w : World) (hc : c ≤ 1000000000) : (Instr.makeSlice 42 (.int .i64 (c : Int)) (.int .i64 (c : Int))).run Try.prog w = .ok (.slice (some ⟨w.heap.size, 0, none⟩) c c) (w.alloc (.cells (inCells (List.replicate c 0)).toArray 3)) := by
  obtain ⟨i0, hi, hz0, hz1, hz2⟩ := info_parts int_info
  have h := run_make (P := Try.prog) w 42 3 i0 (.int .i64 0) Try.underlying42 hi hz0 .i64 .i64 c c (by omega) (Int.le_refl _) (by rw [hz2]; omega) (by omega)
  rw [h, hz1, Nat.mul_one, Int.toNat_natCast, show inCells (List.replicate c 0) = List.replicate c (Value.int .i64 0) by simp [inCells]]
  congr 3
  show madeCells #[Value.int .i64 0] c = _
  rw [← toList_madeCells_one]
end Go.Proofs.Ytkaldfcpcimacaa

namespace Go.Proofs.Ytkaldfcpcimacaa
open Go.RowKit

theorem made_fl (n : Nat) : madeCells (Value.agg #[.int .i32 0, .int .i32 0]).cells (n * 2) = (flCells (List.replicate n (0, 0))).toArray := by
  have e : (Value.agg #[.int .i32 0, .int .i32 0]).cells = #[.int .i32 0, .int .i32 0] := by rfl
  rw [e, fl_rep]
  unfold madeCells
  apply Array.ext
  · simp
  · intro i h1 h2
    simp at h1
    have : i % 2 = 0 ∨ i % 2 = 1 := by omega
    rcases this with h | h <;> simp [h]
set_option maxRecDepth 100000 in
theorem make_falls (c : Nat) (w : World) (hc : c ≤ 16777217) : (Instr.makeSlice 59 (.int .i64 (c : Int)) (.int .i64 (c : Int))).run Try.prog w = .ok (.slice (some ⟨w.heap.size, 0, none⟩) c c) (w.alloc (.cells (flCells (List.replicate c (0, 0))).toArray 63)) := by
  obtain ⟨i0, hi, hz0, hz1, hz2⟩ := info_parts fl_info
  have h := run_make (P := Try.prog) w 59 63 i0 (.agg #[.int .i32 0, .int .i32 0]) Try.underlying59 hi hz0 .i64 .i64 c c (by omega) (Int.le_refl _) (by rw [hz2]; omega) (by omega)
  rw [h, hz1, Int.toNat_natCast, made_fl]

/-- One more state is known. -/
theorem FlOk.put {us S : List (List UInt8)} {i : Nat} {F : List (Nat × Nat)} (h : FlOk us S i F) {s : List UInt8} (hs : S[i]? = some s) {a b : Nat} (ha : S[a]? = some (fbL S s)) (hb : S[b]? = some (fbL us s)) : FlOk us S (i + 1) (F.set i (a, b)) := by
  have hil := (List.getElem?_eq_some_iff.1 hs).1
  refine ⟨by rw [List.length_set]; exact h.len, fun j t hj ht => ?_⟩
  by_cases e : j = i
  · subst e
    obtain rfl : t = s := Option.some.inj (ht.symm.trans hs)
    exact ⟨a, b, List.getElem?_set_self (by rw [h.len]; exact hil), ha, hb⟩
  · obtain ⟨x, y, h1, h2, h3⟩ := h.at_ j t (by omega) ht
    exact ⟨x, y, by rw [List.getElem?_set_ne (Ne.symm e)]; exact h1, h2, h3⟩
theorem IsLk.ne {w : World} {base b g : Nat} {q : Option Addr} {F : List (Nat × Nat)} (h : IsLk w base b g q F) : b ≠ g := fun e => by
  have h1 := h.head
  rw [e, h.row] at h1
  simp at h1
theorem IsLk.put {w : World} {base b g : Nat} {q : Option Addr} {F : List (Nat × Nat)} (h : IsLk w base b g q F) {i : Nat} (hi : i < F.length) {x y : Nat} (hx : x ≤ 16777217) (hy : y ≤ 16777217) :
    IsLk ((w.setCell ⟨g, i * 2, none⟩ (.int .i32 (x : Int))).setCell ⟨g, i * 2 + 1, none⟩ (.int .i32 (y : Int))) base b g q (F.set i (x, y)) := by
  have hne := h.ne
  refine ⟨?_, ?_, h.bb, h.gg, by rw [List.length_set]; exact h.few, fun r hr => ?_⟩
  · rw [List.length_set, put_other hne, put_other hne]; exact h.head
  · rw [put_heap (put_heap h.row _)]
    congr 2
    have := fl_set F i x y (List.getElem?_eq_getElem hi)
    rw [← this]
    simp
  · rcases List.mem_or_eq_of_mem_set hr with h1 | rfl
    · exact h.fit r h1
    · exact ⟨hx, hy⟩

set_option maxRecDepth 100000 in
set_option maxHeartbeats 4000000 in
theorem lknew_any {w : World} {p : Option Addr} {us : List (List UInt8)} (hp : IsPats w p us) (ha : Asc us) (hn : us.Nodup) :
    Calls Try.prog 10 #[.pointer p] w fun e w' => ∃ k q S F, e = .returned (.pointer k) ∧ IsLink w' k q p us S S.length F ∧ Below w.heap.size w w' := by
  have HT := Lib.hid (trnew_any hp ha hn)
  have HA := Lib.hid ha
  clear hp ha hn
  go_enter Try.func10, Try.ntmps10
  go_wp2_with fail
  refine HT.out.mono ?_
  rintro e w1 ⟨q, S, rfl, hT, hb1⟩
  have hfew := hT.few
  have HL := Lib.hid (ts_len hT)
  have hmake := make_falls S.length w1 hfew.2.2
  have hS1 := hb1.size
  have HT1 := Lib.hid hT
  clear HT hT
  go_wp2_with fail
  refine HL.out.mono ?_
  rintro e w' ⟨rfl, hw'⟩
  obtain rfl := hw'.symm
  clear hw' HL
  have hb2 : Below w1.heap.size w1 (w1.alloc (.cells (flCells (List.replicate S.length (0, 0))).toArray 63)) := (Below.refl _ _).alloc (Nat.le_refl _) _
  have hh2 := heap_alloc_new w1 (.cells (flCells (List.replicate S.length (0, 0))).toArray 63)
  have hz2 : (w1.alloc (.cells (flCells (List.replicate S.length (0, 0))).toArray 63)).heap.size = w1.heap.size + 1 := by simp
  generalize w1.alloc (.cells (flCells (List.replicate S.length (0, 0))).toArray 63) = w2 at *
  have HZ2 := Lib.hid hz2
  clear hz2
  go_wp2_with fail
  have LK0 : Hid (IsLk (w2.alloc (.cells #[.pointer q, .slice (some ⟨w1.heap.size, 0, none⟩) S.length S.length] 61)) w1.heap.size w2.heap.size w1.heap.size q (List.replicate S.length (0, 0))) := Lib.hid (by
    refine ⟨?_, ?_, hb2.size, Nat.le_refl _, by rw [List.length_replicate]; exact hfew.2.2, fun r hr => by rw [List.eq_of_mem_replicate hr]; simp⟩
    · rw [List.length_replicate]; exact heap_alloc_new w2 _
    · rw [Below.heap_alloc _ _ _ (by have := HZ2.out; omega)]; exact hh2)
  have B0 : Hid (Below w1.heap.size w1 (w2.alloc (.cells #[.pointer q, .slice (some ⟨w1.heap.size, 0, none⟩) S.length S.length] 61))) := Lib.hid (hb2.alloc hb2.size _)
  have FK0 : Hid (FlOk us S 0 (List.replicate S.length (0, 0))) := Lib.hid ⟨List.length_replicate .., fun i s hi => absurd hi (Nat.not_lt_zero _)⟩
  have c1 : (w2.alloc (.cells #[.pointer q, .slice (some ⟨w1.heap.size, 0, none⟩) S.length S.length] 61)).cell? ⟨w2.heap.size, 1, none⟩ = some (.slice (some ⟨w1.heap.size, 0, none⟩) S.length S.length) := by
    rw [Lib.cell_of_heap (heap_alloc_new w2 _)]; rfl
  clear hb2 hh2 HZ2 hmake
  generalize w2.alloc (.cells #[.pointer q, .slice (some ⟨w1.heap.size, 0, none⟩) S.length S.length] 61) = w3 at *
  generalize w2.heap.size = b at *
  obtain ⟨n, hnS⟩ : ∃ n, S.length = n := ⟨_, rfl⟩
  have HN := Lib.hid hnS
  have hn1 := hfew.2.2
  rw [hnS] at c1 hn1
  clear hfew
  rw [hnS]
  go_loopw [19] (fun x wr => ∃ (i : Nat) (F : List (Nat × Nat)), i ≤ n ∧ x = .int .i64 i ∧ Hid (IsLk wr w1.heap.size b w1.heap.size q F) ∧ Hid (FlOk us S i F) ∧ Hid (Below w1.heap.size w1 wr)) (fun x _ => n - (RowKit.intOf x).toNat)
  case atStart => exact ⟨0, _, Nat.zero_le _, rfl, LK0, FK0, B0⟩
  case round =>
    clear c1 LK0 FK0 B0
    obtain ⟨i, F, hi, rfl, HK, HF, HB⟩ := hrel
    have hFn : F.length = n := by rw [HF.out.len, hnS]
    by_cases hlt : i < n
    · obtain ⟨s, hs⟩ : ∃ s, S[i]? = some s := ⟨_, List.getElem?_eq_getElem (show i < S.length by omega)⟩
      have HI : Hid (IsLink wr (some ⟨b, 0, none⟩) q p us S i F) := Lib.hid ⟨.inr ⟨_, _, _, rfl, HK.out⟩, HT1.out.below HB.out, HA.out, HF.out⟩
      have HC := Lib.hid (fun W (hW : Below wr.heap.size wr W) => lkfall_any (HI.out.below hW) hs)
      obtain ⟨r, hr⟩ : ∃ r, F[i]? = some r := ⟨_, List.getElem?_eq_getElem (show i < F.length by omega)⟩
      have c1 := HK.out.reads.2.1
      rw [hFn] at c1
      have HO := Lib.hid (fun (W w4 : World) (hb : Below W.heap.size W w4) (e : W.heap = wr.heap) => show (w4.cell? ⟨b, 1, none⟩ = some (.slice (some ⟨w1.heap.size, 0, none⟩) n n) ∧ w4.cell? ⟨w1.heap.size, i * 2, none⟩ = some (.int .i32 (r.1 : Int)) ∧ w4.cell? ⟨w1.heap.size, i * 2 + 1, none⟩ = some (.int .i32 (r.2 : Int)) ∧ w4.frozen? ⟨w1.heap.size, i * 2, none⟩ = false ∧ w4.frozen? ⟨w1.heap.size, i * 2 + 1, none⟩ = false) from by
        have h4 := (HK.out.heap (W := W) e).below hb
        have h5 := h4.reads.2.1
        rw [hFn] at h5
        exact ⟨h5, (h4.reads.2.2 i _ hr).1, (h4.reads.2.2 i _ hr).2, Lib.frozen_of_heap h4.row _, Lib.frozen_of_heap h4.row _⟩)
      have g0 : (0 : Int) ≤ (i : Int) := by omega
      have g1 : (i : Int) < (n : Int) := by omega
      have HSi := Lib.hid hs
      have HFn := Lib.hid hFn
      clear hs HI hr hFn hnS
      generalize r.1 = z1 at HO
      generalize r.2 = z2 at HO
      go_wp2_with fail
      go_region_with (go_at_call 32; refine (HC.out _ (Below.refl _ _).drew).mono ?_; rintro e w4 ⟨x, y, he, h1, h2, hb3⟩; unfold flV at he; subst he; (obtain ⟨q0, q1, q2, q3, q4⟩ := HO.out _ _ hb3 (by rfl)))
      all_goals
        have hxl := (List.getElem?_eq_some_iff.1 h1).1
        have hyl := (List.getElem?_eq_some_iff.1 h2).1
        rw [HN.out] at hxl hyl
        have HK5 := Lib.hid (((HK.out.heap (W := wr.drew) rfl).below hb3).put (i := i) (by rw [HFn.out]; exact hlt) (x := x) (y := y) (by omega) (by omega))
        have HF5 := Lib.hid (HF.out.put HSi.out h1 h2)
        have HB5 := Lib.hid (((HB.out.drew.trans (hb3.mono HB.out.size)).setCell (p := ⟨w1.heap.size, i * 2, none⟩) (Nat.le_refl _) (.int .i32 (x : Int))).setCell (p := ⟨w1.heap.size, i * 2 + 1, none⟩) (Nat.le_refl _) (.int .i32 (y : Int)))
        generalize (w4.setCell ⟨w1.heap.size, i * 2, none⟩ (.int .i32 (x : Int))).setCell ⟨w1.heap.size, i * 2 + 1, none⟩ (.int .i32 (y : Int)) = w5 at HK5 HB5 ⊢
        clear hb3 h1 h2 HC HO HK HF HB q0 q1 q2 q3 q4 c1
        go_wp2
        exact ⟨⟨i + 1, _, by omega, by go_num, HK5, HF5, HB5⟩, by simp [RowKit.intOf]; omega⟩
    · obtain rfl : i = n := by omega
      have HE : Hid (∃ S F, IsLink wr (some ⟨b, 0, none⟩) q p us S S.length F ∧ Below w.heap.size w wr) := Lib.hid ⟨S, F, ⟨.inr ⟨_, _, _, rfl, HK.out⟩, HT1.out.below HB.out, HA.out, by rw [HN.out]; exact HF.out⟩, hb1.trans (HB.out.mono hS1)⟩
      clear HK HF HB hFn hnS
      go_wp2
      go_ret
      obtain ⟨S, F, h1, h2⟩ := HE.out
      exact ⟨_, q, S, F, rfl, h1, h2⟩
end Go.Proofs.Ytkaldfcpcimacaa

namespace Go.Proofs.Ytkaldfcpcimacaa
open Go.RowKit

theorem own_below {base : Nat} {e : TypeId} {v : Value} {n : Nat} {xs : List Value} {w0 w w' : World} {o : Obj} (hb : Below w0.heap.size w0 w) (hown : w.ownsRow base e 1 v n xs) (hbase : w0.heap.size ≤ base) (hg : (w.alloc o).grownBy w' v.ownBlock) : Below w0.heap.size w0 w' :=
  hb.trans ⟨hg.os, hg.tape, hg.output, Nat.le_trans (by simp) hg.size, fun i hi => by
    rw [hg.block i (by have := hb.size; simp; omega) (fun e => by have := (hown.lt i e.symm).1; omega), Lib.alloc_old _ _ i (by have := hb.size; omega)]⟩
end Go.Proofs.Ytkaldfcpcimacaa
