/-
  Texts put together: LnE, ApRs.
-/
import Derived.Test.YtjmaccflnfaiiaaBn7
import Derived.Test.YtjmaccflnfaiiaaBn4
set_option linter.unusedSimpArgs false
set_option linter.unusedVariables false
namespace Go.Proofs.Ytjmaccflnfaiiaa
open Go.RowKit

set_option maxRecDepth 100000 in
theorem ln8_info : (Try.prog.info? 5).map (fun i => (i.zero, i.size, i.bytes)) = some (some (.int .u8 0), 1, 1) := by kernel_rfl
theorem ln_came {w : World} {B : Nat} {v : Value} {cm t : List UInt8} (h : w.ownsRow B 5 1 v (cm.length + (⟨t.toArray⟩ : ByteArray).size) (Lib.byteCells cm ++ Lib.strCells ⟨t.toArray⟩)) : w.ownsRow B 5 1 v (cm ++ t).length (Lib.byteCells (cm ++ t)) := by
  rw [bsize] at h
  rw [List.length_append, show Lib.byteCells (cm ++ t) = Lib.byteCells cm ++ Lib.strCells ⟨t.toArray⟩ by simp [Lib.byteCells, Lib.strCells]]
  exact h

set_option maxHeartbeats 4000000 in
theorem lnfeed_any {W : World} {B b : Nat} {L : List Rn} {r : List UInt8} {cl : Bool} {y : Int} (h : IsLn W B b ⟨L, r, cl, y⟩) (t : List UInt8) (ht : r.length + t.length ≤ 1000000) :
    Calls Try.prog 9 #[.pointer (some ⟨b, 0, none⟩), .string ⟨t.toArray⟩] W fun e W' => e = .returned (.int .i64 (if cl = true then 12 else 0)) ∧ IsLn W' B b ⟨L, if cl = true then r else r ++ t, cl, y⟩ ∧ LnKp B W W' := by
  have H0 := Lib.hid h
  obtain ⟨h1, h2, l, cm, v, n, z, h3, h4⟩ := h
  dsimp only at h1 h2 h3 h4
  obtain ⟨_, _, _, _, _, _, _, _, c8⟩ := raw_reads h3
  have hsum := h4.sum
  dsimp only at hsum
  cases cl with
  | true =>
    clear h1 h2 h3 h4 hsum
    go_enter Try.func9, Try.ntmps9
    go_wp2
    go_ret
    exact ⟨rfl, H0.out, LnKp.refl _ _⟩
  | false =>
    have HO := lnover_raw h3
    by_cases ho : z ≠ 0 ∨ (lnLast L).k = 6
    · rw [decide_eq_true ho] at HO
      have hn : l = [] ∧ cm = [] ∧ n = r.length := by
        rcases h4.2 with ⟨_, g⟩ | ⟨g, _⟩
        · exact g
        · exact absurd ho (fun q => q.elim (fun q => q g.1) (fun q => g.2 q))
      obtain ⟨rfl, rfl, rfl⟩ := hn
      have HOv := Lib.hid HO
      have HL := Lib.hid h3
      have HSt : Hid (LnC [] L ∧ LnSt ⟨L, r ++ t, false, y⟩ [] [] (r.length + t.length) z) := Lib.hid ⟨h1, by
        rcases h4.1 with g | ⟨g1, g2, g3, g4⟩
        · exact .inl g
        · exact .inr ⟨g1, g2, g3, by show 0 < (r ++ t).length; rw [List.length_append]; have g5 : 0 < r.length := g4; omega⟩, .inl ⟨ho, rfl, rfl, by show _ = (r ++ t).length; rw [List.length_append]⟩⟩
      clear HO h1 h3 h4 hsum ho
      go_enter Try.func9, Try.ntmps9
      go_wp2_with fail
      refine HOv.out.mono ?_
      rintro e w2 ⟨rfl, hb⟩
      have h5 := HL.out.below hb
      have HK2 := Lib.hid (LnKp.below HL.out.le hb)
      obtain ⟨_, _, d2, _⟩ := raw_reads h5
      have f2 := raw_free h5 2
      have z1 : IntKind.i64.wrap ((r.length : Int) + (t.length : Int)) = (r.length : Int) + (t.length : Int) := by rw [IntKind.wrap_i64]; omega
      have E : ((r.length + t.length : Nat) : Int) = (r.length : Int) + (t.length : Int) := by omega
      have HK := Lib.hid (HK2.out.trans (raw_set h5 2 (.int .i64 ((r.length : Int) + (t.length : Int)))))
      have HS := Lib.hid (show IsLn (w2.setCell ⟨b, 2, none⟩ (.int .i64 ((r.length : Int) + (t.length : Int)))) B b ⟨L, r ++ t, false, y⟩ from ⟨HSt.out.1, by show (r ++ t).length ≤ _; rw [List.length_append]; omega, [], [], v, r.length + t.length, z, ⟨h5.base, by rw [← E]; exact put_heap h5.cells (i := 2) _, raw_row h5 ((Into.refl b w2).set 2 _)⟩, HSt.out.2⟩)
      clear hb h5 HOv HL HSt HK2 E
      go_wp2
      go_ret
      exact ⟨rfl, HS.out, HK.out⟩
    · rw [decide_eq_false ho] at HO
      have hn : n = 0 ∧ r = l ++ cm := by
        rcases h4.2 with ⟨g, _⟩ | ⟨_, g⟩
        · exact absurd g ho
        · exact g
      have hz : z = 0 ∧ (lnLast L).k ≠ 6 := ⟨Decidable.byContradiction (fun q => ho (.inl q)), fun q => ho (.inr q)⟩
      obtain ⟨rfl, rfl⟩ := hn
      obtain ⟨rfl, h6⟩ := hz
      have he : y = 0 := h4.1.elim id (fun q => absurd q.2.2.1 h6)
      subst he
      have HOv := Lib.hid HO
      have HL := Lib.hid h3
      have HSt : Hid (LnC [] L ∧ LnSt ⟨L, l ++ cm ++ t, false, 0⟩ l (cm ++ t) 0 0) := Lib.hid ⟨h1, .inl rfl, .inr ⟨⟨rfl, h6⟩, rfl, List.append_assoc _ _ _⟩⟩
      obtain ⟨i0, hi, hz0, hz1, hz2⟩ := info_parts ln8_info
      have hlen : l.length + cm.length + t.length ≤ 1000000 := by rw [List.length_append] at ht; exact ht
      clear HO h1 h3 h4 hsum ho h6 ht h2
      go_enter Try.func9, Try.ntmps9
      go_wp2_with fail
      refine HOv.out.mono ?_
      rintro e w2 ⟨rfl, hb⟩
      have h5 := HL.out.below hb
      have HK2 := Lib.hid (LnKp.below HL.out.le hb)
      have hown := h5.row
      have hle := h5.le
      obtain ⟨a, cap, rfl⟩ := owns_slice hown
      obtain ⟨_, d1, _⟩ := raw_reads h5
      have H5 := Lib.hid h5
      have S2 := Lib.hid (bsize t)
      clear hb h5 HOv HL
      go_wp2_with (at_builtin; refine Lib.wpList_append_own_string _ rfl _ _ 50 9 rfl B 5 i0 Try.underlying50 Try.underlying9 hi hz0 hz1 hz2 _ _ _ rfl hown ⟨t.toArray⟩ rfl ?c3 ?c4 ?c5 ?_)
      case c3 => rw [S2.out]; unfold maxLen; omega
      case c4 => rw [S2.out]; omega
      case c5 => exact hle
      intro v' w3 hown' hgrow _
      have hown2 := ln_came hown'
      obtain ⟨a', cap', rfl⟩ := owns_slice hown2
      obtain ⟨hk3, hh3⟩ := raw_grown H5.out hgrow
      have e1 : w3.cell? ⟨b, 1, none⟩ = some (.slice a cm.length cap) := by rw [Lib.cell_of_heap hh3]; rfl
      have f1 : w3.frozen? ⟨b, 1, none⟩ = false := Lib.frozen_of_heap hh3 1
      have hI := (Into.refl b w3).set 1 (.slice a' (cm ++ t).length cap')
      have HK := Lib.hid ((HK2.out.trans hk3).trans (⟨hI.belowTo H5.out.base, Keep.into hI hh3 (by decide), Keep.into hI hh3 (by decide), Keep.into hI hh3 (by decide)⟩ : LnKp B w3 _))
      have HS := Lib.hid (show IsLn (w3.setCell ⟨b, 1, none⟩ (.slice a' (cm ++ t).length cap')) B b ⟨L, l ++ cm ++ t, false, 0⟩ from ⟨HSt.out.1, by show (l ++ cm ++ t).length ≤ _; rw [List.length_append, List.length_append]; omega, l, cm ++ t, .slice a' (cm ++ t).length cap', 0, 0, ⟨H5.out.base, put_heap hh3 (i := 1) _, (Keep.into hI hh3 (by decide)).owns hown2⟩, HSt.out.2⟩)
      clear hown hown' hown2 hgrow hk3 hh3 hI d1 H5 HK2 HSt
      go_wp2
      go_ret
      exact ⟨rfl, by simpa only [List.length_append, List.append_assoc] using HS.out, by simpa only [List.length_append, List.append_assoc] using HK.out⟩
end Go.Proofs.Ytjmaccflnfaiiaa

namespace Go.Proofs.Ytjmaccflnfaiiaa
open Go.RowKit


/-- An append of a slice that is owned, or nil, to an own one. -/
theorem wpList_append_rs {P : Program} (w : World) {ops : Array Oper} {rest : List Oper} {o : Oper} {a : Act} {Q : Exit → Act → World → Prop} (hgd : o.guard = none) (s x : Operand) (t : TypeId)
    (ho : o.op = .call { callee := .builtin .append, args := #[s, x], argTypes := #[t, t] })
    (base : Nat) (e : TypeId) (i : TypeInfo) (z : Value) (size bytes : Nat) (ht : P.underlying t = some (.slice e)) (hi : P.info? e = some i) (hz : i.zero = some z)
    (hsize : i.size = size) (hby : i.bytes = bytes) (hzs : z.cells.size = size) (hsz : 0 < size)
    (v : Value) (n : Nat) (xs : List Value) (hs : a.eval s = v) (hown : w.ownsRow base e size v n xs)
    (base2 : Nat) (v2 : Value) (m : Nat) (ys : List Value) (hx : a.eval x = v2) (hown2 : w.ownsRow base2 e size v2 m ys) (h1 : ∀ u ∈ ys, u.oneCell' = true)
    (h63 : n + m ≤ maxLen) (hbytes : (n + m) * bytes ≤ 140737488355328) (hbase : base ≤ w.heap.size)
    (h : ∀ v' w', w'.ownsRow base e size v' (n + m) (xs ++ ys) → w.grownBy w' v.ownBlock → wpList P ops Q rest (a.put o.dst v') w') : wpList P ops Q (o :: rest) a w := by
  rcases hown2.2 with ⟨hv2, rfl⟩ | ⟨g, cap, cur, hv2, _⟩
  · obtain rfl : ys = [] := List.eq_nil_of_length_eq_zero (by rw [hown2.1, Nat.zero_mul])
    exact wpList_append_no w hgd s x t ho base e i size ht hi hsize v n xs hs hown (hx.trans hv2) (h v w (by simpa using hown) ⟨rfl, rfl, rfl, Nat.le_refl _, fun _ _ _ => rfl⟩)
  · exact wpList_append_own (w := w) hgd s x t ho base e i z size bytes ht hi hz hsize hby hzs hsz v n xs hs hown ⟨g, 0, none⟩ m cap ys (hx.trans hv2) hown2.1 (hown2.cells (g := g) (by rw [hv2]; rfl)) h1 h63 hbytes hbase (fun v' w' a b _ => h v' w' a b)

end Go.Proofs.Ytjmaccflnfaiiaa
