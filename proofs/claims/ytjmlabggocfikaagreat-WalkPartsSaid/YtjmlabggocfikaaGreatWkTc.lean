/-
  The law WalkParts: what its walk wants; the inputs that are too long.
-/
import Derived.Test.YtjmlabggocfikaaGreatWkTa
import Derived.Test.YtjmlabggocfikaaGreatChDc
import Derived.Test.YtjmlabggocfikaaGreatBn15
set_option linter.unusedSimpArgs false
set_option linter.unusedVariables false
namespace Go.Proofs.YtjmlabggocfikaaGreat
open Go.RowKit

theorem cutL_few : ∀ (l : List UInt8) (ns : List Int), (cutL l ns).length ≤ ns.length + 1
  | l, [] => by
    by_cases h : l = []
    · subst h; simp [cutL_nil]
    · rw [cutL_rest h]; simp
  | l, n :: r => by
    rw [cutL_cons, List.length_cons, List.length_cons]
    have := cutL_few (l.drop n.toNat) r
    omega
theorem part_len {P : List (List UInt8)} {t s : List UInt8} (h : P.flatten = s) (ht : t ∈ P) : t.length ≤ s.length := by
  obtain ⟨a, b, rfl⟩ := List.append_of_mem ht
  rw [← h]
  simp
  omega
theorem parts_len {P : List (List UInt8)} {s : List UInt8} (h : P.flatten = s) (k : Nat) : (P.take k).flatten.length ≤ s.length := by
  rw [← h]
  have := congrArg List.length (congrArg List.flatten (List.take_append_drop k P))
  rw [List.flatten_append, List.length_append] at this
  omega
theorem parts_next {P : List (List UInt8)} {k : Nat} {t : List UInt8} (h : P[k]? = some t) : (P.take (k + 1)).flatten = (P.take k).flatten ++ t := by
  obtain ⟨hk, rfl⟩ := List.getElem?_eq_some_iff.1 h
  rw [List.take_succ_eq_append_getElem hk, List.flatten_append]
  simp
theorem leastR_few {us : List (List UInt8)} {n : Nat} (h : ∀ t ∈ us, t.length ≤ n) : leastR us ≤ n := by
  cases us with
  | nil => rw [leastR_nil]; omega
  | cons t r => exact Nat.le_trans (leastR_le List.mem_cons_self) (h t List.mem_cons_self)
theorem hiCells_app (a b : List Ht) : hiCells (a ++ b) = hiCells a ++ hiCells b := by simp [hiCells]
theorem hi_one (l : List Ht) : ∀ x ∈ hiCells l, x.oneCell' = true := by
  intro x hx
  simp only [hiCells, List.mem_flatMap] at hx
  obtain ⟨h, _, hx⟩ := hx
  exact hit_one x hx
theorem IsWalk.upto {w w' : World} {b B : Nat} {y : Option Addr} {us S : List (List UInt8)} {kind s : Int} {n m : Nat} (h : IsWalk w b y us S kind s n m) (hB : b < B) (hb : Below B w w') : IsWalk w' b y us S kind s n m := by
  obtain ⟨w0, a, h1, h2, h3, h4⟩ := h
  exact ⟨w0, a, h1, h2, h3.trans (hb.mono (by omega)), (hb.block b hB).trans h4⟩
/-- Texts lie in another block than a walk. -/
theorem strs_but {w w' : World} {b : Nat} {y : Option Addr} {us S : List (List UInt8)} {kind s : Int} {n m : Nat} {a : Option Addr} {len : Nat} {ts : List (List UInt8)} (hr : IsStrs w a len ts) (h : IsWalk w b y us S kind s n m) (hb : But w.heap.size b w w') : IsStrs w' a len ts := by
  obtain ⟨w0, a', h1, h2, h3, h4⟩ := h
  obtain ⟨hl, hr⟩ := hr
  refine ⟨hl, ?_⟩
  rcases hr with hr | ⟨g, off, ha, hc⟩
  · exact .inl hr
  · refine .inr ⟨g, off, ha, fun i hi => ?_⟩
    have hci := hc i hi
    have hg := World.block_lt_of_cell? w _ hci
    have hne : g ≠ b := fun e => by
      subst e
      rw [Lib.cell_of_heap h4] at hci
      have hj : off + i < 4 ∨ 4 ≤ off + i := by omega
      rcases hj with hj | hj
      · generalize off + i = j at hci hj
        match j, hj with
        | 0, _ => simp at hci
        | 1, _ => simp at hci
        | 2, _ => simp at hci
        | 3, _ => simp at hci
      · rw [Array.getElem?_eq_none (by simpa using hj)] at hci
        cases hci
    have := hb.block g hg hne
    unfold World.cell? at *
    rw [this]
    exact hci

set_option maxRecDepth 100000 in
set_option maxHeartbeats 1000000 in
theorem wkparts_many (a : Option Addr) (len cap : Nat) (kind : Int) (s : List UInt8) (na : Option Addr) (nlen ncap : Nat) (more : List UInt8) (ws : List (List UInt8)) (w : World) (hlen : len ≤ 9223372036854775807) (hr : IsStrs w a len ws) (ht : ∀ t ∈ ws, t.length ≤ 9223372036854775807) (hq : fewB ws 8 12 = false) :
    Calls Tryz.prog 4 #[.slice a len cap, .int .i64 kind, .string ⟨s.toArray⟩, .slice na nlen ncap, .string ⟨more.toArray⟩] w fun e w' => e = .returned (.bool true) ∧ Below w.heap.size w w' := by
  have HF := Lib.hid (few_no8 a len cap ws w hlen hr ht _ hq)
  clear hr ht hq
  go_enter Tryz.func4, Tryz.ntmps4
  go_wp2_with fail
  refine HF.out.mono ?_
  rintro e w' ⟨rfl, rfl⟩
  go_wp2_with fail
  refine (wkawake_any _).mono ?_
  rintro e w' ⟨rfl, hb⟩
  go_wp2
  go_ret
  exact ⟨rfl, hb⟩

set_option maxRecDepth 100000 in
set_option maxHeartbeats 1000000 in
theorem wkparts_long (a : Option Addr) (len cap : Nat) (kind : Int) (s : List UInt8) (na : Option Addr) (nlen ncap : Nat) (more : List UInt8) (ws : List (List UInt8)) (w : World) (hr : IsStrs w a len ws) (hq : fewB ws 8 12 = true)
    (hs1 : s.length ≤ 9223372036854775807) (hn1 : nlen ≤ 9223372036854775807) (hm1 : more.length ≤ 9223372036854775807) (h : 80 < s.length ∨ (s.length ≤ 80 ∧ 50 < nlen) ∨ (s.length ≤ 80 ∧ nlen ≤ 50 ∧ 80 < more.length)) :
    Calls Tryz.prog 4 #[.slice a len cap, .int .i64 kind, .string ⟨s.toArray⟩, .slice na nlen ncap, .string ⟨more.toArray⟩] w fun e w' => e = .returned (.bool true) ∧ Below w.heap.size w w' := by
  have hwl := hr.1
  have hfw := (few_iff ws 8 12).1 hq
  have HF := Lib.hid (few_no8 a len cap ws w (by omega) hr (fun t ht => by have := hfw.2 t ht; omega) _ hq)
  have HS := Lib.hid (bsize s)
  have HM := Lib.hid (bsize more)
  clear hr hq hfw hwl
  rcases h with h | ⟨h1, h2⟩ | ⟨h1, h2, h3⟩
  have g1 : decide ((80 : Int) < (s.length : Int)) = true := decide_eq_true (by omega)
  go_enter Tryz.func4, Tryz.ntmps4
  go_wp2_with fail
  rotate_left
  have g1 : decide ((80 : Int) < (s.length : Int)) = false := decide_eq_false (by omega)
  have g2 : decide ((50 : Int) < (nlen : Int)) = true := decide_eq_true (by omega)
  go_enter Tryz.func4, Tryz.ntmps4
  go_wp2_with fail
  rotate_left
  have g1 : decide ((80 : Int) < (s.length : Int)) = false := decide_eq_false (by omega)
  have g2 : decide ((50 : Int) < (nlen : Int)) = false := decide_eq_false (by omega)
  have g3 : decide ((80 : Int) < (more.length : Int)) = true := decide_eq_true (by omega)
  go_enter Tryz.func4, Tryz.ntmps4
  go_wp2_with fail
  rotate_left
  all_goals
    refine HF.out.mono ?_
    rintro e w' ⟨rfl, rfl⟩
    go_wp2_with fail
    refine (wkawake_any _).mono ?_
    rintro e w' ⟨rfl, hb⟩
    go_wp2
    go_ret
    exact ⟨rfl, hb⟩
end Go.Proofs.YtjmlabggocfikaaGreat
