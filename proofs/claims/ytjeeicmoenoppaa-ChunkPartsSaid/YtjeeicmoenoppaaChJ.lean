/-
  strings.Join without a text between; chunk.Join: walked.
-/
import Derived.Test.YtjeeicmoenoppaaChL
import Derived.Test.YtjeeicmoenoppaaBuild
import Derived.Test.YtjeeicmoenoppaaShelf
set_option linter.unusedSimpArgs false
set_option linter.unusedVariables false
namespace Go.Proofs.Ytjeeicmoenoppaa
open Go.RowKit

theorem strCells_nil : Lib.strCells ⟨#[]⟩ = [] := by simp [Lib.strCells_eq, Lib.byteCells]

theorem sjoin_none (a : Option Addr) (cap : Nat) (w : World) :
    Calls Try.prog 22 #[.slice a 0 cap, .string ⟨#[]⟩] w fun e w' => e = .returned (.string ⟨#[]⟩) ∧ w = w' := by
  go_enter Try.func22, Try.ntmps22
  go_wp2
  go_ret
  exact ⟨rfl, rfl⟩

theorem sjoin_one (b off cap : Nat) (t : List UInt8) (w : World) (hc : w.cell? ⟨b, off, none⟩ = some (.string ⟨t.toArray⟩)) :
    Calls Try.prog 22 #[.slice (some ⟨b, off, none⟩) 1 cap, .string ⟨#[]⟩] w fun e w' => e = .returned (.string ⟨t.toArray⟩) ∧ w = w' := by
  go_enter Try.func22, Try.ntmps22
  go_wp2
  go_ret
  exact ⟨rfl, rfl⟩

set_option maxHeartbeats 2000000 in
set_option maxRecDepth 100000 in
theorem sjoin_many (a : Option Addr) (len cap : Nat) (ws : List (List UInt8)) (w : World) (h2 : 2 ≤ len) (hl : len ≤ 1000000) (hlc : len ≤ cap) (hs : ∀ t ∈ ws, t.length ≤ 1000000) (hr : IsStrs w a len ws) :
    Calls Try.prog 22 #[.slice a len cap, .string ⟨#[]⟩] w fun e w' => e = .returned (.string ⟨ws.flatten.toArray⟩) ∧ Below w.heap.size w w' := by
  have hwl := hr.1
  have HA := Lib.hid (fun k hk => ahd_all hl hs hwl k hk)
  have HR := Lib.hid hr
  obtain ⟨b, off, ha, _⟩ := str_at hr (Below.refl _ _) 0 (by omega)
  subst ha
  clear hs
  go_enter Try.func22, Try.ntmps22
  go_wp2
  go_loopw [5, 41] (fun v i wr => ∃ (k n : Nat), k ≤ len ∧ i = .int .i64 k ∧ v = .int .i64 n ∧ Hid (n = ahd ws k) ∧ w = wr) (fun _ i _ => len - (RowKit.intOf i).toNat)
  case atStart => exact ⟨0, 0, Nat.zero_le _, rfl, rfl, Lib.hid (ahd_zero ws).symm, rfl⟩
  case round =>
    obtain ⟨k, n, hk, rfl, rfl, HN, rfl⟩ := hrel
    by_cases hlt : k < len
    · obtain ⟨b', off', ha, t, hf, hc⟩ := str_at HR.out (Below.refl _ _) k hlt
      simp only [Option.some.injEq, Addr.mk.injEq] at ha
      obtain ⟨rfl, rfl, _⟩ := ha
      have HN2 : Hid (n + t.length = ahd ws (k + 1)) := Lib.hid (by rw [ahd_succ hf, ← HN.out])
      have hsum : n + t.length ≤ 1000000000000 := by rw [HN2.out]; exact HA.out _ hlt
      have HS := Lib.hid (bsize t)
      clear hf HN
      go_wp2
      exact ⟨⟨k + 1, n + t.length, by omega, by go_num, by go_num, HN2, trivial⟩, by simp [RowKit.intOf]; omega⟩
    · obtain rfl : k = len := by omega
      have hn : n ≤ 1000000000000 := by rw [HN.out]; exact HA.out _ (Nat.le_refl _)
      clear HN
      obtain ⟨b', off', ha, t0, hf0, hc0⟩ := str_at HR.out (Below.refl _ _) 0 (by omega)
      simp only [Option.some.injEq, Addr.mk.injEq] at ha
      obtain ⟨rfl, rfl, _⟩ := ha
      rw [Nat.add_zero] at hc0
      have b0 : Below w.heap.size w (w.alloc (.cells #[.pointer none, .slice none 0 0] 55)) := (Below.refl _ w).alloc (Nat.le_refl _) _
      have hG := Lib.hid (Try.Builder_Grow_fresh w.heap.size w.heap.size n _ (Nat.le_refl _) (heap_alloc_new w _) b0.size (by omega))
      go_wp2_with fail
      refine hG.out.mono ?_
      rintro e w1 ⟨rfl, h1, hb1⟩
      have hs1 := hb1.size
      have hsz0 : w.heap.size ≤ w1.heap.size := Nat.le_trans b0.size hb1.size
      have HB1 := Lib.hid (b0.trans hb1)
      have hcw := cell_below hc0 HB1.out
      have HT0 := Lib.hid (bsize t0)
      have ht0 : t0.length ≤ 1000000000000 := by
        have h1 := HA.out 1 (by omega)
        rw [ahd_succ hf0, ahd_zero] at h1
        omega
      have hW := Lib.hid (writeString w.heap.size w.heap.size [] ⟨t0.toArray⟩ w1 (Or.inr h1) (by rw [bsize]; simp; omega) hsz0)
      clear hG hb1 hc0
      go_wp2_with fail
      refine hW.out.mono ?_
      rintro e w2 ⟨rfl, h2w, hb2⟩
      have HB2 := Lib.hid (HB1.out.trans hb2)
      have H0 : Hid (Lib.IsBuilder 55 5 w.heap.size w.heap.size (Lib.byteCells (ws.take 1).flatten) w2) := Lib.hid (by
        rw [take_snocT ws 0 t0 hf0, List.take_zero, List.nil_append, List.flatten_cons, List.flatten_nil, List.append_nil]
        rw [List.nil_append, Lib.strCells_eq] at h2w
        exact Or.inr h2w)
      have hne : ¬ cap = 1 := by omega
      clear hW h1 h2w hb2 HB1 hcw hf0 b0 hsz0 hs1 ht0 HT0
      go_wp2
      go_loopw [65] (fun i wr => ∃ j : Nat, j + 1 ≤ k ∧ i = .int .i64 j ∧ Hid (Lib.IsBuilder 55 5 w.heap.size w.heap.size (Lib.byteCells (ws.take (j + 1)).flatten) wr) ∧ Hid (Below w.heap.size w wr)) (fun i _ => k - 1 - (RowKit.intOf i).toNat)
      case atStart => exact ⟨0, by omega, rfl, H0, HB2⟩
      case round =>
        obtain ⟨j, hj, rfl, HI, HB⟩ := hrel
        have hsz1 := HB.out.size
        by_cases hlt : j + 1 < k
        · obtain ⟨b', off', ha, t, hf, hc⟩ := str_at HR.out HB.out (j + 1) hlt
          simp only [Option.some.injEq, Addr.mk.injEq] at ha
          obtain ⟨rfl, rfl, _⟩ := ha
          have hc' : wr.cell? ⟨b, off + 1 + j, none⟩ = some (.string ⟨t.toArray⟩) := by rw [show off + 1 + j = off + (j + 1) by omega]; exact hc
          have hl1 : (Lib.byteCells (ws.take (j + 1)).flatten).length = ahd ws (j + 1) := by rw [Lib.byteCells_length, flat_ahd]
          have ha1 := HA.out (j + 1) (by omega)
          have ha2 := HA.out (j + 1 + 1) (by omega)
          rw [ahd_succ hf] at ha2
          have hW1 := Lib.hid (writeString w.heap.size w.heap.size _ ⟨#[]⟩ wr HI.out (by rw [hl1]; show ahd ws (j + 1) + 0 ≤ _; omega) hsz1)
          have HF : Hid (Lib.byteCells (ws.take (j + 1)).flatten ++ Lib.strCells ⟨t.toArray⟩ = Lib.byteCells (ws.take (j + 1 + 1)).flatten) := Lib.hid (by
            rw [flat_next ws (j + 1) t hf, Lib.byteCells_append, Lib.strCells_eq])
          have HS := Lib.hid (bsize t)
          have hbound : (Lib.byteCells (ws.take (j + 1)).flatten).length + t.length ≤ 140737488355328 := by rw [hl1]; omega
          have HBd := Lib.hid hbound
          have g1 : (j : Int) < ((k - 1 : Nat) : Int) := by omega
          clear hc hf hl1 ha1 ha2 hbound HI
          go_wp2_with fail
          refine hW1.out.mono ?_
          rintro e w3 ⟨rfl, h3, hb3⟩
          rw [strCells_nil, List.append_nil] at h3
          have hsz3 : w.heap.size ≤ w3.heap.size := Nat.le_trans hsz1 hb3.size
          have hW2 := Lib.hid (writeString w.heap.size w.heap.size _ ⟨t.toArray⟩ w3 (Or.inr h3) (by rw [HS.out]; exact HBd.out) hsz3)
          have HB3 := Lib.hid (HB.out.trans hb3)
          clear h3 hb3 hW1 HB
          go_wp2_with fail
          refine hW2.out.mono ?_
          rintro e w4 ⟨rfl, h4, hb4⟩
          rw [HF.out] at h4
          have H4 : Hid (Lib.IsBuilder 55 5 w.heap.size w.heap.size (Lib.byteCells (ws.take (j + 1 + 1)).flatten) w4) := Lib.hid (Or.inr h4)
          have HB4 := Lib.hid (HB3.out.trans hb4)
          clear h4 hb4 hW2 HB3
          go_wp2
          exact ⟨⟨j + 1, by omega, by go_num, H4, HB4⟩, by simp [RowKit.intOf]; omega⟩
        · obtain rfl : k = j + 1 := by omega
          have HI2 : Hid (Lib.IsBuilder 55 5 w.heap.size w.heap.size (Lib.byteCells ws.flatten) wr) := Lib.hid (by
            have := HI.out
            rwa [List.take_of_length_le (by omega)] at this)
          have hS := Lib.hid (Try.Builder_String_any w.heap.size w.heap.size ws.flatten wr HI2.out hsz1)
          clear HI HI2
          go_wp2_with fail
          refine hS.out.mono ?_
          rintro e w3 ⟨rfl, hb3⟩
          have hb4 := HB.out.trans hb3
          go_wp2
          go_ret
          exact ⟨rfl, hb4⟩

theorem join_any (a : Option Addr) (len cap : Nat) (ws : List (List UInt8)) (w : World) (hl : len ≤ 1000000) (hlc : len ≤ cap) (hs : ∀ t ∈ ws, t.length ≤ 1000000) (hr : IsStrs w a len ws) :
    Calls Try.prog 17 #[.slice a len cap] w fun e w' => e = .returned (.string ⟨ws.flatten.toArray⟩) ∧ Below w.heap.size w w' := by
  have hJ : Calls Try.prog 22 #[.slice a len cap, .string ⟨#[]⟩] w fun e w' => e = .returned (.string ⟨ws.flatten.toArray⟩) ∧ Below w.heap.size w w' := by
    by_cases h0 : len = 0
    · subst h0
      obtain rfl : ws = [] := List.eq_nil_of_length_eq_zero hr.1
      refine (sjoin_none a cap w).mono ?_
      rintro e w' ⟨rfl, rfl⟩
      exact ⟨rfl, Below.refl _ _⟩
    · by_cases h1 : len = 1
      · subst h1
        obtain ⟨b, off, rfl, t, hf, hc⟩ := str_at hr (Below.refl _ _) 0 (by omega)
        have he : ws.flatten = t := by
          rw [← List.take_of_length_le (l := ws) (i := 1) (by rw [hr.1]; omega), take_snocT ws 0 t hf]; simp
        rw [he]
        refine (sjoin_one b off cap t w hc).mono ?_
        rintro e w' ⟨rfl, rfl⟩
        exact ⟨rfl, Below.refl _ _⟩
      · exact sjoin_many a len cap ws w (by omega) hl hlc hs hr
  go_enter Try.func17, Try.ntmps17
  go_wp2_with fail
  refine hJ.mono ?_
  rintro e w' ⟨rfl, hb⟩
  go_wp2
  go_ret
  exact ⟨rfl, hb⟩
end Go.Proofs.Ytjeeicmoenoppaa
