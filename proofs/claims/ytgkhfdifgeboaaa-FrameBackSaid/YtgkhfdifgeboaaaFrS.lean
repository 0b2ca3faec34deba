/-
  frame.Split, walked.
-/
import Derived.Test.YtgkhfdifgeboaaaFrT
set_option linter.unusedSimpArgs false
set_option linter.unusedVariables false
namespace Go.Proofs.Ytgkhfdifgeboaaa
open Go.RowKit

/-- Split's answer: a slice of its own that holds the frames (nil, if there are none); nothing that was there is written. -/
def RetS (l : List UInt8) (w : World) (e : Ending) (w' : World) : Prop := ∃ (a : Option Addr) (cap : Nat), e = .returned (.tuple #[.slice a (spl l).1.length cap, .int .i64 (spl l).2.1, .int .i64 (spl l).2.2]) ∧ IsFrames w' a (spl l).1.length (spl l).1 ∧ Below w.heap.size w w'

theorem frame_info : (Try.prog.info? 33).map (fun i => (i.zero, i.size, i.bytes)) = some (some (.agg #[.int .i64 0, .string ByteArray.empty]), 2, 24) := by kernel_rfl

theorem RetS.mk {l : List UInt8} {R : List Fr × Int × Int} {w w' : World} {e : Ending} {a : Option Addr} {cap : Nat} (h : spl l = R) (he : e = .returned (.tuple #[.slice a R.1.length cap, .int .i64 R.2.1, .int .i64 R.2.2])) (hf : IsFrames w' a R.1.length R.1) (hb : Below w.heap.size w w') : RetS l w e w' := by
  subst h
  exact ⟨a, cap, he, hf, hb⟩

set_option maxHeartbeats 2000000 in
theorem fsplit_any (l : List UInt8) (w : World) (h : l.length ≤ 1000000) : Calls Try.prog 15 #[.string ⟨l.toArray⟩] w (RetS l w) := by
  obtain ⟨i0, hi, hz0, hz1, hz2⟩ := info_parts frame_info
  go_enter Try.func15, Try.ntmps15
  go_wp2_with fail
  go_loopw [5, 6] (fun v i wr => ∃ (a : Nat) (F : List Fr), a ≤ l.length ∧ i = .int .i64 a ∧ F.length ≤ a ∧ Hid (spl l = cont a F (spl (l.drop a))) ∧ wr.ownsRow w.heap.size 33 2 v F.length (frCells F) ∧ Below w.heap.size w wr) (fun _ i _ => l.length - (RowKit.intOf i).toNat)
  case atStart => exact ⟨0, [], Nat.zero_le _, rfl, Nat.le_refl _, Lib.hid (spl_start l), World.ownsRow_nil _ _ _ _, Below.refl _ _⟩
  case round =>
    rename_i wr
    obtain ⟨a, F, ha, rfl, hF, HS, hown, hbe⟩ := hrel
    have hsz := hbe.size
    by_cases hlt : a < l.length
    · have HT := Lib.hid (fun w => ftake_from l a w h)
      by_cases hE : tkE (l.drop a) = 0
      · have HS' : Hid (spl l = cont ((a : Int) + tkS (l.drop a)) (F ++ [(tkK (l.drop a), tkB (l.drop a))]) (spl (l.drop (a + (tkS (l.drop a)).toNat)))) := Lib.hid (HS.out.trans (cont_step l a F hE))
        have hts := tk_size _ hE
        rw [List.length_drop] at hts
        have HT' : Hid (∀ w, Calls Try.prog 13 #[.string ((⟨l.toArray⟩ : ByteArray).extract a l.length)] w fun e w' => e = .returned (.tuple #[.agg #[.int .i64 (tkK (l.drop a)), .string (tkB (l.drop a))], .int .i64 (tkS (l.drop a)), .int .i64 0]) ∧ Below w.heap.size w w') :=
          Lib.hid (fun w => (HT.out w).mono (by rintro e w' ⟨he, hb⟩; rw [hE] at he; exact ⟨he, hb⟩))
        clear HT hE
        generalize tkS (l.drop a) = sz at HS' hts HT'
        generalize tkK (l.drop a) = kk at HS' HT'
        generalize tkB (l.drop a) = bb at HS' HT'
        obtain ⟨z, rfl⟩ : ∃ z : Nat, sz = z := ⟨sz.toNat, by omega⟩
        obtain ⟨hz2', hzl⟩ := hts
        rw [Int.toNat_natCast] at HS'
        go_wp2_with fail
        refine (HT'.out _).mono ?_
        rintro e w2 ⟨rfl, hb2⟩
        have hown2 := owns_below hown hb2
        have hsz2 := hb2.size
        clear hown
        go_wp2_with (at_builtin; refine wpList_append_own _ rfl _ _ 25 rfl w.heap.size 33 i0 (.agg #[.int .i64 0, .string ByteArray.empty]) 2 24 Try.underlying25 hi hz0 hz1 hz2 rfl (by decide) _ _ _ rfl ((hown2.alloc _).alloc _) ⟨w2.heap.size + 1, 0, none⟩ 1 1 [.int .i64 kk, .string bb] rfl rfl ?c1 ?c2 ?c3 ?c4 ?c5 ?_)
        case c1 => exact pair_news (by have := heap_alloc_new (w2.alloc (.cells #[.int .i64 kk, .string bb] 33)) (.cells #[.int .i64 kk, .string bb] 33); simpa using this)
        case c2 => exact pair_one
        case c3 => unfold maxLen; omega
        case c4 => omega
        case c5 => simp; omega
        intro v' w3 hown3 hgrow _
        have h2 := hbe.trans (hb2.mono hsz)
        have h3 : Below w.heap.size w w3 := ((h2.alloc (by omega) _).alloc (by simp; omega) _).grown hgrow (by simp; omega) (fun k hk => (hown2.lt k hk).1)
        clear hgrow h2 hown2 hb2
        go_wp2
        refine ⟨⟨a + z, F ++ [(kk, bb)], by omega, by go_num, by rw [List.length_append, List.length_singleton]; omega, ?_, ?_, h3⟩, ?_⟩
        · refine Lib.hid ?_
          rw [HS'.out, Int.natCast_add]
        · rw [frCells_snoc, List.length_append]
          exact hown3
        · simp [RowKit.intOf]; omega
      · have HS' : Hid (spl l = ([], (a : Int), tkE (l.drop a))) := Lib.hid (HS.out.trans (cont_bad l a F hlt hE))
        have HT' : Hid (∀ w, Calls Try.prog 13 #[.string ((⟨l.toArray⟩ : ByteArray).extract a l.length)] w fun e w' => e = .returned (.tuple #[.agg #[.int .i64 0, .string ByteArray.empty], .int .i64 0, .int .i64 (tkE (l.drop a))]) ∧ Below w.heap.size w w') :=
          Lib.hid (fun w => (HT.out w).mono (by rintro e w' ⟨he, hb⟩; obtain ⟨_, e1, e2, e3⟩ := tk_bad _ _ rfl hE; rw [e1, e2, e3] at he; exact ⟨he, hb⟩))
        have hE' : (tkE (l.drop a) == 0) = false := by simpa using hE
        clear HT hE
        generalize tkE (l.drop a) = x at HS' HT' hE'
        go_wp2_with fail
        refine (HT'.out _).mono ?_
        rintro e w2 ⟨rfl, hb2⟩
        have hsz2 := hb2.size
        go_wp2
        go_ret3
        exact RetS.mk (a := none) (cap := 0) HS'.out rfl ⟨rfl, .inl rfl⟩ ((hbe.trans (hb2.mono hsz)).alloc (by omega) _)
    · have HS' : Hid (spl l = (F, 0, 0)) := Lib.hid (HS.out.trans (cont_end l a F (by omega)))
      obtain ⟨ao, cap, rfl, hfr⟩ := owns_frames hown rfl
      clear hown
      go_wp2
      go_ret3
      exact RetS.mk (a := ao) (cap := cap) HS'.out rfl hfr hbe
end Go.Proofs.Ytgkhfdifgeboaaa
