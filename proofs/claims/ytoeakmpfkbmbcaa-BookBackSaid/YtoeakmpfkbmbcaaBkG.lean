/-
  book.Put, walked.
-/
import Derived.Test.YtoeakmpfkbmbcaaBkM
import Derived.Test.YtoeakmpfkbmbcaaVarW
import Derived.Test.YtoeakmpfkbmbcaaBuild
import Derived.Test.YtoeakmpfkbmbcaaAfHs
import Derived.Test.YtoeakmpfkbmbcaaPtSe
set_option linter.unusedSimpArgs false
set_option linter.unusedVariables false
namespace Go.Proofs.Ytoeakmpfkbmbcaa
open Go.RowKit

theorem bkput_nil (w : World) : Calls Try.prog 10 #[.pointer none] w fun e w' => e = .returned (.string ⟨#[]⟩) ∧ w' = w := by
  go_enter Try.func10, Try.ntmps10
  go_wp2
  go_ret
  exact ⟨rfl, rfl⟩

theorem cells_app (a b : List UInt8) : Lib.byteCells a ++ Lib.strCells ⟨b.toArray⟩ = Lib.byteCells (a ++ b) := by
  simp [Lib.byteCells, Lib.strCells]

/-- WriteString, by bytes. -/
theorem wstr (B b : Nat) (l s : List UInt8) (w : World) (h : Lib.IsBuilder 49 5 B b (Lib.byteCells l) w) (hlen : l.length + s.length ≤ 1000000000) (hBw : B ≤ w.heap.size) :
    Calls Try.prog 21 #[.pointer (some ⟨b, 0, none⟩), .string ⟨s.toArray⟩] w fun e w' => (∃ n : Int, e = .returned (.tuple #[.int .i64 n, .nilIface])) ∧ (Lib.IsBuilder 49 5 B b (Lib.byteCells (l ++ s)) w' ∧ Below B w w' ∧ Kept b 5 w w') := by
  refine (writeStringK B b _ _ w h (by rw [Lib.byteCells_length, bsize]; omega) hBw).mono ?_
  rintro e w' ⟨rfl, h1, h2⟩
  rw [cells_app] at h1
  exact ⟨⟨_, rfl⟩, .inr h1, h2⟩

theorem own_kept {w w' : World} {base b : Nat} {e E : TypeId} {v : Value} {n : Nat} {xs : List Value} (h : w.ownsRow base e 1 v n xs) (hk : Kept b E w w') (hT : e ≠ E) (hb : b < base) : w'.ownsRow base e 1 v n xs := by
  obtain ⟨h1, h2 | ⟨g, cap, cur, hv, hg, hh, h3⟩⟩ := h
  · exact ⟨h1, .inl h2⟩
  · exact ⟨h1, .inr ⟨g, cap, cur, hv, hg, hk g _ _ _ (by omega) hT hh, h3⟩⟩

theorem row_cell {w : World} {base : Nat} {e : TypeId} {g n cap k : Nat} {zs : List Int} {x : Int} (h : w.ownsRow base e 1 (.slice (some ⟨g, 0, none⟩) n cap) n (inCells zs)) (hz : zs[k]? = some x) : w.cell? ⟨g, k, none⟩ = some (.int .i64 x) := by
  have hc := h.cells (g := g) rfl k (.int .i64 x) (by unfold inCells; rw [List.getElem?_map, hz]; rfl)
  rwa [addPlain, Nat.zero_add] at hc
theorem own_formI {w : World} {base : Nat} {e : TypeId} {v : Value} {n : Nat} {xs : List Value} (h : w.ownsRow base e 1 v n xs) (hn : 1 ≤ n) : ∃ g cap, v = .slice (some ⟨g, 0, none⟩) n cap := by
  obtain ⟨_, ⟨_, h1⟩ | ⟨g, cap, cur, hv, _⟩⟩ := h
  · omega
  · exact ⟨g, cap, hv⟩

/-- Two numbers, in one block of their own. -/
theorem bkrow2 (w : World) (x y : Int) (T : TypeId) : IsRow .i64 (w.alloc (.cells #[.int .i64 x, .int .i64 y] T)) (some ⟨w.heap.size, 0, none⟩) 2 2 [x, y] := by
  refine .inr ⟨w.heap.size, 0, rfl, by omega, by unfold maxLen; omega, rfl, fun i hi => ?_⟩
  rw [Nat.zero_add, World.cell?_alloc_new]
  match i, hi with
  | 0, _ => rfl
  | 1, _ => rfl

theorem rest_take_len {ws : List (List UInt8)} (h : Pats ws) (k : Nat) : (restB [] (ws.take k)).length ≤ 18 * 65535 + 16777216 := by
  have h1 := rest_len [] (ws.take k) (fun t ht => (h.each t (List.mem_of_mem_take ht)).2)
  have h2 := total_take_le ws k
  have h3 := h.total
  have h4 := h.few
  have h5 := List.length_take_le k ws
  have h6 : (ws.take k).length ≤ ws.length := by rw [List.length_take]; omega
  omega

set_option maxHeartbeats 4000000 in
theorem bkput_any {w : World} {b0 : Nat} {ws : List (List UInt8)} (h : IsSet w b0 ws) (hP : Pats ws) :
    Calls Try.prog 10 #[.pointer (some ⟨b0, 0, none⟩)] w fun e w' => e = .returned (.string ⟨(bookB ws).toArray⟩) ∧ Below w.heap.size w w' := by
  have hn1 := hP.some
  have hn2 := hP.few
  have HE := Lib.hid hP.each
  have HL := Lib.hid (ptlist_any h (by omega))
  have HT := Lib.hid (rest_take_len hP)
  have HA : Hid (hdB ++ (vput (ws.length : Int) ++ restB [] ws) = bookB ws) := Lib.hid (by unfold bookB; rw [if_neg (by omega)])
  obtain ⟨n, hn⟩ : ∃ n, ws.length = n := ⟨_, rfl⟩
  have HN := Lib.hid hn
  have HV := Lib.hid (fun w => put_any (n : Int) w (by omega) (by omega))
  have hv9 := vput_length (n : Int) (by omega)
  rw [hn] at hn1 hn2 HA
  clear h hP
  generalize vput (n : Int) = vn at HV HA hv9
  have hS : ∀ (w1 : World) (v : Value), w1.ownsRow w.heap.size 9 1 v ws.length (txCells ws) → ∃ ao cap, v = .slice ao n cap ∧ IsStrs w1 ao n ws := fun w1 v h => by
    obtain ⟨ao, cap, hv, hs⟩ := owns_strs h
    rw [hn] at hv hs
    exact ⟨ao, cap, hv, hs⟩
  have HS := Lib.hid hS
  clear hS hn
  go_enter Try.func10, Try.ntmps10
  go_wp2_with fail
  refine HL.out.mono ?_
  rintro e w1 ⟨v, rfl, hown, hb1⟩
  obtain ⟨ao, cap, rfl, hst⟩ := HS.out w1 v hown
  have hw1 := hb1.size
  clear hown HS HL
  have HI := Lib.hid hst
  clear hst
  go_wp2_with fail
  have hbu := Lib.fresh_isBuilder 49 5 w1
  have d2 : Below w1.heap.size w1 (w1.alloc (.cells #[.pointer none, .slice none 0 0] 49)) := (Below.refl _ w1).alloc (Nat.le_refl _) _
  have s2 : w1.heap.size + 1 ≤ (w1.alloc (.cells #[.pointer none, .slice none 0 0] 49)).heap.size := by simp
  generalize w1.alloc (.cells #[.pointer none, .slice none 0 0] 49) = w2 at hbu d2 s2 ⊢
  have H2 := Lib.hid (wstr _ _ [] hdB w2 hbu (by simp [hdB]) (by omega))
  refine H2.out.mono ?_
  rintro e w3 ⟨⟨m3, rfl⟩, hbu3, d3, _⟩
  have d3' := d2.trans d3
  have s3 := d3.size
  clear H2 hbu d2 d3
  go_wp2_with fail
  refine (HV.out _).mono ?_
  rintro e w4 ⟨rfl, b4⟩
  have hbu4 := IsBuilder.below hbu3 b4
  have s4 := b4.size
  have d4 := d3'.trans (b4.mono (by omega))
  clear hbu3 d3' b4 HV
  have H5 := Lib.hid (wstr _ _ _ vn w4 hbu4 (by simp [hdB]; omega) (by omega))
  go_wp2_with fail
  refine H5.out.mono ?_
  rintro e w5 ⟨⟨m5, rfl⟩, hbu5, d5, _⟩
  have s5 := d5.size
  have d5' := d4.trans d5
  clear H5 hbu4 d4 d5
  have H6 := Lib.hid (shared_own ao n cap ws w5 (by omega) (HI.out.below d5') (fun t ht => by have := (HE.out t ht).2; omega))
  go_wp2_with fail
  refine H6.out.mono ?_
  rintro e w6 ⟨v, rfl, hown, b6⟩
  rw [shr_length, HN.out] at hown
  have hbu6 := IsBuilder.below hbu5 b6
  have s6 := b6.size
  have d6 := d5'.trans (b6.mono (by omega))
  obtain ⟨g, capg, rfl⟩ := own_formI hown hn1
  have hlt5 : w1.heap.size < w5.heap.size := by omega
  clear H6 hbu5 d5' b6
  have HB6 := Lib.hid hbu6
  have HO6 := Lib.hid hown
  clear hbu6 hown
  obtain ⟨BB, hBB⟩ : ∃ BB, w5.heap.size = BB := ⟨_, rfl⟩
  rw [hBB] at HO6 hlt5 s6
  go_wp2_with fail
  go_loopw [20] (fun i wr => ∃ k : Nat, k ≤ n ∧ i = .int .i64 k ∧ Hid (Lib.IsBuilder 49 5 w1.heap.size w1.heap.size (Lib.byteCells (hdB ++ (vn ++ restB [] (ws.take k)))) wr) ∧ Hid (wr.ownsRow BB 3 1 (.slice (some ⟨g, 0, none⟩) n capg) n (inCells (shr ws))) ∧ Below w1.heap.size w1 wr ∧ w1.heap.size + 1 ≤ wr.heap.size) (fun i _ => n - (RowKit.intOf i).toNat)
  case atStart => exact ⟨0, Nat.zero_le _, rfl, Lib.hid (by simpa [restB] using HB6.out), HO6, d6, by omega⟩
  case round =>
    obtain ⟨k, hk, rfl, HB, HO, hbe, hsz⟩ := hrel
    by_cases hlt : k < n
    · obtain ⟨b9, off, hao, t, hf, hc⟩ := str_at HI.out hbe k hlt
      obtain ⟨a, ha⟩ : ∃ a, ([] :: ws)[k]? = some a := ⟨_, List.getElem?_eq_getElem (by simp; have := HN.out; omega)⟩
      have hz := shrS_get [] ws k ha hf
      have hcell := row_cell HO.out (show (shr ws)[k]? = some _ from hz)
      have htl := (HE.out t (List.mem_of_getElem? hf)).2
      have hpl := preL_le a t
      have hRS := rest_snoc [] ws k ha hf
      have hlk := HT.out k
      obtain ⟨p, hp⟩ : ∃ p, preL a t = p := ⟨_, rfl⟩
      have hent : entB a t = vput (p : Int) ++ (vput ((t.length - p : Nat) : Int) ++ t.drop p) := by unfold entB; rw [hp]
      rw [hent] at hRS
      rw [hp] at hcell hpl
      have HRS := Lib.hid hRS
      have x1 := ext_rest t p
      have hdl : (t.drop p).length = t.length - p := List.length_drop
      obtain ⟨q, hq⟩ : ∃ q, t.length - p = q := ⟨_, rfl⟩
      rw [hq] at HRS hdl
      have hql : q ≤ 65535 := by omega
      have hpl2 : p ≤ 65535 := by omega
      have hpt : (p : Int) ≤ (t.length : Int) := by omega
      have hp0 : (0 : Int) ≤ (p : Int) := by omega
      have v1 := vput_length (p : Int) (by omega)
      have v2 := vput_length (q : Int) (by omega)
      have HA2 := Lib.hid (fun (W : World) => all_any (some ⟨W.heap.size, 0, none⟩) 2 2 [(p : Int), (q : Int)] (W.alloc (.cells #[.int .i64 (p : Int), .int .i64 (q : Int)] 3)) (by omega) (bkrow2 W _ _ _) (by intro x hx; simp at hx; omega))
      rw [show vall (([(p : Int), (q : Int)]).take 2) = vput (p : Int) ++ vput (q : Int) by simp [vall]] at HA2
      generalize vput (p : Int) = vp at HA2 HRS v1
      generalize vput (q : Int) = vq at HA2 HRS v2
      generalize restB [] (ws.take k) = acc at HB HRS hlk
      generalize t.drop p = r at x1 hdl HRS
      have ST := Lib.hid (bsize t)
      have SR := Lib.hid (bsize r)
      have HA3 := Lib.hid (HA2.out wr)
      clear hf ha hz hp hent hRS HA2 hq
      rw [hao]
      go_wp2_with fail
      refine HA3.out.mono ?_
      rintro e w7 ⟨rfl, b7⟩
      have dA : Below wr.heap.size wr (wr.alloc (.cells #[.int .i64 (p : Int), .int .i64 (q : Int)] 3)) := (Below.refl _ wr).alloc (Nat.le_refl _) _
      have d7 := dA.trans (b7.mono dA.size)
      have hbu7 := IsBuilder.below HB.out d7
      have ho7 := tx_below HO.out d7
      have s7 := d7.size
      have e7 := hbe.trans (d7.mono (by omega))
      clear HA3 b7 dA d7 HB HO hbe hcell hc x1
      have H8 := Lib.hid (wstr _ _ _ (vp ++ vq) w7 hbu7 (by simp [hdB]; omega) (by omega))
      go_wp2_with fail
      refine H8.out.mono ?_
      rintro e w8 ⟨⟨m8, rfl⟩, hbu8, d8, k8⟩
      have ho8 := own_kept ho7 k8 (by decide) hlt5
      have s8 := d8.size
      have e8 := e7.trans d8
      clear H8 hbu7 ho7 d8 k8 e7
      have H9 := Lib.hid (wstr _ _ _ r w8 hbu8 (by simp [hdB]; omega) (by omega))
      go_wp2_with fail
      refine H9.out.mono ?_
      rintro e w9 ⟨⟨m9, rfl⟩, hbu9, d9, k9⟩
      have ho9 := Lib.hid (own_kept ho8 k9 (by decide) hlt5)
      have s9 := d9.size
      have e9 := e8.trans d9
      have HB9 := Lib.hid hbu9
      clear H9 hbu8 ho8 d9 k9 e8 hbu9
      go_wp2
      exact ⟨⟨k + 1, by omega, by go_num, Lib.hid (by rw [HRS.out]; have := HB9.out; simpa [List.append_assoc] using this), ho9, e9, by omega⟩, by simp [RowKit.intOf]; omega⟩
    · obtain rfl : k = n := by omega
      have HF : Hid (hdB ++ (vn ++ restB [] (ws.take k)) = bookB ws) := Lib.hid (by rw [List.take_of_length_le (by rw [HN.out]; exact Nat.le_refl _)]; exact HA.out)
      have hbb := HB.out
      rw [HF.out] at hbb
      go_wp2_with (go_at_call 25; refine (Try.Builder_String_any _ _ _ _ hbb (by omega)).mono ?_; rintro e w7 ⟨rfl, b7⟩)
      go_ret
      exact ⟨rfl, (hb1.trans (hbe.mono hw1)).trans (b7.mono (by have := hbe.size; omega))⟩
end Go.Proofs.Ytoeakmpfkbmbcaa
