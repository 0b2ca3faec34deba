/-
  The document's own answer for layer 14: Len: walked.
-/
import Derived.Test.YtcbaloacmbekkaaPrR
import Derived.Test.YtcbaloacmbekkaaBut
import Derived.Test.YtcbaloacmbekkaaAfO
set_option linter.unusedSimpArgs false
set_option linter.unusedVariables false
namespace Go.Proofs.Ytcbaloacmbekkaa
open Go.RowKit

/-- A text of two bytes as one number. -/
def cod (u : List UInt8) : Nat := two (u.getD 0 0).toNat (u.getD 1 0).toNat
theorem len_two {u : List UInt8} (h : u.length = 2) : ∃ a b, u = [a, b] := by
  cases u with
  | nil => simp at h
  | cons a r =>
    cases r with
    | nil => simp at h
    | cons b s =>
      cases s with
      | nil => exact ⟨a, b, rfl⟩
      | cons c s => simp at h
theorem cod_inj {u v : List UInt8} (hu : u.length = 2) (hv : v.length = 2) (h : cod u = cod v) : u = v := by
  obtain ⟨a, b, rfl⟩ := len_two hu
  obtain ⟨c, d, rfl⟩ := len_two hv
  have h' : two a.toNat b.toNat = two c.toNat d.toNat := h
  obtain ⟨h1, h2⟩ := two_inj (UInt8.toNat_lt _) (UInt8.toNat_lt _) h'
  rw [UInt8.toNat_inj.1 h1, UInt8.toNat_inj.1 h2]
/-- The pairs that have been met: those of a shift below m. -/
def Bee (B : List (List UInt8)) (F : Nat → Nat) (m : Nat) : Prop := (∀ u ∈ B, u.length = 2) ∧ (B.map cod).Nodup ∧ ∀ c, c ∈ B.map cod ↔ F c < m
theorem bee_mem {B : List (List UInt8)} {F : Nat → Nat} {m : Nat} (h : Bee B F m) {p : List UInt8} (hp : p.length = 2) : p ∈ B ↔ F (cod p) < m := by
  obtain ⟨h1, h2, h3⟩ := h
  rw [← h3]
  refine ⟨fun h => List.mem_map_of_mem h, fun h => ?_⟩
  obtain ⟨u, hu, e⟩ := List.mem_map.1 h
  rwa [cod_inj (h1 u hu) hp e] at hu
theorem bee_keep {B : List (List UInt8)} {F G : Nat → Nat} {m : Nat} (h : Bee B F m) (e : ∀ c, G c < m ↔ F c < m) : Bee B G m :=
  ⟨h.1, h.2.1, fun c => (h.2.2 c).trans (e c).symm⟩
theorem bee_snoc {B : List (List UInt8)} {F G : Nat → Nat} {m : Nat} {p : List UInt8} (h : Bee B F m) (hp : p.length = 2) (hn : ¬ p ∈ B) (e : ∀ c, G c < m ↔ F c < m ∨ c = cod p) : Bee (B ++ [p]) G m := by
  have hn' := fun hl => hn ((bee_mem h hp).2 hl)
  obtain ⟨h1, h2, h3⟩ := h
  refine ⟨fun u hu => ?_, ?_, fun c => ?_⟩
  · rcases List.mem_append.1 hu with hu | hu
    · exact h1 u hu
    · rw [List.mem_singleton.1 hu]; exact hp
  · rw [List.map_append, List.nodup_append]
    refine ⟨h2, by simp, ?_⟩
    rintro a ha b hb rfl
    rw [List.map_cons, List.map_nil, List.mem_singleton] at hb
    subst hb
    exact hn' ((h3 _).1 ha)
  · rw [List.map_append, List.mem_append, h3, e]
    simp
theorem bee_none (m : Nat) : Bee [] (fun _ => m) m := ⟨fun u h => (by cases h), List.nodup_nil, fun c => ⟨fun h => (by cases h), fun h => (Nat.lt_irrefl m h).elim⟩⟩
theorem bee_low {F : Nat → Nat} {t : List UInt8} {m d : Nat} (hd : d < m) (hl : d + 1 < t.length) (c : Nat) : lowP F t (d + 1) c < m ↔ lowP F t d c < m ∨ c = prN t d := by
  by_cases h : at2 t c d = true
  · rw [lowp_hit h]
    have := (at2_iff hl).1 h
    exact ⟨fun _ => .inr this.symm, fun _ => by omega⟩
  · rw [lowp_keep h]
    exact ⟨.inl, fun q => q.elim id fun e => absurd ((at2_iff hl).2 e.symm) h⟩
theorem bee_len {B ws : List (List UInt8)} (h : Bee B (nearL ws) (farL ws)) : IsLen ws B.length := ⟨B.map cod, h.2.1, List.length_map _, h.2.2⟩

set_option maxRecDepth 100000 in
set_option maxHeartbeats 8000000 in
theorem rlen_any (a : Option Addr) (len cap : Nat) (ws : List (List UInt8)) (w : World) (hlen : len ≤ 1000) (hr : IsStrs w a len ws) (ht : ∀ t ∈ ws, t.length ≤ 65535) :
    Calls Try.prog 15 #[.slice a len cap] w fun e w' => (∃ n : Nat, e = .returned (.int .i64 (n : Int)) ∧ IsLen ws n) ∧ Below w.heap.size w w' := by
  have hwl := hr.1
  have HFar := Lib.hid (fun (W : World) (hW : Below w.heap.size w W) => rfar_any a len cap ws W (by omega) (hr.below hW) ht)
  have HT := Lib.hid (fun t (h : t ∈ ws) => (⟨ht t h, leastR_le h⟩ : t.length ≤ 65535 ∧ leastR ws ≤ t.length))
  have HM : Hid (farL ws = leastR ws - 1) := Lib.hid rfl
  have hml : farL ws ≤ 65535 := by
    unfold farL leastR
    split
    · omega
    · have := least_le ws; omega
  have HEnd : Hid (∀ B, Bee B (fun c => mn (has2 (ws.take len) c) (farL ws)) (farL ws) → IsLen ws B.length) := Lib.hid (fun B h => bee_len (by rw [List.take_of_length_le (by omega)] at h; exact h))
  have HR := Lib.hid hr
  generalize farL ws = m at HFar HM hml HEnd
  generalize leastR ws = l at HT HM
  obtain ⟨i0, hi, hz0, hz1, hz2⟩ := info_parts string_info
  clear hr ht
  go_enter Try.func15, Try.ntmps15
  go_wp2
  go_loopw [3, 4, 5, 6, 7, 8] (fun v i x1 x2 x3 x4 wr => ∃ (k : Nat) (B : List (List UInt8)), k ≤ len ∧ i = .int .i64 k ∧ wr.ownsRow w.heap.size 9 1 v B.length (txCells B) ∧ B.length ≤ k * 65535 ∧ Hid (Bee B (fun c => mn (has2 (ws.take k) c) m) m) ∧ Below w.heap.size w wr) (fun _ i _ _ _ _ _ => len - (RowKit.intOf i).toNat)
  case atStart => exact ⟨0, [], Nat.zero_le _, rfl, World.ownsRow_made w #[] 0 (Nat.le_refl _) (by unfold maxLen; omega) rfl, Nat.zero_le _, Lib.hid (bee_keep (bee_none m) (fun c => by rw [List.take_zero, lowp_start])), (Below.refl _ _).alloc (Nat.le_refl _) _⟩
  case round =>
    obtain ⟨k, B, hk, rfl, hown, hbl, HB, hbe⟩ := hrel
    by_cases hlt : k < len
    · obtain ⟨W1, hW1⟩ : ∃ W1, W1 = wr := ⟨_, rfl⟩
      subst hW1
      obtain ⟨b0, off0, ha0, t, hf, _⟩ := str_at HR.out hbe k hlt
      have htl := HT.out t (List.mem_of_getElem? hf)
      have HDn := Lib.hid (fun c => lowp_done (m := m) hf c)
      have HFk := Lib.hid hf
      clear hf ha0
      go_wp2
      go_loopw [3, 5, 6, 7, 8] (fun v i x2 x3 x4 wr => ∃ (d : Nat) (B : List (List UInt8)), d ≤ m ∧ i = .int .i64 d ∧ wr.ownsRow w.heap.size 9 1 v B.length (txCells B) ∧ B.length ≤ k * 65535 + d ∧ Hid (Bee B (lowP (fun c => mn (has2 (ws.take k) c) m) t d) m) ∧ Below w.heap.size w wr) (fun _ i _ _ _ _ => m - (RowKit.intOf i).toNat)
      case atStart => exact ⟨0, B, Nat.zero_le _, rfl, hown, Nat.le_add_right_of_le hbl, HB, hbe⟩
      case round =>
        clear hown hbl HB hbe
        obtain ⟨d, B, hd, rfl, hown, hbl, HB, hbe⟩ := hrel
        have HF2 := Lib.hid (HFar.out wr hbe)
        go_wp2_with fail
        refine HF2.out.mono ?_
        rintro e w' ⟨rfl, hw⟩
        obtain rfl := hw.symm
        clear hw HF2
        by_cases hlt2 : d < m
        · obtain ⟨b, off, rfl, t', hf', hcell⟩ := str_at HR.out hbe k hlt
          obtain rfl : t' = t := Option.some.inj (hf'.symm.trans HFk.out)
          have S1 := Lib.hid (bsize t')
          have hM := HM.out
          obtain ⟨q, hq⟩ : ∃ q, q + 2 = t'.length := ⟨t'.length - 2, by omega⟩
          obtain ⟨i, hii⟩ : ∃ i, i + d = q := ⟨q - d, by omega⟩
          obtain ⟨e, hee⟩ : ∃ e, e + d = t'.length := ⟨t'.length - d, by omega⟩
          have w1 : IntKind.i64.wrap ((t'.length : Int) - 2) = (q : Int) := by rw [IntKind.wrap_i64]; omega
          have w2 : IntKind.i64.wrap ((q : Int) - (d : Int)) = (i : Int) := by rw [IntKind.wrap_i64]; omega
          have w3 : IntKind.i64.wrap ((t'.length : Int) - (d : Int)) = (e : Int) := by rw [IntKind.wrap_i64]; omega
          have g1 : (0 : Int) ≤ (k : Int) := by omega
          have g2 : (k : Int) < (len : Int) := by omega
          have g3 : i ≤ e := by omega
          have g4 : e ≤ t'.length := by omega
          have hcut := ext_cut t' i e
          have hPl : ((t'.take e).drop i).length = 2 := by rw [List.length_drop, List.length_take]; omega
          have hPc : cod ((t'.take e).drop i) = prN t' d := by
            unfold cod prN
            simp only [List.getD, List.getElem?_drop]
            rw [List.getElem?_take_of_lt (by omega), List.getElem?_take_of_lt (by omega), show i + 0 = t'.length - 2 - d by omega, show i + 1 = t'.length - 1 - d by omega]
          generalize (t'.take e).drop i = P at hcut hPl hPc
          have HLow := Lib.hid (fun c => bee_low (F := fun c => mn (has2 (ws.take k) c) m) (t := t') hlt2 (by omega) c)
          have HPL := Lib.hid hPl
          have HPC := Lib.hid hPc
          have HQ := Lib.hid hq
          have HII := Lib.hid hii
          have HEE := Lib.hid hee
          clear hPl hPc hq hii hee hM hf'
          go_wp2_with fail
          go_quiet (fail)
          have hown2 : (wr.drewN nq).ownsRow w.heap.size 9 1 u3 B.length (txCells B) := hown
          have hbe2 := below_drewS hbe nq
          have hsz2 := hbe2.size
          obtain ⟨av, capv, rfl⟩ := owns_slice hown2
          obtain ⟨W2, hW2⟩ : ∃ W2, wr.drewN nq = W2 := ⟨_, rfl⟩
          rw [hW2] at hown2 hbe2 hsz2 ⊢
          clear hW2 hown hbe hcell w1 w2 w3 hcut
          obtain ⟨L, hL⟩ : ∃ L, B.length = L := ⟨_, rfl⟩
          rw [hL] at hown2 hbl ⊢
          have HL := Lib.hid hL
          clear hL
          have HS2 : Hid (∀ j, j < L → ∃ (bb : Nat) (u : List UInt8), av = some ⟨bb, 0, none⟩ ∧ B[j]? = some u ∧ W2.cell? ⟨bb, j, none⟩ = some (.string ⟨u.toArray⟩)) := Lib.hid (fun j hj => by
            obtain ⟨g, cap2, _, _, e⟩ := owns_some hown2 (by omega)
            cases e
            obtain ⟨u, hu⟩ : ∃ u, B[j]? = some u := ⟨_, List.getElem?_eq_getElem (by rw [HL.out]; exact hj)⟩
            exact ⟨g, u, rfl, hu, own_at hown2 hu⟩)
          have HO2 := Lib.hid hown2
          have HB2 := Lib.hid hbe2
          clear hown2 hbe2
          go_wp2
          go_loop [7, 8] (fun z i => ∃ (j : Nat) (β : Bool), j ≤ L ∧ i = .int .i64 j ∧ z = .bool β ∧ Hid (β = true ↔ P ∈ B.take j)) (fun _ i => L - (RowKit.intOf i).toNat)
          case atStart => exact ⟨0, false, Nat.zero_le _, rfl, rfl, Lib.hid (by simp)⟩
          case round =>
            obtain ⟨j, β, hj, rfl, rfl, HJ⟩ := hrel
            by_cases hlt3 : j < L
            · obtain ⟨bb, u, rfl, hu, hcu⟩ := HS2.out j hlt3
              have g5 : (0 : Int) ≤ (j : Int) := by omega
              have g6 : (j : Int) < (L : Int) := by omega
              have hnx : P ∈ B.take (j + 1) ↔ P ∈ B.take j ∨ P = u := by
                obtain ⟨hk2, rfl⟩ := List.getElem?_eq_some_iff.1 hu
                rw [List.take_succ_eq_append_getElem hk2, List.mem_append, List.mem_singleton]
              cases β with
              | true =>
                have HJ2 : Hid (true = true ↔ P ∈ B.take (j + 1)) := Lib.hid ⟨fun _ => hnx.2 (.inl (HJ.out.1 rfl)), fun _ => rfl⟩
                clear hnx hu HJ
                go_wp2
                exact ⟨⟨j + 1, true, by omega, by go_num, rfl, HJ2⟩, by simp [RowKit.intOf]; omega⟩
              | false =>
                obtain ⟨γ, hγ⟩ : ∃ γ, (u == P) = γ := ⟨_, rfl⟩
                have HJ2 : Hid (γ = true ↔ P ∈ B.take (j + 1)) := Lib.hid (by
                  rw [hnx, ← hγ, beq_iff_eq]
                  exact ⟨fun h => .inr h.symm, fun h => h.elim (fun h => by have := HJ.out.2 h; cases this) (fun h => h.symm)⟩)
                clear hnx hu HJ
                go_wp2
                exact ⟨⟨j + 1, γ, by omega, by go_num, rfl, HJ2⟩, by simp [RowKit.intOf]; omega⟩
            · obtain rfl : j = L := by omega
              have hz : ¬ (j : Int) < (j : Int) := by omega
              have HMem : Hid (β = true ↔ P ∈ B) := Lib.hid (by have := HJ.out; rwa [List.take_of_length_le (by rw [HL.out]; exact Nat.le_refl _)] at this)
              clear HJ HS2
              cases β with
              | true =>
                have HB3 : Hid (Bee B (lowP (fun c => mn (has2 (ws.take k) c) m) t' (d + 1)) m) := Lib.hid (bee_keep HB.out fun c => by
                  rw [HLow.out c]
                  refine ⟨fun h => h.elim id fun e => ?_, .inl⟩
                  have := (bee_mem HB.out HPL.out).1 (HMem.out.1 rfl)
                  rw [e, ← HPC.out]
                  exact this)
                have HO3 : Hid (W2.ownsRow w.heap.size 9 1 (.slice av j capv) B.length (txCells B)) := Lib.hid (by rw [HL.out]; exact HO2.out)
                have HL2 : Hid (B.length ≤ k * 65535 + (d + 1)) := Lib.hid (by rw [HL.out]; omega)
                clear HB HLow HMem HO2 HL
                go_wp2
                exact ⟨⟨d + 1, B, by omega, by go_num, HO3.out, HL2.out, HB3, HB2.out⟩, by simp [RowKit.intOf]; omega⟩
              | false =>
                have HB3 : Hid (Bee (B ++ [P]) (lowP (fun c => mn (has2 (ws.take k) c) m) t' (d + 1)) m) := Lib.hid (bee_snoc HB.out HPL.out (fun h => by have := HMem.out.2 h; cases this) fun c => by rw [HLow.out c, HPC.out])
                have hown2 := HO2.out
                have hbe2 := HB2.out
                have HLP : Hid ((B ++ [P]).length = j + 1) := Lib.hid (by rw [List.length_append, HL.out]; rfl)
                clear HB HLow HMem HO2 HL HB2
                go_wp2_with (at_builtin; refine wpList_append_own _ rfl _ _ 22 rfl w.heap.size 9 i0 (.string ByteArray.empty) 1 16 Try.underlying22 hi hz0 hz1 hz2 rfl (by decide) _ _ _ rfl (hown2.alloc _) ⟨W2.heap.size, 0, none⟩ 1 1 [.string ⟨P.toArray⟩] rfl rfl (one_news (heap_alloc_new W2 _)) str_one (by unfold maxLen; omega) (by omega) (by simp; omega) ?_)
                intro v' w3 hown3 hgrow _
                have h3 : Below w.heap.size w w3 := (hbe2.alloc (by omega) _).grown hgrow (by simp; omega) (fun k hk => (hown2.lt k hk).1)
                have HO3 : Hid (w3.ownsRow w.heap.size 9 1 v' (B ++ [P]).length (txCells (B ++ [P]))) := Lib.hid (by rw [txCells_snoc, HLP.out]; exact hown3)
                have HB4 := Lib.hid h3
                have HL2 : Hid ((B ++ [P]).length ≤ k * 65535 + (d + 1)) := Lib.hid (by rw [HLP.out]; omega)
                clear hown2 hown3 hgrow hbe2 h3
                go_wp2
                exact ⟨⟨d + 1, B ++ [P], by omega, by go_num, HO3.out, HL2.out, HB3, HB4.out⟩, by simp [RowKit.intOf]; omega⟩
        · obtain rfl : d = m := by omega
          have hz : ¬ (d : Int) < (d : Int) := by omega
          have HB2 : Hid (Bee B (fun c => mn (has2 (ws.take (k + 1)) c) d) d) := Lib.hid (bee_keep HB.out fun c => by rw [HDn.out c])
          clear HB
          go_wp2
          exact ⟨⟨k + 1, B, by omega, by go_num, hown, by omega, HB2, hbe⟩, by simp [RowKit.intOf]; omega⟩
    · obtain rfl : k = len := by omega
      have hz : ¬ (k : Int) < (k : Int) := by omega
      have HE := Lib.hid (HEnd.out B HB.out)
      clear HB
      obtain ⟨av, capv, rfl⟩ := owns_slice hown
      clear hown
      go_wp2
      go_ret
      exact ⟨⟨B.length, rfl, HE.out⟩, hbe⟩
end Go.Proofs.Ytcbaloacmbekkaa
