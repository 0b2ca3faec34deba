/-
  Texts put together: ClNs, DnN, OthD, OthT, SpM, SpW, OthS, SpT, SpN, SpS, AuW, DnNs.
-/
import Derived.Test.YtjmlabggocfikaaGreatBn4
import Derived.Test.YtjmlabggocfikaaGreatBn7
import Derived.Laws.MakeOwn
import Derived.Test.YtjmlabggocfikaaGreatBn3
import Derived.Laws.OwnMore
import Derived.Lib.Hide
import Derived.Lib.MinMax
import Derived.Test.YtjmlabggocfikaaGreatBn6
set_option linter.unusedSimpArgs false
set_option linter.unusedVariables false
namespace Go.Proofs.YtjmlabggocfikaaGreat
open Go.RowKit


theorem clnew_all {w : World} {p : Option Addr} {us : List (List UInt8)} (h : IsPats w p us) :
    Calls Tryz.prog 50 #[.pointer p] w fun e w' => ∃ b, e = .returned (.pointer (some ⟨b, 0, none⟩)) ∧ w.heap.size ≤ b ∧ HasCls w' (some ⟨b, 0, none⟩) (ofC us) (bcK us 256) ((bcK us 256).length + 1) ∧ Below w.heap.size w w' := by
  have go : Calls Tryz.prog 50 #[.pointer p] w (fun e w' => ∃ b, e = .returned (.pointer (some ⟨b, 0, none⟩)) ∧ w.heap.size ≤ b ∧ IsCls w' b (ofC us) (bcK us 256) ∧ Below w.heap.size w w') → Calls Tryz.prog 50 #[.pointer p] w fun e w' => ∃ b, e = .returned (.pointer (some ⟨b, 0, none⟩)) ∧ w.heap.size ≤ b ∧ HasCls w' (some ⟨b, 0, none⟩) (ofC us) (bcK us 256) ((bcK us 256).length + 1) ∧ Below w.heap.size w w' := by
    intro h
    refine h.mono ?_
    rintro e w' ⟨b, rfl, h1, h2, h3⟩
    exact ⟨b, rfl, h1, .inr ⟨b, rfl, h2, rfl⟩, h3⟩
  rcases h with ⟨rfl, rfl⟩ | ⟨b, rfl, h, hp⟩
  · exact go (clnew_by _ [] w (by simp) (by simp) (fun W _ => ptlen_nil W) (fun W k t _ h => by simp at h))
  · exact go (clnew_by _ us w (by have := hp.few; omega) (fun t ht => by have := hp.each t ht; omega) (fun W hW => ptlen_any (h.below hW)) (fun W k t hW hk => ptat_in (h.below hW) k t hk))

end Go.Proofs.YtjmlabggocfikaaGreat

namespace Go.Proofs.YtjmlabggocfikaaGreat
open Go.RowKit

/-- A table of a set, whose states these are. -/
structure IsDense (w : World) (b g : Nat) (pc : Option Addr) (us S : List (List UInt8)) (L : List Nat) : Prop where
  dn : IsDn w b g pc S.length ((bcK us 256).length + 1) L (ofC us) (bcK us 256)
  rows : ∀ j t, S[j]? = some t → seg L ((bcK us 256).length + 1) j = rwF us S t
  st : IsSt us S
  root : S[0]? = some []
theorem IsDense.below {w w' : World} {b g : Nat} {pc : Option Addr} {us S : List (List UInt8)} {L : List Nat} (h : IsDense w b g pc us S L) (hb : Below w.heap.size w w') : IsDense w' b g pc us S L := ⟨h.dn.below hb, h.rows, h.st, h.root⟩

theorem dn32_all : (Tryz.prog.info? 21).map (fun i => (i.zero, i.size, i.bytes)) = some (some (.int .i32 0), 1, 4) := by kernel_rfl
theorem made_rows (n : Nat) : madeCells (Value.int .i32 0).cells n = (dnCells (List.replicate n 0)).toArray := by
  have e : (Value.int .i32 0).cells = #[.int .i32 0] := by rfl
  rw [e]
  unfold madeCells dnCells dnV
  apply Array.ext
  · simp
  · intro i h1 h2
    simp [Nat.mod_one]
theorem make_rows (c : Nat) (w : World) (hc : c ≤ 4311744769) : (Instr.makeSlice 83 (.int .i64 (c : Int)) (.int .i64 (c : Int))).run Tryz.prog w = .ok (.slice (some ⟨w.heap.size, 0, none⟩) c c) (w.alloc (.cells (dnCells (List.replicate c 0)).toArray 21)) := by
  obtain ⟨i0, hi, hz0, hz1, hz2⟩ := info_parts dn32_all
  have h := run_make (P := Tryz.prog) w 83 21 i0 (.int .i32 0) Tryz.underlying83 hi hz0 .i64 .i64 c c (by omega) (Int.le_refl _) (by rw [hz2]; omega) (by omega)
  rw [h, hz1, Int.toNat_natCast, Nat.mul_one, made_rows]

set_option maxRecDepth 100000 in
set_option maxHeartbeats 4000000 in
theorem dnnew_any {w : World} {p : Option Addr} {us : List (List UInt8)} (hp : IsPats w p us) (ha : Asc us) (hn : us.Nodup) :
    Calls Tryz.prog 36 #[.pointer p] w fun e w' => ∃ b g pc S L, e = .returned (.pointer (some ⟨b, 0, none⟩)) ∧ IsDense w' b g pc us S L ∧ Below w.heap.size w w' := by
  have HK := Lib.hid (lknew_any hp ha hn)
  have HC := Lib.hid (fun (W : World) (h : Below w.heap.size w W) => clnew_all (hp.below h))
  have hcb := bc_length us 256
  clear hp ha hn
  go_enter Tryz.func36, Tryz.ntmps36
  go_wp2_with fail
  refine HK.out.mono ?_
  rintro e w1 ⟨k, q, S, F, rfl, hL, hb1⟩
  have HC1 := Lib.hid (HC.out w1 hb1)
  have hs1 := hb1.size
  have hfew := hL.tr.few.2.2
  have HL1 := Lib.hid hL
  clear HK HC hL
  go_wp2_with fail
  refine HC1.out.mono ?_
  rintro e w2 ⟨pc, rfl, _, hC, hb2⟩
  have HL2 := Lib.hid (HL1.out.below hb2)
  have HB2 := Lib.hid (hb1.trans (hb2.mono hs1))
  have HC2 := Lib.hid hC
  have HTr := Lib.hid (lktrie_any HL2.out.has)
  have HLen := Lib.hid (ts_len HL2.out.tr)
  have HCL := Lib.hid (cllen_any hC (by omega))
  clear HL1 HC1 hC hb1 hb2 hs1
  obtain ⟨W, hW⟩ : ∃ W, (bcK us 256).length + 1 = W := ⟨_, rfl⟩
  rw [hW] at HC2 HCL
  have HW := Lib.hid hW
  have hWl : W ≤ 257 := by omega
  have hWp : 0 < W := by omega
  obtain ⟨n, hnS⟩ : ∃ n, S.length = n := ⟨_, rfl⟩
  rw [hnS] at HLen hfew
  have HN := Lib.hid hnS
  have hmost : n * W ≤ 4311744769 := by
    have := Nat.mul_le_mul hfew hWl
    omega
  have hmul : IntKind.i64.wrap ((n : Int) * (W : Int)) = ((n * W : Nat) : Int) := by
    rw [show (n : Int) * (W : Int) = ((n * W : Nat) : Int) by simp, IntKind.wrap_i64]; omega
  obtain ⟨m, hm⟩ : ∃ m, n * W = m := ⟨_, rfl⟩
  rw [hm] at hmul hmost
  have HM := Lib.hid hm
  have hmake := make_rows m w2 hmost
  clear hW hnS hm hcb
  go_wp2_with fail
  refine HTr.out.mono ?_
  rintro e w' ⟨rfl, hw'⟩
  obtain rfl := hw'.symm
  clear hw' HTr
  go_wp2_with fail
  refine HLen.out.mono ?_
  rintro e w' ⟨rfl, hw'⟩
  obtain rfl := hw'.symm
  clear hw' HLen
  go_wp2_with fail
  refine HCL.out.mono ?_
  rintro e w' ⟨rfl, hw'⟩
  obtain rfl := hw'.symm
  clear hw' HCL
  have hb3 : Below w2.heap.size w2 (w2.alloc (.cells (dnCells (List.replicate m 0)).toArray 21)) := (Below.refl _ _).alloc (Nat.le_refl _) _
  have hh3 := heap_alloc_new w2 (.cells (dnCells (List.replicate m 0)).toArray 21)
  have hz3 : (w2.alloc (.cells (dnCells (List.replicate m 0)).toArray 21)).heap.size = w2.heap.size + 1 := by simp
  generalize w2.alloc (.cells (dnCells (List.replicate m 0)).toArray 21) = w3 at *
  have HZ3 := Lib.hid hz3
  clear hz3
  go_wp2_with fail
  have HS2 := Lib.hid (HB2.out.size)
  have hlr : (List.replicate m (0 : Nat)).length = m := List.length_replicate
  have HT0 : Hid (IsTb (w3.alloc (.cells #[.pointer (some ⟨pc, 0, none⟩), .int .i64 (n : Int), .slice (some ⟨w2.heap.size, 0, none⟩) m m] 85)) w3.heap.size w2.heap.size (some ⟨pc, 0, none⟩) S.length W (List.replicate m 0)) := Lib.hid (by
    refine ⟨?_, ?_, by rw [hlr, HN.out, HM.out], by rw [HN.out]; exact hfew, hWl, hWp, fun x hx => by rw [List.eq_of_mem_replicate hx]; omega⟩
    · rw [hlr, HN.out]; exact heap_alloc_new w3 _
    · rw [Below.heap_alloc _ _ _ (by have := HZ3.out; omega)]; exact hh3)
  have HB0 : Hid (Below w2.heap.size w2 (w3.alloc (.cells #[.pointer (some ⟨pc, 0, none⟩), .int .i64 (n : Int), .slice (some ⟨w2.heap.size, 0, none⟩) m m] 85))) := Lib.hid (hb3.alloc hb3.size _)
  have HR0 : Hid (RwOk us S W 0 (List.replicate m 0)) := Lib.hid ⟨fun j t hj => absurd hj (Nat.not_lt_zero _), fun j _ hj => by rw [← HM.out, ← HN.out]; exact seg_zero hj⟩
  have hs23 := hb3.size
  clear hh3 HZ3 hb3 hmake
  generalize (w3.alloc (.cells #[.pointer (some ⟨pc, 0, none⟩), .int .i64 (n : Int), .slice (some ⟨w2.heap.size, 0, none⟩) m m] 85)) = w4 at *
  generalize w3.heap.size = b at *
  go_loopw [25] (fun x wr => ∃ (i : Nat) (L : List Nat), i ≤ n ∧ x = .int .i64 i ∧ Hid (IsTb wr b w2.heap.size (some ⟨pc, 0, none⟩) S.length W L) ∧ Hid (RwOk us S W i L) ∧ Hid (Below w2.heap.size w2 wr)) (fun x _ => n - (RowKit.intOf x).toNat)
  case atStart => exact ⟨0, _, Nat.zero_le _, rfl, HT0, HR0, HB0⟩
  case round =>
    clear HT0 HR0 HB0
    obtain ⟨i, L, hi, rfl, HT, HR, HB⟩ := hrel
    by_cases hlt : i < n
    · obtain ⟨s, hs⟩ : ∃ s, S[i]? = some s := ⟨_, List.getElem?_eq_getElem (show i < S.length by rw [HN.out]; exact hlt)⟩
      have HF := Lib.hid (dnfill_any HL2.out HC2.out HW.out.symm HB.out (Nat.le_refl _) hs23 HT.out i hs HR.out)
      clear HT HR HB hs
      go_wp2_with fail
      refine HF.out.mono ?_
      rintro e w5 ⟨rfl, L', h1, h2, h3⟩
      have H1 := Lib.hid h1
      have H2 := Lib.hid h2
      have H3 := Lib.hid h3
      clear h1 h2 h3 HF
      go_wp2
      exact ⟨⟨i + 1, L', by omega, by go_num, H1, H2, H3⟩, by simp [RowKit.intOf]; omega⟩
    · obtain rfl : i = n := by omega
      have hz : ¬ (i : Int) < (i : Int) := by omega
      have HE : Hid (IsDense wr b w2.heap.size (some ⟨pc, 0, none⟩) us S L) := Lib.hid (by
        have hb := HB.out
        refine ⟨⟨?_, ?_, by have := HW.out; omega⟩, fun j t ht => ?_, HL2.out.tr.st, HL2.out.root⟩
        · rw [HW.out]; exact HT.out
        · rw [HW.out]; exact HC2.out.below hb
        · rw [HW.out]; exact HR.out.known j t (by rw [← HN.out]; exact (List.getElem?_eq_some_iff.1 ht).1) ht)
      have HBE := Lib.hid (HB2.out.trans (HB.out.mono HS2.out))
      clear HT HR HB
      go_wp2
      go_ret
      exact ⟨b, rfl, ⟨_, _, S, L, HE.out⟩, HBE.out⟩

/-- What a table tells. -/
theorem IsDense.nodup {w : World} {b g : Nat} {pc : Option Addr} {us S : List (List UInt8)} {L : List Nat} (h : IsDense w b g pc us S L) : S.Nodup := slx_nodup h.st.1
theorem IsDense.mem {w : World} {b g : Nat} {pc : Option Addr} {us S : List (List UInt8)} {L : List Nat} (h : IsDense w b g pc us S L) : [] ∈ S := st_root h.st
theorem ds_len {w : World} {b g : Nat} {pc : Option Addr} {us S : List (List UInt8)} {L : List Nat} (h : IsDense w b g pc us S L) : Calls Tryz.prog 90 #[.pointer (some ⟨b, 0, none⟩)] w fun e w' => e = .returned (.int .i64 (S.length : Int)) ∧ w' = w := dnlen_any h.dn.tb
theorem ds_step {w : World} {b g : Nat} {pc : Option Addr} {us S : List (List UInt8)} {L : List Nat} (h : IsDense w b g pc us S L) (i : Nat) {s : List UInt8} (hs : S[i]? = some s) (c : UInt8) : Calls Tryz.prog 40 #[.pointer (some ⟨b, 0, none⟩), .int .i64 (i : Int), .int .u8 (c.toNat : Int)] w fun e w' => e = .returned (.int .i64 (dnS S s c : Int)) ∧ w' = w :=
  dnstep_in h.dn i (List.getElem?_eq_some_iff.1 hs).1 c (by rw [h.rows i s hs]; exact rw_of h.st h.nodup h.root s c)
theorem ds_norow {w : World} {b g : Nat} {pc : Option Addr} {us S : List (List UInt8)} {L : List Nat} (h : IsDense w b g pc us S L) {s : Int} (hs : s < 0 ∨ (S.length : Int) ≤ s) : NoRow w (some ⟨b, 0, none⟩) s := fun W e => dnrow_out (h.dn.tb.heap e) s hs
theorem nil_norow (w : World) (s : Int) : NoRow w none s := fun W _ => dnrow_nil s W
end Go.Proofs.YtjmlabggocfikaaGreat

namespace Go.Proofs.YtjmlabggocfikaaGreat
open Go.RowKit

/-- A type that no classes and no table is made of. -/
structure OthD (T : TypeId) : Prop where
  cls : 127 ≠ T
  tab : 85 ≠ T
  num : 21 ≠ T
theorem HasCls.other {T : TypeId} {w w' : World} {p : Option Addr} {F : Nat → Nat} {B : List UInt8} {n : Nat} (h : HasCls w p F B n) (ho : Other T w w') (hT : OthD T) : HasCls w' p F B n := by
  rcases h with h | ⟨b, h1, ⟨cs, h2, h3⟩, h4⟩
  · exact .inl h
  · exact .inr ⟨b, h1, ⟨cs, ho _ _ _ _ hT.cls h2, h3⟩, h4⟩
theorem IsTb.other {T : TypeId} {w w' : World} {b g : Nat} {pc : Option Addr} {n W : Nat} {L : List Nat} (h : IsTb w b g pc n W L) (ho : Other T w w') (hT : OthD T) : IsTb w' b g pc n W L :=
  ⟨ho _ _ _ _ hT.tab h.head, ho _ _ _ _ hT.num h.row, h.len, h.fn, h.fw, h.wp, h.fit⟩
theorem IsDense.other {T : TypeId} {w w' : World} {b g : Nat} {pc : Option Addr} {us S : List (List UInt8)} {L : List Nat} (h : IsDense w b g pc us S L) (ho : Other T w w') (hT : OthD T) : IsDense w' b g pc us S L :=
  ⟨⟨h.dn.tb.other ho hT, h.dn.cl.other ho hT, h.dn.fb⟩, h.rows, h.st, h.root⟩
end Go.Proofs.YtjmlabggocfikaaGreat

namespace Go.Proofs.YtjmlabggocfikaaGreat
open Go.RowKit

/-- A type that no set, no trie and no links are made of. -/
structure OthT (T : TypeId) : Prop where
  set : 52 ≠ T
  str : 9 ≠ T
  tri : 130 ≠ T
  sta : 109 ≠ T
  lnk : 96 ≠ T
  fal : 98 ≠ T
theorem IsPats.other {T : TypeId} {w w' : World} {p : Option Addr} {us : List (List UInt8)} (h : IsPats w p us) (ho : Other T w w') (hT : OthT T) : IsPats w' p us := by
  rcases h with h | ⟨b, h1, ⟨g, cap, h2, h3⟩, h4⟩
  · exact .inl h
  · exact .inr ⟨b, h1, ⟨g, cap, ho _ _ _ _ hT.set h2, ho.owns hT.str h3⟩, h4⟩
theorem HasTr.other {T : TypeId} {w w' : World} {q p : Option Addr} {R : List Rc} (h : HasTr w q p R) (ho : Other T w w') (hT : OthT T) : HasTr w' q p R := by
  rcases h with h | ⟨base, b, h1, n, cap, h2, h3, h4, h5, h6⟩
  · exact .inl h
  · exact .inr ⟨base, b, h1, n, cap, ho _ _ _ _ hT.tri h2, h3, ho.owns hT.sta h4, h5, h6⟩
theorem IsTrie.other {T : TypeId} {w w' : World} {q p : Option Addr} {us S : List (List UInt8)} (h : IsTrie w q p us S) (ho : Other T w w') (hT : OthT T) : IsTrie w' q p us S := by
  obtain ⟨R, h1, h2, h3, h4⟩ := h
  exact ⟨R, h1.other ho hT, h2, h3, h4.other ho hT⟩
theorem HasLk.other {T : TypeId} {w w' : World} {k q : Option Addr} {F : List (Nat × Nat)} (h : HasLk w k q F) (ho : Other T w w') (hT : OthT T) : HasLk w' k q F := by
  rcases h with h | ⟨base, b, g, h1, h2⟩
  · exact .inl h
  · exact .inr ⟨base, b, g, h1, ho _ _ _ _ hT.lnk h2.head, ho _ _ _ _ hT.fal h2.row, h2.bb, h2.gg, h2.few, h2.fit⟩
theorem IsLink.other {T : TypeId} {w w' : World} {k q p : Option Addr} {us S : List (List UInt8)} {m : Nat} {F : List (Nat × Nat)} (h : IsLink w k q p us S m F) (ho : Other T w w') (hT : OthT T) : IsLink w' k q p us S m F :=
  ⟨h.has.other ho hT, h.tr.other ho hT, h.asc, h.ok⟩
end Go.Proofs.YtjmlabggocfikaaGreat

namespace Go.Proofs.YtjmlabggocfikaaGreat
open Go.Lib

/-- How many of the first m states lead on. -/
def ldN (us S : List (List UInt8)) : Nat → Nat
  | 0 => 0
  | m + 1 => ldN us S m + if kidsL us (S.getD m []) = [] then 0 else 1
theorem ld_hit {us S : List (List UInt8)} {m : Nat} {s : List UInt8} (hs : S[m]? = some s) (h : kidsL us s ≠ []) : ldN us S (m + 1) = ldN us S m + 1 := by
  rw [ldN, List.getD_eq_getElem?_getD, hs]
  simp [h]
theorem ld_miss {us S : List (List UInt8)} {m : Nat} {s : List UInt8} (hs : S[m]? = some s) (h : kidsL us s = []) : ldN us S (m + 1) = ldN us S m := by
  rw [ldN, List.getD_eq_getElem?_getD, hs]
  simp [h]
theorem ld_le (us S : List (List UInt8)) : ∀ m, ldN us S m ≤ m
  | 0 => Nat.le_refl _
  | m + 1 => by
    have := ld_le us S m
    unfold ldN
    split <;> omega

/-- Does a cell belong to a state? -/
def tkC (C : List (Nat × Nat)) (j : Nat) : Bool := decide (0 < (C.getD j (0, 0)).2)
theorem tk_out {C : List (Nat × Nat)} {j : Nat} (h : C.length ≤ j) : tkC C j = false := by
  unfold tkC
  rw [List.getD_eq_getElem?_getD, List.getElem?_eq_none h]; rfl
theorem tk_in {C : List (Nat × Nat)} {j o x : Nat} (h : C[j]? = some (o, x)) : tkC C j = decide (0 < x) := by
  unfold tkC
  rw [List.getD_eq_getElem?_getD, h]; rfl
/-- Are the cells of these bytes free, from a place on? -/
def FreeAt (C : List (Nat × Nat)) (K : List UInt8) (p : Nat) : Prop := ∀ c ∈ K, tkC C (p + c.toNat) = false
theorem free_behind (C : List (Nat × Nat)) (K : List UInt8) {p : Nat} (h : C.length ≤ p) : FreeAt C K p := fun c _ => tk_out (by omega)

/-- The rows of the first m states are laid. -/
structure SpOk (us S : List (List UInt8)) (m : Nat) (P : List Nat) (C : List (Nat × Nat)) : Prop where
  plen : P.length = S.length
  has : ∀ (i : Nat) (s : List UInt8) (c : UInt8), i < m → S[i]? = some s → c ∈ kidsL us s → ∃ p x, P[i]? = some p ∧ C[p + c.toNat]? = some (i, x) ∧ S[x]? = some (s ++ [c])
  own : ∀ j o x : Nat, C[j]? = some (o, x) → 0 < x → o < m ∧ ∃ s p c, S[o]? = some s ∧ P[o]? = some p ∧ j = p + UInt8.toNat c ∧ c ∈ kidsL us s
  few : C.length ≤ 256 * ldN us S m
theorem SpOk.start (us S : List (List UInt8)) : SpOk us S 0 (List.replicate S.length 0) [] :=
  ⟨List.length_replicate .., fun i s c hi => absurd hi (Nat.not_lt_zero _), fun j o x h => by simp at h, by simp [ldN]⟩
theorem SpOk.none {us S : List (List UInt8)} {m : Nat} {P : List Nat} {C : List (Nat × Nat)} (h : SpOk us S m P C) {s : List UInt8} (hs : S[m]? = some s) (hk : kidsL us s = []) : SpOk us S (m + 1) P C := by
  refine ⟨h.plen, fun i t c hi ht hc => ?_, fun j o x hj hx => ?_, by rw [ld_miss hs hk]; exact h.few⟩
  · by_cases e : i = m
    · subst e
      obtain rfl : t = s := Option.some.inj (ht.symm.trans hs)
      rw [hk] at hc; cases hc
    · exact h.has i t c (by omega) ht hc
  · obtain ⟨h1, h2⟩ := h.own j o x hj hx
    exact ⟨by omega, h2⟩

/-- The cells of the first k bytes of a row are laid. -/
structure SpMid (S : List (List UInt8)) (i p : Nat) (s : List UInt8) (C1 : List (Nat × Nat)) (ks : List UInt8) (C : List (Nat × Nat)) : Prop where
  len : C.length = C1.length
  done : ∀ c ∈ ks, ∃ x, C[p + c.toNat]? = some (i, x) ∧ S[x]? = some (s ++ [c])
  rest : ∀ j, (∀ c ∈ ks, j ≠ p + UInt8.toNat c) → C[j]? = C1[j]?
theorem SpMid.start (S : List (List UInt8)) (i p : Nat) (s : List UInt8) (C1 : List (Nat × Nat)) : SpMid S i p s C1 [] C1 := ⟨rfl, fun c hc => absurd hc List.not_mem_nil, fun j _ => rfl⟩
theorem SpMid.put {S : List (List UInt8)} {i p : Nat} {s : List UInt8} {C1 C : List (Nat × Nat)} {ks : List UInt8} (h : SpMid S i p s C1 ks C) {c : UInt8} {x : Nat} (hx : S[x]? = some (s ++ [c])) (hl : p + c.toNat < C1.length) : SpMid S i p s C1 (ks ++ [c]) (C.set (p + c.toNat) (i, x)) := by
  refine ⟨by rw [List.length_set]; exact h.len, fun d hd => ?_, fun j hj => ?_⟩
  · by_cases e : d = c
    · subst e
      exact ⟨x, List.getElem?_set_self (by rw [h.len]; exact hl), hx⟩
    · rw [List.mem_append, List.mem_singleton] at hd
      obtain ⟨y, h1, h2⟩ := h.done d (hd.resolve_right e)
      refine ⟨y, ?_, h2⟩
      rw [List.getElem?_set_ne (fun e2 => e (UInt8.toNat_inj.1 (by omega)))]
      exact h1
  · rw [List.getElem?_set_ne (Ne.symm (hj c (by simp)))]
    exact h.rest j fun d hd => hj d (by simp [hd])

/-- A list with free cells behind it. -/
def moreC (C : List (Nat × Nat)) (n : Nat) : List (Nat × Nat) := C ++ List.replicate (n - C.length) (0, 0)
theorem more_length (C : List (Nat × Nat)) (n : Nat) : (moreC C n).length = max C.length n := by unfold moreC; simp; omega
theorem more_at {C : List (Nat × Nat)} {n j o x : Nat} (h : (moreC C n)[j]? = some (o, x)) (hx : 0 < x) : C[j]? = some (o, x) := by
  unfold moreC at h
  by_cases hj : j < C.length
  · rwa [List.getElem?_append_left hj] at h
  · rw [List.getElem?_append_right (by omega)] at h
    have := List.eq_of_mem_replicate (List.mem_of_getElem? h)
    cases this
    omega
theorem more_old {C : List (Nat × Nat)} {n j : Nat} {r : Nat × Nat} (h : C[j]? = some r) : (moreC C n)[j]? = some r := by
  unfold moreC
  rw [List.getElem?_append_left (List.getElem?_eq_some_iff.1 h).1]; exact h

/-- One more row is laid. -/
theorem SpOk.row {us S : List (List UInt8)} {m : Nat} {P : List Nat} {C C' : List (Nat × Nat)} (h : SpOk us S m P C) (h0 : S[0]? = some []) {s : List UInt8} (hs : S[m]? = some s) {p n : Nat} (hne : kidsL us s ≠ [])
    (hf : FreeAt C (kidsL us s) p) (hp : p ≤ C.length) (hn : n ≤ p + 256) (hM : SpMid S m p s (moreC C n) (kidsL us s) C') : SpOk us S (m + 1) (P.set m p) C' := by
  have hml := (List.getElem?_eq_some_iff.1 hs).1
  have hnew : ∀ (c : UInt8), c ∈ kidsL us s → ∀ o x, C[p + c.toNat]? = some (o, x) → x = 0 := fun c hc o x hx => by
    have h1 := hf c hc
    rw [tk_in hx] at h1
    have : ¬ 0 < x := by simpa using h1
    omega
  refine ⟨by rw [List.length_set]; exact h.plen, fun i t c hi ht hc => ?_, fun j o x hj hx => ?_, ?_⟩
  · by_cases e : i = m
    · subst e
      obtain rfl : t = s := Option.some.inj (ht.symm.trans hs)
      obtain ⟨x, h1, h2⟩ := hM.done c hc
      exact ⟨p, x, List.getElem?_set_self (by rw [h.plen]; exact hml), h1, h2⟩
    · obtain ⟨q, x, h1, h2, h3⟩ := h.has i t c (by omega) ht hc
      refine ⟨q, x, by rw [List.getElem?_set_ne (Ne.symm e)]; exact h1, ?_, h3⟩
      rw [hM.rest _ fun d hd e2 => ?_]
      · exact more_old h2
      · rw [e2] at h2
        have hx := hnew d hd _ _ h2
        subst hx
        rw [h0] at h3
        simp at h3
  · by_cases e : ∃ c ∈ kidsL us s, j = p + UInt8.toNat c
    · obtain ⟨c, hc, rfl⟩ := e
      obtain ⟨y, h1, h2⟩ := hM.done c hc
      rw [h1] at hj
      cases hj
      exact ⟨by omega, s, p, c, hs, List.getElem?_set_self (by rw [h.plen]; exact hml), rfl, hc⟩
    · rw [hM.rest j fun c hc e2 => e ⟨c, hc, e2⟩] at hj
      obtain ⟨h1, t, q, c, h2, h3, h4, h5⟩ := h.own j o x (more_at hj hx) hx
      exact ⟨by omega, t, q, c, h2, by rw [List.getElem?_set_ne (by omega)]; exact h3, h4, h5⟩
  · rw [ld_hit hs hne, hM.len, more_length]
    have := h.few
    omega

/-- What is told of a state and a byte. -/
theorem SpOk.hit {us S : List (List UInt8)} {P : List Nat} {C : List (Nat × Nat)} (h : SpOk us S S.length P C) (hst : IsSt us S) {i : Nat} {s : List UInt8} (hs : S[i]? = some s) {c : UInt8} (hc : s ++ [c] ∈ S) : ∃ p x, P[i]? = some p ∧ C[p + c.toNat]? = some (i, x) ∧ S[x]? = some (s ++ [c]) := by
  refine h.has i s c (List.getElem?_eq_some_iff.1 hs).1 hs (kids_mem.2 ?_)
  rcases (hst.2 _).1 hc with h1 | h1
  · simp at h1
  · exact h1
theorem SpOk.miss {us S : List (List UInt8)} {P : List Nat} {C : List (Nat × Nat)} (h : SpOk us S S.length P C) (hst : IsSt us S) {i : Nat} {s : List UInt8} (hs : S[i]? = some s) {c : UInt8} (hc : s ++ [c] ∉ S) {p o x : Nat} (hp : P[i]? = some p) (hx : C[p + c.toNat]? = some (o, x)) : x = 0 ∨ o ≠ i := by
  by_cases h0 : x = 0
  · exact .inl h0
  · refine .inr fun e => ?_
    subst e
    obtain ⟨_, t, q, d, h1, h2, h3, h4⟩ := h.own _ _ _ hx (by omega)
    obtain rfl : t = s := Option.some.inj (h1.symm.trans hs)
    obtain rfl : q = p := Option.some.inj (h2.symm.trans hp)
    have : d = c := UInt8.toNat_inj.1 (by omega)
    subst this
    exact hc ((hst.2 _).2 (.inr (kids_mem.1 h4)))
/-- There are as many cells as states but the root. -/
theorem SpOk.least {us S : List (List UInt8)} {P : List Nat} {C : List (Nat × Nat)} (h : SpOk us S S.length P C) (hst : IsSt us S) (h0 : S[0]? = some []) : S.length ≤ C.length + 1 := by
  have hnd := slx_nodup hst.1
  have h1 : ((List.range (S.length - 1)).map (· + 1)).Nodup := by
    rw [List.Nodup, List.pairwise_map]
    exact List.nodup_range.imp fun {a b} hab e => hab (by omega)
  have := subset_length ((List.range (S.length - 1)).map (· + 1)) (C.map (·.2)) h1 fun x hx => by
    obtain ⟨y, hy, rfl⟩ := List.mem_map.1 hx
    rw [List.mem_range] at hy
    obtain ⟨q, hq⟩ : ∃ q, S[y + 1]? = some q := ⟨_, List.getElem?_eq_getElem (show y + 1 < S.length by omega)⟩
    rcases List.eq_nil_or_concat q with rfl | ⟨s, c, rfl⟩
    · have := rise_same hst.1 hq h0
      omega
    · rw [List.concat_eq_append] at hq
      have hm := List.mem_of_getElem? hq
      have hd := st_closed hst _ hm
      rw [List.dropLast_concat] at hd
      obtain ⟨i, hi⟩ := List.mem_iff_getElem?.1 hd
      obtain ⟨p, x, _, h2, h3⟩ := h.hit hst hi hm
      have e := rise_same hst.1 h3 hq
      subst e
      exact List.mem_map.2 ⟨_, List.mem_of_getElem? h2, rfl⟩
  simp at this
  omega
theorem SpOk.most {us S : List (List UInt8)} {m : Nat} {P : List Nat} {C : List (Nat × Nat)} (h : SpOk us S m P C) : C.length ≤ 256 * m := by
  have h1 := h.few
  have h2 := ld_le us S m
  omega
end Go.Proofs.YtjmlabggocfikaaGreat

namespace Go.Proofs.YtjmlabggocfikaaGreat
open Go.RowKit

/-- The cells of places. -/
def spV (n : Nat) : Value := .int .i32 (n : Int)
def spCells (P : List Nat) : List Value := P.map spV
theorem spCells_length (P : List Nat) : (spCells P).length = P.length := List.length_map _
theorem sp_info : (Tryz.prog.info? 133).map (fun i => (i.zero, i.size, i.bytes)) = some (some (.agg #[.int .i32 0, .int .i32 0]), 2, 8) := by kernel_rfl

/-- What is owned is a slice. -/
theorem owns_sl {w : World} {base size : Nat} {e : TypeId} {v : Value} {n : Nat} {xs : List Value} (h : w.ownsRow base e size v n xs) : ∃ a cap, v = .slice a n cap := by
  rcases h.2 with ⟨rfl, rfl⟩ | ⟨g, cap, cur, rfl, _⟩
  · exact ⟨_, _, rfl⟩
  · exact ⟨_, _, rfl⟩

/-- A table in block b, its places in block p; what it owns lies from 'base' on. -/
structure IsSp (w : World) (base b pb : Nat) (k : Option Addr) (P : List Nat) (C : List (Nat × Nat)) (v : Value) : Prop where
  head : w.heap[b]? = some (.cells #[.pointer k, .slice (some ⟨pb, 0, none⟩) P.length P.length, v] 89 (0, 0))
  row : w.heap[pb]? = some (.cells (spCells P).toArray 21 (0, 0))
  own : w.ownsRow base 133 2 v C.length (flCells C)
  bb : base ≤ b
  bp : base ≤ pb
  plen : P.length ≤ 4194304
  clen : C.length ≤ 1073741824
  pfit : ∀ p ∈ P, p ≤ 1073741824
  cfit : ∀ r ∈ C, r.1 ≤ 16777217 ∧ r.2 ≤ 16777217
theorem IsSp.lt {w : World} {base b pb : Nat} {k : Option Addr} {P : List Nat} {C : List (Nat × Nat)} {v : Value} (h : IsSp w base b pb k P C v) : b < w.heap.size := heap_lt h.head
theorem IsSp.ltp {w : World} {base b pb : Nat} {k : Option Addr} {P : List Nat} {C : List (Nat × Nat)} {v : Value} (h : IsSp w base b pb k P C v) : pb < w.heap.size := heap_lt h.row
theorem IsSp.below {w w' : World} {base b pb : Nat} {k : Option Addr} {P : List Nat} {C : List (Nat × Nat)} {v : Value} (h : IsSp w base b pb k P C v) (hb : Below w.heap.size w w') : IsSp w' base b pb k P C v :=
  ⟨(hb.block b h.lt).trans h.head, (hb.block pb h.ltp).trans h.row, tx_below h.own hb, h.bb, h.bp, h.plen, h.clen, h.pfit, h.cfit⟩
theorem IsSp.heap {w W : World} {base b pb : Nat} {k : Option Addr} {P : List Nat} {C : List (Nat × Nat)} {v : Value} (h : IsSp w base b pb k P C v) (e : W.heap = w.heap) : IsSp W base b pb k P C v :=
  ⟨by rw [e]; exact h.head, by rw [e]; exact h.row, by have := h.own; unfold World.ownsRow at *; rw [e]; exact this, h.bb, h.bp, h.plen, h.clen, h.pfit, h.cfit⟩
theorem IsSp.reads {w : World} {base b pb : Nat} {k : Option Addr} {P : List Nat} {C : List (Nat × Nat)} {v : Value} (h : IsSp w base b pb k P C v) : w.cell? ⟨b, 0, none⟩ = some (.pointer k) ∧ w.cell? ⟨b, 1, none⟩ = some (.slice (some ⟨pb, 0, none⟩) P.length P.length) ∧ w.cell? ⟨b, 2, none⟩ = some v := by
  refine ⟨?_, ?_, ?_⟩ <;> rw [Lib.cell_of_heap h.head] <;> rfl
theorem IsSp.place {w : World} {base b pb : Nat} {k : Option Addr} {P : List Nat} {C : List (Nat × Nat)} {v : Value} (h : IsSp w base b pb k P C v) {i p : Nat} (hp : P[i]? = some p) : p ≤ 1073741824 ∧ w.cell? ⟨pb, i, none⟩ = some (.int .i32 (p : Int)) := by
  refine ⟨h.pfit p (List.mem_of_getElem? hp), ?_⟩
  rw [Lib.cell_of_heap h.row]
  simp [spCells, hp, spV]
/-- A cell is read. -/
theorem IsSp.at {w : World} {base b pb : Nat} {k : Option Addr} {P : List Nat} {C : List (Nat × Nat)} {v : Value} (h : IsSp w base b pb k P C v) {j o x : Nat} (hj : C[j]? = some (o, x)) : ∃ g cap, v = .slice (some ⟨g, 0, none⟩) C.length cap ∧ g < w.heap.size ∧ o ≤ 16777217 ∧ x ≤ 16777217 ∧
    w.cell? ⟨g, j * 2, none⟩ = some (.int .i32 (o : Int)) ∧ w.cell? ⟨g, j * 2 + 1, none⟩ = some (.int .i32 (x : Int)) := by
  have hl := (List.getElem?_eq_some_iff.1 hj).1
  obtain ⟨g, cap, rfl, _⟩ := World.ownsRow.form h.own (by omega)
  have hf := h.cfit _ (List.mem_of_getElem? hj)
  refine ⟨g, cap, rfl, (h.own.lt g rfl).2, hf.1, hf.2, ?_, ?_⟩
  · rw [h.own.cellAt (j * 2) (by omega)]
    exact flCells_at C j 0 hj (by omega)
  · rw [h.own.cellAt (j * 2 + 1) (by omega)]
    exact flCells_at C j 1 hj (by omega)
theorem IsSp.sl {w : World} {base b pb : Nat} {k : Option Addr} {P : List Nat} {C : List (Nat × Nat)} {v : Value} (h : IsSp w base b pb k P C v) : ∃ a cap, v = .slice a C.length cap := owns_sl h.own

/-- A table of a set: its links, and the rows of all states. -/
structure IsSparse (w : World) (p : Option Addr) (us S : List (List UInt8)) (C : List (Nat × Nat)) : Prop where
  tab : ∃ base b pb k q y F P v, p = some ⟨b, 0, none⟩ ∧ IsSp w base b pb k P C v ∧ IsLink w k q y us S S.length F ∧ SpOk us S S.length P C
theorem IsSparse.below {w w' : World} {p : Option Addr} {us S : List (List UInt8)} {C : List (Nat × Nat)} (h : IsSparse w p us S C) (hb : Below w.heap.size w w') : IsSparse w' p us S C := by
  obtain ⟨base, b, pb, k, q, y, F, P, v, h1, h2, h3, h4⟩ := h.tab
  exact ⟨base, b, pb, k, q, y, F, P, v, h1, h2.below hb, h3.below hb, h4⟩
end Go.Proofs.YtjmlabggocfikaaGreat

namespace Go.Proofs.YtjmlabggocfikaaGreat
open Go.RowKit

/-- A type that no such table is made of. -/
structure OthS (T : TypeId) : Prop where
  tab : 89 ≠ T
  num : 21 ≠ T
  cel : 133 ≠ T
theorem IsSp.other {T : TypeId} {w w' : World} {base b pb : Nat} {k : Option Addr} {P : List Nat} {C : List (Nat × Nat)} {v : Value} (h : IsSp w base b pb k P C v) (ho : Other T w w') (hT : OthS T) : IsSp w' base b pb k P C v :=
  ⟨ho _ _ _ _ hT.tab h.head, ho _ _ _ _ hT.num h.row, ho.owns hT.cel h.own, h.bb, h.bp, h.plen, h.clen, h.pfit, h.cfit⟩
theorem IsSparse.other {T : TypeId} {w w' : World} {p : Option Addr} {us S : List (List UInt8)} {C : List (Nat × Nat)} (h : IsSparse w p us S C) (ho : Other T w w') (hT : OthS T) (hL : OthT T) : IsSparse w' p us S C := by
  obtain ⟨base, b, pb, k, q, y, F, P, v, h1, h2, h3, h4⟩ := h.tab
  exact ⟨base, b, pb, k, q, y, F, P, v, h1, h2.other ho hT, h3.other ho hL, h4⟩
end Go.Proofs.YtjmlabggocfikaaGreat

namespace Go.Proofs.YtjmlabggocfikaaGreat
open Go.RowKit

theorem splen_any {w : World} {base b pb : Nat} {k : Option Addr} {P : List Nat} {C : List (Nat × Nat)} {v : Value} (h : IsSp w base b pb k P C v) : Calls Tryz.prog 63 #[.pointer (some ⟨b, 0, none⟩)] w fun e w' => e = .returned (.int .i64 (P.length : Int)) ∧ w' = w := by
  have c1 := h.reads.2.1
  clear h
  go_enter Tryz.func63, Tryz.ntmps63
  go_wp2
  go_ret
  exact ⟨rfl, rfl⟩
/-- A nil table. -/
theorem splen_nil (w : World) : Calls Tryz.prog 63 #[.pointer none] w fun e w' => e = .returned (.int .i64 0) ∧ w' = w := by
  go_enter Tryz.func63, Tryz.ntmps63
  go_wp2
  go_ret
  exact ⟨rfl, rfl⟩
set_option maxHeartbeats 1000000 in
theorem sptaken_any {w : World} {base b pb : Nat} {k : Option Addr} {P : List Nat} {C : List (Nat × Nat)} {v : Value} (h : IsSp w base b pb k P C v) (j : Nat) : Calls Tryz.prog 85 #[.pointer (some ⟨b, 0, none⟩), .int .i64 (j : Int)] w fun e w' => e = .returned (.bool (tkC C j)) ∧ w' = w := by
  have c2 := h.reads.2.2
  by_cases hj : j < C.length
  · obtain ⟨o, x, hx⟩ : ∃ o x, C[j]? = some (o, x) := ⟨_, _, List.getElem?_eq_getElem hj⟩
    obtain ⟨g, cap, rfl, hg, ho, hxl, e0, e1⟩ := h.at hx
    rw [tk_in hx]
    clear h hx
    have g0 : (0 : Int) ≤ (j : Int) := by omega
    have g1 : (j : Int) < (C.length : Int) := by omega
    generalize C.length = m at *
    by_cases h0 : 0 < x
    · have q0 : (0 : Int) < (x : Int) := by omega
      rw [decide_eq_true h0]
      go_enter Tryz.func85, Tryz.ntmps85
      go_wp2
      go_ret
      exact ⟨rfl, rfl⟩
    · obtain rfl : x = 0 := by omega
      go_enter Tryz.func85, Tryz.ntmps85
      go_wp2
      go_ret
      exact ⟨rfl, rfl⟩
  · obtain ⟨a, cap, rfl⟩ := h.sl
    rw [tk_out (by omega)]
    clear h
    have g1 : ¬ (j : Int) < (C.length : Int) := by omega
    have g2 : decide ((j : Int) < (C.length : Int)) = false := decide_eq_false g1
    generalize C.length = m at *
    go_enter Tryz.func85, Tryz.ntmps85
    go_wp2
    go_ret
    exact ⟨rfl, rfl⟩
end Go.Proofs.YtjmlabggocfikaaGreat

namespace Go.Proofs.YtjmlabggocfikaaGreat
open Go.RowKit

/-- Of what is no state nothing is told. -/
def NoNext (w : World) (p : Option Addr) (s : Int) : Prop := ∀ W, W.heap = w.heap → ∃ n : Int, Calls Tryz.prog 63 #[.pointer p] W (fun e w' => e = .returned (.int .i64 n) ∧ w' = W) ∧ (s < 0 ∨ n ≤ s)
theorem nonext_nil (w : World) (s : Int) : NoNext w none s := fun W _ => ⟨0, splen_nil W, by omega⟩
theorem nonext_out {w : World} {base b pb : Nat} {k : Option Addr} {P : List Nat} {C : List (Nat × Nat)} {v : Value} (h : IsSp w base b pb k P C v) {s : Int} (hs : s < 0 ∨ (P.length : Int) ≤ s) : NoNext w (some ⟨b, 0, none⟩) s := fun W e => ⟨_, splen_any (h.heap e), hs⟩

set_option maxRecDepth 100000 in
set_option maxHeartbeats 1000000 in
theorem spnext_none {w : World} {p : Option Addr} {s : Int} (h : NoNext w p s) (c : UInt8) : Calls Tryz.prog 62 #[.pointer p, .int .i64 s, .int .u8 (c.toNat : Int)] w fun e w' => e = .returned (.tuple #[.int .i64 0, .bool false]) ∧ w' = w := by
  obtain ⟨n, HL0, hs⟩ := h w rfl
  have HL := Lib.hid HL0
  clear h HL0
  go_enter Tryz.func62, Tryz.ntmps62
  by_cases g0 : s < 0
  · have g1 : decide (s < 0) = true := decide_eq_true g0
    go_wp2
    go_ret2
    exact ⟨rfl, rfl⟩
  · have g1 : decide (s < 0) = false := decide_eq_false g0
    have g2 : n ≤ s := by omega
    have g3 : decide (n ≤ s) = true := decide_eq_true g2
    go_wp2_with fail
    refine HL.out.mono ?_
    rintro e w' ⟨rfl, rfl⟩
    go_wp2
    go_ret2
    exact ⟨rfl, rfl⟩
set_option maxRecDepth 100000 in
set_option maxHeartbeats 1000000 in
theorem spstep_none {w : World} {p : Option Addr} {s : Int} (h : NoNext w p s) (c : UInt8) : Calls Tryz.prog 41 #[.pointer p, .int .i64 s, .int .u8 (c.toNat : Int)] w fun e w' => e = .returned (.int .i64 0) ∧ w' = w := by
  have HN := Lib.hid (spnext_none h c)
  obtain ⟨n, HL0, hs⟩ := h w rfl
  have HL := Lib.hid HL0
  clear h HL0
  go_enter Tryz.func41, Tryz.ntmps41
  go_wp2_with fail
  go_loopw [1, 7, 8] (fun x _ _ wr => x = .int .i64 s ∧ wr = w) (fun _ _ _ _ => 0)
  case atStart => exact ⟨rfl, rfl⟩
  case round =>
    obtain ⟨rfl, hwr⟩ := hrel
    obtain rfl := hwr.symm
    clear hwr
    go_wp2_with fail
    refine HN.out.mono ?_
    rintro e w' ⟨rfl, hw'⟩
    obtain rfl := hw'.symm
    clear hw' HN
    by_cases g0 : s ≤ 0
    · have g1 : decide (s ≤ 0) = true := decide_eq_true g0
      go_wp2
      go_ret
      exact ⟨rfl, rfl⟩
    · have g1 : decide (s ≤ 0) = false := decide_eq_false g0
      have g2 : n ≤ s := by omega
      have g3 : decide (n ≤ s) = true := decide_eq_true g2
      go_wp2_with fail
      refine HL.out.mono ?_
      rintro e w' ⟨rfl, hw'⟩
      obtain rfl := hw'.symm
      clear hw'
      go_wp2
      go_ret
      exact ⟨rfl, rfl⟩

/-- A cell that is another one's, or free. -/
theorem spnext_miss {w : World} {base b pb : Nat} {k : Option Addr} {P : List Nat} {C : List (Nat × Nat)} {v : Value} (h : IsSp w base b pb k P C v) (i p : Nat) (hp : P[i]? = some p) (c : UInt8) (hm : ∀ o x, C[p + c.toNat]? = some (o, x) → x = 0 ∨ o ≠ i) : Calls Tryz.prog 62 #[.pointer (some ⟨b, 0, none⟩), .int .i64 (i : Int), .int .u8 (c.toNat : Int)] w fun e w' => e = .returned (.tuple #[.int .i64 0, .bool false]) ∧ w' = w := by
  have hil := (List.getElem?_eq_some_iff.1 hp).1
  have HL := Lib.hid (splen_any h)
  have HT := Lib.hid (sptaken_any h (p + c.toNat))
  have c1 := h.reads.2.1
  have c2 := h.reads.2.2
  obtain ⟨hpl, e0⟩ := h.place hp
  have hcl := c.toNat_lt
  have g0 : ¬ (i : Int) < 0 := by omega
  have g1 : decide ((i : Int) < 0) = false := decide_eq_false g0
  have g2 : ¬ (P.length : Int) ≤ (i : Int) := by omega
  have g3 : decide ((P.length : Int) ≤ (i : Int)) = false := decide_eq_false g2
  have g4 : (0 : Int) ≤ (i : Int) := by omega
  have g5 : (i : Int) < (P.length : Int) := by omega
  have w0 : IntKind.i64.wrap (p : Int) = (p : Int) := by rw [IntKind.wrap_i64]; omega
  have w1 : IntKind.i64.wrap ((p : Int) + (c.toNat : Int)) = ((p + c.toNat : Nat) : Int) := by rw [IntKind.wrap_i64]; omega
  cases hq : tkC C (p + c.toNat) with
  | false =>
    rw [hq] at HT
    clear h hp hm c2
    generalize P.length = n at *
    go_enter Tryz.func62, Tryz.ntmps62
    go_wp2_with fail
    refine HL.out.mono ?_
    rintro e w' ⟨rfl, hw'⟩
    obtain rfl := hw'.symm
    clear hw' HL
    go_wp2_with fail
    refine HT.out.mono ?_
    rintro e w' ⟨rfl, hw'⟩
    obtain rfl := hw'.symm
    clear hw' HT
    go_wp2
    go_ret2
    exact ⟨rfl, rfl⟩
  | true =>
    rw [hq] at HT
    have hlt : p + c.toNat < C.length := by
      rcases Nat.lt_or_ge (p + c.toNat) C.length with h1 | h1
      · exact h1
      · rw [tk_out h1] at hq; cases hq
    obtain ⟨o, x, hx⟩ : ∃ o x, C[p + c.toNat]? = some (o, x) := ⟨_, _, List.getElem?_eq_getElem hlt⟩
    have hne : o ≠ i := by
      rw [tk_in hx] at hq
      have : 0 < x := by simpa using hq
      rcases hm o x hx with h1 | h1
      · omega
      · exact h1
    obtain ⟨g, cap, rfl, hg, ho, hxl, e1, e2⟩ := h.at hx
    clear h hp hm hx hq
    have g6 : (0 : Int) ≤ ((p + c.toNat : Nat) : Int) := by omega
    have g7 : ((p + c.toNat : Nat) : Int) < (C.length : Int) := by omega
    have w2 : IntKind.i64.wrap (o : Int) = (o : Int) := by rw [IntKind.wrap_i64]; omega
    have g8 : ((o : Int) != (i : Int)) = true := by simp; omega
    have g9 : ¬ (o : Int) = (i : Int) := by omega
    have g10 : ((o : Int) == (i : Int)) = false := by simp; omega
    generalize P.length = n at *
    generalize C.length = m at *
    generalize p + c.toNat = q at *
    go_enter Tryz.func62, Tryz.ntmps62
    go_wp2_with fail
    refine HL.out.mono ?_
    rintro e w' ⟨rfl, hw'⟩
    obtain rfl := hw'.symm
    clear hw' HL
    go_wp2_with fail
    refine HT.out.mono ?_
    rintro e w' ⟨rfl, hw'⟩
    obtain rfl := hw'.symm
    clear hw' HT
    go_wp2
    go_ret2
    exact ⟨rfl, rfl⟩
theorem spnext_hit {w : World} {base b pb : Nat} {k : Option Addr} {P : List Nat} {C : List (Nat × Nat)} {v : Value} (h : IsSp w base b pb k P C v) (i p x : Nat) (hp : P[i]? = some p) (c : UInt8) (hx : C[p + c.toNat]? = some (i, x)) (h0 : 0 < x) : Calls Tryz.prog 62 #[.pointer (some ⟨b, 0, none⟩), .int .i64 (i : Int), .int .u8 (c.toNat : Int)] w fun e w' => e = .returned (.tuple #[.int .i64 (x : Int), .bool true]) ∧ w' = w := by
  have hil := (List.getElem?_eq_some_iff.1 hp).1
  have HL := Lib.hid (splen_any h)
  have HT := Lib.hid (sptaken_any h (p + c.toNat))
  rw [tk_in hx, decide_eq_true h0] at HT
  have c1 := h.reads.2.1
  have c2 := h.reads.2.2
  obtain ⟨hpl, e0⟩ := h.place hp
  have hcl := c.toNat_lt
  have hlt := (List.getElem?_eq_some_iff.1 hx).1
  have g0 : ¬ (i : Int) < 0 := by omega
  have g1 : decide ((i : Int) < 0) = false := decide_eq_false g0
  have g2 : ¬ (P.length : Int) ≤ (i : Int) := by omega
  have g3 : decide ((P.length : Int) ≤ (i : Int)) = false := decide_eq_false g2
  have g4 : (0 : Int) ≤ (i : Int) := by omega
  have g5 : (i : Int) < (P.length : Int) := by omega
  have w0 : IntKind.i64.wrap (p : Int) = (p : Int) := by rw [IntKind.wrap_i64]; omega
  have w1 : IntKind.i64.wrap ((p : Int) + (c.toNat : Int)) = ((p + c.toNat : Nat) : Int) := by rw [IntKind.wrap_i64]; omega
  obtain ⟨g, cap, rfl, hg, ho, hxl, e1, e2⟩ := h.at hx
  clear h hp hx
  have g6 : (0 : Int) ≤ ((p + c.toNat : Nat) : Int) := by omega
  have g7 : ((p + c.toNat : Nat) : Int) < (C.length : Int) := by omega
  have w2 : IntKind.i64.wrap (i : Int) = (i : Int) := by rw [IntKind.wrap_i64]; omega
  have w3 : IntKind.i64.wrap (x : Int) = (x : Int) := by rw [IntKind.wrap_i64]; omega
  generalize P.length = n at *
  generalize C.length = m at *
  generalize p + c.toNat = q at *
  go_enter Tryz.func62, Tryz.ntmps62
  go_wp2_with fail
  refine HL.out.mono ?_
  rintro e w' ⟨rfl, hw'⟩
  obtain rfl := hw'.symm
  clear hw' HL
  go_wp2_with fail
  refine HT.out.mono ?_
  rintro e w' ⟨rfl, hw'⟩
  obtain rfl := hw'.symm
  clear hw' HT
  go_wp2
  go_ret2
  exact ⟨rfl, rfl⟩
end Go.Proofs.YtjmlabggocfikaaGreat

namespace Go.Proofs.YtjmlabggocfikaaGreat
open Go.RowKit

theorem IsSparse.st {w : World} {p : Option Addr} {us S : List (List UInt8)} {C : List (Nat × Nat)} (h : IsSparse w p us S C) : IsSt us S := by
  obtain ⟨base, b, pb, k, q, y, F, P, v, h1, h2, h3, h4⟩ := h.tab
  exact h3.tr.st
theorem IsSparse.root {w : World} {p : Option Addr} {us S : List (List UInt8)} {C : List (Nat × Nat)} (h : IsSparse w p us S C) : S[0]? = some [] := by
  obtain ⟨base, b, pb, k, q, y, F, P, v, h1, h2, h3, h4⟩ := h.tab
  exact h3.root
theorem IsSparse.nodup {w : World} {p : Option Addr} {us S : List (List UInt8)} {C : List (Nat × Nat)} (h : IsSparse w p us S C) : S.Nodup := slx_nodup h.st.1
theorem IsSparse.mem {w : World} {p : Option Addr} {us S : List (List UInt8)} {C : List (Nat × Nat)} (h : IsSparse w p us S C) : [] ∈ S := st_root h.st
/-- How many cells there are. -/
theorem IsSparse.cells {w : World} {p : Option Addr} {us S : List (List UInt8)} {C : List (Nat × Nat)} (h : IsSparse w p us S C) : S.length ≤ C.length + 1 ∧ C.length ≤ 256 * ldN us S S.length ∧ C.length ≤ 1073741824 ∧ S.length ≤ 4194304 := by
  have hr := h.root
  have hst := h.st
  obtain ⟨base, b, pb, k, q, y, F, P, v, h1, h2, h3, h4⟩ := h.tab
  have := h2.plen
  rw [h4.plen] at this
  exact ⟨h4.least hst hr, h4.few, h2.clen, this⟩
theorem sps_len {w : World} {p : Option Addr} {us S : List (List UInt8)} {C : List (Nat × Nat)} (h : IsSparse w p us S C) : Calls Tryz.prog 63 #[.pointer p] w fun e w' => e = .returned (.int .i64 (S.length : Int)) ∧ w' = w := by
  obtain ⟨base, b, pb, k, q, y, F, P, v, rfl, h2, h3, h4⟩ := h.tab
  rw [← h4.plen]
  exact splen_any h2
theorem sps_nonext {w : World} {p : Option Addr} {us S : List (List UInt8)} {C : List (Nat × Nat)} (h : IsSparse w p us S C) {s : Int} (hs : s < 0 ∨ (S.length : Int) ≤ s) : NoNext w p s := by
  obtain ⟨base, b, pb, k, q, y, F, P, v, rfl, h2, h3, h4⟩ := h.tab
  exact nonext_out h2 (by rw [h4.plen]; exact hs)
theorem sps_next {w : World} {p : Option Addr} {us S : List (List UInt8)} {C : List (Nat × Nat)} (h : IsSparse w p us S C) (i : Nat) {s : List UInt8} (hs : S[i]? = some s) (c : UInt8) : Calls Tryz.prog 62 #[.pointer p, .int .i64 (i : Int), .int .u8 (c.toNat : Int)] w fun e w' =>
    ((s ++ [c] ∈ S → ∃ n : Nat, e = .returned (.tuple #[.int .i64 (n : Int), .bool true]) ∧ S[n]? = some (s ++ [c])) ∧ (s ++ [c] ∉ S → e = .returned (.tuple #[.int .i64 0, .bool false]))) ∧ w' = w := by
  have hst := h.st
  have hr := h.root
  have hil := (List.getElem?_eq_some_iff.1 hs).1
  obtain ⟨base, b, pb, k, q, y, F, P, v, rfl, h2, h3, h4⟩ := h.tab
  by_cases hm : s ++ [c] ∈ S
  · obtain ⟨p, x, hp, hx, hxs⟩ := h4.hit hst hs hm
    have h0 : 0 < x := by
      rcases Nat.eq_zero_or_pos x with e | e
      · subst e; rw [hr] at hxs; simp at hxs
      · exact e
    refine (spnext_hit h2 i p x hp c hx h0).mono ?_
    rintro e w' ⟨rfl, rfl⟩
    exact ⟨⟨fun _ => ⟨x, rfl, hxs⟩, fun hn => absurd hm hn⟩, rfl⟩
  · obtain ⟨p, hp⟩ : ∃ p, P[i]? = some p := ⟨_, List.getElem?_eq_getElem (by rw [h4.plen]; exact hil)⟩
    refine (spnext_miss h2 i p hp c fun o x hx => h4.miss hst hs hm hp hx).mono ?_
    rintro e w' ⟨rfl, rfl⟩
    exact ⟨⟨fun hn => absurd hn hm, fun _ => rfl⟩, rfl⟩

set_option maxRecDepth 100000 in
set_option maxHeartbeats 2000000 in
theorem sps_stepn {w : World} {p : Option Addr} {us S : List (List UInt8)} {C : List (Nat × Nat)} (h : IsSparse w p us S C) (i : Nat) {s : List UInt8} (hs : S[i]? = some s) (c : UInt8) :
    Calls Tryz.prog 41 #[.pointer p, .int .i64 (i : Int), .int .u8 (c.toNat : Int)] w fun e w' => ∃ n : Nat, e = .returned (.int .i64 (n : Int)) ∧ S[n]? = some (lgL S (s ++ [c])) ∧ Below w.heap.size w w' := by
  have HH := Lib.hid h
  have hSl := h.cells.2.2.2
  obtain ⟨base, b, pb, k, q, y, F, P, v, rfl, h2, h3, h4⟩ := h.tab
  have HL := Lib.hid h3
  have HSP := Lib.hid h2
  have hs0 := Lib.hid hs
  clear h h2 h3 h4 hs
  go_enter Tryz.func41, Tryz.ntmps41
  go_wp2_with fail
  go_loopw [1, 7, 8] (fun x _ _ wr => ∃ (j : Nat) (t : List UInt8), x = .int .i64 j ∧ Hid (S[j]? = some t) ∧ Hid (lgL S (s ++ [c]) = lgL S (t ++ [c])) ∧ Below w.heap.size w wr) (fun x _ _ _ => (RowKit.intOf x).toNat)
  case atStart => exact ⟨i, s, rfl, hs0, Lib.hid rfl, Below.refl _ _⟩
  case round =>
    clear hs0
    obtain ⟨j, t, rfl, ht, hg, hbe⟩ := hrel
    have hsz := hbe.size
    have hjl := (List.getElem?_eq_some_iff.1 ht.out).1
    have HN := Lib.hid (sps_next (HH.out.below hbe) j ht.out c)
    by_cases hm : t ++ [c] ∈ S
    · go_wp2_with fail
      refine HN.out.mono ?_
      rintro e w2 ⟨⟨h1, _⟩, hw2⟩
      obtain rfl := hw2.symm
      obtain ⟨n, rfl, hn⟩ := h1 hm
      have HE := Lib.hid (show S[n]? = some (lgL S (s ++ [c])) by rw [hg.out, lg_hit hm]; exact hn)
      have d2 := Lib.hid hbe
      clear h1 hw2 HN hn hm hbe hg ht
      go_wp2
      go_ret
      exact ⟨n, rfl, HE.out, d2.out⟩
    · by_cases h0 : j = 0
      · have e0 := (HL.out.zero ht.out).1 h0
        subst h0
        have HE := Lib.hid (show S[0]? = some (lgL S (s ++ [c])) by
          rw [hg.out, lg_miss hm, e0]; exact HL.out.root)
        go_wp2_with fail
        refine HN.out.mono ?_
        rintro e w2 ⟨⟨_, h1⟩, hw2⟩
        obtain rfl := hw2.symm
        obtain rfl := h1 hm
        have d2 := Lib.hid hbe
        clear h1 hw2 HN hm hbe hg ht e0
        go_wp2
        go_ret
        exact ⟨0, rfl, HE.out, d2.out⟩
      · have e0 : t ≠ [] := fun e => h0 ((HL.out.zero ht.out).2 e)
        have g1 : ¬ (j : Int) ≤ 0 := by omega
        have g2 : decide ((j : Int) ≤ 0) = false := decide_eq_false g1
        have g3 : ¬ (S.length : Int) ≤ (j : Int) := by omega
        have g4 : decide ((S.length : Int) ≤ (j : Int)) = false := decide_eq_false g3
        obtain ⟨a, a', hF, ha, _⟩ := HL.out.ok.at_ j t hjl ht.out
        have hlt := HL.out.less ha ht.out (fb_less e0)
        have HFl := Lib.hid (lkfail_any (HL.out.below hbe).has (j : Int))
        rw [flOf_in hF] at HFl
        have HLen := Lib.hid (sps_len (HH.out.below hbe))
        have c0 := (HSP.out.below hbe).reads.1
        have HE := Lib.hid (show lgL S (s ++ [c]) = lgL S (fbL S t ++ [c]) by
          rw [hg.out]; exact lg_step HL.out.tr.st c e0 hm)
        have ha2 := Lib.hid ha
        go_wp2_with fail
        refine HN.out.mono ?_
        rintro e w2 ⟨⟨_, h1⟩, hw2⟩
        obtain rfl := hw2.symm
        obtain rfl := h1 hm
        clear h1 hw2 HN hm hg ht e0 ha hF
        go_wp2_with fail
        refine HLen.out.mono ?_
        rintro e w2 ⟨rfl, hw2⟩
        obtain rfl := hw2.symm
        clear hw2 HLen
        go_wp2_with fail
        refine HFl.out.mono ?_
        rintro e w3 ⟨rfl, hb3⟩
        have d3 := Lib.hid (hbe.trans (hb3.mono hsz))
        clear hb3 HFl hbe hsz c0
        go_wp2
        exact ⟨⟨a, _, rfl, ha2, HE, d3.out⟩, by simp [RowKit.intOf]; omega⟩
/-- .. by the number of the state. -/
theorem sps_step {w : World} {p : Option Addr} {us S : List (List UInt8)} {C : List (Nat × Nat)} (h : IsSparse w p us S C) (i : Nat) {s : List UInt8} (hs : S[i]? = some s) (c : UInt8) :
    Calls Tryz.prog 41 #[.pointer p, .int .i64 (i : Int), .int .u8 (c.toNat : Int)] w fun e w' => e = .returned (.int .i64 (dnS S s c : Int)) ∧ Below w.heap.size w w' := by
  have hn := h.nodup
  refine (sps_stepn h i hs c).mono ?_
  rintro e w' ⟨n, rfl, h1, h2⟩
  rw [dn_is hn h1]
  exact ⟨rfl, h2⟩
end Go.Proofs.YtjmlabggocfikaaGreat

namespace Go.Proofs.YtjmlabggocfikaaGreat
open Go.RowKit

/-- An automaton of a set (whose block is y) behind a pointer, by a kind of table: its states. -/
structure IsAuto (w : World) (p y : Option Addr) (us S : List (List UInt8)) (kind : Int) : Prop where
  tab : ∃ b k q d z F, p = some ⟨b, 0, none⟩ ∧ w.heap[b]? = some (.cells #[.int .i64 kind, .pointer k, .pointer d, .pointer z] 68 (0, 0)) ∧ IsLink w k q y us S S.length F ∧
    (kind = 1 → ∃ t g pc L, d = some ⟨t, 0, none⟩ ∧ IsDense w t g pc us S L) ∧ (kind = 2 → ∃ C, IsSparse w z us S C)
  one : kind = 1 ∨ kind = 2 ∨ kind = 3
theorem IsAuto.below {w w' : World} {p y : Option Addr} {us S : List (List UInt8)} {kind : Int} (h : IsAuto w p y us S kind) (hb : Below w.heap.size w w') : IsAuto w' p y us S kind := by
  obtain ⟨⟨b, k, q, d, z, F, h1, h2, h3, h4, h5⟩, h6⟩ := h
  refine ⟨⟨b, k, q, d, z, F, h1, (hb.block b (heap_lt h2)).trans h2, h3.below hb, fun e => ?_, fun e => ?_⟩, h6⟩
  · obtain ⟨t, g, pc, L, e1, e2⟩ := h4 e
    exact ⟨t, g, pc, L, e1, e2.below hb⟩
  · obtain ⟨C, e1⟩ := h5 e
    exact ⟨C, e1.below hb⟩
theorem IsAuto.other {T : TypeId} {w w' : World} {p y : Option Addr} {us S : List (List UInt8)} {kind : Int} (h : IsAuto w p y us S kind) (ho : Other T w w') (hA : 68 ≠ T) (hT : OthT T) (hD : OthD T) (hS : OthS T) : IsAuto w' p y us S kind := by
  obtain ⟨⟨b, k, q, d, z, F, h1, h2, h3, h4, h5⟩, h6⟩ := h
  refine ⟨⟨b, k, q, d, z, F, h1, ho _ _ _ _ hA h2, h3.other ho hT, fun e => ?_, fun e => ?_⟩, h6⟩
  · obtain ⟨t, g, pc, L, e1, e2⟩ := h4 e
    exact ⟨t, g, pc, L, e1, e2.other ho hD⟩
  · obtain ⟨C, e1⟩ := h5 e
    exact ⟨C, e1.other ho hS hT⟩
theorem IsAuto.st {w : World} {p y : Option Addr} {us S : List (List UInt8)} {kind : Int} (h : IsAuto w p y us S kind) : IsSt us S := by
  obtain ⟨⟨b, k, q, d, z, F, h1, h2, h3, h4⟩, h6⟩ := h
  exact h3.tr.st
theorem IsAuto.root {w : World} {p y : Option Addr} {us S : List (List UInt8)} {kind : Int} (h : IsAuto w p y us S kind) : S[0]? = some [] := by
  obtain ⟨⟨b, k, q, d, z, F, h1, h2, h3, h4⟩, h6⟩ := h
  exact h3.root
theorem IsAuto.few {w : World} {p y : Option Addr} {us S : List (List UInt8)} {kind : Int} (h : IsAuto w p y us S kind) : S.length ≤ 16777217 := by
  obtain ⟨⟨b, k, q, d, z, F, h1, h2, h3, h4⟩, h6⟩ := h
  exact h3.tr.few.2.2
theorem IsAuto.pats {w : World} {p y : Option Addr} {us S : List (List UInt8)} {kind : Int} (h : IsAuto w p y us S kind) : IsPats w y us := by
  obtain ⟨⟨b, k, q, d, z, F, h1, h2, h3, h4⟩, h6⟩ := h
  obtain ⟨R, _, _, _, h⟩ := h3.tr
  exact h
theorem IsAuto.nodup {w : World} {p y : Option Addr} {us S : List (List UInt8)} {kind : Int} (h : IsAuto w p y us S kind) : S.Nodup := slx_nodup h.st.1
theorem IsAuto.mem {w : World} {p y : Option Addr} {us S : List (List UInt8)} {kind : Int} (h : IsAuto w p y us S kind) : [] ∈ S := st_root h.st

/-- What each table tells of any number. -/
theorem ds_stepz {w : World} {b g : Nat} {pc : Option Addr} {us S : List (List UInt8)} {L : List Nat} (h : IsDense w b g pc us S L) (s : Int) (c : UInt8) :
    Calls Tryz.prog 40 #[.pointer (some ⟨b, 0, none⟩), .int .i64 s, .int .u8 (c.toNat : Int)] w fun e w' => e = .returned (.int .i64 (auN S s c : Int)) ∧ Below w.heap.size w w' := by
  rcases au_in_out S s with ⟨i, rfl, t, ht⟩ | hs
  · rw [auN_in ht]
    refine (ds_step h i ht c).mono ?_
    rintro e w' ⟨rfl, rfl⟩
    exact ⟨rfl, Below.refl _ _⟩
  · rw [auN_out hs]
    refine (dnstep_none (ds_norow h hs) c).mono ?_
    rintro e w' ⟨rfl, rfl⟩
    exact ⟨rfl, Below.refl _ _⟩
theorem sps_stepz {w : World} {p : Option Addr} {us S : List (List UInt8)} {C : List (Nat × Nat)} (h : IsSparse w p us S C) (s : Int) (c : UInt8) :
    Calls Tryz.prog 41 #[.pointer p, .int .i64 s, .int .u8 (c.toNat : Int)] w fun e w' => e = .returned (.int .i64 (auN S s c : Int)) ∧ Below w.heap.size w w' := by
  rcases au_in_out S s with ⟨i, rfl, t, ht⟩ | hs
  · rw [auN_in ht]
    exact sps_step h i ht c
  · rw [auN_out hs]
    refine (spstep_none (sps_nonext h hs) c).mono ?_
    rintro e w' ⟨rfl, rfl⟩
    exact ⟨rfl, Below.refl _ _⟩
theorem lks_stepz {w : World} {k q p : Option Addr} {us S : List (List UInt8)} {F : List (Nat × Nat)} (h : IsLink w k q p us S S.length F) (s : Int) (c : UInt8) :
    Calls Tryz.prog 42 #[.pointer k, .int .i64 s, .int .u8 (c.toNat : Int)] w fun e w' => e = .returned (.int .i64 (auN S s c : Int)) ∧ Below w.heap.size w w' := by
  rcases au_in_out S s with ⟨i, rfl, t, ht⟩ | hs
  · rw [auN_in ht]
    refine (lkstep_in h i ht (List.getElem?_eq_some_iff.1 ht).1 c).mono ?_
    rintro e w' ⟨n, rfl, h1, h2⟩
    rw [dn_is (slx_nodup h.tr.st.1) h1]
    exact ⟨rfl, h2⟩
  · rw [auN_out hs]
    refine (lkstep_out h.has s (by rw [h.flen]; exact hs) c).mono ?_
    rintro e w' ⟨rfl, rfl⟩
    exact ⟨rfl, Below.refl _ _⟩
theorem ts_depthz {w : World} {q p : Option Addr} {us S : List (List UInt8)} (h : IsTrie w q p us S) (s : Int) :
    Calls Tryz.prog 46 #[.pointer q, .int .i64 s] w fun e w' => e = .returned (.int .i64 (auD S s : Int)) ∧ Below w.heap.size w w' := by
  rcases au_in_out S s with ⟨i, rfl, t, ht⟩ | hs
  · rw [auD_in ht]
    exact ts_depth h i ht
  · rw [auD_out hs]
    obtain ⟨R, h1, h2, _⟩ := h
    have := trdepth_any h1 s
    rw [rcOf_out (by rw [h2.1]; exact hs)] at this
    exact this
theorem aukind_any {w : World} {p y : Option Addr} {us S : List (List UInt8)} {kind : Int} (h : IsAuto w p y us S kind) : Calls Tryz.prog 39 #[.pointer p] w fun e w' => e = .returned (.int .i64 kind) ∧ w' = w := by
  obtain ⟨⟨b, k, q, d, z, F, rfl, h2, h3, h4⟩, h6⟩ := h
  have c0 : w.cell? ⟨b, 0, none⟩ = some (.int .i64 kind) := by rw [Lib.cell_of_heap h2]; rfl
  clear h2 h3 h4 h6
  go_enter Tryz.func39, Tryz.ntmps39
  go_wp2
  go_ret
  exact ⟨rfl, rfl⟩
theorem aukind_nil (w : World) : Calls Tryz.prog 39 #[.pointer none] w fun e w' => e = .returned (.int .i64 0) ∧ w' = w := by
  go_enter Tryz.func39, Tryz.ntmps39
  go_wp2
  go_ret
  exact ⟨rfl, rfl⟩
theorem aufalls_any {w : World} {p y : Option Addr} {us S : List (List UInt8)} {kind : Int} (h : IsAuto w p y us S kind) : ∃ k q F, IsLink w k q y us S S.length F ∧ Calls Tryz.prog 43 #[.pointer p] w fun e w' => e = .returned (.pointer k) ∧ w' = w := by
  obtain ⟨⟨b, k, q, d, z, F, rfl, h2, h3, h4⟩, h6⟩ := h
  refine ⟨k, q, F, h3, ?_⟩
  have c0 : w.cell? ⟨b, 1, none⟩ = some (.pointer k) := by rw [Lib.cell_of_heap h2]; rfl
  clear h2 h3 h4 h6
  go_enter Tryz.func43, Tryz.ntmps43
  go_wp2
  go_ret
  exact ⟨rfl, rfl⟩
theorem aufalls_nil (w : World) : Calls Tryz.prog 43 #[.pointer none] w fun e w' => e = .returned (.pointer none) ∧ w' = w := by
  go_enter Tryz.func43, Tryz.ntmps43
  go_wp2
  go_ret
  exact ⟨rfl, rfl⟩

theorem audepth_any {w : World} {p y : Option Addr} {us S : List (List UInt8)} {kind : Int} (h : IsAuto w p y us S kind) (s : Int) : Calls Tryz.prog 29 #[.pointer p, .int .i64 s] w fun e w' => e = .returned (.int .i64 (auD S s : Int)) ∧ Below w.heap.size w w' := by
  obtain ⟨k, q, F, h1, h2⟩ := aufalls_any h
  have HF := Lib.hid h2
  have HT := Lib.hid (lktrie_any h1.has)
  have HL := Lib.hid (ts_depthz h1.tr s)
  clear h h1 h2
  go_enter Tryz.func29, Tryz.ntmps29
  go_wp2_with fail
  refine HF.out.mono ?_
  rintro e w' ⟨rfl, rfl⟩
  go_wp2_with fail
  refine HT.out.mono ?_
  rintro e w' ⟨rfl, rfl⟩
  go_wp2_with fail
  refine HL.out.mono ?_
  rintro e w' ⟨rfl, hb⟩
  go_wp2
  go_ret
  exact ⟨rfl, hb⟩
theorem audepth_nil (s : Int) (w : World) : Calls Tryz.prog 29 #[.pointer none, .int .i64 s] w fun e w' => e = .returned (.int .i64 0) ∧ Below w.heap.size w w' := by
  have HF := Lib.hid (aufalls_nil w)
  have HT := Lib.hid (lktrie_any (HasLk.nil w))
  have hL := trdepth_any (w := w) (q := none) (p := none) (R := []) (.inl ⟨rfl, rfl⟩) s
  rw [rcOf_out (by simp; omega)] at hL
  have HL := Lib.hid hL
  clear hL
  go_enter Tryz.func29, Tryz.ntmps29
  go_wp2_with fail
  refine HF.out.mono ?_
  rintro e w' ⟨rfl, rfl⟩
  go_wp2_with fail
  refine HT.out.mono ?_
  rintro e w' ⟨rfl, rfl⟩
  go_wp2_with fail
  refine HL.out.mono ?_
  rintro e w' ⟨rfl, hb⟩
  go_wp2
  go_ret
  exact ⟨rfl, hb⟩
set_option maxHeartbeats 1000000 in
theorem austep_any {w : World} {p y : Option Addr} {us S : List (List UInt8)} {kind : Int} (h : IsAuto w p y us S kind) (s : Int) (c : UInt8) : Calls Tryz.prog 27 #[.pointer p, .int .i64 s, .int .u8 (c.toNat : Int)] w fun e w' => e = .returned (.int .i64 (auN S s c : Int)) ∧ Below w.heap.size w w' := by
  have HK := Lib.hid (aukind_any h)
  obtain ⟨⟨b, k, q, d, z, F, rfl, h2, h3, h4, h5⟩, h6⟩ := h
  have c1 : w.cell? ⟨b, 1, none⟩ = some (.pointer k) := by rw [Lib.cell_of_heap h2]; rfl
  have c2 : w.cell? ⟨b, 2, none⟩ = some (.pointer d) := by rw [Lib.cell_of_heap h2]; rfl
  have c3 : w.cell? ⟨b, 3, none⟩ = some (.pointer z) := by rw [Lib.cell_of_heap h2]; rfl
  have HL := Lib.hid (lks_stepz h3 s c)
  clear h2 h3
  rcases h6 with rfl | rfl | rfl
  · obtain ⟨t, g, pc, L, rfl, hd⟩ := h4 rfl
    have HD := Lib.hid (ds_stepz hd s c)
    clear h4 h5 hd HL
    go_enter Tryz.func27, Tryz.ntmps27
    go_wp2_with fail
    refine HK.out.mono ?_
    rintro e w' ⟨rfl, rfl⟩
    go_wp2_with fail
    refine HD.out.mono ?_
    rintro e w' ⟨rfl, hb⟩
    go_wp2
    go_ret
    exact ⟨rfl, hb⟩
  · obtain ⟨C, hd⟩ := h5 rfl
    have HD := Lib.hid (sps_stepz hd s c)
    clear h4 h5 hd HL
    go_enter Tryz.func27, Tryz.ntmps27
    go_wp2_with fail
    refine HK.out.mono ?_
    rintro e w' ⟨rfl, rfl⟩
    go_wp2_with fail
    refine HD.out.mono ?_
    rintro e w' ⟨rfl, hb⟩
    go_wp2
    go_ret
    exact ⟨rfl, hb⟩
  · clear h4 h5
    go_enter Tryz.func27, Tryz.ntmps27
    go_wp2_with fail
    refine HK.out.mono ?_
    rintro e w' ⟨rfl, rfl⟩
    go_wp2_with fail
    refine HL.out.mono ?_
    rintro e w' ⟨rfl, hb⟩
    go_wp2
    go_ret
    exact ⟨rfl, hb⟩
theorem austep_nil (s : Int) (c : UInt8) (w : World) : Calls Tryz.prog 27 #[.pointer none, .int .i64 s, .int .u8 (c.toNat : Int)] w fun e w' => e = .returned (.int .i64 0) ∧ w' = w := by
  have HK := Lib.hid (aukind_nil w)
  go_enter Tryz.func27, Tryz.ntmps27
  go_wp2_with fail
  refine HK.out.mono ?_
  rintro e w' ⟨rfl, rfl⟩
  go_wp2
  go_ret
  exact ⟨rfl, rfl⟩
end Go.Proofs.YtjmlabggocfikaaGreat

namespace Go.Proofs.YtjmlabggocfikaaGreat
open Go.RowKit

theorem dnnew_set {w : World} {p : Option Addr} {ws : List (List UInt8)} (h : IsPats w p (setL ws)) :
    Calls Tryz.prog 36 #[.pointer p] w fun e w' => ∃ b g pc S L, e = .returned (.pointer (some ⟨b, 0, none⟩)) ∧ IsDense w' b g pc (setL ws) S L ∧ Below w.heap.size w w' := dnnew_any h (set_asc ws) (pats_nodup h)
end Go.Proofs.YtjmlabggocfikaaGreat
