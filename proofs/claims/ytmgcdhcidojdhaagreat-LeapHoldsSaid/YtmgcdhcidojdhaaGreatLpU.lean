/-
  The law's 'runs': a loop over a stream in parts: walked.
-/
import Derived.Test.YtmgcdhcidojdhaaGreatLpR
import Derived.Test.YtmgcdhcidojdhaaGreatLpS
import Derived.Test.YtmgcdhcidojdhaaGreatBn12
import Derived.Test.YtmgcdhcidojdhaaGreatBn1
set_option linter.unusedSimpArgs false
set_option linter.unusedVariables false
namespace Go.Proofs.YtmgcdhcidojdhaaGreat
open Go.RowKit

/-- An append of a slice that is owned, or nil, to an own one. -/
theorem wpList_append_rs {P : Program} (w : World) {ops : Array Oper} {rest : List Oper} {o : Oper} {a : Act} {Q : Exit → Act → World → Prop} (hgd : o.guard = none) (s x : Operand) (t : TypeId)
    (ho : o.op = .call { callee := .builtin .append, args := #[s, x], argTypes := #[t, t] })
    (base : Nat) (e : TypeId) (i : TypeInfo) (z : Value) (size bytes : Nat) (ht : P.underlying t = some (.slice e)) (hi : P.info? e = some i) (hz : i.zero = some z)
    (hsize : i.size = size) (hby : i.bytes = bytes) (hzs : z.cells.size = size) (hsz : 0 < size)
    (v : Value) (n : Nat) (xs : List Value) (hs : a.eval s = v) (hown : w.ownsRow base e size v n xs)
    (base2 : Nat) (v2 : Value) (m : Nat) (ys : List Value) (hx : a.eval x = v2) (hown2 : w.ownsRow base2 e size v2 m ys) (h1 : ∀ u ∈ ys, u.oneCell' = true)
    (h63 : n + m ≤ maxLen) (hbytes : (n + m) * bytes ≤ 140737488355328) (hbase : base ≤ w.heap.size)
    (h : ∀ v' w', w'.ownsRow base e size v' (n + m) (xs ++ ys) → w.grownBy w' v.ownBlock → wpList P ops Q rest (a.put o.dst v') w') : wpList P ops Q (o :: rest) a w := by
  rcases hown2.2 with ⟨hv2, rfl⟩ | ⟨g, cap, cur, hv2, _⟩
  · obtain rfl : ys = [] := List.eq_nil_of_length_eq_zero (by rw [hown2.1, Nat.zero_mul])
    exact wpList_append_no w hgd s x t ho base e i size ht hi hsize v n xs hs hown (hx.trans hv2) (h v w (by simpa using hown) ⟨rfl, rfl, rfl, Nat.le_refl _, fun _ _ _ => rfl⟩)
  · exact wpList_append_own (w := w) hgd s x t ho base e i z size bytes ht hi hz hsize hby hzs hsz v n xs hs hown ⟨g, 0, none⟩ m cap ys (hx.trans hv2) hown2.1 (hown2.cells (g := g) (by rw [hv2]; rfl)) h1 h63 hbytes hbase (fun v' w' a b _ => h v' w' a b)

theorem lp_tmp4 {fn : Func} {t u v x : Tmp} (h : fn.results = #[.tmp t, .tmp u, .tmp v, .tmp x]) (tmps : Array Value) (P : Program) (w : World) :
    (results fn tmps).run P w = .ok (.tuple #[tmps.getD t undef, tmps.getD u undef, tmps.getD v undef, tmps.getD x undef]) w := by
  simp [results, h]

/-- The bytes of the first parts. -/
def flL (parts : List (List UInt8)) (j : Nat) : List UInt8 := (parts.take j).flatten
theorem flL_next {parts : List (List UInt8)} {j : Nat} {t : List UInt8} (h : parts[j]? = some t) : flL parts (j + 1) = flL parts j ++ t := by
  unfold flL
  rw [List.take_add_one, h]
  simp
theorem flL_all (parts : List (List UInt8)) : flL parts parts.length = parts.flatten := by
  unfold flL
  rw [List.take_length]
theorem flL_len {parts : List (List UInt8)} (h : ∀ t ∈ parts, t.length ≤ 20) : ∀ j, (flL parts j).length ≤ j * 20
  | 0 => by simp [flL]
  | j + 1 => by
    rcases Nat.lt_or_ge j parts.length with hl | hl
    · have e := flL_next (List.getElem?_eq_getElem hl)
      have := h _ (List.getElem_mem hl)
      have := flL_len h j
      rw [e, List.length_append]
      omega
    · have e : flL parts (j + 1) = flL parts j := by
        unfold flL
        rw [List.take_of_length_le (by omega), List.take_of_length_le (by omega)]
      have := flL_len h j
      rw [e]
      omega

/-- What runs tells: all is as one run over the whole stream. -/
def RetRuns (us : List (List UInt8)) (s : List UInt8) (skip : Bool) (w : World) (E : Ending) (w' : World) : Prop :=
  ∃ (a1 a2 : Option Addr) (c1 c2 : Nat) (rs1 rs2 : List Rc) (c : Nat), E = .returned (.tuple #[.slice a1 rs1.length c1, .slice a2 rs2.length c2, .int .i64 (c : Int), .bool true]) ∧ IsRecs w' a1 rs1 ∧ IsRecs w' a2 rs2 ∧ Goes us s skip 0 (evs rs1) c ∧ Rest us s skip c ∧ evs rs2 = evs rs1 ++ lastE us s skip c ∧ Below w.heap.size w w'

set_option maxRecDepth 100000 in
set_option maxHeartbeats 2000000 in
theorem lpruns_any {w : World} {y n ca more : Nat} {ap : Option Addr} {us parts : List (List UInt8)} (hset : IsSet w y us) (hp : Pats us) (hparts : IsStrs w ap n parts) (hn : n ≤ 10) (hpl : ∀ t ∈ parts, t.length ≤ 20) (hus : ∀ t ∈ us, 0 < t.length ∧ t.length ≤ 12) (hul : us.length ≤ 8) (skip : Bool) (hm : more ≤ 7) :
    Calls Tryz.prog 11 #[.pointer (some ⟨y, 0, none⟩), .slice ap n ca, .bool skip, .int .i64 (more : Int)] w (RetRuns us parts.flatten skip w) := by
  have hpn := hparts.1
  have HU : Hid (∀ t ∈ us, 0 < t.length ∧ t.length ≤ 1000000) := Lib.hid fun t h => ⟨(hus t h).1, by have := (hus t h).2; omega⟩
  have hm12 : mostL us ≤ 12 := most_le (fun t h => (hus t h).2)
  have HFL := Lib.hid (fun j => flL_len hpl j)
  have HPL := Lib.hid hpl
  have HN := Lib.hid (lpnew_any hset hp skip)
  have HP := Lib.hid hparts
  obtain ⟨K, hK⟩ : ∃ K, max (mostL us) 2 = K := ⟨_, rfl⟩
  have HKK := Lib.hid hK
  have wK : IntKind.i64.wrap ((K : Int) + (more : Int)) = ((K + more : Nat) : Int) := by rw [IntKind.wrap_i64]; omega
  have HKE := Lib.hid (fun (W : World) (bl : Nat) (h : IsLoop W bl us skip) => lpkeep_any h)
  rw [hK] at HKE
  obtain ⟨i0, hi, hz0, hz1, hz2⟩ := info_parts rec_info
  have hKl : 1 ≤ K + more ∧ K + more ≤ 65536 := by omega
  clear hset hp hparts hpl hus hK hm12
  go_enter Tryz.func11, Tryz.ntmps11
  go_wp2_with fail
  refine HN.out.mono ?_
  rintro E w1 ⟨bl, rfl, hL, hb1⟩
  have HL := Lib.hid hL
  have HB1 := Lib.hid hb1
  have HK1 := Lib.hid (HKE.out w1 bl hL)
  clear hL hb1 HN HKE
  go_wp2_with fail
  refine HK1.out.mono ?_
  rintro E w' ⟨rfl, hw⟩
  obtain rfl := hw.symm
  clear hw HK1
  obtain ⟨keep, hkp⟩ : ∃ keep, K + more = keep := ⟨_, rfl⟩
  rw [hkp] at wK hKl
  have wKs : (K : Int) + (more : Int) = (keep : Int) := by omega
  have HCN := Lib.hid (canew_any keep w1 hKl.1 hKl.2)
  have HKP : Hid (max (mostL us) 2 ≤ keep) := Lib.hid (by rw [HKK.out]; omega)
  go_wp2_with fail
  try rw [wKs]
  refine HCN.out.mono ?_
  rintro E w2 ⟨rfl, hc2, hs2, hb2⟩
  obtain ⟨b, hb⟩ : ∃ b, w1.heap.size = b := ⟨_, rfl⟩
  rw [hb] at hc2 hs2 hb2 ⊢
  have HC2 := Lib.hid hc2
  have HSB := Lib.hid hb
  have hs2 : w2.heap.size = b + 1 := hs2
  have HB2 : Hid (Below w1.heap.size w1 w2) := Lib.hid (by rw [hb]; exact hb2)
  have HS2 := Lib.hid hs2
  clear hc2 hb2 HCN hb hs2
  go_wp2
  go_loopw [15, 16, 17] (fun v t i wr => ∃ (j c d : Nat) (rs : List Rc), j ≤ n ∧ i = .int .i64 (j : Int) ∧ t = .int .i64 (c : Int) ∧ c ≤ (flL parts j).length ∧ Hid (IsCarry wr (b + 1) b keep (flL parts j) d ∧ d ≤ c ∧ wr.ownsRow (b + 1) 45 4 v rs.length (rcCells rs) ∧ (∀ x ∈ rs, IdsAt wr x) ∧ Goes us (flL parts j) skip 0 (evs rs) c ∧ Rest us (flL parts j) skip c ∧ But (b + 1) b w2 wr)) (fun _ _ i _ => n - (RowKit.intOf i).toNat)
  case atStart => exact ⟨0, 0, 0, [], Nat.zero_le _, rfl, rfl, Nat.zero_le _, Lib.hid ⟨HC2.out, Nat.le_refl _, World.ownsRow_nil _ _ _ _, fun x hx => (by cases hx), rfl, .inl (by simp [flL]), But.refl _ _ _⟩⟩
  case round =>
    obtain ⟨j, c, d, rs, hj, rfl, rfl, hcl, HR⟩ := hrel
    obtain ⟨W1, hW1⟩ : ∃ W1, W1 = wr := ⟨_, rfl⟩
    subst hW1
    have HBW : Hid (Below w1.heap.size w1 W1 ∧ Below w.heap.size w W1) := Lib.hid (by
      have h := HB2.out.trans ((HR.out.2.2.2.2.2.2.below (by omega)).mono (by have := HSB.out; omega))
      exact ⟨h, HB1.out.trans (h.mono HB1.out.size)⟩)
    by_cases hlt : j < n
    · have u0 : (0 : Int) ≤ (j : Int) := by omega
      have u1 : (j : Int) < (n : Int) := by omega
      obtain ⟨b9, off9, rfl, t, hf, hct⟩ := str_at HP.out HBW.out.2 j hlt
      have htl := HPL.out t (List.mem_of_getElem? hf)
      have hnx := flL_next hf
      have hfl := HFL.out j
      have hfl2 := HFL.out (j + 1)
      have HNX := Lib.hid hnx
      have HAD := Lib.hid (lpadd_any HR.out.1 t (by omega))
      rw [← hnx] at HAD
      have hlen : (flL parts j).length ≤ (flL parts (j + 1)).length := by rw [hnx, List.length_append]; omega
      clear hnx hf
      go_wp2_with fail
      refine HAD.out.mono ?_
      rintro E w4 ⟨rfl, ⟨hc4, hb4⟩, hk4⟩
      obtain ⟨v0, hcv⟩ := HR.out.1.carV
      obtain ⟨cs0, m0, hty⟩ := hcv.typ
      have hB4 : Below w1.heap.size w1 w4 := HBW.out.1.trans ((hb4.below (by omega)).mono (by have := HSB.out; omega))
      have HR4 : Hid (W1.heap.size ≤ w4.heap.size ∧ w4.ownsRow (b + 1) 45 4 u15 rs.length (rcCells rs) ∧ (∀ x ∈ rs, IdsAt w4 x) ∧ Goes us (flL parts (j + 1)) skip 0 (evs rs) c ∧ But (b + 1) b w2 w4) := Lib.hid ⟨hb4.size, (Keep.kept hk4 hty (by decide) (by decide)).owns HR.out.2.2.1, fun x hx => (HR.out.2.2.2.1 x hx).keep (Keep.kept hk4 hty (by decide) (by decide)), by rw [HNX.out]; exact HR.out.2.2.2.2.1.more, HR.out.2.2.2.2.2.2.trans hb4⟩
      have HRN := Lib.hid (lprun_all HL.out hB4 (by have := HSB.out; omega) hc4 HKP.out (by omega) HU.out (by omega) c HR.out.2.1 (by omega))
      have HTY4 : Hid (∃ cs m, w4.heap[b]? = some (.cells cs 82 m)) := Lib.hid (by obtain ⟨v4, h4⟩ := hc4.carV; exact h4.typ)
      clear hc4 hb4 hk4 hcv hty hB4 HAD HR hct HBW
      go_wp2_with fail
      refine HRN.out.mono ?_
      rintro E w5 ⟨v5, rs5, c5, d5, rfl, hown5, hids5, hg5, hr5, hcc5, hcl5, hd5, hc5, hb5⟩
      have hle4 : b + 1 ≤ w4.heap.size := by have := HR4.out.2.2.2.2.size; have := HS2.out; omega
      obtain ⟨cs4, m4, hty4⟩ := HTY4.out
      have hki : Keep 3 w4 w5 := Keep.but hb5 hty4 (by decide)
      have hkr : Keep 45 w4 w5 := Keep.but hb5 hty4 (by decide)
      have hrc := hkr.owns HR4.out.2.1
      have HI5 : Hid (∀ x ∈ rs ++ rs5, IdsAt w5 x) := Lib.hid fun x hx => by
        rcases List.mem_append.1 hx with hx | hx
        · exact (HR4.out.2.2.1 x hx).keep hki
        · exact hids5 x hx
      have HG5 : Hid (Goes us (flL parts (j + 1)) skip 0 (evs (rs ++ rs5)) c5) := Lib.hid (by rw [evs_app]; exact HR4.out.2.2.2.1.app hg5)
      have hgl := HG5.out.le (Nat.zero_le _)
      rw [evs_length, List.length_append] at hgl
      have hsm : rs.length + rs5.length ≤ 1000 := by omega
      have hsm2 : (rs.length + rs5.length) * 48 ≤ 140737488355328 := by omega
      have hsz5 := hb5.size
      have HC5 := Lib.hid (And.intro hc5 (And.intro hr5 (But.trans HR4.out.2.2.2.2 ⟨hb5.os, hb5.tape, hb5.output, hb5.size, fun k hk hkb => hb5.block k (by omega) hkb⟩)))
      clear hc5 hb5 hr5 hids5 hg5 hki hkr hty4 HRN HTY4 HR4
      go_wp2_with (at_builtin; refine wpList_append_rs w5 rfl _ _ 34 rfl (b + 1) 45 i0 (.agg #[.int .i64 0, .int .i64 0, .int .i64 0, .slice none 0 0]) 4 48 Tryz.underlying34 hi hz0 hz1 hz2 rfl (by decide) _ _ _ rfl hrc w4.heap.size _ _ _ rfl hown5 rc_one ?c3 ?c4 ?c5 ?_)
      case c3 => unfold maxLen; omega
      case c4 => omega
      case c5 => omega
      intro v' w6 hown' hgrow
      rw [← rcCells_app, ← List.length_append] at hown'
      have HR6 : Hid (IsCarry w6 (b + 1) b keep (flL parts (j + 1)) d5 ∧ d5 ≤ c5 ∧ w6.ownsRow (b + 1) 45 4 v' (rs ++ rs5).length (rcCells (rs ++ rs5)) ∧ (∀ x ∈ rs ++ rs5, IdsAt w6 x) ∧ Goes us (flL parts (j + 1)) skip 0 (evs (rs ++ rs5)) c5 ∧ Rest us (flL parts (j + 1)) skip c5 ∧ But (b + 1) b w2 w6) := Lib.hid (by
        refine ⟨?_, hd5, hown', fun x hx => (HI5.out x hx).keep (Keep.grown hrc hgrow (by decide)), HG5.out, HC5.out.2.1, ?_⟩
        · obtain ⟨v0, hcv⟩ := HC5.out.1.carV
          obtain ⟨cs, m, hty⟩ := hcv.typ
          refine (hcv.same hgrow.size ?_ (fun g hgg => ?_)).car
          · rw [Keep.grown hrc hgrow (T := 82) (by decide) b _ _ hty]; exact hty.symm
          · obtain ⟨_, _, _, _, _, gone, _, _, hown⟩ := hcv
            rcases hown.2 with ⟨rfl, _⟩ | ⟨g', cap, cur, rfl, _, hd, _⟩
            · simp [Value.ownBlock] at hgg
            · simp only [Value.ownBlock, Option.some.injEq] at hgg
              subst hgg
              rw [Keep.grown hrc hgrow (T := 5) (by decide) g' _ _ hd]; exact hd.symm
        · exact HC5.out.2.2.trans ⟨hgrow.os, hgrow.tape, hgrow.output, hgrow.size, fun k hk hkb => hgrow.block k (by omega) (fun e => by have := (hrc.lt k e.symm).1; omega)⟩)
      clear hown' hgrow hrc HI5 HG5 HC5 hown5
      go_wp2
      exact ⟨⟨j + 1, c5, d5, rs ++ rs5, by omega, by go_num, rfl, hcl5, HR6⟩, by simp [RowKit.intOf]; omega⟩
    · obtain rfl : j = n := by omega
      have u1 : ¬ (j : Int) < (j : Int) := by omega
      have hfa : flL parts j = parts.flatten := by rw [← hpn]; exact flL_all parts
      have hsl := HFL.out j
      rw [hfa] at HR hcl hsl
      generalize parts.flatten = s at *
      obtain ⟨a1, c1, rfl, hrecs⟩ := owns_recs HR.out.2.2.1 HR.out.2.2.2.1
      have HRE := Lib.hid hrecs
      have hgl := HR.out.2.2.2.2.1.le (Nat.zero_le _)
      rw [evs_length] at hgl
      have hrl : rs.length ≤ 1000 := by omega
      have hrl2 : (0 + rs.length) * 48 ≤ 140737488355328 := by omega
      have hrl3 : (rs.length + 1) * 48 ≤ 140737488355328 := by omega
      have hrl4 : rs.length + 1 ≤ maxLen := by unfold maxLen; omega
      have hmade := World.ownsRow_made (base := W1.heap.size) (e := 45) (size := 4) W1 #[] 0 (Nat.le_refl _) (by unfold maxLen; omega) rfl
      have hkal := (Below.refl W1.heap.size W1).alloc (Nat.le_refl _) (.cells #[] 45)
      have hout := (Keep.below hkal (T := 45)).owns HR.out.2.2.1
      have HKA := Lib.hid hkal
      clear hrecs hkal
      go_wp2_with (at_builtin; refine wpList_append_rs (W1.alloc (.cells #[] 45)) rfl _ _ 34 rfl W1.heap.size 45 i0 (.agg #[.int .i64 0, .int .i64 0, .int .i64 0, .slice none 0 0]) 4 48 Tryz.underlying34 hi hz0 hz1 hz2 rfl (by decide) _ _ _ rfl hmade (b + 1) _ _ _ rfl hout rc_one ?c3 ?c4 ?c5 ?_)
      case c3 => unfold maxLen; omega
      case c4 => omega
      intro v' w4 hown' hgrow
      have hB4 : Below W1.heap.size W1 w4 := HKA.out.grown hgrow (by simp) (fun j hj => (hmade.lt j hj).1)
      have HI4 : Hid (w4.ownsRow W1.heap.size 45 4 v' rs.length (rcCells rs) ∧ (∀ x ∈ rs, IdsAt w4 x) ∧ IsCarry w4 (b + 1) b keep s d ∧ d ≤ c ∧ Goes us s skip 0 (evs rs) c ∧ Rest us s skip c ∧ IsRecs w4 a1 rs) := Lib.hid ⟨hown', fun x hx => (HR.out.2.2.2.1 x hx).keep (.below hB4), HR.out.1.below hB4, HR.out.2.1, HR.out.2.2.2.2.1, HR.out.2.2.2.2.2.1, HRE.out.below hB4⟩
      have HL4 : Hid (IsLoop w4 bl us skip) := Lib.hid (HL.out.below (HBW.out.1.trans (hB4.mono HBW.out.1.size)))
      have HB4 := Lib.hid hB4
      have HC1 := Lib.hid HR.out.1
      clear hown' hgrow hmade hout hB4 HR HKA
      by_cases hlt2 : c < s.length
      · have u2 : (c : Int) < (s.length : Int) := by omega
        have HLA := Lib.hid (lplast_any HL4.out HI4.out.2.2.1 HKP.out (by omega) HU.out (by omega) c (by have := HI4.out.2.2.2.1; omega) hlt2)
        have hfin : finR us s skip c = lastR us s skip c := by
          rcases HI4.out.2.2.2.2.2.1 with h | h
          · omega
          · exact if_pos h
        have hlst : lastE us s skip c = [finR us s skip c] := by
          unfold lastE
          rw [if_pos hlt2, hfin]
        have HLS := Lib.hid hlst
        clear hfin hlst
        go_wp2_with fail
        refine HLA.out.mono ?_
        rintro E w5 ⟨⟨⟨k, n', r, ids⟩, aa, cc⟩, rfl, hxR, hid, hb5⟩
        dsimp only at hxR hid
        have HXR := Lib.hid hxR
        dsimp only [Rc.val, Rc.sl]
        have hB6 := (Below.refl w5.heap.size w5).alloc (Nat.le_refl _) (.cells #[.int .i64 (k : Int), .int .i64 (n' : Int), .int .i64 (r : Int), .slice aa ids.length cc] 45)
        have hX6 := heap_alloc_new w5 (.cells #[.int .i64 (k : Int), .int .i64 (n' : Int), .int .i64 (r : Int), .slice aa ids.length cc] 45)
        obtain ⟨w6, hw6⟩ : ∃ w6, w5.alloc (.cells #[.int .i64 (k : Int), .int .i64 (n' : Int), .int .i64 (r : Int), .slice aa ids.length cc] 45) = w6 := ⟨_, rfl⟩
        rw [hw6] at hX6 hB6
        have hb46 := hb5.trans (hB6.mono hb5.size)
        obtain ⟨k0, k1, k2, k3⟩ := rec_reads hX6
        have hNew := heap_alloc_new w6 (.cells #[.int .i64 (k : Int), .int .i64 (n' : Int), .int .i64 (r : Int), .slice aa ids.length cc] 45)
        have hB7 := (Below.refl w6.heap.size w6).alloc (Nat.le_refl _) (.cells #[.int .i64 (k : Int), .int .i64 (n' : Int), .int .i64 (r : Int), .slice aa ids.length cc] 45)
        have hb47 := hb46.trans (hB7.mono hb46.size)
        have hrc := (Keep.below hb47 (T := 45)).owns HI4.out.1
        have HB47 := Lib.hid hb47
        have HID := Lib.hid ((hid.keep (.below hB6)).keep (.below hB7))
        have hs47 := hb47.size
        have hs4 := HB4.out.size
        have hg5 := Nat.le_trans hs4 hs47
        clear hb46 hb47 hB7 hB6 hid hb5 hX6 hxR HLA
        go_wp2_with (at_builtin; (try rw [hw6]); refine wpList_append_own _ rfl _ _ 34 rfl W1.heap.size 45 i0 (.agg #[.int .i64 0, .int .i64 0, .int .i64 0, .slice none 0 0]) 4 48 Tryz.underlying34 hi hz0 hz1 hz2 rfl (by decide) _ _ _ rfl hrc ⟨w6.heap.size, 0, none⟩ 1 1 (Rc.cells ⟨⟨k, n', r, ids⟩, aa, cc⟩) rfl rfl ?g1 ?g2 ?g3 ?g4 ?g5 ?_)
        case g1 => first | exact rec_news (x := ⟨⟨k, n', r, ids⟩, aa, cc⟩) hNew | exact fun j u hj => hj
        case g2 =>
          intro u hu
          simp [Rc.cells, Rc.sl] at hu
          rcases hu with rfl | rfl | rfl | rfl <;> rfl
        case g3 => exact hrl4
        case g4 => exact hrl3
        case g5 => exact hg5
        intro v'' w8 hown' hgrow _
        have hcl : rcCells (rs ++ [⟨⟨k, n', r, ids⟩, aa, cc⟩]) = rcCells rs ++ Rc.cells ⟨⟨k, n', r, ids⟩, aa, cc⟩ := by rw [rcCells_app, rcCells_one]
        have hll : (rs ++ [(⟨⟨k, n', r, ids⟩, aa, cc⟩ : Rc)]).length = rs.length + 1 := by simp
        rw [← hcl, ← hll] at hown'
        have hki : Keep 3 w4 w8 := (Keep.below HB47.out).trans (Keep.grown hrc hgrow (by decide))
        have hki2 := Keep.grown hrc hgrow (T := 3) (by decide)
        have h8 : Below W1.heap.size W1 w8 := ((HB4.out.trans (HB47.out.mono hs4))).grown hgrow hg5 (fun j hj => (hrc.lt j hj).1)
        obtain ⟨a2, c2, rfl, hrec2⟩ := owns_recs hown' (fun x hx => by
          rcases List.mem_append.1 hx with hx | hx
          · exact (HI4.out.2.1 x hx).keep hki
          · rw [List.mem_singleton.1 hx]
            exact HID.out.keep hki2)
        have HS8 := Lib.hid (caseen_any (HC1.out.below h8))
        have HF : Hid (IsRecs w8 a1 rs ∧ IsRecs w8 a2 (rs ++ [⟨⟨k, n', r, ids⟩, aa, cc⟩]) ∧ Below w.heap.size w w8) := Lib.hid ⟨HRE.out.below h8, hrec2, HBW.out.2.trans (h8.mono HBW.out.2.size)⟩
        have HEV : Hid (evs (rs ++ [⟨⟨k, n', r, ids⟩, aa, cc⟩]) = evs rs ++ lastE us s skip c) := Lib.hid (by
          rw [evs_app, HLS.out, ← HXR.out]
          rfl)
        clear hown' hgrow hcl hll hki hki2 h8 hrec2 hrc HID
        go_wp2_with fail
        refine HS8.out.mono ?_
        rintro E w' ⟨rfl, hw⟩
        obtain rfl := hw.symm
        clear hw HS8
        have htt : (true == true) = true := rfl
        go_wp2
        refine bodyPost_ret (lp_tmp4 rfl _ _ _) rfl ?_
        exact ⟨a1, a2, c1, c2, rs, rs ++ [⟨⟨k, n', r, ids⟩, aa, cc⟩], c, by rw [List.length_append]; rfl, HF.out.1, HF.out.2.1, HI4.out.2.2.2.2.1, HI4.out.2.2.2.2.2.1, HEV.out, HF.out.2.2⟩
      · have u2 : ¬ (c : Int) < (s.length : Int) := by omega
        have HLA := Lib.hid (lplast_no (p := some ⟨bl, 0, none⟩) (k := .pointer (some ⟨b, 0, none⟩)) (e := (c : Int)) (w := w4) (fun W hW => lptail_far (HL4.out.below hW) ⟨_, rfl⟩ (caseen_any (HI4.out.2.2.1.below hW)) (c : Int) (.inr (by omega))))
        go_wp2_with fail
        refine HLA.out.mono ?_
        rintro E w5 ⟨rfl, hb5⟩
        have hB6 := (Below.refl w5.heap.size w5).alloc (Nat.le_refl _) (.cells #[.int .i64 0, .int .i64 0, .int .i64 0, .slice none 0 0] 45)
        have hb46 := hb5.trans (hB6.mono hb5.size)
        have HS6 := Lib.hid (caseen_any (HI4.out.2.2.1.below hb46))
        obtain ⟨a2, c2, rfl, hrec2⟩ := owns_recs HI4.out.1 HI4.out.2.1
        have HF : Hid (IsRecs (w5.alloc (.cells #[.int .i64 0, .int .i64 0, .int .i64 0, .slice none 0 0] 45)) a1 rs ∧ IsRecs (w5.alloc (.cells #[.int .i64 0, .int .i64 0, .int .i64 0, .slice none 0 0] 45)) a2 rs ∧ Below w.heap.size w (w5.alloc (.cells #[.int .i64 0, .int .i64 0, .int .i64 0, .slice none 0 0] 45))) := Lib.hid ⟨HI4.out.2.2.2.2.2.2.below hb46, hrec2.below hb46, by
          have h := HB4.out.trans (hb46.mono HB4.out.size)
          exact HBW.out.2.trans (h.mono HBW.out.2.size)⟩
        have hlst : lastE us s skip c = [] := if_neg hlt2
        have HLS := Lib.hid hlst
        clear hb5 hB6 hb46 HLA hrec2 hlst
        go_wp2_with fail
        refine HS6.out.mono ?_
        rintro E w' ⟨rfl, hw⟩
        obtain rfl := hw.symm
        clear hw HS6
        have hff : (false == false) = true := rfl
        go_wp2
        refine bodyPost_ret (lp_tmp4 rfl _ _ _) rfl ?_
        exact ⟨a1, a2, c1, c2, rs, rs, c, rfl, HF.out.1, HF.out.2.1, HI4.out.2.2.2.2.1, HI4.out.2.2.2.2.2.1, by rw [HLS.out, List.append_nil], HF.out.2.2⟩
end Go.Proofs.YtmgcdhcidojdhaaGreat
