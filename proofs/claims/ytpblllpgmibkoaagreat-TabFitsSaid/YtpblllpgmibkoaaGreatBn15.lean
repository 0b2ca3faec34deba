/-
  Texts put together: TbX, StepTo, TrF, LkR, TrLt, LkRs, ClRh, ClRb.
-/
import Derived.Test.YtpblllpgmibkoaaGreatTbU
import Derived.Test.YtpblllpgmibkoaaGreatTbP
import Derived.Test.YtpblllpgmibkoaaGreatBn2
import Derived.Lib.QuietBelow
import Derived.Test.YtpblllpgmibkoaaGreatBn6
import Derived.Test.YtpblllpgmibkoaaGreatBn4
import Derived.Deep.AppendLies
import Derived.Test.YtpblllpgmibkoaaGreatBn8
import Derived.Test.YtpblllpgmibkoaaGreatBn5
import Derived.Lib.Hide
import Derived.Test.YtpblllpgmibkoaaGreatBn9
set_option linter.unusedSimpArgs false
set_option linter.unusedVariables false
namespace Go.Proofs.YtpblllpgmibkoaaGreat
open Go.RowKit

theorem ba_app (a b : List UInt8) : (⟨a.toArray⟩ : ByteArray) ++ ⟨b.toArray⟩ = ⟨(a ++ b).toArray⟩ := by simp [ByteArray.mk_append_mk]
theorem regrown_all {P : Program} {f : FuncId} {args : Array Value} {v : Value} {w : World} (h : ∀ c, Calls P f args c fun e w' => e = .returned v ∧ Below c.heap.size c w') (d : Nat) (os : Array Obj) :
    Calls P f args (Go.Sort.grow (redrawn w d) os) fun e w'' => e = .returned v ∧ ∃ p : Regrown, w'' = Go.Sort.grow (redrawn w p.d) p.os := Calls.regrown_of (h _)

theorem tbU_part (own : List UInt8) (n : Nat) (R : List (List Int)) (j i : Nat) {d : Int} {l : List Int} (h : R[j]? = some (d :: l)) : (tbU own n (R.take j) ++ vput d ++ vall (l.take i)).length ≤ (tbU own n R).length := by
  have h1 := tbU_le own n R (j + 1)
  rw [List.take_add_one, h, Option.toList_some, tbU_snoc] at h1
  have e : vall (d :: l) = vput d ++ (vall (l.take i) ++ vall (l.drop i)) := by
    rw [← vall_append, List.take_append_drop]
    rfl
  rw [e] at h1
  simp only [List.length_append] at h1 ⊢
  omega

set_option maxRecDepth 100000 in
set_option maxHeartbeats 8000000 in
theorem rtput_any {w : World} {v : Value} {own : List UInt8} {R : List (List Int)} (h : IsRef w v own (R.map hdI) (R.map List.tail)) (hg : GoodT own R) (hlen : (tbB own R).length ≤ 1000000) :
    Calls Tryz.prog 13 #[v] w fun e w' => e = .returned (.string ⟨(tbB own R).toArray⟩) ∧ Below w.heap.size w w' := by
  have hmx : Tryz.prog.follows .mixedOrders = true := by kernel_rfl
  obtain ⟨da, dc, na, nc, rfl, hd, hq⟩ := h
  have hfw := hg.few
  have hmo := hg.most
  have HG := Lib.hid hg
  rw [List.length_map] at hd ⊢
  rw [List.length_map]
  obtain ⟨n, hn⟩ : ∃ n, R.length = n := ⟨_, rfl⟩
  obtain ⟨k, hk⟩ : ∃ k, own.length = k := ⟨_, rfl⟩
  have HN := Lib.hid hn
  have HK := Lib.hid hk
  have HU : Hid (tbU own n R = tbB own R) := Lib.hid (by rw [← hn]; exact tbU_all own R)
  have HL : Hid ((tbU own n R).length ≤ 1000000) := Lib.hid (by rw [HU.out]; exact hlen)
  rw [hn] at hd hmo ⊢
  rw [hk] at hfw
  have SO := Lib.hid (bsize own)
  have hh1 := heap_alloc_new w (.cells #[.string ⟨own.toArray⟩, .slice da n dc, .slice na n nc] 40)
  have d1 : Below w.heap.size w (w.alloc (.cells #[.string ⟨own.toArray⟩, .slice da n dc, .slice na n nc] 40)) := (Below.refl _ _).alloc (Nat.le_refl _) _
  have P1 := fun w => refput_any n (n : Int) w (by omega) (by omega)
  have P2 := fun w => refput_any k (k : Int) w (by omega) (by omega)
  have v1 := vput_length (n : Int) (by omega)
  have v2 := vput_length (k : Int) (by omega)
  have HE : Hid (hdT ++ vput (n : Int) ++ vput (k : Int) ++ own = tbU own n (R.take 0)) := Lib.hid (by rw [List.take_zero, tbU_nil, hk]; simp)
  have HDr := Lib.hid hd
  have HQr := Lib.hid hq
  clear hlen hg hd hq
  generalize vput (n : Int) = vn at *
  generalize vput (k : Int) = vk at *
  have y1 : (⟨#[116, 97, 98, 1]⟩ : ByteArray) ++ ⟨vn.toArray⟩ = ⟨(hdT ++ vn).toArray⟩ := ba_app hdT vn
  have y2 := ba_app (hdT ++ vn) vk
  have y3 := ba_app (hdT ++ vn ++ vk) own
  have l1 : ¬ 9223372036854775807 < hdT.length + vn.length := by simp [hdT]; omega
  have l1' : ¬ 9223372036854775807 < 4 + vn.length := by omega
  have l2 : ¬ 9223372036854775807 < (hdT ++ vn).length + vk.length := by simp [hdT]; omega
  have l3 : ¬ 9223372036854775807 < (hdT ++ vn ++ vk).length + own.length := by simp [hdT]; omega
  generalize hdT ++ vn = a1 at *
  generalize a1 ++ vk = a2 at *
  generalize a2 ++ own = a3 at *
  go_enter Tryz.func13, Tryz.ntmps13
  go_wp2_with fail
  obtain ⟨x0, x1, x2, z0, z1, z2⟩ := res_cells hh1
  have HD1 := Lib.hid d1
  have HDr1 := Lib.hid (HDr.out.below d1)
  have HQr1 : Hid (∀ (j : Nat) (q : List Int), (R.map List.tail)[j]? = some q → ∃ g off ra rc, na = some ⟨g, off, none⟩ ∧ (w.alloc (.cells #[.string ⟨own.toArray⟩, .slice da n dc, .slice na n nc] 40)).cell? ⟨g, off + j, none⟩ = some (.slice ra q.length rc) ∧ IsRow .i64 (w.alloc (.cells #[.string ⟨own.toArray⟩, .slice da n dc, .slice na n nc] 40)) ra q.length q.length q) := Lib.hid (fun j q hq => by
    obtain ⟨g, off, ra, rc, e1, e2, e3⟩ := HQr.out j q hq
    refine ⟨g, off, ra, rc, e1, ?_, e3.below d1⟩
    rw [d1.cell (p := ⟨g, off + j, none⟩) (World.block_lt_of_cell? w _ e2)]
    exact e2)
  generalize w.alloc (.cells #[.string ⟨own.toArray⟩, .slice da n dc, .slice na n nc] 40) = w1 at *
  generalize hbz : w.heap.size = b9 at *
  have HBz := Lib.hid hbz
  clear hbz d1 hh1 HDr HQr
  have G1 := regrown_all (w := w1) P1
  have G2 := regrown_all (w := w1) P2
  have k0 := cell_regrown x0
  have k1 := cell_regrown x1
  go_wp2_with fail
  refine wp_region_quiet_below hmx (by kernel_rfl) ?_
  repeat (go_big_quiet_step (first | with_reducible exact G1 _ _ | with_reducible exact G2 _ _))
  refine wpQuiet_nil ?_
  intro W6 hw6
  obtain ⟨⟨dq, osq⟩, rfl⟩ := hw6
  have b6 := below_regrown w1 dq osq
  generalize Go.Sort.grow (redrawn w1 dq) osq = w6 at b6 ⊢
  have HB6 := Lib.hid b6
  clear b6 G1 G2 k0 k1 P1 P2
  go_wp2_with fail
  go_loopw [3, 4] (fun x i wr => ∃ (j : Nat) (c : List UInt8), j ≤ n ∧ i = .int .i64 j ∧ x = .string ⟨c.toArray⟩ ∧ Hid (c = tbU own n (R.take j)) ∧ Hid (Below w1.heap.size w1 wr)) (fun _ i _ => n - (RowKit.intOf i).toNat)
  case atStart => exact ⟨0, a3, Nat.zero_le _, rfl, rfl, HE, HB6⟩
  case round =>
    clear HE HB6
    obtain ⟨j, c, hj, rfl, rfl, HC, HB⟩ := hrel
    have hcc := fun (a : Addr) (u : Value) (h : w1.cell? a = some u) => show wr.cell? a = some u from by
      rw [HB.out.cell (World.block_lt_of_cell? w1 _ h)]; exact h
    have x1' := hcc _ _ x1
    have x2' := hcc _ _ x2
    by_cases hlt : j < n
    · obtain ⟨r, hRj⟩ : ∃ r, R[j]? = some r := ⟨_, List.getElem?_eq_getElem (by rw [HN.out]; exact hlt)⟩
      obtain ⟨d, l, rfl, hd0, hd1, _, hll, hlx⟩ := HG.out.row j r hRj
      have HPart : Hid (∀ i, (tbU own n (R.take j) ++ vput d ++ vall (l.take i)).length ≤ 1000000) := Lib.hid (fun i => Nat.le_trans (tbU_part own n R j i hRj) HL.out)
      have hpart := tbU_part own n R j 0 hRj
      rw [List.take_zero, show vall [] = [] from rfl, List.append_nil, List.length_append] at hpart
      have HRj := Lib.hid hRj
      have HLl := Lib.hid hll
      have hlb : l.length ≤ 256 := by have := HK.out; omega
      have HLx := Lib.hid hlx
      obtain h5 | ⟨gd, od, hda, _, _, _, hdc⟩ := HDr1.out
      · omega
      cases hda
      have cd := hdc j (by omega)
      rw [show (R.map hdI).getD j 0 = d by simp [List.getD, hRj, hdI]] at cd
      have cd' := hcc _ _ cd
      have hm := HG.out.most
      have hcl : c.length + (vput d).length ≤ 1000000 := by have := HL.out; rw [HC.out]; omega
      have HPd := Lib.hid (fun W => refput_any d.toNat d W (Nat.le_refl _) (by omega))
      have HC1 : Hid (c ++ vput d = tbU own n (R.take j) ++ vput d ++ vall (l.take 0)) := Lib.hid (by rw [← HC.out]; simp [vall])
      generalize hvd : vput d = vd at *
      have HVd := Lib.hid hvd.symm
      clear hvd
      have y5 := ba_app c vd
      have l5 : ¬ 9223372036854775807 < c.length + vd.length := by omega
      generalize c ++ vd = c1 at *
      have g0 : (0 : Int) ≤ (j : Int) := by omega
      have g1 : (j : Int) < (n : Int) := by omega
      have hwr := HB.out.size
      clear hRj hpart hll hlx cd hdc
      go_wp2_with fail
      refine (HPd.out _).mono ?_
      rintro e w7 ⟨rfl, hb7⟩
      have HB7 := Lib.hid (HB.out.trans (hb7.mono hwr))
      clear HPd hb7 HB hcc x1' x2' cd' hwr
      go_wp2_with fail
      clear y5 l5
      go_loopw [3, 5] (fun x i wi => ∃ (i2 : Nat) (c : List UInt8), i2 ≤ l.length ∧ i = .int .i64 i2 ∧ x = .string ⟨c.toArray⟩ ∧ Hid (c = tbU own n (R.take j) ++ vd ++ vall (l.take i2)) ∧ Hid (Below w1.heap.size w1 wi)) (fun _ i _ => l.length - (RowKit.intOf i).toNat)
      case atStart => exact ⟨0, c1, Nat.zero_le _, rfl, rfl, HC1, HB7⟩
      case round =>
        clear HC1 HB7
        obtain ⟨i2, c2, hi2, rfl, rfl, HC2, HB⟩ := hrel
        have hcc := fun (a : Addr) (u : Value) (h : w1.cell? a = some u) => show wr.cell? a = some u from by
          rw [HB.out.cell (World.block_lt_of_cell? w1 _ h)]; exact h
        have x2' := hcc _ _ x2
        obtain ⟨g, off, ra, rc, hna, hcell, hrow⟩ := HQr1.out j l (by rw [List.getElem?_map, HRj.out]; rfl)
        subst hna
        have cn' := hcc _ _ hcell
        by_cases hli : i2 < l.length
        · obtain ⟨x, hx⟩ : ∃ x, l[i2]? = some x := ⟨_, List.getElem?_eq_getElem hli⟩
          obtain ⟨hx0, hx1⟩ := HLx.out x (List.mem_of_getElem? hx)
          have hts : l.take (i2 + 1) = l.take i2 ++ [x] := by rw [List.take_add_one, hx]; rfl
          obtain h5 | ⟨gr, orr, hra, _, _, _, hrc⟩ := hrow
          · omega
          subst hra
          have cx := hrc i2 hli
          rw [show l.getD i2 0 = x by simp [List.getD, hx]] at cx
          have cx' := hcc _ _ cx
          have HPx := Lib.hid (fun W => refput_any x.toNat x W (Nat.le_refl _) (by omega))
          have hpl := HPart.out (i2 + 1)
          rw [hts, vall_snoc, ← List.append_assoc, ← HC2.out, List.length_append] at hpl
          have HC3 : Hid (c2 ++ vput x = tbU own n (R.take j) ++ vd ++ vall (l.take (i2 + 1))) := Lib.hid (by rw [hts, vall_snoc, ← List.append_assoc, ← HC2.out])
          generalize vput x = vx at *
          have y6 := ba_app c2 vx
          have l6 : ¬ 9223372036854775807 < c2.length + vx.length := by omega
          generalize c2 ++ vx = c3 at *
          have g2 : (0 : Int) ≤ (i2 : Int) := by omega
          have g3 : (i2 : Int) < (l.length : Int) := by omega
          have hwr := HB.out.size
          clear hrc hx hts hpl cx
          go_wp2_with fail
          refine (HPx.out _).mono ?_
          rintro e w8 ⟨rfl, hb8⟩
          have HB8 := Lib.hid (HB.out.trans (hb8.mono hwr))
          clear HPx hb8 HB hcc x2' cn' cx' hwr
          go_wp2
          exact ⟨⟨i2 + 1, c3, by omega, by go_num, rfl, HC3, HB8⟩, by simp [RowKit.intOf]; omega⟩
        · have hil : i2 = l.length := by omega
          subst hil
          have hz : ¬ (l.length : Int) < (l.length : Int) := by omega
          have HC3 : Hid (c2 = tbU own n (R.take (j + 1))) := Lib.hid (by
            rw [HC2.out, List.take_of_length_le (Nat.le_refl _), List.take_add_one, HRj.out, Option.toList_some, tbU_snoc, List.append_assoc]
            rw [HVd.out]
            rfl)
          go_wp2
          exact ⟨⟨j + 1, c2, by omega, by go_num, rfl, HC3, HB⟩, by simp [RowKit.intOf]; omega⟩
    · have hjn : j = n := by omega
      subst hjn
      have hz : ¬ (j : Int) < (j : Int) := by omega
      have HF : Hid (c = tbB own R) := Lib.hid (by rw [HC.out, ← HU.out, List.take_of_length_le (by rw [HN.out]; exact Nat.le_refl _)])
      go_wp2
      go_ret
      have hdd := HD1.out.size
      have HDD : Hid (Below b9 w wr) := Lib.hid (HD1.out.trans (HB.out.mono (by have := HBz.out; omega)))
      refine ⟨?_, ?_⟩
      · show Ending.returned (Value.string ⟨c.toArray⟩) = _
        rw [HF.out]
      · rw [HBz.out]
        exact HDD.out
end Go.Proofs.YtpblllpgmibkoaaGreat

namespace Go.Proofs.YtpblllpgmibkoaaGreat
open Go.RowKit

theorem step_append_to {P : Program} {w : World} {ops : Array Oper} {o : Oper} {a : Act} {K : Act → World → Prop} {Q : Exit → Act → World → Prop} {E : Prop} (hgd : o.guard = none) (s x : Operand) (t : TypeId)
    (ho : o.op = .call { callee := .builtin .append, args := #[s, x], argTypes := #[t, t] })
    (base : Nat) (e : TypeId) (i : TypeInfo) (z : Value) (size bytes : Nat) (ht : P.underlying t = some (.slice e)) (hi : P.info? e = some i) (hz : i.zero = some z)
    (hsize : i.size = size) (hby : i.bytes = bytes) (hzs : z.cells.size = size) (hsz : 0 < size)
    (v : Value) (n : Nat) (xs : List Value) (hs : a.eval s = v) (hown : w.ownsRow base e size v n xs)
    (ad : Addr) (m c : Nat) (news : List Value) (hx : a.eval x = .slice (some ad) m c) (hl : news.length = m * size) (hnews : ∀ j u, news[j]? = some u → w.cell? (ad.add j) = some u) (h1 : ∀ u ∈ news, u.oneCell' = true)
    (h63 : n + m ≤ maxLen) (hbytes : (n + m) * bytes ≤ 140737488355328) (hbase : base ≤ w.heap.size) (hm : 0 < m)
    (h : ∀ v' w', w'.ownsRow base e size v' (n + m) (xs ++ news) → w.grownBy w' v.ownBlock → (v'.ownBlock = v.ownBlock ∨ v'.ownBlock = some w.heap.size) → K (a.put o.dst v') w') :
    if Region.wanted o (yielded ops a.tmps) = true then Oper.wp P o a w K Q else E := by
  have hw : Region.wanted o (yielded ops a.tmps) = true := by simp [Region.wanted, hgd]
  rw [if_pos hw]
  obtain ⟨v', w', hr, h2, h3, _, _⟩ := run_append_own_at (P := P) w base t o.type e i z size bytes ht hi hz hsize hby hzs hsz v n xs hown ad m c news hl hnews h1 h63 hbytes hbase
  have h4 := run_append_to base t o.type e i z size bytes ht hi hz hsize hby hzs hsz v n xs hown ad m c news hl hnews h1 h63 hbytes hm hr
  unfold Oper.wp execOp
  simp only [ho, resolve, invoke, builtin, Sem.run_bind, Sem.run_pure, Result.andThen_ok, List.map_toArray, List.map_cons, List.map_nil, hs, hx, hr]
  exact h v' w' h2 h3 h4
end Go.Proofs.YtpblllpgmibkoaaGreat

namespace Go.Proofs.YtpblllpgmibkoaaGreat
open Go.RowKit
set_option maxHeartbeats 1000000 in
theorem rfind16_any (a : Option Addr) (len cap : Nat) (ws : List (List UInt8)) (s : List UInt8) (w : World) (hlen : len ≤ 1000000000) (hr : IsStrs w a len ws) :
    Calls Tryz.prog 49 #[.slice a len cap, .string ⟨s.toArray⟩] w fun e w' => e = .returned (.int .i64 (ixL s ws)) ∧ w' = w := by
  have hwl := hr.1
  have HI := Lib.hid hr
  clear hr
  go_enter Tryz.func49, Tryz.ntmps49
  go_wp2
  go_loop [5] (fun i => ∃ k : Nat, k ≤ len ∧ i = .int .i64 k ∧ Hid (s ∉ ws.take k)) (fun i => len - (RowKit.intOf i).toNat)
  case atStart => exact ⟨0, Nat.zero_le _, rfl, Lib.hid (by simp)⟩
  case round =>
    obtain ⟨k, hk, rfl, HK⟩ := hrel
    by_cases hlt : k < len
    · obtain ⟨b, off, rfl, t, hf, hc⟩ := str_at HI.out (Below.refl _ _) k hlt
      cases hq : (t == s) with
      | true =>
        have e1 : t = s := by simpa using hq
        have HE : Hid (ixL s ws = k) := Lib.hid (ix_hit (by rw [← e1]; exact hf) HK.out)
        clear hf HK e1
        go_wp2
        go_ret
        exact ⟨by rw [HE.out]; rfl, rfl⟩
      | false =>
        have HK2 : Hid (s ∉ ws.take (k + 1)) := Lib.hid (fun hm => by
          obtain ⟨hk', e⟩ := List.getElem?_eq_some_iff.1 hf
          rw [List.take_succ_eq_append_getElem hk', List.mem_append, List.mem_singleton, e] at hm
          rcases hm with hm | hm
          · exact HK.out hm
          · subst hm; simp at hq)
        clear hf HK
        go_wp2
        exact ⟨⟨k + 1, by omega, by go_num, HK2⟩, by simp [RowKit.intOf]; omega⟩
    · obtain rfl : k = len := by omega
      have HE : Hid (ixL s ws = -1) := Lib.hid (ix_miss (by have := HK.out; rwa [List.take_of_length_le (by omega)] at this))
      clear HK
      go_wp2
      go_ret
      exact ⟨by rw [HE.out]; rfl, rfl⟩
theorem IsStP.few {us out : List (List UInt8)} {n j : Nat} (h : IsStP us n j out) : out.length ≤ totalL us + 1 :=
  states_few (slx_nodup h.1) fun q hq => by
    rcases (h.2.2 q).1 hq with h1 | ⟨_, h1⟩ | ⟨_, h1⟩
    · exact .inl h1
    · exact .inr h1
    · obtain ⟨i, t, _, ht, hp⟩ := beg_take.1 h1
      exact .inr (beg_at ht hp)

/-- The states, as an answer. -/
def RetSt (us : List (List UInt8)) (w : World) (e : Ending) (w' : World) : Prop := ∃ (S : List (List UInt8)) (a : Option Addr) (cap : Nat), e = .returned (.slice a S.length cap) ∧ IsSt us S ∧ IsStrs w' a S.length S ∧ Below w.heap.size w w'
set_option maxRecDepth 100000 in
set_option maxHeartbeats 4000000 in
theorem rstates_any (a : Option Addr) (len cap : Nat) (us : List (List UInt8)) (w : World) (hlen : len ≤ 1000000) (hr : IsStrs w a len us) (ha : Asc us) (ht : ∀ t ∈ us, t.length ≤ 65535) (htot : totalL us ≤ 16777216) :
    Calls Tryz.prog 21 #[.slice a len cap] w (RetSt us w) := by
  have hwl := hr.1
  obtain ⟨i0, hi, hz0, hz1, hz2⟩ := info_parts string_info
  have HI := Lib.hid hr
  have HA := Lib.hid ha
  have HT := Lib.hid ht
  clear hr ha ht
  go_enter Tryz.func21, Tryz.ntmps21
  go_wp2
  go_loopw [4, 5] (fun x i wr => ∃ k n : Nat, k ≤ len ∧ i = .int .i64 k ∧ x = .int .i64 n ∧ n ≤ 65535 ∧ Hid (∀ t ∈ us.take k, t.length ≤ n) ∧ Hid (wr = w.alloc (.cells #[.string ⟨#[]⟩] 9))) (fun _ i _ => len - (RowKit.intOf i).toNat)
  case atStart => exact ⟨0, 0, Nat.zero_le _, rfl, rfl, by omega, Lib.hid (by simp), Lib.hid rfl⟩
  case round =>
    obtain ⟨k, n, hk, rfl, rfl, hn, HK, hwr⟩ := hrel
    have hbe : Below w.heap.size w wr := by rw [hwr.out]; exact (Below.refl _ _).alloc (Nat.le_refl _) _
    by_cases hlt : k < len
    · obtain ⟨b, off, rfl, t, hf, hc⟩ := str_at HI.out hbe k hlt
      have HS := Lib.hid (bsize t)
      have htl := HT.out t (List.mem_of_getElem? hf)
      have hsn : ∀ m, n ≤ m → t.length ≤ m → ∀ u ∈ us.take (k + 1), u.length ≤ m := fun m h1 h2 u hu => by
        obtain ⟨hk', e⟩ := List.getElem?_eq_some_iff.1 hf
        rw [List.take_succ_eq_append_getElem hk', List.mem_append, List.mem_singleton, e] at hu
        rcases hu with hu | rfl
        · exact Nat.le_trans (HK.out u hu) h1
        · exact h2
      have g1 : (k : Int) < (len : Int) := by omega
      by_cases hq : n < t.length
      · have HK2 := Lib.hid (hsn t.length (by omega) (Nat.le_refl _))
        clear hf HK hsn
        go_wp2
        exact ⟨⟨k + 1, t.length, by omega, by go_num, rfl, htl, HK2, hwr⟩, by simp [RowKit.intOf]; omega⟩
      · have HK2 := Lib.hid (hsn n (Nat.le_refl _) (by omega))
        clear hf HK hsn
        go_wp2
        exact ⟨⟨k + 1, n, by omega, by go_num, rfl, hn, HK2, hwr⟩, by simp [RowKit.intOf]; omega⟩
    · obtain rfl : k = len := by omega
      have HM : Hid (∀ t ∈ us, t.length ≤ n) := Lib.hid (by have := HK.out; rwa [List.take_of_length_le (by omega)] at this)
      have HW : Hid (us.take k = us) := Lib.hid (List.take_of_length_le (by omega))
      have g1 : ¬ (k : Int) < (k : Int) := by omega
      have H0 : Hid (wr.ownsRow w.heap.size 9 1 (.slice (some ⟨w.heap.size, 0, none⟩) 1 1) ([[]] : List (List UInt8)).length (txCells [[]])) := Lib.hid (by
        rw [hwr.out]
        exact ⟨rfl, .inr ⟨w.heap.size, 1, _, rfl, Nat.le_refl _, heap_alloc_new w _, Nat.le_refl _, by decide, rfl, rfl⟩⟩)
      have HB0 := Lib.hid hbe
      clear HK hbe hwr
      go_wp2
      obtain ⟨W1, hW1⟩ : ∃ W, W = wr := ⟨_, rfl⟩
      subst hW1
      go_loopw [3, 6] (fun v x wr => ∃ (m g cap' : Nat) (out : List (List UInt8)), m ≤ n + 1 ∧ x = .int .i64 m ∧ v = .slice (some ⟨g, 0, none⟩) out.length cap' ∧ Hid (IsStP us m 0 out) ∧ Hid (wr.ownsRow w.heap.size 9 1 (.slice (some ⟨g, 0, none⟩) out.length cap') out.length (txCells out)) ∧ Below w.heap.size w wr) (fun _ x _ => n + 1 - (RowKit.intOf x).toNat)
      case atStart => exact ⟨1, w.heap.size, 1, [[]], by omega, rfl, rfl, Lib.hid (IsStP.start us), H0, HB0.out⟩
      case round =>
        obtain ⟨m, g, cap', out, hm, rfl, rfl, HP, HO, hbe⟩ := hrel
        by_cases hmn : m ≤ n
        · have g2 : (m : Int) ≤ (n : Int) := by omega
          have hm1 := HP.out.2.1.2
          clear H0 HB0
          go_wp2
          obtain ⟨W2, hW2⟩ : ∃ W, W = wr := ⟨_, rfl⟩
          subst hW2
          go_loopw [3, 7] (fun v x wr => ∃ (j g cap' : Nat) (out : List (List UInt8)), j ≤ k ∧ x = .int .i64 j ∧ v = .slice (some ⟨g, 0, none⟩) out.length cap' ∧ Hid (IsStP us m j out) ∧ Hid (wr.ownsRow w.heap.size 9 1 (.slice (some ⟨g, 0, none⟩) out.length cap') out.length (txCells out)) ∧ Below w.heap.size w wr) (fun _ x _ => k - (RowKit.intOf x).toNat)
          case atStart => exact ⟨0, g, cap', out, Nat.zero_le _, rfl, rfl, HP, HO, hbe⟩
          case round =>
            clear HP HO hbe
            obtain ⟨j, g, cap', out, hj, rfl, rfl, HP, HO, hbe⟩ := hrel
            have hsz := hbe.size
            have hlo := HP.out.2.1.1
            have hof := HP.out.few
            by_cases hlt : j < k
            · obtain ⟨b, off, rfl, t, hf, hc⟩ := str_at HI.out hbe j hlt
              obtain ⟨l, hl⟩ : ∃ l, out[out.length - 1]? = some l := ⟨out[out.length - 1], List.getElem?_eq_getElem (by omega)⟩
              have hol : wr.cell? ⟨g, out.length - 1, none⟩ = some (.string ⟨l.toArray⟩) := by
                have := HO.out.cells (g := g) rfl (out.length - 1) (.string ⟨l.toArray⟩) (by simp [txCells, hl])
                rwa [addPlain, Nat.zero_add] at this
              have HS := Lib.hid (bsize t)
              have S2 := Lib.hid (bsize l)
              have hx := ext_cut t 0 m
              rw [List.drop_zero] at hx
              have q1 : (0 : Int) ≤ (j : Int) := by omega
              have q2 : (j : Int) < (k : Int) := by omega
              have q3 : IntKind.i64.wrap ((out.length : Int) - 1) = (out.length : Int) - 1 := by rw [IntKind.wrap_i64]; omega
              have q4 : ((out.length : Int) - 1).toNat = out.length - 1 := by omega
              have q5 : (0 : Int) ≤ (out.length : Int) - 1 := by omega
              have q6 : (out.length : Int) - 1 < (out.length : Int) := by omega
              have q7 : (0 : Int) ≤ (m : Int) := by omega
              by_cases hlong : m ≤ t.length
              · have q8 : (m : Int) ≤ (t.length : Int) := by omega
                by_cases heq : t.take m = l
                · have HP2 := Lib.hid (HP.out.skip hf (.inr (by rw [heq]; exact List.mem_of_getElem? hl)))
                  subst heq
                  clear hf hl HP
                  go_wp2_with fail
                  go_quiet (fail)
                  go_wp2
                  exact ⟨⟨j + 1, g, cap', out, by omega, by go_num, rfl, HP2, Lib.hid (HO.out : _), below_drewS hbe nq⟩, by simp [RowKit.intOf]; omega⟩
                · have HP2 := Lib.hid (HP.out.put HA.out hf hlong hl heq)
                  have hq : (t.take m == l) = false := by rw [beq_eq_false_iff_ne]; exact heq
                  have hcut : (0 : Int) ≤ (m : Int) := by omega
                  have H7 : Hid (∀ r, wr.cell? ⟨b, off + j, none⟩ = r → ∀ q o, ((wr.drewN q).alloc o).cell? ⟨b, off + j, none⟩ = r) := Lib.hid fun r hr' q o => by
                    have hblt := World.block_lt_of_cell? wr _ hc
                    rw [World.cell?_alloc_lt _ _ _ (show b < (wr.drewN q).heap.size from hblt)]; exact hr'
                  clear hf hl HP heq
                  have hown := HO.out
                  go_wp2_with fail
                  go_quiet (fail)
                  go_wp2_with (at_builtin; refine wpList_append_to _ rfl _ _ 22 rfl w.heap.size 9 i0 (.string ByteArray.empty) 1 16 Tryz.underlying22 hi hz0 hz1 hz2 rfl (by decide) _ _ _ rfl (World.ownsRow.alloc (w := wr.drewN nq) hown _) ⟨wr.heap.size, 0, none⟩ 1 1 [.string ⟨(t.take m).toArray⟩] rfl rfl (one_news (heap_alloc_new (wr.drewN nq) _)) str_one (by unfold maxLen; omega) (by omega) (by simp; omega) (by decide) ?_)
                  intro v' w4 hown4 hgrow4 hat4
                  have e1 : (out ++ [t.take m]).length = out.length + 1 := by simp
                  have B4 : Below w.heap.size w w4 := ((below_drewS hbe nq).alloc (by show _ ≤ wr.heap.size; exact hsz) _).grown hgrow4 (by simp; omega) (fun i hi => (hown.lt i hi).1)
                  obtain ⟨g4, c4, rfl, _⟩ := World.ownsRow.form hown4 (by omega)
                  have HO4 : Hid (w4.ownsRow w.heap.size 9 1 (.slice (some ⟨g4, 0, none⟩) (out ++ [t.take m]).length c4) (out ++ [t.take m]).length (txCells (out ++ [t.take m]))) := Lib.hid (by
                    rw [e1, txCells_snoc]; exact hown4)
                  rw [← e1]
                  generalize out ++ [t.take m] = out2 at HO4 HP2 ⊢
                  clear hown hown4 hgrow4 hat4 e1
                  go_wp2
                  exact ⟨⟨j + 1, g4, c4, out2, by omega, by go_num, rfl, HP2, HO4, B4⟩, by simp [RowKit.intOf]; omega⟩
              · have HP2 := Lib.hid (HP.out.skip hf (.inl (by omega)))
                have q8 : ¬ (m : Int) ≤ (t.length : Int) := by omega
                clear hf hl HP hx
                go_wp2_with fail
                go_quiet (fail)
                go_wp2
                exact ⟨⟨j + 1, g, cap', out, by omega, by go_num, rfl, HP2, Lib.hid (HO.out : _), below_drewS hbe nq⟩, by simp [RowKit.intOf]; omega⟩
            · obtain rfl : j = k := by omega
              have q2 : ¬ (j : Int) < (j : Int) := by omega
              have HP2 := Lib.hid (by have := HP.out; rw [← hwl] at this; exact this.next : IsStP us (m + 1) 0 out)
              clear HP
              go_wp2
              exact ⟨⟨m + 1, g, cap', out, by omega, by go_num, rfl, HP2, HO, hbe⟩, by simp [RowKit.intOf]; omega⟩
        · have g2 : ¬ (m : Int) ≤ (n : Int) := by omega
          have hst : IsSt us out := by
            have : m = n + 1 := by omega
            subst this
            exact HP.out.done fun t ht => Nat.lt_succ_of_le (HM.out t ht)
          have HE : Hid (RetSt us w (.returned (.slice (some ⟨g, 0, none⟩) out.length cap')) wr) := Lib.hid (by
            obtain ⟨ao, cp, he, hs⟩ := owns_strs HO.out
            cases he
            exact ⟨out, _, _, rfl, hst, hs, hbe⟩)
          clear HP HO hbe hst
          go_wp2
          go_ret
          exact HE.out
end Go.Proofs.YtpblllpgmibkoaaGreat

namespace Go.Proofs.YtpblllpgmibkoaaGreat
open Go.RowKit

theorem ix_nonneg {s : List UInt8} {ws : List (List UInt8)} (h : s ∈ ws) : 0 ≤ ixL s ws := by unfold ixL; rw [if_pos h]; omega
theorem tail_drop (s : List UInt8) (d : Nat) : (s.drop d).tail = s.drop (d + 1) := by rw [List.tail_drop]

set_option maxHeartbeats 1000000 in
theorem rlongest_any (a : Option Addr) (len cap : Nat) (S : List (List UInt8)) (s : List UInt8) (m : Nat) (w : World) (hlen : len ≤ 1000000000) (hr : IsStrs w a len S) (h0 : [] ∈ S) (hs : s.length ≤ 100000000) (hm : m ≤ s.length) :
    Calls Tryz.prog 22 #[.slice a len cap, .string ⟨s.toArray⟩, .int .i64 (m : Int)] w fun e w' => e = .returned (.int .i64 (ixL (lgL S (s.drop (s.length - m))) S)) ∧ w' = w := by
  have HF := Lib.hid (fun t => rfind16_any a len cap S t w hlen hr)
  have H0 := Lib.hid h0
  have HS := Lib.hid (bsize s)
  clear hr h0
  go_enter Tryz.func22, Tryz.ntmps22
  go_wp2
  go_loop [7, 8] (fun x _ => ∃ n : Nat, n ≤ s.length ∧ x = .int .i64 n ∧ Hid (lgL S (s.drop (s.length - m)) = lgL S (s.drop (s.length - min n m)))) (fun x _ => (RowKit.intOf x).toNat)
  case atStart => exact ⟨s.length, Nat.le_refl _, rfl, Lib.hid (by rw [Nat.min_eq_right hm])⟩
  case round =>
    obtain ⟨n, hn, rfl, HG⟩ := hrel
    have g0 : (0 : Int) ≤ (n : Int) := by omega
    by_cases hnm : m < n
    · have g1 : (m : Int) < (n : Int) := by omega
      have HG2 := Lib.hid (show lgL S (s.drop (s.length - m)) = lgL S (s.drop (s.length - min (n - 1) m)) by
        rw [HG.out, Nat.min_eq_right (by omega), Nat.min_eq_right (by omega)])
      have w1 : IntKind.i64.wrap ((n : Int) - 1) = ((n - 1 : Nat) : Int) := by rw [IntKind.wrap_i64]; omega
      clear HG
      go_wp2
      exact ⟨⟨n - 1, by omega, by first | rfl | go_num, HG2⟩, by simp [RowKit.intOf]; omega⟩
    · have g1 : ¬ (m : Int) < (n : Int) := by omega
      obtain ⟨d, hd⟩ : ∃ d, d + n = s.length := ⟨s.length - n, by omega⟩
      have w0 : IntKind.i64.wrap ((s.length : Int) - (n : Int)) = (d : Int) := by rw [IntKind.wrap_i64]; omega
      have g2 : (0 : Int) ≤ (d : Int) := by omega
      have g3 : (d : Int) ≤ (s.length : Int) := by omega
      have hx := ext_rest s d
      have HG1 := Lib.hid (show lgL S (s.drop (s.length - m)) = lgL S (s.drop d) by
        rw [HG.out, Nat.min_eq_left (by omega), show s.length - n = d by omega])
      have HC := Lib.hid (HF.out (s.drop d))
      by_cases hu : s.drop d ∈ S
      · have hz := ix_nonneg hu
        have HE := Lib.hid (show ixL (lgL S (s.drop (s.length - m))) S = ixL (s.drop d) S by rw [HG1.out, lg_hit hu])
        generalize ixL (s.drop d) S = z at hz HE HC
        have HD := Lib.hid hd
        clear HG HG1 hu hd
        go_wp2_with fail
        refine HC.out.mono ?_
        rintro e w' ⟨rfl, hw'⟩
        obtain rfl := hw'.symm
        clear hw' HC
        go_wp2
        go_ret
        exact ⟨by rw [HE.out]; rfl, rfl⟩
      · have hz := ix_miss hu
        rw [hz] at HC
        have hn0 : 1 ≤ n := by
          rcases Nat.eq_zero_or_pos n with h | h
          · exfalso
            rw [List.drop_eq_nil_of_le (by omega)] at hu
            exact hu H0.out
          · exact h
        have HG2 := Lib.hid (show lgL S (s.drop (s.length - m)) = lgL S (s.drop (s.length - min (n - 1) m)) by
          rw [HG1.out, lg_miss hu, tail_drop, Nat.min_eq_left (by omega), show s.length - (n - 1) = d + 1 by omega])
        have w1 : IntKind.i64.wrap ((n : Int) - 1) = ((n - 1 : Nat) : Int) := by rw [IntKind.wrap_i64]; omega
        have HD := Lib.hid hd
        clear HG HG1 hu hd hz
        go_wp2_with fail
        refine HC.out.mono ?_
        rintro e w' ⟨rfl, hw'⟩
        obtain rfl := hw'.symm
        clear hw' HC
        go_wp2
        exact ⟨⟨n - 1, by omega, by first | rfl | go_num, HG2⟩, by simp [RowKit.intOf]; omega⟩

end Go.Proofs.YtpblllpgmibkoaaGreat

namespace Go.Proofs.YtpblllpgmibkoaaGreat
open Go.RowKit

/-- A text with one byte more, as a sum of two. -/
theorem plus_byteT (s : List UInt8) (c : UInt8) : (⟨s.toArray⟩ : ByteArray) ++ (⟨#[c]⟩ : ByteArray) = ⟨(s ++ [c]).toArray⟩ := by
  apply ByteArray.ext
  simp
/-- One byte as a text. -/
theorem one_textT (W : World) (X : Nat) (c : UInt8) (h : W.heap[X]? = some (.cells #[.int .u8 (c.toNat : Int)] 5 (0, 0))) : (convert 70 9 (.slice (some ⟨X, 0, none⟩) 1 1)).run Tryz.prog W = .ok (.string ⟨[c].toArray⟩) W := by
  refine run_convert_bytes_back W 70 9 5 _ _ [c] Tryz.underlying70 Tryz.underlying5 Tryz.underlying9 (fun j hj => ?_)
  have : j = 0 := by simp at hj; omega
  subst this
  rw [addPlain, Lib.cell_of_heap h]
  rfl

end Go.Proofs.YtpblllpgmibkoaaGreat

namespace Go.Proofs.YtpblllpgmibkoaaGreat
open Go.RowKit

set_option maxRecDepth 100000 in
set_option maxHeartbeats 2000000 in
theorem rlkstep_any (a : Option Addr) (len cap : Nat) (S : List (List UInt8)) (w : World) (hlen : len ≤ 1000000000) (hr : IsStrs w a len S) (h0 : [] ∈ S) (hl : ∀ t ∈ S, t.length ≤ 10000000) (i : Nat) {s : List UInt8} (hs : S[i]? = some s) (c : UInt8) :
    Calls Tryz.prog 44 #[.slice a len cap, .int .i64 (i : Int), .int .u8 (c.toNat : Int)] w fun e w' => e = .returned (.int .i64 (ixL (lgL S (s ++ [c])) S)) ∧ Below w.heap.size w w' := by
  have hwl := hr.1
  have hil := (List.getElem?_eq_some_iff.1 hs).1
  have hsl := hl s (List.mem_of_getElem? hs)
  have HL1 := (fun W (hb : Below w.heap.size w W) => rlongest_any a len cap S (s ++ [c]) (s.length + 1) W hlen (hr.below hb) h0 (by simp; omega) (by simp))
  have HE := Lib.hid (show (s ++ [c]).drop ((s ++ [c]).length - (s.length + 1)) = s ++ [c] by simp)
  rw [HE.out] at HL1
  have HL := Lib.hid (fun W (hb : Below w.heap.size w W) (z : Int) (hz : z = ((s.length + 1 : Nat) : Int)) => show Calls Tryz.prog 22 #[.slice a len cap, .string ⟨(s ++ [c]).toArray⟩, .int .i64 z] W (fun e w' => e = .returned (.int .i64 (ixL (lgL S (s ++ [c])) S)) ∧ w' = W) from by subst hz; exact HL1 W hb)
  clear HL1
  obtain ⟨b, off, rfl, t, hf, hc⟩ := str_at hr (Below.refl _ _) i (by omega)
  obtain rfl : t = s := Option.some.inj (hf.symm.trans hs)
  have hbl := World.block_lt_of_cell? w _ hc
  have hcA : ∀ o, (w.alloc o).cell? ⟨b, off + i, none⟩ = some (.string ⟨t.toArray⟩) := fun o => by rw [World.cell?_alloc_lt _ _ _ hbl]; exact hc
  have hcv : ∀ W X, W.heap[X]? = some (.cells #[.int .u8 (c.toNat : Int)] 5 (0, 0)) → (convert 70 9 (.slice (some ⟨X, 0, none⟩) 1 1)).run Tryz.prog W = .ok (.string ⟨[c].toArray⟩) W := fun W X h => one_textT W X c h
  have hcv0 := hcv (w.alloc (.cells #[.int .u8 (c.toNat : Int)] 5)) w.heap.size (heap_alloc_new w _)
  have hcv1 := hcv (w.drew.alloc (.cells #[.int .u8 (c.toNat : Int)] 5)) w.heap.size (heap_alloc_new w.drew _)
  have hcv2 := hcv (w.alloc (.cells #[.int .u8 (c.toNat : Int)] 5)).drew w.heap.size (heap_alloc_new w _)
  have hpl := plus_byteT t c
  have hS2 : (⟨(t ++ [c]).toArray⟩ : ByteArray).size = t.length + 1 := by rw [bsize]; simp
  have HZ := Lib.hid hS2
  have HS := Lib.hid (bsize t)
  have g2 : (0 : Int) ≤ (i : Int) := by omega
  have g3 : (i : Int) < (len : Int) := by omega
  have hov : ¬ 9223372036854775807 < t.length + 1 := by omega
  have B1 := Lib.hid (fun W (hW : W = (w.alloc (.cells #[.int .u8 (c.toNat : Int)] 5)).drew ∨ W = w.drew.alloc (.cells #[.int .u8 (c.toNat : Int)] 5)) => show Below w.heap.size w W from by
    rcases hW with rfl | rfl
    · exact ((Below.refl _ _).alloc (Nat.le_refl _) _).drew
    · exact (Below.refl _ _).drew.alloc (Nat.le_refl _) _)
  clear hr h0 hl hs hf HE hcv hS2
  go_enter Tryz.func44, Tryz.ntmps44
  go_wp2_with fail
  go_region
  have B2 := B1.out _ (.inl rfl)
  have HL2 := Lib.hid (HL.out _ B2)
  clear hcA hcv0 hcv1 hcv2 hpl B1 HL hc hbl
  generalize (w.alloc (.cells #[.int .u8 (c.toNat : Int)] 5)).drew = W at *
  go_wp2_with fail
  refine (HL2.out _ (by omega)).mono ?_
  rintro e w' ⟨rfl, hw'⟩
  obtain rfl := hw'.symm
  clear hw' HL2
  go_wp2
  go_ret
  exact ⟨rfl, B2⟩

end Go.Proofs.YtpblllpgmibkoaaGreat

namespace Go.Proofs.YtpblllpgmibkoaaGreat
open Go.RowKit

set_option maxRecDepth 100000 in
set_option maxHeartbeats 4000000 in
theorem rclhas_any (a : Option Addr) (len cap c : Nat) (ws : List (List UInt8)) (w : World) (hlen : len ≤ 1000000) (hr : IsStrs w a len ws) (ht : ∀ t ∈ ws, t.length ≤ 1000000) :
    Calls Tryz.prog 71 #[.slice a len cap, .int .u8 (c : Int)] w fun e w' => e = .returned (.bool (hasC ws c)) ∧ w' = w := by
  have hwl := hr.1
  have HT := Lib.hid ht
  have HR := Lib.hid hr
  clear ht hr
  obtain ⟨R, hR⟩ : ∃ R, hasC ws c = R := ⟨_, rfl⟩
  rw [hR]
  have HRR := Lib.hid hR
  clear hR
  go_enter Tryz.func71, Tryz.ntmps71
  go_wp2
  go_loop [5] (fun i => ∃ k : Nat, k ≤ len ∧ i = .int .i64 k ∧ Hid (hasC (ws.take k) c = false)) (fun i => len - (RowKit.intOf i).toNat)
  case atStart => exact ⟨0, Nat.zero_le _, rfl, Lib.hid rfl⟩
  case round =>
    obtain ⟨k, hk, rfl, HK⟩ := hrel
    by_cases hlt : k < len
    · obtain ⟨b, off, rfl, t, hf, hcell⟩ := str_at HR.out (Below.refl _ _) k hlt
      have htl := HT.out t (List.mem_of_getElem? hf)
      have S1 := Lib.hid (bsize t)
      have HN := Lib.hid (fun x => hasC_snoc hf x)
      have HH : Hid (∀ x : UInt8, x ∈ t → x.toNat = c → R = true) := Lib.hid (fun x hx e => by
        rw [← HRR.out, ← e]; exact hasC_mem (List.mem_of_getElem? hf) hx)
      have hlt2 : (k : Int) < (len : Int) := by omega
      have hlt3 : (0 : Int) ≤ (k : Int) := by omega
      clear hf
      go_wp2
      go_loop [6] (fun i => ∃ j : Nat, j ≤ t.length ∧ i = .int .i64 j ∧ Hid (inT (t.take j) c = false)) (fun i => t.length - (RowKit.intOf i).toNat)
      case atStart => exact ⟨0, Nat.zero_le _, rfl, Lib.hid rfl⟩
      case round =>
        obtain ⟨j, hj, rfl, HJ⟩ := hrel
        by_cases hjl : j < t.length
        · have hjz : j < (⟨t.toArray⟩ : ByteArray).size := by rw [bsize]; exact hjl
          have hb := byteAt t j hjl hjz
          obtain ⟨x, hx⟩ : ∃ x, t[j] = x := ⟨_, rfl⟩
          rw [hx] at hb
          have HX : Hid (t[j]? = some x) := Lib.hid (by rw [List.getElem?_eq_getElem hjl, hx])
          have g0 : (0 : Int) ≤ (j : Int) := by omega
          have g1 : (j : Int) < (t.length : Int) := by omega
          by_cases hq : x.toNat = c
          · have HE : Hid (R = true) := Lib.hid (HH.out x (List.mem_of_getElem? HX.out) hq)
            subst hq
            clear hx
            go_wp2
            go_ret
            exact ⟨by rw [HE.out]; rfl, rfl⟩
          · have HE : Hid (inT (t.take (j + 1)) c = false) := Lib.hid (by
              rw [inT_snoc HX.out c, HJ.out]
              simpa using hq)
            have hq2 : ((x.toNat : Int) == (c : Int)) = false := by rw [beq_eq_false_iff_ne]; omega
            have hq3 : ¬ (x.toNat : Int) = (c : Int) := by omega
            have hq4 : (x.toNat == c) = false := by rw [beq_eq_false_iff_ne]; omega
            clear hx
            go_wp2
            exact ⟨⟨j + 1, by omega, by go_num, HE⟩, by simp [RowKit.intOf]; omega⟩
        · obtain rfl : j = t.length := by omega
          have hz : ¬ (t.length : Int) < (t.length : Int) := by omega
          have HE : Hid (hasC (ws.take (k + 1)) c = false) := Lib.hid (by
            rw [HN.out c, HK.out, Bool.false_or, ← HJ.out, List.take_length])
          clear HJ
          go_wp2
          exact ⟨⟨k + 1, by omega, by go_num, HE⟩, by simp [RowKit.intOf]; omega⟩
    · obtain rfl : k = len := by omega
      have hz : ¬ (k : Int) < (k : Int) := by omega
      have HE : Hid (R = false) := Lib.hid (by rw [← HRR.out, ← HK.out, List.take_of_length_le (by omega)])
      clear HK
      go_wp2
      go_ret
      exact ⟨by rw [HE.out]; rfl, rfl⟩
end Go.Proofs.YtpblllpgmibkoaaGreat

namespace Go.Proofs.YtpblllpgmibkoaaGreat
open Go.RowKit

set_option maxRecDepth 100000 in
set_option maxHeartbeats 4000000 in
theorem rclbytes_any (a : Option Addr) (len cap : Nat) (ws : List (List UInt8)) (w : World) (hlen : len ≤ 1000000) (hr : IsStrs w a len ws) (ht : ∀ t ∈ ws, t.length ≤ 1000000) :
    Calls Tryz.prog 43 #[.slice a len cap] w fun e w' => e = .returned (.string ⟨(bcK ws 256).toArray⟩) ∧ Below w.heap.size w w' := by
  obtain ⟨i0, hi, hz0, hz1, hz2⟩ := info_parts bubyte_info
  have HH := Lib.hid (fun (c : Nat) (W : World) (hW : Below w.heap.size w W) => rclhas_any a len cap c ws W hlen (hr.below hW) ht)
  clear hr ht
  go_enter Tryz.func43, Tryz.ntmps43
  go_wp2
  go_loopw [3, 4] (fun v i wr => ∃ k : Nat, k ≤ 256 ∧ i = .int .i64 k ∧ Hid (wr.ownsRow w.heap.size 5 1 v (bcK ws k).length (Lib.byteCells (bcK ws k))) ∧ Below w.heap.size w wr) (fun _ i _ => 256 - (RowKit.intOf i).toNat)
  case atStart => exact ⟨0, Nat.zero_le _, rfl, Lib.hid (World.ownsRow_made w #[] 0 (Nat.le_refl _) (Nat.zero_le _) rfl), (Below.refl _ _).alloc (Nat.le_refl _) _⟩
  case round =>
    obtain ⟨k, hk, rfl, HO, hbe⟩ := hrel
    obtain ⟨ao, co, rfl⟩ := owns_slice HO.out
    have hsz := hbe.size
    by_cases hlt : k < 256
    · have hw8 : IntKind.u8.wrap (k : Int) = (k : Int) := u8_wrap k hlt
      have g1 : (k : Int) < 256 := by omega
      have HC := Lib.hid (HH.out k wr hbe)
      cases hq : hasC ws k with
      | true =>
        rw [hq] at HC
        have HV := Lib.hid (bc_hit hq)
        have hl := bc_length ws k
        have hown := HO.out
        clear hq
        go_wp2_with fail
        refine HC.out.mono ?_
        rintro e w' ⟨rfl, hw⟩
        obtain rfl := hw.symm
        clear hw HC
        go_wp2_with (at_builtin; refine wpList_append_own _ rfl _ _ 70 rfl w.heap.size 5 i0 (.int .u8 0) 1 1 Tryz.underlying70 hi hz0 hz1 hz2 rfl (by decide) _ _ _ rfl (hown.alloc _) ⟨wr.heap.size, 0, none⟩ 1 1 [.int .u8 (k : Int)] rfl rfl (one_news (heap_alloc_new _ _)) bubyte_one (by unfold maxLen; omega) (by omega) (by simp; omega) ?_)
        intro v' w3 hown3 hgrow _
        obtain ⟨a3, cap3, rfl⟩ := owns_slice hown3
        have HW := Lib.hid (show w3.ownsRow w.heap.size 5 1 (.slice a3 ((bcK ws k).length + 1) cap3) (bcK ws (k + 1)).length (Lib.byteCells (bcK ws (k + 1))) by rw [HV.out, bucells_snoc _ _ hlt, List.length_append]; exact hown3)
        have B3 : Below w.heap.size w w3 := own_below hbe hown (Nat.le_refl _) hgrow
        clear hown hown3 hgrow HO
        go_wp2
        exact ⟨⟨k + 1, by omega, by go_num, HW, B3⟩, by simp [RowKit.intOf]; omega⟩
      | false =>
        rw [hq] at HC
        have HV := Lib.hid (bc_miss hq)
        clear hq
        go_wp2_with fail
        refine HC.out.mono ?_
        rintro e w' ⟨rfl, hw⟩
        obtain rfl := hw.symm
        clear hw HC
        go_wp2
        exact ⟨⟨k + 1, by omega, by go_num, by rw [HV.out]; exact HO, hbe⟩, by simp [RowKit.intOf]; omega⟩
    · obtain rfl : k = 256 := by omega
      have hz : ¬ ((256 : Nat) : Int) < 256 := by omega
      have hct := own_text HO.out
      go_wp2
      go_ret
      exact ⟨rfl, hbe⟩
end Go.Proofs.YtpblllpgmibkoaaGreat
