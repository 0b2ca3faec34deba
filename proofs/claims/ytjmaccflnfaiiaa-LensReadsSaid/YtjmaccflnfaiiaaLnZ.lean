/-
  The law LensReads: walked.
-/
import Derived.Test.YtjmaccflnfaiiaaBn12
import Derived.Test.YtjmaccflnfaiiaaBn15
import Derived.Test.YtjmaccflnfaiiaaBn16
import Derived.Deep.CutRange
import Derived.Deep.RegionWith
set_option linter.unusedSimpArgs false
set_option linter.unusedVariables false
namespace Go.Proofs.Ytjmaccflnfaiiaa
open Go.RowKit

set_option maxHeartbeats 1000000 in
theorem lensReads_many (pa : Option Addr) (n pcap : Nat) (qa : Option Addr) (qn qcap : Nat) (q : Bool) (ws : List (List UInt8)) (w : World) (hr : IsStrs w pa n ws) (hn : n ≤ 9223372036854775807) (hl : ∀ t ∈ ws, t.length ≤ 9223372036854775807) (hq : fewB ws 10 60 = false) :
    Calls Try.prog 3 #[.slice pa n pcap, .slice qa qn qcap, .bool q] w fun e w' => e = .returned (.bool true) ∧ Below w.heap.size w w' := by
  have HF := Lib.hid (few_any pa n pcap ws 10 60 w hn (by omega) (by omega) hr hl)
  rw [hq] at HF
  go_enter Try.func3, Try.ntmps3
  go_wp2_with fail
  refine HF.out.mono ?_
  rintro e w1 ⟨rfl, rfl⟩
  go_wp2_with fail
  refine (lnawake_any _).mono ?_
  rintro e w2 ⟨rfl, hb2⟩
  go_wp2
  go_ret
  exact ⟨rfl, hb2⟩
set_option maxHeartbeats 1000000 in
theorem lensReads_long (pa : Option Addr) (n pcap : Nat) (qa : Option Addr) (qn qcap : Nat) (q : Bool) (ws : List (List UInt8)) (w : World) (hr : IsStrs w pa n ws) (hq : fewB ws 10 60 = true) (hqn : qn ≤ 9223372036854775807) (h : 10 < qn) :
    Calls Try.prog 3 #[.slice pa n pcap, .slice qa qn qcap, .bool q] w fun e w' => e = .returned (.bool true) ∧ Below w.heap.size w w' := by
  obtain ⟨h1, h2⟩ := (few_iff ws 10 60).1 hq
  have HF := Lib.hid (few_any pa n pcap ws 10 60 w (by have := hr.1; omega) (by omega) (by omega) hr (fun t ht => by have := h2 t ht; omega))
  rw [hq] at HF
  have g : (10 : Int) < (qn : Int) := by omega
  go_enter Try.func3, Try.ntmps3
  go_wp2_with fail
  refine HF.out.mono ?_
  rintro e w1 ⟨rfl, rfl⟩
  go_wp2_with fail
  refine (lnawake_any _).mono ?_
  rintro e w2 ⟨rfl, hb2⟩
  go_wp2
  go_ret
  exact ⟨rfl, hb2⟩

theorem ln_facts (s : LnS) : (lnNext s).1.closed = s.closed ∧ (lnNext s).1.read.length ≤ s.read.length + 1 ∧ (lnNext s).1.rest.length ≤ s.rest.length ∧ ((lnNext s).2 = true → (lnNext s).1.read.length = s.read.length + 1 ∧ (lnLast (lnNext s).1.read).ids.length ≤ 65535) := by
  cases h : (lnNext s).2 with
  | true =>
    rw [ln_told h]
    refine ⟨rfl, by simp, tk_rest_le s.rest, fun _ => ⟨by simp, ?_⟩⟩
    rw [lnl_snoc]
    exact tk_ids_le s.rest
  | false =>
    obtain ⟨h1, h2, h3⟩ := ln_not h
    rw [h1, h2, h3]
    exact ⟨rfl, by omega, Nat.le_refl _, fun h => by cases h⟩
/-- What is known in the midst of the law. -/
structure LnMid (w wx : World) (B b sb : Nat) (L : List Rn) (r : List UInt8) (cl : Bool) (y : Int) (a : Option Addr) (m c : Nat) : Prop where
  lens : IsLn wx B b ⟨L, r, cl, y⟩
  cells : wx.heap[sb]? = some (.cells #[.slice a m c, .string ⟨r.toArray⟩, .bool cl, .int .i64 y] 31 (0, 0))
  list : LnAt wx L a m c
  below : Below w.heap.size w wx
theorem LnMid.step {w wx wy : World} {B b sb : Nat} {L : List Rn} {r : List UInt8} {cl : Bool} {y : Int} {a : Option Addr} {m c : Nat} (h : LnMid w wx B b sb L r cl y a m c) (hb : Below wx.heap.size wx wy) : LnMid w wy B b sb L r cl y a m c :=
  ⟨h.lens.below hb, (hb.block _ (heap_lt h.cells)).trans h.cells, h.list.below hb, h.below.trans (hb.mono h.below.size)⟩
/-- Behind a call of the lens. -/
theorem LnMid.call {w wx wy : World} {B b sb : Nat} {L : List Rn} {r : List UInt8} {cl : Bool} {y : Int} {a : Option Addr} {m c : Nat} (h : LnMid w wx B b sb L r cl y a m c) (hB : w.heap.size ≤ B) (hk : LnKp B wx wy) :
    wy.heap[sb]? = some (.cells #[.slice a m c, .string ⟨r.toArray⟩, .bool cl, .int .i64 y] 31 (0, 0)) ∧ LnAt wy L a m c ∧ Below w.heap.size w wy :=
  ⟨hk.2.2.2 _ _ _ h.cells, h.list.keep hk.2.1 hk.2.2.1, h.below.trans (hk.1.mono hB)⟩
/-- A store into the state's block. -/
theorem Other.put {w : World} {sb i : Nat} {cs : Array Value} {T : TypeId} (h : w.heap[sb]? = some (.cells cs T (0, 0))) (v : Value) : Other T w (w.setCell ⟨sb, i, none⟩ v) := Other.set h v

set_option maxRecDepth 100000 in
set_option maxHeartbeats 8000000 in
theorem lensReads_few (pa : Option Addr) (n pcap : Nat) (qa : Option Addr) (qn qcap : Nat) (zs : List Int) (q : Bool) (ws : List (List UInt8)) (w : World) (hr : IsStrs w pa n ws) (hq : fewB ws 10 60 = true) (hqn : qn ≤ 10) (hrow : IsRow .i64 w qa qn qcap zs) :
    Calls Try.prog 3 #[.slice pa n pcap, .slice qa qn qcap, .bool q] w fun e w' => e = .returned (.bool true) ∧ Below w.heap.size w w' := by
  obtain ⟨hn0, hl60⟩ := (few_iff ws 10 60).1 hq
  have hn : n ≤ 10 := by have := hr.1; omega
  have HF := Lib.hid (few_any pa n pcap ws 10 60 w (by omega) (by omega) (by omega) hr (fun t ht => by have := hl60 t ht; omega))
  rw [hq] at HF
  have g : ¬ (10 : Int) < (qn : Int) := by omega
  have HIS := Lib.hid hr
  have HRow := Lib.hid hrow
  have HL60 := Lib.hid hl60
  clear hr hrow hl60 hq hn0
  go_enter Try.func3, Try.ntmps3
  go_wp2_with fail
  refine HF.out.mono ?_
  rintro e w0 ⟨rfl, rfl⟩
  clear HF
  go_wp2_with fail
  refine (lnnew_any w0).mono ?_
  rintro e w1 ⟨b, rfl, hln1, hb1⟩
  have hX := heap_alloc_new w1 (.cells #[.slice none 0 0, .string ⟨#[]⟩, .bool false, .int .i64 0] 31)
  have hB := (Below.refl w1.heap.size w1).alloc (Nat.le_refl _) (.cells #[.slice none 0 0, .string ⟨#[]⟩, .bool false, .int .i64 0] 31)
  have HM0 : Hid (LnMid w0 (w1.alloc (.cells #[.slice none 0 0, .string ⟨#[]⟩, .bool false, .int .i64 0] 31)) w0.heap.size b w1.heap.size [] [] false 0 none 0 0) := Lib.hid ⟨hln1.below hB, hX, LnAt.start _, hb1.trans (hB.mono hb1.size)⟩
  have HSB := Lib.hid hb1.size
  clear hln1 hb1 hX hB
  go_wp2
  go_loopw [9] (fun i wr => ∃ (k : Nat) (L : List Rn) (r : List UInt8) (cl : Bool) (y : Int) (a : Option Addr) (m c : Nat), k ≤ n + 1 ∧ i = .int .i64 (k : Int) ∧ Hid (LnMid w0 wr w0.heap.size b w1.heap.size L r cl y a m c) ∧ Hid (L.length ≤ 30 * k ∧ r.length ≤ 60 * k) ∧ Hid (k ≤ n → cl = false)) (fun i _ => n + 1 - (RowKit.intOf i).toNat)
  case atStart => exact ⟨0, [], [], false, 0, none, 0, 0, by omega, rfl, HM0, Lib.hid (by simp), Lib.hid (fun _ => rfl)⟩
  case round =>
    obtain ⟨k, L, r, cl, y, a, m, c, hk, rfl, HM, HI, HCl⟩ := hrel
    by_cases hkn : k ≤ n
    rotate_left
    · have u1 : ¬ (k : Int) ≤ (n : Int) := by omega
      go_wp2_with fail
      refine (lnawake_any _).mono ?_
      rintro e w4 ⟨rfl, hb4⟩
      have HB4 := Lib.hid (HM.out.below.trans (hb4.mono HM.out.below.size))
      clear hb4
      go_wp2
      go_ret
      exact ⟨rfl, HB4.out⟩
    · have u1 : (k : Int) ≤ (n : Int) := by omega
      have hcl := HCl.out hkn
      subst hcl
      go_upto_if 37 with fail
      go_cut [] from 28 to 133 (fun wx => ∃ (r' : List UInt8) (cl' : Bool), Hid (LnMid w0 wx w0.heap.size b w1.heap.size L r' cl' y a m c) ∧ Hid (r'.length ≤ 60 * (k + 1)) ∧ Hid (k < n → cl' = false))
      case first =>
        by_cases hlt : k < n
        · obtain ⟨b9, off, hao, t, hf, hc0⟩ := str_at HIS.out (Below.refl w0.heap.size w0) k hlt
          subst hao
          have htl := HL60.out t (List.mem_of_getElem? hf)
          have hc := cells_below hc0 HM.out.below
          have hfd : Calls Try.prog 9 #[.pointer (some ⟨b, 0, none⟩), .string ⟨t.toArray⟩] wr fun e W' => e = .returned (.int .i64 0) ∧ IsLn W' w0.heap.size b ⟨L, r ++ t, false, y⟩ ∧ LnKp w0.heap.size wr W' := lnfeed_any HM.out.lens t (by have := HI.out.2; omega)
          have HFd := Lib.hid hfd
          have HC0 := Lib.hid hc0
          have u2 : (k : Int) < (n : Int) := by omega
          have u0 : (0 : Int) ≤ (k : Int) := by omega
          clear hf hc0 hfd
          go_wp2_with fail
          refine HFd.out.mono ?_
          rintro e w3 ⟨rfl, hln3, hk3⟩
          obtain ⟨hx3, hat3, hb3⟩ := HM.out.call (Nat.le_refl _) hk3
          have hI := (Into.refl w1.heap.size w3).set 1 (.string ⟨(r ++ t).toArray⟩)
          have HM4 : Hid (LnMid w0 (w3.setCell ⟨w1.heap.size, 1, none⟩ (.string ⟨(r ++ t).toArray⟩)) w0.heap.size b w1.heap.size L (r ++ t) false y a m c) := Lib.hid ⟨hln3.other (.inl rfl) (Other.put hx3 _), put_heap hx3 (i := 1) _, hat3.keep (Keep.into hI hx3 (by decide)) (Keep.into hI hx3 (by decide)), hb3.setCell (p := ⟨w1.heap.size, 1, none⟩) HSB.out _⟩
          have HM4d := Lib.hid (HM4.out.step (Below.refl _ _).drew)
          obtain ⟨_, s1, _, _⟩ := rec_reads hx3
          have f1 : w3.frozen? ⟨w1.heap.size, 1, none⟩ = false := Lib.frozen_of_heap hx3 1
          have hc3 := cells_below HC0.out hb3
          have hadd := pn_app r t
          have S1 := Lib.hid (bsize r)
          have S2 := Lib.hid (bsize t)
          have z1 : ¬ 9223372036854775807 < r.length + t.length := by have := HI.out.2; omega
          have HI2 : Hid ((r ++ t).length ≤ 60 * (k + 1)) := Lib.hid (by rw [List.length_append]; have := HI.out.2; omega)
          clear hln3 hk3 hx3 hat3 hb3 hI hc HFd
          go_wp2_with fail
          go_region
          all_goals
            go_wp2_with fail
            go_meet
            exact ⟨r ++ t, false, by first | exact HM4 | exact HM4d, HI2, Lib.hid (fun _ => rfl)⟩
        · have u2 : ¬ (k : Int) < (n : Int) := by omega
          cases q with
          | false =>
            go_wp2_with fail
            go_meet
            exact ⟨r, false, HM, Lib.hid (by have := HI.out.2; omega), Lib.hid (fun h => by omega)⟩
          | true =>
            have HCs := Lib.hid (lnclose_any HM.out.lens)
            go_wp2_with fail
            refine HCs.out.mono ?_
            rintro e w3 ⟨rfl, hln3, hk3⟩
            obtain ⟨hx3, hat3, hb3⟩ := HM.out.call (Nat.le_refl _) hk3
            have hI := (Into.refl w1.heap.size w3).set 2 (.bool true)
            have HM4 : Hid (LnMid w0 (w3.setCell ⟨w1.heap.size, 2, none⟩ (.bool true)) w0.heap.size b w1.heap.size L r true y a m c) := Lib.hid ⟨hln3.other (.inl rfl) (Other.put hx3 _), put_heap hx3 (i := 2) _, hat3.keep (Keep.into hI hx3 (by decide)) (Keep.into hI hx3 (by decide)), hb3.setCell (p := ⟨w1.heap.size, 2, none⟩) HSB.out _⟩
            obtain ⟨_, _, s2, _⟩ := rec_reads hx3
            have f2 : w3.frozen? ⟨w1.heap.size, 2, none⟩ = false := Lib.frozen_of_heap hx3 2
            obtain ⟨w4, hw4⟩ : ∃ w4, w3.setCell ⟨w1.heap.size, 2, none⟩ (.bool true) = w4 := ⟨_, rfl⟩
            rw [hw4] at HM4
            have hfd : Calls Try.prog 9 #[.pointer (some ⟨b, 0, none⟩), .string ⟨#[120]⟩] w4 fun e W' => e = .returned (.int .i64 12) ∧ IsLn W' w0.heap.size b ⟨L, r, true, y⟩ ∧ LnKp w0.heap.size w4 W' := lnfeed_any HM4.out.lens [120] (by have := HI.out.2; simp; omega)
            have HFd := Lib.hid hfd
            clear hln3 hk3 hx3 hat3 hb3 hI hfd HCs
            go_wp2_with fail
            try rw [hw4]
            refine HFd.out.mono ?_
            rintro e w5 ⟨rfl, hln5, hk5⟩
            obtain ⟨hx5, hat5, hb5⟩ := HM4.out.call (Nat.le_refl _) hk5
            have HM5 : Hid (LnMid w0 w5 w0.heap.size b w1.heap.size L r true y a m c) := Lib.hid ⟨hln5, hx5, hat5, hb5⟩
            clear hln5 hk5 hx5 hat5 hb5 HFd hw4
            go_wp2_with fail
            go_meet
            exact ⟨r, true, HM5, Lib.hid (by have := HI.out.2; omega), Lib.hid (fun h => by omega)⟩
      case rest =>
        obtain ⟨r', cl', HMc, HIc, HClc⟩ := hcut
        clear HM
        go_upto_if 63 with fail
        go_cut [10] from 28 to 133 (fun v wx => ∃ N : Nat, v = .int .i64 (N : Int) ∧ N ≤ 30 ∧ Hid (LnMid w0 wx w0.heap.size b w1.heap.size L r' cl' y a m c))
        case first =>
          by_cases hka : k < qn
          · have u3 : (k : Int) < (qn : Int) := by omega
            have u0 : (0 : Int) ≤ (k : Int) := by omega
            rcases HRow.out with h | ⟨b8, off8, hqa, h1, h2, h3, h4⟩
            · omega
            · have hc := cells_below (h4 k (by omega)) HMc.out.below
              obtain ⟨c7, hc7, e7⟩ := mask_at (zs.getD k 0) 7 (by omega)
              have e7' : bits .and .i64 (zs.getD k 0) 7 = (c7 : Int) := e7
              have HC7 := Lib.hid hc7
              subst hqa
              generalize zs.getD k 0 = z at hc e7'
              clear h1 h2 h3 h4 e7 hc7
              go_wp2_with fail
              go_meet
              exact ⟨c7, rfl, by have := HC7.out; omega, HMc⟩
          · have u3 : ¬ (k : Int) < (qn : Int) := by omega
            go_wp2_with fail
            go_meet
            exact ⟨30, rfl, by omega, HMc⟩
        case rest =>
          obtain ⟨N, rfl, hN, HMd⟩ := hcut
          clear HMc
          go_wp2
          go_loopw [11] (fun v wr => ∃ (j : Nat) (L2 : List Rn) (r2 : List UInt8) (y2 : Int) (a2 : Option Addr) (m2 c2 : Nat), j ≤ N ∧ v = .int .i64 (j : Int) ∧ Hid (LnMid w0 wr w0.heap.size b w1.heap.size L2 r2 cl' y2 a2 m2 c2) ∧ Hid (L2.length ≤ 30 * k + j ∧ r2.length ≤ 60 * (k + 1))) (fun v _ => N - (RowKit.intOf v).toNat)
          case atStart => exact ⟨0, L, r', y, a, m, c, Nat.zero_le _, rfl, HMd, Lib.hid ⟨by have := HI.out.1; omega, HIc.out⟩⟩
          case round =>
            obtain ⟨j, L2, r2, y2, a2, m2, c2, hj, rfl, HMj, HIj⟩ := hrel
            by_cases hjn : j < N
            · have u4 : (j : Int) < (N : Int) := by omega
              have hm2 : m2 ≤ 1000 := by have h1 := HMj.out.list.1; have h2 := HIj.out.1; omega
              have hr2 : r2.length ≤ 1000 := by have h2 := HIj.out.2; omega
              have HNx := Lib.hid (lnnext_any HMj.out.lens (by show r2.length ≤ 1000000; omega))
              have HNr := Lib.hid (fun (V : World) (hV : LnAt V L2 a2 m2 c2) => lnnext_ref (W := V) L2 r2 cl' y2 hV (by omega) (by omega))
              unfold RetLn at HNr
              have hfa := ln_facts ⟨L2, r2, cl', y2⟩
              generalize lnNext ⟨L2, r2, cl', y2⟩ = Q at HNx HNr hfa
              obtain ⟨⟨L3, r3, cl3, y3⟩, β⟩ := Q
              dsimp only at HNx HNr hfa
              obtain ⟨f1, f2, f3, f4⟩ := hfa
              have f1 := f1.symm
              subst f1
              have HI3 : Hid (L3.length ≤ 30 * k + (j + 1) ∧ r3.length ≤ 60 * (k + 1)) := Lib.hid ⟨by have := HIj.out.1; omega, by have := HIj.out.2; omega⟩
              have HF4 := Lib.hid f4
              clear f2 f3 f4 hr2
              go_wp2_with fail
              refine HNx.out.mono ?_
              rintro e w2 ⟨⟨xk, xn, xr, xa, xl, xc⟩, rfl, hsay, hln2, hk2⟩
              obtain ⟨hx2, hat2, hb2⟩ := HMj.out.call (Nat.le_refl _) hk2
              have hXr := heap_alloc_new w2 (.cells #[.int .i64 xk, .int .i64 xn, .int .i64 xr, .slice xa xl xc] 34)
              have hBr := (Below.refl w2.heap.size w2).alloc (Nat.le_refl _) (.cells #[.int .i64 xk, .int .i64 xn, .int .i64 xr, .slice xa xl xc] 34)
              have hx2' := (hBr.block _ (heap_lt hx2)).trans hx2
              have HNr2 := Lib.hid (HNr.out _ (hat2.below hBr))
              have HSay := Lib.hid (hsay.below hBr)
              have HLn2 := Lib.hid (hln2.below hBr)
              have HB2 := Lib.hid (hb2.trans (hBr.mono hb2.size))
              have HXr := Lib.hid hXr
              have HX2 := Lib.hid hx2'
              obtain ⟨c0, c1, c2', c3'⟩ := rec_reads hx2'
              clear hsay hln2 hk2 hx2 hat2 hb2 hXr hBr hx2' HNx HNr
              try dsimp only at HSay
              go_wp2_with fail
              refine HNr2.out.mono ?_
              rintro e w5 ⟨a3, c3, rfl, hat3, hb5⟩
              cases β with
              | true =>
                obtain ⟨g1, g2⟩ := HF4.out rfl
                rw [if_pos rfl] at HSay
                obtain ⟨p, hp⟩ : ∃ p, L3.length = p + 1 := ⟨_, g1⟩
                rw [hp] at hat3 ⊢
                have hXs := heap_alloc_new w5 (.cells #[.slice a3 (p + 1) c3, .string ⟨r3.toArray⟩, .bool cl', .int .i64 y3] 31)
                have hBs := (Below.refl w5.heap.size w5).alloc (Nat.le_refl _) (.cells #[.slice a3 (p + 1) c3, .string ⟨r3.toArray⟩, .bool cl', .int .i64 y3] 31)
                have HXs := Lib.hid hXs
                have hr5 := (hBs.block _ (heap_lt ((hb5.block _ (heap_lt HXr.out)).trans HXr.out))).trans ((hb5.block _ (heap_lt HXr.out)).trans HXr.out)
                have HX5 := Lib.hid ((hBs.block _ (heap_lt ((hb5.block _ (heap_lt HX2.out)).trans HX2.out))).trans ((hb5.block _ (heap_lt HX2.out)).trans HX2.out))
                have HSa5 := Lib.hid ((HSay.out.below hb5).below hBs)
                have HLn5 := Lib.hid ((HLn2.out.below hb5).below hBs)
                have HAt5 := Lib.hid (hat3.below hBs)
                have HB5 := Lib.hid (HB2.out.trans ((hb5.trans (hBs.mono hb5.size)).mono HB2.out.size))
                obtain ⟨p0, p1, p2, p3⟩ := rec_reads hXs
                obtain ⟨t0, t1, t2, t3⟩ := rec_reads hr5
                obtain ⟨bz, oz, ⟨zk, zn, zr, za, zl, zc⟩, rfl, hsz, z0, z1, z2, z3⟩ := HAt5.out.get
                obtain ⟨e1, e2, e3, e4, e5⟩ := HSa5.out
                obtain ⟨d1, d2, d3, d4, d5⟩ := hsz
                dsimp only at e1 e2 e3 e4 d1 d2 d3 d4 z0 z1 z2 z3
                generalize lnLast L3 = Y at e1 e2 e3 e4 e5 d1 d2 d3 d4 d5 g2
                obtain ⟨yk, yn, yr, yi⟩ := Y
                dsimp only at e1 e2 e3 e4 e5 d1 d2 d3 d4 d5 g2
                subst e1 e2 e3 e4 d1 d2 d3 d4
                have G1 := regrown_at (w := (w5.alloc (.cells #[.slice (some ⟨bz, oz, none⟩) (p + 1) c3, .string ⟨r3.toArray⟩, .bool cl', .int .i64 y3] 31))) (fun V hV => mgsame_any zk zn zr yi.length xa za xc zc yi V (by omega) ((e5.row (by unfold maxLen; omega)).below hV) ((d5.row (by unfold maxLen; omega)).below hV))
                have m0 := cell_regrown p0
                have n0 := cell_regrown t0
                have n1 := cell_regrown t1
                have n2 := cell_regrown t2
                have n3 := cell_regrown t3
                have o0 := cell_regrown z0
                have o1 := cell_regrown z1
                have o2 := cell_regrown z2
                have o3 := cell_regrown z3
                have m3 := cell_regrown p3
                have v0 : (0 : Int) ≤ (p : Int) := by omega
                have v1 : IntKind.i64.wrap (((p : Int) + 1) - 1) = (p : Int) := by rw [IntKind.wrap_i64]; have := HI3.out.1; omega
                have v2 : (p : Int) < (p : Int) + 1 := by omega
                have v4 : (p : Int) ≤ 1000000 := by have := HI3.out.1; omega
                have v5 : IntKind.i64.wrap (p : Int) = (p : Int) := by rw [IntKind.wrap_i64]; omega
                have r1 : (y3 == y3) = true := by simp
                have r2' : (y3 != y3) = false := by simp
                clear c0 c1 c2' c3' hat3 hb5 hXs hBs hr5 g1 g2 hp e5 d5
                go_wp2_with fail
                refine wp_region_quiet_below follows_mixed (by kernel_rfl) ?_
                repeat (go_big_quiet_step (first | with_reducible exact G1 _ _))
                refine wpQuiet_nil ?_
                intro W6 hw6
                obtain ⟨⟨dq, osq⟩, rfl⟩ := hw6
                have b6 := below_regrown (w5.alloc (.cells #[.slice (some ⟨bz, oz, none⟩) (p + 1) c3, .string ⟨r3.toArray⟩, .bool cl', .int .i64 y3] 31)) dq osq
                generalize Go.Sort.grow (redrawn (w5.alloc (.cells #[.slice (some ⟨bz, oz, none⟩) (p + 1) c3, .string ⟨r3.toArray⟩, .bool cl', .int .i64 y3] 31)) dq) osq = w6 at b6 ⊢
                clear p0 p1 p2 p3 t0 t1 t2 t3 z0 z1 z2 z3 m0 n0 n1 n2 n3 o0 o1 o2 o3 m3
                have hxs6 := (b6.block _ (heap_lt HXs.out)).trans HXs.out
                have hx6 := (b6.block _ (heap_lt HX5.out)).trans HX5.out
                obtain ⟨y0, y1, y2', y3'⟩ := rec_reads hxs6
                obtain ⟨f0, f1, f2, f3⟩ := rec_free hx6
                obtain ⟨j0, j1, j2, j3⟩ := rec_reads hx6
                have HX7 := Lib.hid (put_rec hx6 (.slice (some ⟨bz, oz, none⟩) (p + 1) c3) (.string ⟨r3.toArray⟩) (.bool cl') (.int .i64 y3))
                have hI := lninto4 w6 w1.heap.size (.slice (some ⟨bz, oz, none⟩) (p + 1) c3) (.string ⟨r3.toArray⟩) (.bool cl') (.int .i64 y3)
                have ho : Other 31 w6 ((((w6.setCell ⟨w1.heap.size, 0, none⟩ (.slice (some ⟨bz, oz, none⟩) (p + 1) c3)).setCell ⟨w1.heap.size, 1, none⟩ (.string ⟨r3.toArray⟩)).setCell ⟨w1.heap.size, 2, none⟩ (.bool cl')).setCell ⟨w1.heap.size, 3, none⟩ (.int .i64 y3)) := (((Other.put hx6 _).trans (Other.put (put_heap hx6 _) _)).trans (Other.put (put_heap (put_heap hx6 _) _) _)).trans (Other.put (put_heap (put_heap (put_heap hx6 _) _) _) _)
                have HM7 : Hid (LnMid w0 ((((w6.setCell ⟨w1.heap.size, 0, none⟩ (.slice (some ⟨bz, oz, none⟩) (p + 1) c3)).setCell ⟨w1.heap.size, 1, none⟩ (.string ⟨r3.toArray⟩)).setCell ⟨w1.heap.size, 2, none⟩ (.bool cl')).setCell ⟨w1.heap.size, 3, none⟩ (.int .i64 y3)) w0.heap.size b w1.heap.size L3 r3 cl' y3 (some ⟨bz, oz, none⟩) (p + 1) c3) := Lib.hid ⟨(HLn5.out.below b6).other (.inl rfl) ho, HX7.out, (HAt5.out.below b6).keep (Keep.into hI hx6 (by decide)) (Keep.into hI hx6 (by decide)), below_rec (HB5.out.trans (b6.mono HB5.out.size)) HSB.out _ _ _ _⟩
                clear hxs6 hx6 hI ho b6 G1
                go_wp2
                exact ⟨⟨j + 1, L3, r3, y3, (some ⟨bz, oz, none⟩), (p + 1), c3, by omega, by go_num, HM7, HI3⟩, by simp [RowKit.intOf]; omega⟩
              | false =>
                rw [if_neg (by decide)] at HSay
                obtain ⟨p, hp⟩ : ∃ p, L3.length = p := ⟨_, rfl⟩
                rw [hp] at hat3 ⊢
                have hXs := heap_alloc_new w5 (.cells #[.slice a3 p c3, .string ⟨r3.toArray⟩, .bool cl', .int .i64 y3] 31)
                have hBs := (Below.refl w5.heap.size w5).alloc (Nat.le_refl _) (.cells #[.slice a3 p c3, .string ⟨r3.toArray⟩, .bool cl', .int .i64 y3] 31)
                have HXs := Lib.hid hXs
                have hr5 := (hBs.block _ (heap_lt ((hb5.block _ (heap_lt HXr.out)).trans HXr.out))).trans ((hb5.block _ (heap_lt HXr.out)).trans HXr.out)
                have HX5 := Lib.hid ((hBs.block _ (heap_lt ((hb5.block _ (heap_lt HX2.out)).trans HX2.out))).trans ((hb5.block _ (heap_lt HX2.out)).trans HX2.out))
                have HSa5 := Lib.hid ((HSay.out.below hb5).below hBs)
                have HLn5 := Lib.hid ((HLn2.out.below hb5).below hBs)
                have HAt5 := Lib.hid (hat3.below hBs)
                have HB5 := Lib.hid (HB2.out.trans ((hb5.trans (hBs.mono hb5.size)).mono HB2.out.size))
                obtain ⟨p0, p1, p2, p3⟩ := rec_reads hXs
                obtain ⟨t0, t1, t2, t3⟩ := rec_reads hr5
                obtain ⟨e1, e2, e3, e4, e5⟩ := HSa5.out
                dsimp only [rn0] at e1 e2 e3 e4 e5
                subst e1 e2 e3
                have e4' : xl = 0 := e4
                subst e4'
                have G1 := regrown_at (w := (w5.alloc (.cells #[.slice a3 p c3, .string ⟨r3.toArray⟩, .bool cl', .int .i64 y3] 31))) (fun V hV => mgsame_any 0 0 0 0 xa none xc 0 [] V (by decide) (.inl rfl) (.inl rfl))
                have m3 := cell_regrown p3
                have n0 := cell_regrown t0
                have n1 := cell_regrown t1
                have n2 := cell_regrown t2
                have n3 := cell_regrown t3
                have r1 : (y3 == y3) = true := by simp
                have r2' : (y3 != y3) = false := by simp
                clear c0 c1 c2' c3' hat3 hb5 hXs hBs hr5 hp e4 e5
                go_wp2_with fail
                refine wp_region_quiet_below follows_mixed (by kernel_rfl) ?_
                repeat (go_big_quiet_step (first | with_reducible exact G1 _ _))
                refine wpQuiet_nil ?_
                intro W6 hw6
                obtain ⟨⟨dq, osq⟩, rfl⟩ := hw6
                have b6 := below_regrown (w5.alloc (.cells #[.slice a3 p c3, .string ⟨r3.toArray⟩, .bool cl', .int .i64 y3] 31)) dq osq
                generalize Go.Sort.grow (redrawn (w5.alloc (.cells #[.slice a3 p c3, .string ⟨r3.toArray⟩, .bool cl', .int .i64 y3] 31)) dq) osq = w6 at b6 ⊢
                clear p0 p1 p2 p3 t0 t1 t2 t3 m3 n0 n1 n2 n3
                have hxs6 := (b6.block _ (heap_lt HXs.out)).trans HXs.out
                have hx6 := (b6.block _ (heap_lt HX5.out)).trans HX5.out
                obtain ⟨y0, y1, y2', y3'⟩ := rec_reads hxs6
                obtain ⟨f0, f1, f2, f3⟩ := rec_free hx6
                obtain ⟨j0, j1, j2, j3⟩ := rec_reads hx6
                have HX7 := Lib.hid (put_rec hx6 (.slice a3 p c3) (.string ⟨r3.toArray⟩) (.bool cl') (.int .i64 y3))
                have hI := lninto4 w6 w1.heap.size (.slice a3 p c3) (.string ⟨r3.toArray⟩) (.bool cl') (.int .i64 y3)
                have ho : Other 31 w6 ((((w6.setCell ⟨w1.heap.size, 0, none⟩ (.slice a3 p c3)).setCell ⟨w1.heap.size, 1, none⟩ (.string ⟨r3.toArray⟩)).setCell ⟨w1.heap.size, 2, none⟩ (.bool cl')).setCell ⟨w1.heap.size, 3, none⟩ (.int .i64 y3)) := (((Other.put hx6 _).trans (Other.put (put_heap hx6 _) _)).trans (Other.put (put_heap (put_heap hx6 _) _) _)).trans (Other.put (put_heap (put_heap (put_heap hx6 _) _) _) _)
                have HM7 : Hid (LnMid w0 ((((w6.setCell ⟨w1.heap.size, 0, none⟩ (.slice a3 p c3)).setCell ⟨w1.heap.size, 1, none⟩ (.string ⟨r3.toArray⟩)).setCell ⟨w1.heap.size, 2, none⟩ (.bool cl')).setCell ⟨w1.heap.size, 3, none⟩ (.int .i64 y3)) w0.heap.size b w1.heap.size L3 r3 cl' y3 a3 p c3) := Lib.hid ⟨(HLn5.out.below b6).other (.inl rfl) ho, HX7.out, (HAt5.out.below b6).keep (Keep.into hI hx6 (by decide)) (Keep.into hI hx6 (by decide)), below_rec (HB5.out.trans (b6.mono HB5.out.size)) HSB.out _ _ _ _⟩
                clear hxs6 hx6 hI ho b6 G1
                go_wp2
                exact ⟨⟨j + 1, L3, r3, y3, a3, p, c3, by omega, by go_num, HM7, HI3⟩, by simp [RowKit.intOf]; omega⟩
            · have u4 : ¬ (j : Int) < (N : Int) := by omega
              have hm2 : m2 ≤ 1000 := by have h1 := HMj.out.list.1; have h2 := HIj.out.1; omega
              have G1 := regrown_at (w := wr) (fun V hV => lnheld_any (HMj.out.lens.below hV))
              have G2 := regrown_at (w := wr) (fun V hV => lnended_any (HMj.out.lens.below hV))
              have G3 := regrown_at (w := wr) (fun V hV => lnended_ref ⟨r2.toArray⟩ cl' y2 (HMj.out.list.below hV) (by omega))
              dsimp only at G1 G2 G3
              generalize decide ((lnLast L2).k = 6) = β at G2 G3
              obtain ⟨c0, c1, c2', c3'⟩ := rec_reads HMj.out.cells
              have m0 := cell_regrown c0
              have m1 := cell_regrown c1
              have m2' := cell_regrown c2'
              have m3' := cell_regrown c3'
              have S1 := Lib.hid (bsize r2)
              have r1 : (((r2.length : Nat) : Int) == (r2.length : Int)) = true := by simp
              have r2' : (((r2.length : Nat) : Int) != (r2.length : Int)) = false := by simp
              have r3 : (β == β) = true := by simp
              have r4 : (β != β) = false := by simp
              clear c0 c1 c2' c3'
              go_wp2_with fail
              refine wp_region_quiet_below follows_mixed (by kernel_rfl) ?_
              repeat (go_big_quiet_step (first | with_reducible exact G1 _ _ | with_reducible exact G2 _ _ | with_reducible exact G3 _ _))
              refine wpQuiet_nil ?_
              intro W6 hw6
              obtain ⟨⟨dq, osq⟩, rfl⟩ := hw6
              have b6 := below_regrown wr dq osq
              generalize Go.Sort.grow (redrawn wr dq) osq = w6 at b6 ⊢
              have HM6 := Lib.hid (HMj.out.step b6)
              have HI6 : Hid (L2.length ≤ 30 * (k + 1) ∧ r2.length ≤ 60 * (k + 1)) := Lib.hid ⟨by have := HIj.out.1; omega, HIj.out.2⟩
              have HC6 : Hid (k + 1 ≤ n → cl' = false) := Lib.hid (fun h => HClc.out (by omega))
              clear b6 G1 G2 G3 m0 m1 m2' m3'
              go_wp2
              exact ⟨⟨k + 1, L2, r2, cl', y2, a2, m2, c2, by omega, by go_num, HM6, HI6, HC6⟩, by simp [RowKit.intOf]; omega⟩

theorem lensReads_walk (pa : Option Addr) (n pcap : Nat) (qa : Option Addr) (qn qcap : Nat) (zs : List Int) (q : Bool) (ws : List (List UInt8)) (w : World) (hr : IsStrs w pa n ws) (hn : n ≤ 9223372036854775807) (hl : ∀ t ∈ ws, t.length ≤ 9223372036854775807) (hqn : qn ≤ 9223372036854775807) (hrow : IsRow .i64 w qa qn qcap zs) :
    Calls Try.prog 3 #[.slice pa n pcap, .slice qa qn qcap, .bool q] w fun e w' => e = .returned (.bool true) ∧ Below w.heap.size w w' := by
  cases hq : fewB ws 10 60 with
  | false => exact lensReads_many pa n pcap qa qn qcap q ws w hr hn hl hq
  | true =>
    by_cases h : 10 < qn
    · exact lensReads_long pa n pcap qa qn qcap q ws w hr hq hqn h
    · exact lensReads_few pa n pcap qa qn qcap zs q ws w hr hq (by omega) hrow
end Go.Proofs.Ytjmaccflnfaiiaa
