/-
  bucket.New: walked.
-/
import Derived.Test.YtnmehjgojedpnaaBuW
import Derived.Test.YtnmehjgojedpnaaBuO
import Derived.Test.YtnmehjgojedpnaaPtLa
import Derived.Deep.RegionWith
set_option linter.unusedSimpArgs false
set_option linter.unusedVariables false
namespace Go.Proofs.Ytnmehjgojedpnaa
open Go.RowKit

/-- The cells of empty buckets. -/
def buZeros : Array Value := (List.replicate 256 [Value.slice none 0 0, Value.int .i64 0]).flatten.toArray
theorem bu_built : Try.prog.built 59 [] = some buZeros := by kernel_rfl
theorem twos_at (x y : Value) : ∀ (n c : Nat), c < n → (List.replicate n [x, y]).flatten[c * 2]? = some x ∧ (List.replicate n [x, y]).flatten[c * 2 + 1]? = some y
  | 0, c, h => by omega
  | n + 1, 0, _ => by simp [List.replicate_succ]
  | n + 1, c + 1, h => by
    have ih := twos_at x y n c (by omega)
    rw [List.replicate_succ, List.flatten_cons]
    simp only [show (c + 1) * 2 = c * 2 + 1 + 1 by omega, List.cons_append, List.nil_append, List.getElem?_cons_succ]
    exact ih
theorem buZeros_at (c : Nat) (h : c < 256) : buZeros[c * 2]? = some (.slice none 0 0) ∧ buZeros[c * 2 + 1]? = some (.int .i64 0) := by
  have h1 := twos_at (.slice none 0 0) (.int .i64 0) 256 c h
  unfold buZeros
  rw [List.getElem?_toArray, List.getElem?_toArray]
  exact h1

theorem wpList_built {P : Program} {w : World} {ops : Array Oper} {rest : List Oper} {o : Oper} {a : Act} {Q : Exit → Act → World → Prop} (hg : o.guard = none) (t : TypeId) (ho : o.op = .build t #[]) (cells : Array Value) (hc : P.built t [] = some cells)
    (h : wpList P ops Q rest (a.put o.dst (.agg cells)) w) : wpList P ops Q (o :: rest) a w :=
  wpList_build hg t #[] ho (by simp [hc]) (by simpa [hc] using h)

theorem IsBks.heap {w W : World} {base b : Nat} {I : Nat → List Int} {L : Nat → Nat} (h : IsBks w base b I L) (e : W.heap = w.heap) : IsBks W base b I L := by
  unfold IsBks World.ownsRow at *
  rw [e]
  exact h
theorem IsBks.congr {w : World} {base b : Nat} {I I' : Nat → List Int} {L L' : Nat → Nat} (h : IsBks w base b I L) (e : ∀ c, I c = I' c) (f : ∀ c, L c = L' c) : IsBks w base b I' L' := by
  rw [← funext e, ← funext f]
  exact h
theorem bks_fresh (w : World) : IsBks (w.alloc (.cells buZeros 59)) (w.heap.size + 1) w.heap.size (fun _ => []) (fun _ => 0) :=
  ⟨by omega, by simp, buZeros, fun _ => .slice none 0 0, heap_alloc_new w _, fun c hc => ⟨(buZeros_at c hc).1, (buZeros_at c hc).2, World.ownsRow_nil _ _ _ _⟩, fun _ _ _ _ _ g h => by cases h⟩
/-- A store ahead of all that the buckets own. -/
theorem HasBks.setCell {w : World} {b k i : Nat} {I : Nat → List Int} {L : Nat → Nat} (h : HasBks w (.pointer (some ⟨b, 0, none⟩)) I L) (hk : k < b) (u : Value) : HasBks (w.setCell ⟨k, i, none⟩ u) (.pointer (some ⟨b, 0, none⟩)) I L := by
  rcases h with ⟨h, _⟩ | ⟨base, b', e, h1, h2, cs, v, h3, h4, h5⟩
  · cases h
  · cases e
    refine .inr ⟨base, b, rfl, h1, by simpa [World.setCell] using h2, cs, v, (put_other (by omega) _).trans h3, fun c hc => ?_, h5⟩
    obtain ⟨a1, a2, a3⟩ := h4 c hc
    exact ⟨a1, a2, ((Into.refl k w).set _ _).owns (by omega) a3⟩
theorem But.drewN {base b : Nat} {w w' : World} (h : But base b w w') (n : Nat) : But base b (w.drewN n) w' := ⟨h.os, h.tape, h.output, h.size, h.block⟩

set_option maxRecDepth 100000 in
set_option maxHeartbeats 4000000 in
theorem bunew_by (p : Value) (ws : List (List UInt8)) (w : World) (hn : ws.length ≤ 1000000) (he : ∀ t ∈ ws, 0 < t.length ∧ t.length ≤ 1000000)
    (hL : ∀ W, Below w.heap.size w W → Calls Try.prog 18 #[p] W fun e w' => e = .returned (.int .i64 (ws.length : Int)) ∧ w' = W)
    (hA : ∀ (W : World) (k : Nat) (t : List UInt8), Below w.heap.size w W → ws[k]? = some t → Calls Try.prog 17 #[p, .int .i64 (k : Int)] W fun e w' => e = .returned (.tuple #[.string ⟨t.toArray⟩, .bool true]) ∧ w' = W) :
    Calls Try.prog 9 #[p] w fun e w' => ∃ b, e = .returned (.pointer (some ⟨b, 0, none⟩)) ∧ w.heap.size ≤ b ∧ HasBks w' (.pointer (some ⟨b, 0, none⟩)) (idsL ws) (lstL ws) ∧ Below w.heap.size w w' := by
  have HLn := Lib.hid hL
  have HA := Lib.hid hA
  have HE := Lib.hid he
  clear hL hA he
  have hb := bu_built
  have HZ := Lib.hid (bks_fresh w)
  have B0 : Below w.heap.size w (w.alloc (.cells buZeros 59)) := (Below.refl _ w).alloc (Nat.le_refl _) _
  generalize buZeros = zc at hb HZ B0
  go_enter Try.func9, Try.ntmps9
  go_wp2_with (refine wpList_built rfl 59 rfl zc hb ?_)
  refine (HLn.out _ B0).mono ?_
  rintro e w' ⟨rfl, rfl⟩
  have hsz := B0.size
  obtain ⟨W0, hW0⟩ : ∃ W0, w.alloc (.cells zc 59) = W0 := ⟨_, rfl⟩
  have hs0 : W0.heap.size = w.heap.size + 1 := by rw [← hW0]; simp
  rw [hW0] at HZ B0 ⊢
  clear hW0 hsz hb
  obtain ⟨b, hb⟩ : ∃ b, w.heap.size = b := ⟨_, rfl⟩
  rw [hb] at HZ hs0 ⊢
  have HBE := Lib.hid hb
  clear hb
  have HB0 : Hid (Below w.heap.size w W0) := Lib.hid B0
  clear B0
  obtain ⟨n, hnn⟩ : ∃ n, ws.length = n := ⟨_, rfl⟩
  rw [hnn] at hn ⊢
  have HNN := Lib.hid hnn
  clear hnn
  go_wp2
  go_loopw [11] (fun i wr => ∃ k : Nat, k ≤ n ∧ i = .int .i64 k ∧ Hid (IsBks wr (b + 1) b (fun c => idsK ws c k) (fun c => lstA ws (idsK ws c k))) ∧ Hid (Below w.heap.size w wr)) (fun i _ => n - (RowKit.intOf i).toNat)
  case atStart => exact ⟨0, Nat.zero_le _, rfl, HZ, HB0⟩
  case round =>
    obtain ⟨k, hk, rfl, HK, HBe⟩ := hrel
    by_cases hlt : k < n
    · obtain ⟨t, hf⟩ : ∃ t, ws[k]? = some t := ⟨_, List.getElem?_eq_getElem (show k < ws.length by rw [HNN.out]; exact hlt)⟩
      have htl := HE.out t (List.mem_of_getElem? hf)
      have htl1 := htl.2
      have HA1 := Lib.hid (HA.out wr k t HBe.out hf)
      have S1 := Lib.hid (bsize t)
      obtain ⟨m, hm⟩ : ∃ m, m + 1 = t.length := ⟨t.length - 1, by omega⟩
      have hml : m < t.length := by omega
      have hmz : m < (⟨t.toArray⟩ : ByteArray).size := by rw [bsize]; omega
      have w1 : IntKind.i64.wrap ((t.length : Int) - 1) = (m : Int) := by rw [IntKind.wrap_i64]; omega
      obtain ⟨c, hc, hl, hx⟩ := lastN_some htl.1
      have hq : ((⟨t.toArray⟩ : ByteArray)[m]'hmz).toNat = c := by
        rw [byteAt t m hml hmz, ← hx]
        congr 2
        omega
      have g0 : (0 : Int) ≤ (c : Int) := by omega
      have g1 : (c : Int) < 256 := by omega
      have HAdd := Lib.hid (fun (W : World) (e : W.heap = wr.heap) => buadd_any (b + 1) b c _ _ k t.length W (HK.out.heap e) hc (by omega) htl1 (Nat.le_trans (ids_length ws c k) (by omega)))
      have HHit := Lib.hid (ids_hit (ws := ws) (c := c) (k := k) ((ends_of hf).2 hl))
      have HMiss := Lib.hid (fun d (hd : d ≠ c) => ids_miss (ws := ws) (c := d) (k := k) (fun h => hd (Option.some.inj (((ends_of hf).1 h).symm.trans hl))))
      have HLst := Lib.hid (show lstA ws (idsK ws c k ++ [(k : Int)]) = _ from lst_snoc ws (idsK ws c k) (k : Int))
      have HLen := Lib.hid (lenAt_of hf)
      clear hf hl hx hm htl
      go_wp2_with fail
      refine HA1.out.mono ?_
      rintro e w' ⟨rfl, rfl⟩
      go_wp2_with fail
      go_region_with (go_at_call 25; refine (HAdd.out _ (by rfl)).mono ?_; rintro e w3 ⟨rfl, hK3, hB3⟩)
      have HK4 : Hid (IsBks w3 (b + 1) b (fun d => idsK ws d (k + 1)) (fun d => lstA ws (idsK ws d (k + 1)))) := Lib.hid (hK3.congr (fun d => by
        by_cases hd : d = c
        · subst hd; rw [if_pos rfl, HHit.out]
        · rw [if_neg hd, HMiss.out d hd]) (fun d => by
        by_cases hd : d = c
        · subst hd; rw [if_pos rfl, HHit.out, HLst.out, HLen.out]
        · rw [if_neg hd, HMiss.out d hd]))
      have HB4 : Hid (Below w.heap.size w w3) := Lib.hid (HBe.out.drew.trans (by have h := hB3.below (Nat.le_succ b); rw [HBE.out]; exact h))
      clear hK3 hB3 HK HBe HA1 HAdd
      go_wp2
      exact ⟨⟨k + 1, by omega, by go_num, HK4, HB4⟩, by simp [RowKit.intOf]; omega⟩
    · obtain rfl : k = n := by omega
      have hz : ¬ (k : Int) < (k : Int) := by omega
      have HI : Hid (HasBks wr (.pointer (some ⟨b, 0, none⟩)) (idsL ws) (lstL ws)) := Lib.hid (.inr ⟨b + 1, b, rfl, HK.out.congr (fun c => by unfold idsL; rw [HNN.out]) (fun c => by unfold lstL idsL; rw [HNN.out])⟩)
      clear HK
      go_wp2
      go_ret
      exact ⟨b, rfl, Nat.le_of_eq HBE.out, HI.out, HBe.out⟩

theorem bunew_nil (w : World) : Calls Try.prog 9 #[.pointer none] w fun e w' => ∃ b, e = .returned (.pointer (some ⟨b, 0, none⟩)) ∧ w.heap.size ≤ b ∧ HasBks w' (.pointer (some ⟨b, 0, none⟩)) (idsL []) (lstL []) ∧ Below w.heap.size w w' :=
  bunew_by (.pointer none) [] w (by simp) (by simp) (fun W _ => ptlen_nil W) (fun W k t _ h => by simp at h)
theorem bunew_any {w : World} {b : Nat} {ws : List (List UInt8)} (h : IsSet w b ws) (hp : Pats ws) :
    Calls Try.prog 9 #[.pointer (some ⟨b, 0, none⟩)] w fun e w' => ∃ b, e = .returned (.pointer (some ⟨b, 0, none⟩)) ∧ w.heap.size ≤ b ∧ HasBks w' (.pointer (some ⟨b, 0, none⟩)) (idsL ws) (lstL ws) ∧ Below w.heap.size w w' :=
  bunew_by _ ws w (by have := hp.few; omega) (fun t ht => by have := hp.each t ht; omega) (fun W hW => ptlen_any (h.below hW)) (fun W k t hW hk => ptat_in (h.below hW) k t hk)
end Go.Proofs.Ytnmehjgojedpnaa
