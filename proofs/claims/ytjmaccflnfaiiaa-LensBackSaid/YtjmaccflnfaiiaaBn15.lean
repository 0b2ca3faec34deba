/-
  Texts put together: LnP, LnW.
-/
import Derived.Test.YtjmaccflnfaiiaaBn4
import Derived.Test.YtjmaccflnfaiiaaPnH
import Derived.Test.YtjmaccflnfaiiaaBn12
import Derived.Test.YtjmaccflnfaiiaaMgQ
set_option linter.unusedSimpArgs false
set_option linter.unusedVariables false
namespace Go.Proofs.Ytjmaccflnfaiiaa
open Go.RowKit

/-- A record that lies in memory, as a value. -/
noncomputable def rnV (w : World) (x : Rv) : Rn := ⟨x.k, x.n, x.r, rvI w x⟩
theorem rnv_alike {w : World} {x : Rv} (h : (rvI w x).length = x.len) : Alike x (rnV w x).rv := ⟨rfl, rfl, rfl, h⟩
theorem rnv_last (w : World) (l : List Rv) : (lnLast (l.map (rnV w))).k = lastK l := by
  rcases mg_cases l with rfl | ⟨o, y, rfl⟩
  · rfl
  · rw [List.map_append, List.map_cons, List.map_nil, lnl_snoc, lastK_snoc]
    rfl
theorem rnv_two {w : World} {l : List Rv} {x : Rv} (hl : ∀ y ∈ l, (rvI w y).length = y.len) (hx : (rvI w x).length = x.len) : twoB (lnLast (l.map (rnV w))).rv (rnV w x).rv = false ↔ ∀ z, l.getLast? = some z → twoB z x = false := by
  rcases mg_cases l with rfl | ⟨o, y, rfl⟩
  · exact ⟨fun _ z h => by simp at h, fun _ => mg2_zero _⟩
  · rw [List.map_append, List.map_cons, List.map_nil, lnl_snoc, (rnv_alike (hl y (by simp))).two (rnv_alike hx)]
    refine ⟨fun h z hz => ?_, fun h => h y (by simp)⟩
    simp at hz
    subst hz
    exact h
theorem rnv_may {w : World} {l : List Rv} {x : Rv} (hl : ∀ y ∈ l, (rvI w y).length = y.len) (hx : (rvI w x).length = x.len) : LnMay (l.map (rnV w)) (rnV w x) ↔ mayE (rvOk w) l x = 0 ∧ ∀ z, l.getLast? = some z → twoB z x = false := by
  unfold LnMay
  rw [rnv_last, lnbad_no, rnv_two hl hx, rnv_last, List.length_map]
  refine ⟨fun ⟨h1, h2, h3, h4⟩ => ⟨may_ok h1 h2 h4, h3⟩, fun ⟨h1, h2⟩ => ?_⟩
  obtain ⟨a, b, c⟩ := may_yes h1
  exact ⟨a, b, h2, c⟩
theorem rnv_c (w : World) (l : List Rv) : (∀ y ∈ l, (rvI w y).length = y.len) → (LnC [] (l.map (rnV w)) ↔ mayS (rvOk w) [] l = 0 ∧ CanonL l) := by
  refine mg_ind (P := fun l => (∀ y ∈ l, (rvI w y).length = y.len) → (LnC [] (l.map (rnV w)) ↔ mayS (rvOk w) [] l = 0 ∧ CanonL l)) (fun _ => ⟨fun _ => ⟨rfl, fun i x y h => by simp at h⟩, fun _ => trivial⟩) (fun l x ih hl => ?_) l
  have h0 := ih (fun y hy => hl y (by simp [hy]))
  have hm := rnv_may (w := w) (l := l) (x := x) (fun y hy => hl y (by simp [hy])) (hl x (by simp))
  rw [List.map_append, List.map_cons, List.map_nil, lnc_snoc, h0, hm, mayS_snoc]
  constructor
  · rintro ⟨⟨a, b⟩, c, d⟩
    rw [if_pos a]
    exact ⟨c, b.snoc d⟩
  · rintro ⟨a, b⟩
    by_cases h : mayS (rvOk w) [] l = 0
    · rw [if_pos h] at a
      exact ⟨⟨h, b.front⟩, a, fun z hz => b.last hz⟩
    · rw [if_neg h] at a; exact absurd a h
theorem rnv_bytes {w : World} {x : Rv} (h : rvOk w x = true) : rvB w x = rnB (rnV w x) := if_pos h
theorem rnv_flat {w : World} : ∀ l : List Rv, (∀ x ∈ l, rvOk w x = true) → l.flatMap (rvB w) = (l.map (rnV w)).flatMap rnB
  | [], _ => rfl
  | x :: l, h => by
    rw [List.flatMap_cons, List.map_cons, List.flatMap_cons, rnv_bytes (h x (by simp)), rnv_flat l (fun y hy => h y (by simp [hy]))]
theorem rnv_told {w : World} {l : List Rv} (h : ∀ x ∈ l, rvOk w x = true) (h6 : lastK l = 6) : tdL (rvB w) l = (l.map (rnV w)).flatMap rnB := by
  rw [← rnv_flat l h]
  rcases mg_cases l with rfl | ⟨o, y, rfl⟩
  · rw [lastK_nil] at h6; cases h6
  · rw [lastK_snoc] at h6
    rw [tdL_snoc, if_pos h6, List.flatMap_append]
    simp
theorem wh_zero {ok : Rv → Bool} {l : List Rv} (h : whE ok l = 0) : mayS ok [] l = 0 ∧ lastK l = 6 := by
  by_cases hs : mayS ok [] l = 0
  · refine ⟨hs, ?_⟩
    by_cases h6 : lastK l = 6
    · exact h6
    · rw [(wh_end hs).1 h6] at h; cases h
  · rw [wh_stop rfl hs] at h; exact absurd h hs
/-- Records that were read are, written, the same bytes. -/
theorem whole_of_read {w : World} {f : List UInt8} {l : List Rv} (hl : ∀ y ∈ l, (rvI w y).length = y.len) (hc : LnC [] (l.map (rnV w))) (h6 : lastK l = 6) : whE (rvOk w) l = 0 ∧ whB w f l = hcB f ++ (l.map (rnV w)).flatMap rnB := by
  obtain ⟨a, b⟩ := (rnv_c w l hl).1 hc
  have e := (wh_end a).2 h6
  refine ⟨e, ?_⟩
  rw [whB_good e, mgc_all l b, rnv_told (may_each l _ a) h6]
/-- What was written is read as it was put together. -/
theorem read_of_whole {w : World} {f : List UInt8} {l : List Rv} (hf : Fits w l) (h : whE (rvOk w) l = 0) : LnC [] ((mgAll l).map (rnV w)) ∧ (lnLast ((mgAll l).map (rnV w))).k = 6 ∧ whB w f l = hcB f ++ ((mgAll l).map (rnV w)).flatMap rnB := by
  have hall := wh_all (ok := rvOk w) (fun y x p q r => rvOk_plus y x p q r) l h
  obtain ⟨a, b⟩ := wh_zero hall
  refine ⟨(rnv_c w (mgAll l) (fun y hy => (hf.all y hy).2.2.1)).2 ⟨a, mgc_any l⟩, by rw [rnv_last]; exact b, ?_⟩
  rw [whB_good h, rnv_told (may_each _ _ a) b]
end Go.Proofs.Ytjmaccflnfaiiaa

namespace Go.Proofs.Ytjmaccflnfaiiaa
open Go.RowKit

theorem Say.rd {W : World} {x : Rv} {y : Rn} (h : Say W x y) (hm : x.len ≤ maxLen) : Rd W x := by
  refine ⟨fun e => ?_, y.ids, h.2.2.2.1.symm, h.row hm⟩
  have h5 := h.2.2.2.2
  rw [e] at h5
  exact h5.cap
theorem Say.rnv {W : World} {x : Rv} {y : Rn} (h : Say W x y) (hm : x.len ≤ maxLen) : rnV W x = y := by
  have e := rvi_is (w := W) (x := x) (zs := y.ids) h.2.2.2.1.symm (h.row hm)
  unfold rnV
  rw [e, h.1, h.2.1, h.2.2.1]
theorem Says.each {W : World} {rs : List Rv} {L : List Rn} (h : Says W rs L) {x : Rv} (hx : x ∈ rs) : ∃ y ∈ L, Say W x y := by
  obtain ⟨i, hi, rfl⟩ := List.getElem_of_mem hx
  have hl : i < L.length := by rw [← h.1]; exact hi
  exact ⟨_, List.getElem_mem hl, h.2 i _ _ (List.getElem?_eq_getElem hi) (List.getElem?_eq_getElem hl)⟩
theorem Says.fits {W : World} {rs : List Rv} {L : List Rn} (h : Says W rs L) (hf : ∀ y ∈ L, y.ids.length ≤ 300) : Fits W rs := fun x hx => by
  obtain ⟨y, hy, hs⟩ := h.each hx
  have := hf y hy
  have h4 := hs.2.2.2.1
  exact ⟨hs.rd (by unfold maxLen; omega), by omega⟩
theorem Says.map {W : World} {rs : List Rv} {L : List Rn} (h : Says W rs L) (hf : ∀ y ∈ L, y.ids.length ≤ 300) : rs.map (rnV W) = L := by
  refine List.ext_getElem (by rw [List.length_map]; exact h.1) fun i hi hl => ?_
  rw [List.length_map] at hi
  rw [List.getElem_map]
  have hs := h.2 i _ _ (List.getElem?_eq_getElem hi) (List.getElem?_eq_getElem hl)
  have := hf _ (List.getElem_mem hl)
  have h4 := hs.2.2.2.1
  exact hs.rnv (by unfold maxLen; omega)
theorem LnAt.recs {W : World} {L : List Rn} {a : Option Addr} {m c : Nat} (h : LnAt W L a m c) : ∃ rs, rs.length = m ∧ m ≤ c ∧ RecAt W a rs ∧ Says W rs L := by
  obtain ⟨h1, rs, ⟨base, h3⟩, h4⟩ := h
  have hl : rs.length = m := by rw [h4.1, h1]
  obtain ⟨ao, cap, hv, hle, hr, _⟩ := owns_rvc h3 hl
  injection hv with e1 e2 e3
  subst e1 e3
  exact ⟨rs, hl, hle, hr, h4⟩
theorem hcB_nil : hcB [] = [99, 101, 114, 116, 1, 1, 0] := by decide +kernel
/-- The document's Whole of what a lens told, of no pattern file. -/
theorem lnwhole_ref {W : World} {L : List Rn} {a : Option Addr} {m c : Nat} (h : LnAt W L a m c) (hm : m ≤ 1000) (hf : ∀ y ∈ L, y.ids.length ≤ 300) (hc : LnC [] L) (h6 : (lnLast L).k = 6) :
    Calls Try.prog 20 #[.string ⟨#[]⟩, .slice a m c] W fun e W' => e = .returned (.tuple #[.string ⟨([99, 101, 114, 116, 1, 1, 0] ++ L.flatMap rnB).toArray⟩, .int .i64 0]) ∧ Below W.heap.size W W' := by
  obtain ⟨rs, hl, hle, hr, hs⟩ := h.recs
  have hft := hs.fits hf
  have e := hs.map hf
  have hlen : ∀ y ∈ rs, (rvI W y).length = y.len := fun y hy => (rvi_row (hft y hy).1).1
  have H := whole_of_read (w := W) (f := []) hlen (by rw [e]; exact hc) (by rw [← rnv_last W, e]; exact h6)
  have hw := rpnwhole_any (w := W) (W := W) (Below.refl _ _) hl hm hle hr hft [] (by decide)
  unfold RetWh at hw
  rw [H.1, H.2, e, hcB_nil] at hw
  exact hw
/-- What was written of records. -/
theorem lnwhole_back {w : World} {rs : List Rv} (hf : Fits w rs) (hm : rs.length ≤ 20) (h : whE (rvOk w) rs = 0) :
    ∃ L : List Rn, LnC [] L ∧ (lnLast L).k = 6 ∧ L.length ≤ 20 ∧ (∀ y ∈ L, y.ids.length ≤ 300) ∧ (L.flatMap rnB).length ≤ 60000 ∧ whB w [] rs = [99, 101, 114, 116, 1, 1, 0] ++ L.flatMap rnB := by
  obtain ⟨h1, h2, h3⟩ := read_of_whole (f := []) hf h
  have hl := mga_len rs
  refine ⟨_, h1, h2, by rw [List.length_map]; omega, fun y hy => ?_, ?_, by rw [h3, hcB_nil]⟩
  · obtain ⟨x, hx, rfl⟩ := List.mem_map.1 hy
    obtain ⟨f1, _, f3, _⟩ := hf.all x hx
    show (rvI w x).length ≤ 300
    omega
  · have hg := whB_good (f := []) h
    rw [h3] at hg
    have he := List.append_cancel_left hg
    rw [he]
    have h1 := td_len (bt := rvB w) (n := 3000) (mgAll rs) (fun x hx => (hf.all x hx).2.1)
    have : 3000 * (mgAll rs).length ≤ 3000 * 20 := Nat.mul_le_mul_left _ (by omega)
    omega
end Go.Proofs.Ytjmaccflnfaiiaa
