/-
  Two bytes as a map's key: what they read as.
-/
import Derived.Test.YtcbaloacmbekkaaPrM
import Derived.Test.YtcbaloacmbekkaaRows
import Derived.DeepKeys4
import Derived.Maps.OwnOps
import Derived.Maps.OwnSet
import Derived.Maps.Views
import Derived.KernelRfl
set_option linter.unusedSimpArgs false
set_option linter.unusedVariables false
namespace Go.Proofs.Ytcbaloacmbekkaa
open Go.RowKit Go.Maps Go.WideMaps

theorem pkLaid : laidOutB Try.prog = true := by kernel_rfl
theorem pkRow : (56 : TypeId) < Try.prog.types.size := of_decide_eq_true (by kernel_rfl)
theorem pkCells : Try.prog.cellsOf 56 = 2 := by kernel_rfl
theorem pkCell : Try.prog.cellsOf 5 = 1 := by kernel_rfl
theorem pkType : Try.prog.keyType 56 = true := by kernel_rfl
theorem pkWide : (match Try.prog.underlying 56 with | some (.array _ _) | some (.struct _) => true | _ => false) = true := by rw [Try.underlying56]
theorem keyP : Keyed Try.prog 56 := Keyed.of_law (deep_law_laid pkLaid (m := 2) (by omega) pkRow (by kernel_rfl) pkWide)
theorem zeroP (w : World) : (zeroValue 3).run Try.prog w = .ok (.int .i64 0) w := by kernel_rfl

/-- Two bytes as a value. -/
def twoV (x y : Nat) : Value := .agg #[.int .u8 (x : Int), .int .u8 (y : Int)]
theorem u8_wf {x : Nat} (h : x < 256) : (Lit.int .u8 (x : Int)).wf = true := by
  simp [Lit.wf, IntKind.min, IntKind.max, IntKind.bits, IntKind.signed]
  omega
theorem key_some {x y : Nat} (hx : x < 256) (hy : y < 256) : ∃ l, keyOf Try.prog 56 (twoV x y) = some l := by
  have h1 : ∀ n, (Try.prog.keyLits (n + 1) 5 [.int .u8 (x : Int)]) = some [.int .u8 (x : Int)] := fun n => by
    simp [Program.keyLits, Try.underlying5, u8_wf hx]
  have h2 : ∀ n, (Try.prog.keyLits (n + 1) 5 [.int .u8 (y : Int)]) = some [.int .u8 (y : Int)] := fun n => by
    simp [Program.keyLits, Try.underlying5, u8_wf hy]
  have h3 : ∀ n, Try.prog.keyLits (n + 2) 56 [.int .u8 (x : Int), .int .u8 (y : Int)] = some [.int .u8 (x : Int), .int .u8 (y : Int)] := fun n => by
    unfold Program.keyLits
    rw [Try.underlying56]
    simp [pkCells, pkCell, List.range_succ, h1, h2]
  obtain ⟨n, hn⟩ : ∃ n, Try.prog.types.size = n + 1 := ⟨_, rfl⟩
  refine ⟨.string (keyBytes [.int .u8 (x : Int), .int .u8 (y : Int)]), ?_⟩
  unfold keyOf
  rw [Try.underlying56, hn]
  simp [pkType, twoV, Value.formed, Try.underlying56, pkCells, Value.cells, h3]
/-- What they read as. -/
noncomputable def keyL (x y : Nat) : Lit := (keyOf Try.prog 56 (twoV x y)).getD (.bool true)
theorem key_two {x y : Nat} (hx : x < 256) (hy : y < 256) : keyOf Try.prog 56 (twoV x y) = some (keyL x y) := by
  obtain ⟨l, h⟩ := key_some hx hy
  unfold keyL
  rw [h]
  rfl
theorem keyL_lit {x y : Nat} (hx : x < 256) (hy : y < 256) : WideAt.IsKeyLit (keyL x y) := keyP.key (key_two hx hy)
theorem keyL_inj {x y u v : Nat} (hx : x < 256) (hy : y < 256) (hu : u < 256) (hv : v < 256) (h : keyL x y = keyL u v) : two x y = two u v := by
  have h1 := key_two hx hy
  rw [h] at h1
  have h2 := keyP.inj h1 (key_two hu hv)
  unfold twoV at h2
  simp at h2
  rw [show x = u by omega, show y = v by omega]
end Go.Proofs.Ytcbaloacmbekkaa
