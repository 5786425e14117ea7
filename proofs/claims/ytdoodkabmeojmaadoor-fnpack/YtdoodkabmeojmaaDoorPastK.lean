/- The program's keys: three bytes are a key of its map. -/
import Derived.Test.YtdoodkabmeojmaaDoorPastM
import Derived.Test.YtdoodkabmeojmaaDoorRows
import Derived.Test.YtdoodkabmeojmaaDoorChecked
namespace Go.Proofs.YtdoodkabmeojmaaDoor
open Go Go.RowKit
open Go.WideMaps (KeyLaw)
theorem Tryd.laidOutP : laidOutB Tryd.prog = true := by kernel_rfl
theorem Tryd.wideO : (match Tryd.prog.underlying 100 with | some (.array _ _) | some (.struct _) => true | _ => false) = true := by rw [Tryd.underlying100]
set_option maxRecDepth 100000 in
theorem Tryd.lawO : KeyLaw Tryd.prog 100 := deep_law_laid Tryd.laidOutP (m := 2) (by omega) (of_decide_eq_true (by kernel_rfl)) (by kernel_rfl) Tryd.wideO
theorem Tryd.zeroO (w : World) : (zeroValue 107).run Tryd.prog w = .ok (.slice none 0 0) w := by kernel_rfl
theorem Tryd.cellsO : Tryd.prog.cellsOf 100 = 3 := by kernel_rfl
theorem Tryd.cellsU : Tryd.prog.cellsOf 5 = 1 := by kernel_rfl
theorem Tryd.keyTypeO : Tryd.prog.keyType 100 = true := by kernel_rfl
theorem Tryd.typesO : Tryd.prog.types.size + 1 = (187 - 1) + 1 + 1 := by kernel_rfl
theorem Tryd.keyO (f : Nat → UInt8) : ∃ l, keyOf Tryd.prog 100 (kV f) = some l := by
  have e : kV f = .agg #[.int .u8 ((f 0).toNat : Int), .int .u8 ((f 1).toNat : Int), .int .u8 ((f 2).toNat : Int)] := by
    simp [kV, bL, u8V, List.range_succ]
  rw [e]
  have wf : ∀ b : UInt8, (Lit.int .u8 (b.toNat : Int)).wf = true := fun b => by have := b.toNat_lt; have h1 : IntKind.u8.min = 0 := rfl; have h2 : IntKind.u8.max = 255 := rfl; simp [Lit.wf, h1, h2]; omega
  refine ⟨.string (keyBytes [.int .u8 ((f 0).toNat : Int), .int .u8 ((f 1).toNat : Int), .int .u8 ((f 2).toNat : Int)]), ?_⟩
  unfold keyOf
  simp only [Tryd.underlying100]
  rw [if_pos (by simp [Tryd.keyTypeO, Value.formed, Tryd.underlying100, Tryd.cellsO]), Tryd.typesO]
  unfold Program.keyLits
  simp only [Tryd.underlying100, Value.cells]
  rw [if_pos (by rw [Tryd.cellsO]; rfl), show List.range 3 = [0, 1, 2] from rfl, List.mapM_cons, List.mapM_cons, List.mapM_cons, List.mapM_nil]
  simp [Tryd.cellsU, Program.keyLits, Tryd.underlying5, wf]
end Go.Proofs.YtdoodkabmeojmaaDoor
