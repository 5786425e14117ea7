/- The program's keys: three bytes are a key of its map. -/
import Derived.Test.YtdoodkabmeojmaaPastM
import Derived.Test.YtdoodkabmeojmaaRows
import Derived.Test.YtdoodkabmeojmaaChecked
namespace Go.Proofs.Ytdoodkabmeojmaa
open Go Go.RowKit
open Go.WideMaps (KeyLaw)
theorem Try.laidOutP : laidOutB Try.prog = true := by kernel_rfl
theorem Try.wideO : (match Try.prog.underlying 126 with | some (.array _ _) | some (.struct _) => true | _ => false) = true := by rw [Try.underlying126]
set_option maxRecDepth 100000 in
theorem Try.lawO : KeyLaw Try.prog 126 := deep_law_laid Try.laidOutP (m := 2) (by omega) (of_decide_eq_true (by kernel_rfl)) (by kernel_rfl) Try.wideO
theorem Try.zeroO (w : World) : (zeroValue 133).run Try.prog w = .ok (.slice none 0 0) w := by kernel_rfl
theorem Try.cellsO : Try.prog.cellsOf 126 = 3 := by kernel_rfl
theorem Try.cellsU : Try.prog.cellsOf 5 = 1 := by kernel_rfl
theorem Try.keyTypeO : Try.prog.keyType 126 = true := by kernel_rfl
theorem Try.typesO : Try.prog.types.size + 1 = (153 - 1) + 1 + 1 := by kernel_rfl
theorem Try.keyO (f : Nat → UInt8) : ∃ l, keyOf Try.prog 126 (kV f) = some l := by
  have e : kV f = .agg #[.int .u8 ((f 0).toNat : Int), .int .u8 ((f 1).toNat : Int), .int .u8 ((f 2).toNat : Int)] := by
    simp [kV, bL, u8V, List.range_succ]
  rw [e]
  have wf : ∀ b : UInt8, (Lit.int .u8 (b.toNat : Int)).wf = true := fun b => by have := b.toNat_lt; have h1 : IntKind.u8.min = 0 := rfl; have h2 : IntKind.u8.max = 255 := rfl; simp [Lit.wf, h1, h2]; omega
  refine ⟨.string (keyBytes [.int .u8 ((f 0).toNat : Int), .int .u8 ((f 1).toNat : Int), .int .u8 ((f 2).toNat : Int)]), ?_⟩
  unfold keyOf
  simp only [Try.underlying126]
  rw [if_pos (by simp [Try.keyTypeO, Value.formed, Try.underlying126, Try.cellsO]), Try.typesO]
  unfold Program.keyLits
  simp only [Try.underlying126, Value.cells]
  rw [if_pos (by rw [Try.cellsO]; rfl), show List.range 3 = [0, 1, 2] from rfl, List.mapM_cons, List.mapM_cons, List.mapM_cons, List.mapM_nil]
  simp [Try.cellsU, Program.keyLits, Try.underlying5, wf]
end Go.Proofs.Ytdoodkabmeojmaa
