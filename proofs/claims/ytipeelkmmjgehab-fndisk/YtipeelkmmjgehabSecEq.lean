/- Sectors compared as wholes. -/
import Derived.DeepKeys4
import Derived.Test.YtipeelkmmjgehabSecI
import Derived.Test.YtipeelkmmjgehabChecked
namespace Go.Proofs.Ytipeelkmmjgehab
open Go Go.RowKit
open Go.WideMaps (KeyLaw)
theorem Try.laidOutS : laidOutB Try.prog = true := by kernel_rfl
theorem Try.wideS : (match Try.prog.underlying 66 with | some (.array _ _) | some (.struct _) => true | _ => false) = true := by rw [Try.underlying66]
theorem Try.keyAtS : Try.prog.keyTypeAt 3 66 = true := by kernel_rfl
set_option maxRecDepth 100000 in
theorem Try.lawS : KeyLaw Try.prog 66 := deep_law_laid Try.laidOutS (m := 3) (by omega) (of_decide_eq_true (by kernel_rfl)) (by kernel_rfl) Try.wideS
theorem Try.cellsS : Try.prog.cellsOf 66 = 64 := by kernel_rfl
theorem Try.cellsSa : Try.prog.cellsOf 64 = 64 := by kernel_rfl
theorem Try.cellsSu : Try.prog.cellsOf 5 = 1 := by kernel_rfl
theorem Try.keyTypeS : Try.prog.keyType 66 = true := by kernel_rfl
theorem Try.typesS : Try.prog.types.size + 1 = (118 - 2) + 1 + 1 + 1 := by kernel_rfl
theorem Try.guardS : Try.prog.eqGuardType Try.prog.depth 66 = false := by kernel_rfl
theorem mapM_all {α β : Type} (F : α → Option β) (G : α → β) : ∀ l : List α, (∀ x ∈ l, F x = some (G x)) → l.mapM F = some (l.map G)
  | [], _ => rfl
  | x :: l, h => by
    rw [List.mapM_cons, h x (by simp), mapM_all F G l (fun y hy => h y (by simp [hy]))]
    rfl
theorem drop_one {α : Type} {l : List α} {i : Nat} {x : α} (h : l[i]? = some x) : (l.drop i).take 1 = [x] := by
  obtain ⟨hi, rfl⟩ := List.getElem?_eq_some_iff.1 h
  rw [List.drop_eq_getElem_cons hi]
  rfl
theorem u8_wf (b : UInt8) : (Lit.int .u8 (b.toNat : Int)).wf = true := by
  have := b.toNat_lt
  have h1 : IntKind.u8.min = 0 := rfl
  have h2 : IntKind.u8.max = 255 := rfl
  simp [Lit.wf, h1, h2]; omega
theorem Try.keyS (t : ByteArray) : ∃ l, keyOf Try.prog 66 (secV t) = some l := by
  have hb : ∀ i ∈ List.range 64, Try.prog.keyLits ((118 - 2) + 1) 5 (((bL 64 (bF t)).drop (i * Try.prog.cellsOf 5)).take (Try.prog.cellsOf 5)) = some [.int .u8 ((bF t i).toNat : Int)] := fun i hi => by
    have hi' := List.mem_range.1 hi
    rw [Try.cellsSu, Nat.mul_one, drop_one (bL_at 64 (bF t) i hi')]
    unfold Program.keyLits
    simp only [Try.underlying5, u8V]
    rw [if_pos ⟨trivial, u8_wf _⟩]
  have hm := mapM_all _ _ _ hb
  have ha : Try.prog.keyLits ((118 - 2) + 1 + 1) 64 (bL 64 (bF t)) = some ((List.range 64).map fun i => [Lit.int .u8 ((bF t i).toNat : Int)]).flatten := by
    conv => lhs; unfold Program.keyLits
    simp only [Try.underlying64]
    rw [if_pos (by rw [Try.cellsSa, bL_len]), hm]
    rfl
  refine ⟨.string (keyBytes ((List.range 64).map fun i => [Lit.int .u8 ((bF t i).toNat : Int)]).flatten), ?_⟩
  unfold keyOf
  simp only [Try.underlying66]
  rw [if_pos (by simp [Try.keyTypeS, Value.formed, Try.underlying66, Try.cellsS, secV, bL_len]), Try.typesS]
  unfold Program.keyLits
  simp only [Try.underlying66, secV, Value.cells]
  rw [if_pos (by rw [Try.cellsS, bL_len]; exact ⟨rfl, by kernel_rfl⟩)]
  have e : ((bL 64 (bF t)).drop 0).take (Try.prog.cellsOf 64) = bL 64 (bF t) := by
    rw [Try.cellsSa, List.drop_zero, List.take_of_length_le (by rw [bL_len]; omega)]
  simp only [List.mapM_cons, List.mapM_nil, e, ha]
  simp
theorem run_guard_sec (x y : Operand) (t u : ByteArray) (w : World) : (eqGuard .neq 66 x y (secV t) (secV u)).run Try.prog w = .ok () w := by
  unfold secV eqGuard
  simp [Result.andThen]
set_option maxRecDepth 100000 in
theorem run_neq_sec (t u : ByteArray) (r : Bool) (hr : r = true ↔ secD t ≠ secD u) (w : World) : (binOp .neq 66 (secV t) (secV u)).run Try.prog w = .ok (.bool r) w := by
  obtain ⟨lx, hx⟩ := Try.keyS t
  obtain ⟨ly, hy⟩ := Try.keyS u
  obtain ⟨q, hq, hiff⟩ := run_equal_deep (P := Try.prog) w (m := 3) (by omega) Try.keyAtS Try.wideS hx hy
  have hl : lx = ly ↔ secD t = secD u := ⟨fun e => by
    subst e
    exact secV_D (Maps.Keyed.of_law Try.lawS |>.inj hx hy), fun e => by
    rw [secD_V e, hy] at hx
    exact (Option.some.inj hx).symm⟩
  have hrq : r = !q := by
    cases r <;> cases q <;> simp_all
  rw [hrq]
  have e1 : binOp .neq 66 (secV t) (secV u) = (do pure (.bool (!(← Op.equal 66 (secV t) (secV u)))) : Sem Value) := rfl
  rw [e1]
  simp [hq, Result.andThen]
end Go.Proofs.Ytipeelkmmjgehab
