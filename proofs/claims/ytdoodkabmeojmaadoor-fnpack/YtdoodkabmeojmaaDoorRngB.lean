/- What the program's literals of a coder and of a decoder build. -/
import Derived.Test.YtdoodkabmeojmaaDoorRngN
namespace Go.Proofs.YtdoodkabmeojmaaDoor
open Go.RowKit
/-- A coder's or a decoder's block. -/
def cdF (size : Nat) (ch : Nat → Nat) (x : Nat) (v : Value) (j : Nat) : Value := if j ≤ 1600 then parF size ch j else if j = 1601 then .int .u64 (x : Nat) else v
theorem Tryd.infoCod : (Tryd.prog.info? 64).map (fun i => (i.zero, i.size)) = some (some (.agg (vL 1603 (cdF 0 (fun _ => 0) 0 (.slice none 0 0))).toArray), 1603) := by kernel_rfl
theorem Tryd.infoDecP : (Tryd.prog.info? 122).map (fun i => (i.zero, i.size)) = some (some (.agg (vL 1603 (cdF 0 (fun _ => 0) 0 (.string ByteArray.empty))).toArray), 1603) := by kernel_rfl
theorem Tryd.fieldsCod : ∃ fields, Tryd.prog.underlying 64 = some (.struct fields) ∧ fields.toList.mapM (fun f => (Tryd.prog.info? f.type).map fun i => (f.offset, i.size)) = some [(0, 1601), (1601, 1), (1602, 1)] := ⟨_, Tryd.underlying64, by kernel_rfl⟩
theorem Tryd.fieldsDec : ∃ fields, Tryd.prog.underlying 122 = some (.struct fields) ∧ fields.toList.mapM (fun f => (Tryd.prog.info? f.type).map fun i => (f.offset, i.size)) = some [(0, 1601), (1601, 1), (1602, 1)] := ⟨_, Tryd.underlying122, by kernel_rfl⟩
theorem Tryd.builtCod (size : Nat) (ch : Nat → Nat) : Tryd.prog.built 64 [(0, .agg (vL 1601 (parF size ch)).toArray)] = some (vL 1603 (cdF size ch 0 (.slice none 0 0))).toArray := by
  obtain ⟨fields, h1, h2⟩ := Tryd.fieldsCod
  rw [built_of _ Tryd.infoCod h1 h2, fill_V _ 1603 0 0 1601 _ _ _ rfl (by omega)]
  apply fill_end
  intro j hj
  unfold laid cdF
  by_cases e : j ≤ 1600
  · rw [if_pos (by omega), if_pos e, Nat.sub_zero]
  · rw [if_neg (by omega), if_neg e, if_neg e]
theorem Tryd.builtDec (size : Nat) (ch : Nat → Nat) (t : ByteArray) : Tryd.prog.built 122 [(0, .agg (vL 1601 (parF size ch)).toArray), (2, .string t)] = some (vL 1603 (cdF size ch 0 (.string t))).toArray := by
  obtain ⟨fields, h1, h2⟩ := Tryd.fieldsDec
  rw [built_of _ Tryd.infoDecP h1 h2, fill_V _ 1603 0 0 1601 _ _ _ rfl (by omega), fill_1 _ 1603 2 1602 _ (.string t) rfl _ rfl (by omega)]
  apply fill_end
  intro j hj
  unfold laid cdF
  by_cases e : j ≤ 1600
  · rw [if_neg (by omega), if_pos (by omega), if_pos e, Nat.sub_zero]
  · by_cases e2 : j = 1601
    · rw [if_neg (by omega), if_neg (by omega), if_neg e, if_pos e2, if_neg e, if_pos e2]
    · rw [if_pos (by omega), if_neg e, if_neg e2]
end Go.Proofs.YtdoodkabmeojmaaDoor
