/- What the program's literals of a coder and of a decoder build. -/
import Derived.Test.YtdoodkabmeojmaaRngN
namespace Go.Proofs.Ytdoodkabmeojmaa
open Go.RowKit
/-- A coder's or a decoder's block. -/
def cdF (size : Nat) (ch : Nat → Nat) (x : Nat) (v : Value) (j : Nat) : Value := if j ≤ 1600 then parF size ch j else if j = 1601 then .int .u64 (x : Nat) else v
theorem Try.infoCod : (Try.prog.info? 92).map (fun i => (i.zero, i.size)) = some (some (.agg (vL 1603 (cdF 0 (fun _ => 0) 0 (.slice none 0 0))).toArray), 1603) := by kernel_rfl
theorem Try.infoDecP : (Try.prog.info? 106).map (fun i => (i.zero, i.size)) = some (some (.agg (vL 1603 (cdF 0 (fun _ => 0) 0 (.string ByteArray.empty))).toArray), 1603) := by kernel_rfl
theorem Try.fieldsCod : ∃ fields, Try.prog.underlying 92 = some (.struct fields) ∧ fields.toList.mapM (fun f => (Try.prog.info? f.type).map fun i => (f.offset, i.size)) = some [(0, 1601), (1601, 1), (1602, 1)] := ⟨_, Try.underlying92, by kernel_rfl⟩
theorem Try.fieldsDec : ∃ fields, Try.prog.underlying 106 = some (.struct fields) ∧ fields.toList.mapM (fun f => (Try.prog.info? f.type).map fun i => (f.offset, i.size)) = some [(0, 1601), (1601, 1), (1602, 1)] := ⟨_, Try.underlying106, by kernel_rfl⟩
theorem Try.builtCod (size : Nat) (ch : Nat → Nat) : Try.prog.built 92 [(0, .agg (vL 1601 (parF size ch)).toArray)] = some (vL 1603 (cdF size ch 0 (.slice none 0 0))).toArray := by
  obtain ⟨fields, h1, h2⟩ := Try.fieldsCod
  rw [built_of _ Try.infoCod h1 h2, fill_V _ 1603 0 0 1601 _ _ _ rfl (by omega)]
  apply fill_end
  intro j hj
  unfold laid cdF
  by_cases e : j ≤ 1600
  · rw [if_pos (by omega), if_pos e, Nat.sub_zero]
  · rw [if_neg (by omega), if_neg e, if_neg e]
theorem Try.builtDec (size : Nat) (ch : Nat → Nat) (t : ByteArray) : Try.prog.built 106 [(0, .agg (vL 1601 (parF size ch)).toArray), (2, .string t)] = some (vL 1603 (cdF size ch 0 (.string t))).toArray := by
  obtain ⟨fields, h1, h2⟩ := Try.fieldsDec
  rw [built_of _ Try.infoDecP h1 h2, fill_V _ 1603 0 0 1601 _ _ _ rfl (by omega), fill_1 _ 1603 2 1602 _ (.string t) rfl _ rfl (by omega)]
  apply fill_end
  intro j hj
  unfold laid cdF
  by_cases e : j ≤ 1600
  · rw [if_neg (by omega), if_pos (by omega), if_pos e, Nat.sub_zero]
  · by_cases e2 : j = 1601
    · rw [if_neg (by omega), if_neg (by omega), if_neg e, if_pos e2, if_neg e, if_pos e2]
    · rw [if_pos (by omega), if_neg e, if_neg e2]
end Go.Proofs.Ytdoodkabmeojmaa
