/- What Pack makes, Unpack takes again. Mathematics; no program is walked here. -/
import Derived.Test.YtdoodkabmeojmaaDoorPackV
import Derived.Test.YtdoodkabmeojmaaDoorNumMath
namespace Go.Proofs.YtdoodkabmeojmaaDoor
open Go.RowKit
theorem upto_self' (t : ByteArray) : (⟨(upto (bF t) t.size).toArray⟩ : ByteArray) = t := by
  apply ByteArray.ext
  apply Array.toList_inj.1
  show (upto (bF t) t.size).toArray.toList = _
  apply List.ext_getElem?
  intro j
  by_cases h : j < t.size
  · rw [bF_at t t.size rfl j h]
    simp [upto, h]
  · rw [List.getElem?_eq_none (by simp [upto]; omega), List.getElem?_eq_none (by have e : t.data.toList.length = t.size := rfl; omega)]
theorem pack_list (t : ByteArray) : (packB t).data.toList = encNum (foldNum t.size) ++ codeOf (toksBits (parseL (bF t) t.size)) := by
  unfold packB; simp
theorem ext_list' (s : ByteArray) (a : Nat) : (s.extract a s.size).data.toList = s.data.toList.drop a := by
  have e : s.data.toList.length = s.size := rfl
  simp only [ByteArray.data_extract, Array.toList_extract, List.extract]
  exact List.take_of_length_le (by rw [List.length_drop]; omega)
theorem unpack_pack (t : ByteArray) (h : t.size ≤ 4000) (h2 : (packB t).size ≤ 20000) : unpackS (packB t) = (t, 0) := by
  have hf : foldNum (t.size : Int) < 18446744073709551616 := by have := fold_pos t.size (by omega); omega
  have hd : decAt (packB t) 0 = (0, foldNum t.size, (encNum (foldNum t.size)).length) := by
    unfold decAt
    rw [List.drop_zero, pack_list]
    exact dec_whole _ _ hf
  have hx : ((packB t).extract (encNum (foldNum t.size)).length (packB t).size).data.toList = codeOf (toksBits (parseL (bF t) t.size)) := by
    rw [ext_list', pack_list, List.drop_left]
  have hu : unpO ((packB t).extract (encNum (foldNum t.size)).length (packB t).size) t.size = (t, true) := by
    unfold unpO
    rw [unpack_back (bF t) t.size (tbN _) (tbN_lt _) (fun j u hj => by
      unfold tbN bF
      rw [hx, List.getD_eq_getElem?_getD, hj]; rfl)]
    show ((⟨(upto (bF t) t.size).toArray⟩ : ByteArray), decide ((upto (bF t) t.size).length = t.size)) = _
    rw [upto_self', upto_len, decide_eq_true rfl]
  have hE := show unpackS (packB t) = _ from if_neg (show ¬ 20000 < (packB t).size by omega)
  rw [hd] at hE
  simp only [if_true] at hE
  rw [unfold_fold, if_neg (by omega), Int.toNat_natCast] at hE
  rw [hE]
  unfold unpN
  rw [hu]
  simp
theorem pack_size (t : ByteArray) (h : t.size ≤ 4000) : (packB t).size ≤ 17 * (parseL (bF t) t.size).length + 6 := by
  have e : (packB t).size = (encNum (foldNum t.size)).length + (codeOf (toksBits (parseL (bF t) t.size))).length := by
    have := congrArg List.length (pack_list t)
    rw [List.length_append] at this
    exact this
  have h1 := codeOf_len (toksBits (parseL (bF t) t.size))
  have h2 := toksBits_len (parseL (bF t) t.size)
  have h4 := encNum_le 1 (foldNum t.size) (by unfold foldNum; rw [if_neg (by omega)]; show (2 * (t.size : Int)).toNat < 16384; omega)
  omega
theorem pack_small (t : ByteArray) (h : t.size ≤ 300) : (packB t).size ≤ 20000 := by
  have h1 := pack_size t (by omega)
  have h3 := parseL_len (bF t) t.size
  omega
theorem longG_zero (T : Nat → UInt8) (hT : ∀ j, T j = 0) (N at_ far : Nat) : ∀ k n, min (n + k) (N - at_) ≤ longG T N at_ far k n
  | 0, n => by show _ ≤ n; omega
  | k + 1, n => by
    unfold longG
    by_cases h : at_ + n < N
    · rw [if_pos ⟨h, by rw [hT, hT]⟩]
      have := longG_zero T hT N at_ far k (n + 1)
      omega
    · rw [if_neg (fun e => h e.1)]; omega
theorem best_zero (T : Nat → UInt8) (hT : ∀ j, T j = 0) (N at_ : Nat) (h : 1 ≤ at_) : min 66 (N - at_) ≤ (bestAt T N at_).1 := by
  have h1 := longG_zero T hT N at_ 1 66 0
  have h2 := best_ge T N at_ (min 1024 at_) 1 (Nat.le_refl _) (by omega)
  unfold long at h2
  unfold bestAt
  omega
theorem parseG_zero (T : Nat → UInt8) (hT : ∀ j, T j = 0) (N : Nat) : ∀ k at_, 1 ≤ at_ → (parseG T N k at_).length ≤ (N - at_) / 66 + 3
  | 0, at_, _ => Nat.zero_le _
  | k + 1, at_, h => by
    have hl := parseG_len T N (k + 1) at_
    by_cases h1 : 3 ≤ N - at_
    · have hb := best_zero T hT N at_ h
      have hs : at_ + min 66 (N - at_) ≤ stepAt T N at_ := by unfold stepAt; rw [if_neg (by omega)]; omega
      rw [parseG_step T N k at_ (by omega), List.length_cons]
      have h2 := parseG_len T N k (stepAt T N at_)
      have h3 := parseG_zero T hT N k (stepAt T N at_) (by omega)
      omega
    · omega
theorem pack_zeros (n : Nat) (h : n ≤ 4000) : (packB ⟨(List.replicate n (0 : UInt8)).toArray⟩).size ≤ 20000 := by
  have hn : (⟨(List.replicate n (0 : UInt8)).toArray⟩ : ByteArray).size = n := by rw [size_mk, List.length_replicate]
  have h1 := pack_size ⟨(List.replicate n (0 : UInt8)).toArray⟩ (by omega)
  have hT : ∀ j, bF ⟨(List.replicate n (0 : UInt8)).toArray⟩ j = 0 := by
    intro j
    show (List.replicate n (0 : UInt8)).getD j 0 = 0
    rw [List.getD_eq_getElem?_getD, List.getElem?_replicate]
    split <;> rfl
  have h2 : (parseL (bF ⟨(List.replicate n (0 : UInt8)).toArray⟩) n).length ≤ 1 + (n / 66 + 3) := by
    show (parseG _ n n 0).length ≤ _
    cases n with
    | zero => exact Nat.zero_le _
    | succ n =>
      show (parseG _ (n + 1) (n + 1) 0).length ≤ _
      rw [parseG_step _ (n + 1) n 0 (Nat.succ_pos n), List.length_cons]
      have hs := stepAt_gt (bF ⟨(List.replicate (n + 1) (0 : UInt8)).toArray⟩) (n + 1) 0
      have := parseG_zero _ hT (n + 1) n _ hs
      omega
  rw [hn] at h1
  omega
/-- What is drawn, and is not too long, comes back. -/
theorem drawn_back (t : ByteArray) (h : t.size ≤ 4000) (hd : t.size ≤ 300 ∨ ∃ n, n ≤ 4001 ∧ t = ⟨(List.replicate n (0 : UInt8)).toArray⟩) : unpackS (packS t) = (t, 0) := by
  rw [show packS t = packB t from if_pos h]
  refine unpack_pack t h ?_
  rcases hd with hd | ⟨n, _, rfl⟩
  · exact pack_small t hd
  · rw [size_mk, List.length_replicate] at h
    exact pack_zeros n h
/-- What Unpack takes, Pack makes again. -/
theorem pack_unpack (s : ByteArray) (h : (unpackS s).2 = 0) : packS (unpackS s).1 = s := by
  unfold unpackS at *
  split at h
  · cases h
  · rename_i h1
    rw [if_neg h1]
    split at h
    · rename_i h2
      rw [if_pos h2]
      split at h
      · cases h
      · rename_i h3
        rw [if_neg h3]
        unfold unpN at *
        split at h
        · rename_i h4
          rw [if_pos h4]
          split at h
          · rename_i h5
            rw [if_pos h5]
            have hz := unpO_size _ _ h4
            show packS (unpO _ _).1 = s
            unfold packS
            rw [if_pos (by rw [hz]; omega)]
            exact h5
          · cases h
        · cases h
    · cases h
end Go.Proofs.YtdoodkabmeojmaaDoor
