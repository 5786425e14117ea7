/- Put together: NumMath, PackT, CtrTw, MkB. -/
import Derived.Test.YtconcnndghmdfaaGreatDoorSe10
import Derived.Test.YtconcnndghmdfaaGreatDoorSe17
import Derived.Test.YtconcnndghmdfaaGreatDoorSe1
import Derived.Test.YtconcnndghmdfaaGreatDoorSe18
import Derived.Test.YtconcnndghmdfaaGreatDoorSe7
import Derived.Test.YtconcnndghmdfaaGreatDoorSe14
namespace Go.Proofs.YtconcnndghmdfaaGreatDoor
open Go.RowKit

theorem unfold_fold (n : Int) : unfold (foldNum n) = n := by
  unfold unfold foldNum
  by_cases h : n < 0
  · rw [if_pos h, if_pos (by omega)]; omega
  · rw [if_neg h, if_neg (by omega)]; omega
theorem byte_nat (n : Nat) (h : n < 256) : (UInt8.ofNat n).toNat = n := by
  have := ofNat_byte n h; omega
theorem encNum_ne (V : Nat) : encNum V ≠ [] := by
  by_cases h : V < 128
  · rw [encNum_last V h]; simp
  · rw [encNum_more V h]; simp

theorem k_of {V k : Nat} (h : V * 2 ^ (7 * k) < 18446744073709551616) (hV : 128 ≤ V) : k ≤ 8 := by
  rcases Nat.lt_or_ge k 9 with h9 | h9
  · omega
  · have h1 : 2 ^ 63 ≤ 2 ^ (7 * k) := Nat.pow_le_pow_right (by decide) (by omega)
    have h2 := Nat.mul_le_mul hV h1
    have h3 : (128 : Nat) * 2 ^ 63 = 1180591620717411303424 := by decide
    omega
theorem v_of {V : Nat} (h : V * 2 ^ (7 * 9) < 18446744073709551616) : V ≤ 1 := by
  have h3 : (2 : Nat) ^ (7 * 9) = 9223372036854775808 := by decide
  rw [h3] at h; omega
theorem next_of {V k : Nat} (h : V * 2 ^ (7 * k) < 18446744073709551616) : V / 128 * 2 ^ (7 * (k + 1)) < 18446744073709551616 := by
  have e : 2 ^ (7 * (k + 1)) = 128 * 2 ^ (7 * k) := by rw [show 7 * (k + 1) = 7 * k + 7 from by omega, Nat.pow_add, Nat.mul_comm]
  rw [e, ← Nat.mul_assoc]
  exact Nat.lt_of_le_of_lt (Nat.mul_le_mul_right _ (by omega)) h

theorem dec_enc (n : Nat) : ∀ V, V ≤ n → ∀ k u rest, k ≤ 9 → V * 2 ^ (7 * k) < 18446744073709551616 → (0 < k → 0 < V) → dec k u (encNum V ++ rest) = (0, u + V * 2 ^ (7 * k), k + (encNum V).length) := by
  induction n with
  | zero =>
    intro V hV k u rest hk hb h0
    obtain rfl : V = 0 := by omega
    have hk0 : k = 0 := by rcases Nat.eq_zero_or_pos k with h | h; exact h; exact absurd (h0 h) (by omega)
    subst hk0
    rw [encNum_last 0 (by omega)]
    simp [dec]
  | succ n ih =>
    intro V hV k u rest hk hb h0
    by_cases hlt : V < 128
    · rw [encNum_last V hlt]
      have hn := byte_nat V (by omega)
      have h9 : ¬ (k = 9 ∧ 1 < (UInt8.ofNat V).toNat) := by
        rintro ⟨rfl, h⟩
        have := v_of hb; omega
      have hz : ¬ ((UInt8.ofNat V).toNat = 0 ∧ 0 < k) := by rintro ⟨h1, h2⟩; have := h0 h2; omega
      rw [List.singleton_append, dec, if_neg h9, if_pos (by omega), if_neg hz, hn, Nat.mod_eq_of_lt hlt]
      rfl
    · rw [encNum_more V hlt]
      have hn := byte_nat (V % 128 + 128) (by omega)
      have hk8 := k_of hb (by omega)
      rw [List.cons_append, dec, if_neg (by omega), if_neg (by omega), hn]
      have e2 : (V % 128 + 128) % 128 = V % 128 := by omega
      rw [e2, ih (V / 128) (by omega) (k + 1) _ rest (by omega) (next_of hb) (by omega)]
      have e : 2 ^ (7 * (k + 1)) = 128 * 2 ^ (7 * k) := by rw [show 7 * (k + 1) = 7 * k + 7 from by omega, Nat.pow_add, Nat.mul_comm]
      have e3 : V % 128 * 2 ^ (7 * k) + V / 128 * (128 * 2 ^ (7 * k)) = V * 2 ^ (7 * k) := by
        rw [← Nat.mul_assoc, ← Nat.add_mul]
        have : V % 128 + V / 128 * 128 = V := by omega
        rw [this]
      rw [e, Nat.add_assoc, e3, List.length_cons]
      have e4 : k + 1 + (encNum (V / 128)).length = k + ((encNum (V / 128)).length + 1) := by omega
      rw [e4]

theorem dec_cut (n : Nat) : ∀ V, V ≤ n → ∀ k u, k ≤ 9 → V * 2 ^ (7 * k) < 18446744073709551616 → dec k u (encNum V).dropLast = (4, 0, 0) := by
  induction n with
  | zero =>
    intro V hV k u hk hb
    obtain rfl : V = 0 := by omega
    rw [encNum_last 0 (by omega)]; rfl
  | succ n ih =>
    intro V hV k u hk hb
    by_cases hlt : V < 128
    · rw [encNum_last V hlt]; rfl
    · rw [encNum_more V hlt, List.dropLast_cons_of_ne_nil (encNum_ne _)]
      have hn := byte_nat (V % 128 + 128) (by omega)
      have hk8 := k_of hb (by omega)
      rw [dec, if_neg (by omega), if_neg (by omega)]
      exact ih (V / 128) (by omega) (k + 1) _ (by omega) (next_of hb)

theorem dec_whole (V : Nat) (rest : List UInt8) (h : V < 18446744073709551616) : dec 0 0 (encNum V ++ rest) = (0, V, (encNum V).length) := by
  have := dec_enc V V (Nat.le_refl _) 0 0 rest (by omega) (by simpa using h) (by omega)
  simpa using this
theorem dec_cut0 (V : Nat) (h : V < 18446744073709551616) : dec 0 0 (encNum V).dropLast = (4, 0, 0) :=
  dec_cut V V (Nat.le_refl _) 0 0 (by omega) (by simpa using h)
end Go.Proofs.YtconcnndghmdfaaGreatDoor
namespace Go.Proofs.YtconcnndghmdfaaGreatDoor
open Go.RowKit
theorem upto_self' (t : ByteArray) : (⟨(upto (bF t) t.size).toArray⟩ : ByteArray) = t := by
  apply ByteArray.ext
  apply Array.toList_inj.1
  show (upto (bF t) t.size).toArray.toList = _
  apply List.ext_getElem?
  intro j
  by_cases h : j < t.size
  · rw [bF_at t t.size rfl j h]
    simp [upto, h]
  · rw [List.getElem?_eq_none (by simp [upto]; omega), List.getElem?_eq_none (by have e : t.data.toList.length = t.size := rfl; omega)]
theorem pack_list (t : ByteArray) : (packB t).data.toList = encNum (foldNum t.size) ++ codeOf (toksBits (parseL (bF t) t.size)) := by
  unfold packB; simp
theorem ext_list' (s : ByteArray) (a : Nat) : (s.extract a s.size).data.toList = s.data.toList.drop a := by
  have e : s.data.toList.length = s.size := rfl
  simp only [ByteArray.data_extract, Array.toList_extract, List.extract]
  exact List.take_of_length_le (by rw [List.length_drop]; omega)
theorem unpack_pack (t : ByteArray) (h : t.size ≤ 4000) (h2 : (packB t).size ≤ 20000) : unpackS (packB t) = (t, 0) := by
  have hf : foldNum (t.size : Int) < 18446744073709551616 := by have := fold_pos t.size (by omega); omega
  have hd : decAt (packB t) 0 = (0, foldNum t.size, (encNum (foldNum t.size)).length) := by
    unfold decAt
    rw [List.drop_zero, pack_list]
    exact dec_whole _ _ hf
  have hx : ((packB t).extract (encNum (foldNum t.size)).length (packB t).size).data.toList = codeOf (toksBits (parseL (bF t) t.size)) := by
    rw [ext_list', pack_list, List.drop_left]
  have hu : unpO ((packB t).extract (encNum (foldNum t.size)).length (packB t).size) t.size = (t, true) := by
    unfold unpO
    rw [unpack_back (bF t) t.size (tbN _) (tbN_lt _) (fun j u hj => by
      unfold tbN bF
      rw [hx, List.getD_eq_getElem?_getD, hj]; rfl)]
    show ((⟨(upto (bF t) t.size).toArray⟩ : ByteArray), decide ((upto (bF t) t.size).length = t.size)) = _
    rw [upto_self', upto_len, decide_eq_true rfl]
  have hE := show unpackS (packB t) = _ from if_neg (show ¬ 20000 < (packB t).size by omega)
  rw [hd] at hE
  simp only [if_true] at hE
  rw [unfold_fold, if_neg (by omega), Int.toNat_natCast] at hE
  rw [hE]
  unfold unpN
  rw [hu]
  simp
theorem pack_size (t : ByteArray) (h : t.size ≤ 4000) : (packB t).size ≤ 17 * (parseL (bF t) t.size).length + 6 := by
  have e : (packB t).size = (encNum (foldNum t.size)).length + (codeOf (toksBits (parseL (bF t) t.size))).length := by
    have := congrArg List.length (pack_list t)
    rw [List.length_append] at this
    exact this
  have h1 := codeOf_len (toksBits (parseL (bF t) t.size))
  have h2 := toksBits_len (parseL (bF t) t.size)
  have h4 := encNum_le 1 (foldNum t.size) (by unfold foldNum; rw [if_neg (by omega)]; show (2 * (t.size : Int)).toNat < 16384; omega)
  omega
theorem pack_small (t : ByteArray) (h : t.size ≤ 300) : (packB t).size ≤ 20000 := by
  have h1 := pack_size t (by omega)
  have h3 := parseL_len (bF t) t.size
  omega
theorem longG_zero (T : Nat → UInt8) (hT : ∀ j, T j = 0) (N at_ far : Nat) : ∀ k n, min (n + k) (N - at_) ≤ longG T N at_ far k n
  | 0, n => by show _ ≤ n; omega
  | k + 1, n => by
    unfold longG
    by_cases h : at_ + n < N
    · rw [if_pos ⟨h, by rw [hT, hT]⟩]
      have := longG_zero T hT N at_ far k (n + 1)
      omega
    · rw [if_neg (fun e => h e.1)]; omega
theorem best_zero (T : Nat → UInt8) (hT : ∀ j, T j = 0) (N at_ : Nat) (h : 1 ≤ at_) : min 66 (N - at_) ≤ (bestAt T N at_).1 := by
  have h1 := longG_zero T hT N at_ 1 66 0
  have h2 := best_ge T N at_ (min 1024 at_) 1 (Nat.le_refl _) (by omega)
  unfold long at h2
  unfold bestAt
  omega
theorem parseG_zero (T : Nat → UInt8) (hT : ∀ j, T j = 0) (N : Nat) : ∀ k at_, 1 ≤ at_ → (parseG T N k at_).length ≤ (N - at_) / 66 + 3
  | 0, at_, _ => Nat.zero_le _
  | k + 1, at_, h => by
    have hl := parseG_len T N (k + 1) at_
    by_cases h1 : 3 ≤ N - at_
    · have hb := best_zero T hT N at_ h
      have hs : at_ + min 66 (N - at_) ≤ stepAt T N at_ := by unfold stepAt; rw [if_neg (by omega)]; omega
      rw [parseG_step T N k at_ (by omega), List.length_cons]
      have h2 := parseG_len T N k (stepAt T N at_)
      have h3 := parseG_zero T hT N k (stepAt T N at_) (by omega)
      omega
    · omega
theorem pack_zeros (n : Nat) (h : n ≤ 4000) : (packB ⟨(List.replicate n (0 : UInt8)).toArray⟩).size ≤ 20000 := by
  have hn : (⟨(List.replicate n (0 : UInt8)).toArray⟩ : ByteArray).size = n := by rw [size_mk, List.length_replicate]
  have h1 := pack_size ⟨(List.replicate n (0 : UInt8)).toArray⟩ (by omega)
  have hT : ∀ j, bF ⟨(List.replicate n (0 : UInt8)).toArray⟩ j = 0 := by
    intro j
    show (List.replicate n (0 : UInt8)).getD j 0 = 0
    rw [List.getD_eq_getElem?_getD, List.getElem?_replicate]
    split <;> rfl
  have h2 : (parseL (bF ⟨(List.replicate n (0 : UInt8)).toArray⟩) n).length ≤ 1 + (n / 66 + 3) := by
    show (parseG _ n n 0).length ≤ _
    cases n with
    | zero => exact Nat.zero_le _
    | succ n =>
      show (parseG _ (n + 1) (n + 1) 0).length ≤ _
      rw [parseG_step _ (n + 1) n 0 (Nat.succ_pos n), List.length_cons]
      have hs := stepAt_gt (bF ⟨(List.replicate (n + 1) (0 : UInt8)).toArray⟩) (n + 1) 0
      have := parseG_zero _ hT (n + 1) n _ hs
      omega
  rw [hn] at h1
  omega
/-- What is drawn, and is not too long, comes back. -/
theorem drawn_back (t : ByteArray) (h : t.size ≤ 4000) (hd : t.size ≤ 300 ∨ ∃ n, n ≤ 4001 ∧ t = ⟨(List.replicate n (0 : UInt8)).toArray⟩) : unpackS (packS t) = (t, 0) := by
  rw [show packS t = packB t from if_pos h]
  refine unpack_pack t h ?_
  rcases hd with hd | ⟨n, _, rfl⟩
  · exact pack_small t hd
  · rw [size_mk, List.length_replicate] at h
    exact pack_zeros n h
/-- What Unpack takes, Pack makes again. -/
theorem pack_unpack (s : ByteArray) (h : (unpackS s).2 = 0) : packS (unpackS s).1 = s := by
  unfold unpackS at *
  split at h
  · cases h
  · rename_i h1
    rw [if_neg h1]
    split at h
    · rename_i h2
      rw [if_pos h2]
      split at h
      · cases h
      · rename_i h3
        rw [if_neg h3]
        unfold unpN at *
        split at h
        · rename_i h4
          rw [if_pos h4]
          split at h
          · rename_i h5
            rw [if_pos h5]
            have hz := unpO_size _ _ h4
            show packS (unpO _ _).1 = s
            unfold packS
            rw [if_pos (by rw [hz]; omega)]
            exact h5
          · cases h
        · cases h
    · cases h
end Go.Proofs.YtconcnndghmdfaaGreatDoor
namespace Go.Proofs.YtconcnndghmdfaaGreatDoor
open Go Go.RowKit
attribute [local irreducible] times sbox encF ctrB
theorem data_take (b : ByteArray) (k : Nat) : (b.extract 0 k).data.toList = b.data.toList.take k := by
  rw [ByteArray.data_extract, Array.toList_extract, List.extract_eq_take_drop]; simp
theorem bF_take (b : ByteArray) (k j : Nat) (hj : j < k) : bF (b.extract 0 k) j = bF b j := by
  unfold bF
  rw [data_take, List.getD_eq_getElem?_getD, List.getD_eq_getElem?_getD, List.getElem?_take_of_lt hj]
theorem bF_ctrL (K : Nat → UInt8) (N : Nat) (T : Nat → UInt8) (n j : Nat) (hj : j < n) : bF ⟨(ctrL K N T n).toArray⟩ j = ctrF K N T j := by
  unfold bF
  show (ctrL K N T n).toArray.toList.getD j 0 = _
  rw [List.getD_eq_getElem?_getD, List.toList_toArray, ctrL, List.getElem?_map, List.getElem?_range hj]; rfl
theorem size_ctrL (K : Nat → UInt8) (N : Nat) (T : Nat → UInt8) (n : Nat) : (⟨(ctrL K N T n).toArray⟩ : ByteArray).size = n := by rw [size_mk]; simp [ctrL]
theorem list_bF (b : ByteArray) : b.data.toList = (List.range b.size).map (bF b) := by
  apply List.ext_getElem?
  intro j
  by_cases hj : j < b.size
  · rw [bF_at b b.size rfl j hj, List.getElem?_map, List.getElem?_range hj]; rfl
  · have e : b.data.toList.length = b.size := rfl
    rw [List.getElem?_eq_none (by omega), List.getElem?_eq_none (by simp; omega)]
theorem ctrL_congr {K : Nat → UInt8} {N : Nat} {T U : Nat → UInt8} {n : Nat} (h : ∀ j, j < n → ctrF K N T j = U j) : ctrL K N T n = (List.range n).map U := by
  unfold ctrL
  apply List.map_congr_left
  intro j hj
  exact h j (List.mem_range.1 hj)
theorem ctrS_yes (key : ByteArray) (n : Int) (text : ByteArray) (h1 : key.size = 16) (h2 : 0 ≤ n) (h3 : text.size ≤ 20000) : ctrS key n text = ⟨(ctrL (kB (keyF key)) n.toNat (bF text) text.size).toArray⟩ := if_pos ⟨h1, h2, h3⟩
theorem ctrS_size (key : ByteArray) (n : Int) (text : ByteArray) (h1 : key.size = 16) (h2 : 0 ≤ n) (h3 : text.size ≤ 20000) : (ctrS key n text).size = text.size := by
  rw [ctrS_yes key n text h1 h2 h3, size_ctrL]
theorem ctrS_twice (key : ByteArray) (n : Int) (text : ByteArray) (h1 : key.size = 16) (h2 : 0 ≤ n) (h3 : text.size ≤ 20000) : ctrS key n (ctrS key n text) = text := by
  have hs := ctrS_size key n text h1 h2 h3
  rw [ctrS_yes key n (ctrS key n text) h1 h2 (by omega), hs]
  apply ByteArray.ext
  rw [← Array.toList_inj]
  show (ctrL _ _ _ _).toArray.toList = _
  rw [List.toList_toArray, list_bF text]
  apply ctrL_congr
  intro j hj
  rw [ctrF, ctrS_yes key n text h1 h2 h3, bF_ctrL _ _ _ _ _ hj, ctrF, UInt8.xor_assoc, UInt8.xor_self, UInt8.xor_zero]
theorem ctrS_pre (key : ByteArray) (n : Int) (text : ByteArray) (k : Nat) (h1 : key.size = 16) (h2 : 0 ≤ n) (h3 : text.size ≤ 20000) (hk : k ≤ text.size) : ctrS key n (text.extract 0 k) = (ctrS key n text).extract 0 k := by
  have hs : (text.extract 0 k).size = k := by rw [ByteArray.size_extract]; omega
  rw [ctrS_yes key n (text.extract 0 k) h1 h2 (by omega), hs]
  apply ByteArray.ext
  rw [← Array.toList_inj, data_take, ctrS_yes key n text h1 h2 h3]
  show (ctrL _ _ _ _).toArray.toList = (ctrL _ _ _ _).toArray.toList.take k
  rw [List.toList_toArray, List.toList_toArray]
  have e : (ctrL (kB (keyF key)) n.toNat (bF text) text.size).take k = (List.range k).map (ctrF (kB (keyF key)) n.toNat (bF text)) := by
    unfold ctrL
    rw [← List.map_take, List.take_range, Nat.min_eq_left hk]
  rw [e]
  apply ctrL_congr
  intro j hj
  rw [ctrF, ctrF, bF_take text k j hj]
theorem ctrS_no (key : ByteArray) (n : Int) (text : ByteArray) (h : ¬ (key.size = 16 ∧ 0 ≤ n)) : ctrS key n text = ⟨#[]⟩ := if_neg (fun x => h ⟨x.1, x.2.1⟩)
end Go.Proofs.YtconcnndghmdfaaGreatDoor
namespace Go.Proofs.YtconcnndghmdfaaGreatDoor
open Go.RowKit Go
def mkB (n : Nat) (f : Nat → UInt8) : ByteArray := ⟨((List.range n).map f).toArray⟩
theorem mkB_size (n : Nat) (f : Nat → UInt8) : (mkB n f).size = n := by unfold mkB; rw [size_mk]; simp
theorem mkB_at (n : Nat) (f : Nat → UInt8) (j : Nat) (hj : j < n) : bF (mkB n f) j = f j := by
  unfold bF mkB
  show ((List.range n).map f).toArray.toList.getD j 0 = _
  rw [List.getD_eq_getElem?_getD, List.toList_toArray, List.getElem?_map, List.getElem?_range hj]; rfl
theorem mkB_self {n : Nat} {f : Nat → UInt8} (t : ByteArray) (hn : n = t.size) (hf : ∀ j, j < n → f j = bF t j) : mkB n f = t := by
  subst hn
  apply ByteArray.ext
  rw [← Array.toList_inj]
  show ((List.range t.size).map f).toArray.toList = _
  rw [List.toList_toArray]
  apply List.ext_getElem?
  intro j
  by_cases hj : j < t.size
  · rw [bF_at t t.size rfl j hj, List.getElem?_map, List.getElem?_range hj]
    show some (f j) = _
    rw [hf j hj]
  · have e : t.data.toList.length = t.size := rfl
    rw [List.getElem?_eq_none (by simp; omega), List.getElem?_eq_none (by omega)]
theorem sum_dif (T U : Nat → UInt8) (n far : Nat) (hf : 0 < far) (hU : ∀ j, j < n → U j = difF T far j) : ∀ j, j < n → sumF U far j = T j := by
  intro j
  induction j using Nat.strongRecOn with
  | _ j ih =>
    intro hj
    rw [sumF, hU j hj, difF]
    by_cases h : far ≤ j
    · rw [dif_pos ⟨h, hf⟩, if_pos h, ih (j - far) (by omega) (by omega), UInt8.sub_add_cancel]
    · rw [dif_neg (fun x => h x.1), if_neg h]
theorem dif_sum (T U : Nat → UInt8) (n far : Nat) (hf : 0 < far) (hU : ∀ j, j < n → U j = sumF T far j) (j : Nat) (hj : j < n) : difF U far j = T j := by
  rw [difF]
  by_cases h : far ≤ j
  · rw [if_pos h, hU j hj, hU (j - far) (by omega), sumF, dif_pos ⟨h, hf⟩, UInt8.add_sub_cancel]
  · rw [if_neg h, hU j hj, sumF, dif_neg (fun x => h x.1)]
end Go.Proofs.YtconcnndghmdfaaGreatDoor
