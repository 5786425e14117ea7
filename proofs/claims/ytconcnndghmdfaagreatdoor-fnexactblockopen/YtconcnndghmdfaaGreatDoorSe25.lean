/- Put together: PackT, CtrTw, MkB, ImpRot, ImpSched. -/
import Derived.Test.YtconcnndghmdfaaGreatDoorSe18
import Derived.Test.YtconcnndghmdfaaGreatDoorSe19
import Derived.Test.YtconcnndghmdfaaGreatDoorSe7
import Derived.Test.YtconcnndghmdfaaGreatDoorSe14
import Derived.Test.YtconcnndghmdfaaGreatDoorSe1
import Derived.Test.YtconcnndghmdfaaGreatDoorSe2
namespace Go.Proofs.YtconcnndghmdfaaGreatDoor
open Go.RowKit
theorem upto_self' (t : ByteArray) : (⟨(upto (bF t) t.size).toArray⟩ : ByteArray) = t := by
  apply ByteArray.ext
  apply Array.toList_inj.1
  show (upto (bF t) t.size).toArray.toList = _
  apply List.ext_getElem?
  intro j
  by_cases h : j < t.size
  · rw [bF_at t t.size rfl j h]
    simp [upto, h]
  · rw [List.getElem?_eq_none (by simp [upto]; omega), List.getElem?_eq_none (by have e : t.data.toList.length = t.size := rfl; omega)]
theorem pack_list (t : ByteArray) : (packB t).data.toList = encNum (foldNum t.size) ++ codeOf (toksBits (parseL (bF t) t.size)) := by
  unfold packB; simp
theorem ext_list' (s : ByteArray) (a : Nat) : (s.extract a s.size).data.toList = s.data.toList.drop a := by
  have e : s.data.toList.length = s.size := rfl
  simp only [ByteArray.data_extract, Array.toList_extract, List.extract]
  exact List.take_of_length_le (by rw [List.length_drop]; omega)
theorem unpack_pack (t : ByteArray) (h : t.size ≤ 4000) (h2 : (packB t).size ≤ 20000) : unpackS (packB t) = (t, 0) := by
  have hf : foldNum (t.size : Int) < 18446744073709551616 := by have := fold_pos t.size (by omega); omega
  have hd : decAt (packB t) 0 = (0, foldNum t.size, (encNum (foldNum t.size)).length) := by
    unfold decAt
    rw [List.drop_zero, pack_list]
    exact dec_whole _ _ hf
  have hx : ((packB t).extract (encNum (foldNum t.size)).length (packB t).size).data.toList = codeOf (toksBits (parseL (bF t) t.size)) := by
    rw [ext_list', pack_list, List.drop_left]
  have hu : unpO ((packB t).extract (encNum (foldNum t.size)).length (packB t).size) t.size = (t, true) := by
    unfold unpO
    rw [unpack_back (bF t) t.size (tbN _) (tbN_lt _) (fun j u hj => by
      unfold tbN bF
      rw [hx, List.getD_eq_getElem?_getD, hj]; rfl)]
    show ((⟨(upto (bF t) t.size).toArray⟩ : ByteArray), decide ((upto (bF t) t.size).length = t.size)) = _
    rw [upto_self', upto_len, decide_eq_true rfl]
  have hE := show unpackS (packB t) = _ from if_neg (show ¬ 20000 < (packB t).size by omega)
  rw [hd] at hE
  simp only [if_true] at hE
  rw [unfold_fold, if_neg (by omega), Int.toNat_natCast] at hE
  rw [hE]
  unfold unpN
  rw [hu]
  simp
theorem pack_size (t : ByteArray) (h : t.size ≤ 4000) : (packB t).size ≤ 17 * (parseL (bF t) t.size).length + 6 := by
  have e : (packB t).size = (encNum (foldNum t.size)).length + (codeOf (toksBits (parseL (bF t) t.size))).length := by
    have := congrArg List.length (pack_list t)
    rw [List.length_append] at this
    exact this
  have h1 := codeOf_len (toksBits (parseL (bF t) t.size))
  have h2 := toksBits_len (parseL (bF t) t.size)
  have h4 := encNum_le 1 (foldNum t.size) (by unfold foldNum; rw [if_neg (by omega)]; show (2 * (t.size : Int)).toNat < 16384; omega)
  omega
theorem pack_small (t : ByteArray) (h : t.size ≤ 300) : (packB t).size ≤ 20000 := by
  have h1 := pack_size t (by omega)
  have h3 := parseL_len (bF t) t.size
  omega
theorem longG_zero (T : Nat → UInt8) (hT : ∀ j, T j = 0) (N at_ far : Nat) : ∀ k n, min (n + k) (N - at_) ≤ longG T N at_ far k n
  | 0, n => by show _ ≤ n; omega
  | k + 1, n => by
    unfold longG
    by_cases h : at_ + n < N
    · rw [if_pos ⟨h, by rw [hT, hT]⟩]
      have := longG_zero T hT N at_ far k (n + 1)
      omega
    · rw [if_neg (fun e => h e.1)]; omega
theorem best_zero (T : Nat → UInt8) (hT : ∀ j, T j = 0) (N at_ : Nat) (h : 1 ≤ at_) : min 66 (N - at_) ≤ (bestAt T N at_).1 := by
  have h1 := longG_zero T hT N at_ 1 66 0
  have h2 := best_ge T N at_ (min 1024 at_) 1 (Nat.le_refl _) (by omega)
  unfold long at h2
  unfold bestAt
  omega
theorem parseG_zero (T : Nat → UInt8) (hT : ∀ j, T j = 0) (N : Nat) : ∀ k at_, 1 ≤ at_ → (parseG T N k at_).length ≤ (N - at_) / 66 + 3
  | 0, at_, _ => Nat.zero_le _
  | k + 1, at_, h => by
    have hl := parseG_len T N (k + 1) at_
    by_cases h1 : 3 ≤ N - at_
    · have hb := best_zero T hT N at_ h
      have hs : at_ + min 66 (N - at_) ≤ stepAt T N at_ := by unfold stepAt; rw [if_neg (by omega)]; omega
      rw [parseG_step T N k at_ (by omega), List.length_cons]
      have h2 := parseG_len T N k (stepAt T N at_)
      have h3 := parseG_zero T hT N k (stepAt T N at_) (by omega)
      omega
    · omega
theorem pack_zeros (n : Nat) (h : n ≤ 4000) : (packB ⟨(List.replicate n (0 : UInt8)).toArray⟩).size ≤ 20000 := by
  have hn : (⟨(List.replicate n (0 : UInt8)).toArray⟩ : ByteArray).size = n := by rw [size_mk, List.length_replicate]
  have h1 := pack_size ⟨(List.replicate n (0 : UInt8)).toArray⟩ (by omega)
  have hT : ∀ j, bF ⟨(List.replicate n (0 : UInt8)).toArray⟩ j = 0 := by
    intro j
    show (List.replicate n (0 : UInt8)).getD j 0 = 0
    rw [List.getD_eq_getElem?_getD, List.getElem?_replicate]
    split <;> rfl
  have h2 : (parseL (bF ⟨(List.replicate n (0 : UInt8)).toArray⟩) n).length ≤ 1 + (n / 66 + 3) := by
    show (parseG _ n n 0).length ≤ _
    cases n with
    | zero => exact Nat.zero_le _
    | succ n =>
      show (parseG _ (n + 1) (n + 1) 0).length ≤ _
      rw [parseG_step _ (n + 1) n 0 (Nat.succ_pos n), List.length_cons]
      have hs := stepAt_gt (bF ⟨(List.replicate (n + 1) (0 : UInt8)).toArray⟩) (n + 1) 0
      have := parseG_zero _ hT (n + 1) n _ hs
      omega
  rw [hn] at h1
  omega
/-- What is drawn, and is not too long, comes back. -/
theorem drawn_back (t : ByteArray) (h : t.size ≤ 4000) (hd : t.size ≤ 300 ∨ ∃ n, n ≤ 4001 ∧ t = ⟨(List.replicate n (0 : UInt8)).toArray⟩) : unpackS (packS t) = (t, 0) := by
  rw [show packS t = packB t from if_pos h]
  refine unpack_pack t h ?_
  rcases hd with hd | ⟨n, _, rfl⟩
  · exact pack_small t hd
  · rw [size_mk, List.length_replicate] at h
    exact pack_zeros n h
/-- What Unpack takes, Pack makes again. -/
theorem pack_unpack (s : ByteArray) (h : (unpackS s).2 = 0) : packS (unpackS s).1 = s := by
  unfold unpackS at *
  split at h
  · cases h
  · rename_i h1
    rw [if_neg h1]
    split at h
    · rename_i h2
      rw [if_pos h2]
      split at h
      · cases h
      · rename_i h3
        rw [if_neg h3]
        unfold unpN at *
        split at h
        · rename_i h4
          rw [if_pos h4]
          split at h
          · rename_i h5
            rw [if_pos h5]
            have hz := unpO_size _ _ h4
            show packS (unpO _ _).1 = s
            unfold packS
            rw [if_pos (by rw [hz]; omega)]
            exact h5
          · cases h
        · cases h
    · cases h
end Go.Proofs.YtconcnndghmdfaaGreatDoor
namespace Go.Proofs.YtconcnndghmdfaaGreatDoor
open Go Go.RowKit
attribute [local irreducible] times sbox encF ctrB
theorem data_take (b : ByteArray) (k : Nat) : (b.extract 0 k).data.toList = b.data.toList.take k := by
  rw [ByteArray.data_extract, Array.toList_extract, List.extract_eq_take_drop]; simp
theorem bF_take (b : ByteArray) (k j : Nat) (hj : j < k) : bF (b.extract 0 k) j = bF b j := by
  unfold bF
  rw [data_take, List.getD_eq_getElem?_getD, List.getD_eq_getElem?_getD, List.getElem?_take_of_lt hj]
theorem bF_ctrL (K : Nat → UInt8) (N : Nat) (T : Nat → UInt8) (n j : Nat) (hj : j < n) : bF ⟨(ctrL K N T n).toArray⟩ j = ctrF K N T j := by
  unfold bF
  show (ctrL K N T n).toArray.toList.getD j 0 = _
  rw [List.getD_eq_getElem?_getD, List.toList_toArray, ctrL, List.getElem?_map, List.getElem?_range hj]; rfl
theorem size_ctrL (K : Nat → UInt8) (N : Nat) (T : Nat → UInt8) (n : Nat) : (⟨(ctrL K N T n).toArray⟩ : ByteArray).size = n := by rw [size_mk]; simp [ctrL]
theorem list_bF (b : ByteArray) : b.data.toList = (List.range b.size).map (bF b) := by
  apply List.ext_getElem?
  intro j
  by_cases hj : j < b.size
  · rw [bF_at b b.size rfl j hj, List.getElem?_map, List.getElem?_range hj]; rfl
  · have e : b.data.toList.length = b.size := rfl
    rw [List.getElem?_eq_none (by omega), List.getElem?_eq_none (by simp; omega)]
theorem ctrL_congr {K : Nat → UInt8} {N : Nat} {T U : Nat → UInt8} {n : Nat} (h : ∀ j, j < n → ctrF K N T j = U j) : ctrL K N T n = (List.range n).map U := by
  unfold ctrL
  apply List.map_congr_left
  intro j hj
  exact h j (List.mem_range.1 hj)
theorem ctrS_yes (key : ByteArray) (n : Int) (text : ByteArray) (h1 : key.size = 16) (h2 : 0 ≤ n) (h3 : text.size ≤ 20000) : ctrS key n text = ⟨(ctrL (kB (keyF key)) n.toNat (bF text) text.size).toArray⟩ := if_pos ⟨h1, h2, h3⟩
theorem ctrS_size (key : ByteArray) (n : Int) (text : ByteArray) (h1 : key.size = 16) (h2 : 0 ≤ n) (h3 : text.size ≤ 20000) : (ctrS key n text).size = text.size := by
  rw [ctrS_yes key n text h1 h2 h3, size_ctrL]
theorem ctrS_twice (key : ByteArray) (n : Int) (text : ByteArray) (h1 : key.size = 16) (h2 : 0 ≤ n) (h3 : text.size ≤ 20000) : ctrS key n (ctrS key n text) = text := by
  have hs := ctrS_size key n text h1 h2 h3
  rw [ctrS_yes key n (ctrS key n text) h1 h2 (by omega), hs]
  apply ByteArray.ext
  rw [← Array.toList_inj]
  show (ctrL _ _ _ _).toArray.toList = _
  rw [List.toList_toArray, list_bF text]
  apply ctrL_congr
  intro j hj
  rw [ctrF, ctrS_yes key n text h1 h2 h3, bF_ctrL _ _ _ _ _ hj, ctrF, UInt8.xor_assoc, UInt8.xor_self, UInt8.xor_zero]
theorem ctrS_pre (key : ByteArray) (n : Int) (text : ByteArray) (k : Nat) (h1 : key.size = 16) (h2 : 0 ≤ n) (h3 : text.size ≤ 20000) (hk : k ≤ text.size) : ctrS key n (text.extract 0 k) = (ctrS key n text).extract 0 k := by
  have hs : (text.extract 0 k).size = k := by rw [ByteArray.size_extract]; omega
  rw [ctrS_yes key n (text.extract 0 k) h1 h2 (by omega), hs]
  apply ByteArray.ext
  rw [← Array.toList_inj, data_take, ctrS_yes key n text h1 h2 h3]
  show (ctrL _ _ _ _).toArray.toList = (ctrL _ _ _ _).toArray.toList.take k
  rw [List.toList_toArray, List.toList_toArray]
  have e : (ctrL (kB (keyF key)) n.toNat (bF text) text.size).take k = (List.range k).map (ctrF (kB (keyF key)) n.toNat (bF text)) := by
    unfold ctrL
    rw [← List.map_take, List.take_range, Nat.min_eq_left hk]
  rw [e]
  apply ctrL_congr
  intro j hj
  rw [ctrF, ctrF, bF_take text k j hj]
theorem ctrS_no (key : ByteArray) (n : Int) (text : ByteArray) (h : ¬ (key.size = 16 ∧ 0 ≤ n)) : ctrS key n text = ⟨#[]⟩ := if_neg (fun x => h ⟨x.1, x.2.1⟩)
end Go.Proofs.YtconcnndghmdfaaGreatDoor
namespace Go.Proofs.YtconcnndghmdfaaGreatDoor
open Go.RowKit Go
def mkB (n : Nat) (f : Nat → UInt8) : ByteArray := ⟨((List.range n).map f).toArray⟩
theorem mkB_size (n : Nat) (f : Nat → UInt8) : (mkB n f).size = n := by unfold mkB; rw [size_mk]; simp
theorem mkB_at (n : Nat) (f : Nat → UInt8) (j : Nat) (hj : j < n) : bF (mkB n f) j = f j := by
  unfold bF mkB
  show ((List.range n).map f).toArray.toList.getD j 0 = _
  rw [List.getD_eq_getElem?_getD, List.toList_toArray, List.getElem?_map, List.getElem?_range hj]; rfl
theorem mkB_self {n : Nat} {f : Nat → UInt8} (t : ByteArray) (hn : n = t.size) (hf : ∀ j, j < n → f j = bF t j) : mkB n f = t := by
  subst hn
  apply ByteArray.ext
  rw [← Array.toList_inj]
  show ((List.range t.size).map f).toArray.toList = _
  rw [List.toList_toArray]
  apply List.ext_getElem?
  intro j
  by_cases hj : j < t.size
  · rw [bF_at t t.size rfl j hj, List.getElem?_map, List.getElem?_range hj]
    show some (f j) = _
    rw [hf j hj]
  · have e : t.data.toList.length = t.size := rfl
    rw [List.getElem?_eq_none (by simp; omega), List.getElem?_eq_none (by omega)]
theorem sum_dif (T U : Nat → UInt8) (n far : Nat) (hf : 0 < far) (hU : ∀ j, j < n → U j = difF T far j) : ∀ j, j < n → sumF U far j = T j := by
  intro j
  induction j using Nat.strongRecOn with
  | _ j ih =>
    intro hj
    rw [sumF, hU j hj, difF]
    by_cases h : far ≤ j
    · rw [dif_pos ⟨h, hf⟩, if_pos h, ih (j - far) (by omega) (by omega), UInt8.sub_add_cancel]
    · rw [dif_neg (fun x => h x.1), if_neg h]
theorem dif_sum (T U : Nat → UInt8) (n far : Nat) (hf : 0 < far) (hU : ∀ j, j < n → U j = sumF T far j) (j : Nat) (hj : j < n) : difF U far j = T j := by
  rw [difF]
  by_cases h : far ≤ j
  · rw [if_pos h, hU j hj, hU (j - far) (by omega), sumF, dif_pos ⟨h, hf⟩, UInt8.add_sub_cancel]
  · rw [if_neg h, hU j hj, sumF, dif_neg (fun x => h x.1)]
end Go.Proofs.YtconcnndghmdfaaGreatDoor
namespace Go.Proofs.YtconcnndghmdfaaGreatDoor
open Go.RowKit
theorem or_comm32 (a b : Nat) : or32 a b = or32 b a := by unfold or32; exact Nat.or_comm _ _
theorem rot_eq (x k S : Nat) (h : S + k = 32) : bits .or .u32 ((x : Int) * 2 ^ S % 4294967296) ((x : Int) / 2 ^ k) = ((turn32 x k : Nat) : Int) := by
  have e : ((x : Int) * 2 ^ S % 4294967296) = ((shl32 x S : Nat) : Int) := by rw [← r_shl, IntKind.wrap_u32]
  have hk : S = 32 - k := by omega
  rw [r_shr, e, r_or, or_comm32, hk]; rfl
theorem and31 : ∀ k : Fin 32, 1 ≤ k.1 → bits .and .u64 (IntKind.u64.wrap (-(k.1 : Int))) 31 = ((32 - k.1 : Nat) : Int) := by decide
set_option maxRecDepth 100000 in
set_option maxHeartbeats 400000 in
theorem rot (x k : Nat) (w : World) (hk0 : 1 ≤ k) (hk : k ≤ 31) :
    Calls Tryz.prog 165 #[.int .u32 x, .int .i64 (-(k : Int))] w fun e w' => e = .returned (.int .u32 (turn32 x k)) ∧ w = w' := by
  have hand : bits .and .u64 (IntKind.u64.wrap (-(k : Int))) 31 = ((32 - k : Nat) : Int) := and31 ⟨k, by omega⟩ hk0
  go_enter Tryz.func165, Tryz.ntmps165
  go_wp2_with fail
  have ht := rot_eq x k (32 - k) (by omega)
  have hk2 : 32 - (32 - k) = k := by omega
  rw [hk2]
  simp only [ht]
  go_ret
  exact ⟨rfl, rfl⟩
theorem rotK (x : Nat) (K : Int) (w : World) (h0 : 1 ≤ K) (h : K ≤ 31) :
    Calls Tryz.prog 165 #[.int .u32 x, .int .i64 (-K)] w fun e w' => e = .returned (.int .u32 (turn32 x K.toNat)) ∧ w = w' := by
  have := rot x K.toNat w (by omega) (by omega)
  rwa [show ((K.toNat : Nat) : Int) = K by omega] at this
set_option maxRecDepth 100000 in
set_option maxHeartbeats 400000 in
theorem twice (x : Nat) (J K : Int) (w : World) (j0 : 1 ≤ J) (j1 : J ≤ 31) (k0 : 1 ≤ K) (k1 : K ≤ 31) :
    Calls Tryz.prog 164 #[.int .u32 x, .int .i64 J, .int .i64 K] w fun e w' => e = .returned (.int .u32 (xor32 (turn32 x J.toNat) (turn32 x K.toNat))) ∧ w = w' := by
  have hx := r_xor (turn32 x J.toNat) (turn32 x K.toNat)
  go_enter Tryz.func164, Tryz.ntmps164
  go_wp2_with fail
  refine (rotK x J w j0 j1).mono ?_
  rintro e w1 ⟨rfl, rfl⟩
  go_wp2_with fail
  refine (rotK x K w k0 k1).mono ?_
  rintro e w2 ⟨rfl, rfl⟩
  go_wp2_with fail
  go_ret
  exact ⟨rfl, rfl⟩
set_option maxRecDepth 100000 in
set_option maxHeartbeats 400000 in
theorem thrice (x : Nat) (I J K : Int) (w : World) (i0 : 1 ≤ I) (i1 : I ≤ 31) (j0 : 1 ≤ J) (j1 : J ≤ 31) (k0 : 1 ≤ K) (k1 : K ≤ 31) :
    Calls Tryz.prog 161 #[.int .u32 x, .int .i64 I, .int .i64 J, .int .i64 K] w fun e w' => e = .returned (.int .u32 (xor32 (xor32 (turn32 x I.toNat) (turn32 x J.toNat)) (turn32 x K.toNat))) ∧ w = w' := by
  have hx := r_xor (xor32 (turn32 x I.toNat) (turn32 x J.toNat)) (turn32 x K.toNat)
  go_enter Tryz.func161, Tryz.ntmps161
  go_wp2_with fail
  refine (twice x I J w i0 i1 j0 j1).mono ?_
  rintro e w1 ⟨rfl, rfl⟩
  go_wp2_with fail
  refine (rotK x K w k0 k1).mono ?_
  rintro e w2 ⟨rfl, rfl⟩
  go_wp2_with fail
  go_ret
  exact ⟨rfl, rfl⟩
end Go.Proofs.YtconcnndghmdfaaGreatDoor
namespace Go.Proofs.YtconcnndghmdfaaGreatDoor
open Go.RowKit
theorem mod_or (a b k : Nat) : (a ||| b) % 2 ^ k = (a % 2 ^ k) ||| (b % 2 ^ k) := Nat.or_mod_two_pow
theorem shl_or (a b k : Nat) : shl32 (or32 a b) k = or32 (shl32 a k) (shl32 b k) := by
  have h (x : Nat) : (x % 4294967296 * 2 ^ k) % 4294967296 = x * 2 ^ k % 4294967296 := Nat.mod_mul_mod _ _ _
  unfold shl32 or32
  rw [← Nat.shiftLeft_eq, Nat.shiftLeft_or_distrib, Nat.shiftLeft_eq, Nat.shiftLeft_eq, show (4294967296 : Nat) = 2 ^ 32 from rfl, mod_or, Nat.mod_mod, Nat.mod_mod]
  rw [show (2 : Nat) ^ 32 = 4294967296 from rfl, h, h]
theorem shl_shl (a j k : Nat) : shl32 (shl32 a j) k = shl32 a (j + k) := by
  unfold shl32; rw [Nat.mod_mul_mod, Nat.pow_add, Nat.mul_assoc]
theorem or_mod (a b : Nat) : or32 a (b % 4294967296) = or32 a b := by unfold or32; rw [Nat.mod_mod]
/-- What a word holds when j of its four bytes are in. -/
def part (B : Nat → Nat) (i : Nat) : Nat → Nat
  | 0 => 0
  | j + 1 => or32 (shl32 (part B i j) 8) (B (4 * i + j))
theorem part_lt (B : Nat → Nat) (i : Nat) : ∀ j, part B i j < 4294967296
  | 0 => Nat.zero_lt_succ _
  | _ + 1 => lt_or _ _
theorem part_four (B : Nat → Nat) (i : Nat) : part B i 4 = word B i := by
  show or32 (shl32 (or32 (shl32 (or32 (shl32 (or32 (shl32 0 8) (B (4 * i + 0))) 8) (B (4 * i + 1))) 8) (B (4 * i + 2))) 8) (B (4 * i + 3)) = _
  have z : shl32 0 8 = 0 := by decide
  have o (x : Nat) : or32 0 x = x % 4294967296 := by unfold or32; simp
  have m (x : Nat) : shl32 (x % 4294967296) 8 = shl32 x 8 := by unfold shl32; rw [Nat.mod_mul_mod]
  rw [z, o, m, shl_or, shl_or, shl_or, shl_shl, shl_shl, shl_shl]
  rfl
theorem alloc_size (w : World) (o : Obj) : (w.alloc o).heap.size = w.heap.size + 1 := by simp
theorem zeros_row (w : World) (c : Array Value) (t : Nat) (hc : c = (List.replicate 64 (Value.int .u32 0)).toArray) : (w.alloc (.cells c t)).rowIs w.heap.size t 64 (u32V fun _ => 0) := by
  subst hc
  refine World.rowIs_alloc w _ _ _ ?_
  intro i hi
  have : i < 64 := by simpa using hi
  rw [List.getElem?_toArray, List.getElem?_replicate, if_pos this]; rfl
theorem set_word' {wr : World} {g E k : Nat} {f : Nat → Nat} {X : Nat} (h : wr.rowIs g E 64 (u32V f)) : (wr.setCell ⟨g, k, none⟩ (.int .u32 (X : Int))).rowIs g E 64 (u32V fun j => if j = k then X else f j) := by
  refine ((h.set k (.int .u32 (X : Int))).congr ?_)
  intro i _
  simp only [u32V]
  split <;> rfl
theorem part_step {B : Nat → Nat} {i j X b : Nat} (hX : X = part B i j) (hb : b = B (4 * i + j)) : bits .or .u32 ((X : Int) * 256 % 4294967296) (b : Int) = ((part B i (j + 1) : Nat) : Int) := by
  have e : ((X : Int) * 256 % 4294967296) = ((shl32 X 8 : Nat) : Int) := by unfold shl32; simp
  rw [e, r_or, hX, hb]; rfl
theorem sched_val (B : Nat → Nat) (k q2 q7 q15 q16 x2 x7 x15 x16 : Nat) (hk : ¬ k < 16) (he : q2 = k - 2 ∧ q7 = k - 7 ∧ q15 = k - 15 ∧ q16 = k - 16) (v2 : x2 = wd B q2) (v7 : x7 = wd B q7) (v15 : x15 = wd B q15) (v16 : x16 = wd B q16) :
    ((x16 : Int) + ((sig0 x15 : Nat) : Int) + (x7 : Int) + ((sig1 x2 : Nat) : Int)) % 4294967296 = ((wd B k : Nat) : Int) := by
  obtain ⟨e2, e7, e15, e16⟩ := he
  rw [wd_hi B k hk, ← e2, ← e7, ← e15, ← e16, ← v2, ← v7, ← v15, ← v16]
  unfold add32
  omega
theorem below_setRow {B : Nat} {a w : World} (h : Below B a w) (g : Nat) (cs : Array Value) (hg : B ≤ g) : Below B a (w.setRow g cs) :=
  h.trans ⟨rfl, rfl, rfl, by simp, fun b hb => setRow_other w g b cs (by omega)⟩
theorem Tryz.size64 : (Tryz.prog.info? 235).map (·.size) = some 64 := by kernel_rfl
set_option maxRecDepth 100000 in
set_option maxHeartbeats 1600000 in
theorem sched (r o c : Nat) (B : Nat → Nat) (w : World) (hr : r < w.heap.size) (hB : ∀ j, j < 64 → B j < 256 ∧ w.cell? ⟨r, o + j, none⟩ = some (.int .u8 (B j : Nat))) :
    Calls Tryz.prog 160 #[.slice (some ⟨r, o, none⟩) 64 c] w fun e w' => ∃ cs, e = .returned (.agg cs) ∧ cs.size = 64 ∧ (∀ i, i < 64 → cs[i]? = some (.int .u32 (wd B i : Nat))) ∧ Below w.heap.size w w' := by
  have HB := hide hB
  clear hB
  go_enter Tryz.func160, Tryz.ntmps160
  go_wp2_with fail
  go_loopw [9] (fun i wr => ∃ (k : Nat) (f : Nat → Nat), k ≤ 16 ∧ i = .int .i64 k ∧ Hid (∀ j, j < 64 → f j = if j < k then word B j else 0) ∧ wr.rowIs w.heap.size 235 64 (u32V fun _ => 0) ∧ wr.rowIs (w.heap.size + 1) 235 64 (u32V f) ∧ Below w.heap.size w wr) (fun i _ => 16 - (intOf i).toNat)
  case atStart =>
    refine ⟨0, fun _ => 0, by omega, rfl, fun j hj => by simp, (zeros_row w _ _ rfl).alloc _, ?_, ((Below.refl _ _).alloc (Nat.le_refl _) _).alloc (by simp) _⟩
    have h := zeros_row (w.alloc (.cells (List.replicate 64 (Value.int .u32 0)).toArray 235)) (List.replicate 64 (Value.int .u32 0)).toArray 235 rfl
    simp only [alloc_size] at h
    exact h
  case round =>
    obtain ⟨k, f, hk, rfl, hf, hres, hrw, hbl⟩ := hrel
    by_cases hlt : k < 16
    · go_wp2_with fail
      go_loopw [12] (fun i wx => ∃ (m : Nat) (f : Nat → Nat), m ≤ 4 ∧ i = .int .i64 m ∧ Hid (∀ j, j < 64 → f j = if j < k then word B j else if j = k then part B k m else 0) ∧ wx.rowIs w.heap.size 235 64 (u32V fun _ => 0) ∧ wx.rowIs (w.heap.size + 1) 235 64 (u32V f) ∧ Below w.heap.size w wx) (fun i _ => 4 - (intOf i).toNat)
      case atStart => exact ⟨0, f, by omega, rfl, fun j hj => by rw [hf.out j hj]; split; rfl; split <;> rfl, hres, hrw, hbl⟩
      case round =>
        clear hf hres hrw hbl
        obtain ⟨m, f, hm, rfl, hf, hres, hrw, hbl⟩ := hrel
        by_cases hlt4 : m < 4
        · have ck := cell_u32 hrw k (by omega)
          have hfz := hrw.frozen k
          obtain ⟨q, e⟩ : ∃ q, q = 4 * k + m := ⟨_, rfl⟩
          obtain ⟨q0, e0⟩ : ∃ q, q = 4 * k := ⟨_, rfl⟩
          have m0 : IntKind.i64.wrap (4 * (k : Int)) = (q0 : Int) := by simp only [IntKind.wrap_i64]; omega
          have m1 : IntKind.i64.wrap ((q0 : Int) + (m : Int)) = (q : Int) := by simp only [IntKind.wrap_i64]; omega
          have nq : (q : Int) < 64 := by omega
          have hBq := HB.out q (by omega)
          have cb : wr.cell? ⟨r, o + q, none⟩ = some (.int .u8 (B q : Nat)) := (hbl.cell (p := ⟨r, o + q, none⟩) hr).trans hBq.2
          have bq : (B q : Int) ≤ 255 := by have := hBq.1; omega
          have hX := hide (show f k = part B k m by rw [hf.out k (by omega), if_neg (by omega), if_pos rfl])
          have hbq := hide (show B q = B (4 * k + m) by rw [e])
          clear e e0 hBq
          generalize B q = bb at *
          generalize f k = X at *
          go_wp2_with fail
          go_region
          have hp := part_step hX.out hbq.out
          simp only [hp]
          obtain ⟨Y, hY⟩ : ∃ Y, Y = part B k (m + 1) := ⟨_, rfl⟩
          simp only [← hY]
          have HY := hide hY
          clear hp hY m0 m1 bq cb ck hbq hX
          go_wp2_with fail
          go_roundw
          case rel =>
            refine ⟨m + 1, fun j => if j = k then Y else f j, by omega, by go_num, fun j hj => ?_, hres.setOther (by simp) _, set_word' hrw, (hbl.setCell (by simp) _).drew⟩
            show (if j = k then Y else f j) = _
            by_cases e : j = k
            · rw [if_pos e, if_neg (by omega), if_pos e, HY.out]
            · rw [if_neg e, hf.out j hj, if_neg e, if_neg e]
          case measure => simp [intOf]; omega
        · go_wp2_with fail
          go_roundw
          case rel =>
            refine ⟨k + 1, f, by omega, by go_num, fun j hj => ?_, hres, hrw, hbl⟩
            rw [hf.out j hj]
            by_cases e : j < k
            · rw [if_pos e, if_pos (by omega)]
            · by_cases e2 : j = k
              · rw [if_neg e, if_pos e2, if_pos (by omega), show m = 4 by omega, part_four, e2]
              · rw [if_neg e, if_neg e2, if_neg (by omega)]
          case measure => simp [intOf]; omega
    · have hf2 : Hid (∀ j, j < 16 → f j = wd B j) := fun j hj => by rw [hf.out j (by omega), if_pos (by omega), wd_lo _ _ hj]
      go_wp2_with fail
      clear hf
      go_loopw [6] (fun i wx => ∃ (k : Nat) (f : Nat → Nat), 16 ≤ k ∧ k ≤ 64 ∧ i = .int .i64 k ∧ Hid (∀ j, j < k → f j = wd B j) ∧ wx.rowIs w.heap.size 235 64 (u32V fun _ => 0) ∧ wx.rowIs (w.heap.size + 1) 235 64 (u32V f) ∧ Below w.heap.size w wx) (fun i _ => 64 - (intOf i).toNat)
      case atStart => exact ⟨16, f, by omega, by omega, rfl, hf2, hres, hrw, hbl⟩
      case round =>
        clear hf2 hres hrw hbl
        obtain ⟨k, f, hk0, hk, rfl, hf, hres, hrw, hbl⟩ := hrel
        by_cases hlt : k < 64
        · obtain ⟨q2, e2⟩ : ∃ q, q = k - 2 := ⟨_, rfl⟩
          obtain ⟨q7, e7⟩ : ∃ q, q = k - 7 := ⟨_, rfl⟩
          obtain ⟨q15, e15⟩ : ∃ q, q = k - 15 := ⟨_, rfl⟩
          obtain ⟨q16, e16⟩ : ∃ q, q = k - 16 := ⟨_, rfl⟩
          have m2 : IntKind.i64.wrap ((k : Int) - 2) = (q2 : Int) := by simp only [IntKind.wrap_i64]; omega
          have m7 : IntKind.i64.wrap ((k : Int) - 7) = (q7 : Int) := by simp only [IntKind.wrap_i64]; omega
          have m15 : IntKind.i64.wrap ((k : Int) - 15) = (q15 : Int) := by simp only [IntKind.wrap_i64]; omega
          have m16 : IntKind.i64.wrap ((k : Int) - 16) = (q16 : Int) := by simp only [IntKind.wrap_i64]; omega
          have c2 := cell_u32 hrw q2 (by omega)
          have c7 := cell_u32 hrw q7 (by omega)
          have c15 := cell_u32 hrw q15 (by omega)
          have c16 := cell_u32 hrw q16 (by omega)
          have ck := cell_u32 hrw k hlt
          have hfz := hrw.frozen k
          have d7 : q7 ≠ k := by omega
          have d16 : q16 ≠ k := by omega
          have n2 : (q2 : Int) < 64 := by omega
          have n7 : (q7 : Int) < 64 := by omega
          have n15 : (q15 : Int) < 64 := by omega
          have n16 : (q16 : Int) < 64 := by omega
          have v2 := hide (hf.out q2 (by omega))
          have v7 := hide (hf.out q7 (by omega))
          have v15 := hide (hf.out q15 (by omega))
          have v16 := hide (hf.out q16 (by omega))
          have HE := hide (show q2 = k - 2 ∧ q7 = k - 7 ∧ q15 = k - 15 ∧ q16 = k - 16 from ⟨e2, e7, e15, e16⟩)
          clear e2 e7 e15 e16
          generalize f q2 = x2 at *
          generalize f q7 = x7 at *
          generalize f q15 = x15 at *
          generalize f q16 = x16 at *
          go_wp2_with fail
          go_region_held3 (fun w' => w'.cell? ⟨w.heap.size + 1, q15, none⟩ = some (.int .u32 x15)) (go_keep)
            (first | (go_at_call 164; refine (twice _ _ _ _ ?_ ?_ ?_ ?_).mono ?_; decide; decide; decide; decide; rintro e w' ⟨rfl, rfl⟩))
          rename_i _ hH
          clear hH
          have hs0 : bits .xor .u32 (↑(xor32 (turn32 x15 7) (turn32 x15 18))) ((x15 : Int) / 8) = ((sig0 x15 : Nat) : Int) := by
            have h3 : (x15 : Int) / 8 = ((shr32 x15 3 : Nat) : Int) := r_shr x15 3
            rw [h3, r_xor]; rfl
          simp only [hs0]
          clear hs0
          go_wp2_with fail
          go_region_held3 (fun w' => w'.cell? ⟨w.heap.size + 1, q2, none⟩ = some (.int .u32 x2)) (go_keep)
            (first | (go_at_call 164; refine (twice _ _ _ _ ?_ ?_ ?_ ?_).mono ?_; decide; decide; decide; decide; rintro e w' ⟨rfl, rfl⟩))
          rename_i _ hH
          clear hH
          have hs1 : bits .xor .u32 (↑(xor32 (turn32 x2 17) (turn32 x2 19))) ((x2 : Int) / 1024) = ((sig1 x2 : Nat) : Int) := by
            have h3 : (x2 : Int) / 1024 = ((shr32 x2 10 : Nat) : Int) := r_shr x2 10
            rw [h3, r_xor]; rfl
          simp only [hs1]
          clear hs1
          go_wp2_with fail
          go_region
          have hw := sched_val B k q2 q7 q15 q16 x2 x7 x15 x16 (by omega) HE.out v2.out v7.out v15.out v16.out
          simp only [hw]
          obtain ⟨X, hX⟩ : ∃ X, X = wd B k := ⟨_, rfl⟩
          simp only [← hX]
          have HX := hide hX
          clear hw hX m2 m7 m15 m16 c2 c7 c15 c16 v2 v7 v15 v16 d7 d16 n2 n7 n15 n16 HE ck hfz
          go_wp2_with fail
          go_roundw
          case rel => exact ⟨k + 1, fun j => if j = k then X else f j, by omega, by omega, by go_num, ext_word hf.out HX.out, hres.setOther (by simp) _, set_word' hrw, ((hbl.setCell (by simp) _).drew).drew.drew⟩
          case measure => simp [intOf]; omega
        · have hf3 : Hid (∀ j, j < 64 → f j = wd B j) := fun j hj => hf.out j (by omega)
          obtain ⟨cs, hcs, hsz, hval⟩ := hrw
          obtain ⟨ds, hds, hdsz, _⟩ := hres
          have hi : (Tryz.prog.info? 235).map (·.size) = some cs.size := by rw [hsz]; exact Tryz.size64
          have hsd : ds.size = cs.size := by omega
          have hall : cs.all (·.oneCell') = true := by
            rw [Array.all_eq_true]
            intro i hi
            have h := hval i (by omega)
            rw [Array.getElem?_eq_getElem hi] at h
            rw [Option.some.inj h]; rfl
          go_wp2_with (first | (refine wpList_load_row rfl 235 _ rfl (w.heap.size + 1) rfl _ cs _ _ hcs Tryz.underlying235 rfl hi ?_) | (refine wpList_store_row rfl 235 _ _ rfl w.heap.size cs rfl rfl _ ds hds hi hsd hall ?_))
          have hg : (wr.setRow w.heap.size cs).heap[w.heap.size]? = some (.cells cs _ (0, 0)) := setRow_heap wr w.heap.size ds cs _ (0, 0) hds
          refine bodyPost_ret (v := .agg cs) (results_cell_row Tryz.results160 _ _ w.heap.size _ cs _ _ ?_ hg Tryz.underlying235 rfl hi) rfl ⟨cs, rfl, hsz, fun i hi => ?_, below_setRow hbl _ _ (Nat.le_refl _)⟩
          · rfl
          · rw [hval i hi, u32V, hf3.out i hi]
end Go.Proofs.YtconcnndghmdfaaGreatDoor
