/- Put together: NumMath, SealO, PackT, MkB, CtrTw, SealM, TextRow, FbM. -/
import Derived.Test.YtconcnndghmdfaaGreatDoorSd15
namespace Go.Proofs.YtconcnndghmdfaaGreatDoor
open Go.RowKit
theorem unfold_fold (n : Int) : unfold (foldNum n) = n := by
 unfold unfold foldNum
 by_cases h : n < 0
 · rw [if_pos h, if_pos (by omega)]; omega
 · rw [if_neg h, if_neg (by omega)]; omega
theorem byte_nat (n : Nat) (h : n < 256) : (UInt8.ofNat n).toNat = n := by
 have := ofNat_byte n h; omega
theorem encNum_ne (V : Nat) : encNum V ≠ [] := by
 by_cases h : V < 128
 · rw [encNum_last V h]; simp
 · rw [encNum_more V h]; simp
theorem k_of {V k : Nat} (h : V * 2 ^ (7 * k) < 18446744073709551616) (hV : 128 ≤ V) : k ≤ 8 := by
 rcases Nat.lt_or_ge k 9 with h9 | h9
 · omega
 · have h1 : 2 ^ 63 ≤ 2 ^ (7 * k) := Nat.pow_le_pow_right (by decide) (by omega)
   have h2 := Nat.mul_le_mul hV h1
   have h3 : (128 : Nat) * 2 ^ 63 = 1180591620717411303424 := by decide
   omega
theorem v_of {V : Nat} (h : V * 2 ^ (7 * 9) < 18446744073709551616) : V ≤ 1 := by
 have h3 : (2 : Nat) ^ (7 * 9) = 9223372036854775808 := by decide
 rw [h3] at h; omega
theorem next_of {V k : Nat} (h : V * 2 ^ (7 * k) < 18446744073709551616) : V / 128 * 2 ^ (7 * (k + 1)) < 18446744073709551616 := by
 have e : 2 ^ (7 * (k + 1)) = 128 * 2 ^ (7 * k) := by rw [show 7 * (k + 1) = 7 * k + 7 from by omega, Nat.pow_add, Nat.mul_comm]
 rw [e, ← Nat.mul_assoc]
 exact Nat.lt_of_le_of_lt (Nat.mul_le_mul_right _ (by omega)) h
theorem dec_enc (n : Nat) : ∀ V, V ≤ n → ∀ k u rest, k ≤ 9 → V * 2 ^ (7 * k) < 18446744073709551616 → (0 < k → 0 < V) → dec k u (encNum V ++ rest) = (0, u + V * 2 ^ (7 * k), k + (encNum V).length) := by
 induction n with
 | zero =>
   intro V hV k u rest hk hb h0
   obtain rfl : V = 0 := by omega
   have hk0 : k = 0 := by rcases Nat.eq_zero_or_pos k with h | h; exact h; exact absurd (h0 h) (by omega)
   subst hk0
   rw [encNum_last 0 (by omega)]
   simp [dec]
 | succ n ih =>
   intro V hV k u rest hk hb h0
   by_cases hlt : V < 128
   · rw [encNum_last V hlt]
     have hn := byte_nat V (by omega)
     have h9 : ¬ (k = 9 ∧ 1 < (UInt8.ofNat V).toNat) := by
      rintro ⟨rfl, h⟩
      have := v_of hb; omega
     have hz : ¬ ((UInt8.ofNat V).toNat = 0 ∧ 0 < k) := by rintro ⟨h1, h2⟩; have := h0 h2; omega
     rw [List.singleton_append, dec, if_neg h9, if_pos (by omega), if_neg hz, hn, Nat.mod_eq_of_lt hlt]
     rfl
   · rw [encNum_more V hlt]
     have hn := byte_nat (V % 128 + 128) (by omega)
     have hk8 := k_of hb (by omega)
     rw [List.cons_append, dec, if_neg (by omega), if_neg (by omega), hn]
     have e2 : (V % 128 + 128) % 128 = V % 128 := by omega
     rw [e2, ih (V / 128) (by omega) (k + 1) _ rest (by omega) (next_of hb) (by omega)]
     have e : 2 ^ (7 * (k + 1)) = 128 * 2 ^ (7 * k) := by rw [show 7 * (k + 1) = 7 * k + 7 from by omega, Nat.pow_add, Nat.mul_comm]
     have e3 : V % 128 * 2 ^ (7 * k) + V / 128 * (128 * 2 ^ (7 * k)) = V * 2 ^ (7 * k) := by
      rw [← Nat.mul_assoc, ← Nat.add_mul]
      have : V % 128 + V / 128 * 128 = V := by omega
      rw [this]
     rw [e, Nat.add_assoc, e3, List.length_cons]
     have e4 : k + 1 + (encNum (V / 128)).length = k + ((encNum (V / 128)).length + 1) := by omega
     rw [e4]
theorem dec_whole (V : Nat) (rest : List UInt8) (h : V < 18446744073709551616) : dec 0 0 (encNum V ++ rest) = (0, V, (encNum V).length) := by
 have := dec_enc V V (Nat.le_refl _) 0 0 rest (by omega) (by simpa using h) (by omega)
 simpa using this
def sumB (t : ByteArray) (far : Int) : ByteArray := if 0 < far then ⟨((List.range t.size).map (sumF (bF t) far.toNat)).toArray⟩ else t
def bodyX (b : ByteArray) : ByteArray := b.extract 0 (b.size - 16)
def tailX (b : ByteArray) : ByteArray := b.extract (b.size - 16) b.size
def num1 (t : ByteArray) : Nat × Nat × Nat := decAt t 0
def num2 (t : ByteArray) : Nat × Nat × Nat := decAt t (num1 t).2.2
def headOk (t : ByteArray) (id : Int) : Prop := (num1 t).1 = 0 ∧ (num2 t).1 = 0 ∧ unfold (num1 t).2.1 = id ∧ 0 ≤ unfold (num2 t).2.1 ∧ unfold (num2 t).2.1 ≤ 256
instance (t : ByteArray) (id : Int) : Decidable (headOk t id) := by unfold headOk; infer_instance
def farX (t : ByteArray) : Int := unfold (num2 t).2.1
def fromX (t : ByteArray) : Nat := (num1 t).2.2 + (num2 t).2.2
def restX (t : ByteArray) : ByteArray := t.extract (fromX t) t.size
def shownX (k : ByteArray × ByteArray) (id : Int) (t : ByteArray) : ByteArray × Int := unpackS (hidB k.1 id.toNat (restX t))
def openT (k : ByteArray × ByteArray) (id : Int) (b : ByteArray) : ByteArray × Int :=
 if b.size < 18 then (⟨#[]⟩, 4)
 else if ¬ take16 (macT k.2 (bodyX b)) = tailX b then (⟨#[]⟩, 10)
 else if ¬ headOk (bodyX b) id then (⟨#[]⟩, 5)
 else if ¬ (shownX k id (bodyX b)).2 = 0 then (⟨#[]⟩, (shownX k id (bodyX b)).2)
 else (sumB (shownX k id (bodyX b)).1 (farX (bodyX b)), 0)
def openS (k : ByteArray × ByteArray) (id : Int) (b : ByteArray) : ByteArray × Int :=
 if 20000 < b.size then (⟨#[]⟩, 2)
 else if ¬ (keysOk k = true ∧ idOk id = true) then (⟨#[]⟩, 1)
 else openT k id b
theorem bodyX_size (b : ByteArray) : (bodyX b).size = b.size - 16 := by
 unfold bodyX; rw [ByteArray.size_extract]; omega
theorem num1_le (t : ByteArray) : (num1 t).2.2 ≤ t.size := by
 rcases decAt_form t 0 with ⟨U, m, h, hm⟩ | h | h <;> unfold num1 <;> rw [h]
 · simpa using hm
 · exact Nat.zero_le _
 · exact Nat.zero_le _
theorem fromX_le (t : ByteArray) : fromX t ≤ t.size := by
 have h1 := num1_le t
 unfold fromX num2
 rcases decAt_form t (num1 t).2.2 with ⟨U, m, h, hm⟩ | h | h <;> rw [h]
 · show (num1 t).2.2 + m ≤ t.size; omega
 · show (num1 t).2.2 + 0 ≤ t.size; omega
 · show (num1 t).2.2 + 0 ≤ t.size; omega
theorem restX_size (t : ByteArray) : (restX t).size ≤ t.size := by
 unfold restX; rw [ByteArray.size_extract]; omega
theorem upto_self' (t : ByteArray) : (⟨(upto (bF t) t.size).toArray⟩ : ByteArray) = t := by
 apply ByteArray.ext
 apply Array.toList_inj.1
 show (upto (bF t) t.size).toArray.toList = _
 apply List.ext_getElem?
 intro j
 by_cases h : j < t.size
 · rw [bF_at t t.size rfl j h]
   simp [upto, h]
 · rw [List.getElem?_eq_none (by simp [upto]; omega), List.getElem?_eq_none (by have e : t.data.toList.length = t.size := rfl; omega)]
theorem pack_list (t : ByteArray) : (packB t).data.toList = encNum (foldNum t.size) ++ codeOf (toksBits (parseL (bF t) t.size)) := by
 unfold packB; simp
theorem ext_list' (s : ByteArray) (a : Nat) : (s.extract a s.size).data.toList = s.data.toList.drop a := by
 have e : s.data.toList.length = s.size := rfl
 simp only [ByteArray.data_extract, Array.toList_extract, List.extract]
 exact List.take_of_length_le (by rw [List.length_drop]; omega)
theorem unpack_pack (t : ByteArray) (h : t.size ≤ 4000) (h2 : (packB t).size ≤ 20000) : unpackS (packB t) = (t, 0) := by
 have hf : foldNum (t.size : Int) < 18446744073709551616 := by have := fold_pos t.size (by omega); omega
 have hd : decAt (packB t) 0 = (0, foldNum t.size, (encNum (foldNum t.size)).length) := by
  unfold decAt
  rw [List.drop_zero, pack_list]
  exact dec_whole _ _ hf
 have hx : ((packB t).extract (encNum (foldNum t.size)).length (packB t).size).data.toList = codeOf (toksBits (parseL (bF t) t.size)) := by
  rw [ext_list', pack_list, List.drop_left]
 have hu : unpO ((packB t).extract (encNum (foldNum t.size)).length (packB t).size) t.size = (t, true) := by
  unfold unpO
  rw [unpack_back (bF t) t.size (tbN _) (tbN_lt _) (fun j u hj => by
   unfold tbN bF
   rw [hx, List.getD_eq_getElem?_getD, hj]; rfl)]
  show ((⟨(upto (bF t) t.size).toArray⟩ : ByteArray), decide ((upto (bF t) t.size).length = t.size)) = _
  rw [upto_self', upto_len, decide_eq_true rfl]
 have hE := show unpackS (packB t) = _ from if_neg (show ¬ 20000 < (packB t).size by omega)
 rw [hd] at hE
 simp only [if_true] at hE
 rw [unfold_fold, if_neg (by omega), Int.toNat_natCast] at hE
 rw [hE]
 unfold unpN
 rw [hu]
 simp
end Go.Proofs.YtconcnndghmdfaaGreatDoor
namespace Go.Proofs.YtconcnndghmdfaaGreatDoor
open Go.RowKit Go
def mkB (n : Nat) (f : Nat → UInt8) : ByteArray := ⟨((List.range n).map f).toArray⟩
theorem mkB_size (n : Nat) (f : Nat → UInt8) : (mkB n f).size = n := by unfold mkB; rw [size_mk]; simp
theorem mkB_at (n : Nat) (f : Nat → UInt8) (j : Nat) (hj : j < n) : bF (mkB n f) j = f j := by
 unfold bF mkB
 show ((List.range n).map f).toArray.toList.getD j 0 = _
 rw [List.getD_eq_getElem?_getD, List.toList_toArray, List.getElem?_map, List.getElem?_range hj]; rfl
theorem mkB_self {n : Nat} {f : Nat → UInt8} (t : ByteArray) (hn : n = t.size) (hf : ∀ j, j < n → f j = bF t j) : mkB n f = t := by
 subst hn
 apply ByteArray.ext
 rw [← Array.toList_inj]
 show ((List.range t.size).map f).toArray.toList = _
 rw [List.toList_toArray]
 apply List.ext_getElem?
 intro j
 by_cases hj : j < t.size
 · rw [bF_at t t.size rfl j hj, List.getElem?_map, List.getElem?_range hj]
   show some (f j) = _
   rw [hf j hj]
 · have e : t.data.toList.length = t.size := rfl
   rw [List.getElem?_eq_none (by simp; omega), List.getElem?_eq_none (by omega)]
theorem sum_dif (T U : Nat → UInt8) (n far : Nat) (hf : 0 < far) (hU : ∀ j, j < n → U j = difF T far j) : ∀ j, j < n → sumF U far j = T j := by
 intro j
 induction j using Nat.strongRecOn with
 | _ j ih =>
   intro hj
   rw [sumF, hU j hj, difF]
   by_cases h : far ≤ j
   · rw [dif_pos ⟨h, hf⟩, if_pos h, ih (j - far) (by omega) (by omega), UInt8.sub_add_cancel]
   · rw [dif_neg (fun x => h x.1), if_neg h]
end Go.Proofs.YtconcnndghmdfaaGreatDoor
namespace Go.Proofs.YtconcnndghmdfaaGreatDoor
open Go Go.RowKit
attribute [local irreducible] times sbox encF ctrB
theorem data_take (b : ByteArray) (k : Nat) : (b.extract 0 k).data.toList = b.data.toList.take k := by
 rw [ByteArray.data_extract, Array.toList_extract, List.extract_eq_take_drop]; simp
theorem bF_ctrL (K : Nat → UInt8) (N : Nat) (T : Nat → UInt8) (n j : Nat) (hj : j < n) : bF ⟨(ctrL K N T n).toArray⟩ j = ctrF K N T j := by
 unfold bF
 show (ctrL K N T n).toArray.toList.getD j 0 = _
 rw [List.getD_eq_getElem?_getD, List.toList_toArray, ctrL, List.getElem?_map, List.getElem?_range hj]; rfl
theorem size_ctrL (K : Nat → UInt8) (N : Nat) (T : Nat → UInt8) (n : Nat) : (⟨(ctrL K N T n).toArray⟩ : ByteArray).size = n := by rw [size_mk]; simp [ctrL]
theorem list_bF (b : ByteArray) : b.data.toList = (List.range b.size).map (bF b) := by
 apply List.ext_getElem?
 intro j
 by_cases hj : j < b.size
 · rw [bF_at b b.size rfl j hj, List.getElem?_map, List.getElem?_range hj]; rfl
 · have e : b.data.toList.length = b.size := rfl
   rw [List.getElem?_eq_none (by omega), List.getElem?_eq_none (by simp; omega)]
theorem ctrL_congr {K : Nat → UInt8} {N : Nat} {T U : Nat → UInt8} {n : Nat} (h : ∀ j, j < n → ctrF K N T j = U j) : ctrL K N T n = (List.range n).map U := by
 unfold ctrL
 apply List.map_congr_left
 intro j hj
 exact h j (List.mem_range.1 hj)
theorem ctrS_yes (key : ByteArray) (n : Int) (text : ByteArray) (h1 : key.size = 16) (h2 : 0 ≤ n) (h3 : text.size ≤ 20000) : ctrS key n text = ⟨(ctrL (kB (keyF key)) n.toNat (bF text) text.size).toArray⟩ := if_pos ⟨h1, h2, h3⟩
theorem ctrS_size (key : ByteArray) (n : Int) (text : ByteArray) (h1 : key.size = 16) (h2 : 0 ≤ n) (h3 : text.size ≤ 20000) : (ctrS key n text).size = text.size := by
 rw [ctrS_yes key n text h1 h2 h3, size_ctrL]
theorem ctrS_twice (key : ByteArray) (n : Int) (text : ByteArray) (h1 : key.size = 16) (h2 : 0 ≤ n) (h3 : text.size ≤ 20000) : ctrS key n (ctrS key n text) = text := by
 have hs := ctrS_size key n text h1 h2 h3
 rw [ctrS_yes key n (ctrS key n text) h1 h2 (by omega), hs]
 apply ByteArray.ext
 rw [← Array.toList_inj]
 show (ctrL _ _ _ _).toArray.toList = _
 rw [List.toList_toArray, list_bF text]
 apply ctrL_congr
 intro j hj
 rw [ctrF, ctrS_yes key n text h1 h2 h3, bF_ctrL _ _ _ _ _ hj, ctrF, UInt8.xor_assoc, UInt8.xor_self, UInt8.xor_zero]
end Go.Proofs.YtconcnndghmdfaaGreatDoor
namespace Go.Proofs.YtconcnndghmdfaaGreatDoor
open Go.RowKit
theorem foldNum_small (n : Int) (h0 : 0 ≤ n) (h1 : n ≤ 2000000) : foldNum n < 18446744073709551616 := by
 unfold foldNum; rw [if_neg (by omega)]; show (2 * n).toNat < _; omega
theorem ext_append (a b : ByteArray) : (a ++ b).extract 0 a.size = a := by
 apply ByteArray.ext; rw [← Array.toList_inj, data_take]; simp
theorem ext_append' (a b : ByteArray) : (a ++ b).extract a.size (a ++ b).size = b := by
 apply ByteArray.ext; rw [← Array.toList_inj, ext_list']; simp
theorem body_seal (k : ByteArray × ByteArray) (id far : Int) (t : ByteArray) : bodyX (sealB k id far t) = sealT k id far t ∧ tailX (sealB k id far t) = take16 (macT k.2 (sealT k id far t)) := by
 have h16 : (take16 (macT k.2 (sealT k id far t))).size = 16 := take16_size _ (by rw [macT_size]; decide)
 have hs : (sealB k id far t).size - 16 = (sealT k id far t).size := by unfold sealB; rw [ByteArray.size_append, h16]; omega
 unfold bodyX tailX
 rw [hs]
 exact ⟨ext_append _ _, ext_append' _ _⟩
theorem sealT_list (k : ByteArray × ByteArray) (id far : Int) (t : ByteArray) : (sealT k id far t).data.toList = encNum (foldNum id) ++ (encNum (foldNum far) ++ (hidB k.1 id.toNat (packB (difB t far))).data.toList) := by
 unfold sealT numB; simp
theorem num1_seal (k : ByteArray × ByteArray) (id far : Int) (t : ByteArray) (h0 : 0 ≤ id) (h1 : id ≤ 2000000) : num1 (sealT k id far t) = (0, foldNum id, (encNum (foldNum id)).length) := by
 unfold num1 decAt
 rw [List.drop_zero, sealT_list]
 exact dec_whole _ _ (foldNum_small id h0 h1)
theorem num2_seal (k : ByteArray × ByteArray) (id far : Int) (t : ByteArray) (h0 : 0 ≤ id) (h1 : id ≤ 2000000) (h2 : 0 ≤ far) (h3 : far ≤ 256) : num2 (sealT k id far t) = (0, foldNum far, (encNum (foldNum far)).length) := by
 unfold num2
 rw [num1_seal k id far t h0 h1]
 unfold decAt
 rw [sealT_list, List.drop_left]
 exact dec_whole _ _ (foldNum_small far h2 (by omega))
theorem rest_seal (k : ByteArray × ByteArray) (id far : Int) (t : ByteArray) (h0 : 0 ≤ id) (h1 : id ≤ 2000000) (h2 : 0 ≤ far) (h3 : far ≤ 256) : restX (sealT k id far t) = hidB k.1 id.toNat (packB (difB t far)) := by
 unfold restX fromX
 rw [num1_seal k id far t h0 h1, num2_seal k id far t h0 h1 h2 h3]
 apply ByteArray.ext
 rw [← Array.toList_inj, ext_list', sealT_list, ← List.drop_drop, List.drop_left, List.drop_left]
theorem hid_twice (key : ByteArray) (n : Nat) (t : ByteArray) (h1 : key.size = 16) (h3 : t.size ≤ 20000) : hidB key n (hidB key n t) = t := by
 have e : ∀ u : ByteArray, u.size ≤ 20000 → hidB key n u = ctrS key (n : Int) u := fun u hu => (ctrS_yes key n u h1 (by omega) hu).symm
 have hs : (hidB key n t).size ≤ 20000 := by rw [hidB_size]; exact h3
 rw [e _ hs, e _ h3]
 exact ctrS_twice key n t h1 (by omega) h3
theorem sum_difB (t : ByteArray) (far : Int) : sumB (difB t far) far = t := by
 unfold sumB
 by_cases hf : 0 < far
 · rw [if_pos hf, difB_size]
   exact mkB_self t rfl (fun j hj => sum_dif (bF t) _ t.size far.toNat (by omega) (fun i hi => by
    unfold difB; rw [if_pos hf]; exact mkB_at t.size _ i hi) j hj)
 · rw [if_neg hf]; unfold difB; rw [if_neg hf]
theorem seal_long (k : ByteArray × ByteArray) (id far : Int) (t : ByteArray) (h0 : 0 ≤ id) (h1 : id ≤ 2000000) (h2 : 0 ≤ far) (h3 : far ≤ 256) (ht : t.size ≤ 4000) : 18 ≤ (sealB k id far t).size ∧ (sealB k id far t).size ≤ 17030 := by
 have h16 : (take16 (macT k.2 (sealT k id far t))).size = 16 := take16_size _ (by rw [macT_size]; decide)
 have hs : (sealB k id far t).size = (sealT k id far t).size + 16 := by unfold sealB; rw [ByteArray.size_append, h16]
 have hT := sealT_size k id far t h0 h1 h2 h3 ht
 have hl : (sealT k id far t).size = (encNum (foldNum id) ++ (encNum (foldNum far) ++ (hidB k.1 id.toNat (packB (difB t far))).data.toList)).length := by rw [← sealT_list]; rfl
 rw [List.length_append, List.length_append] at hl
 have a := List.length_pos_iff.2 (encNum_ne (foldNum id))
 have b := List.length_pos_iff.2 (encNum_ne (foldNum far))
 omega
theorem openT_id (k : ByteArray × ByteArray) (id far other : Int) (t : ByteArray) (h0 : 0 ≤ id) (h1 : id ≤ 2000000) (h2 : 0 ≤ far) (h3 : far ≤ 256) (ht : t.size ≤ 4000) (ho : ¬ other = id) : openT k other (sealB k id far t) = (⟨#[]⟩, 5) := by
 have hl := seal_long k id far t h0 h1 h2 h3 ht
 obtain ⟨e1, e2⟩ := body_seal k id far t
 unfold openT
 rw [if_neg (by omega), e1, e2, if_neg (by simp), if_pos]
 intro h
 have := h.2.2.1
 rw [num1_seal k id far t h0 h1] at this
 exact ho (this.symm.trans (unfold_fold id))
theorem openT_back (k : ByteArray × ByteArray) (id far : Int) (t : ByteArray) (hk : k.1.size = 16) (h0 : 0 ≤ id) (h1 : id ≤ 2000000) (h2 : 0 ≤ far) (h3 : far ≤ 256) (ht : t.size ≤ 4000) : openT k id (sealB k id far t) = (t, 0) := by
 have hl := seal_long k id far t h0 h1 h2 h3 ht
 obtain ⟨e1, e2⟩ := body_seal k id far t
 have hp := packB_few (difB t far) (by rw [difB_size]; exact ht)
 have hs : shownX k id (sealT k id far t) = (difB t far, 0) := by
  unfold shownX
  rw [rest_seal k id far t h0 h1 h2 h3, hid_twice k.1 id.toNat _ hk (by omega)]
  exact unpack_pack _ (by rw [difB_size]; exact ht) (by omega)
 have hd : headOk (sealT k id far t) id := by
  unfold headOk
  rw [num1_seal k id far t h0 h1, num2_seal k id far t h0 h1 h2 h3]
  refine ⟨rfl, rfl, unfold_fold id, ?_, ?_⟩
  · show 0 ≤ unfold (foldNum far); rw [unfold_fold]; exact h2
  · show unfold (foldNum far) ≤ 256; rw [unfold_fold]; exact h3
 have hf : farX (sealT k id far t) = far := by
  unfold farX; rw [num2_seal k id far t h0 h1 h2 h3]; exact unfold_fold far
 unfold openT
 rw [if_neg (by omega), e1, e2, if_neg (by simp), if_neg (by simpa using hd), hs, if_neg (by simp), hf]
 show (sumB (difB t far) far, (0 : Int)) = (t, 0)
 rw [sum_difB]
theorem openT_turned (k : ByteArray × ByteArray) (id : Int) (c : ByteArray) (hs : 18 ≤ c.size) (h : ¬ take16 (macT k.2 (bodyX c)) = tailX c) : openT k id c = (⟨#[]⟩, 10) := by
 unfold openT
 rw [if_neg (by omega), if_pos h]
theorem dec_front (l : List UInt8) : ∀ k u U m, dec k u l = (0, U, m) → ∃ V, U = u + V * 2 ^ (7 * k) ∧ m = k + (encNum V).length ∧ (encNum V) <+: l ∧ (0 < k → 0 < V) := by
 induction l with
 | nil => intro k u U m h; cases h
 | cons b l ih =>
   intro k u U m h
   rw [dec] at h
   split at h
   · cases h
   · split at h
     · rename_i hb
       split at h
       · cases h
       · rename_i h0
         obtain ⟨rfl, rfl⟩ : u + b.toNat % 128 * 2 ^ (7 * k) = U ∧ k + 1 = m := by
          injection h with h1 h2; injection h2 with h2 h3; exact ⟨h2, h3⟩
         refine ⟨b.toNat, by rw [Nat.mod_eq_of_lt hb], ?_, ?_, fun hk => by omega⟩
         · rw [encNum_last _ hb]; rfl
         · rw [encNum_last _ hb]
           have e : UInt8.ofNat b.toNat = b := UInt8.ofNat_toNat
           rw [e]
           exact ⟨l, rfl⟩
     · rename_i hb
       obtain ⟨V, h1, h2, h3, h4⟩ := ih _ _ _ _ h
       have hbl : b.toNat < 256 := b.toNat_lt
       have hV := h4 (by omega)
       have hbig : ¬ V * 128 + b.toNat % 128 < 128 := by omega
       have e1 : (V * 128 + b.toNat % 128) / 128 = V := by omega
       have e2 : (V * 128 + b.toNat % 128) % 128 + 128 = b.toNat := by omega
       have e3 : encNum (V * 128 + b.toNat % 128) = b :: encNum V := by
        rw [encNum_more _ hbig, e1, e2]
        have e : UInt8.ofNat b.toNat = b := UInt8.ofNat_toNat
        rw [e]
       refine ⟨V * 128 + b.toNat % 128, ?_, ?_, ?_, fun _ => by omega⟩
       · have ep : 2 ^ (7 * (k + 1)) = 128 * 2 ^ (7 * k) := by rw [show 7 * (k + 1) = 7 * k + 7 from by omega, Nat.pow_add, Nat.mul_comm]
         rw [h1, ep, Nat.add_mul, Nat.mul_assoc V 128, Nat.add_assoc, Nat.add_comm (b.toNat % 128 * 2 ^ (7 * k))]
       · rw [h2, e3, List.length_cons]; omega
       · rw [e3]
         obtain ⟨r, hr⟩ := h3
         exact ⟨r, by rw [← hr]; rfl⟩
theorem unfold_inj {U V : Nat} (h : unfold U = unfold V) : U = V := by
 unfold unfold at h
 split at h <;> split at h <;> omega
theorem front_is (t : ByteArray) (id : Int) (h0 : 0 ≤ id) (h1 : id ≤ 2000000) : (encNum (foldNum id) <+: t.data.toList) ↔ ((num1 t).1 = 0 ∧ unfold (num1 t).2.1 = id) := by
 constructor
 · rintro ⟨r, hr⟩
   unfold num1 decAt
   rw [List.drop_zero, ← hr, dec_whole _ _ (foldNum_small id h0 h1)]
   exact ⟨rfl, unfold_fold id⟩
 · rintro ⟨h2, h3⟩
   unfold num1 decAt at h2 h3
   rw [List.drop_zero] at h2 h3
   have hx : ∀ x, dec 0 0 t.data.toList = x → x.1 = 0 → unfold x.2.1 = id → encNum (foldNum id) <+: t.data.toList := by
    rintro ⟨a, U, m⟩ hd ha hu
    obtain rfl : a = 0 := ha
    obtain ⟨V, e, _, hp, _⟩ := dec_front _ _ _ _ _ hd
    have e' : U = V := by simpa using e
    have e2 : V = foldNum id := unfold_inj (by rw [unfold_fold, ← e']; exact hu)
    rw [← e2]; exact hp
   exact hx _ rfl h2 h3
end Go.Proofs.YtconcnndghmdfaaGreatDoor
namespace Go.Proofs.YtconcnndghmdfaaGreatDoor
open Go Go.RowKit
theorem text_row {P : Program} (w : World) (src dst e : TypeId) (t : ByteArray) (n : Nat) (hn : t.size = n) (hb : n ≤ 1048576) (hs : P.underlying src = some .string) (hd : P.underlying dst = some (.slice e)) (he : P.underlying e = some (.int .u8)) :
 ∃ cap w', (convert src dst (.string t)).run P w = .ok (.slice (some ⟨w.heap.size, 0, none⟩) n cap) w' ∧ n ≤ cap ∧ cap ≤ maxLen ∧ w'.heap.size = w.heap.size + 1 ∧ Below w.heap.size w w' ∧ rowC w' w.heap.size n (bF t) := by
 subst hn
 have hcap := grownCap_ge w t.size 0 e
 have hrow := hasRow.of_text w.drew w.heap.size e (grownCap w t.size 0 e) t hcap (Nat.le_refl _)
 exact ⟨_, _, run_bytes_of_string w src dst e t hs hd he, hcap, grownCap_le_maxLen w t.size 0 e (by unfold maxLen; omega), World.size_alloc _ _, (Below.refl w.heap.size w).drew.alloc (Nat.le_refl _) _, rowC.of_text hrow (bF_at t t.size rfl)⟩
theorem rowC.range {w : World} {g n : Nat} {f : Nat → UInt8} (h : rowC w g n f) : w.rangeAt g 0 (bL n f) := fun j v hj => by
 obtain ⟨hj2, rfl⟩ := bL_get hj
 rw [Nat.zero_add]
 exact (h.2 j hj2).1
theorem rowC.there {w : World} {g n o m : Nat} {f : Nat → UInt8} (h : rowC w g n f) (hm : o + m ≤ n) : w.there g o m := fun j hj => ⟨by rw [(h.2 (o + j) (by omega)).1]; rfl, (h.2 (o + j) (by omega)).2⟩
theorem rowC.copied {w : World} {g n o m : Nat} {f k : Nat → UInt8} (h : rowC w g n f) (hm : o + m ≤ n) (j : Nat) (hj : j < n) :
 (w.setCells g o (bL m k)).cell? ⟨g, j, none⟩ = some (.int .u8 (((if o ≤ j ∧ j < o + m then k (j - o) else f j).toNat : Nat) : Int)) := by
 by_cases c : o ≤ j ∧ j < o + m
 · rw [if_pos c]
   have h1 := World.rangeAt_setCells_same w g o (bL m k) (by rw [bL_len]; exact h.there hm) (j - o) (u8V k (j - o)) (bL_at m k (j - o) (by omega))
   rwa [show o + (j - o) = j by omega] at h1
 · rw [if_neg c]
   have h1 := World.rangeAt_setCells_apart (w := w) (b' := g) (o' := j) (cs := [.int .u8 ((f j).toNat : Int)]) (fun i v hi => by
    match i, hi with
    | 0, hi => simp at hi; subst hi; exact (h.2 j hj).1) g o (bL m k) (.inr (by rw [bL_len]; simp; omega)) 0 _ rfl
   exact h1
theorem BytesIn.lowB {w w' : World} {a : Option Addr} {len : Nat} (h : BytesIn w w.heap.size a len) (hb : Below w.heap.size w w') : BytesIn w' w'.heap.size a len := by
 rcases h.below hb (Nat.le_refl _) with h1 | ⟨b, off, rfl, h2, h3⟩
 · exact .inl h1
 · exact .inr ⟨b, off, rfl, Nat.lt_of_lt_of_le h2 hb.size, h3⟩
structure FbR (w : World) (k : Nat) (H M : ByteArray) (wx : World) : Prop where
 f : Below w.heap.size w wx
 q : wx.heap[k]? = some (.cells #[.string H, .string M] 24 (0, 0))
 kl : w.heap.size ≤ k
namespace FbR
variable {w wx wy : World} {k : Nat} {H M : ByteArray}
theorem one (h : Below w.heap.size w wx) : FbR w wx.heap.size H M (wx.alloc (.cells #[.string H, .string M] 24)) := ⟨h.alloc h.size _, heap_alloc_new wx _, h.size⟩
theorem lt (h : FbR w k H M wx) : k < wx.heap.size := (Array.getElem?_eq_some_iff.1 h.q).1
theorem call (h : FbR w k H M wx) (hb : Below wx.heap.size wx wy) : FbR w k H M wy := ⟨h.f.trans (hb.mono h.f.size), (hb.block k h.lt).trans h.q, h.kl⟩
theorem call' (h : FbR w k H M wx) (hb : Below wx.drew.heap.size wx.drew wy) : FbR w k H M wy := ⟨h.f.drew.trans (hb.mono h.f.size), (hb.block k h.lt).trans h.q, h.kl⟩
theorem alloc (h : FbR w k H M wx) (o : Obj) : FbR w k H M (wx.alloc o) := h.call ((Below.refl wx.heap.size wx).alloc (Nat.le_refl _) o)
theorem drew (h : FbR w k H M wx) : FbR w k H M wx.drew := h.call (Below.refl wx.heap.size wx).drew
theorem set (h : FbR w k H M wx) {z i : Nat} (hz : k < z) (v : Value) : FbR w k H M (wx.setCell ⟨z, i, none⟩ v) :=
 ⟨h.f.setCell (p := ⟨z, i, none⟩) (Nat.le_trans h.kl (Nat.le_of_lt hz)) v, (Below.heap_setCell _ _ _ _ (by show k ≠ z; omega)).trans h.q, h.kl⟩
theorem c0 (h : FbR w k H M wx) : wx.cell? ⟨k, 0, none⟩ = some (.string H) := by simp [World.cell?, h.q]
theorem c1 (h : FbR w k H M wx) : wx.cell? ⟨k, 1, none⟩ = some (.string M) := by simp [World.cell?, h.q]
end FbR
theorem conv_at {P : Program} {w : World} {g e src dst cap n m o : Nat} {f : Nat → UInt8} (h : rowC w g n f) (hm : o + m ≤ n) (hs : P.underlying src = some (.slice e)) (he : P.underlying e = some (.int .u8)) (hd : P.underlying dst = some .string) :
 (convert src dst (.slice (some ⟨g, o, none⟩) m cap)).run P w = .ok (.string (mkB m fun j => f (o + j))) w := by
 have hl : ((List.range m).map fun j => f (o + j)).length = m := by simp
 have h1 := run_convert_bytes_back (P := P) w src dst e ⟨g, o, none⟩ cap ((List.range m).map fun j => f (o + j)) hs he hd (fun j hj => by
  rw [hl] at hj
  have e1 : (⟨g, o, none⟩ : Addr).add j = ⟨g, o + j, none⟩ := by by_cases hz : j = 0 <;> simp [Addr.add, hz]
  rw [e1, (h.2 (o + j) (by omega)).1]
  simp)
 rw [hl] at h1
 exact h1
theorem mk_body (n : Nat) (f : Nat → UInt8) (h : 16 ≤ n) : bodyX (mkB n f) = mkB (n - 16) fun j => f (0 + j) := by
 unfold bodyX
 rw [mkB_size]
 apply ByteArray.ext
 rw [← Array.toList_inj, data_take]
 show ((List.range n).map f).toArray.toList.take (n - 16) = ((List.range (n - 16)).map fun j => f (0 + j)).toArray.toList
 rw [List.toList_toArray, List.toList_toArray, ← List.map_take, List.take_range, Nat.min_eq_left (by omega)]
 simp
theorem mk_tail (n : Nat) (f : Nat → UInt8) (h : 16 ≤ n) : tailX (mkB n f) = mkB 16 fun j => f (n - 16 + j) := by
 have hs := mkB_size n f
 unfold tailX
 apply ByteArray.ext
 rw [← Array.toList_inj, ext_list', hs]
 show ((List.range n).map f).toArray.toList.drop (n - 16) = ((List.range 16).map fun j => f (n - 16 + j)).toArray.toList
 rw [List.toList_toArray, List.toList_toArray]
 apply List.ext_getElem?
 intro j
 rw [List.getElem?_drop, List.getElem?_map, List.getElem?_map]
 by_cases hj : j < 16
 · rw [List.getElem?_range (by omega), List.getElem?_range hj]; rfl
 · rw [List.getElem?_eq_none (by simp; omega), List.getElem?_eq_none (by simp; omega)]; rfl
theorem mk_all (n : Nat) (f : Nat → UInt8) : (mkB n fun j => f (0 + j)) = mkB n f := by
 unfold mkB; simp
theorem xor8_any (a : UInt8) (x : Nat) (hx : x < 256) : ∃ Y : UInt8, bits .xor .u8 (a.toNat : Int) (x : Int) = (Y.toNat : Int) := by
 refine ⟨a ^^^ UInt8.ofNat x, ?_⟩
 have h := r_xor8 a (UInt8.ofNat x)
 have e : (UInt8.ofNat x).toNat = x := by rw [UInt8.toNat_ofNat']; omega
 rw [e] at h
 exact h
theorem wrap_turn (x : Nat) (h : x < 255) : IntKind.u8.wrap (IntKind.i64.wrap (1 + (x : Int))) = ((x + 1 : Nat) : Int) := by rw [IntKind.wrap_i64, IntKind.wrap_u8]; omega
theorem wrap_next (id : Int) (h0 : 0 ≤ id) (h1 : id ≤ 2000000) : IntKind.i64.wrap (id + 1) = id + 1 := by rw [IntKind.wrap_i64]; omega
theorem seal_ne (k : ByteArray × ByteArray) (id far : Int) (t : ByteArray) (h0 : 0 ≤ id) (h1 : id ≤ 2000000) (h2 : 0 ≤ far) (h3 : far ≤ 256) (ht : t.size ≤ 4000) : (sealB k id far t).toList.isEmpty = false := by
 have := (seal_long k id far t h0 h1 h2 h3 ht).1
 rw [ByteArray.toList_eq]
 have hl : (sealB k id far t).data.toList.length = (sealB k id far t).size := rfl
 cases h : (sealB k id far t).data.toList with
 | nil => rw [h] at hl; simp at hl; omega
 | cons _ _ => rfl
end Go.Proofs.YtconcnndghmdfaaGreatDoor
