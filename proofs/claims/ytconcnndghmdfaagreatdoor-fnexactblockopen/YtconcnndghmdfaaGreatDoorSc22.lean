/- Put together: SealM, SealHd, ImpRot, ImpSched. -/
import Derived.Test.YtconcnndghmdfaaGreatDoorSc19
import Derived.Test.YtconcnndghmdfaaGreatDoorSc21
import Derived.Test.YtconcnndghmdfaaGreatDoorSc1
import Derived.Test.YtconcnndghmdfaaGreatDoorSc2
namespace Go.Proofs.YtconcnndghmdfaaGreatDoor
open Go.RowKit
theorem foldNum_small (n : Int) (h0 : 0 ≤ n) (h1 : n ≤ 2000000) : foldNum n < 18446744073709551616 := by
  unfold foldNum; rw [if_neg (by omega)]; show (2 * n).toNat < _; omega
theorem ext_append (a b : ByteArray) : (a ++ b).extract 0 a.size = a := by
  apply ByteArray.ext; rw [← Array.toList_inj, data_take]; simp
theorem ext_append' (a b : ByteArray) : (a ++ b).extract a.size (a ++ b).size = b := by
  apply ByteArray.ext; rw [← Array.toList_inj, ext_list']; simp
theorem body_seal (k : ByteArray × ByteArray) (id far : Int) (t : ByteArray) : bodyX (sealB k id far t) = sealT k id far t ∧ tailX (sealB k id far t) = take16 (macT k.2 (sealT k id far t)) := by
  have h16 : (take16 (macT k.2 (sealT k id far t))).size = 16 := take16_size _ (by rw [macT_size]; decide)
  have hs : (sealB k id far t).size - 16 = (sealT k id far t).size := by unfold sealB; rw [ByteArray.size_append, h16]; omega
  unfold bodyX tailX
  rw [hs]
  exact ⟨ext_append _ _, ext_append' _ _⟩
theorem sealT_list (k : ByteArray × ByteArray) (id far : Int) (t : ByteArray) : (sealT k id far t).data.toList = encNum (foldNum id) ++ (encNum (foldNum far) ++ (hidB k.1 id.toNat (packB (difB t far))).data.toList) := by
  unfold sealT numB; simp
theorem num1_seal (k : ByteArray × ByteArray) (id far : Int) (t : ByteArray) (h0 : 0 ≤ id) (h1 : id ≤ 2000000) : num1 (sealT k id far t) = (0, foldNum id, (encNum (foldNum id)).length) := by
  unfold num1 decAt
  rw [List.drop_zero, sealT_list]
  exact dec_whole _ _ (foldNum_small id h0 h1)
theorem num2_seal (k : ByteArray × ByteArray) (id far : Int) (t : ByteArray) (h0 : 0 ≤ id) (h1 : id ≤ 2000000) (h2 : 0 ≤ far) (h3 : far ≤ 256) : num2 (sealT k id far t) = (0, foldNum far, (encNum (foldNum far)).length) := by
  unfold num2
  rw [num1_seal k id far t h0 h1]
  unfold decAt
  rw [sealT_list, List.drop_left]
  exact dec_whole _ _ (foldNum_small far h2 (by omega))
theorem rest_seal (k : ByteArray × ByteArray) (id far : Int) (t : ByteArray) (h0 : 0 ≤ id) (h1 : id ≤ 2000000) (h2 : 0 ≤ far) (h3 : far ≤ 256) : restX (sealT k id far t) = hidB k.1 id.toNat (packB (difB t far)) := by
  unfold restX fromX
  rw [num1_seal k id far t h0 h1, num2_seal k id far t h0 h1 h2 h3]
  apply ByteArray.ext
  rw [← Array.toList_inj, ext_list', sealT_list, ← List.drop_drop, List.drop_left, List.drop_left]
theorem hid_twice (key : ByteArray) (n : Nat) (t : ByteArray) (h1 : key.size = 16) (h3 : t.size ≤ 20000) : hidB key n (hidB key n t) = t := by
  have e : ∀ u : ByteArray, u.size ≤ 20000 → hidB key n u = ctrS key (n : Int) u := fun u hu => (ctrS_yes key n u h1 (by omega) hu).symm
  have hs : (hidB key n t).size ≤ 20000 := by rw [hidB_size]; exact h3
  rw [e _ hs, e _ h3]
  exact ctrS_twice key n t h1 (by omega) h3
theorem sum_difB (t : ByteArray) (far : Int) : sumB (difB t far) far = t := by
  unfold sumB
  by_cases hf : 0 < far
  · rw [if_pos hf, difB_size]
    exact mkB_self t rfl (fun j hj => sum_dif (bF t) _ t.size far.toNat (by omega) (fun i hi => by
      unfold difB; rw [if_pos hf]; exact mkB_at t.size _ i hi) j hj)
  · rw [if_neg hf]; unfold difB; rw [if_neg hf]
theorem seal_long (k : ByteArray × ByteArray) (id far : Int) (t : ByteArray) (h0 : 0 ≤ id) (h1 : id ≤ 2000000) (h2 : 0 ≤ far) (h3 : far ≤ 256) (ht : t.size ≤ 4000) : 18 ≤ (sealB k id far t).size ∧ (sealB k id far t).size ≤ 17030 := by
  have h16 : (take16 (macT k.2 (sealT k id far t))).size = 16 := take16_size _ (by rw [macT_size]; decide)
  have hs : (sealB k id far t).size = (sealT k id far t).size + 16 := by unfold sealB; rw [ByteArray.size_append, h16]
  have hT := sealT_size k id far t h0 h1 h2 h3 ht
  have hl : (sealT k id far t).size = (encNum (foldNum id) ++ (encNum (foldNum far) ++ (hidB k.1 id.toNat (packB (difB t far))).data.toList)).length := by rw [← sealT_list]; rfl
  rw [List.length_append, List.length_append] at hl
  have a := List.length_pos_iff.2 (encNum_ne (foldNum id))
  have b := List.length_pos_iff.2 (encNum_ne (foldNum far))
  omega
theorem openT_id (k : ByteArray × ByteArray) (id far other : Int) (t : ByteArray) (h0 : 0 ≤ id) (h1 : id ≤ 2000000) (h2 : 0 ≤ far) (h3 : far ≤ 256) (ht : t.size ≤ 4000) (ho : ¬ other = id) : openT k other (sealB k id far t) = (⟨#[]⟩, 5) := by
  have hl := seal_long k id far t h0 h1 h2 h3 ht
  obtain ⟨e1, e2⟩ := body_seal k id far t
  unfold openT
  rw [if_neg (by omega), e1, e2, if_neg (by simp), if_pos]
  intro h
  have := h.2.2.1
  rw [num1_seal k id far t h0 h1] at this
  exact ho (this.symm.trans (unfold_fold id))
theorem openT_back (k : ByteArray × ByteArray) (id far : Int) (t : ByteArray) (hk : k.1.size = 16) (h0 : 0 ≤ id) (h1 : id ≤ 2000000) (h2 : 0 ≤ far) (h3 : far ≤ 256) (ht : t.size ≤ 4000) : openT k id (sealB k id far t) = (t, 0) := by
  have hl := seal_long k id far t h0 h1 h2 h3 ht
  obtain ⟨e1, e2⟩ := body_seal k id far t
  have hp := packB_few (difB t far) (by rw [difB_size]; exact ht)
  have hs : shownX k id (sealT k id far t) = (difB t far, 0) := by
    unfold shownX
    rw [rest_seal k id far t h0 h1 h2 h3, hid_twice k.1 id.toNat _ hk (by omega)]
    exact unpack_pack _ (by rw [difB_size]; exact ht) (by omega)
  have hd : headOk (sealT k id far t) id := by
    unfold headOk
    rw [num1_seal k id far t h0 h1, num2_seal k id far t h0 h1 h2 h3]
    refine ⟨rfl, rfl, unfold_fold id, ?_, ?_⟩
    · show 0 ≤ unfold (foldNum far); rw [unfold_fold]; exact h2
    · show unfold (foldNum far) ≤ 256; rw [unfold_fold]; exact h3
  have hf : farX (sealT k id far t) = far := by
    unfold farX; rw [num2_seal k id far t h0 h1 h2 h3]; exact unfold_fold far
  unfold openT
  rw [if_neg (by omega), e1, e2, if_neg (by simp), if_neg (by simpa using hd), hs, if_neg (by simp), hf]
  show (sumB (difB t far) far, (0 : Int)) = (t, 0)
  rw [sum_difB]
theorem openT_turned (k : ByteArray × ByteArray) (id : Int) (c : ByteArray) (hs : 18 ≤ c.size) (h : ¬ take16 (macT k.2 (bodyX c)) = tailX c) : openT k id c = (⟨#[]⟩, 10) := by
  unfold openT
  rw [if_neg (by omega), if_pos h]
/-- A number in front: the bytes of it stand there, or another one is read. -/
theorem dec_front (l : List UInt8) : ∀ k u U m, dec k u l = (0, U, m) → ∃ V, U = u + V * 2 ^ (7 * k) ∧ m = k + (encNum V).length ∧ (encNum V) <+: l ∧ (0 < k → 0 < V) := by
  induction l with
  | nil => intro k u U m h; cases h
  | cons b l ih =>
    intro k u U m h
    rw [dec] at h
    split at h
    · cases h
    · split at h
      · rename_i hb
        split at h
        · cases h
        · rename_i h0
          obtain ⟨rfl, rfl⟩ : u + b.toNat % 128 * 2 ^ (7 * k) = U ∧ k + 1 = m := by
            injection h with h1 h2; injection h2 with h2 h3; exact ⟨h2, h3⟩
          refine ⟨b.toNat, by rw [Nat.mod_eq_of_lt hb], ?_, ?_, fun hk => by omega⟩
          · rw [encNum_last _ hb]; rfl
          · rw [encNum_last _ hb]
            have e : UInt8.ofNat b.toNat = b := UInt8.ofNat_toNat
            rw [e]
            exact ⟨l, rfl⟩
      · rename_i hb
        obtain ⟨V, h1, h2, h3, h4⟩ := ih _ _ _ _ h
        have hbl : b.toNat < 256 := b.toNat_lt
        have hV := h4 (by omega)
        have hbig : ¬ V * 128 + b.toNat % 128 < 128 := by omega
        have e1 : (V * 128 + b.toNat % 128) / 128 = V := by omega
        have e2 : (V * 128 + b.toNat % 128) % 128 + 128 = b.toNat := by omega
        have e3 : encNum (V * 128 + b.toNat % 128) = b :: encNum V := by
          rw [encNum_more _ hbig, e1, e2]
          have e : UInt8.ofNat b.toNat = b := UInt8.ofNat_toNat
          rw [e]
        refine ⟨V * 128 + b.toNat % 128, ?_, ?_, ?_, fun _ => by omega⟩
        · have ep : 2 ^ (7 * (k + 1)) = 128 * 2 ^ (7 * k) := by rw [show 7 * (k + 1) = 7 * k + 7 from by omega, Nat.pow_add, Nat.mul_comm]
          rw [h1, ep, Nat.add_mul, Nat.mul_assoc V 128, Nat.add_assoc, Nat.add_comm (b.toNat % 128 * 2 ^ (7 * k))]
        · rw [h2, e3, List.length_cons]; omega
        · rw [e3]
          obtain ⟨r, hr⟩ := h3
          exact ⟨r, by rw [← hr]; rfl⟩
theorem unfold_inj {U V : Nat} (h : unfold U = unfold V) : U = V := by
  unfold unfold at h
  split at h <;> split at h <;> omega
/-- The bytes of the id stand in front of a body exactly where its first number is the id. -/
theorem front_is (t : ByteArray) (id : Int) (h0 : 0 ≤ id) (h1 : id ≤ 2000000) : (encNum (foldNum id) <+: t.data.toList) ↔ ((num1 t).1 = 0 ∧ unfold (num1 t).2.1 = id) := by
  constructor
  · rintro ⟨r, hr⟩
    unfold num1 decAt
    rw [List.drop_zero, ← hr, dec_whole _ _ (foldNum_small id h0 h1)]
    exact ⟨rfl, unfold_fold id⟩
  · rintro ⟨h2, h3⟩
    unfold num1 decAt at h2 h3
    rw [List.drop_zero] at h2 h3
    have hx : ∀ x, dec 0 0 t.data.toList = x → x.1 = 0 → unfold x.2.1 = id → encNum (foldNum id) <+: t.data.toList := by
      rintro ⟨a, U, m⟩ hd ha hu
      obtain rfl : a = 0 := ha
      obtain ⟨V, e, _, hp, _⟩ := dec_front _ _ _ _ _ hd
      have e' : U = V := by simpa using e
      have e2 : V = foldNum id := unfold_inj (by rw [unfold_fold, ← e']; exact hu)
      rw [← e2]; exact hp
    exact hx _ rfl h2 h3
end Go.Proofs.YtconcnndghmdfaaGreatDoor
namespace Go.Proofs.YtconcnndghmdfaaGreatDoor
open Go.RowKit
theorem inFront_list (s p : ByteArray) : inFront s p ↔ p.data.toList <+: s.data.toList := by
  have hp : p.data.toList.length = p.size := rfl
  have hs : s.data.toList.length = s.size := rfl
  constructor
  · rintro ⟨h1, h2⟩
    refine ⟨s.data.toList.drop p.size, ?_⟩
    have e : p.data.toList = s.data.toList.take p.size := by
      have := congrArg (fun x : ByteArray => x.data.toList) h2
      simp only [data_take] at this
      exact this.symm
    rw [e]
    exact List.take_append_drop _ _
  · rintro ⟨r, hr⟩
    refine ⟨by rw [← hs, ← hr, List.length_append]; omega, ?_⟩
    apply ByteArray.ext
    rw [← Array.toList_inj, data_take, ← hr, ← hp]
    exact List.take_left
theorem numB_list (n : Int) : (numB n).data.toList = encNum (foldNum n) := by unfold numB; simp
/-- The id stands in front: the place behind it, and what is read there. -/
theorem front_yes (t : ByteArray) (id : Int) (h0 : 0 ≤ id) (h1 : id ≤ 2000000) (h : inFront t (numB id)) :
    (num1 t).1 = 0 ∧ unfold (num1 t).2.1 = id ∧ (num1 t).2.2 = (numB id).size ∧ decAt (cutT t (numB id)) 0 = num2 t ∧ cutT t (numB id) = t.extract (numB id).size t.size := by
  have hc : cutT t (numB id) = t.extract (numB id).size t.size := if_pos h
  have hl : (numB id).size = (encNum (foldNum id)).length := by unfold numB; exact size_mk _
  obtain ⟨r, hr⟩ := (inFront_list _ _).1 h
  rw [numB_list] at hr
  have hn : num1 t = (0, foldNum id, (encNum (foldNum id)).length) := by
    unfold num1 decAt
    rw [List.drop_zero, ← hr]
    exact dec_whole _ _ (foldNum_small id h0 h1)
  refine ⟨by rw [hn], by rw [hn]; exact unfold_fold id, by rw [hn, hl], ?_, hc⟩
  unfold num2
  rw [hn, hc, hl]
  unfold decAt
  rw [ext_list', List.drop_zero]
theorem front_no (t : ByteArray) (id : Int) (h0 : 0 ≤ id) (h1 : id ≤ 2000000) (h : ¬ inFront t (numB id)) : ¬ headOk t id := by
  intro hk
  refine h ((inFront_list _ _).2 ?_)
  rw [numB_list]
  exact (front_is t id h0 h1).2 ⟨hk.1, hk.2.2.1⟩
theorem rest_cut (t : ByteArray) (p m : Nat) : (t.extract p t.size).extract m (t.extract p t.size).size = t.extract (p + m) t.size := by
  apply ByteArray.ext
  rw [← Array.toList_inj, ext_list', ext_list', ext_list', List.drop_drop]
end Go.Proofs.YtconcnndghmdfaaGreatDoor
namespace Go.Proofs.YtconcnndghmdfaaGreatDoor
open Go.RowKit
theorem or_comm32 (a b : Nat) : or32 a b = or32 b a := by unfold or32; exact Nat.or_comm _ _
theorem rot_eq (x k S : Nat) (h : S + k = 32) : bits .or .u32 ((x : Int) * 2 ^ S % 4294967296) ((x : Int) / 2 ^ k) = ((turn32 x k : Nat) : Int) := by
  have e : ((x : Int) * 2 ^ S % 4294967296) = ((shl32 x S : Nat) : Int) := by rw [← r_shl, IntKind.wrap_u32]
  have hk : S = 32 - k := by omega
  rw [r_shr, e, r_or, or_comm32, hk]; rfl
theorem and31 : ∀ k : Fin 32, 1 ≤ k.1 → bits .and .u64 (IntKind.u64.wrap (-(k.1 : Int))) 31 = ((32 - k.1 : Nat) : Int) := by decide
set_option maxRecDepth 100000 in
set_option maxHeartbeats 400000 in
theorem rot (x k : Nat) (w : World) (hk0 : 1 ≤ k) (hk : k ≤ 31) :
    Calls Tryz.prog 165 #[.int .u32 x, .int .i64 (-(k : Int))] w fun e w' => e = .returned (.int .u32 (turn32 x k)) ∧ w = w' := by
  have hand : bits .and .u64 (IntKind.u64.wrap (-(k : Int))) 31 = ((32 - k : Nat) : Int) := and31 ⟨k, by omega⟩ hk0
  go_enter Tryz.func165, Tryz.ntmps165
  go_wp2_with fail
  have ht := rot_eq x k (32 - k) (by omega)
  have hk2 : 32 - (32 - k) = k := by omega
  rw [hk2]
  simp only [ht]
  go_ret
  exact ⟨rfl, rfl⟩
theorem rotK (x : Nat) (K : Int) (w : World) (h0 : 1 ≤ K) (h : K ≤ 31) :
    Calls Tryz.prog 165 #[.int .u32 x, .int .i64 (-K)] w fun e w' => e = .returned (.int .u32 (turn32 x K.toNat)) ∧ w = w' := by
  have := rot x K.toNat w (by omega) (by omega)
  rwa [show ((K.toNat : Nat) : Int) = K by omega] at this
set_option maxRecDepth 100000 in
set_option maxHeartbeats 400000 in
theorem twice (x : Nat) (J K : Int) (w : World) (j0 : 1 ≤ J) (j1 : J ≤ 31) (k0 : 1 ≤ K) (k1 : K ≤ 31) :
    Calls Tryz.prog 164 #[.int .u32 x, .int .i64 J, .int .i64 K] w fun e w' => e = .returned (.int .u32 (xor32 (turn32 x J.toNat) (turn32 x K.toNat))) ∧ w = w' := by
  have hx := r_xor (turn32 x J.toNat) (turn32 x K.toNat)
  go_enter Tryz.func164, Tryz.ntmps164
  go_wp2_with fail
  refine (rotK x J w j0 j1).mono ?_
  rintro e w1 ⟨rfl, rfl⟩
  go_wp2_with fail
  refine (rotK x K w k0 k1).mono ?_
  rintro e w2 ⟨rfl, rfl⟩
  go_wp2_with fail
  go_ret
  exact ⟨rfl, rfl⟩
set_option maxRecDepth 100000 in
set_option maxHeartbeats 400000 in
theorem thrice (x : Nat) (I J K : Int) (w : World) (i0 : 1 ≤ I) (i1 : I ≤ 31) (j0 : 1 ≤ J) (j1 : J ≤ 31) (k0 : 1 ≤ K) (k1 : K ≤ 31) :
    Calls Tryz.prog 161 #[.int .u32 x, .int .i64 I, .int .i64 J, .int .i64 K] w fun e w' => e = .returned (.int .u32 (xor32 (xor32 (turn32 x I.toNat) (turn32 x J.toNat)) (turn32 x K.toNat))) ∧ w = w' := by
  have hx := r_xor (xor32 (turn32 x I.toNat) (turn32 x J.toNat)) (turn32 x K.toNat)
  go_enter Tryz.func161, Tryz.ntmps161
  go_wp2_with fail
  refine (twice x I J w i0 i1 j0 j1).mono ?_
  rintro e w1 ⟨rfl, rfl⟩
  go_wp2_with fail
  refine (rotK x K w k0 k1).mono ?_
  rintro e w2 ⟨rfl, rfl⟩
  go_wp2_with fail
  go_ret
  exact ⟨rfl, rfl⟩
end Go.Proofs.YtconcnndghmdfaaGreatDoor
namespace Go.Proofs.YtconcnndghmdfaaGreatDoor
open Go.RowKit
theorem mod_or (a b k : Nat) : (a ||| b) % 2 ^ k = (a % 2 ^ k) ||| (b % 2 ^ k) := Nat.or_mod_two_pow
theorem shl_or (a b k : Nat) : shl32 (or32 a b) k = or32 (shl32 a k) (shl32 b k) := by
  have h (x : Nat) : (x % 4294967296 * 2 ^ k) % 4294967296 = x * 2 ^ k % 4294967296 := Nat.mod_mul_mod _ _ _
  unfold shl32 or32
  rw [← Nat.shiftLeft_eq, Nat.shiftLeft_or_distrib, Nat.shiftLeft_eq, Nat.shiftLeft_eq, show (4294967296 : Nat) = 2 ^ 32 from rfl, mod_or, Nat.mod_mod, Nat.mod_mod]
  rw [show (2 : Nat) ^ 32 = 4294967296 from rfl, h, h]
theorem shl_shl (a j k : Nat) : shl32 (shl32 a j) k = shl32 a (j + k) := by
  unfold shl32; rw [Nat.mod_mul_mod, Nat.pow_add, Nat.mul_assoc]
theorem or_mod (a b : Nat) : or32 a (b % 4294967296) = or32 a b := by unfold or32; rw [Nat.mod_mod]
/-- What a word holds when j of its four bytes are in. -/
def part (B : Nat → Nat) (i : Nat) : Nat → Nat
  | 0 => 0
  | j + 1 => or32 (shl32 (part B i j) 8) (B (4 * i + j))
theorem part_lt (B : Nat → Nat) (i : Nat) : ∀ j, part B i j < 4294967296
  | 0 => Nat.zero_lt_succ _
  | _ + 1 => lt_or _ _
theorem part_four (B : Nat → Nat) (i : Nat) : part B i 4 = word B i := by
  show or32 (shl32 (or32 (shl32 (or32 (shl32 (or32 (shl32 0 8) (B (4 * i + 0))) 8) (B (4 * i + 1))) 8) (B (4 * i + 2))) 8) (B (4 * i + 3)) = _
  have z : shl32 0 8 = 0 := by decide
  have o (x : Nat) : or32 0 x = x % 4294967296 := by unfold or32; simp
  have m (x : Nat) : shl32 (x % 4294967296) 8 = shl32 x 8 := by unfold shl32; rw [Nat.mod_mul_mod]
  rw [z, o, m, shl_or, shl_or, shl_or, shl_shl, shl_shl, shl_shl]
  rfl
theorem alloc_size (w : World) (o : Obj) : (w.alloc o).heap.size = w.heap.size + 1 := by simp
theorem zeros_row (w : World) (c : Array Value) (t : Nat) (hc : c = (List.replicate 64 (Value.int .u32 0)).toArray) : (w.alloc (.cells c t)).rowIs w.heap.size t 64 (u32V fun _ => 0) := by
  subst hc
  refine World.rowIs_alloc w _ _ _ ?_
  intro i hi
  have : i < 64 := by simpa using hi
  rw [List.getElem?_toArray, List.getElem?_replicate, if_pos this]; rfl
theorem set_word' {wr : World} {g E k : Nat} {f : Nat → Nat} {X : Nat} (h : wr.rowIs g E 64 (u32V f)) : (wr.setCell ⟨g, k, none⟩ (.int .u32 (X : Int))).rowIs g E 64 (u32V fun j => if j = k then X else f j) := by
  refine ((h.set k (.int .u32 (X : Int))).congr ?_)
  intro i _
  simp only [u32V]
  split <;> rfl
theorem part_step {B : Nat → Nat} {i j X b : Nat} (hX : X = part B i j) (hb : b = B (4 * i + j)) : bits .or .u32 ((X : Int) * 256 % 4294967296) (b : Int) = ((part B i (j + 1) : Nat) : Int) := by
  have e : ((X : Int) * 256 % 4294967296) = ((shl32 X 8 : Nat) : Int) := by unfold shl32; simp
  rw [e, r_or, hX, hb]; rfl
theorem sched_val (B : Nat → Nat) (k q2 q7 q15 q16 x2 x7 x15 x16 : Nat) (hk : ¬ k < 16) (he : q2 = k - 2 ∧ q7 = k - 7 ∧ q15 = k - 15 ∧ q16 = k - 16) (v2 : x2 = wd B q2) (v7 : x7 = wd B q7) (v15 : x15 = wd B q15) (v16 : x16 = wd B q16) :
    ((x16 : Int) + ((sig0 x15 : Nat) : Int) + (x7 : Int) + ((sig1 x2 : Nat) : Int)) % 4294967296 = ((wd B k : Nat) : Int) := by
  obtain ⟨e2, e7, e15, e16⟩ := he
  rw [wd_hi B k hk, ← e2, ← e7, ← e15, ← e16, ← v2, ← v7, ← v15, ← v16]
  unfold add32
  omega
theorem below_setRow {B : Nat} {a w : World} (h : Below B a w) (g : Nat) (cs : Array Value) (hg : B ≤ g) : Below B a (w.setRow g cs) :=
  h.trans ⟨rfl, rfl, rfl, by simp, fun b hb => setRow_other w g b cs (by omega)⟩
theorem Tryz.size64 : (Tryz.prog.info? 235).map (·.size) = some 64 := by kernel_rfl
set_option maxRecDepth 100000 in
set_option maxHeartbeats 1600000 in
theorem sched (r o c : Nat) (B : Nat → Nat) (w : World) (hr : r < w.heap.size) (hB : ∀ j, j < 64 → B j < 256 ∧ w.cell? ⟨r, o + j, none⟩ = some (.int .u8 (B j : Nat))) :
    Calls Tryz.prog 160 #[.slice (some ⟨r, o, none⟩) 64 c] w fun e w' => ∃ cs, e = .returned (.agg cs) ∧ cs.size = 64 ∧ (∀ i, i < 64 → cs[i]? = some (.int .u32 (wd B i : Nat))) ∧ Below w.heap.size w w' := by
  have HB := hide hB
  clear hB
  go_enter Tryz.func160, Tryz.ntmps160
  go_wp2_with fail
  go_loopw [9] (fun i wr => ∃ (k : Nat) (f : Nat → Nat), k ≤ 16 ∧ i = .int .i64 k ∧ Hid (∀ j, j < 64 → f j = if j < k then word B j else 0) ∧ wr.rowIs w.heap.size 235 64 (u32V fun _ => 0) ∧ wr.rowIs (w.heap.size + 1) 235 64 (u32V f) ∧ Below w.heap.size w wr) (fun i _ => 16 - (intOf i).toNat)
  case atStart =>
    refine ⟨0, fun _ => 0, by omega, rfl, fun j hj => by simp, (zeros_row w _ _ rfl).alloc _, ?_, ((Below.refl _ _).alloc (Nat.le_refl _) _).alloc (by simp) _⟩
    have h := zeros_row (w.alloc (.cells (List.replicate 64 (Value.int .u32 0)).toArray 235)) (List.replicate 64 (Value.int .u32 0)).toArray 235 rfl
    simp only [alloc_size] at h
    exact h
  case round =>
    obtain ⟨k, f, hk, rfl, hf, hres, hrw, hbl⟩ := hrel
    by_cases hlt : k < 16
    · go_wp2_with fail
      go_loopw [12] (fun i wx => ∃ (m : Nat) (f : Nat → Nat), m ≤ 4 ∧ i = .int .i64 m ∧ Hid (∀ j, j < 64 → f j = if j < k then word B j else if j = k then part B k m else 0) ∧ wx.rowIs w.heap.size 235 64 (u32V fun _ => 0) ∧ wx.rowIs (w.heap.size + 1) 235 64 (u32V f) ∧ Below w.heap.size w wx) (fun i _ => 4 - (intOf i).toNat)
      case atStart => exact ⟨0, f, by omega, rfl, fun j hj => by rw [hf.out j hj]; split; rfl; split <;> rfl, hres, hrw, hbl⟩
      case round =>
        clear hf hres hrw hbl
        obtain ⟨m, f, hm, rfl, hf, hres, hrw, hbl⟩ := hrel
        by_cases hlt4 : m < 4
        · have ck := cell_u32 hrw k (by omega)
          have hfz := hrw.frozen k
          obtain ⟨q, e⟩ : ∃ q, q = 4 * k + m := ⟨_, rfl⟩
          obtain ⟨q0, e0⟩ : ∃ q, q = 4 * k := ⟨_, rfl⟩
          have m0 : IntKind.i64.wrap (4 * (k : Int)) = (q0 : Int) := by simp only [IntKind.wrap_i64]; omega
          have m1 : IntKind.i64.wrap ((q0 : Int) + (m : Int)) = (q : Int) := by simp only [IntKind.wrap_i64]; omega
          have nq : (q : Int) < 64 := by omega
          have hBq := HB.out q (by omega)
          have cb : wr.cell? ⟨r, o + q, none⟩ = some (.int .u8 (B q : Nat)) := (hbl.cell (p := ⟨r, o + q, none⟩) hr).trans hBq.2
          have bq : (B q : Int) ≤ 255 := by have := hBq.1; omega
          have hX := hide (show f k = part B k m by rw [hf.out k (by omega), if_neg (by omega), if_pos rfl])
          have hbq := hide (show B q = B (4 * k + m) by rw [e])
          clear e e0 hBq
          generalize B q = bb at *
          generalize f k = X at *
          go_wp2_with fail
          go_region
          have hp := part_step hX.out hbq.out
          simp only [hp]
          obtain ⟨Y, hY⟩ : ∃ Y, Y = part B k (m + 1) := ⟨_, rfl⟩
          simp only [← hY]
          have HY := hide hY
          clear hp hY m0 m1 bq cb ck hbq hX
          go_wp2_with fail
          go_roundw
          case rel =>
            refine ⟨m + 1, fun j => if j = k then Y else f j, by omega, by go_num, fun j hj => ?_, hres.setOther (by simp) _, set_word' hrw, (hbl.setCell (by simp) _).drew⟩
            show (if j = k then Y else f j) = _
            by_cases e : j = k
            · rw [if_pos e, if_neg (by omega), if_pos e, HY.out]
            · rw [if_neg e, hf.out j hj, if_neg e, if_neg e]
          case measure => simp [intOf]; omega
        · go_wp2_with fail
          go_roundw
          case rel =>
            refine ⟨k + 1, f, by omega, by go_num, fun j hj => ?_, hres, hrw, hbl⟩
            rw [hf.out j hj]
            by_cases e : j < k
            · rw [if_pos e, if_pos (by omega)]
            · by_cases e2 : j = k
              · rw [if_neg e, if_pos e2, if_pos (by omega), show m = 4 by omega, part_four, e2]
              · rw [if_neg e, if_neg e2, if_neg (by omega)]
          case measure => simp [intOf]; omega
    · have hf2 : Hid (∀ j, j < 16 → f j = wd B j) := fun j hj => by rw [hf.out j (by omega), if_pos (by omega), wd_lo _ _ hj]
      go_wp2_with fail
      clear hf
      go_loopw [6] (fun i wx => ∃ (k : Nat) (f : Nat → Nat), 16 ≤ k ∧ k ≤ 64 ∧ i = .int .i64 k ∧ Hid (∀ j, j < k → f j = wd B j) ∧ wx.rowIs w.heap.size 235 64 (u32V fun _ => 0) ∧ wx.rowIs (w.heap.size + 1) 235 64 (u32V f) ∧ Below w.heap.size w wx) (fun i _ => 64 - (intOf i).toNat)
      case atStart => exact ⟨16, f, by omega, by omega, rfl, hf2, hres, hrw, hbl⟩
      case round =>
        clear hf2 hres hrw hbl
        obtain ⟨k, f, hk0, hk, rfl, hf, hres, hrw, hbl⟩ := hrel
        by_cases hlt : k < 64
        · obtain ⟨q2, e2⟩ : ∃ q, q = k - 2 := ⟨_, rfl⟩
          obtain ⟨q7, e7⟩ : ∃ q, q = k - 7 := ⟨_, rfl⟩
          obtain ⟨q15, e15⟩ : ∃ q, q = k - 15 := ⟨_, rfl⟩
          obtain ⟨q16, e16⟩ : ∃ q, q = k - 16 := ⟨_, rfl⟩
          have m2 : IntKind.i64.wrap ((k : Int) - 2) = (q2 : Int) := by simp only [IntKind.wrap_i64]; omega
          have m7 : IntKind.i64.wrap ((k : Int) - 7) = (q7 : Int) := by simp only [IntKind.wrap_i64]; omega
          have m15 : IntKind.i64.wrap ((k : Int) - 15) = (q15 : Int) := by simp only [IntKind.wrap_i64]; omega
          have m16 : IntKind.i64.wrap ((k : Int) - 16) = (q16 : Int) := by simp only [IntKind.wrap_i64]; omega
          have c2 := cell_u32 hrw q2 (by omega)
          have c7 := cell_u32 hrw q7 (by omega)
          have c15 := cell_u32 hrw q15 (by omega)
          have c16 := cell_u32 hrw q16 (by omega)
          have ck := cell_u32 hrw k hlt
          have hfz := hrw.frozen k
          have d7 : q7 ≠ k := by omega
          have d16 : q16 ≠ k := by omega
          have n2 : (q2 : Int) < 64 := by omega
          have n7 : (q7 : Int) < 64 := by omega
          have n15 : (q15 : Int) < 64 := by omega
          have n16 : (q16 : Int) < 64 := by omega
          have v2 := hide (hf.out q2 (by omega))
          have v7 := hide (hf.out q7 (by omega))
          have v15 := hide (hf.out q15 (by omega))
          have v16 := hide (hf.out q16 (by omega))
          have HE := hide (show q2 = k - 2 ∧ q7 = k - 7 ∧ q15 = k - 15 ∧ q16 = k - 16 from ⟨e2, e7, e15, e16⟩)
          clear e2 e7 e15 e16
          generalize f q2 = x2 at *
          generalize f q7 = x7 at *
          generalize f q15 = x15 at *
          generalize f q16 = x16 at *
          go_wp2_with fail
          go_region_held3 (fun w' => w'.cell? ⟨w.heap.size + 1, q15, none⟩ = some (.int .u32 x15)) (go_keep)
            (first | (go_at_call 164; refine (twice _ _ _ _ ?_ ?_ ?_ ?_).mono ?_; decide; decide; decide; decide; rintro e w' ⟨rfl, rfl⟩))
          rename_i _ hH
          clear hH
          have hs0 : bits .xor .u32 (↑(xor32 (turn32 x15 7) (turn32 x15 18))) ((x15 : Int) / 8) = ((sig0 x15 : Nat) : Int) := by
            have h3 : (x15 : Int) / 8 = ((shr32 x15 3 : Nat) : Int) := r_shr x15 3
            rw [h3, r_xor]; rfl
          simp only [hs0]
          clear hs0
          go_wp2_with fail
          go_region_held3 (fun w' => w'.cell? ⟨w.heap.size + 1, q2, none⟩ = some (.int .u32 x2)) (go_keep)
            (first | (go_at_call 164; refine (twice _ _ _ _ ?_ ?_ ?_ ?_).mono ?_; decide; decide; decide; decide; rintro e w' ⟨rfl, rfl⟩))
          rename_i _ hH
          clear hH
          have hs1 : bits .xor .u32 (↑(xor32 (turn32 x2 17) (turn32 x2 19))) ((x2 : Int) / 1024) = ((sig1 x2 : Nat) : Int) := by
            have h3 : (x2 : Int) / 1024 = ((shr32 x2 10 : Nat) : Int) := r_shr x2 10
            rw [h3, r_xor]; rfl
          simp only [hs1]
          clear hs1
          go_wp2_with fail
          go_region
          have hw := sched_val B k q2 q7 q15 q16 x2 x7 x15 x16 (by omega) HE.out v2.out v7.out v15.out v16.out
          simp only [hw]
          obtain ⟨X, hX⟩ : ∃ X, X = wd B k := ⟨_, rfl⟩
          simp only [← hX]
          have HX := hide hX
          clear hw hX m2 m7 m15 m16 c2 c7 c15 c16 v2 v7 v15 v16 d7 d16 n2 n7 n15 n16 HE ck hfz
          go_wp2_with fail
          go_roundw
          case rel => exact ⟨k + 1, fun j => if j = k then X else f j, by omega, by omega, by go_num, ext_word hf.out HX.out, hres.setOther (by simp) _, set_word' hrw, ((hbl.setCell (by simp) _).drew).drew.drew⟩
          case measure => simp [intOf]; omega
        · have hf3 : Hid (∀ j, j < 64 → f j = wd B j) := fun j hj => hf.out j (by omega)
          obtain ⟨cs, hcs, hsz, hval⟩ := hrw
          obtain ⟨ds, hds, hdsz, _⟩ := hres
          have hi : (Tryz.prog.info? 235).map (·.size) = some cs.size := by rw [hsz]; exact Tryz.size64
          have hsd : ds.size = cs.size := by omega
          have hall : cs.all (·.oneCell') = true := by
            rw [Array.all_eq_true]
            intro i hi
            have h := hval i (by omega)
            rw [Array.getElem?_eq_getElem hi] at h
            rw [Option.some.inj h]; rfl
          go_wp2_with (first | (refine wpList_load_row rfl 235 _ rfl (w.heap.size + 1) rfl _ cs _ _ hcs Tryz.underlying235 rfl hi ?_) | (refine wpList_store_row rfl 235 _ _ rfl w.heap.size cs rfl rfl _ ds hds hi hsd hall ?_))
          have hg : (wr.setRow w.heap.size cs).heap[w.heap.size]? = some (.cells cs _ (0, 0)) := setRow_heap wr w.heap.size ds cs _ (0, 0) hds
          refine bodyPost_ret (v := .agg cs) (results_cell_row Tryz.results160 _ _ w.heap.size _ cs _ _ ?_ hg Tryz.underlying235 rfl hi) rfl ⟨cs, rfl, hsz, fun i hi => ?_, below_setRow hbl _ _ (Nat.le_refl _)⟩
          · rfl
          · rw [hval i hi, u32V, hf3.out i hi]
end Go.Proofs.YtconcnndghmdfaaGreatDoor
