/- Put together: SealM, SealHd, MacTw, SealPk, KeyW, SealPn, SealPr. -/
import Derived.Test.YtconcnndghmdfaaGreatDoorSe20
import Derived.Test.YtconcnndghmdfaaGreatDoorSe19
import Derived.Test.YtconcnndghmdfaaGreatDoorSe28
import Derived.BigRegion
import Derived.Test.YtconcnndghmdfaaGreatDoorSe44
import Derived.Test.YtconcnndghmdfaaGreatDoorSe43
import Derived.Test.YtconcnndghmdfaaGreatDoorSe18
import Derived.BigQuiet
import Derived.WalkSmall
namespace Go.Proofs.YtconcnndghmdfaaGreatDoor
open Go.RowKit
theorem foldNum_small (n : Int) (h0 : 0 ≤ n) (h1 : n ≤ 2000000) : foldNum n < 18446744073709551616 := by
  unfold foldNum; rw [if_neg (by omega)]; show (2 * n).toNat < _; omega
theorem ext_append (a b : ByteArray) : (a ++ b).extract 0 a.size = a := by
  apply ByteArray.ext; rw [← Array.toList_inj, data_take]; simp
theorem ext_append' (a b : ByteArray) : (a ++ b).extract a.size (a ++ b).size = b := by
  apply ByteArray.ext; rw [← Array.toList_inj, ext_list']; simp
theorem body_seal (k : ByteArray × ByteArray) (id far : Int) (t : ByteArray) : bodyX (sealB k id far t) = sealT k id far t ∧ tailX (sealB k id far t) = take16 (macT k.2 (sealT k id far t)) := by
  have h16 : (take16 (macT k.2 (sealT k id far t))).size = 16 := take16_size _ (by rw [macT_size]; decide)
  have hs : (sealB k id far t).size - 16 = (sealT k id far t).size := by unfold sealB; rw [ByteArray.size_append, h16]; omega
  unfold bodyX tailX
  rw [hs]
  exact ⟨ext_append _ _, ext_append' _ _⟩
theorem sealT_list (k : ByteArray × ByteArray) (id far : Int) (t : ByteArray) : (sealT k id far t).data.toList = encNum (foldNum id) ++ (encNum (foldNum far) ++ (hidB k.1 id.toNat (packB (difB t far))).data.toList) := by
  unfold sealT numB; simp
theorem num1_seal (k : ByteArray × ByteArray) (id far : Int) (t : ByteArray) (h0 : 0 ≤ id) (h1 : id ≤ 2000000) : num1 (sealT k id far t) = (0, foldNum id, (encNum (foldNum id)).length) := by
  unfold num1 decAt
  rw [List.drop_zero, sealT_list]
  exact dec_whole _ _ (foldNum_small id h0 h1)
theorem num2_seal (k : ByteArray × ByteArray) (id far : Int) (t : ByteArray) (h0 : 0 ≤ id) (h1 : id ≤ 2000000) (h2 : 0 ≤ far) (h3 : far ≤ 256) : num2 (sealT k id far t) = (0, foldNum far, (encNum (foldNum far)).length) := by
  unfold num2
  rw [num1_seal k id far t h0 h1]
  unfold decAt
  rw [sealT_list, List.drop_left]
  exact dec_whole _ _ (foldNum_small far h2 (by omega))
theorem rest_seal (k : ByteArray × ByteArray) (id far : Int) (t : ByteArray) (h0 : 0 ≤ id) (h1 : id ≤ 2000000) (h2 : 0 ≤ far) (h3 : far ≤ 256) : restX (sealT k id far t) = hidB k.1 id.toNat (packB (difB t far)) := by
  unfold restX fromX
  rw [num1_seal k id far t h0 h1, num2_seal k id far t h0 h1 h2 h3]
  apply ByteArray.ext
  rw [← Array.toList_inj, ext_list', sealT_list, ← List.drop_drop, List.drop_left, List.drop_left]
theorem hid_twice (key : ByteArray) (n : Nat) (t : ByteArray) (h1 : key.size = 16) (h3 : t.size ≤ 20000) : hidB key n (hidB key n t) = t := by
  have e : ∀ u : ByteArray, u.size ≤ 20000 → hidB key n u = ctrS key (n : Int) u := fun u hu => (ctrS_yes key n u h1 (by omega) hu).symm
  have hs : (hidB key n t).size ≤ 20000 := by rw [hidB_size]; exact h3
  rw [e _ hs, e _ h3]
  exact ctrS_twice key n t h1 (by omega) h3
theorem sum_difB (t : ByteArray) (far : Int) : sumB (difB t far) far = t := by
  unfold sumB
  by_cases hf : 0 < far
  · rw [if_pos hf, difB_size]
    exact mkB_self t rfl (fun j hj => sum_dif (bF t) _ t.size far.toNat (by omega) (fun i hi => by
      unfold difB; rw [if_pos hf]; exact mkB_at t.size _ i hi) j hj)
  · rw [if_neg hf]; unfold difB; rw [if_neg hf]
theorem seal_long (k : ByteArray × ByteArray) (id far : Int) (t : ByteArray) (h0 : 0 ≤ id) (h1 : id ≤ 2000000) (h2 : 0 ≤ far) (h3 : far ≤ 256) (ht : t.size ≤ 4000) : 18 ≤ (sealB k id far t).size ∧ (sealB k id far t).size ≤ 17030 := by
  have h16 : (take16 (macT k.2 (sealT k id far t))).size = 16 := take16_size _ (by rw [macT_size]; decide)
  have hs : (sealB k id far t).size = (sealT k id far t).size + 16 := by unfold sealB; rw [ByteArray.size_append, h16]
  have hT := sealT_size k id far t h0 h1 h2 h3 ht
  have hl : (sealT k id far t).size = (encNum (foldNum id) ++ (encNum (foldNum far) ++ (hidB k.1 id.toNat (packB (difB t far))).data.toList)).length := by rw [← sealT_list]; rfl
  rw [List.length_append, List.length_append] at hl
  have a := List.length_pos_iff.2 (encNum_ne (foldNum id))
  have b := List.length_pos_iff.2 (encNum_ne (foldNum far))
  omega
theorem openT_id (k : ByteArray × ByteArray) (id far other : Int) (t : ByteArray) (h0 : 0 ≤ id) (h1 : id ≤ 2000000) (h2 : 0 ≤ far) (h3 : far ≤ 256) (ht : t.size ≤ 4000) (ho : ¬ other = id) : openT k other (sealB k id far t) = (⟨#[]⟩, 5) := by
  have hl := seal_long k id far t h0 h1 h2 h3 ht
  obtain ⟨e1, e2⟩ := body_seal k id far t
  unfold openT
  rw [if_neg (by omega), e1, e2, if_neg (by simp), if_pos]
  intro h
  have := h.2.2.1
  rw [num1_seal k id far t h0 h1] at this
  exact ho (this.symm.trans (unfold_fold id))
theorem openT_back (k : ByteArray × ByteArray) (id far : Int) (t : ByteArray) (hk : k.1.size = 16) (h0 : 0 ≤ id) (h1 : id ≤ 2000000) (h2 : 0 ≤ far) (h3 : far ≤ 256) (ht : t.size ≤ 4000) : openT k id (sealB k id far t) = (t, 0) := by
  have hl := seal_long k id far t h0 h1 h2 h3 ht
  obtain ⟨e1, e2⟩ := body_seal k id far t
  have hp := packB_few (difB t far) (by rw [difB_size]; exact ht)
  have hs : shownX k id (sealT k id far t) = (difB t far, 0) := by
    unfold shownX
    rw [rest_seal k id far t h0 h1 h2 h3, hid_twice k.1 id.toNat _ hk (by omega)]
    exact unpack_pack _ (by rw [difB_size]; exact ht) (by omega)
  have hd : headOk (sealT k id far t) id := by
    unfold headOk
    rw [num1_seal k id far t h0 h1, num2_seal k id far t h0 h1 h2 h3]
    refine ⟨rfl, rfl, unfold_fold id, ?_, ?_⟩
    · show 0 ≤ unfold (foldNum far); rw [unfold_fold]; exact h2
    · show unfold (foldNum far) ≤ 256; rw [unfold_fold]; exact h3
  have hf : farX (sealT k id far t) = far := by
    unfold farX; rw [num2_seal k id far t h0 h1 h2 h3]; exact unfold_fold far
  unfold openT
  rw [if_neg (by omega), e1, e2, if_neg (by simp), if_neg (by simpa using hd), hs, if_neg (by simp), hf]
  show (sumB (difB t far) far, (0 : Int)) = (t, 0)
  rw [sum_difB]
theorem openT_turned (k : ByteArray × ByteArray) (id : Int) (c : ByteArray) (hs : 18 ≤ c.size) (h : ¬ take16 (macT k.2 (bodyX c)) = tailX c) : openT k id c = (⟨#[]⟩, 10) := by
  unfold openT
  rw [if_neg (by omega), if_pos h]
/-- A number in front: the bytes of it stand there, or another one is read. -/
theorem dec_front (l : List UInt8) : ∀ k u U m, dec k u l = (0, U, m) → ∃ V, U = u + V * 2 ^ (7 * k) ∧ m = k + (encNum V).length ∧ (encNum V) <+: l ∧ (0 < k → 0 < V) := by
  induction l with
  | nil => intro k u U m h; cases h
  | cons b l ih =>
    intro k u U m h
    rw [dec] at h
    split at h
    · cases h
    · split at h
      · rename_i hb
        split at h
        · cases h
        · rename_i h0
          obtain ⟨rfl, rfl⟩ : u + b.toNat % 128 * 2 ^ (7 * k) = U ∧ k + 1 = m := by
            injection h with h1 h2; injection h2 with h2 h3; exact ⟨h2, h3⟩
          refine ⟨b.toNat, by rw [Nat.mod_eq_of_lt hb], ?_, ?_, fun hk => by omega⟩
          · rw [encNum_last _ hb]; rfl
          · rw [encNum_last _ hb]
            have e : UInt8.ofNat b.toNat = b := UInt8.ofNat_toNat
            rw [e]
            exact ⟨l, rfl⟩
      · rename_i hb
        obtain ⟨V, h1, h2, h3, h4⟩ := ih _ _ _ _ h
        have hbl : b.toNat < 256 := b.toNat_lt
        have hV := h4 (by omega)
        have hbig : ¬ V * 128 + b.toNat % 128 < 128 := by omega
        have e1 : (V * 128 + b.toNat % 128) / 128 = V := by omega
        have e2 : (V * 128 + b.toNat % 128) % 128 + 128 = b.toNat := by omega
        have e3 : encNum (V * 128 + b.toNat % 128) = b :: encNum V := by
          rw [encNum_more _ hbig, e1, e2]
          have e : UInt8.ofNat b.toNat = b := UInt8.ofNat_toNat
          rw [e]
        refine ⟨V * 128 + b.toNat % 128, ?_, ?_, ?_, fun _ => by omega⟩
        · have ep : 2 ^ (7 * (k + 1)) = 128 * 2 ^ (7 * k) := by rw [show 7 * (k + 1) = 7 * k + 7 from by omega, Nat.pow_add, Nat.mul_comm]
          rw [h1, ep, Nat.add_mul, Nat.mul_assoc V 128, Nat.add_assoc, Nat.add_comm (b.toNat % 128 * 2 ^ (7 * k))]
        · rw [h2, e3, List.length_cons]; omega
        · rw [e3]
          obtain ⟨r, hr⟩ := h3
          exact ⟨r, by rw [← hr]; rfl⟩
theorem unfold_inj {U V : Nat} (h : unfold U = unfold V) : U = V := by
  unfold unfold at h
  split at h <;> split at h <;> omega
/-- The bytes of the id stand in front of a body exactly where its first number is the id. -/
theorem front_is (t : ByteArray) (id : Int) (h0 : 0 ≤ id) (h1 : id ≤ 2000000) : (encNum (foldNum id) <+: t.data.toList) ↔ ((num1 t).1 = 0 ∧ unfold (num1 t).2.1 = id) := by
  constructor
  · rintro ⟨r, hr⟩
    unfold num1 decAt
    rw [List.drop_zero, ← hr, dec_whole _ _ (foldNum_small id h0 h1)]
    exact ⟨rfl, unfold_fold id⟩
  · rintro ⟨h2, h3⟩
    unfold num1 decAt at h2 h3
    rw [List.drop_zero] at h2 h3
    have hx : ∀ x, dec 0 0 t.data.toList = x → x.1 = 0 → unfold x.2.1 = id → encNum (foldNum id) <+: t.data.toList := by
      rintro ⟨a, U, m⟩ hd ha hu
      obtain rfl : a = 0 := ha
      obtain ⟨V, e, _, hp, _⟩ := dec_front _ _ _ _ _ hd
      have e' : U = V := by simpa using e
      have e2 : V = foldNum id := unfold_inj (by rw [unfold_fold, ← e']; exact hu)
      rw [← e2]; exact hp
    exact hx _ rfl h2 h3
end Go.Proofs.YtconcnndghmdfaaGreatDoor
namespace Go.Proofs.YtconcnndghmdfaaGreatDoor
open Go.RowKit
theorem inFront_list (s p : ByteArray) : inFront s p ↔ p.data.toList <+: s.data.toList := by
  have hp : p.data.toList.length = p.size := rfl
  have hs : s.data.toList.length = s.size := rfl
  constructor
  · rintro ⟨h1, h2⟩
    refine ⟨s.data.toList.drop p.size, ?_⟩
    have e : p.data.toList = s.data.toList.take p.size := by
      have := congrArg (fun x : ByteArray => x.data.toList) h2
      simp only [data_take] at this
      exact this.symm
    rw [e]
    exact List.take_append_drop _ _
  · rintro ⟨r, hr⟩
    refine ⟨by rw [← hs, ← hr, List.length_append]; omega, ?_⟩
    apply ByteArray.ext
    rw [← Array.toList_inj, data_take, ← hr, ← hp]
    exact List.take_left
theorem numB_list (n : Int) : (numB n).data.toList = encNum (foldNum n) := by unfold numB; simp
/-- The id stands in front: the place behind it, and what is read there. -/
theorem front_yes (t : ByteArray) (id : Int) (h0 : 0 ≤ id) (h1 : id ≤ 2000000) (h : inFront t (numB id)) :
    (num1 t).1 = 0 ∧ unfold (num1 t).2.1 = id ∧ (num1 t).2.2 = (numB id).size ∧ decAt (cutT t (numB id)) 0 = num2 t ∧ cutT t (numB id) = t.extract (numB id).size t.size := by
  have hc : cutT t (numB id) = t.extract (numB id).size t.size := if_pos h
  have hl : (numB id).size = (encNum (foldNum id)).length := by unfold numB; exact size_mk _
  obtain ⟨r, hr⟩ := (inFront_list _ _).1 h
  rw [numB_list] at hr
  have hn : num1 t = (0, foldNum id, (encNum (foldNum id)).length) := by
    unfold num1 decAt
    rw [List.drop_zero, ← hr]
    exact dec_whole _ _ (foldNum_small id h0 h1)
  refine ⟨by rw [hn], by rw [hn]; exact unfold_fold id, by rw [hn, hl], ?_, hc⟩
  unfold num2
  rw [hn, hc, hl]
  unfold decAt
  rw [ext_list', List.drop_zero]
theorem front_no (t : ByteArray) (id : Int) (h0 : 0 ≤ id) (h1 : id ≤ 2000000) (h : ¬ inFront t (numB id)) : ¬ headOk t id := by
  intro hk
  refine h ((inFront_list _ _).2 ?_)
  rw [numB_list]
  exact (front_is t id h0 h1).2 ⟨hk.1, hk.2.2.1⟩
theorem rest_cut (t : ByteArray) (p m : Nat) : (t.extract p t.size).extract m (t.extract p t.size).size = t.extract (p + m) t.size := by
  apply ByteArray.ext
  rw [← Array.toList_inj, ext_list', ext_list', ext_list', List.drop_drop]
end Go.Proofs.YtconcnndghmdfaaGreatDoor
namespace Go.Proofs.YtconcnndghmdfaaGreatDoor
open Go.RowKit Go
theorem Tab.alloc {w : World} (h : Tab w) (o : Obj) : Tab (w.alloc o) := h.below ((Below.refl w.heap.size w).alloc (Nat.le_refl _) o) h.lt
theorem Tab.low {w w' : World} (h : Tab w) (hb : Below w.heap.size w w') : Tab w' := h.below hb h.lt
theorem imp_macT (M body : ByteArray) (w : World) (hM : M.size ≤ 20000) (hb : body.size ≤ 20000) (htab : Tab w) :
    Calls Tryz.prog 73 #[.string M, .string body] w fun e w' => e = .returned (.string (macT M body)) ∧ Below w.heap.size w w' := by
  have h := impl_mac M body w htab htab.lt
  rw [show macS M body = macT M body from if_pos ⟨hM, hb⟩] at h
  exact h
end Go.Proofs.YtconcnndghmdfaaGreatDoor
namespace Go.Proofs.YtconcnndghmdfaaGreatDoor
open Go.RowKit Go
set_option maxRecDepth 100000 in
set_option maxHeartbeats 800000 in
theorem imp_macOf (H M body : ByteArray) (w : World) (hM : M.size ≤ 20000) (hb : body.size ≤ 20000) (htab : Tab w) :
    Calls Tryz.prog 48 #[.agg #[.string H, .string M], .string body] w fun e w' => e = .returned (.string (take16 (macT M body))) ∧ Below w.heap.size w w' := by
  have HX := macT_size M body
  have S := hide (imp_macT M body (w.alloc (.cells #[.string H, .string M] 24)) hM hb (htab.alloc _))
  have E := hide (show take16 (macT M body) = (macT M body).extract 0 16 from rfl)
  have hsl : ∀ W : World, (Instr.slice 9 (.string (macT M body)) none (some (.int .i64 16)) none).run Tryz.prog W = .ok (.string ((macT M body).extract 0 16)) W := fun W => run_front (P := Tryz.prog) W 9 (macT M body) 16 Tryz.underlying9 (by rw [HX]; decide)
  have hX' : (16 : Int) ≤ ((macT M body).size : Int) := by rw [HX]; decide
  have q0 := hide ((Below.refl w.heap.size w).alloc (Nat.le_refl _) (.cells #[.string H, .string M] 24))
  generalize macT M body = X at *
  clear HX htab hM hb
  go_enter Tryz.func48, Tryz.ntmps48
  go_wp2_with fail
  refine S.out.mono ?_
  rintro e w1 ⟨rfl, hb1⟩
  have HB := hide (q0.out.trans (hb1.mono (by simp)))
  clear hb1 S
  go_wp2_with fail
  go_ret
  exact ⟨by rw [E.out]; first | done | rfl, HB.out⟩
theorem cat_three (a b c : ByteArray) : (⟨(catB [a, b, c]).toArray⟩ : ByteArray) = a ++ b ++ c := by
  apply ByteArray.ext; simp [catB]
set_option maxRecDepth 100000 in
set_option maxHeartbeats 800000 in
theorem imp_sealed (H M a b c : ByteArray) (B : Nat) (w : World) (hM : M.size ≤ 20000) (hs : (a ++ b ++ c).size ≤ 20000) (htab : Tab w) (hc : w.heap[B]? = some (.cells #[.string a, .string b, .string c] 9 (0, 0))) :
    Calls Tryz.prog 27 #[.agg #[.string H, .string M], .slice (some ⟨B, 0, none⟩) 3 3] w fun e w' => e = .returned (.string (a ++ b ++ c ++ take16 (macT M (a ++ b ++ c)))) ∧ Below w.heap.size w w' := by
  have hB : B < w.heap.size := (Array.getElem?_eq_some_iff.1 hc).1
  have hl : (catB [a, b, c]).length ≤ 1099511627776 := by
    have e : (⟨(catB [a, b, c]).toArray⟩ : ByteArray).size = (catB [a, b, c]).length := size_mk _
    rw [cat_three] at e
    omega
  have hw : ∀ W, Below w.heap.size w W → W.heap[B]? = some (.cells #[.string a, .string b, .string c] 9 (0, 0)) := fun W h => (h.block B hB).trans hc
  have q0 := (Below.refl w.heap.size w).alloc (Nat.le_refl _) (.cells #[.string H, .string M] 24)
  have S1 := joined_any B [a, b, c] (w.alloc (.cells #[.string H, .string M] 24)) (fun j hj => by
    have h := hw _ q0
    match j, hj with
    | 0, _ => simp [World.cell?, h]
    | 1, _ => simp [World.cell?, h]
    | 2, _ => simp [World.cell?, h]) (by simp; omega) (by simp) hl
  rw [cat_three] at S1
  generalize a ++ b ++ c = T at *
  have S1 : Calls Tryz.prog 47 #[.slice (some ⟨B, 0, none⟩) 3 3] (w.alloc (.cells #[.string H, .string M] 24)) fun e w' => e = .returned (.string T) ∧ Below (w.alloc (.cells #[.string H, .string M] 24)).heap.size (w.alloc (.cells #[.string H, .string M] 24)) w' := S1
  have S1 := hide S1
  have S2 := hide (fun W (h : Tab W) => imp_macOf H M T W hM hs h)
  have h16 : (take16 (macT M T)).size = 16 := take16_size _ (by rw [macT_size]; decide)
  have S3 := hide (fun W b hb => joined_two T (take16 (macT M T)) W b hb (by omega))
  generalize take16 (macT M T) = X at *
  have HT := hide htab
  have Q0 := hide q0
  clear hw q0 hc hl htab
  go_enter Tryz.func27, Tryz.ntmps27
  go_wp2_with fail
  refine S1.out.mono ?_
  rintro e w1 ⟨rfl, hb1⟩
  simp at hb1
  have c0 := (keys_cells hb1 (Nat.lt_succ_self _) (heap_alloc_new w _)).1
  have c1 := (keys_cells hb1 (Nat.lt_succ_self _) (heap_alloc_new w _)).2.1
  have hB1 : Below w.heap.size w w1 := Q0.out.trans (hb1.mono (Nat.le_succ _))
  have HB := hide hB1
  have HT1 := hide (HT.out.low hB1)
  clear hb1 hB1 S1
  go_wp2_with fail
  refine (S2.out _ HT1.out).mono ?_
  rintro e w2 ⟨rfl, hb2⟩
  have HB2 := hide (HB.out.trans (hb2.mono HB.out.size))
  clear hb2 S2 c0 c1
  go_wp2_with fail
  refine (S3.out w2 _ rfl).mono ?_
  rintro e w3 ⟨rfl, hb3⟩
  have HB3 := hide (HB2.out.trans (hb3.mono HB2.out.size))
  clear hb3 S3
  go_wp2_with fail
  go_ret
  exact ⟨rfl, HB3.out⟩
end Go.Proofs.YtconcnndghmdfaaGreatDoor
namespace Go.Proofs.YtconcnndghmdfaaGreatDoor
open Go.RowKit
/-- Where the keys' block stands, and all that was there before. -/
structure KeyW (w : World) (H M : ByteArray) (w2 : World) : Prop where
  b : Below (w.heap.size + 1) (w.alloc (.cells #[.string H, .string M] 24)) w2
theorem KeyW.size {w w2 : World} {H M : ByteArray} (h : KeyW w H M w2) : w.heap.size + 1 ≤ w2.heap.size := by have := h.b.size; simpa using this
theorem KeyW.call {w w1 w2 : World} {H M : ByteArray} (h : KeyW w H M w1) (hb : Below w1.heap.size w1 w2) : KeyW w H M w2 := ⟨h.b.trans (hb.mono h.size)⟩
theorem KeyW.call' {w w1 w2 : World} {H M : ByteArray} (h : KeyW w H M w1) (hb : Below w1.drew.heap.size w1.drew w2) : KeyW w H M w2 := ⟨h.b.drew.trans (hb.mono h.size)⟩
theorem KeyW.c0 {w w2 : World} {H M : ByteArray} (h : KeyW w H M w2) : w2.cell? ⟨w.heap.size, 0, none⟩ = some (.string H) := (keys_cells h.b (Nat.lt_succ_self _) (heap_alloc_new w _)).1
theorem KeyW.c1 {w w2 : World} {H M : ByteArray} (h : KeyW w H M w2) : w2.cell? ⟨w.heap.size, 1, none⟩ = some (.string M) := (keys_cells h.b (Nat.lt_succ_self _) (heap_alloc_new w _)).2.1
theorem KeyW.alloc {w w1 : World} {H M : ByteArray} (h : KeyW w H M w1) (o : Obj) : KeyW w H M (w1.alloc o) := ⟨h.b.alloc h.size o⟩
theorem KeyW.drew {w w1 : World} {H M : ByteArray} (h : KeyW w H M w1) : KeyW w H M w1.drew := ⟨h.b.drew⟩
theorem KeyW.low {w w2 : World} {H M : ByteArray} (h : KeyW w H M w2) : Below w.heap.size w w2 := ((Below.refl _ _).alloc (Nat.le_refl _) _).trans (h.b.mono (Nat.le_succ _))
theorem KeyW.one {w w1 : World} {H M : ByteArray} (h : Below (w.alloc (.cells #[.string H, .string M] 24)).heap.size (w.alloc (.cells #[.string H, .string M] 24)) w1) : KeyW w H M w1 := ⟨by simpa using h⟩
end Go.Proofs.YtconcnndghmdfaaGreatDoor
namespace Go.Proofs.YtconcnndghmdfaaGreatDoor
open Go.RowKit Go
set_option maxRecDepth 100000 in
set_option maxHeartbeats 1600000 in
theorem imp_body_short (H M b : ByteArray) (w : World) (hs : b.size < 18) :
    Calls Tryz.prog 64 #[.agg #[.string H, .string M], .string b] w fun e w' => e = .panicked [{ v := faultP 4, recovered := false }] ∧ Below w.heap.size w w' := by
  have h' : ¬ 18 ≤ (b.size : Int) := by omega
  have d' : decide (18 ≤ (b.size : Int)) = false := decide_eq_false h'
  have q0 := hide ((Below.refl w.heap.size w).alloc (Nat.le_refl _) (.cells #[.string H, .string M] 24))
  have SD := hide (fun W => imp_demand_no 4 W)
  go_enter Tryz.func64, Tryz.ntmps64
  go_wp2_with fail
  refine (SD.out _).mono ?_
  rintro e w1 ⟨rfl, rfl⟩
  go_wp2_with fail
  exact ⟨rfl, rfl, q0.out⟩
set_option maxRecDepth 100000 in
set_option maxHeartbeats 3200000 in
theorem imp_body (H M b : ByteArray) (w : World) (htab : Tab w) (hM : M.size ≤ 20000) (hs : 18 ≤ b.size) (hb : b.size ≤ 20000) :
    Calls Tryz.prog 64 #[.agg #[.string H, .string M], .string b] w fun e w' => e = (if take16 (macT M (bodyX b)) = tailX b then .returned (.string (bodyX b)) else .panicked [{ v := faultP 10, recovered := false }]) ∧ Below w.heap.size w w' := by
  have h' : 18 ≤ (b.size : Int) := by omega
  have d' : decide (18 ≤ (b.size : Int)) = true := decide_eq_true h'
  obtain ⟨L, hL⟩ : ∃ L, b.size = L + 16 := ⟨b.size - 16, by omega⟩
  have hn : (b.size : Int) - 16 = (L : Int) := by omega
  have hbd : b.extract 0 L = bodyX b := by unfold bodyX; rw [show b.size - 16 = L by omega]
  have htl : b.extract L b.size = tailX b := by unfold tailX; rw [show b.size - 16 = L by omega]
  have hls : (bodyX b).size = L := by rw [bodyX_size]; omega
  have hsl1 : ∀ W : World, (Instr.slice 9 (.string b) none (some (.int .i64 (L : Int))) none).run Tryz.prog W = .ok (.string (bodyX b)) W := fun W => by rw [← hbd]; exact run_front (P := Tryz.prog) W 9 b L Tryz.underlying9 (by omega)
  have hsl2 : ∀ W : World, (Instr.slice 9 (.string b) (some (.int .i64 (L : Int))) none none).run Tryz.prog W = .ok (.string (tailX b)) W := fun W => by rw [← htl]; exact run_back (P := Tryz.prog) W 9 b L Tryz.underlying9 (by omega)
  have SM := hide (fun W (h : Tab W) => imp_macOf H M (bodyX b) W hM (by omega) h)
  have SD := hide (fun W => imp_demand_yes 4 W)
  have SE := hide (fun W => imp_demand_yes 10 W)
  have SN := hide (fun W => imp_demand_no 10 W)
  have HT := hide htab
  have HB0 : KeyW w H M (w.alloc (.cells #[.string H, .string M] 24)) := ⟨Below.refl _ _⟩
  have HB := hide HB0
  have c0 := HB0.c0
  have c1 := HB0.c1
  generalize take16 (macT M (bodyX b)) = X at *
  generalize bodyX b = BD at *
  generalize tailX b = TL at *
  clear hbd htl hls htab HB0 hL
  by_cases hX : X = TL
  · rw [if_pos hX]
    subst hX
    go_enter Tryz.func64, Tryz.ntmps64
    go_wp2_with fail
    refine (SD.out _).mono ?_
    rintro e w1 ⟨rfl, rfl⟩
    go_wp2_with fail
    go_quiet (fail)
    go_wp2_with fail
    refine (SM.out _ (HT.out.low (below_drewN HB.out.low nq))).mono ?_
    rintro e w2 ⟨rfl, hb2⟩
    have HB2 := hide (show KeyW w H M w2 from ⟨(below_drewN HB.out.b nq).trans (hb2.mono HB.out.size)⟩)
    clear hb2
    go_wp2_with fail
    refine (SE.out _).mono ?_
    rintro e w3 ⟨rfl, rfl⟩
    go_wp2_with fail
    go_ret
    exact ⟨rfl, HB2.out.low⟩
  · rw [if_neg hX]
    have hq2 : (X.toList == TL.toList) = false := by rw [list_beq, decide_eq_false hX]
    go_enter Tryz.func64, Tryz.ntmps64
    go_wp2_with fail
    refine (SD.out _).mono ?_
    rintro e w1 ⟨rfl, rfl⟩
    go_wp2_with fail
    go_quiet (fail)
    go_wp2_with fail
    refine (SM.out _ (HT.out.low (below_drewN HB.out.low nq))).mono ?_
    rintro e w2 ⟨rfl, hb2⟩
    have HB2 := hide (show KeyW w H M w2 from ⟨(below_drewN HB.out.b nq).trans (hb2.mono HB.out.size)⟩)
    clear hb2
    go_wp2_with fail
    refine (SN.out _).mono ?_
    rintro e w3 ⟨rfl, rfl⟩
    go_wp2_with fail
    exact ⟨rfl, rfl, HB2.out.low⟩
theorem numRet_at (t : ByteArray) (q : Nat) : (∃ n a : Int, numRet q (decAt t q) = .tuple #[.int .i64 n, .int .i64 a, .nilIface] ∧ (decAt t q).1 = 0 ∧ n = unfold (decAt t q).2.1 ∧ a = ((q + (decAt t q).2.2 : Nat) : Int)) ∨ (∃ c : Int, numRet q (decAt t q) = .tuple #[.int .i64 0, .int .i64 0, faultP c] ∧ ¬ (decAt t q).1 = 0) := by
  rcases decAt_form t q with ⟨U, m, h, hm⟩ | h | h <;> rw [h]
  · refine .inl ⟨unfold U, (q : Int) + m, by rw [numRet_good], rfl, rfl, ?_⟩
    show (q : Int) + (m : Int) = ((q + m : Nat) : Int); omega
  · exact .inr ⟨3, by rw [numRet_bad q 3 (by omega)]; rfl, by simp⟩
  · exact .inr ⟨4, by rw [numRet_bad q 4 (by omega)]; rfl, by simp⟩
set_option maxRecDepth 100000 in
set_option maxHeartbeats 3200000 in
theorem imp_hiddenOf (t : ByteArray) (id : Int) (w : World) (h0 : 0 ≤ id) (h1 : id ≤ 2000000) (ht : t.size ≤ 20000) :
    Calls Tryz.prog 63 #[.string t, .int .i64 id] w fun e w' => e = (if headOk t id then .returned (.tuple #[.int .i64 (farX t), .string (restX t)]) else .panicked [{ v := faultP 5, recovered := false }]) ∧ Below w.heap.size w w' := by
  have SN := hide (show ∀ W : World, Calls Tryz.prog 28 #[.int .i64 id] W fun e w' => e = .returned (.string (numB id)) ∧ Below W.heap.size W w' from fun W => impl_putNum id W (by omega) (by omega))
  have SP := hide (fun W => imp_cutPre t (numB id) W)
  have SD := hide (fun W => imp_demand_yes 5 W)
  have SE := hide (fun W => imp_demand_no 5 W)
  by_cases hf : inFront t (numB id)
  · obtain ⟨k1, k2, k3, k4, k5⟩ := front_yes t id h0 h1 hf
    rw [decide_eq_true hf] at SP
    have hcs : (cutT t (numB id)).size ≤ 20000 := by rw [k5, ByteArray.size_extract]; omega
    have SR0 : ∀ W : World, Calls Tryz.prog 99 #[.string (cutT t (numB id)), .int .i64 0] W fun e w' => e = .returned (numRet 0 (decAt (cutT t (numB id)) 0)) ∧ W = w' := fun W => impl_readNum (cutT t (numB id)) 0 W hcs (by decide)
    rcases numRet_at (cutT t (numB id)) 0 with ⟨n, a, e1, e2, e3, e4⟩ | ⟨c, e1, e2⟩
    · rw [e1] at SR0
      rw [k4] at e2 e3 e4
      have hm : fromX t = (numB id).size + (num2 t).2.2 := by unfold fromX; rw [k3]
      have hle := fromX_le t
      have hN : (numB id).size ≤ t.size := hf.1
      have hrx : (cutT t (numB id)).extract (num2 t).2.2 (cutT t (numB id)).size = restX t := by
        rw [k5, rest_cut, ← hm]; rfl
      have hsl : ∀ W : World, (Instr.slice 9 (.string (cutT t (numB id))) (some (.int .i64 a)) none none).run Tryz.prog W = .ok (.string (restX t)) W := fun W => by
        rw [e4, Nat.zero_add, ← hrx]; exact run_back (P := Tryz.prog) W 9 _ _ Tryz.underlying9 (by rw [k5, ByteArray.size_extract]; omega)
      have hfar : farX t = n := e3.symm
      have hok : headOk t id ↔ (0 ≤ n ∧ n ≤ 256) := by
        unfold headOk
        rw [← e3]
        exact ⟨fun h => ⟨h.2.2.2.1, h.2.2.2.2⟩, fun h => ⟨k1, e2, k2, h.1, h.2⟩⟩
      have SR := hide SR0
      clear SR0 e1 e2 e3 e4 hm hle hN hrx hcs k1 k2 k3 k4 k5 hf
      rw [hfar]
      generalize restX t = RX at *
      generalize cutT t (numB id) = CT at *
      by_cases hr : 0 ≤ n ∧ n ≤ 256
      · rw [if_pos (hok.2 hr)]
        have SF := hide (fun W => by have h := imp_farRight n W; rw [show farOk10 n = true by unfold farOk10; simp; exact hr] at h; exact h)
        clear hok hr hfar
        go_enter Tryz.func63, Tryz.ntmps63
        go_wp2_with fail
        refine (SN.out _).mono ?_
        rintro e w1 ⟨rfl, hb1⟩
        go_wp2_with fail
        refine (SP.out _).mono ?_
        rintro e w2 ⟨rfl, rfl⟩
        go_wp2_with fail
        refine (SD.out _).mono ?_
        rintro e w3 ⟨rfl, rfl⟩
        go_wp2_with fail
        refine (SR.out _).mono ?_
        rintro e w4 ⟨rfl, rfl⟩
        go_wp2_with fail
        refine (SF.out _).mono ?_
        rintro e w5 ⟨rfl, hb5⟩
        have HB := hide (hb1.trans (hb5.mono hb1.size))
        clear hb1 hb5
        go_wp2_with fail
        refine (SD.out _).mono ?_
        rintro e w6 ⟨rfl, rfl⟩
        go_wp2_with fail
        go_quiet (fail)
        go_wp2_with fail
        go_ret2
        exact ⟨rfl, below_drewN HB.out _⟩
      · rw [if_neg (fun h => hr (hok.1 h))]
        have SF := hide (fun W => by have h := imp_farRight n W; rw [show farOk10 n = false from Bool.eq_false_iff.2 (fun h => hr (by unfold farOk10 at h; simpa using h))] at h; exact h)
        clear hok hr hfar
        go_enter Tryz.func63, Tryz.ntmps63
        go_wp2_with fail
        refine (SN.out _).mono ?_
        rintro e w1 ⟨rfl, hb1⟩
        go_wp2_with fail
        refine (SP.out _).mono ?_
        rintro e w2 ⟨rfl, rfl⟩
        go_wp2_with fail
        refine (SD.out _).mono ?_
        rintro e w3 ⟨rfl, rfl⟩
        go_wp2_with fail
        refine (SR.out _).mono ?_
        rintro e w4 ⟨rfl, rfl⟩
        go_wp2_with fail
        refine (SF.out _).mono ?_
        rintro e w5 ⟨rfl, hb5⟩
        have HB := hide (hb1.trans (hb5.mono hb1.size))
        clear hb1 hb5
        go_wp2_with fail
        refine (SE.out _).mono ?_
        rintro e w6 ⟨rfl, rfl⟩
        go_wp2_with fail
        exact ⟨rfl, rfl, HB.out⟩
    · rw [e1] at SR0
      rw [k4] at e2
      rw [if_neg (fun h => e2 h.2.1)]
      have SR := hide SR0
      clear SR0 e1 e2 k1 k2 k3 k4 k5 hf hcs
      unfold faultP at SR
      generalize cutT t (numB id) = CT at *
      go_enter Tryz.func63, Tryz.ntmps63
      go_wp2_with fail
      refine (SN.out _).mono ?_
      rintro e w1 ⟨rfl, hb1⟩
      go_wp2_with fail
      refine (SP.out _).mono ?_
      rintro e w2 ⟨rfl, rfl⟩
      go_wp2_with fail
      refine (SD.out _).mono ?_
      rintro e w3 ⟨rfl, rfl⟩
      go_wp2_with fail
      refine (SR.out _).mono ?_
      rintro e w4 ⟨rfl, rfl⟩
      go_wp2_with fail
      refine (SE.out _).mono ?_
      rintro e w6 ⟨rfl, rfl⟩
      go_wp2_with fail
      exact ⟨rfl, rfl, hb1⟩
  · rw [if_neg (front_no t id h0 h1 hf)]
    rw [decide_eq_false hf] at SP
    clear hf
    generalize cutT t (numB id) = CT at *
    go_enter Tryz.func63, Tryz.ntmps63
    go_wp2_with fail
    refine (SN.out _).mono ?_
    rintro e w1 ⟨rfl, hb1⟩
    go_wp2_with fail
    refine (SP.out _).mono ?_
    rintro e w2 ⟨rfl, rfl⟩
    go_wp2_with fail
    refine (SE.out _).mono ?_
    rintro e w3 ⟨rfl, rfl⟩
    go_wp2_with fail
    exact ⟨rfl, rfl, hb1⟩
end Go.Proofs.YtconcnndghmdfaaGreatDoor
namespace Go.Proofs.YtconcnndghmdfaaGreatDoor
open Go.RowKit
set_option maxRecDepth 100000 in
theorem imp_keysRight (H M : ByteArray) (w : World) :
    Calls Tryz.prog 23 #[.agg #[.string H, .string M]] w fun e w' => e = .returned (.bool (keysOk (H, M))) ∧ Below w.heap.size w w' := by
  have q0 := hide ((Below.refl w.heap.size w).alloc (Nat.le_refl _) (.cells #[.string H, .string M] 24))
  have R := hide (show keysOk (H, M) = (decide (H.size = 16) && decide (M.size = 32)) from rfl)
  by_cases h1 : H.size = 16
  · have h1' : (H.size : Int) = 16 := by omega
    by_cases h2 : M.size = 32
    · have h2' : (M.size : Int) = 32 := by omega
      have R2 := hide (show keysOk (H, M) = true by rw [R.out, decide_eq_true h1, decide_eq_true h2, Bool.and_self])
      go_enter Tryz.func23, Tryz.ntmps23
      go_wp2_with fail
      go_ret
      exact ⟨by rw [R2.out]; rfl, q0.out⟩
    · have h2' : ((M.size : Int) == 32) = false := beq_eq_false_iff_ne.2 (by omega)
      have R2 := hide (show keysOk (H, M) = false by rw [R.out, decide_eq_true h1, decide_eq_false h2, Bool.true_and])
      go_enter Tryz.func23, Tryz.ntmps23
      go_wp2_with fail
      go_ret
      exact ⟨by rw [R2.out]; rfl, q0.out⟩
  · have h1' : ((H.size : Int) == 16) = false := beq_eq_false_iff_ne.2 (by omega)
    have R2 := hide (show keysOk (H, M) = false by rw [R.out, decide_eq_false h1, Bool.false_and])
    go_enter Tryz.func23, Tryz.ntmps23
    go_wp2_with fail
    go_ret
    exact ⟨by rw [R2.out]; rfl, q0.out⟩
end Go.Proofs.YtconcnndghmdfaaGreatDoor
