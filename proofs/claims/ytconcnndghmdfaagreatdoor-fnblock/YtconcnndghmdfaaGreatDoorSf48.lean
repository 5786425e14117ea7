/- Put together: SealM, FbM, SealK, DrawKy. -/
import Derived.Test.YtconcnndghmdfaaGreatDoorSf20
import Derived.Test.YtconcnndghmdfaaGreatDoorSf47
namespace Go.Proofs.YtconcnndghmdfaaGreatDoor
open Go.RowKit
theorem foldNum_small (n : Int) (h0 : 0 ≤ n) (h1 : n ≤ 2000000) : foldNum n < 18446744073709551616 := by
 unfold foldNum; rw [if_neg (by omega)]; show (2 * n).toNat < _; omega
theorem ext_append (a b : ByteArray) : (a ++ b).extract 0 a.size = a := by
 apply ByteArray.ext; rw [← Array.toList_inj, data_take]; simp
theorem ext_append' (a b : ByteArray) : (a ++ b).extract a.size (a ++ b).size = b := by
 apply ByteArray.ext; rw [← Array.toList_inj, ext_list']; simp
theorem body_seal (k : ByteArray × ByteArray) (id far : Int) (t : ByteArray) : bodyX (sealB k id far t) = sealT k id far t ∧ tailX (sealB k id far t) = take16 (macT k.2 (sealT k id far t)) := by
 have h16 : (take16 (macT k.2 (sealT k id far t))).size = 16 := take16_size _ (by rw [macT_size]; decide)
 have hs : (sealB k id far t).size - 16 = (sealT k id far t).size := by unfold sealB; rw [ByteArray.size_append, h16]; omega
 unfold bodyX tailX
 rw [hs]
 exact ⟨ext_append _ _, ext_append' _ _⟩
theorem sealT_list (k : ByteArray × ByteArray) (id far : Int) (t : ByteArray) : (sealT k id far t).data.toList = encNum (foldNum id) ++ (encNum (foldNum far) ++ (hidB k.1 id.toNat (packB (difB t far))).data.toList) := by
 unfold sealT numB; simp
theorem num1_seal (k : ByteArray × ByteArray) (id far : Int) (t : ByteArray) (h0 : 0 ≤ id) (h1 : id ≤ 2000000) : num1 (sealT k id far t) = (0, foldNum id, (encNum (foldNum id)).length) := by
 unfold num1 decAt
 rw [List.drop_zero, sealT_list]
 exact dec_whole _ _ (foldNum_small id h0 h1)
theorem num2_seal (k : ByteArray × ByteArray) (id far : Int) (t : ByteArray) (h0 : 0 ≤ id) (h1 : id ≤ 2000000) (h2 : 0 ≤ far) (h3 : far ≤ 256) : num2 (sealT k id far t) = (0, foldNum far, (encNum (foldNum far)).length) := by
 unfold num2
 rw [num1_seal k id far t h0 h1]
 unfold decAt
 rw [sealT_list, List.drop_left]
 exact dec_whole _ _ (foldNum_small far h2 (by omega))
theorem rest_seal (k : ByteArray × ByteArray) (id far : Int) (t : ByteArray) (h0 : 0 ≤ id) (h1 : id ≤ 2000000) (h2 : 0 ≤ far) (h3 : far ≤ 256) : restX (sealT k id far t) = hidB k.1 id.toNat (packB (difB t far)) := by
 unfold restX fromX
 rw [num1_seal k id far t h0 h1, num2_seal k id far t h0 h1 h2 h3]
 apply ByteArray.ext
 rw [← Array.toList_inj, ext_list', sealT_list, ← List.drop_drop, List.drop_left, List.drop_left]
theorem hid_twice (key : ByteArray) (n : Nat) (t : ByteArray) (h1 : key.size = 16) (h3 : t.size ≤ 20000) : hidB key n (hidB key n t) = t := by
 have e : ∀ u : ByteArray, u.size ≤ 20000 → hidB key n u = ctrS key (n : Int) u := fun u hu => (ctrS_yes key n u h1 (by omega) hu).symm
 have hs : (hidB key n t).size ≤ 20000 := by rw [hidB_size]; exact h3
 rw [e _ hs, e _ h3]
 exact ctrS_twice key n t h1 (by omega) h3
theorem sum_difB (t : ByteArray) (far : Int) : sumB (difB t far) far = t := by
 unfold sumB
 by_cases hf : 0 < far
 · rw [if_pos hf, difB_size]
   exact mkB_self t rfl (fun j hj => sum_dif (bF t) _ t.size far.toNat (by omega) (fun i hi => by
    unfold difB; rw [if_pos hf]; exact mkB_at t.size _ i hi) j hj)
 · rw [if_neg hf]; unfold difB; rw [if_neg hf]
theorem seal_long (k : ByteArray × ByteArray) (id far : Int) (t : ByteArray) (h0 : 0 ≤ id) (h1 : id ≤ 2000000) (h2 : 0 ≤ far) (h3 : far ≤ 256) (ht : t.size ≤ 4000) : 18 ≤ (sealB k id far t).size ∧ (sealB k id far t).size ≤ 17030 := by
 have h16 : (take16 (macT k.2 (sealT k id far t))).size = 16 := take16_size _ (by rw [macT_size]; decide)
 have hs : (sealB k id far t).size = (sealT k id far t).size + 16 := by unfold sealB; rw [ByteArray.size_append, h16]
 have hT := sealT_size k id far t h0 h1 h2 h3 ht
 have hl : (sealT k id far t).size = (encNum (foldNum id) ++ (encNum (foldNum far) ++ (hidB k.1 id.toNat (packB (difB t far))).data.toList)).length := by rw [← sealT_list]; rfl
 rw [List.length_append, List.length_append] at hl
 have a := List.length_pos_iff.2 (encNum_ne (foldNum id))
 have b := List.length_pos_iff.2 (encNum_ne (foldNum far))
 omega
theorem openT_id (k : ByteArray × ByteArray) (id far other : Int) (t : ByteArray) (h0 : 0 ≤ id) (h1 : id ≤ 2000000) (h2 : 0 ≤ far) (h3 : far ≤ 256) (ht : t.size ≤ 4000) (ho : ¬ other = id) : openT k other (sealB k id far t) = (⟨#[]⟩, 5) := by
 have hl := seal_long k id far t h0 h1 h2 h3 ht
 obtain ⟨e1, e2⟩ := body_seal k id far t
 unfold openT
 rw [if_neg (by omega), e1, e2, if_neg (by simp), if_pos]
 intro h
 have := h.2.2.1
 rw [num1_seal k id far t h0 h1] at this
 exact ho (this.symm.trans (unfold_fold id))
theorem openT_back (k : ByteArray × ByteArray) (id far : Int) (t : ByteArray) (hk : k.1.size = 16) (h0 : 0 ≤ id) (h1 : id ≤ 2000000) (h2 : 0 ≤ far) (h3 : far ≤ 256) (ht : t.size ≤ 4000) : openT k id (sealB k id far t) = (t, 0) := by
 have hl := seal_long k id far t h0 h1 h2 h3 ht
 obtain ⟨e1, e2⟩ := body_seal k id far t
 have hp := packB_few (difB t far) (by rw [difB_size]; exact ht)
 have hs : shownX k id (sealT k id far t) = (difB t far, 0) := by
  unfold shownX
  rw [rest_seal k id far t h0 h1 h2 h3, hid_twice k.1 id.toNat _ hk (by omega)]
  exact unpack_pack _ (by rw [difB_size]; exact ht) (by omega)
 have hd : headOk (sealT k id far t) id := by
  unfold headOk
  rw [num1_seal k id far t h0 h1, num2_seal k id far t h0 h1 h2 h3]
  refine ⟨rfl, rfl, unfold_fold id, ?_, ?_⟩
  · show 0 ≤ unfold (foldNum far); rw [unfold_fold]; exact h2
  · show unfold (foldNum far) ≤ 256; rw [unfold_fold]; exact h3
 have hf : farX (sealT k id far t) = far := by
  unfold farX; rw [num2_seal k id far t h0 h1 h2 h3]; exact unfold_fold far
 unfold openT
 rw [if_neg (by omega), e1, e2, if_neg (by simp), if_neg (by simpa using hd), hs, if_neg (by simp), hf]
 show (sumB (difB t far) far, (0 : Int)) = (t, 0)
 rw [sum_difB]
theorem openT_turned (k : ByteArray × ByteArray) (id : Int) (c : ByteArray) (hs : 18 ≤ c.size) (h : ¬ take16 (macT k.2 (bodyX c)) = tailX c) : openT k id c = (⟨#[]⟩, 10) := by
 unfold openT
 rw [if_neg (by omega), if_pos h]
theorem dec_front (l : List UInt8) : ∀ k u U m, dec k u l = (0, U, m) → ∃ V, U = u + V * 2 ^ (7 * k) ∧ m = k + (encNum V).length ∧ (encNum V) <+: l ∧ (0 < k → 0 < V) := by
 induction l with
 | nil => intro k u U m h; cases h
 | cons b l ih =>
   intro k u U m h
   rw [dec] at h
   split at h
   · cases h
   · split at h
     · rename_i hb
       split at h
       · cases h
       · rename_i h0
         obtain ⟨rfl, rfl⟩ : u + b.toNat % 128 * 2 ^ (7 * k) = U ∧ k + 1 = m := by
          injection h with h1 h2; injection h2 with h2 h3; exact ⟨h2, h3⟩
         refine ⟨b.toNat, by rw [Nat.mod_eq_of_lt hb], ?_, ?_, fun hk => by omega⟩
         · rw [encNum_last _ hb]; rfl
         · rw [encNum_last _ hb]
           have e : UInt8.ofNat b.toNat = b := UInt8.ofNat_toNat
           rw [e]
           exact ⟨l, rfl⟩
     · rename_i hb
       obtain ⟨V, h1, h2, h3, h4⟩ := ih _ _ _ _ h
       have hbl : b.toNat < 256 := b.toNat_lt
       have hV := h4 (by omega)
       have hbig : ¬ V * 128 + b.toNat % 128 < 128 := by omega
       have e1 : (V * 128 + b.toNat % 128) / 128 = V := by omega
       have e2 : (V * 128 + b.toNat % 128) % 128 + 128 = b.toNat := by omega
       have e3 : encNum (V * 128 + b.toNat % 128) = b :: encNum V := by
        rw [encNum_more _ hbig, e1, e2]
        have e : UInt8.ofNat b.toNat = b := UInt8.ofNat_toNat
        rw [e]
       refine ⟨V * 128 + b.toNat % 128, ?_, ?_, ?_, fun _ => by omega⟩
       · have ep : 2 ^ (7 * (k + 1)) = 128 * 2 ^ (7 * k) := by rw [show 7 * (k + 1) = 7 * k + 7 from by omega, Nat.pow_add, Nat.mul_comm]
         rw [h1, ep, Nat.add_mul, Nat.mul_assoc V 128, Nat.add_assoc, Nat.add_comm (b.toNat % 128 * 2 ^ (7 * k))]
       · rw [h2, e3, List.length_cons]; omega
       · rw [e3]
         obtain ⟨r, hr⟩ := h3
         exact ⟨r, by rw [← hr]; rfl⟩
theorem unfold_inj {U V : Nat} (h : unfold U = unfold V) : U = V := by
 unfold unfold at h
 split at h <;> split at h <;> omega
theorem front_is (t : ByteArray) (id : Int) (h0 : 0 ≤ id) (h1 : id ≤ 2000000) : (encNum (foldNum id) <+: t.data.toList) ↔ ((num1 t).1 = 0 ∧ unfold (num1 t).2.1 = id) := by
 constructor
 · rintro ⟨r, hr⟩
   unfold num1 decAt
   rw [List.drop_zero, ← hr, dec_whole _ _ (foldNum_small id h0 h1)]
   exact ⟨rfl, unfold_fold id⟩
 · rintro ⟨h2, h3⟩
   unfold num1 decAt at h2 h3
   rw [List.drop_zero] at h2 h3
   have hx : ∀ x, dec 0 0 t.data.toList = x → x.1 = 0 → unfold x.2.1 = id → encNum (foldNum id) <+: t.data.toList := by
    rintro ⟨a, U, m⟩ hd ha hu
    obtain rfl : a = 0 := ha
    obtain ⟨V, e, _, hp, _⟩ := dec_front _ _ _ _ _ hd
    have e' : U = V := by simpa using e
    have e2 : V = foldNum id := unfold_inj (by rw [unfold_fold, ← e']; exact hu)
    rw [← e2]; exact hp
   exact hx _ rfl h2 h3
end Go.Proofs.YtconcnndghmdfaaGreatDoor
namespace Go.Proofs.YtconcnndghmdfaaGreatDoor
open Go Go.RowKit
theorem BytesIn.lowB {w w' : World} {a : Option Addr} {len : Nat} (h : BytesIn w w.heap.size a len) (hb : Below w.heap.size w w') : BytesIn w' w'.heap.size a len := by
 rcases h.below hb (Nat.le_refl _) with h1 | ⟨b, off, rfl, h2, h3⟩
 · exact .inl h1
 · exact .inr ⟨b, off, rfl, Nat.lt_of_lt_of_le h2 hb.size, h3⟩
structure FbR (w : World) (k : Nat) (H M : ByteArray) (wx : World) : Prop where
 f : Below w.heap.size w wx
 q : wx.heap[k]? = some (.cells #[.string H, .string M] 24 (0, 0))
 kl : w.heap.size ≤ k
namespace FbR
variable {w wx wy : World} {k : Nat} {H M : ByteArray}
theorem one (h : Below w.heap.size w wx) : FbR w wx.heap.size H M (wx.alloc (.cells #[.string H, .string M] 24)) := ⟨h.alloc h.size _, heap_alloc_new wx _, h.size⟩
theorem lt (h : FbR w k H M wx) : k < wx.heap.size := (Array.getElem?_eq_some_iff.1 h.q).1
theorem call (h : FbR w k H M wx) (hb : Below wx.heap.size wx wy) : FbR w k H M wy := ⟨h.f.trans (hb.mono h.f.size), (hb.block k h.lt).trans h.q, h.kl⟩
theorem call' (h : FbR w k H M wx) (hb : Below wx.drew.heap.size wx.drew wy) : FbR w k H M wy := ⟨h.f.drew.trans (hb.mono h.f.size), (hb.block k h.lt).trans h.q, h.kl⟩
theorem alloc (h : FbR w k H M wx) (o : Obj) : FbR w k H M (wx.alloc o) := h.call ((Below.refl wx.heap.size wx).alloc (Nat.le_refl _) o)
theorem drew (h : FbR w k H M wx) : FbR w k H M wx.drew := h.call (Below.refl wx.heap.size wx).drew
theorem set (h : FbR w k H M wx) {z i : Nat} (hz : k < z) (v : Value) : FbR w k H M (wx.setCell ⟨z, i, none⟩ v) :=
 ⟨h.f.setCell (p := ⟨z, i, none⟩) (Nat.le_trans h.kl (Nat.le_of_lt hz)) v, (Below.heap_setCell _ _ _ _ (by show k ≠ z; omega)).trans h.q, h.kl⟩
theorem c0 (h : FbR w k H M wx) : wx.cell? ⟨k, 0, none⟩ = some (.string H) := by simp [World.cell?, h.q]
theorem c1 (h : FbR w k H M wx) : wx.cell? ⟨k, 1, none⟩ = some (.string M) := by simp [World.cell?, h.q]
end FbR
theorem conv_at {P : Program} {w : World} {g e src dst cap n m o : Nat} {f : Nat → UInt8} (h : rowC w g n f) (hm : o + m ≤ n) (hs : P.underlying src = some (.slice e)) (he : P.underlying e = some (.int .u8)) (hd : P.underlying dst = some .string) :
 (convert src dst (.slice (some ⟨g, o, none⟩) m cap)).run P w = .ok (.string (mkB m fun j => f (o + j))) w := by
 have hl : ((List.range m).map fun j => f (o + j)).length = m := by simp
 have h1 := run_convert_bytes_back (P := P) w src dst e ⟨g, o, none⟩ cap ((List.range m).map fun j => f (o + j)) hs he hd (fun j hj => by
  rw [hl] at hj
  have e1 : (⟨g, o, none⟩ : Addr).add j = ⟨g, o + j, none⟩ := by by_cases hz : j = 0 <;> simp [Addr.add, hz]
  rw [e1, (h.2 (o + j) (by omega)).1]
  simp)
 rw [hl] at h1
 exact h1
theorem mk_body (n : Nat) (f : Nat → UInt8) (h : 16 ≤ n) : bodyX (mkB n f) = mkB (n - 16) fun j => f (0 + j) := by
 unfold bodyX
 rw [mkB_size]
 apply ByteArray.ext
 rw [← Array.toList_inj, data_take]
 show ((List.range n).map f).toArray.toList.take (n - 16) = ((List.range (n - 16)).map fun j => f (0 + j)).toArray.toList
 rw [List.toList_toArray, List.toList_toArray, ← List.map_take, List.take_range, Nat.min_eq_left (by omega)]
 simp
theorem mk_tail (n : Nat) (f : Nat → UInt8) (h : 16 ≤ n) : tailX (mkB n f) = mkB 16 fun j => f (n - 16 + j) := by
 have hs := mkB_size n f
 unfold tailX
 apply ByteArray.ext
 rw [← Array.toList_inj, ext_list', hs]
 show ((List.range n).map f).toArray.toList.drop (n - 16) = ((List.range 16).map fun j => f (n - 16 + j)).toArray.toList
 rw [List.toList_toArray, List.toList_toArray]
 apply List.ext_getElem?
 intro j
 rw [List.getElem?_drop, List.getElem?_map, List.getElem?_map]
 by_cases hj : j < 16
 · rw [List.getElem?_range (by omega), List.getElem?_range hj]; rfl
 · rw [List.getElem?_eq_none (by simp; omega), List.getElem?_eq_none (by simp; omega)]; rfl
theorem mk_all (n : Nat) (f : Nat → UInt8) : (mkB n fun j => f (0 + j)) = mkB n f := by
 unfold mkB; simp
theorem xor8_any (a : UInt8) (x : Nat) (hx : x < 256) : ∃ Y : UInt8, bits .xor .u8 (a.toNat : Int) (x : Int) = (Y.toNat : Int) := by
 refine ⟨a ^^^ UInt8.ofNat x, ?_⟩
 have h := r_xor8 a (UInt8.ofNat x)
 have e : (UInt8.ofNat x).toNat = x := by rw [UInt8.toNat_ofNat']; omega
 rw [e] at h
 exact h
theorem wrap_turn (x : Nat) (h : x < 255) : IntKind.u8.wrap (IntKind.i64.wrap (1 + (x : Int))) = ((x + 1 : Nat) : Int) := by rw [IntKind.wrap_i64, IntKind.wrap_u8]; omega
theorem wrap_next (id : Int) (h0 : 0 ≤ id) (h1 : id ≤ 2000000) : IntKind.i64.wrap (id + 1) = id + 1 := by rw [IntKind.wrap_i64]; omega
theorem seal_ne (k : ByteArray × ByteArray) (id far : Int) (t : ByteArray) (h0 : 0 ≤ id) (h1 : id ≤ 2000000) (h2 : 0 ≤ far) (h3 : far ≤ 256) (ht : t.size ≤ 4000) : (sealB k id far t).toList.isEmpty = false := by
 have := (seal_long k id far t h0 h1 h2 h3 ht).1
 rw [ByteArray.toList_eq]
 have hl : (sealB k id far t).data.toList.length = (sealB k id far t).size := rfl
 cases h : (sealB k id far t).data.toList with
 | nil => rw [h] at hl; simp at hl; omega
 | cons _ _ => rfl
end Go.Proofs.YtconcnndghmdfaaGreatDoor
namespace Go.Proofs.YtconcnndghmdfaaGreatDoor
open Go.RowKit
set_option maxRecDepth 100000 in
set_option maxHeartbeats 1600000 in
theorem spec_keys0 (pass : ByteArray) (w : World) :
 Calls Tryz.prog 71 #[.string pass] w fun e w' => e = .returned (keysV (keysT pass)) ∧ Below w.heap.size w w' := by
 have S0 := hide (fun W => spec_stretch pass 3 W)
 have hs := stretchS_size pass 3
 have S1 := hide (fun L W (h : L.size ≤ 20000) => spec_mac (stretchS pass 3) L W (by omega) h)
 have HX := hide (fun L => macT_size (stretchS pass 3) L)
 have E := hide (show keysV (keysT pass) = .agg #[.string ((macT (stretchS pass 3) hideW).extract 0 16), .string (macT (stretchS pass 3) markW)] by unfold keysV keysT take16; rfl)
 generalize macT (stretchS pass 3) = mac at *
 generalize stretchS pass 3 = K at *
 have hsl : ∀ (L : ByteArray) (W : World), (Instr.slice 9 (.string (mac L)) none (some (.int .i64 16)) none).run Tryz.prog W = .ok (.string ((mac L).extract 0 16)) W := fun L W => run_front (P := Tryz.prog) W 9 (mac L) 16 Tryz.underlying9 (by rw [HX.out L]; decide)
 have hX' : ∀ L, (16 : Int) ≤ ((mac L).size : Int) := fun L => by rw [HX.out L]; decide
 clear hs HX
 go_enter Tryz.func71, Tryz.ntmps71
 go_wp2_with fail
 refine (S0.out _).mono ?_
 rintro e w1 ⟨rfl, hb1⟩
 simp at hb1
 have HB := hide hb1
 obtain ⟨c0, c1, hf, _⟩ := keys_cells hb1 (Nat.lt_succ_self _) (heap_alloc_new w _)
 clear S0 hb1
 go_wp2_with fail
 go_region_with (go_at_call 34; refine (S1.out _ _ (by decide)).mono ?_; rintro e w2 ⟨rfl, hb2⟩; have HB := hide (show Below (w.heap.size + 1) (w.alloc (.cells #[.string ⟨#[]⟩, .string ⟨#[]⟩] 24)) w2 by first | exact HB.out.drew.trans (hb2.mono (by have := HB.out.size; simp at this; simp; omega)) | exact HB.out.trans (hb2.mono (by have := HB.out.size; simp at this; omega))); obtain ⟨c0, c1, hf, hq⟩ := keys_cells HB.out (Nat.lt_succ_self _) (heap_alloc_new w _); clear hb2)
 all_goals (
  go_wp2_with fail
  exact bodyPost_ret (results_cell_row Tryz.results71 _ _ w.heap.size 24 #[.string ((mac hideW).extract 0 16), .string (mac markW)] (0, 0) _ rfl (keys_set hq) Tryz.underlying24 rfl (by kernel_rfl)) rfl ⟨by rw [E.out], keys_below HB.out⟩)
set_option maxRecDepth 100000 in
set_option maxHeartbeats 1600000 in
theorem spec_keysOf (pass : ByteArray) (w : World) :
 Calls Tryz.prog 42 #[.string pass] w fun e w' => e = .returned (keysV (keysS pass)) ∧ Below w.heap.size w w' := by
 by_cases h : pass.size ≤ 20000
 · have h' : ¬ (20000 : Int) < (pass.size : Int) := by omega
   have E := hide (show keysS pass = keysT pass from if_pos h)
   have S1 := fun W => spec_keys0 pass W
   unfold keysV at S1
   generalize (keysT pass) = k at *
   obtain ⟨X, Y⟩ := k
   dsimp only at S1
   have S1 := hide S1
   go_enter Tryz.func42, Tryz.ntmps42
   go_wp2_with fail
   refine (S1.out _).mono ?_
   rintro e w1 ⟨rfl, hb1⟩
   simp at hb1
   have HB := hide hb1
   obtain ⟨c0, c1, hf, hq⟩ := keys_cells hb1 (Nat.lt_succ_self _) (heap_alloc_new w _)
   clear S1 hb1
   go_wp2_with fail
   exact bodyPost_ret (results_cell_row Tryz.results42 _ _ w.heap.size 24 #[.string X, .string Y] (0, 0) _ rfl (keys_set hq) Tryz.underlying24 rfl (by kernel_rfl)) rfl ⟨by rw [E.out]; rfl, keys_below HB.out⟩
 · have h' : (20000 : Int) < (pass.size : Int) := by omega
   have E := hide (show keysS pass = (⟨#[]⟩, ⟨#[]⟩) from if_neg h)
   have HB := hide (Below.refl (w.heap.size + 1) (w.alloc (.cells #[.string ⟨#[]⟩, .string ⟨#[]⟩] 24)))
   obtain ⟨c0, c1, hf, hq⟩ := keys_cells HB.out (Nat.lt_succ_self _) (heap_alloc_new w _)
   go_enter Tryz.func42, Tryz.ntmps42
   go_wp2_with fail
   exact bodyPost_ret (results_cell_row Tryz.results42 _ _ w.heap.size 24 #[.string ⟨#[]⟩, .string ⟨#[]⟩] (0, 0) _ rfl hq Tryz.underlying24 rfl (by kernel_rfl)) rfl ⟨by rw [E.out]; rfl, (Below.refl _ _).alloc (Nat.le_refl _) _⟩
end Go.Proofs.YtconcnndghmdfaaGreatDoor
namespace Go.Proofs.YtconcnndghmdfaaGreatDoor
open Go Go.RowKit
theorem row_grown {w w' : World} {g r : Nat} {x : Obj} (h : w.heap[r]? = some x) (hg : w.grownBy w' (some g)) (hn : r ≠ g) : w'.heap[r]? = some x :=
 (hg.block r (Array.getElem?_eq_some_iff.1 h).1 (by simp; omega)).trans h
theorem grown_set {w w1 : World} {r : Option Nat} {z i : Nat} (h1 : w.grownBy w1 r) (hz : w.heap.size ≤ z) (v : Value) : w.grownBy (w1.setCell ⟨z, i, none⟩ v) r :=
 ⟨h1.os, h1.tape, h1.output, by have := h1.size; simpa [World.setCell] using this, fun k hk hr => by
  rw [Below.heap_setCell _ _ _ _ (by show k ≠ z; omega)]; exact h1.block k hk hr⟩
theorem grown_alloc {w w1 : World} {r : Option Nat} (h1 : w.grownBy w1 r) (o : Obj) : w.grownBy (w1.alloc o) r :=
 ⟨h1.os, h1.tape, h1.output, by have := h1.size; simp; omega, fun k hk hr => (((Below.refl w1.heap.size w1).alloc (Nat.le_refl _) o).block k (Nat.lt_of_lt_of_le hk h1.size)).trans (h1.block k hk hr)⟩
theorem grown_below {w w1 : World} (hb : Below w.heap.size w w1) (r : Option Nat) : w.grownBy w1 r := ⟨hb.os, hb.tape, hb.output, hb.size, fun k hk _ => hb.block k hk⟩
structure KyR (w : World) (B g : Nat) (a : Option Addr) (len cap k : Nat) (H M : ByteArray) (wx : World) : Prop where
 s : Src 60 B wx g a len cap
 f : w.grownBy wx (some g)
 r : wx.heap[w.heap.size]? = some (.cells #[.string ⟨#[]⟩, .string ⟨#[]⟩] 24 (0, 0))
 q : wx.heap[k]? = some (.cells #[.string H, .string M] 24 (0, 0))
 gl : g < w.heap.size
 kl : w.heap.size < k
 bl : B ≤ w.heap.size
namespace KyR
variable {w wx wy : World} {B g : Nat} {a : Option Addr} {len cap k : Nat} {H M : ByteArray}
theorem step (h : KyR w B g a len cap k H M wx) (hs : Src 60 B wy g a len cap) (hg : wx.grownBy wy (some g)) : KyR w B g a len cap k H M wy :=
 ⟨hs, grownBy_trans h.f hg, row_grown h.r hg (by have := h.gl; omega), row_grown h.q hg (by have := h.gl; have := h.kl; omega), h.gl, h.kl, h.bl⟩
theorem srcSet (h : KyR w B g a len cap k H M wx) (i : Nat) (v : Value) : Src 60 B (wx.setCell ⟨k, i, none⟩ v) g a len cap :=
 h.s.kept (grownBy_set (World.grownBy.refl wx (some k)) v) (fun j hj => by cases hj; have := h.gl; have := h.kl; have := h.bl; omega) (by have := h.bl; have := h.f.size; omega)
theorem setH (h : KyR w B g a len cap k H M wx) (X : ByteArray) : KyR w B g a len cap k X M (wx.setCell ⟨k, 0, none⟩ (.string X)) :=
 ⟨h.srcSet _ _, grown_set h.f (Nat.le_of_lt h.kl) _, (Below.heap_setCell _ _ _ _ (by have := h.kl; show w.heap.size ≠ k; omega)).trans h.r, by simp [World.setCell, Array.getElem?_modify, h.q], h.gl, h.kl, h.bl⟩
theorem setM (h : KyR w B g a len cap k H M wx) (X : ByteArray) : KyR w B g a len cap k H X (wx.setCell ⟨k, 1, none⟩ (.string X)) :=
 ⟨h.srcSet _ _, grown_set h.f (Nat.le_of_lt h.kl) _, (Below.heap_setCell _ _ _ _ (by have := h.kl; show w.heap.size ≠ k; omega)).trans h.r, by simp [World.setCell, Array.getElem?_modify, h.q], h.gl, h.kl, h.bl⟩
theorem c0 (h : KyR w B g a len cap k H M wx) : wx.cell? ⟨k, 0, none⟩ = some (.string H) := by simp [World.cell?, h.q]
theorem c1 (h : KyR w B g a len cap k H M wx) : wx.cell? ⟨k, 1, none⟩ = some (.string M) := by simp [World.cell?, h.q]
theorem fz (h : KyR w B g a len cap k H M wx) (o : Nat) : wx.frozen? ⟨k, o, none⟩ = false := by simp [World.frozen?, h.q]
theorem r0 (h : KyR w B g a len cap k H M wx) : wx.cell? ⟨w.heap.size, 0, none⟩ = some (.string ⟨#[]⟩) := by simp [World.cell?, h.r]
theorem r1 (h : KyR w B g a len cap k H M wx) : wx.cell? ⟨w.heap.size, 1, none⟩ = some (.string ⟨#[]⟩) := by simp [World.cell?, h.r]
theorem rf (h : KyR w B g a len cap k H M wx) (o : Nat) : wx.frozen? ⟨w.heap.size, o, none⟩ = false := by simp [World.frozen?, h.r]
theorem finR (h : KyR w B g a len cap k H M wx) (x y : Value) : ((wx.setCell ⟨w.heap.size, 0, none⟩ x).setCell ⟨w.heap.size, 1, none⟩ y).heap[w.heap.size]? = some (.cells #[x, y] 24 (0, 0)) := keys_set h.r
theorem finF (h : KyR w B g a len cap k H M wx) (x y : Value) : w.grownBy ((wx.setCell ⟨w.heap.size, 0, none⟩ x).setCell ⟨w.heap.size, 1, none⟩ y) (some g) := grown_set (grown_set h.f (Nat.le_refl _) _) (Nat.le_refl _) _
theorem finS (h : KyR w B g a len cap k H M wx) (x y : Value) : Src 60 B ((wx.setCell ⟨w.heap.size, 0, none⟩ x).setCell ⟨w.heap.size, 1, none⟩ y) g a len cap :=
 h.s.kept (grownBy_set (grownBy_set (World.grownBy.refl wx (some w.heap.size)) x) y) (fun j hj => by cases hj; have := h.gl; have := h.bl; omega) (by have := h.bl; have := h.f.size; omega)
end KyR
def three (j : Nat) : ByteArray := if j = 0 then ⟨#[107, 101, 121]⟩ else if j = 1 then ⟨#[]⟩ else ⟨#[111, 116, 104, 101, 114]⟩
theorem three_size (j : Nat) : (three j).size ≤ 6 := by
 unfold three
 split
 · decide
 · split
   · decide
   · decide
set_option maxRecDepth 100000 in
set_option maxHeartbeats 1600000 in
theorem src_keys (B : Nat) (w : World) (g : Nat) (a : Option Addr) (len cap : Nat) (hs : Src 60 B w g a len cap) (hB : B ≤ w.heap.size) :
 Calls Tryz.prog 18 #[.pointer (some ⟨g, 0, none⟩)] w fun e w' => ∃ H M : ByteArray, e = .returned (.agg #[.string H, .string M]) ∧ H.size ≤ 16 ∧ M.size ≤ 33 ∧ Src 60 B w' g a len cap ∧ w.grownBy w' (some g) := by
 have hgl := hs.lt
 have f0 : w.grownBy ((w.alloc (.cells #[.string ⟨#[]⟩, .string ⟨#[]⟩] 24)).alloc (.cells #[.string ⟨#[107, 101, 121]⟩, .string ⟨#[]⟩, .string ⟨#[111, 116, 104, 101, 114]⟩] 9)) (some g) := grown_alloc (grown_alloc (World.grownBy.refl w _) _) _
 have s0 : Src 60 B ((w.alloc (.cells #[.string ⟨#[]⟩, .string ⟨#[]⟩] 24)).alloc (.cells #[.string ⟨#[107, 101, 121]⟩, .string ⟨#[]⟩, .string ⟨#[111, 116, 104, 101, 114]⟩] 9)) g a len cap :=
  hs.kept (r := none) (grown_alloc (grown_alloc (World.grownBy.refl w _) _) _) (fun k hk => by cases hk) hB
 have q0 := heap_alloc_new (w.alloc (.cells #[.string ⟨#[]⟩, .string ⟨#[]⟩] 24)) (.cells #[.string ⟨#[107, 101, 121]⟩, .string ⟨#[]⟩, .string ⟨#[111, 116, 104, 101, 114]⟩] 9)
 rw [World.size_alloc] at q0
 have r0 := (((Below.refl (w.alloc (.cells #[.string ⟨#[]⟩, .string ⟨#[]⟩] 24)).heap.size _).alloc (Nat.le_refl _) (.cells #[.string ⟨#[107, 101, 121]⟩, .string ⟨#[]⟩, .string ⟨#[111, 116, 104, 101, 114]⟩] 9)).block w.heap.size (by simp)).trans (heap_alloc_new w _)
 have H0 := hide (And.intro f0 (And.intro s0 (And.intro q0 r0)))
 clear f0 s0 q0 r0 hs
 go_enter Tryz.func18, Tryz.ntmps18
 go_wp2_with fail
 obtain ⟨f0, s0, q0, r0⟩ := H0.out
 generalize (w.alloc (.cells #[.string ⟨#[]⟩, .string ⟨#[]⟩] 24)).alloc (.cells #[.string ⟨#[107, 101, 121]⟩, .string ⟨#[]⟩, .string ⟨#[111, 116, 104, 101, 114]⟩] 9) = W1 at *
 clear H0
 refine (src_pick B W1 g a len cap (w.heap.size + 1) 3 three (by omega) (by omega) (by omega) (fun j hj => by
  match j, hj with
  | 0, _ => simp [World.cell?, q0, three]
  | 1, _ => simp [World.cell?, q0, three]
  | 2, _ => simp [World.cell?, q0, three]) s0).mono ?_
 rintro e w1 ⟨j, hj, rfl, hs1, hg1⟩
 have f1 := grownBy_trans f0 hg1
 have r1 := row_grown r0 hg1 (by omega)
 have hp := three_size j
 have SK := fun W => spec_keysOf (three j) W
 have hk : keysS (three j) = keysT (three j) := if_pos (by omega)
 have hok := keysT_ok (three j)
 rw [hk] at SK
 unfold keysV at SK
 generalize keysT (three j) = kk at *
 obtain ⟨H, M⟩ := kk
 obtain ⟨hH, hM⟩ : H.size = 16 ∧ M.size = 32 := by unfold keysOk at hok; simpa using hok
 dsimp only at SK
 have S1 := hide (And.intro hs1 (And.intro f1 r1))
 have SK := hide SK
 clear hok hk s0 f0 q0 r0 hs1 hg1 f1 r1 hp
 generalize three j = pass at *
 go_wp2_with fail
 refine (SK.out _).mono ?_
 rintro e w2 ⟨rfl, hb2⟩
 obtain ⟨hs1, f1, r1⟩ := S1.out
 have K2 : KyR w B g a len cap w2.heap.size H M (w2.alloc (.cells #[.string H, .string M] 24)) := by
  have z1 := f1.size
  have z2 := hb2.size
  have lt1 := (Array.getElem?_eq_some_iff.1 r1).1
  have b2 := hb2.alloc hb2.size (.cells #[.string H, .string M] 24)
  exact ⟨hs1.kept (r := none) (grown_below b2 none) (fun k hk => by cases hk) (by omega), grownBy_trans f1 (grown_below b2 _), (b2.block _ lt1).trans r1, heap_alloc_new w2 _, hgl, by omega, hB⟩
 have K2 := hide K2
 clear hb2 SK S1 hs1 f1 r1
 go_wp2_with fail
 -- the branches
 generalize w2.alloc (.cells #[.string H, .string M] 24) = W3 at *
 generalize w2.heap.size = k at *
 refine (src_one _ _ _ a len cap 20 (by omega) K2.out.s).mono ?_
 rintro e w3 ⟨r, rfl, hs3, hg3⟩
 have K3 := hide (K2.out.step hs3 hg3)
 clear hs3 hg3 K2
 cases r
 · go_wp2_with fail
   refine (src_one _ _ _ a len cap 20 (by omega) K3.out.s).mono ?_
   rintro e w4 ⟨r2, rfl, hs4, hg4⟩
   have K5 := hide (K3.out.step hs4 hg4)
   clear hs4 hg4
   have c0 := K5.out.c0
   have c1 := K5.out.c1
   have fz := K5.out.fz
   cases r2
   · have r0 := K5.out.r0
     have r1 := K5.out.r1
     have rf := K5.out.rf
     go_wp2_with fail
     exact bodyPost_ret (results_cell_row Tryz.results18 _ _ w.heap.size 24 #[.string H, .string M] (0, 0) _ rfl (K5.out.finR _ _) Tryz.underlying24 rfl (by kernel_rfl)) rfl ⟨H, M, rfl, by omega, by omega, K5.out.finS _ _, K5.out.finF _ _⟩
   · obtain ⟨M2, hM2⟩ : ∃ X, X = M ++ ⟨#[120]⟩ := ⟨_, rfl⟩
     have hadd : ∀ W : World, (Op.stringOp .add M ⟨#[120]⟩).run Tryz.prog W = .ok (.string M2) W := fun W => by rw [hM2]; exact run_string_add_sum W M ⟨#[120]⟩ (by have e : (⟨#[120]⟩ : ByteArray).size = 1 := rfl; omega)
     have hz2 : M2.size = 33 := by rw [hM2, ByteArray.size_append, hM]; rfl
     have K6 := hide (K5.out.setM (M ++ ⟨#[120]⟩))
     have e0 := K6.out.c0
     have e1 := K6.out.c1
     have r0 := K6.out.r0
     have r1 := K6.out.r1
     have rf := K6.out.rf
     rw [← hM2] at K6 e0 e1 r0 r1 rf
     clear hM2
     go_wp2_with fail
     exact bodyPost_ret (results_cell_row Tryz.results18 _ _ w.heap.size 24 #[.string H, .string M2] (0, 0) _ rfl (K6.out.finR _ _) Tryz.underlying24 rfl (by kernel_rfl)) rfl ⟨H, M2, rfl, by omega, by omega, K6.out.finS _ _, K6.out.finF _ _⟩
 · have c0 := K3.out.c0
   have fz := K3.out.fz
   have h1 : (1 : Int) ≤ (H.size : Int) := by omega
   have hsl : ∀ W : World, (Instr.slice 9 (.string H) (some (.int .i64 1)) none none).run Tryz.prog W = .ok (.string (H.extract 1 H.size)) W := fun W => run_back (P := Tryz.prog) W 9 H 1 Tryz.underlying9 (by omega)
   have hzx : (H.extract 1 H.size).size ≤ 16 := by rw [ByteArray.size_extract]; omega
   have K4 := hide (K3.out.setH (H.extract 1 H.size))
   generalize H.extract 1 H.size = H1 at *
   go_wp2_with fail
   clear c0 fz hsl K3
   refine (src_one _ _ _ a len cap 20 (by omega) K4.out.s).mono ?_
   rintro e w4 ⟨r2, rfl, hs4, hg4⟩
   have K5 := hide (K4.out.step hs4 hg4)
   clear hs4 hg4
   have c0 := K5.out.c0
   have c1 := K5.out.c1
   have fz := K5.out.fz
   cases r2
   · have r0 := K5.out.r0
     have r1 := K5.out.r1
     have rf := K5.out.rf
     go_wp2_with fail
     exact bodyPost_ret (results_cell_row Tryz.results18 _ _ w.heap.size 24 #[.string H1, .string M] (0, 0) _ rfl (K5.out.finR _ _) Tryz.underlying24 rfl (by kernel_rfl)) rfl ⟨H1, M, rfl, by omega, by omega, K5.out.finS _ _, K5.out.finF _ _⟩
   · obtain ⟨M2, hM2⟩ : ∃ X, X = M ++ ⟨#[120]⟩ := ⟨_, rfl⟩
     have hadd : ∀ W : World, (Op.stringOp .add M ⟨#[120]⟩).run Tryz.prog W = .ok (.string M2) W := fun W => by rw [hM2]; exact run_string_add_sum W M ⟨#[120]⟩ (by have e : (⟨#[120]⟩ : ByteArray).size = 1 := rfl; omega)
     have hz2 : M2.size = 33 := by rw [hM2, ByteArray.size_append, hM]; rfl
     have K6 := hide (K5.out.setM (M ++ ⟨#[120]⟩))
     have e0 := K6.out.c0
     have e1 := K6.out.c1
     have r0 := K6.out.r0
     have r1 := K6.out.r1
     have rf := K6.out.rf
     rw [← hM2] at K6 e0 e1 r0 r1 rf
     clear hM2
     go_wp2_with fail
     exact bodyPost_ret (results_cell_row Tryz.results18 _ _ w.heap.size 24 #[.string H1, .string M2] (0, 0) _ rfl (K6.out.finR _ _) Tryz.underlying24 rfl (by kernel_rfl)) rfl ⟨H1, M2, rfl, by omega, by omega, K6.out.finS _ _, K6.out.finF _ _⟩
set_option maxRecDepth 100000 in
set_option maxHeartbeats 1600000 in
theorem src_id (B : Nat) (w : World) (g : Nat) (a : Option Addr) (len cap : Nat) (hs : Src 60 B w g a len cap) (hB : B ≤ w.heap.size) :
 Calls Tryz.prog 19 #[.pointer (some ⟨g, 0, none⟩)] w fun e w' => ∃ x : Int, e = .returned (.int .i64 x) ∧ -9223372036854775808 ≤ x ∧ x ≤ 9223372036854775807 ∧ Src 60 B w' g a len cap ∧ w.grownBy w' (some g) := by
 have HS := hide hs
 clear hs
 go_enter Tryz.func19, Tryz.ntmps19
 go_wp2_with fail
 refine (src_one _ _ _ a len cap 12 (by omega) HS.out).mono ?_
 rintro e w1 ⟨r, rfl, hs1, hg1⟩
 have H1 := hide (And.intro hs1 hg1)
 have z1 := hg1.size
 clear hs1 hg1 HS
 cases r
 · go_wp2_with fail
   refine (src_n _ _ _ a len cap 200 (by omega) H1.out.1).mono ?_
   rintro e w2 ⟨v, rfl, v0, v1, hs2, hg2⟩
   have H2 := hide (And.intro hs2 (grownBy_trans H1.out.2 hg2))
   clear hs2 hg2 H1
   go_wp2_with fail
   go_ret
   exact ⟨v, rfl, by omega, by omega, H2.out.1, H2.out.2⟩
 · go_wp2_with fail
   refine (src_edge _ _ _ a len cap H1.out.1).mono ?_
   rintro e w2 ⟨x, rfl, x0, x1, hs2, hg2⟩
   have z2 := hg2.size
   have hgl := hs2.lt
   have H2 := hide (And.intro (hs2.kept (r := none) (grown_alloc (World.grownBy.refl w2 _) (.cells #[.int .i64 (-1), .int .i64 0, .int .i64 2000000, .int .i64 2000001, .int .i64 x] 2)) (fun k hk => by cases hk) (by omega)) (grown_alloc (grownBy_trans H1.out.2 hg2) (.cells #[.int .i64 (-1), .int .i64 0, .int .i64 2000000, .int .i64 2000001, .int .i64 x] 2)))
   have q2 := hide (heap_alloc_new w2 (.cells #[.int .i64 (-1), .int .i64 0, .int .i64 2000000, .int .i64 2000001, .int .i64 x] 2))
   clear hs2 hg2 H1
   go_wp2_with fail
   refine (src_n _ _ _ a len cap 5 (by omega) H2.out.1).mono ?_
   rintro e w3 ⟨v, rfl, v0, v1, hs3, hg3⟩
   have q3 := row_grown q2.out hg3 (by omega)
   have H3 := hide (And.intro hs3 (grownBy_trans H2.out.2 hg3))
   obtain ⟨j, rfl⟩ := Int.eq_ofNat_of_zero_le v0
   have hj : j < 5 := by omega
   have hj' : (j : Int) < 5 := by omega
   obtain ⟨y, hy, y0, y1⟩ : ∃ y : Int, w3.cell? ⟨w2.heap.size, j, none⟩ = some (.int .i64 y) ∧ -9223372036854775808 ≤ y ∧ y ≤ 9223372036854775807 := by
    match j, hj with
    | 0, _ => exact ⟨-1, by simp [World.cell?, q3], by omega, by omega⟩
    | 1, _ => exact ⟨0, by simp [World.cell?, q3], by omega, by omega⟩
    | 2, _ => exact ⟨2000000, by simp [World.cell?, q3], by omega, by omega⟩
    | 3, _ => exact ⟨2000001, by simp [World.cell?, q3], by omega, by omega⟩
    | 4, _ => exact ⟨x, by simp [World.cell?, q3], x0, x1⟩
   clear hs3 hg3 H2 q2 q3 v1
   go_wp2_with fail
   go_ret
   exact ⟨y, rfl, y0, y1, H3.out.1, H3.out.2⟩
end Go.Proofs.YtconcnndghmdfaaGreatDoor
