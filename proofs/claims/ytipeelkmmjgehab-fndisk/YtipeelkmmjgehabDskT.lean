/- The walks over the model's l08Text and DiskRead. -/
import Derived.Test.YtipeelkmmjgehabDskG
import Derived.Test.YtipeelkmmjgehabOwnConv
import Derived.Lib.AppendStr
import Derived.Test.YtipeelkmmjgehabSrc
namespace Go.Proofs.Ytipeelkmmjgehab
open Go Go.RowKit
theorem Try.infoB8t : (Try.prog.info? 5).map (fun i => (i.zero, i.size, i.bytes)) = some (some (.int .u8 0), 1, 1) := by kernel_rfl
/-- So many texts, one behind the other. -/
def catL (F : Nat → ByteArray) (a : Nat) : Nat → List UInt8
  | 0 => []
  | n + 1 => catL F a n ++ (F (a + n)).data.toList
theorem catL_len (F : Nat → ByteArray) (a : Nat) : ∀ n, (∀ j, j < n → (F (a + j)).size = 64) → (catL F a n).length = 64 * n
  | 0, _ => rfl
  | n + 1, h => by
    have h1 := catL_len F a n (fun j hj => h j (by omega))
    have h2 : (F (a + n)).data.toList.length = 64 := h n (by omega)
    show (catL F a n ++ (F (a + n)).data.toList).length = _
    rw [List.length_append, h1, h2]; omega
theorem flS_size (S : Nat → ByteArray) (A : Nat → Int) (X : Nat → ByteArray) (kp : Nat → Bool) (nS : Nat) (hS : ∀ j, j < nS → (S j).size = 64) : ∀ n, (∀ j, j < n → (X j).size = 64) → ∀ j, j < nS → (flS S A X kp n j).size = 64
  | 0, _, j, hj => hS j hj
  | n + 1, hX, j, hj => by
    unfold flS
    split
    · exact hX n (by omega)
    · exact flS_size S A X kp nS hS n (fun k hk => hX k (by omega)) j hj
set_option maxRecDepth 100000 in
set_option maxHeartbeats 1600000 in
theorem spec_text (v : Value) (nS : Nat) (S : Nat → ByteArray) (nC : Nat) (A : Nat → Int) (X : Nat → ByteArray) (a m : Nat) (w : World) (hok : dskOk nS S nC A X) (ham : a + m ≤ nS) (hm : m ≤ 620) (h : dskI w w.heap.size v nS S nC A X) :
    Calls Try.prog 48 #[v, .int .i64 (a : Int), .int .i64 (m : Int)] w fun e w' => e = .returned (.string ⟨(catL (flS S A X (fun _ => true) nC) a m).toArray⟩) ∧ Below w.heap.size w w' := by
  obtain ⟨FF, hFF⟩ : ∃ FF, FF = flS S A X (fun _ => true) nC := ⟨_, rfl⟩
  have hFs : ∀ j, j < nS → (FF j).size = 64 := by rw [hFF]; exact flS_size S A X _ nS hok.2.2.1 nC (fun j hj => (hok.2.2.2 j hj).2.2)
  rw [← hFF]
  have HFF := hide hFF
  have HFS := hide hFs
  have hn6 := hok.1
  obtain ⟨sv, cv, rfl, hs, hc⟩ := h
  have HI := hide (show dskI w w.heap.size (.agg #[sv, cv]) nS S nC A X from ⟨sv, cv, rfl, hs, hc⟩)
  obtain ⟨sa, sk, e1⟩ : ∃ a c, sv = .slice a nS c := by obtain ⟨a, c, e, _⟩ := hs; exact ⟨a, c, e⟩
  obtain ⟨ca, ck, e2⟩ : ∃ a c, cv = .slice a nC c := by obtain ⟨a, c, e, _⟩ := hc; exact ⟨a, c, e⟩
  subst e1 e2
  have HOK := hide hok
  clear hs hc hok hFF hFs
  obtain ⟨i0, hi, hz0, hz1, hz2⟩ := info_parts Try.infoB8t
  go_enter Try.func48, Try.ntmps48
  go_wp2_with fail
  have q0 : Below w.heap.size w (w.alloc (.cells #[.slice sa nS sk, .slice ca nC ck] 26)) := (Below.refl _ w).alloc (Nat.le_refl _) _
  have qs : (w.alloc (.cells #[.slice sa nS sk, .slice ca nC ck] 26)).heap.size = w.heap.size + 1 := by simp
  generalize w.alloc (.cells #[.slice sa nS sk, .slice ca nC ck] 26) = W1 at *
  have I2 : dskI W1 W1.heap.size (.agg #[.slice sa nS sk, .slice ca nC ck]) nS S nC A X := (HI.out.below q0).wide (by omega)
  refine (spec_flush _ (.slice none 0 0) nS S nC A X 0 (fun _ => false) true W1 HOK.out (by omega) I2 (booI_nil _ _ _) (fun _ => true) (fun _ => rfl)).mono ?_
  rintro e w2 ⟨o, rfl, hd, hb2⟩
  rw [← HFF.out] at hd
  obtain ⟨fa, fb, fc, fd, eo⟩ := hd.shape
  subst eo
  obtain ⟨z, hz⟩ : ∃ z, z = w2.heap.size := ⟨_, rfl⟩
  have hs2 := hb2.size
  have HD := hide hd
  have B2 := hide (q0.trans (hb2.mono (by omega)))
  have HZ := hide hz
  have hzw : w.heap.size ≤ z := by omega
  clear hd hb2 I2 q0 qs hs2 hz
  go_wp2_with fail
  have r0 : ((w2.alloc (.cells #[.slice fa nS fb, .slice fc 0 fd] 26)).alloc (.cells #[] 5)).heap[z]? = some (.cells #[.slice fa nS fb, .slice fc 0 fd] 26) := by
    rw [HZ.out]; exact (Below.heap_alloc _ _ _ (by simp)).trans (heap_alloc_new _ _)
  have r1 : ((w2.alloc (.cells #[.slice fa nS fb, .slice fc 0 fd] 26)).alloc (.cells #[] 5)).ownsRow (z + 1) 5 1 (.slice (some ⟨z + 1, 0, none⟩) 0 0) (catL FF a 0).length ((catL FF a 0).map byteV) := by
    have h := World.ownsRow_made (e := 5) (size := 1) (base := z + 1) (w2.alloc (.cells #[.slice fa nS fb, .slice fc 0 fd] 26)) #[] 0 (by simp [HZ.out]) (by decide) (by simp)
    rw [World.size_alloc, ← HZ.out] at h
    simpa [catL] using h
  have r2 : Below w2.heap.size w2 ((w2.alloc (.cells #[.slice fa nS fb, .slice fc 0 fd] 26)).alloc (.cells #[] 5)) := ((Below.refl _ w2).alloc (Nat.le_refl _) _).alloc (by simp) _
  have r3 : ((w2.alloc (.cells #[.slice fa nS fb, .slice fc 0 fd] 26)).alloc (.cells #[] 5)).heap.size = z + 2 := by simp [HZ.out]
  have r4 := hide (B2.out.trans (r2.mono (by have := B2.out.size; omega)))
  rw [← HZ.out]
  generalize ((w2.alloc (.cells #[.slice fa nS fb, .slice fc 0 fd] 26)).alloc (.cells #[] 5)) = W3 at *
  have H3 := hide (And.intro r0 (And.intro r1 r2))
  clear r0 r1 r2
  obtain ⟨am, ham2⟩ : ∃ am, am = a + m := ⟨_, rfl⟩
  have s1 : (a : Int) + (m : Int) = (am : Int) := by omega
  have ham3 : am ≤ 620 := by omega
  have HAM := hide ham2
  clear ham2
  go_loopw [8, 9] (fun bv i wx => ∃ k : Nat, k ≤ m ∧ i = .int .i64 ((a + k : Nat) : Int) ∧ Hid (wx.ownsRow (z + 1) 5 1 bv (catL FF a k).length ((catL FF a k).map byteV)) ∧ Hid (wx.heap[z]? = some (.cells #[.slice fa nS fb, .slice fc 0 fd] 26) ∧ Below w2.heap.size w2 wx ∧ Below w.heap.size w wx) ∧ z + 2 ≤ wx.heap.size) (fun _ i _ => am - (intOf i).toNat)
  case atStart => exact ⟨0, Nat.zero_le _, rfl, H3.out.2.1, ⟨H3.out.1, H3.out.2.2, r4.out⟩, by omega⟩
  case round =>
    clear H3 r4 r3
    obtain ⟨k, hk, rfl, hown, hst, hsz⟩ := hrel
    obtain ⟨p, hp⟩ : ∃ p, p = a + k := ⟨_, rfl⟩
    rw [← hp]
    have c0 : wr.cell? ⟨z, 0, none⟩ = some (.slice fa nS fb) := by simp [World.cell?, hst.out.1]
    have hlen : (catL FF a k).length = 64 * k := catL_len FF a k (fun j hj => HFS.out _ (by omega))
    obtain ⟨L, hL⟩ : ∃ L, L = catL FF a k := ⟨_, rfl⟩
    obtain ⟨N, hN⟩ : ∃ N, N = 64 * k := ⟨_, rfl⟩
    have hN2 : N ≤ 39680 := by omega
    have HO : wr.ownsRow (z + 1) 5 1 u8 N (L.map byteV) := by have h := hown.out; rw [hlen, ← hN, ← hL] at h; exact h
    obtain ⟨va, vc, hv⟩ := own_slice HO
    have HOW := hide HO
    have HLE := hide hL
    have HNE := hide hN
    have HLN := hide hlen
    subst hv
    clear hown HO hL hlen hN
    by_cases hlt : k < m
    · have hpam : p < am := by have := HAM.out; omega
      have hpn : p < nS := by omega
      have d1 : decide ((p : Int) < (am : Int)) = true := decide_eq_true (by omega)
      have d1n : decide (p < am) = true := decide_eq_true hpam
      have d2 : decide ((p : Int) < (nS : Int)) = true := decide_eq_true (by omega)
      have d2n : decide (p < nS) = true := decide_eq_true hpn
      have hpn' : (p : Int) < (nS : Int) := by omega
      have hfb : (nS : Int) ≤ (fb : Int) ∧ ∃ r o, fa = some ⟨r, o, none⟩ ∧ wr.cell? ⟨r, o + p, none⟩ = some (.string (FF p)) := by
        obtain ⟨_, _, e, ⟨a2, c2, e2, hl, h0 | ⟨r, o, er, hr, hcell⟩⟩, _⟩ := (HD.out.sli.below hst.out.2.1)
        · omega
        · cases e
          cases e2
          exact ⟨by omega, r, o, er, hcell p hpn⟩
      obtain ⟨hfb1, r, o, er, hcell⟩ := hfb
      subst er
      obtain ⟨Y, hY⟩ : ∃ Y, Y = FF p := ⟨_, rfl⟩
      rw [← hY] at hcell
      have hYs : Y.size = 64 := by rw [hY]; exact HFS.out p hpn
      have HC2 := hide (show catL FF a (k + 1) = catL FF a k ++ Y.data.toList by rw [hY, hp]; rfl)
      have HP := hide hp
      clear hY hp
      go_wp2_with (at_builtin; refine Lib.wpList_append_own_string _ rfl _ _ 22 9 rfl (z + 1) 5 i0 Try.underlying22 Try.underlying9 hi hz0 hz1 hz2 _ N _ rfl HOW.out Y rfl (by unfold maxLen; omega) (by omega) (by omega) ?_)
      intro v9 w9 o9 g9 _
      have nb : ∀ b, b < z + 1 → some b ≠ (Value.slice va N vc).ownBlock := fun b h1 h2 => by have := (HOW.out.lt b h2.symm).1; omega
      have zs := HZ.out
      have t1 : w9.heap[z]? = some (.cells #[.slice (some ⟨r, o, none⟩) nS fb, .slice fc 0 fd] 26) := (g9.block z (by omega) (nb z (by omega))).trans hst.out.1
      have t2 : Below w2.heap.size w2 w9 := hst.out.2.1.grown g9 (by omega) (fun x hx => by have := (HOW.out.lt x hx).1; omega)
      have t3 : Below w.heap.size w w9 := hst.out.2.2.grown g9 (by omega) (fun x hx => by have := (HOW.out.lt x hx).1; omega)
      have R1 := hide (show w9.ownsRow (z + 1) 5 1 v9 (catL FF a (k + 1)).length ((catL FF a (k + 1)).map byteV) from by
        have e1 : (catL FF a (k + 1)).length = N + Y.size := by rw [HC2.out, List.length_append, HLN.out, ← HNE.out]; rfl
        rw [e1, HC2.out, List.map_append, ← HLE.out, hYs]; exact o9)
      have R2 := hide (And.intro t1 (And.intro t2 t3))
      have R3 : z + 2 ≤ w9.heap.size := by have := g9.size; omega
      obtain ⟨va2, vn2, vc2, hv9⟩ : ∃ a n c, v9 = .slice a n c := by obtain ⟨a, c, e⟩ := own_slice o9; exact ⟨_, _, _, e⟩
      subst hv9
      have hpb : (p : Int) ≤ 620 := by omega
      clear o9 g9 t1 t2 t3 nb hst HOW zs hcell c0
      go_wp2_with fail
      go_roundw
      case rel => exact ⟨k + 1, by omega, by rw [← Nat.add_assoc, ← HP.out]; go_num, R1, R2, R3⟩
      case measure => simp [intOf]; omega
    · have hkm : k = m := by omega
      have hpm : p = am := by rw [hp, hkm]; exact HAM.out.symm
      subst hkm
      have d1 : decide ((p : Int) < (am : Int)) = false := decide_eq_false (by omega)
      have d1n : decide (p < am) = false := decide_eq_false (by omega)
      have hO2 : wr.ownsRow (z + 1) 5 1 (.slice va N vc) L.length (L.map byteV) := by
        have e : L.length = N := by rw [HLE.out, HLN.out, ← HNE.out]
        rw [e]; exact HOW.out
      have hcv := own_conv (P := Try.prog) hO2 Try.underlying22 Try.underlying5 Try.underlying9
      have HB := hide hst.out.2.2
      clear hO2 HOW hst hp hpm
      go_wp2_with fail
      go_ret
      exact ⟨by rw [← HLE.out]; rfl, HB.out⟩
end Go.Proofs.Ytipeelkmmjgehab
