/- Put together: AesF, AesKF, AesT, AesS, Row9, RowC. -/
import Derived.Test.YtconcnndghmdfaaGreatDoorSd3
namespace Go.Proofs.YtconcnndghmdfaaGreatDoor
open Go Go.RowKit
theorem ofInt64 (a : Nat) : (BitVec.ofInt 64 (a : Int)).toNat = a % 18446744073709551616 := by rw [BitVec.ofInt_natCast, BitVec.toNat_ofNat]
theorem q_xor (a b : Nat) (ha : a < 4611686018427387904) (hb : b < 4611686018427387904) : bits .xor .i64 (a : Int) (b : Int) = ((a ^^^ b : Nat) : Int) := by
 have hx : a ^^^ b < 2 ^ 62 := Nat.xor_lt_two_pow (by omega) (by omega)
 show IntKind.i64.wrap ((BitVec.ofInt 64 (a : Int) ^^^ BitVec.ofInt 64 (b : Int)).toNat : Int) = _
 rw [BitVec.toNat_xor, ofInt64, ofInt64, Nat.mod_eq_of_lt (by omega), Nat.mod_eq_of_lt (by omega), IntKind.wrap_i64]; omega
theorem q_and (a b : Nat) (ha : a < 4611686018427387904) (hb : b < 4611686018427387904) : bits .and .i64 (a : Int) (b : Int) = ((a &&& b : Nat) : Int) := by
 have hx : a &&& b < 2 ^ 62 := Nat.and_lt_two_pow _ (by omega)
 show IntKind.i64.wrap ((BitVec.ofInt 64 (a : Int) &&& BitVec.ofInt 64 (b : Int)).toNat : Int) = _
 rw [BitVec.toNat_and, ofInt64, ofInt64, Nat.mod_eq_of_lt (by omega), Nat.mod_eq_of_lt (by omega), IntKind.wrap_i64]; omega
theorem q_or (a b : Nat) (ha : a < 4611686018427387904) (hb : b < 4611686018427387904) : bits .or .i64 (a : Int) (b : Int) = ((a ||| b : Nat) : Int) := by
 have hx : a ||| b < 2 ^ 62 := Nat.or_lt_two_pow (by omega) (by omega)
 show IntKind.i64.wrap ((BitVec.ofInt 64 (a : Int) ||| BitVec.ofInt 64 (b : Int)).toNat : Int) = _
 rw [BitVec.toNat_or, ofInt64, ofInt64, Nat.mod_eq_of_lt (by omega), Nat.mod_eq_of_lt (by omega), IntKind.wrap_i64]; omega
def dbl (a : Nat) : Nat := if 255 < 2 * a then (2 * a) ^^^ 283 else 2 * a
theorem dbl_lt (a : Nat) (h : a < 256) : dbl a < 256 := by
 have : ∀ x : Fin 256, dbl x.1 < 256 := by decide +kernel
 exact this ⟨a, h⟩
def tA (a : Nat) : Nat → Nat
 | 0 => a
 | k + 1 => dbl (tA a k)
def tN (a b : Nat) : Nat → Nat
 | 0 => 0
 | k + 1 => if b / 2 ^ k % 2 = 1 then tN a b k ^^^ tA a k else tN a b k
def times (a b : Nat) : Nat := tN a b 8
theorem tA_lt (a : Nat) (h : a < 256) : ∀ k, tA a k < 256
 | 0 => h
 | k + 1 => dbl_lt _ (tA_lt a h k)
theorem xor_lt256 (a b : Nat) (ha : a < 256) (hb : b < 256) : a ^^^ b < 256 := Nat.xor_lt_two_pow (n := 8) ha hb
theorem tN_lt (a b : Nat) (h : a < 256) : ∀ k, tN a b k < 256
 | 0 => Nat.zero_lt_succ _
 | k + 1 => by
   unfold tN
   split
   · exact xor_lt256 _ _ (tN_lt a b h k) (tA_lt a h k)
   · exact tN_lt a b h k
theorem times_lt (a b : Nat) (h : a < 256) : times a b < 256 := tN_lt a b h 8
def pw (n : Nat) : Nat → Nat
 | 0 => 1
 | j + 1 => if j < 7 then times (times (pw n j) (pw n j)) n else times (pw n j) (pw n j)
theorem pw_lt (n : Nat) : ∀ j, pw n j < 256
 | 0 => by show (1 : Nat) < 256; omega
 | j + 1 => by
   unfold pw
   split
   · exact times_lt _ _ (times_lt _ _ (pw_lt n j))
   · exact times_lt _ _ (pw_lt n j)
def ring (b : Nat) : Nat → Nat
 | 0 => 99
 | k + 1 => ring b k ^^^ ((b * 2 ^ k) % 256 ||| b / 2 ^ (8 - k))
theorem ring_lt (b : Nat) (h : b < 256) : ∀ k, k ≤ 5 → ring b k < 256
 | 0, _ => by show (99 : Nat) < 256; omega
 | k + 1, hk => by
   have h1 := ring_lt b h k (by omega)
   have h2 : b / 2 ^ (8 - k) < 256 := Nat.lt_of_le_of_lt (Nat.div_le_self _ _) h
   have h3 : (b * 2 ^ k) % 256 ||| b / 2 ^ (8 - k) < 256 := Nat.or_lt_two_pow (n := 8) (Nat.mod_lt _ (by decide)) h2
   exact xor_lt256 _ _ h1 h3
def sboxN (n : Nat) : Nat := ring (pw n 8) 5
theorem sboxN_lt (n : Nat) : sboxN n < 256 := ring_lt _ (pw_lt n 8) 5 (by omega)
def sbox (n : Nat) : UInt8 := UInt8.ofNat (sboxN n)
end Go.Proofs.YtconcnndghmdfaaGreatDoor
namespace Go.Proofs.YtconcnndghmdfaaGreatDoor
def rcN : Nat → Nat
 | 0 => 1
 | m + 1 => times (rcN m) 2
theorem rcN_lt : ∀ m, rcN m < 256
 | 0 => by show (1 : Nat) < 256; omega
 | m + 1 => times_lt _ _ (rcN_lt m)
def kB (key : Nat → UInt8) (i : Nat) : UInt8 :=
 if _h : i < 16 then key i
 else kB key (i - 16) ^^^ (if i / 4 % 4 = 0 then sbox (kB key (4 * (i / 4 - 1) + (i % 4 + 1) % 4)).toNat ^^^ (if i % 4 = 0 then UInt8.ofNat (rcN (i / 16 - 1)) else 0) else kB key (i - 4))
def tB (key : Nat → UInt8) (i r : Nat) : UInt8 :=
 if i % 4 = 0 then sbox (kB key (4 * (i - 1) + (r + 1) % 4)).toNat ^^^ (if r = 0 then UInt8.ofNat (rcN (i / 4 - 1)) else 0) else kB key (4 * i + r - 4)
theorem kB_lo (key : Nat → UInt8) (i : Nat) (h : i < 16) : kB key i = key i := by rw [kB, dif_pos h]
theorem kB_hi (key : Nat → UInt8) (i r : Nat) (hi : 4 ≤ i) (hr : r < 4) : kB key (4 * i + r) = kB key (4 * i - 16 + r) ^^^ tB key i r := by
 rw [kB, dif_neg (by omega), show 4 * i + r - 16 = 4 * i - 16 + r by omega, show (4 * i + r) / 4 = i by omega, show (4 * i + r) % 4 = r by omega, show (4 * i + r) / 16 - 1 = i / 4 - 1 by omega]
 rfl
def kL (key : Nat → UInt8) (n : Nat) : List UInt8 := (List.range n).map (kB key)
theorem kL_len (key : Nat → UInt8) (n : Nat) : (kL key n).length = n := by simp [kL]
theorem kL_at (key : Nat → UInt8) (n j : Nat) (h : j < n) : (kL key n)[j]? = some (kB key j) := by simp [kL, h]
theorem kL_succ (key : Nat → UInt8) (n : Nat) : kL key n ++ [kB key n] = kL key (n + 1) := by simp [kL, List.range_succ]
end Go.Proofs.YtconcnndghmdfaaGreatDoor
namespace Go.Proofs.YtconcnndghmdfaaGreatDoor
open Go.RowKit
theorem int_eq' {k : IntKind} {a b : Int} (h : a = b) : Value.int k a = Value.int k b := by rw [h]
theorem bit_eq (b k : Nat) (h : b < 256) : bits .and .i64 ((b : Int) / 2 ^ k) 1 = ((b / 2 ^ k % 2 : Nat) : Int) := by
 have e : ((b : Int) / 2 ^ k) = ((b / 2 ^ k : Nat) : Int) := by simp
 have hle : b / 2 ^ k ≤ b := Nat.div_le_self _ _
 rw [e, show (1 : Int) = ((1 : Nat) : Int) from rfl, q_and _ _ (by omega) (by omega), Nat.and_one_is_mod]
theorem dbl_eq (A : Nat) (h : A < 256) : (255 < 2 * A → bits .xor .i64 ((A : Int) * 2) 283 = ((dbl A : Nat) : Int)) ∧ (¬ 255 < 2 * A → (A : Int) * 2 = ((dbl A : Nat) : Int)) := by
 have e : (A : Int) * 2 = ((2 * A : Nat) : Int) := by omega
 refine ⟨fun h2 => ?_, fun h2 => ?_⟩
 · rw [e, show (283 : Int) = ((283 : Nat) : Int) from rfl, q_xor _ _ (by omega) (by omega), dbl, if_pos h2]
 · rw [e, dbl, if_neg h2]
set_option maxRecDepth 100000 in
set_option maxHeartbeats 800000 in
theorem spec_times (a b : Nat) (w : World) (ha : a < 256) (hb : b < 256) :
 Calls Tryz.prog 122 #[.int .i64 a, .int .i64 b] w fun e w' => e = .returned (.int .i64 (times a b : Nat)) ∧ w = w' := by
 go_enter Tryz.func122, Tryz.ntmps122
 go_wp2_with fail
 go_loopw [0, 5, 6] (fun x n i wx => ∃ k : Nat, k ≤ 8 ∧ i = .int .i64 k ∧ x = .int .i64 (tA a k : Nat) ∧ n = .int .i64 (tN a b k : Nat) ∧ w = wx) (fun _ _ i _ => 8 - (intOf i).toNat)
 case atStart => exact ⟨0, by omega, rfl, rfl, rfl, rfl⟩
 case round =>
  obtain ⟨k, hk, rfl, rfl, rfl, rfl⟩ := hrel
  by_cases hlt : k < 8
  · have hA := tA_lt a ha k
    have hN := tN_lt a b ha k
    have eA := hide (show tA a (k + 1) = dbl (tA a k) from rfl)
    have eN := hide (show tN a b (k + 1) = if b / 2 ^ k % 2 = 1 then tN a b k ^^^ tA a k else tN a b k from rfl)
    generalize tA a k = A at *
    generalize tN a b k = N at *
    have hA' : (A : Int) ≤ 255 := by omega
    have hbt := bit_eq b k (by omega)
    have hx1 := hide (q_xor N A (by omega) (by omega))
    have hx2 := hide (dbl_eq A hA)
    by_cases hbit : b / 2 ^ k % 2 = 1
    · rw [hbit] at hbt
      rw [if_pos hbit] at eN
      go_wp2_with fail
      all_goals refine ⟨⟨k + 1, by omega, by go_num, ?_, by rw [hx1.out, eN.out], trivial⟩, by simp [intOf]; omega⟩
      all_goals rw [eA.out]
      · exact int_eq' (hx2.out.1 (by omega))
      · exact int_eq' (hx2.out.2 (by omega))
    · have h0 : b / 2 ^ k % 2 = 0 := by omega
      rw [h0] at hbt
      rw [if_neg hbit] at eN
      go_wp2_with fail
      all_goals refine ⟨⟨k + 1, by omega, by go_num, ?_, by rw [eN.out], trivial⟩, by simp [intOf]; omega⟩
      all_goals rw [eA.out]
      · exact int_eq' (hx2.out.1 (by omega))
      · exact int_eq' (hx2.out.2 (by omega))
  · have hE := hide (show tN a b k = times a b by rw [show k = 8 by omega]; rfl)
    go_wp2_with fail
    go_ret
    exact ⟨by rw [← hE.out]; rfl, rfl⟩
theorem spec_timesT (a b c : Nat) (w : World) (ha : a < 256) (hb : b < 256) (hc : times a b = c) :
 Calls Tryz.prog 122 #[.int .i64 a, .int .i64 b] w fun e w' => e = .returned (.int .i64 (c : Nat)) ∧ w = w' := by
 subst hc; exact spec_times a b w ha hb
theorem ring_eq (R P k k8 : Nat) (hR : R < 256) (hP : P < 256) (hk : k < 5) (h8 : k8 = 8 - k) :
 bits .xor .i64 (R : Int) (bits .or .i64 (bits .and .i64 (wrap64 ((P : Int) * 2 ^ k)) 255) ((P : Int) / 2 ^ k8)) = ((R ^^^ ((P * 2 ^ k) % 256 ||| P / 2 ^ (8 - k)) : Nat) : Int) := by
 have hp : 2 ^ k ≤ 2 ^ 4 := Nat.pow_le_pow_right (by omega) (by omega)
 have hb : P * 2 ^ k ≤ 255 * 16 := Nat.mul_le_mul (by omega) hp
 have e1 : ((P : Int) * 2 ^ k) = ((P * 2 ^ k : Nat) : Int) := by simp
 have e2 : ((P : Int) / 2 ^ k8) = ((P / 2 ^ k8 : Nat) : Int) := by simp
 have hd : P / 2 ^ k8 ≤ P := Nat.div_le_self _ _
 have ha : (P * 2 ^ k) &&& 255 = (P * 2 ^ k) % 256 := Nat.and_two_pow_sub_one_eq_mod _ 8
 have ho : (P * 2 ^ k) % 256 ||| P / 2 ^ k8 < 2 ^ 8 := Nat.or_lt_two_pow (Nat.mod_lt _ (by decide)) (by omega)
 rw [e1, e2, IntWalk.wrap64_in _ ⟨by omega, by omega⟩, show (255 : Int) = ((255 : Nat) : Int) from rfl, q_and _ _ (by omega) (by omega), ha, q_or _ _ (by omega) (by omega), q_xor _ _ (by omega) (by omega), h8]
set_option maxRecDepth 100000 in
set_option maxHeartbeats 800000 in
theorem spec_sbox (n : Nat) (w : World) (hn : n < 256) :
 Calls Tryz.prog 121 #[.int .i64 n] w fun e w' => e = .returned (.int .i64 (sboxN n : Nat)) ∧ w = w' := by
 go_enter Tryz.func121, Tryz.ntmps121
 go_wp2_with fail
 go_loopw [3, 4] (fun b i wx => ∃ j : Nat, j ≤ 8 ∧ i = .int .i64 (7 - (j : Int)) ∧ b = .int .i64 (pw n j : Nat) ∧ w = wx) (fun _ i _ => (intOf i + 1).toNat)
 case atStart => exact ⟨0, by omega, rfl, rfl, rfl⟩
 case round =>
  obtain ⟨j, hj, rfl, rfl, rfl⟩ := hrel
  have hp := pw_lt n j
  by_cases hlt : j < 8
  · have eP := hide (show pw n (j + 1) = if j < 7 then times (times (pw n j) (pw n j)) n else times (pw n j) (pw n j) from rfl)
    generalize hP2 : pw n (j + 1) = P2 at *
    generalize pw n j = P at *
    have ht := times_lt P P hp
    by_cases h7 : j < 7
    · rw [if_pos h7] at eP
      go_wp2_with fail
      refine (spec_times P P _ hp hp).mono ?_
      rintro e w1 ⟨rfl, rfl⟩
      go_wp2_with fail
      refine (spec_times (times P P) n _ ht hn).mono ?_
      rintro e w1 ⟨rfl, rfl⟩
      go_wp2_with fail
      exact ⟨⟨j + 1, by omega, by go_num, by rw [hP2, eP.out], trivial⟩, by simp [intOf]; omega⟩
    · rw [if_neg h7] at eP
      go_wp2_with fail
      refine (spec_times P P _ hp hp).mono ?_
      rintro e w1 ⟨rfl, rfl⟩
      go_wp2_with fail
      exact ⟨⟨j + 1, by omega, by go_num, by rw [hP2, eP.out], trivial⟩, by simp [intOf]; omega⟩
  · have hP8 := hide (show pw n j = pw n 8 by rw [show j = 8 by omega])
    generalize pw n j = P at *
    have hP' : (P : Int) ≤ 255 := by omega
    go_wp2_with fail
    go_loopw [5, 6] (fun o i wx => ∃ k : Nat, k ≤ 5 ∧ i = .int .i64 k ∧ o = .int .i64 (ring P k : Nat) ∧ w = wx) (fun _ i _ => 5 - (intOf i).toNat)
    case atStart => exact ⟨0, by omega, rfl, rfl, rfl⟩
    case round =>
     obtain ⟨k, hk, rfl, rfl, rfl⟩ := hrel
     have hr := ring_lt P hp k hk
     by_cases hlt5 : k < 5
     · have eR := hide (show ring P (k + 1) = ring P k ^^^ ((P * 2 ^ k) % 256 ||| P / 2 ^ (8 - k)) from rfl)
       generalize hR2 : ring P (k + 1) = R2 at *
       generalize ring P k = R at *
       obtain ⟨k8, hk8⟩ : ∃ m, m = 8 - k := ⟨_, rfl⟩
       have m8 : IntKind.i64.wrap (8 - (k : Int)) = (k8 : Int) := by simp only [IntKind.wrap_i64]; omega
       have hk8' : k8 ≤ 8 := by omega
       have HK8 := hide hk8
       clear hk8
       go_wp2_with fail
       have hv := hide (ring_eq R P k k8 hr hp hlt5 HK8.out)
       refine ⟨⟨k + 1, by omega, by go_num, by rw [hv.out, hR2, eR.out], trivial⟩, by simp [intOf]; omega⟩
     · have hE := hide (show ring P k = sboxN n by rw [show k = 5 by omega, hP8.out]; rfl)
       go_wp2_with fail
       go_ret
       exact ⟨by rw [← hE.out]; rfl, rfl⟩
theorem sbox_toNat (n : Nat) : (sbox n).toNat = sboxN n := by
 have h := sboxN_lt n
 unfold sbox
 rw [UInt8.toNat_ofNat']; exact Nat.mod_eq_of_lt h
theorem Tryz.infoB8 : (Tryz.prog.info? 5).map (fun i => (i.zero, i.size, i.bytes)) = some (some (.int .u8 0), 1, 1) := by kernel_rfl
set_option maxRecDepth 100000 in
set_option maxHeartbeats 800000 in
theorem spec_box (w : World) :
 Calls Tryz.prog 90 #[] w fun e w' => e = .returned (.slice (some ⟨w.heap.size, 0, none⟩) 256 256) ∧ w'.rowIs w.heap.size 5 256 (u8V sbox) ∧ Below w.heap.size w w' := by
 have hmk : ∀ w : World, (Instr.makeSlice 22 (.int .i64 256) (.int .i64 256)).run Tryz.prog w = .ok (.slice (some ⟨w.heap.size, 0, none⟩) 256 256) (w.alloc (.cells (madeCells #[.int .u8 0] 256) 5)) := run_make_row' (P := Tryz.prog) 22 5 (.int .u8 0) 1 (by kernel_rfl) Tryz.infoB8 rfl .i64 .i64 256 (by omega) (by omega)
 go_enter Tryz.func90, Tryz.ntmps90
 go_wp2_with fail
 clear hmk
 go_loopw [2] (fun i wx => ∃ (k : Nat) (f : Nat → UInt8), k ≤ 256 ∧ i = .int .i64 k ∧ Hid (∀ j, j < k → f j = sbox j) ∧ wx.rowIs w.heap.size 5 256 (u8V f) ∧ Below w.heap.size w wx) (fun i _ => 256 - (intOf i).toNat)
 case atStart => exact ⟨0, fun _ => 0, by omega, rfl, fun j hj => by omega, World.rowIs_made _ _ _ _, (Below.refl _ _).alloc (Nat.le_refl _) _⟩
 case round =>
  obtain ⟨k, f, hk, rfl, hf, hrw, hbl⟩ := hrel
  by_cases hlt : k < 256
  · have ck := hrw.cell (i := k) hlt
    have hfz := hrw.frozen k
    have hS := sboxN_lt k
    have hS' : (sboxN k : Int) ≤ 255 := by omega
    have HS := hide (sbox_toNat k)
    go_wp2_with fail
    refine (spec_sbox k _ hlt).mono ?_
    rintro e w1 ⟨rfl, rfl⟩
    go_wp2_with fail
    refine ⟨⟨k + 1, fun j => if j = k then sbox k else f j, by omega, by go_num, fun j hj => ?_, set_byte hrw HS.out.symm, hbl.setCell (Nat.le_refl _) _⟩, by simp [intOf]; omega⟩
    show (if j = k then sbox k else f j) = _
    by_cases e : j = k
    · rw [if_pos e, e]
    · rw [if_neg e]; exact hf.out j (by omega)
  · have hr2 : wr.rowIs w.heap.size 5 256 (u8V sbox) := hrw.congr fun i hi => by rw [u8V, u8V, hf.out i (by omega)]
    go_wp2_with fail
    go_ret
    exact ⟨rfl, hr2, hbl⟩
end Go.Proofs.YtconcnndghmdfaaGreatDoor
namespace Go.Proofs.YtconcnndghmdfaaGreatDoor
open Go.RowKit Go
theorem grownBy_setCells : ∀ (vs : List Value) (o : Nat) (w : World) (b : Nat), w.grownBy (w.setCells b o vs) (some b)
 | [], _, w, _ => ⟨rfl, rfl, rfl, Nat.le_refl _, fun _ _ _ => rfl⟩
 | v :: vs, o, w, b => by
   have h := grownBy_setCells vs (o + 1) (w.setCell ⟨b, o, none⟩ v) b
   refine ⟨h.os, h.tape, h.output, ?_, fun k hk hr => ?_⟩
   · have h1 := h.size
     have h2 : (w.setCell ⟨b, o, none⟩ v).heap.size = w.heap.size := by simp [World.setCell]
     rw [h2] at h1; exact h1
   · have e := h.block k (by simpa [World.setCell] using hk) hr
     rw [Below.heap_setCell _ _ _ _ (by intro e; exact hr (by simp [e]))] at e
     exact e
theorem run_append_hasrow {P : Program} (w : World) (t ty e : TypeId) (i : TypeInfo) (h1 : P.underlying t = some (.slice e)) (h2 : P.info? e = some i) (h3 : i.zero = some (.int .u8 0)) (h4 : i.size = 1) (h5 : i.bytes = 1)
 (base : Nat) (v : Value) (l : List UInt8) (hrow : hasRow w base v l)
 (ad : Addr) (c : Nat) (k : List UInt8) (hne : k ≠ []) (hc : ∀ j u, (k.map byteV)[j]? = some u → w.cell? (ad.add j) = some u)
 (b2 : l.length + k.length ≤ 140737488355328) (hbase : base ≤ w.heap.size) :
 ∃ g' cap' w', (Builtin.append_ #[t, t] ty #[v, .slice (some ad) k.length c]).run P w = .ok (.slice (some ⟨g', 0, none⟩) (l ++ k).length cap') w' ∧ hasRow w' base (.slice (some ⟨g', 0, none⟩) (l ++ k).length cap') (l ++ k) ∧ w.grownBy w' v.ownBlock ∧ (v.ownBlock = some g' ∨ (g' = w.heap.size ∧ w.grownBy w' none)) := by
 obtain ⟨g, cap, rfl, hgb, hlt, hcap, hcells, hl⟩ := hrow
 have hll : (l ++ k).length = l.length + k.length := List.length_append
 by_cases hr : l.length + k.length ≤ cap
 · have hrun := run_append_room_cells (P := P) w t ty e i h1 h2 g 0 l.length cap ad k.length c (k.map byteV) (by rw [h4]; simp) hc (by
    intro u hu
    obtain ⟨y, _, rfl⟩ := List.mem_map.1 hu
    rfl) hr (fun j hj => by rw [List.length_map] at hj; rw [h4]; exact (hcells _ (by omega)).1) (fun j hj => by rw [List.length_map] at hj; rw [h4]; exact (hcells _ (by omega)).2)
   rw [h4] at hrun
   have hcs : ∀ j, j < (k.map byteV).length → (w.cell? ⟨g, 0 + l.length * 1 + j, none⟩).isSome = true := fun j hj => (hcells _ (by rw [List.length_map] at hj; omega)).1
   have hg := grownBy_setCells (k.map byteV) (0 + l.length * 1) w g
   refine ⟨g, cap, _, by rw [hll]; exact hrun, ⟨g, cap, rfl, hgb, Nat.lt_of_lt_of_le hlt hg.size, by rw [hll]; exact hr, fun j hj => ⟨?_, ?_⟩, fun j u hj => ?_⟩, hg, .inl rfl⟩
   · by_cases hin : l.length ≤ j ∧ j < l.length + k.length
     · have := World.cell?_setCells_in g (k.map byteV) (0 + l.length * 1) w hcs (j - l.length) (by rw [List.length_map]; omega)
       rw [show 0 + l.length * 1 + (j - l.length) = j by omega] at this
       rw [this]; rfl
     · rw [World.cell?_setCells_out g _ _ w ⟨g, j, none⟩ (fun _ _ => by rw [List.length_map]; show j < _ ∨ _ ≤ j; omega)]
       exact (hcells j hj).1
   · rw [World.frozen?_setCells]; exact (hcells j hj).2
   · by_cases hin : j < l.length
     · rw [World.cell?_setCells_out g _ _ w ⟨g, j, none⟩ (fun _ _ => by show j < _ ∨ _ ≤ j; omega)]
       rw [List.getElem?_append_left hin] at hj
       exact hl j u hj
     · rw [List.getElem?_append_right (by omega)] at hj
       have hjk : j - l.length < k.length := by
        rcases Nat.lt_or_ge (j - l.length) k.length with h | h
        · exact h
        · rw [List.getElem?_eq_none h] at hj; cases hj
       have := World.cell?_setCells_in g (k.map byteV) (0 + l.length * 1) w hcs (j - l.length) (by rw [List.length_map]; omega)
       rw [show 0 + l.length * 1 + (j - l.length) = j by omega] at this
       rw [this, List.getElem_map]
       rw [List.getElem?_eq_getElem hjk] at hj
       rw [Option.some.inj hj]
 · have holds : ∀ j u, (l.map byteV)[j]? = some u → w.cell? ((⟨g, 0, none⟩ : Addr).add j) = some u := by
    intro j u hj
    rw [List.getElem?_map] at hj
    obtain ⟨y, hy, rfl⟩ := Option.map_eq_some_iff.1 hj
    rw [Addr.add_lit, Nat.zero_add]; exact hl j y hy
   have hm : l.length + k.length ≤ maxLen := by unfold maxLen; omega
   have hge := grownCap_ge w (l.length + k.length) cap e
   have hcm : grownCap w (l.length + k.length) cap e ≤ maxLen := grownCap_le_maxLen w (l.length + k.length) cap e hm
   have hlen : (l.map byteV ++ k.map byteV).length = (l.length + k.length) * 1 := by rw [List.length_append, List.length_map, List.length_map, Nat.mul_one]
   have hrun := run_append_grow (P := P) w t ty e i (.int .u8 0) h1 h2 h3 ⟨g, 0, none⟩ l.length cap (l.map byteV) (by rw [h4]; simp) holds ad k.length c (k.map byteV) (by rw [h4]; simp) hc (by omega) (by omega) (by rw [h5]; exact growslice_fits (by omega) (by omega))
   rw [hll]
   refine ⟨w.heap.size, _, _, hrun, ?_, ⟨rfl, rfl, rfl, by simp, fun x hx _ => Below.heap_alloc w.drew _ x hx⟩, .inr ⟨rfl, ⟨rfl, rfl, rfl, by simp, fun x hx _ => Below.heap_alloc w.drew _ x hx⟩⟩⟩
   have hown : (w.drew.alloc (.cells ((l.map byteV).toArray ++ (k.map byteV).toArray ++ Builtin.zeroCells (Value.int .u8 0).cells (grownCap w (l.length + k.length) cap e - (l.length + k.length))) e)).ownsRow base e 1 (.slice (some ⟨w.heap.size, 0, none⟩) (l.length + k.length) (grownCap w (l.length + k.length) cap e)) (l.length + k.length) (l.map byteV ++ k.map byteV) := by
    refine ⟨hlen, .inr ⟨w.heap.size, _, _, rfl, hbase, heap_alloc_new w.drew _, hge, hcm, ?_, ?_⟩⟩
    · have hz1 : (Value.int IntKind.u8 0).cells.size = 1 := rfl
      simp only [Array.size_append, List.size_toArray, size_zeroCells, hz1, List.length_map]
      omega
    · simp only [Array.toList_append, List.append_assoc]
      rw [← List.append_assoc, ← hlen]
      exact List.take_left
   rw [← List.map_append] at hown
   have hown2 := hown
   rw [← hll] at hown2
   have h := hasRow.of_own hown2 (by simp [hne])
   rw [hll] at h
   exact h
theorem step_append_row {P : Program} {w : World} {ops : Array Oper} {o : Oper} {a : Act} {K : Act → World → Prop} {Q : Exit → Act → World → Prop} {E : Prop} (hgd : o.guard = none) (s x : Operand) (t : TypeId)
 (ho : o.op = .call { callee := .builtin .append, args := #[s, x], argTypes := #[t, t] })
 (e : TypeId) (i : TypeInfo) (h1 : P.underlying t = some (.slice e)) (h2 : P.info? e = some i) (h3 : i.zero = some (.int .u8 0)) (h4 : i.size = 1) (h5 : i.bytes = 1)
 (base : Nat) (v : Value) (l : List UInt8) (hs : a.eval s = v) (hrow : hasRow w base v l)
 (ad : Addr) (c : Nat) (k : List UInt8) (hne : k ≠ []) (hx : a.eval x = .slice (some ad) k.length c) (hc : ∀ j u, (k.map byteV)[j]? = some u → w.cell? (ad.add j) = some u)
 (b2 : l.length + k.length ≤ 140737488355328) (hbase : base ≤ w.heap.size)
 (h : ∀ g' cap' w', hasRow w' base (.slice (some ⟨g', 0, none⟩) (l ++ k).length cap') (l ++ k) → w.grownBy w' v.ownBlock → (v.ownBlock = some g' ∨ (g' = w.heap.size ∧ w.grownBy w' none)) → K (a.put o.dst (.slice (some ⟨g', 0, none⟩) (l ++ k).length cap')) w') :
 if Region.wanted o (yielded ops a.tmps) = true then Oper.wp P o a w K Q else E := by
 have hw : Region.wanted o (yielded ops a.tmps) = true := by simp [Region.wanted, hgd]
 rw [if_pos hw]
 obtain ⟨g', cap', w', hr, r2, r3, r4⟩ := run_append_hasrow (P := P) w t o.type e i h1 h2 h3 h4 h5 base v l hrow ad c k hne hc b2 hbase
 unfold Oper.wp execOp
 simp only [ho, resolve, invoke, builtin, Sem.run_bind, Sem.run_pure, Result.andThen_ok, List.map_toArray, List.map_cons, List.map_nil, hs, hx, hr]
 exact h g' cap' w' r2 r3 r4
theorem wpList_append_hasrow {P : Program} {w : World} {ops : Array Oper} {rest : List Oper} {o : Oper} {a : Act} {Q : Exit → Act → World → Prop} (hgd : o.guard = none) (s x : Operand) (t : TypeId)
 (ho : o.op = .call { callee := .builtin .append, args := #[s, x], argTypes := #[t, t] })
 (e : TypeId) (i : TypeInfo) (h1 : P.underlying t = some (.slice e)) (h2 : P.info? e = some i) (h3 : i.zero = some (.int .u8 0)) (h4 : i.size = 1) (h5 : i.bytes = 1)
 (base : Nat) (v : Value) (l : List UInt8) (hs : a.eval s = v) (hrow : hasRow w base v l)
 (ad : Addr) (c : Nat) (k : List UInt8) (hne : k ≠ []) (hx : a.eval x = .slice (some ad) k.length c) (hc : ∀ j u, (k.map byteV)[j]? = some u → w.cell? (ad.add j) = some u)
 (b2 : l.length + k.length ≤ 140737488355328) (hbase : base ≤ w.heap.size)
 (h : ∀ g' cap' w', hasRow w' base (.slice (some ⟨g', 0, none⟩) (l ++ k).length cap') (l ++ k) → w.grownBy w' v.ownBlock → (v.ownBlock = some g' ∨ (g' = w.heap.size ∧ w.grownBy w' none)) → wpList P ops Q rest (a.put o.dst (.slice (some ⟨g', 0, none⟩) (l ++ k).length cap')) w') :
 wpList P ops Q (o :: rest) a w := by
 refine wpList_plain hgd fun K hK => ?_
 obtain ⟨g', cap', w', hr, r2, r3, r4⟩ := run_append_hasrow (P := P) w t o.type e i h1 h2 h3 h4 h5 base v l hrow ad c k hne hc b2 hbase
 unfold Oper.wp execOp
 simp only [ho, resolve, invoke, builtin, Sem.run_bind, Sem.run_pure, Result.andThen_ok, List.map_toArray, List.map_cons, List.map_nil, hs, hx, hr]
 exact hK _ _ (h g' cap' w' r2 r3 r4)
theorem hasRow.kept {w w' : World} {base : Nat} {v : Value} {l : List UInt8} {r : Option Nat} (h : hasRow w base v l) (hg : w.grownBy w' r) (hr : v.ownBlock ≠ r) : hasRow w' base v l := by
 have h0 := h
 obtain ⟨g, cap, rfl, _, hlt, _⟩ := h0
 exact h.of_block fun k hk => by cases hk; exact ⟨Nat.lt_of_lt_of_le hlt hg.size, hg.block _ hlt hr⟩
theorem hasRow.facts {w : World} {base g n cap : Nat} {l : List UInt8} (h : hasRow w base (.slice (some ⟨g, 0, none⟩) n cap) l) : l.length = n ∧ n ≤ cap ∧ base ≤ g ∧ g < w.heap.size := by
 obtain ⟨g', cap', e, h1, h2, h3, _⟩ := h
 injection e with e1 e2 e3
 injection e1 with e1
 injection e1 with e1
 subst e1 e2 e3
 exact ⟨rfl, h3, h1, h2⟩
theorem hasRow.cell {w : World} {base g n cap : Nat} {l : List UInt8} (h : hasRow w base (.slice (some ⟨g, 0, none⟩) n cap) l) (j : Nat) (u : UInt8) (hu : l[j]? = some u) : w.cell? ⟨g, j, none⟩ = some (.int .u8 (u.toNat : Int)) := by
 obtain ⟨g', cap', e, _, _, _, _, hl⟩ := h
 injection e with e1 e2 e3
 injection e1 with e1
 injection e1 with e1
 subst e1
 exact hl j u hu
theorem app_cell {w w' : World} {base g n cap g' m cap' q : Nat} {l k : List UInt8} {u : UInt8} (hrow : hasRow w base (.slice (some ⟨g, 0, none⟩) n cap) l) (hr' : hasRow w' base (.slice (some ⟨g', 0, none⟩) m cap') (l ++ k))
 (hat : (Value.slice (some ⟨g, 0, none⟩) n cap).ownBlock = some g' ∨ (g' = w.heap.size ∧ w.grownBy w' none)) (hu : l[q]? = some u) : w'.cell? ⟨g, q, none⟩ = some (.int .u8 (u.toNat : Int)) := by
 rcases hat with h | ⟨_, h⟩
 · have e : g = g' := by simpa [Value.ownBlock] using h
   subst e
   refine hr'.cell q u ?_
   rw [List.getElem?_append_left (by rcases Nat.lt_or_ge q l.length with h | h; exact h; rw [List.getElem?_eq_none h] at hu; cases hu)]
   exact hu
 · have hlt := hrow.facts.2.2.2
   rw [World.grownBy.cell_far h ⟨g, q, none⟩ hlt (by simp)]
   exact hrow.cell q u hu
end Go.Proofs.YtconcnndghmdfaaGreatDoor
namespace Go.Proofs.YtconcnndghmdfaaGreatDoor
open Go Go.RowKit
theorem w_add {a b q : Nat} (h : a + b = q) (hq : q ≤ 4611686018427387904) : IntKind.i64.wrap ((a : Int) + (b : Int)) = (q : Int) := by simp only [IntKind.wrap_i64]; omega
theorem w_mul {a b q : Nat} (h : a * b = q) (hq : q ≤ 4611686018427387904) : IntKind.i64.wrap ((a : Int) * (b : Int)) = (q : Int) := by
 have e : (a : Int) * (b : Int) = (q : Int) := by rw [← h]; simp
 rw [e]; simp only [IntKind.wrap_i64]; omega
theorem cell_far {wr : World} {o g q k : Nat} {v x : Value} (d : o ≠ g) (c : wr.cell? ⟨g, q, none⟩ = some x) : (wr.setCell ⟨o, k, none⟩ v).cell? ⟨g, q, none⟩ = some x :=
 (World.cell?_setCell_other wr ⟨o, k, none⟩ ⟨g, q, none⟩ v (by intro e; injection e with e1; exact d e1)).trans c
def rowC (w : World) (g n : Nat) (f : Nat → UInt8) : Prop := g < w.heap.size ∧ ∀ j, j < n → w.cell? ⟨g, j, none⟩ = some (.int .u8 ((f j).toNat : Int)) ∧ w.frozen? ⟨g, j, none⟩ = false
theorem rowC.drew {w : World} {g n : Nat} {f : Nat → UInt8} (h : rowC w g n f) : rowC w.drew g n f := h
theorem rowC.of_block {w w' : World} {g n : Nat} {f : Nat → UInt8} (h : rowC w g n f) (hs : g < w'.heap.size) (hb : w'.heap[g]? = w.heap[g]?) : rowC w' g n f :=
 ⟨hs, fun j hj => by rw [World.cell?_of_block (w := w) hb, World.frozen?_of_block (w := w) hb]; exact h.2 j hj⟩
theorem rowC.below {w w' : World} {g n : Nat} {f : Nat → UInt8} (h : rowC w g n f) (hb : Below w.heap.size w w') : rowC w' g n f := h.of_block (Nat.lt_of_lt_of_le h.1 hb.size) (hb.block g h.1)
theorem rowC.alloc {w : World} {g n : Nat} {f : Nat → UInt8} (h : rowC w g n f) (o : Obj) : rowC (w.alloc o) g n f := h.below ((Below.refl _ _).alloc (Nat.le_refl _) _)
theorem rowC.far {w : World} {g n o k : Nat} {v : Value} {f : Nat → UInt8} (h : rowC w g n f) (d : g ≠ o) : rowC (w.setCell ⟨o, k, none⟩ v) g n f :=
 h.of_block (by have := h.1; simpa [World.setCell] using this) (Below.heap_setCell _ _ _ _ d)
theorem rowC.set {w : World} {g n k : Nat} {f : Nat → UInt8} {X : Nat} {Y : UInt8} (h : rowC w g n f) (hk : k < n) (hX : X = Y.toNat) : rowC (w.setCell ⟨g, k, none⟩ (.int .u8 (X : Int))) g n (fun j => if j = k then Y else f j) := by
 subst hX
 refine ⟨by have := h.1; simpa [World.setCell] using this, fun j hj => ⟨?_, ?_⟩⟩
 · show _ = some (Value.int .u8 ((if j = k then Y else f j).toNat : Int))
   by_cases e : j = k
   · subst e
     rw [World.cell?_setCell_same _ _ _ (h.2 j hj).1, if_pos rfl]
   · rw [World.cell?_setCell_other _ _ _ _ (by intro e2; injection e2 with _ e3; exact e e3.symm), if_neg e]
     exact (h.2 j hj).1
 · rw [World.frozen?_setCell]; exact (h.2 j hj).2
theorem rowC.of_text {w : World} {base g n cap : Nat} {l : List UInt8} {f : Nat → UInt8} (h : hasRow w base (.slice (some ⟨g, 0, none⟩) n cap) l) (hl : ∀ j, j < n → l[j]? = some (f j)) : rowC w g n f := by
 obtain ⟨h1, h2, _, h4⟩ := h.facts
 obtain ⟨g', cap', e, _, _, _, hc, _⟩ := id h
 injection e with e1 e2 e3
 injection e1 with e1
 injection e1 with e1
 subst e1 e2 e3
 exact ⟨h4, fun j hj => ⟨h.cell j _ (hl j hj), (hc j (by omega)).2⟩⟩
def bF (b : ByteArray) (j : Nat) : UInt8 := b.data.toList.getD j 0
theorem bF_at (b : ByteArray) (n : Nat) (hb : b.size = n) : ∀ j, j < n → b.data.toList[j]? = some (bF b j) := by
 intro j hj
 have h : j < b.data.toList.length := by have e : b.data.toList.length = b.size := rfl; omega
 rw [bF, List.getD_eq_getElem?_getD, List.getElem?_eq_getElem h]; rfl
theorem conv_rowC {P : Program} {w : World} {g e src dst cap n : Nat} {f : Nat → UInt8} {l : List UInt8} (h : rowC w g n f) (hl : ∀ j, j < n → l[j]? = some (f j)) (hn : l.length = n) (hs : P.underlying src = some (.slice e)) (he : P.underlying e = some (.int .u8)) (hd : P.underlying dst = some .string) :
 (convert src dst (.slice (some ⟨g, 0, none⟩) n cap)).run P w = .ok (.string ⟨l.toArray⟩) w := by
 have hr := run_convert_bytes_back (P := P) w src dst e ⟨g, 0, none⟩ cap l hs he hd (fun j hj => by
  have hc := (h.2 j (by omega)).1
  have ea : (⟨g, 0, none⟩ : Addr).add j = ⟨g, j, none⟩ := by by_cases hz : j = 0 <;> simp [Addr.add, hz]
  have e2 := hl j (by omega)
  rw [List.getElem?_eq_getElem hj] at e2
  rw [ea, hc, Option.some.inj e2])
 rw [hn] at hr
 exact hr
end Go.Proofs.YtconcnndghmdfaaGreatDoor
