/- Put together: RngC, RngK, RngS. -/
import Derived.Test.YtconcnndghmdfaaGreatDoorSf31
import Derived.Test.YtconcnndghmdfaaGreatDoorSf13
namespace Go.Proofs.YtconcnndghmdfaaGreatDoor
open Go.RowKit
theorem cd_cells {w : World} {g T size x : Nat} {ch : Nat → Nat} {v : Value} (h : w.rowIs g T 1603 (cdF size ch x v)) :
 w.cell? ⟨g, 0, none⟩ = some (.int .u64 (size : Nat)) ∧ w.cell? ⟨g, 1601, none⟩ = some (.int .u64 (x : Nat)) ∧ w.cell? ⟨g, 1602, none⟩ = some v ∧ ∀ c, c < 1600 → w.cell? ⟨g, 1 + c, none⟩ = some (.int .u64 (ch c : Nat)) := by
 refine ⟨h.cell (i := 0) (by omega), h.cell (i := 1601) (by omega), h.cell (i := 1602) (by omega), fun c hc => ?_⟩
 rw [h.cell (i := 1 + c) (by omega)]
 unfold cdF parF
 rw [if_pos (by omega), if_neg (by omega), show 1 + c - 1 = c by omega]
theorem cd_set {w : World} {g T size x : Nat} {ch : Nat → Nat} {v : Value} (h : w.rowIs g T 1603 (cdF size ch x v)) :
 (∀ y : Nat, (w.setCell ⟨g, 0, none⟩ (.int .u64 (y : Int))).rowIs g T 1603 (cdF y ch x v)) ∧ (∀ y : Nat, (w.setCell ⟨g, 1601, none⟩ (.int .u64 (y : Int))).rowIs g T 1603 (cdF size ch y v)) ∧ (∀ u, (w.setCell ⟨g, 1602, none⟩ u).rowIs g T 1603 (cdF size ch x u)) ∧ (∀ c y : Nat, c < 1600 → (w.setCell ⟨g, 1 + c, none⟩ (.int .u64 (y : Int))).rowIs g T 1603 (cdF size (setCh ch c y) x v)) := by
 refine ⟨fun y => (h.set 0 _).congr fun i hi => ?_, fun y => (h.set 1601 _).congr fun i hi => ?_, fun u => (h.set 1602 _).congr fun i hi => ?_, fun c y hc => (h.set (1 + c) _).congr fun i hi => ?_⟩
 · show (if i = 0 then Value.int .u64 (y : Int) else cdF size ch x v i) = _
   unfold cdF parF
   by_cases e : i = 0
   · rw [if_pos e, if_pos (by omega), if_pos e]
   · rw [if_neg e, if_neg e, if_neg e]
 · show (if i = 1601 then Value.int .u64 (y : Int) else cdF size ch x v i) = _
   unfold cdF
   by_cases e : i = 1601
   · rw [if_pos e, if_neg (by omega), if_pos e]
   · rw [if_neg e, if_neg e, if_neg e]
 · show (if i = 1602 then u else cdF size ch x v i) = _
   unfold cdF
   by_cases e : i = 1602
   · rw [if_pos e, if_neg (by omega), if_neg (by omega)]
   · rw [if_neg e]
     by_cases e1 : i ≤ 1600
     · rw [if_pos e1, if_pos e1]
     · rw [if_neg e1, if_neg e1, if_pos (by omega), if_pos (by omega)]
 · show (if i = 1 + c then Value.int .u64 (y : Int) else cdF size ch x v i) = _
   unfold cdF parF setCh
   by_cases e : i = 1 + c
   · rw [if_pos e, if_pos (by omega), if_neg (by omega), if_pos (by omega)]
   · rw [if_neg e]
     by_cases e1 : i ≤ 1600
     · rw [if_pos e1, if_pos e1]
       by_cases e0 : i = 0
       · rw [if_pos e0, if_pos e0]
       · rw [if_neg e0, if_neg e0, if_neg (by omega)]
     · rw [if_neg e1, if_neg e1]
theorem grown0 (w : World) (r : Option Nat) : w.grownBy w r := ⟨rfl, rfl, rfl, Nat.le_refl _, fun _ _ _ => rfl⟩
set_option maxRecDepth 100000 in
set_option maxHeartbeats 800000 in
theorem imp_bound (g T size x c : Nat) (ch : Nat → Nat) (v : Value) (w : World) (hs : size ≤ 4294967295) (hc : c < 1600) (hp : ch c ≤ 2048) (hr : w.rowIs g T 1603 (cdF size ch x v)) :
 Calls Tryz.prog 116 #[.pointer (some ⟨g, 0, none⟩), .int .i64 (c : Int)] w fun e w' => e = .returned (.int .u64 ((size / 2048 * ch c : Nat) : Int)) ∧ ∃ n, w' = w.drewN n := by
 obtain ⟨c0, _, _, c4⟩ := cd_cells hr
 have c3 := c4 c hc
 clear c4
 obtain ⟨p, ep⟩ : ∃ p, p = ch c := ⟨_, rfl⟩
 rw [← ep] at c3 hp ⊢
 obtain ⟨q, eq⟩ : ∃ q, q = size / 2048 := ⟨_, rfl⟩
 obtain ⟨b, eb⟩ : ∃ b, b = q * p := ⟨_, rfl⟩
 have hb : b ≤ 4294967296 := by
  have h1 : q ≤ 2097151 := by omega
  have := Nat.mul_le_mul h1 hp
  omega
 have k1 : (size : Int) / 2048 = (q : Int) := by omega
 have k2 : IntKind.u64.wrap ((q : Int) * (p : Int)) = (b : Int) := by
  have e : (q : Int) * (p : Int) = (b : Int) := by rw [eb]; simp
  rw [e, IntKind.wrap_u64]; omega
 have k3 : IntKind.u64.wrap (q : Int) = (q : Int) := by rw [IntKind.wrap_u64]; omega
 have hc' : (c : Int) < 1600 := by omega
 have HE := hide (show (size / 2048 * p : Nat) = b by rw [eb, eq])
 clear ep eq eb hr
 go_enter Tryz.func116, Tryz.ntmps116
 go_wp2_with fail
 go_quiet (fail)
 go_wp2_with fail
 go_ret
 exact ⟨by rw [HE.out]; rfl, _, rfl⟩
set_option maxRecDepth 100000 in
set_option maxHeartbeats 800000 in
theorem imp_narrow (g T size x c b : Nat) (one : Bool) (ch : Nat → Nat) (v : Value) (w : World) (hs : size ≤ 4294967295) (hb : b ≤ size) (hc : c < 1600) (hp : ch c ≤ 2048) (hr : w.rowIs g T 1603 (cdF size ch x v)) :
 Calls Tryz.prog 118 #[.pointer (some ⟨g, 0, none⟩), .agg #[.int .i64 (c : Int), .bool one], .int .u64 (b : Int)] w fun e w' => e = .returned (.tuple #[]) ∧ w'.rowIs g T 1603 (if one = true then cdF (size - b) (setCh ch c (chOne (ch c))) x v else cdF b (setCh ch c (chNot (ch c))) x v) ∧ w.grownBy w' (some g) := by
 have hgl := hr.lt
 have R1 := hr.alloc (.cells #[.int .i64 (c : Int), .bool one] 122)
 have G1 := World.grownBy_alloc w (.cells #[.int .i64 (c : Int), .bool one] 122) (some g)
 have b0 : (w.alloc (.cells #[.int .i64 (c : Int), .bool one] 122)).cell? ⟨w.heap.size, 0, none⟩ = some (.int .i64 (c : Int)) := by simp
 have b1 : (w.alloc (.cells #[.int .i64 (c : Int), .bool one] 122)).cell? ⟨w.heap.size, 1, none⟩ = some (.bool one) := by simp
 obtain ⟨p, ep⟩ : ∃ p, p = ch c := ⟨_, rfl⟩
 obtain ⟨d, ed⟩ : ∃ d, d = p / 32 := ⟨_, rfl⟩
 obtain ⟨q, eq⟩ : ∃ q, q = 2048 - p := ⟨_, rfl⟩
 obtain ⟨u, eu⟩ : ∃ u, u = q / 32 := ⟨_, rfl⟩
 obtain ⟨p1, ep1⟩ : ∃ x, x = p - d := ⟨_, rfl⟩
 obtain ⟨p0, ep0⟩ : ∃ x, x = p + u := ⟨_, rfl⟩
 obtain ⟨sb, esb⟩ : ∃ x, x = size - b := ⟨_, rfl⟩
 have hp2 : p ≤ 2048 := by omega
 have k1 : (p : Int) / 32 = (d : Int) := by omega
 have k2 : (2048 : Int) - (p : Int) = (q : Int) := by omega
 have k3 : (q : Int) / 32 = (u : Int) := by omega
 have k4 : (p : Int) - (d : Int) = (p1 : Int) := by omega
 have k5 : (p : Int) + (u : Int) = (p0 : Int) := by omega
 have k6 : (size : Int) - (b : Int) = (sb : Int) := by omega
 have j1 : IntKind.u64.wrap (d : Int) = (d : Int) := by rw [IntKind.wrap_u64]; omega
 have j2 : IntKind.u64.wrap ((2048 : Int) - (p : Int)) = (q : Int) := by rw [IntKind.wrap_u64]; omega
 have j3 : IntKind.u64.wrap (u : Int) = (u : Int) := by rw [IntKind.wrap_u64]; omega
 have j4 : IntKind.u64.wrap ((p : Int) - (d : Int)) = (p1 : Int) := by rw [IntKind.wrap_u64]; omega
 have j5 : IntKind.u64.wrap ((p : Int) + (u : Int)) = (p0 : Int) := by rw [IntKind.wrap_u64]; omega
 have j6 : IntKind.u64.wrap ((size : Int) - (b : Int)) = (sb : Int) := by rw [IntKind.wrap_u64]; omega
 have hc' : (c : Int) < 1600 := by omega
 have HO := hide (show chOne (ch c) = p1 ∧ chNot (ch c) = p0 ∧ size - b = sb from ⟨by unfold chOne; rw [← ep]; omega, by unfold chNot; rw [← ep]; omega, esb.symm⟩)
 rw [HO.out.1, HO.out.2.1, HO.out.2.2]
 have CE := hide ep
 clear ep ed eq eu ep1 ep0 esb hr HO
 cases one with
 | true =>
   go_enter Tryz.func118, Tryz.ntmps118
   go_wp2_with fail
   generalize w.alloc (.cells #[.int .i64 (c : Int), .bool true] 122) = W1 at *
   have hz : g ≠ w.heap.size := by omega
   generalize w.heap.size = z at *
   obtain ⟨c0, _, _, c4⟩ := cd_cells R1
   have c3 := c4 c hc
   rw [← CE.out] at c3
   clear c4
   go_quiet (fail)
   have R2 : (W1.drewN nq).rowIs g T 1603 (cdF size ch x v) := R1
   have G2 : w.grownBy (W1.drewN nq) (some g) := ⟨G1.os, G1.tape, G1.output, G1.size, G1.block⟩
   have b0' : (W1.drewN nq).cell? ⟨z, 0, none⟩ = some (.int .i64 (c : Int)) := b0
   have b1' : (W1.drewN nq).cell? ⟨z, 1, none⟩ = some (.bool true) := b1
   have c0' : (W1.drewN nq).cell? ⟨g, 0, none⟩ = some (.int .u64 (size : Nat)) := c0
   have f0 := R2.frozen 0
   generalize W1.drewN nq = W2 at *
   clear c0 c3 b0 b1 G1 R1
   go_wp2_with fail
   have R3 := (cd_set R2).1 sb
   have G3 := grownBy_set (i := 0) G2 (.int .u64 (sb : Nat))
   have d0 := cell_far (k := 0) (v := .int .u64 (sb : Nat)) hz b0'
   generalize W2.setCell ⟨g, 0, none⟩ (.int .u64 (sb : Nat)) = W3 at *
   obtain ⟨_, _, _, c4⟩ := cd_cells R3
   have c3 := c4 c hc
   rw [← CE.out] at c3
   have f3 := R3.frozen (1 + c)
   have H := hide (And.intro R3 G3)
   clear c4 b0' b1' c0' f0 R2 G2 R3 G3
   go_region
   have R4 := (cd_set H.out.1).2.2.2 c p1 hc
   have G4 := grownBy_set (i := 1 + c) H.out.2 (.int .u64 (p1 : Nat))
   go_wp2_with fail
   exact bodyPost_ret (v := .tuple #[]) (by simp [results, Tryz.results118]) rfl ⟨rfl, R4.drew, grownBy_drew G4⟩
 | false =>
   go_enter Tryz.func118, Tryz.ntmps118
   go_wp2_with fail
   generalize w.alloc (.cells #[.int .i64 (c : Int), .bool false] 122) = W1 at *
   have hz : g ≠ w.heap.size := by omega
   generalize w.heap.size = z at *
   obtain ⟨c0, _, _, c4⟩ := cd_cells R1
   have c3 := c4 c hc
   rw [← CE.out] at c3
   clear c4
   go_quiet (fail)
   have R2 : (W1.drewN nq).rowIs g T 1603 (cdF size ch x v) := R1
   have G2 : w.grownBy (W1.drewN nq) (some g) := ⟨G1.os, G1.tape, G1.output, G1.size, G1.block⟩
   have b0' : (W1.drewN nq).cell? ⟨z, 0, none⟩ = some (.int .i64 (c : Int)) := b0
   have b1' : (W1.drewN nq).cell? ⟨z, 1, none⟩ = some (.bool false) := b1
   have c0' : (W1.drewN nq).cell? ⟨g, 0, none⟩ = some (.int .u64 (size : Nat)) := c0
   have f0 := R2.frozen 0
   generalize W1.drewN nq = W2 at *
   clear c0 c3 b0 b1 G1 R1
   go_wp2_with fail
   have R3 := (cd_set R2).1 b
   have G3 := grownBy_set (i := 0) G2 (.int .u64 (b : Nat))
   have d0 := cell_far (k := 0) (v := .int .u64 (b : Nat)) hz b0'
   generalize W2.setCell ⟨g, 0, none⟩ (.int .u64 (b : Nat)) = W3 at *
   obtain ⟨_, _, _, c4⟩ := cd_cells R3
   have c3 := c4 c hc
   rw [← CE.out] at c3
   have f3 := R3.frozen (1 + c)
   have H := hide (And.intro R3 G3)
   clear c4 b0' b1' c0' f0 R2 G2 R3 G3
   go_region
   have R4 := (cd_set H.out.1).2.2.2 c p0 hc
   have G4 := grownBy_set (i := 1 + c) H.out.2 (.int .u64 (p0 : Nat))
   go_wp2_with fail
   go_end0
   exact ⟨rfl, R4.drew, grownBy_drew G4⟩
set_option maxRecDepth 100000 in
set_option maxHeartbeats 400000 in
theorem imp_widen_yes (g T size x : Nat) (ch : Nat → Nat) (v : Value) (w : World) (h : size < 16777216) (hr : w.rowIs g T 1603 (cdF size ch x v)) :
 Calls Tryz.prog 119 #[.pointer (some ⟨g, 0, none⟩)] w fun e w' => e = .returned (.bool true) ∧ w'.rowIs g T 1603 (cdF (256 * size) ch x v) ∧ w.grownBy w' (some g) := by
 obtain ⟨c0, _, _, _⟩ := cd_cells hr
 have f0 := hr.frozen 0
 have h' : ¬ (16777216 : Int) ≤ (size : Int) := by omega
 have R1 := (cd_set hr).1 (256 * size)
 have G1 := grownBy_set (i := 0) (grown0 w (some g)) (.int .u64 (256 * size : Nat))
 obtain ⟨s1, e1⟩ : ∃ s1, s1 = 256 * size := ⟨_, rfl⟩
 rw [← e1] at R1 G1 ⊢
 have k1 : IntKind.u64.wrap ((size : Int) * 256) = (s1 : Int) := by rw [IntKind.wrap_u64]; omega
 have k2 : (size : Int) * 256 = (s1 : Int) := by omega
 have H := hide (And.intro R1 G1)
 clear e1 R1 G1 hr
 go_enter Tryz.func119, Tryz.ntmps119
 go_wp2_with fail
 go_ret
 exact ⟨rfl, H.out.1, H.out.2⟩
set_option maxRecDepth 100000 in
set_option maxHeartbeats 400000 in
theorem imp_widen_no (g T size x : Nat) (ch : Nat → Nat) (v : Value) (w : World) (h : ¬ size < 16777216) (hr : w.rowIs g T 1603 (cdF size ch x v)) :
 Calls Tryz.prog 119 #[.pointer (some ⟨g, 0, none⟩)] w fun e w' => e = .returned (.bool false) ∧ w' = w := by
 obtain ⟨c0, _, _, _⟩ := cd_cells hr
 have h' : (16777216 : Int) ≤ (size : Int) := by omega
 clear hr
 go_enter Tryz.func119, Tryz.ntmps119
 go_wp2_with fail
 go_ret
 exact ⟨rfl, rfl⟩
set_option maxRecDepth 100000 in
set_option maxHeartbeats 800000 in
theorem imp_carry (base g go n cap low size V : Nat) (ch : Nat → Nat) (w : World) (hn : 0 < n) (hn2 : n ≤ 100000) (hV : V + 1 < 256 ^ n) (hrow : w.rowIs g 112 1603 (cdF size ch low (.slice (some ⟨go, 0, none⟩) n cap))) (hown : ownB w base (.slice (some ⟨go, 0, none⟩) n cap) n (byN n V)) (hne : go ≠ g) :
 Calls Tryz.prog 142 #[.pointer (some ⟨g, 0, none⟩)] w fun e w' => e = .returned (.tuple #[]) ∧ ownB w' base (.slice (some ⟨go, 0, none⟩) n cap) n (byN n (V + 1)) ∧ w.grownBy w' (some go) := by
 have c0 := (cd_cells hrow).2.2.1
 have hHR := hide hrow
 clear hrow
 have hcap : n ≤ cap := by
  obtain ⟨_, ⟨h, _⟩ | ⟨g', cap', cur, h, _, _, h2, _⟩⟩ := hown
  · cases h
  · cases h; exact h2
 have hcap2 : (n : Int) ≤ (cap : Int) := by omega
 go_enter Tryz.func142, Tryz.ntmps142
 go_wp2_with fail
 clear c0
 go_loopw [2] (fun i wx => ∃ (k : Nat) (f : Nat → UInt8), k ≤ n ∧ i = .int .i64 ((n : Int) - 1 - (k : Int)) ∧ Hid (∀ j, j < n → f j = cutZ n V k j) ∧ Hid (V % 256 ^ k = 256 ^ k - 1) ∧ Hid (ownB wx base (.slice (some ⟨go, 0, none⟩) n cap) n f) ∧ Hid (w.grownBy wx (some go))) (fun i _ => (intOf i + 1).toNat)
 case atStart => exact ⟨0, byN n V, by omega, by go_num, fun j hj => by rw [cutZ, if_neg (by omega)], by unfold Hid; rw [Nat.pow_zero, Nat.mod_one], hown, ⟨rfl, rfl, rfl, Nat.le_refl _, fun _ _ _ => rfl⟩⟩
 case round =>
  obtain ⟨k, f, hk, rfl, hf, hm, how, hgr⟩ := hrel
  have hrow := hHR.out.of_block (hgr.out.block g hHR.out.lt (by simp; omega))
  by_cases hlt : k < n
  · obtain ⟨i, ei⟩ : ∃ i, i = n - 1 - k := ⟨_, rfl⟩
    have e1 : (n : Int) - 1 - (k : Int) = (i : Int) := by omega
    rw [e1]
    have hi : i < n := by omega
    have hi' : (i : Int) < (n : Int) := by omega
    have c0 := (cd_cells hrow).2.2.1
    have ci := how.out.cell i hi
    have fi := World.ownsRow.frozenAt how.out i
    obtain ⟨b, hb⟩ : ∃ b, b = V / 256 ^ k % 256 := ⟨_, rfl⟩
    have hfi : f i = UInt8.ofNat b := by rw [hf.out i hi, cutZ, if_neg (by omega), byN, show n - 1 - i = k by omega, hb]
    have hb8 : b < 256 := by omega
    rw [hfi, show ((UInt8.ofNat b).toNat : Int) = (b : Int) by rw [UInt8.toNat_ofNat']; omega] at ci
    by_cases h255 : b = 255
    · obtain ⟨b1, hb1⟩ : ∃ x : Nat, x = 0 := ⟨_, rfl⟩
      have hw : IntKind.u8.wrap ((b : Int) + 1) = (b1 : Int) := by rw [IntKind.wrap_u8]; omega
      have hb1' : ((b1 : Int) == 0) = true := by simp; omega
      have how2 := hide (how.out.set (Y := UInt8.ofNat b1) hi (show b1 = (UInt8.ofNat b1).toNat by rw [UInt8.toNat_ofNat']; omega))
      have hgr2 := hide (grownBy_setB (i := i) hgr.out (.int .u8 (b1 : Int)))
      have c0' : (wr.setCell ⟨go, i, none⟩ (.int .u8 (b1 : Int))).cell? ⟨g, 1602, none⟩ = some (.slice (some ⟨go, 0, none⟩) n cap) := cell_far hne c0
      have ci' : (wr.setCell ⟨go, i, none⟩ (.int .u8 (b1 : Int))).cell? ⟨go, i, none⟩ = some (.int .u8 (b1 : Int)) := World.cell?_setCell_same _ _ _ ci
      have hf' := hide (show ∀ j, j < n → (if j = i then UInt8.ofNat b1 else f j) = cutZ n V (k + 1) j from fun j hj => by
       by_cases e : j = i
       · rw [if_pos e, cutZ, if_pos (by omega), hb1]; rfl
       · rw [if_neg e, hf.out j hj, cutZ, cutZ]
         by_cases e2 : n - k ≤ j
         · rw [if_pos e2, if_pos (by omega)]
         · rw [if_neg e2, if_neg (by omega)])
      have hm' := hide (carry_more V k hm.out (by rw [← hb]; exact h255))
      have HI1 := hide (show (i : Int) - 1 = (n : Int) - 1 - ((k + 1 : Nat) : Int) by omega)
      clear ei hb e1 hfi h255 hb1 hf hm how hgr hrow
      go_wp2_with fail
      go_roundw
      case rel => exact ⟨k + 1, _, by omega, by rw [← HI1.out], hf', hm', how2, hgr2⟩
      case measure => simp [intOf]
    · obtain ⟨b1, hb1⟩ : ∃ x : Nat, x = b + 1 := ⟨_, rfl⟩
      have hw : IntKind.u8.wrap ((b : Int) + 1) = (b1 : Int) := by rw [IntKind.wrap_u8]; omega
      have hb1' : ((b1 : Int) == 0) = false := by simp; omega
      have how2 := how.out.set (Y := UInt8.ofNat b1) hi (show b1 = (UInt8.ofNat b1).toNat by rw [UInt8.toNat_ofNat']; omega)
      have hgr2 := hide (grownBy_setB (i := i) hgr.out (.int .u8 (b1 : Int)))
      have c0' : (wr.setCell ⟨go, i, none⟩ (.int .u8 (b1 : Int))).cell? ⟨g, 1602, none⟩ = some (.slice (some ⟨go, 0, none⟩) n cap) := cell_far hne c0
      have ci' : (wr.setCell ⟨go, i, none⟩ (.int .u8 (b1 : Int))).cell? ⟨go, i, none⟩ = some (.int .u8 (b1 : Int)) := World.cell?_setCell_same _ _ _ ci
      have hf' := (show ∀ j, j < n → (if j = i then UInt8.ofNat b1 else f j) = byN n (V + 1) j from fun j hj => by
       rw [carry_by n V k j hlt hj hm.out (by rw [← hb]; exact h255), ← hb, ← ei]
       by_cases e : j = i
       · rw [if_pos e, if_pos e, hb1]
       · rw [if_neg e, if_neg e, hf.out j hj])
      have how3 := hide (how2.congr hf')
      clear hf' how2 hf hm ei hb e1 hfi h255 hb1 how hgr hrow
      go_wp2_with fail
      exact bodyPost_ret (v := .tuple #[]) (by simp [results, Tryz.results142]) rfl ⟨rfl, how3.out, hgr2.out⟩
  · exact absurd (carry_never n V hV (by rw [show n = k by omega]; exact hm.out)) id
def CodP (w : World) (base g size : Nat) (ch : Nat → Nat) (low n : Nat) : Prop :=
 ∃ ov, w.rowIs g 112 1603 (cdF size ch (low % 4294967296) ov) ∧ ownB w base ov n (byN n (low / 4294967296)) ∧ ov.ownBlock ≠ some g
set_option maxRecDepth 100000 in
set_option maxHeartbeats 1600000 in
theorem imp_shiftK (base g size low nn : Nat) (ch : Nat → Nat) (ov : Value) (w : World) (hnb : nn ≤ 100000) (hbg : base ≤ g) (hr : w.rowIs g 112 1603 (cdF size ch (low % 4294967296) ov)) (ho : ownB w base ov nn (byN nn (low / 4294967296))) (hd1 : ov.ownBlock ≠ some g) :
 Calls Tryz.prog 89 #[.pointer (some ⟨g, 0, none⟩)] w fun e w' => e = .returned (.tuple #[]) ∧ (∃ ov', w'.rowIs g 112 1603 (cdF size ch (256 * low % 4294967296) ov') ∧ ownB w' base ov' (nn + 1) (byN (nn + 1) (256 * low / 4294967296)) ∧ ov'.ownBlock ≠ some g ∧ ∀ k, ov'.ownBlock = some k → ov.ownBlock = some k ∨ w.heap.size ≤ k) ∧ Below base w w' ∧ ∀ k, k < w.heap.size → k ≠ g → ov.ownBlock ≠ some k → w'.heap[k]? = w.heap[k]? := by
 obtain ⟨l, hl⟩ : ∃ l, l = low % 4294967296 := ⟨_, rfl⟩
 rw [← hl] at hr
 obtain ⟨_, c1, c0, _⟩ := cd_cells hr
 have f0 := hr.frozen 1602
 have hl32 : l < 4294967296 := by omega
 obtain ⟨b, hb⟩ : ∃ b : UInt8, b = UInt8.ofNat (l / 16777216) := ⟨_, rfl⟩
 have hbn : b.toNat = l / 16777216 := by rw [hb, UInt8.toNat_ofNat']; omega
 obtain ⟨y, hy⟩ : ∃ y, y = l / 16777216 := ⟨_, rfl⟩
 have m1 : (l : Int) / 16777216 = (y : Int) := by omega
 have m2 : IntKind.u8.wrap (y : Int) = (y : Int) := by rw [IntKind.wrap_u8]; omega
 have hy8 : (y : Int) ≤ 255 := by omega
 obtain ⟨i0, hi0, hz0, hz1, hz2⟩ := info_parts Tryz.infoB8r
 have HT := hide (And.intro hl (And.intro hbn hy))
 clear hl hb hbn hy
 go_enter Tryz.func89, Tryz.ntmps89
 go_wp2_with fail
 refine wp_region_held_drew (S := fun w' => w'.cell? ⟨g, 1601, none⟩ = some (.int .u64 (l : Nat))) (by kernel_rfl) c1 (fun hHeld => ?_)
 refine takeD (i := 0) (v := .pointer (some ⟨g, 0, none⟩)) (some 2) rfl rfl (by kernel_rfl) (by kernel_rfl) (by kernel_rfl) (fun _ _ _ h => h) (Or.inl ⟨by rfl, fun w hSw => by go_simp⟩) hHeld ?_
 simp only [Act.put, List.setIfInBounds_toArray, List.set_cons_zero, List.set_cons_succ]
 refine takeD (i := 1) (v := .pointer (some ⟨g, 0, none⟩)) (some 3) rfl rfl (by kernel_rfl) (by kernel_rfl) (by kernel_rfl) (fun _ _ _ h => h) (Or.inl ⟨by rfl, fun w hSw => by go_simp⟩) hHeld ?_
 simp only [Act.put, List.setIfInBounds_toArray, List.set_cons_zero, List.set_cons_succ]
 refine takeD (i := 2) (v := .pointer (some ⟨g, 0, none⟩)) (some 4) rfl rfl (by kernel_rfl) (by kernel_rfl) (by kernel_rfl) (fun _ _ _ h => h) (Or.inl ⟨by rfl, fun w hSw => by go_simp⟩) hHeld ?_
 simp only [Act.put, List.setIfInBounds_toArray, List.set_cons_zero, List.set_cons_succ]
 refine takeD (i := 3) (v := .pointer (some ⟨g, 1602, none⟩)) (some 5) rfl rfl (by kernel_rfl) (by kernel_rfl) (by kernel_rfl) (fun _ _ _ h => h) (Or.inl ⟨by rfl, fun w hSw => by go_simp⟩) hHeld ?_
 simp only [Act.put, List.setIfInBounds_toArray, List.set_cons_zero, List.set_cons_succ]
 refine takeD (i := 5) (v := .pointer (some ⟨g, 0, none⟩)) (some 7) rfl rfl (by kernel_rfl) (by kernel_rfl) (by kernel_rfl) (fun _ _ _ h => h) (Or.inl ⟨by rfl, fun w hSw => by go_simp⟩) hHeld ?_
 simp only [Act.put, List.setIfInBounds_toArray, List.set_cons_zero, List.set_cons_succ]
 refine takeD (i := 6) (v := .pointer (some ⟨g, 0, none⟩)) (some 8) rfl rfl (by kernel_rfl) (by kernel_rfl) (by kernel_rfl) (fun _ _ _ h => h) (Or.inl ⟨by rfl, fun w hSw => by go_simp⟩) hHeld ?_
 simp only [Act.put, List.setIfInBounds_toArray, List.set_cons_zero, List.set_cons_succ]
 refine takeD (i := 7) (v := .pointer (some ⟨g, 1601, none⟩)) (some 9) rfl rfl (by kernel_rfl) (by kernel_rfl) (by kernel_rfl) (fun _ _ _ h => h) (Or.inl ⟨by rfl, fun w hSw => by go_simp⟩) hHeld ?_
 simp only [Act.put, List.setIfInBounds_toArray, List.set_cons_zero, List.set_cons_succ]
 refine takeD (i := 8) (v := .int .u64 (l : Int)) (some 10) rfl rfl (by kernel_rfl) (by kernel_rfl) (by kernel_rfl) (fun _ _ _ h => h) (Or.inl ⟨by rfl, fun w hSw => by go_simp⟩) hHeld ?_
 simp only [Act.put, List.setIfInBounds_toArray, List.set_cons_zero, List.set_cons_succ]
 refine takeD (i := 9) (v := .int .u64 (y : Int)) (some 11) rfl rfl (by kernel_rfl) (by kernel_rfl) (by kernel_rfl) (fun _ _ _ h => h) (Or.inl ⟨by rfl, fun w hSw => by go_simp⟩) hHeld ?_
 simp only [Act.put, List.setIfInBounds_toArray, List.set_cons_zero, List.set_cons_succ]
 refine takeD (i := 10) (v := .int .u8 (y : Int)) (some 12) rfl rfl (by kernel_rfl) (by kernel_rfl) (by kernel_rfl) (fun _ _ _ h => h) (Or.inl ⟨by rfl, fun w hSw => by go_simp⟩) hHeld ?_
 simp only [Act.put, List.setIfInBounds_toArray, List.set_cons_zero, List.set_cons_succ]
 have ra := hr.drew.alloc (.cells #[.int .u8 (y : Int)] 5)
 have ca0 : (w.drew.alloc (.cells #[.int .u8 (y : Int)] 5)).cell? ⟨g, 1602, none⟩ = some ov := (cd_cells ra).2.2.1
 have ca1 : (w.drew.alloc (.cells #[.int .u8 (y : Int)] 5)).cell? ⟨g, 1601, none⟩ = some (.int .u64 (l : Nat)) := (cd_cells ra).2.1
 have oa := World.ownsRow.alloc (World.ownsRow.drew ho) (.cells #[.int .u8 (y : Int)] 5)
 have hba := (Below.refl base w).drew.alloc (show base ≤ w.drew.heap.size by have := hr.lt; exact Nat.le_trans hbg (Nat.le_of_lt this)) (.cells #[.int .u8 (y : Int)] 5)
 have AA := hide (And.intro oa hba)
 have KA := hide (show ∀ k, k < w.heap.size → (w.drew.alloc (.cells #[.int .u8 (y : Int)] 5)).heap[k]? = w.heap[k]? from fun k hk => Below.heap_alloc w.drew _ k hk)
 have hglt := hr.lt
 clear oa hba
 refine wpAnyH_ready (rs := [4, 11]) (by kernel_rfl) (by simp) ?_
 refine AllReadyH.cons rfl (fun KK hK => ?_) (AllReadyH.cons rfl (fun KK hK => ?_) AllReadyH.nil)
 · go_simp
   refine hK.out _ _ c1 (fun hHeld => ?_)
   clear hK KK
   refine wpAnyH_ready (rs := [11]) (by kernel_rfl) (by simp) ?_
   refine AllReadyH.cons rfl (fun KK hK => ?_) AllReadyH.nil
   go_simp
   refine hK.out _ _ ca1 (fun hHeld => ?_)
   clear hK KK
   refine wpAnyH_ready (rs := [12]) (by kernel_rfl) (by simp) ?_
   refine AllReadyH.cons rfl (fun KK hK => ?_) AllReadyH.nil
   refine step_append_D _ (some 14) rfl rfl (.tmp 6) (.tmp 13) 22 rfl base 5 i0 (.int .u8 0) 1 1 Tryz.underlying22 hi0 hz0 hz1 hz2 rfl (by omega) ov nn _ rfl AA.out.1 ⟨w.heap.size, 0, none⟩ 1 1 [.int .u8 (y : Int)] rfl rfl (one_cell w.drew _ _) (one_oneCell .u8 _) (by omega) (by unfold maxLen; omega) (by omega) (by simp; omega) (w.heap.size + 1) (by simp) ?_
   intro g' cap' w2 hown' hgr' hat' hlt'
   have r2 := ra.of_block (hgr'.block g (by simp; omega) (fun e => hd1 e.symm))
   simp only [Act.put, List.setIfInBounds_toArray, List.set_cons_zero, List.set_cons_succ]
   refine hK.out _ _ (cd_cells r2).2.1 (fun hHeld => ?_)
   clear hK KK
   refine takeD (i := 13) (v := .pointer (some ⟨g, 0, none⟩)) (some 15) rfl rfl (by kernel_rfl) (by kernel_rfl) (by kernel_rfl) (fun _ _ _ h => h) (Or.inl ⟨by rfl, fun w hSw => by go_simp⟩) hHeld ?_
   simp only [Act.put, List.setIfInBounds_toArray, List.set_cons_zero, List.set_cons_succ]
   refine takeD (i := 14) (v := .pointer (some ⟨g, 1602, none⟩)) (some 16) rfl rfl (by kernel_rfl) (by kernel_rfl) (by kernel_rfl) (fun _ _ _ h => h) (Or.inl ⟨by rfl, fun w hSw => by go_simp⟩) hHeld ?_
   simp only [Act.put, List.setIfInBounds_toArray, List.set_cons_zero, List.set_cons_succ]
   have c20 := (cd_cells r2).2.2.1
   have f20 := r2.frozen 1602
   refine wpAnyH_ready (rs := [15]) (by kernel_rfl) (by simp) ?_
   refine AllReadyH.cons rfl (fun KK hK => ?_) AllReadyH.nil
   go_simp
   have r3 := (cd_set r2).2.2.1 (.slice (some ⟨g', 0, none⟩) (nn + 1) cap')
   refine hK.out _ _ (cd_cells r3).2.1 (fun hHeld => ?_)
   clear hK KK
   refine wpAnyH_done (by kernel_rfl) ?_ _
   have hg'g : (Value.slice (some ⟨g', 0, none⟩) (nn + 1) cap').ownBlock ≠ some g := by
    intro e
    have e1 : g' = g := by simpa [Value.ownBlock] using e
    rcases hat' with h | h
    · exact hd1 (by rw [h, e1])
    · omega
   have ho3 := (ownB_snoc b (y := y) (by have := HT.out; omega) hown').far (g := g) (k := 1602) (x := .slice (some ⟨g', 0, none⟩) (nn + 1) cap') hg'g
   have hb3 := (AA.out.2.grown hgr' (by simp; omega) (fun x hx => (World.ownsRow.lt AA.out.1 x hx).1)).setCell (p := ⟨g, 1602, none⟩) hbg (.slice (some ⟨g', 0, none⟩) (nn + 1) cap')
   have KB := hide (show ∀ k, k < w.heap.size → k ≠ g → ov.ownBlock ≠ some k → (w2.setCell ⟨g, 1602, none⟩ (.slice (some ⟨g', 0, none⟩) (nn + 1) cap')).heap[k]? = w.heap[k]? from fun k h1 h2 h3 => by
    rw [Below.heap_setCell _ _ _ _ h2]
    exact (hgr'.block k (by simp; omega) (fun e => h3 e.symm)).trans (KA.out k h1))
   have KC := hide (show ∀ k, (Value.slice (some ⟨g', 0, none⟩) (nn + 1) cap').ownBlock = some k → ov.ownBlock = some k ∨ w.heap.size ≤ k from fun k hk => by
    obtain rfl : g' = k := by simpa [Value.ownBlock] using hk
    rcases hat' with h | h
    · exact .inl h
    · exact .inr (by omega))
   obtain ⟨l2, hl2⟩ : ∃ x, x = 256 * l % 4294967296 := ⟨_, rfl⟩
   have a1 : bits .and .u64 ((l : Int) * 256) 4294967295 = (l2 : Int) := by
    have h := and64 (256 * l) (by omega)
    rw [show ((256 * l : Nat) : Int) = (l : Int) * 256 by omega] at h
    rw [h, hl2]
   have HLZ := hide hl2
   clear hl2 hown' hgr' hat' hlt' c20 f20 r2 AA ra ca0 ca1 c0 c1 f0 hr ho m1 m2
   generalize w2.setCell ⟨g, 1602, none⟩ (.slice (some ⟨g', 0, none⟩) (nn + 1) cap') = W3 at *
   have d1 := (cd_cells r3).2.1
   have e1 := r3.frozen 1601
   go_wp2_with fail
   go_end0
   refine ⟨rfl, ⟨_, ?_, ?_, hg'g, KC.out⟩, hb3.setCell (p := ⟨g, 1601, none⟩) hbg _, fun k h1 h2 h3 => by rw [Below.heap_setCell _ _ _ _ h2]; exact KB.out k h1 h2 h3⟩
   · rw [(low_shift low).2, ← HT.out.1, ← HLZ.out]
     exact (cd_set r3).2.1 l2
   · rw [(low_shift low).1, ← HT.out.1, ← HT.out.2.1]
     refine (ho3.far (g := g) (k := 1601) hg'g).congr (fun j hj => ?_)
     rw [byN_snoc nn _ b j hj]
 · go_simp
   refine hK.out _ _ ca1 (fun hHeld => ?_)
   clear hK KK
   refine wpAnyH_ready (rs := [4]) (by kernel_rfl) (by simp) ?_
   refine AllReadyH.cons rfl (fun KK hK => ?_) AllReadyH.nil
   go_simp
   refine hK.out _ _ ca1 (fun hHeld => ?_)
   clear hK KK
   refine wpAnyH_ready (rs := [12]) (by kernel_rfl) (by simp) ?_
   refine AllReadyH.cons rfl (fun KK hK => ?_) AllReadyH.nil
   refine step_append_D _ (some 14) rfl rfl (.tmp 6) (.tmp 13) 22 rfl base 5 i0 (.int .u8 0) 1 1 Tryz.underlying22 hi0 hz0 hz1 hz2 rfl (by omega) ov nn _ rfl AA.out.1 ⟨w.heap.size, 0, none⟩ 1 1 [.int .u8 (y : Int)] rfl rfl (one_cell w.drew _ _) (one_oneCell .u8 _) (by omega) (by unfold maxLen; omega) (by omega) (by simp; omega) (w.heap.size + 1) (by simp) ?_
   intro g' cap' w2 hown' hgr' hat' hlt'
   have r2 := ra.of_block (hgr'.block g (by simp; omega) (fun e => hd1 e.symm))
   simp only [Act.put, List.setIfInBounds_toArray, List.set_cons_zero, List.set_cons_succ]
   refine hK.out _ _ (cd_cells r2).2.1 (fun hHeld => ?_)
   clear hK KK
   refine takeD (i := 13) (v := .pointer (some ⟨g, 0, none⟩)) (some 15) rfl rfl (by kernel_rfl) (by kernel_rfl) (by kernel_rfl) (fun _ _ _ h => h) (Or.inl ⟨by rfl, fun w hSw => by go_simp⟩) hHeld ?_
   simp only [Act.put, List.setIfInBounds_toArray, List.set_cons_zero, List.set_cons_succ]
   refine takeD (i := 14) (v := .pointer (some ⟨g, 1602, none⟩)) (some 16) rfl rfl (by kernel_rfl) (by kernel_rfl) (by kernel_rfl) (fun _ _ _ h => h) (Or.inl ⟨by rfl, fun w hSw => by go_simp⟩) hHeld ?_
   simp only [Act.put, List.setIfInBounds_toArray, List.set_cons_zero, List.set_cons_succ]
   have c20 := (cd_cells r2).2.2.1
   have f20 := r2.frozen 1602
   refine wpAnyH_ready (rs := [15]) (by kernel_rfl) (by simp) ?_
   refine AllReadyH.cons rfl (fun KK hK => ?_) AllReadyH.nil
   go_simp
   have r3 := (cd_set r2).2.2.1 (.slice (some ⟨g', 0, none⟩) (nn + 1) cap')
   refine hK.out _ _ (cd_cells r3).2.1 (fun hHeld => ?_)
   clear hK KK
   refine wpAnyH_done (by kernel_rfl) ?_ _
   have hg'g : (Value.slice (some ⟨g', 0, none⟩) (nn + 1) cap').ownBlock ≠ some g := by
    intro e
    have e1 : g' = g := by simpa [Value.ownBlock] using e
    rcases hat' with h | h
    · exact hd1 (by rw [h, e1])
    · omega
   have ho3 := (ownB_snoc b (y := y) (by have := HT.out; omega) hown').far (g := g) (k := 1602) (x := .slice (some ⟨g', 0, none⟩) (nn + 1) cap') hg'g
   have hb3 := (AA.out.2.grown hgr' (by simp; omega) (fun x hx => (World.ownsRow.lt AA.out.1 x hx).1)).setCell (p := ⟨g, 1602, none⟩) hbg (.slice (some ⟨g', 0, none⟩) (nn + 1) cap')
   have KB := hide (show ∀ k, k < w.heap.size → k ≠ g → ov.ownBlock ≠ some k → (w2.setCell ⟨g, 1602, none⟩ (.slice (some ⟨g', 0, none⟩) (nn + 1) cap')).heap[k]? = w.heap[k]? from fun k h1 h2 h3 => by
    rw [Below.heap_setCell _ _ _ _ h2]
    exact (hgr'.block k (by simp; omega) (fun e => h3 e.symm)).trans (KA.out k h1))
   have KC := hide (show ∀ k, (Value.slice (some ⟨g', 0, none⟩) (nn + 1) cap').ownBlock = some k → ov.ownBlock = some k ∨ w.heap.size ≤ k from fun k hk => by
    obtain rfl : g' = k := by simpa [Value.ownBlock] using hk
    rcases hat' with h | h
    · exact .inl h
    · exact .inr (by omega))
   obtain ⟨l2, hl2⟩ : ∃ x, x = 256 * l % 4294967296 := ⟨_, rfl⟩
   have a1 : bits .and .u64 ((l : Int) * 256) 4294967295 = (l2 : Int) := by
    have h := and64 (256 * l) (by omega)
    rw [show ((256 * l : Nat) : Int) = (l : Int) * 256 by omega] at h
    rw [h, hl2]
   have HLZ := hide hl2
   clear hl2 hown' hgr' hat' hlt' c20 f20 r2 AA ra ca0 ca1 c0 c1 f0 hr ho m1 m2
   generalize w2.setCell ⟨g, 1602, none⟩ (.slice (some ⟨g', 0, none⟩) (nn + 1) cap') = W3 at *
   have d1 := (cd_cells r3).2.1
   have e1 := r3.frozen 1601
   go_wp2_with fail
   go_end0
   refine ⟨rfl, ⟨_, ?_, ?_, hg'g, KC.out⟩, hb3.setCell (p := ⟨g, 1601, none⟩) hbg _, fun k h1 h2 h3 => by rw [Below.heap_setCell _ _ _ _ h2]; exact KB.out k h1 h2 h3⟩
   · rw [(low_shift low).2, ← HT.out.1, ← HLZ.out]
     exact (cd_set r3).2.1 l2
   · rw [(low_shift low).1, ← HT.out.1, ← HT.out.2.1]
     refine (ho3.far (g := g) (k := 1601) hg'g).congr (fun j hj => ?_)
     rw [byN_snoc nn _ b j hj]
end Go.Proofs.YtconcnndghmdfaaGreatDoor
