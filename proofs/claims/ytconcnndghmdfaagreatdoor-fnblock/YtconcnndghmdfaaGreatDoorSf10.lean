/- Put together: Nums, PutNumW, MatchP, MatchG. -/
import Derived.Deep.QuietTactic
import Derived.Test.YtconcnndghmdfaaGreatDoorSf9
namespace Go.Proofs.YtconcnndghmdfaaGreatDoor
open Go.RowKit
def encNum (u : Nat) : List UInt8 := if h : u < 128 then [UInt8.ofNat u] else UInt8.ofNat (u % 128 + 128) :: encNum (u / 128)
theorem encNum_last (u : Nat) (h : u < 128) : encNum u = [UInt8.ofNat u] := by rw [encNum, dif_pos h]
theorem encNum_more (u : Nat) (h : ¬ u < 128) : encNum u = UInt8.ofNat (u % 128 + 128) :: encNum (u / 128) := by
 conv => lhs; rw [encNum, dif_neg h]
theorem encNum_len (k : Nat) : ∀ u : Nat, u < 128 ^ (k + 1) → (encNum u).length ≤ k + 1 := by
 induction k with
 | zero => intro u h; rw [encNum_last u (by simpa using h)]; simp
 | succ k ih =>
   intro u h
   by_cases hu : u < 128
   · rw [encNum_last u hu]; simp
   · rw [encNum_more u hu]
     have := ih (u / 128) (by rw [Nat.pow_succ] at h; exact Nat.div_lt_of_lt_mul (by rw [Nat.mul_comm]; exact h))
     simp; omega
theorem encNum_len10 (u : Nat) (h : u < 2 ^ 64) : (encNum u).length ≤ 10 := encNum_len 9 u (Nat.lt_of_lt_of_le h (by decide))
def foldNum (n : Int) : Nat := if n < 0 then (-2 * n - 1).toNat else (2 * n).toNat
theorem Tryz.infoU8 : (Tryz.prog.info? 5).map (fun i => (i.zero, i.size, i.bytes)) = some (some (.int .u8 0), 1, 1) := by kernel_rfl
theorem fold_neg (n : Int) (h : n < 0) : (foldNum n : Int) = 2 * -(n + 1) + 1 := by unfold foldNum; rw [if_pos h]; omega
theorem fold_pos (n : Int) (h : 0 ≤ n) : (foldNum n : Int) = 2 * n := by unfold foldNum; rw [if_neg (by omega)]; omega
theorem fold_le (n : Int) (h1 : -9223372036854775808 ≤ n) (h2 : n ≤ 9223372036854775807) : foldNum n ≤ 18446744073709551615 := by
 by_cases h : n < 0
 · have := fold_neg n h; omega
 · have := fold_pos n (by omega); omega
set_option maxHeartbeats 400000 in
theorem spec_fold (n : Int) (w : World) (h1 : -9223372036854775808 ≤ n) (h2 : n ≤ 9223372036854775807) :
 Calls Tryz.prog 67 #[.int .i64 n] w fun e w' => e = .returned (.int .u64 (foldNum n)) ∧ w = w' := by
 by_cases h : n < 0
 · go_enter Tryz.func67, Tryz.ntmps67
   go_wp2
   go_ret
   exact ⟨ret_int (fold_neg n h).symm, rfl⟩
 · go_enter Tryz.func67, Tryz.ntmps67
   go_wp2
   go_ret
   exact ⟨ret_int (fold_pos n (by omega)).symm, rfl⟩
theorem own_empty (w : World) (e : Nat) : (w.alloc (.cells #[] e)).ownsRow w.heap.size e 1 (.slice (some ⟨w.heap.size, 0, none⟩) 0 0) ([] : List UInt8).length (([] : List UInt8).map byteV) := by
 simpa using World.ownsRow_made (e := e) (size := 1) (base := w.heap.size) w #[] 0 (Nat.le_refl _) (by decide) (by simp)
theorem len_le {done r : List UInt8} {m : Nat} (h : done ++ r = encNum m) (hm : m ≤ 18446744073709551615) : done.length ≤ 10 := by
 have h1 := encNum_len10 m (by omega)
 have h2 := congrArg List.length h
 simp at h2; omega
theorem below_push {w wr w1 : World} {e : Nat} {v : Value} {n : Nat} {xs : List Value} {o : Obj} (hown : wr.ownsRow w.heap.size e 1 v n xs) (hg : (wr.alloc o).grownBy w1 v.ownBlock) (hb : Below w.heap.size w wr) : Below w.heap.size w w1 :=
 (hb.alloc hb.size o).grown hg (by have := hb.size; simp; omega) (fun k hk => (hown.lt k hk).1)
theorem more_step {w wr w1 : World} {e : Nat} {v v' : Value} {U : Nat} {done : List UInt8} {o : Obj} {n : Int} (hlt : ¬ U < 128) (hd : done ++ encNum U = encNum (foldNum n))
 (hown : wr.ownsRow w.heap.size e 1 v done.length (done.map byteV)) (hown' : w1.ownsRow w.heap.size e 1 v' (done.length + 1) (done.map byteV ++ [.int .u8 ((U : Int) % 128 + 128)]))
 (hg : (wr.alloc o).grownBy w1 v.ownBlock) (hb : Below w.heap.size w wr) :
 Hid ((done ++ [UInt8.ofNat (U % 128 + 128)]) ++ encNum (U / 128) = encNum (foldNum n)) ∧ w1.ownsRow w.heap.size e 1 v' (done ++ [UInt8.ofNat (U % 128 + 128)]).length ((done ++ [UInt8.ofNat (U % 128 + 128)]).map byteV) ∧ Below w.heap.size w w1 := by
 refine ⟨?_, own_push _ hown' ?_, below_push hown hg hb⟩
 · show _ = _
   rw [← hd, encNum_more U hlt]; simp
 · rw [ofNat_byte _ (by omega)]; omega
theorem last_step {w wr w1 : World} {e : Nat} {v v' : Value} {U : Nat} {done : List UInt8} {o : Obj} {n : Int} (hlt : U < 128) (hd : done ++ encNum U = encNum (foldNum n))
 (hown : wr.ownsRow w.heap.size e 1 v done.length (done.map byteV)) (hown' : w1.ownsRow w.heap.size e 1 v' (done.length + 1) (done.map byteV ++ [.int .u8 (U : Int)]))
 (hg : (wr.alloc o).grownBy w1 v.ownBlock) (hb : Below w.heap.size w wr) :
 ∃ g cap, v' = .slice (some ⟨g, 0, none⟩) (encNum (foldNum n)).length cap ∧
  (∀ (P : Program) (src dst : Nat), P.underlying src = some (.slice e) → P.underlying e = some (.int .u8) → P.underlying dst = some .string → (convert src dst (.slice (some ⟨g, 0, none⟩) (encNum (foldNum n)).length cap)).run P w1 = .ok (.string ⟨(encNum (foldNum n)).toArray⟩) w1) ∧ Below w.heap.size w w1 := by
 have h := own_push (UInt8.ofNat U) hown' (by rw [ofNat_byte _ (by omega)])
 have e1 : done ++ [UInt8.ofNat U] = encNum (foldNum n) := by rw [← hd, encNum_last U hlt]
 rw [e1] at h
 have hne : encNum (foldNum n) ≠ [] := by rw [← e1]; simp
 obtain ⟨g, cap, rfl, _, hc⟩ := own_bytes h hne
 exact ⟨g, cap, rfl, fun P src dst hs he hd => run_convert_bytes_back w1 src dst e ⟨g, 0, none⟩ cap _ hs he hd hc, below_push hown hg hb⟩
set_option maxRecDepth 100000 in
set_option maxHeartbeats 400000 in
theorem spec_putNum (n : Int) (w : World) (h1 : -9223372036854775808 ≤ n) (h2 : n ≤ 9223372036854775807) :
 Calls Tryz.prog 39 #[.int .i64 n] w fun e w' => e = .returned (.string ⟨(encNum (foldNum n)).toArray⟩) ∧ Below w.heap.size w w' := by
 have hm := fold_le n h1 h2
 obtain ⟨i0, hi, hz0, hz1, hz2⟩ := info_parts Tryz.infoU8
 go_enter Tryz.func39, Tryz.ntmps39
 go_wp2_with (go_at_call 67; refine (spec_fold n _ h1 h2).mono ?_; rintro e w' ⟨rfl, rfl⟩)
 go_loopw [3, 4] (fun u v wr => ∃ (U : Nat) (done : List UInt8), (U : Int) ≤ 18446744073709551615 ∧ u = .int .u64 U ∧ Hid (done ++ encNum U = encNum (foldNum n)) ∧ wr.ownsRow w.heap.size 5 1 v done.length (done.map byteV) ∧ Below w.heap.size w wr) (fun u _ _ => (intOf u).toNat)
 case atStart => exact ⟨_, [], by omega, rfl, rfl, own_empty w _, (Below.refl _ _).alloc (Nat.le_refl _) _⟩
 case round =>
  obtain ⟨U, done, hU, rfl, hd, hown, hb⟩ := hrel
  have hl := len_le hd.out hm
  clear hm
  have hs := hb.size
  by_cases hlt : U < 128
  · go_wp2_with (at_builtin; refine wpList_append_own _ rfl _ _ 22 rfl w.heap.size 5 i0 (.int .u8 0) 1 1 Tryz.underlying22 hi hz0 hz1 hz2 rfl (by decide) _ _ _ rfl (hown.alloc _) ⟨wr.heap.size, 0, none⟩ 1 1 [.int .u8 (U : Int)] rfl rfl (one_cell _ _ _) (one_oneCell _ _) ?c3 ?c4 ?c5 ?_)
    case c3 => unfold maxLen; omega
    case c4 => omega
    case c5 => simp; omega
    intro v' w1 hown' hgrow _
    have R := last_step hlt hd.out hown hown' hgrow hb
    clear hown hown' hgrow hb
    obtain ⟨g, cap, rfl, hcv, hb'⟩ := R
    have hcv := hcv Tryz.prog 22 9 Tryz.underlying22 Tryz.underlying5 Tryz.underlying9
    go_wp2
    go_ret
    exact ⟨rfl, hb'⟩
  · go_wp2_with (at_builtin; refine wpList_append_own _ rfl _ _ 22 rfl w.heap.size 5 i0 (.int .u8 0) 1 1 Tryz.underlying22 hi hz0 hz1 hz2 rfl (by decide) _ _ _ rfl (hown.alloc _) ⟨wr.heap.size, 0, none⟩ 1 1 [.int .u8 ((U : Int) % 128 + 128)] rfl rfl (one_cell _ _ _) (one_oneCell _ _) ?d3 ?d4 ?d5 ?_)
    case d3 => unfold maxLen; omega
    case d4 => omega
    case d5 => simp; omega
    intro v' w1 hown' hgrow _
    have R := more_step hlt hd.out hown hown' hgrow hb
    clear hown hown' hgrow hb
    go_wp2
    go_roundw
    case rel => exact ⟨U / 128, _, by omega, by go_num, R.1, R.2.1, R.2.2⟩
    case measure => simp [intOf]; omega
theorem bF_getM (t : ByteArray) (j : Nat) (h : j < t.size) : t[j].toNat = (bF t j).toNat := by
 have h2 := bF_at t t.size rfl j h
 rw [List.getElem?_eq_getElem (by have e : t.data.toList.length = t.size := rfl; omega)] at h2
 rw [← Option.some.inj h2]; rfl
theorem longG_now (T : Nat → UInt8) (N at_ far n : Nat) (hn : n < 66) (h : at_ + n < N ∧ T (at_ + n) = T (at_ + n - far)) : longG T N at_ far (66 - n) n = longG T N at_ far (66 - (n + 1)) (n + 1) := by
 rw [show 66 - n = (66 - (n + 1)) + 1 by omega]
 show (if at_ + n < N ∧ T (at_ + n) = T (at_ + n - far) then _ else _) = _
 rw [if_pos h]
theorem longG_not (T : Nat → UInt8) (N at_ far n : Nat) (h : ¬ (n < 66 ∧ at_ + n < N ∧ T (at_ + n) = T (at_ + n - far))) (hn : n ≤ 66) : longG T N at_ far (66 - n) n = n := by
 by_cases e : n = 66
 · subst e; rfl
 · rw [show 66 - n = (66 - (n + 1)) + 1 by omega]
   show (if at_ + n < N ∧ T (at_ + n) = T (at_ + n - far) then _ else _) = _
   rw [if_neg (fun h2 => h ⟨by omega, h2⟩)]
set_option maxRecDepth 100000 in
set_option maxHeartbeats 800000 in
theorem spec_long (t : ByteArray) (at_ far : Nat) (w : World) (hN : t.size ≤ 1000000) (hat : at_ ≤ t.size) (hf1 : 1 ≤ far) (hf2 : far ≤ at_) :
 Calls Tryz.prog 127 #[.string t, .int .i64 (at_ : Int), .int .i64 (far : Int)] w fun e w' => e = .returned (.int .i64 (long (bF t) t.size at_ far : Nat)) ∧ Below w.heap.size w w' := by
 go_enter Tryz.func127, Tryz.ntmps127
 go_wp2_with fail
 go_loopw [7] (fun i wx => ∃ k : Nat, k ≤ 66 ∧ i = .int .i64 k ∧ Hid (longG (bF t) t.size at_ far (66 - k) k = long (bF t) t.size at_ far) ∧ Hid (Below w.heap.size w wx)) (fun i _ => 66 - (intOf i).toNat)
 case atStart => exact ⟨0, by omega, rfl, rfl, Below.refl _ _⟩
 case round =>
  obtain ⟨k, hk, rfl, hl, hbl⟩ := hrel
  obtain ⟨q, hq⟩ : ∃ q, q = at_ + k := ⟨_, rfl⟩
  have s1 : (at_ : Int) + (k : Int) = (q : Int) := by omega
  have s1w : IntKind.i64.wrap ((at_ : Int) + (k : Int)) = (q : Int) := by simp only [IntKind.wrap_i64]; omega
  have hqb : (q : Int) ≤ 1000066 := by omega
  by_cases h1 : k < 66
  · have h1' : (k : Int) < 66 := by omega
    have d1 : decide ((k : Int) < 66) = true := decide_eq_true h1'
    by_cases h2 : q < t.size
    · have h2' : (q : Int) < (t.size : Int) := by omega
      have d2 : decide ((q : Int) < (t.size : Int)) = true := decide_eq_true h2'
      obtain ⟨p, hp⟩ : ∃ p, p = q - far := ⟨_, rfl⟩
      have s2 : (q : Int) - (far : Int) = (p : Int) := by omega
      have s2w : IntKind.i64.wrap ((q : Int) - (far : Int)) = (p : Int) := by simp only [IntKind.wrap_i64]; omega
      have hp2 : p < t.size := by omega
      have hp2' : (p : Int) < (t.size : Int) := by omega
      have b1 := bF_getM t q h2
      have b2 := bF_getM t p hp2
      by_cases h3 : bF t q = bF t p
      · obtain ⟨x, hx⟩ : ∃ x, x = (bF t q).toNat := ⟨_, rfl⟩
        rw [← hx] at b1
        rw [← h3, ← hx] at b2
        have HL := hide (show longG (bF t) t.size at_ far (66 - (k + 1)) (k + 1) = long (bF t) t.size at_ far by
         rw [← hl.out, longG_now (bF t) t.size at_ far k h1 ⟨by omega, by rw [← hq, ← hp]; exact h3⟩])
        clear hl hq hp hx h3
        go_wp2_with fail
        go_quiet (fail)
        have B2 := hide (show Below w.heap.size w (wr.drewN nq) from hbl.out.trans ⟨rfl, rfl, rfl, Nat.le_refl _, fun _ _ => rfl⟩)
        clear hbl
        go_wp2_with fail
        go_roundw
        case rel => exact ⟨k + 1, by omega, by go_num, HL, B2⟩
        case measure => simp [intOf]; omega
      · obtain ⟨x, hx⟩ : ∃ x, x = (bF t q).toNat := ⟨_, rfl⟩
        obtain ⟨y, hy⟩ : ∃ y, y = (bF t p).toNat := ⟨_, rfl⟩
        rw [← hx] at b1
        rw [← hy] at b2
        have hxy : ((x : Int) == (y : Int)) = false := by
         rw [beq_eq_false_iff_ne]
         intro e
         exact h3 (UInt8.toNat_inj.1 (by omega))
        have HL := hide (show k = long (bF t) t.size at_ far by
         rw [← hl.out, longG_not (bF t) t.size at_ far k (fun h => h3 (by have := h.2.2; rw [← hq, ← hp] at this; exact this)) hk])
        clear hl hq hp hx hy h3
        go_wp2_with fail
        go_quiet (fail)
        have B2 := hide (show Below w.heap.size w (wr.drewN nq) from hbl.out.trans ⟨rfl, rfl, rfl, Nat.le_refl _, fun _ _ => rfl⟩)
        clear hbl
        go_wp2_with fail
        go_ret
        exact ⟨by rw [← HL.out]; rfl, B2.out⟩
    · have h2' : ¬ (q : Int) < (t.size : Int) := by omega
      have d2 : decide ((q : Int) < (t.size : Int)) = false := decide_eq_false h2'
      have HL := hide (show k = long (bF t) t.size at_ far by
       rw [← hl.out, longG_not (bF t) t.size at_ far k (fun h => h2 (by have := h.2.1; omega)) hk])
      clear hl hq
      go_wp2_with fail
      go_quiet (fail)
      have B2 := hide (show Below w.heap.size w (wr.drewN nq) from hbl.out.trans ⟨rfl, rfl, rfl, Nat.le_refl _, fun _ _ => rfl⟩)
      clear hbl
      go_wp2_with fail
      go_ret
      exact ⟨by rw [← HL.out]; rfl, B2.out⟩
  · have h1' : ¬ (k : Int) < 66 := by omega
    have d1 : decide ((k : Int) < 66) = false := decide_eq_false h1'
    have HL := hide (show k = long (bF t) t.size at_ far by
     rw [← hl.out, longG_not (bF t) t.size at_ far k (fun h => h1 h.1) hk])
    clear hl hq
    go_wp2_with fail
    go_quiet (fail)
    have B2 := hide (show Below w.heap.size w (wr.drewN nq) from hbl.out.trans ⟨rfl, rfl, rfl, Nat.le_refl _, fun _ _ => rfl⟩)
    clear hbl
    go_wp2_with fail
    go_ret
    exact ⟨by rw [← HL.out]; rfl, B2.out⟩
theorem Tryz.infoTok : (Tryz.prog.info? 80).map (fun i => (i.zero, i.size, i.bytes)) = some (some (.agg #[.int .i64 0, .int .i64 0, .int .i64 0]), 3, 24) := by kernel_rfl
set_option maxRecDepth 100000 in
set_option maxHeartbeats 1600000 in
theorem spec_parse0 (t : ByteArray) (w : World) (hN : t.size ≤ 4000) :
 Calls Tryz.prog 95 #[.string t] w fun e w' => ∃ v, e = .returned v ∧ w'.ownsRow w.heap.size 80 3 v (parseL (bF t) t.size).length (tokC (parseL (bF t) t.size)) ∧ Below w.heap.size w w' := by
 obtain ⟨i0, hi, hz0, hz1, hz2⟩ := info_parts Tryz.infoTok
 have hown0 := (show (w.alloc (.cells #[] 80)).ownsRow w.heap.size 80 3 (.slice (some ⟨w.heap.size, 0, none⟩) 0 0) 0 [] by
  have h := World.ownsRow_made (e := 80) (size := 3) (base := w.heap.size) w #[] 0 (Nat.le_refl _) (by decide) (by simp)
  simpa using h)
 have hb0 := hide ((Below.refl w.heap.size w).alloc (Nat.le_refl _) (.cells #[] 80))
 go_enter Tryz.func95, Tryz.ntmps95
 go_wp2_with fail
 generalize w.alloc (.cells #[] 80) = W0 at *
 go_loopw [3, 4] (fun ov i wx => ∃ (p : Nat) (l : List Tok), p ≤ t.size ∧ i = .int .i64 p ∧ wx.ownsRow w.heap.size 80 3 ov l.length (tokC l) ∧ l.length ≤ p ∧ Hid (l ++ parseG (bF t) t.size (t.size - p) p = parseL (bF t) t.size) ∧ Hid (Below w.heap.size w wx)) (fun _ i _ => t.size - (intOf i).toNat)
 case atStart => exact ⟨0, [], by omega, rfl, hown0, Nat.le_refl _, rfl, hb0⟩
 case round =>
  clear hown0 hb0
  obtain ⟨p, l, hp, rfl, hown, hlp, hpl, hbl⟩ := hrel
  by_cases hlt : p < t.size
  · have hlt' : (p : Int) < (t.size : Int) := by omega
    obtain ⟨K, hK⟩ : ∃ K, K = min 1024 p := ⟨_, rfl⟩
    have HPB := hide (show bestAt (bF t) t.size p = best (bF t) t.size p K by rw [hK]; rfl)
    have HOWN := hide hown
    have hws := hbl.out.size
    clear hown
    go_wp2_with fail
    go_loopw [5, 6, 7] (fun m f i wx => ∃ j : Nat, j ≤ K ∧ i = .int .i64 ((j : Int) + 1) ∧ m = .int .i64 ((best (bF t) t.size p j).1 : Nat) ∧ f = .int .i64 ((best (bF t) t.size p j).2 : Nat) ∧ Hid (Below wr.heap.size wr wx)) (fun _ _ i _ => 1025 - (intOf i).toNat)
    case atStart => exact ⟨0, by omega, rfl, rfl, rfl, Below.refl _ _⟩
    case round =>
     obtain ⟨j, hj, rfl, rfl, rfl, hbi⟩ := hrel
     obtain ⟨m, hm⟩ : ∃ m, m = (best (bF t) t.size p j).1 := ⟨_, rfl⟩
     obtain ⟨f, hf⟩ : ∃ f, f = (best (bF t) t.size p j).2 := ⟨_, rfl⟩
     have hm66 : m ≤ 66 := by
      rcases best_is (bF t) t.size p j with e | ⟨_, _, _, e, _⟩
      · rw [hm, e]; exact Nat.zero_le _
      · rw [hm, e]; exact long_le _ _ _ _
     have hfj : f ≤ j := by
      rcases best_is (bF t) t.size p j with e | ⟨_, e, _⟩
      · rw [hf, e]; exact Nat.zero_le _
      · rw [hf]; exact e
     rw [← hm, ← hf]
     have HMF := hide (show best (bF t) t.size p j = (m, f) from Prod.ext hm.symm hf.symm)
     clear hm hf
     by_cases hjK : j < K
     · have g1 : (j : Int) + 1 ≤ 1024 := by omega
       have d1 : decide ((j : Int) + 1 ≤ 1024) = true := decide_eq_true g1
       have g2 : (j : Int) + 1 ≤ (p : Int) := by omega
       have d2 : decide ((j : Int) + 1 ≤ (p : Int)) = true := decide_eq_true g2
       obtain ⟨n, hn⟩ : ∃ n, n = long (bF t) t.size p (j + 1) := ⟨_, rfl⟩
       have SL := hide (fun w => spec_long t p (j + 1) w (by omega) hp (by omega) (by omega))
       rw [← hn] at SL
       have hn66 : n ≤ 66 := by rw [hn]; exact long_le _ _ _ _
       have HBN := hide (show best (bF t) t.size p (j + 1) = if m < n then (n, j + 1) else (m, f) by
        show (if (best (bF t) t.size p j).1 < long (bF t) t.size p (j + 1) then _ else _) = _
        rw [HMF.out, ← hn])
       have hjc : ((j + 1 : Nat) : Int) = (j : Int) + 1 := by omega
       rw [hjc] at SL
       clear hn HMF hjc
       go_wp2_with fail
       refine (SL.out _).mono ?_
       rintro e w2 ⟨rfl, hb2⟩
       have B2 := hide (hbi.out.trans (hb2.mono hbi.out.size))
       clear SL hb2 hbi
       by_cases hmn : m < n
       · have hmn' : (m : Int) < (n : Int) := by omega
         rw [if_pos hmn] at HBN
         go_wp2_with fail
         go_roundw
         case rel => exact ⟨j + 1, by omega, by go_num, by rw [HBN.out], by rw [HBN.out]; show Value.int .i64 ((j : Int) + 1) = .int .i64 ((j + 1 : Nat) : Int); congr 1, B2⟩
         case measure => simp [intOf]; omega
       · have hmn' : ¬ (m : Int) < (n : Int) := by omega
         rw [if_neg hmn] at HBN
         go_wp2_with fail
         go_roundw
         case rel => exact ⟨j + 1, by omega, by go_num, by rw [HBN.out], by rw [HBN.out], B2⟩
         case measure => simp [intOf]; omega
     · have hjK2 : j = K := by omega
       have HBA := hide (show bestAt (bF t) t.size p = (m, f) by rw [HPB.out, ← hjK2]; exact HMF.out)
       have HO := hide (HOWN.out.kept (below_grownBy hbi.out) (Classical.em _))
       have HBW := hide (hbl.out.trans (hbi.out.mono hws))
       have hbs9 := HBW.out.size
       clear HOWN hbi HMF HPB hbl
       by_cases hp1 : 1024 ≤ p
       · have g1 : ¬ (j : Int) + 1 ≤ 1024 := by omega
         have d1 : decide ((j : Int) + 1 ≤ 1024) = false := decide_eq_false g1
         clear hK hjK hjK2
         by_cases hm3 : m < 3
         · have hm3' : (m : Int) < 3 := by omega
           have hb := bF_getM t p hlt
           obtain ⟨x, hx⟩ : ∃ x, x = (bF t p).toNat := ⟨_, rfl⟩
           rw [← hx] at hb
           have hx8 : x < 256 := by rw [hx]; exact (bF t p).toNat_lt
           have hw8 : IntKind.i64.wrap (x : Int) = (x : Int) := by simp only [IntKind.wrap_i64]; omega
           have HPN := hide (show (l ++ [(⟨(x : Int), 0, 0⟩ : Tok)]) ++ parseG (bF t) t.size (t.size - (p + 1)) (p + 1) = parseL (bF t) t.size by
            rw [← hpl.out, show t.size - p = (t.size - (p + 1)) + 1 by omega, parseG_step (bF t) t.size _ p hlt, tokAt, stepAt, HBA.out, if_pos hm3, if_pos hm3, hx, List.append_assoc]; rfl)
           clear hx hpl HBA
           go_wp2_with (at_builtin; refine wpList_append_lies _ rfl _ _ 131 rfl w.heap.size 80 i0 (.agg #[.int .i64 0, .int .i64 0, .int .i64 0]) 3 24 Tryz.underlying131 hi hz0 hz1 hz2 rfl (by omega) u3 l.length (tokC l) rfl (HO.out.alloc _) ⟨wr.heap.size, 0, none⟩ 1 1 [.int .i64 (x : Int), .int .i64 0, .int .i64 0] rfl rfl (tri_cells _ _ _ _ _ _ rfl) (tri_one _ _ _) (by omega) (by unfold maxLen; omega) (by omega) (by simp; omega) (wr.heap.size + 1) (by simp) ?_)
           intro g' cap' w9 hown' hg' _ _
           have R1 : w9.ownsRow w.heap.size 80 3 (.slice (some ⟨g', 0, none⟩) (l.length + 1) cap') (l ++ [(⟨(x : Int), 0, 0⟩ : Tok)]).length (tokC (l ++ [(⟨(x : Int), 0, 0⟩ : Tok)])) := by
            rw [tokC_snoc, List.length_append]; exact hown'
           have R2 := hide ((HBW.out.alloc hbs9 _).grown hg' (by simp; omega) (fun x hx => (HO.out.lt x hx).1))
           clear hown' hg' HO HBW
           go_wp2_with fail
           go_roundw
           case rel => exact ⟨p + 1, l ++ [(⟨(x : Int), 0, 0⟩ : Tok)], by omega, by go_num, R1, by simp; omega, HPN, R2⟩
           case measure => simp [intOf]; omega
         · have hm3' : ¬ (m : Int) < 3 := by omega
           have hfa := bestAt_facts (bF t) t.size p (by rw [HBA.out]; exact hm3)
           rw [HBA.out] at hfa
           have hpm : p + m ≤ t.size := hfa.2.2.2.2.1
           have hpm' : (p : Int) + (m : Int) ≤ 4000 := by omega
           have HPN := hide (show (l ++ [(⟨0, (m : Int), (f : Int)⟩ : Tok)]) ++ parseG (bF t) t.size (t.size - (p + m)) (p + m) = parseL (bF t) t.size by
            rw [← hpl.out, show t.size - p = (t.size - (p + 1)) + 1 by omega, parseG_step (bF t) t.size _ p hlt, tokAt, stepAt, HBA.out, if_neg hm3, if_neg hm3, List.append_assoc, parseG_fuel (bF t) t.size (t.size - (p + 1)) (t.size - (p + m)) (p + m) (by omega) (by omega)]; rfl)
           clear hfa hpl HBA
           go_wp2_with (at_builtin; refine wpList_append_lies _ rfl _ _ 131 rfl w.heap.size 80 i0 (.agg #[.int .i64 0, .int .i64 0, .int .i64 0]) 3 24 Tryz.underlying131 hi hz0 hz1 hz2 rfl (by omega) u3 l.length (tokC l) rfl (HO.out.alloc _) ⟨wr.heap.size, 0, none⟩ 1 1 [.int .i64 0, .int .i64 (m : Int), .int .i64 (f : Int)] rfl rfl (tri_cells _ _ _ _ _ _ rfl) (tri_one _ _ _) (by omega) (by unfold maxLen; omega) (by omega) (by simp; omega) (wr.heap.size + 1) (by simp) ?_)
           intro g' cap' w9 hown' hg' _ _
           have R1 : w9.ownsRow w.heap.size 80 3 (.slice (some ⟨g', 0, none⟩) (l.length + 1) cap') (l ++ [(⟨0, (m : Int), (f : Int)⟩ : Tok)]).length (tokC (l ++ [(⟨0, (m : Int), (f : Int)⟩ : Tok)])) := by
            rw [tokC_snoc, List.length_append]; exact hown'
           have R2 := hide ((HBW.out.alloc hbs9 _).grown hg' (by simp; omega) (fun x hx => (HO.out.lt x hx).1))
           clear hown' hg' HO HBW
           go_wp2_with fail
           go_roundw
           case rel => exact ⟨p + m, l ++ [(⟨0, (m : Int), (f : Int)⟩ : Tok)], by omega, by go_num, R1, by simp; omega, HPN, R2⟩
           case measure => simp [intOf]; omega
       · have g1 : (j : Int) + 1 ≤ 1024 := by omega
         have d1 : decide ((j : Int) + 1 ≤ 1024) = true := decide_eq_true g1
         have g2 : ¬ (j : Int) + 1 ≤ (p : Int) := by omega
         have d2 : decide ((j : Int) + 1 ≤ (p : Int)) = false := decide_eq_false g2
         clear hK hjK hjK2
         by_cases hm3 : m < 3
         · have hm3' : (m : Int) < 3 := by omega
           have hb := bF_getM t p hlt
           obtain ⟨x, hx⟩ : ∃ x, x = (bF t p).toNat := ⟨_, rfl⟩
           rw [← hx] at hb
           have hx8 : x < 256 := by rw [hx]; exact (bF t p).toNat_lt
           have hw8 : IntKind.i64.wrap (x : Int) = (x : Int) := by simp only [IntKind.wrap_i64]; omega
           have HPN := hide (show (l ++ [(⟨(x : Int), 0, 0⟩ : Tok)]) ++ parseG (bF t) t.size (t.size - (p + 1)) (p + 1) = parseL (bF t) t.size by
            rw [← hpl.out, show t.size - p = (t.size - (p + 1)) + 1 by omega, parseG_step (bF t) t.size _ p hlt, tokAt, stepAt, HBA.out, if_pos hm3, if_pos hm3, hx, List.append_assoc]; rfl)
           clear hx hpl HBA
           go_wp2_with (at_builtin; refine wpList_append_lies _ rfl _ _ 131 rfl w.heap.size 80 i0 (.agg #[.int .i64 0, .int .i64 0, .int .i64 0]) 3 24 Tryz.underlying131 hi hz0 hz1 hz2 rfl (by omega) u3 l.length (tokC l) rfl (HO.out.alloc _) ⟨wr.heap.size, 0, none⟩ 1 1 [.int .i64 (x : Int), .int .i64 0, .int .i64 0] rfl rfl (tri_cells _ _ _ _ _ _ rfl) (tri_one _ _ _) (by omega) (by unfold maxLen; omega) (by omega) (by simp; omega) (wr.heap.size + 1) (by simp) ?_)
           intro g' cap' w9 hown' hg' _ _
           have R1 : w9.ownsRow w.heap.size 80 3 (.slice (some ⟨g', 0, none⟩) (l.length + 1) cap') (l ++ [(⟨(x : Int), 0, 0⟩ : Tok)]).length (tokC (l ++ [(⟨(x : Int), 0, 0⟩ : Tok)])) := by
            rw [tokC_snoc, List.length_append]; exact hown'
           have R2 := hide ((HBW.out.alloc hbs9 _).grown hg' (by simp; omega) (fun x hx => (HO.out.lt x hx).1))
           clear hown' hg' HO HBW
           go_wp2_with fail
           go_roundw
           case rel => exact ⟨p + 1, l ++ [(⟨(x : Int), 0, 0⟩ : Tok)], by omega, by go_num, R1, by simp; omega, HPN, R2⟩
           case measure => simp [intOf]; omega
         · have hm3' : ¬ (m : Int) < 3 := by omega
           have hfa := bestAt_facts (bF t) t.size p (by rw [HBA.out]; exact hm3)
           rw [HBA.out] at hfa
           have hpm : p + m ≤ t.size := hfa.2.2.2.2.1
           have hpm' : (p : Int) + (m : Int) ≤ 4000 := by omega
           have HPN := hide (show (l ++ [(⟨0, (m : Int), (f : Int)⟩ : Tok)]) ++ parseG (bF t) t.size (t.size - (p + m)) (p + m) = parseL (bF t) t.size by
            rw [← hpl.out, show t.size - p = (t.size - (p + 1)) + 1 by omega, parseG_step (bF t) t.size _ p hlt, tokAt, stepAt, HBA.out, if_neg hm3, if_neg hm3, List.append_assoc, parseG_fuel (bF t) t.size (t.size - (p + 1)) (t.size - (p + m)) (p + m) (by omega) (by omega)]; rfl)
           clear hfa hpl HBA
           go_wp2_with (at_builtin; refine wpList_append_lies _ rfl _ _ 131 rfl w.heap.size 80 i0 (.agg #[.int .i64 0, .int .i64 0, .int .i64 0]) 3 24 Tryz.underlying131 hi hz0 hz1 hz2 rfl (by omega) u3 l.length (tokC l) rfl (HO.out.alloc _) ⟨wr.heap.size, 0, none⟩ 1 1 [.int .i64 0, .int .i64 (m : Int), .int .i64 (f : Int)] rfl rfl (tri_cells _ _ _ _ _ _ rfl) (tri_one _ _ _) (by omega) (by unfold maxLen; omega) (by omega) (by simp; omega) (wr.heap.size + 1) (by simp) ?_)
           intro g' cap' w9 hown' hg' _ _
           have R1 : w9.ownsRow w.heap.size 80 3 (.slice (some ⟨g', 0, none⟩) (l.length + 1) cap') (l ++ [(⟨0, (m : Int), (f : Int)⟩ : Tok)]).length (tokC (l ++ [(⟨0, (m : Int), (f : Int)⟩ : Tok)])) := by
            rw [tokC_snoc, List.length_append]; exact hown'
           have R2 := hide ((HBW.out.alloc hbs9 _).grown hg' (by simp; omega) (fun x hx => (HO.out.lt x hx).1))
           clear hown' hg' HO HBW
           go_wp2_with fail
           go_roundw
           case rel => exact ⟨p + m, l ++ [(⟨0, (m : Int), (f : Int)⟩ : Tok)], by omega, by go_num, R1, by simp; omega, HPN, R2⟩
           case measure => simp [intOf]; omega
  · have hlt' : ¬ (p : Int) < (t.size : Int) := by omega
    have e := hpl.out
    rw [parseG_end (bF t) t.size _ p hlt, List.append_nil] at e
    have HO := hide (show wr.ownsRow w.heap.size 80 3 u3 (parseL (bF t) t.size).length (tokC (parseL (bF t) t.size)) by rw [← e]; exact hown)
    clear hown hpl e
    go_wp2_with fail
    go_ret
    exact ⟨_, rfl, HO.out, hbl.out⟩
end Go.Proofs.YtconcnndghmdfaaGreatDoor
