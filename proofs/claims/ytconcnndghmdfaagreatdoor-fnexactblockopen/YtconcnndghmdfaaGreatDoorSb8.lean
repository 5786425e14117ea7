/- Put together: AesCtr, RangeF. -/
import Derived.Test.YtconcnndghmdfaaGreatDoorSb7
import Derived.WalkKit
namespace Go.Proofs.YtconcnndghmdfaaGreatDoor
open Go.RowKit
attribute [local irreducible] times sbox
/-- The bytes that are hidden for the stream: eight of the nonce, eight of the block's number. -/
def ctrB (N m j : Nat) : UInt8 := if j < 8 then UInt8.ofNat (N / 2 ^ (8 * (7 - j)) % 256) else UInt8.ofNat (m / 2 ^ (8 * (15 - j)) % 256)
/-- Ctr, a byte of it. -/
def ctrF (K : Nat → UInt8) (N : Nat) (T : Nat → UInt8) (j : Nat) : UInt8 := T j ^^^ encF K (ctrB N (j / 16)) 10 (j % 16)
def ctrL (K : Nat → UInt8) (N : Nat) (T : Nat → UInt8) (n : Nat) : List UInt8 := (List.range n).map (ctrF K N T)
theorem encF_congr (K : Nat → UInt8) {B B' : Nat → UInt8} (h : ∀ j, j < 16 → B j = B' j) : ∀ n j, j < 16 → encF K B n j = encF K B' n j
  | 0, j, hj => by show B j ^^^ K j = B' j ^^^ K j; rw [h j hj]
  | n + 1, j, hj => by
    show midF (n + 1) (encF K B n) j ^^^ K (16 * (n + 1) + j) = midF (n + 1) (encF K B' n) j ^^^ K (16 * (n + 1) + j)
    rw [midF_congr (n + 1) (fun i hi => encF_congr K h n i hi) j hj]
set_option maxRecDepth 100000 in
set_option maxHeartbeats 1600000 in
theorem spec_ctrA (key text : ByteArray) (N : Nat) (w : World) (hk : key.size = 16) (ht : text.size ≤ 20000) (hN : N ≤ 9223372036854775807) :
    Calls Tryz.prog 58 #[.string key, .int .i64 (N : Int), .string text] w fun e w' => e = .returned (.string ⟨(ctrL (kB (keyF key)) N (bF text) text.size).toArray⟩) ∧ Below w.heap.size w w' := by
  have hcv := fun (w : World) => run_bytes_of_string (P := Tryz.prog) w 9 22 5 text Tryz.underlying9 Tryz.underlying22 Tryz.underlying5
  have hat := hide (bF_at text text.size rfl)
  obtain ⟨n, hn⟩ : ∃ n, n = text.size := ⟨_, rfl⟩
  obtain ⟨T, hT⟩ : ∃ T, T = bF text := ⟨_, rfl⟩
  obtain ⟨K, hK⟩ : ∃ K, K = kB (keyF key) := ⟨_, rfl⟩
  rw [← hT] at hat
  rw [← hT, ← hK, ← hn]
  rw [← hn] at ht
  have HKK := hide hK
  have HNN := hide hn
  clear hT hK hn
  have hmk : ∀ w : World, (Instr.makeSlice 22 (.int .i64 16) (.int .i64 16)).run Tryz.prog w = .ok (.slice (some ⟨w.heap.size, 0, none⟩) 16 16) (w.alloc (.cells (madeCells #[.int .u8 0] 16) 5)) := run_make_row' (P := Tryz.prog) 22 5 (.int .u8 0) 1 (by kernel_rfl) Tryz.infoB8 rfl .i64 .i64 16 (by omega) (by omega)
  have hN' : (N : Int) ≤ 9223372036854775807 := by omega
  go_enter Tryz.func58, Tryz.ntmps58
  go_wp2_with fail
  refine (spec_box _).mono ?_
  rintro e w1 ⟨rfl, hbx, hb1⟩
  have HBX := hide hbx
  have hlt1 := hbx.lt
  clear hbx
  go_wp2_with fail
  refine (spec_keysA key w.heap.size w1 hk hlt1 HBX.out).mono ?_
  rintro e w2 ⟨gw, cw, rfl, hr, hb2⟩
  have HR := hide (show ∀ j, j < 176 → w2.cell? ⟨gw, j, none⟩ = some (.int .u8 ((K j).toNat : Int)) by rw [HKK.out]; exact kL_cellsK hr)
  have hg := hr.facts.2.2.2
  have HBX2 := hide (HBX.out.of_block (hb2.block _ hlt1))
  have hc2 := hide (below3A hb1 hb2)
  have hlt2 : w.heap.size < w2.heap.size := Nat.lt_of_lt_of_le hlt1 hb2.size
  clear hr hb2 hb1 HBX
  have hcap := grownCap_ge w2 text.size 0 5
  have hrow0 := hasRow.of_text w2.drew w2.heap.size 5 (grownCap w2 text.size 0 5) text hcap (Nat.le_refl _)
  have hbl0 := hide ((Below.refl w2.heap.size w2).drew.alloc (Nat.le_refl _) (.cells (bytesRow text (grownCap w2 text.size 0 5)) 5 ((bytesRow text (grownCap w2 text.size 0 5)).size, (bytesRow text (grownCap w2 text.size 0 5)).size + 1)))
  have HR0 := hide (rowC.of_text hrow0 hat.out)
  clear hrow0 hat hcap
  rw [← HNN.out] at HR0 hbl0
  have hn2 := HNN.out.symm
  go_wp2_with fail
  clear hcv hn2
  have HR1 : rowC (w2.alloc (.cells (bytesRow text (grownCap w2 n 0 5)) 5 ((bytesRow text (grownCap w2 n 0 5)).size, (bytesRow text (grownCap w2 n 0 5)).size + 1))).drew w2.heap.size n T := HR0.out
  have hbl1 : Below w2.heap.size w2 (w2.alloc (.cells (bytesRow text (grownCap w2 n 0 5)) 5 ((bytesRow text (grownCap w2 n 0 5)).size, (bytesRow text (grownCap w2 n 0 5)).size + 1))).drew := hbl0.out
  clear HR0 hbl0
  go_loopw [10] (fun i wx => ∃ (m p : Nat) (f : Nat → UInt8), p = 16 * m ∧ p ≤ n + 15 ∧ i = .int .i64 p ∧ Hid (∀ j, j < n → f j = if j < p then ctrF K N T j else T j) ∧ rowC wx w2.heap.size n f ∧ Below w2.heap.size w2 wx) (fun i _ => n + 16 - (intOf i).toNat)
  case atStart => exact ⟨0, 0, T, rfl, by omega, rfl, fun j _ => by simp, HR1, hbl1⟩
  case round =>
    clear HR1 hbl1
    obtain ⟨m, p, f, hp, hpn, rfl, hf, hr, hbl⟩ := hrel
    have HP := hide hp
    have hpm : (p : Int).tdiv 16 = (m : Int) := by rw [Int.tdiv_eq_ediv_of_nonneg (by omega)]; omega
    have hpm2 : (p : Int) / 16 = (m : Int) := by omega
    have hmb : (m : Int) ≤ 1300 := by omega
    clear hp
    by_cases hlt : p < n
    · have hlt' : decide ((p : Int) < (n : Int)) = true := decide_eq_true (by omega)
      obtain ⟨gc, hgc⟩ : ∃ x, x = wr.heap.size := ⟨_, rfl⟩
      have hgcl : w2.heap.size < gc := by have := hr.1; omega
      have hr1 := hr.alloc (.cells (madeCells #[.int .u8 0] 16) 5)
      have hbl1 := hbl.alloc hbl.size (.cells (madeCells #[.int .u8 0] 16) 5)
      have hx1 := World.rowIs_made wr (.int .u8 0) 16 5
      rw [← hgc] at hx1
      go_wp2_with fail
      rw [← hgc]
      generalize wr.alloc (.cells (madeCells #[.int .u8 0] 16) 5) = W1 at *
      clear hgc
      go_loopw [12] (fun i wx => ∃ (k : Nat) (h : Nat → UInt8), k ≤ 8 ∧ i = .int .i64 k ∧ Hid (∀ j, j < 16 → ((j < 8 ∧ 8 ≤ j + k) ∨ 16 ≤ j + k) → h j = ctrB N m j) ∧ wx.rowIs gc 5 16 (u8V h) ∧ rowC wx w2.heap.size n f ∧ Below w2.heap.size w2 wx) (fun i _ => 8 - (intOf i).toNat)
      case atStart => exact ⟨0, fun _ => 0, by omega, rfl, fun j hj h => by omega, hx1, hr1, hbl1⟩
      case round =>
        clear hr hbl hr1 hbl1 hx1
        obtain ⟨k, h, hk8, rfl, hh, hx, hr, hbl⟩ := hrel
        by_cases hklt : k < 8
        · obtain ⟨k8, ek8⟩ : ∃ q, q = 8 * k := ⟨_, rfl⟩
          obtain ⟨q7, eq7⟩ : ∃ q, q = 7 - k := ⟨_, rfl⟩
          obtain ⟨q15, eq15⟩ : ∃ q, q = 15 - k := ⟨_, rfl⟩
          have w0 : IntKind.i64.wrap (8 * (k : Int)) = (k8 : Int) := w_mul (show 8 * k = k8 by omega) (by omega)
          have w7 : IntKind.i64.wrap (7 - (k : Int)) = (q7 : Int) := by simp only [IntKind.wrap_i64]; omega
          have w15 : IntKind.i64.wrap (15 - (k : Int)) = (q15 : Int) := by simp only [IntKind.wrap_i64]; omega
          have n7 : (q7 : Int) < 16 := by omega
          have n15 : (q15 : Int) < 16 := by omega
          have b8 : (k8 : Int) ≤ 56 := by omega
          have hq7 : q7 < 16 := by omega
          have hq15 : q15 < 16 := by omega
          have c7 := hx.cell (i := q7) hq7
          have f7 := hx.frozen q7
          have d : q7 ≠ q15 := by omega
          have c15 : ∀ v, (wr.setCell ⟨gc, q7, none⟩ v).cell? ⟨gc, q15, none⟩ = some (u8V h q15) := fun v => (World.cell?_setCell_other wr ⟨gc, q7, none⟩ ⟨gc, q15, none⟩ v (by intro e; injection e with _ e2; exact d e2)).trans (hx.cell hq15)
          have f15 := hx.frozen q15
          have HQ := hide (show k8 = 8 * k ∧ q7 = 7 - k ∧ q15 = 15 - k from ⟨ek8, eq7, eq15⟩)
          clear ek8 eq7 eq15
          go_wp2_with fail
          obtain ⟨hq1, hq2, hq3⟩ := HQ.out
          have hv7 : ((N : Int) / 2 ^ k8 % 256) = (((ctrB N m q7).toNat : Nat) : Int) := by
            rw [ctrB, if_pos (by omega), show 8 * (7 - q7) = k8 by omega, ofNat_byte _ (by omega)]; simp
          have hv15 : ((m : Int) / 2 ^ k8 % 256) = (((ctrB N m q15).toNat : Nat) : Int) := by
            rw [ctrB, if_neg (by omega), show 8 * (15 - q15) = k8 by omega, ofNat_byte _ (by omega)]; simp
          rw [hv7, hv15]
          refine ⟨⟨k + 1, fun j => if j = q15 then ctrB N m q15 else if j = q7 then ctrB N m q7 else h j, by omega, by go_num, fun j hj hc => ?_, set_byte (set_byte hx rfl) rfl, (hr.far (by omega)).far (by omega), (hbl.setCell (by show w2.heap.size ≤ gc; omega) _).setCell (by show w2.heap.size ≤ gc; omega) _⟩, by simp [intOf]; omega⟩
          show (if j = q15 then ctrB N m q15 else if j = q7 then ctrB N m q7 else h j) = _
          by_cases e : j = q15
          · rw [if_pos e, e]
          · by_cases e2 : j = q7
            · rw [if_neg e, if_pos e2, e2]
            · rw [if_neg e, if_neg e2]; exact hh.out j hj (by omega)
        · have hcv := conv_row (P := Tryz.prog) (cap := 16) hx (l := (List.range 16).map (ctrB N m)) (fun j hj => by rw [List.getElem?_map, List.getElem?_range hj, hh.out j hj (by omega)]; rfl) (by simp) Tryz.underlying22 Tryz.underlying5 Tryz.underlying9
          obtain ⟨cs, hcs⟩ : ∃ x : ByteArray, x = ⟨((List.range 16).map (ctrB N m)).toArray⟩ := ⟨_, rfl⟩
          rw [← hcs] at hcv
          have hcsz : cs.size = 16 := by rw [hcs, size_mk]; simp
          have hbF := hide (show ∀ j, j < 16 → bF cs j = ctrB N m j from fun j hj => by rw [hcs, bF]; simp [hj])
          have hKc := hide (show ∀ j, j < 176 → wr.cell? ⟨gw, j, none⟩ = some (.int .u8 ((K j).toNat : Int)) from fun j hj => (hbl.cell (p := ⟨gw, j, none⟩) hg).trans (HR.out j hj))
          have hBc := hide (HBX2.out.of_block (hbl.block w.heap.size hlt2))
          have hbs := hbl.size
          have hkf : decide ((k : Int) < 8) = false := decide_eq_false (by omega)
          clear hcs hx hh
          go_wp2_with fail
          refine (spec_enc gw cw w.heap.size K cs wr hcsz (by omega) (by omega) hKc.out hBc.out).mono ?_
          rintro e w5 ⟨rfl, hb5⟩
          obtain ⟨X, hX⟩ : ∃ x : ByteArray, x = ⟨(encL K (bF cs)).toArray⟩ := ⟨_, rfl⟩
          have hXs : X.size = 16 := by rw [hX, size_mk]; simp [encL]
          have hXa := hide (show ∀ j (h : j < X.size), X[j] = encF K (ctrB N m) 10 j from fun j h => by
            subst hX
            have hj : j < 16 := by rw [size_mk] at h; simpa [encL] using h
            rw [← encF_congr K hbF.out 10 j hj]
            show (encL K (bF cs)).toArray[j]'_ = _
            simp [encL])
          rw [← hX]
          have hr5 := hr.below hb5
          have hbl5 := hbl.trans (hb5.mono hbs)
          clear hX hcv hKc hBc hr hbl hb5
          go_wp2_with fail
          obtain ⟨p16, ep16⟩ : ∃ q, q = p + 16 := ⟨_, rfl⟩
          have w16 : IntKind.i64.wrap ((p : Int) + 16) = (p16 : Int) := by simp only [IntKind.wrap_i64]; omega
          have HP16 := hide ep16
          clear ep16
          go_loopw [14] (fun i wx => ∃ (q : Nat) (f' : Nat → UInt8), p ≤ q ∧ q ≤ p16 ∧ q ≤ n ∧ i = .int .i64 q ∧ Hid (∀ j, j < n → f' j = if j < q then ctrF K N T j else T j) ∧ rowC wx w2.heap.size n f' ∧ Below w2.heap.size w2 wx) (fun i _ => p16 - (intOf i).toNat)
          case atStart => exact ⟨p, f, Nat.le_refl _, by have := HP16.out; omega, by omega, rfl, hf, hr5, hbl5⟩
          case round =>
            clear hf hr5 hbl5
            obtain ⟨q, f', hq1, hq2, hq3, rfl, hf, hr, hbl⟩ := hrel
            by_cases hq16 : q < p16
            · have a1 : decide ((q : Int) < (p16 : Int)) = true := decide_eq_true (by omega)
              have a1' : (q : Int) < (p16 : Int) := by omega
              by_cases hqn : q < n
              · have a2 : decide ((q : Int) < (n : Int)) = true := decide_eq_true (by omega)
                have a2' : (q : Int) < (n : Int) := by omega
                obtain ⟨d, ed⟩ : ∃ d, d = q - p := ⟨_, rfl⟩
                have wd1 : IntKind.i64.wrap ((q : Int) - (p : Int)) = (d : Int) := by simp only [IntKind.wrap_i64]; omega
                have hd : d < X.size := by have := HP16.out; omega
                have hd16 : (d : Int) < 16 := by omega
                have cq := (hr.2 q hqn).1
                have fq := (hr.2 q hqn).2
                have xx := r_xor8 (f' q) X[d]
                have HV := hide (show f' q ^^^ X[d] = ctrF K N T q by
                  have e0 := HP.out
                  have e1 := HP16.out
                  rw [hf.out q hqn, if_neg (by omega), hXa.out d hd, ctrF, show q / 16 = m by omega, show q % 16 = d by omega])
                obtain ⟨Y, hY⟩ : ∃ Y, Y = f' q ^^^ X[d] := ⟨_, rfl⟩
                rw [← hY] at HV xx
                obtain ⟨fq0, hfq⟩ : ∃ x, x = f' q := ⟨_, rfl⟩
                rw [← hfq] at cq xx
                clear hY hfq ed
                go_wp2_with fail
                go_region
                clear wd1 cq fq
                go_wp2_with fail
                go_roundw
                case rel =>
                  refine ⟨q + 1, fun j => if j = q then Y else f' j, by omega, by omega, by omega, by go_num, fun j hj => ?_, (hr.set hqn rfl).drew, (hbl.setCell (Nat.le_refl _) _).drew⟩
                  show (if j = q then Y else f' j) = _
                  by_cases e : j = q
                  · rw [if_pos e, if_pos (by omega), e, HV.out]
                  · rw [if_neg e, hf.out j hj]
                    by_cases e2 : j < q
                    · rw [if_pos e2, if_pos (by omega)]
                    · rw [if_neg e2, if_neg (by omega)]
                case measure => simp [intOf]; omega
              · have a2 : decide ((q : Int) < (n : Int)) = false := decide_eq_false (by omega)
                have hE := hide (show ∀ j, j < n → f' j = if j < p16 then ctrF K N T j else T j from fun j hj => by rw [hf.out j hj]; by_cases e : j < q; rw [if_pos e, if_pos (by omega)]; rw [if_neg e, if_neg (by omega)])
                have h3 := HP16.out
                have h4 := hide (show p16 = 16 * (m + 1) by have := HP.out; omega)
                have h5 := hide (show p16 ≤ n + 15 by omega)
                clear h3
                go_wp2_with fail
                go_roundw
                case rel => exact ⟨m + 1, p16, f', h4.out, h5.out, by go_num, hE, hr, hbl⟩
                case measure => have := HP16.out; simp [intOf]; omega
            · have a1 : decide ((q : Int) < (p16 : Int)) = false := decide_eq_false (by omega)
              have hE := hide (show ∀ j, j < n → f' j = if j < p16 then ctrF K N T j else T j from fun j hj => by rw [hf.out j hj]; by_cases e : j < q; rw [if_pos e, if_pos (by omega)]; rw [if_neg e, if_neg (by omega)])
              have h3 := HP16.out
              have h4 := hide (show p16 = 16 * (m + 1) by have := HP.out; omega)
              have h5 := hide (show p16 ≤ n + 15 by omega)
              clear h3
              go_wp2_with fail
              go_roundw
              case rel => exact ⟨m + 1, p16, f', h4.out, h5.out, by go_num, hE, hr, hbl⟩
              case measure => have := HP16.out; simp [intOf]; omega
    · have hlt' : decide ((p : Int) < (n : Int)) = false := decide_eq_false (by omega)
      have hcv := conv_rowC (P := Tryz.prog) (cap := grownCap w2 n 0 5) (l := ctrL K N T n) hr (fun j hj => by rw [ctrL, List.getElem?_map, List.getElem?_range hj, hf.out j hj, if_pos (by omega)]; rfl) (by simp [ctrL]) Tryz.underlying22 Tryz.underlying5 Tryz.underlying9
      go_wp2_with fail
      go_ret
      exact ⟨rfl, hc2.out.trans (hbl.mono hc2.out.size)⟩
/-- Ctr. -/
def ctrS (key : ByteArray) (nonce : Int) (text : ByteArray) : ByteArray := if key.size = 16 ∧ 0 ≤ nonce ∧ text.size ≤ 20000 then ⟨(ctrL (kB (keyF key)) nonce.toNat (bF text) text.size).toArray⟩ else ⟨#[]⟩
end Go.Proofs.YtconcnndghmdfaaGreatDoor
namespace Go.Proofs.YtconcnndghmdfaaGreatDoor
/-- The value of bytes, the highest first. -/
def val : List UInt8 → Nat := fun l => l.foldl (fun n b => 256 * n + b.toNat) 0
theorem val_snoc (l : List UInt8) (b : UInt8) : val (l ++ [b]) = 256 * val l + b.toNat := by simp [val, List.foldl_append]
/-- A number in k bytes, the highest first. -/
def bytesOf : Nat → Nat → List UInt8
  | 0, _ => []
  | k + 1, v => bytesOf k (v / 256) ++ [UInt8.ofNat (v % 256)]
theorem bytesOf_len : ∀ k v, (bytesOf k v).length = k
  | 0, _ => rfl
  | k + 1, v => by simp [bytesOf, bytesOf_len k]
theorem bytesOf_snoc (k v : Nat) (b : UInt8) : bytesOf (k + 1) (256 * v + b.toNat) = bytesOf k v ++ [b] := by
  have hb := b.toNat_lt
  show bytesOf k ((256 * v + b.toNat) / 256) ++ [UInt8.ofNat ((256 * v + b.toNat) % 256)] = _
  rw [show (256 * v + b.toNat) / 256 = v by omega, show (256 * v + b.toNat) % 256 = b.toNat by omega, UInt8.ofNat_toNat]
theorem bytesOf_at : ∀ k v j, j < k → (bytesOf k v)[j]? = some (UInt8.ofNat (v / 256 ^ (k - 1 - j) % 256))
  | 0, _, _, h => by omega
  | k + 1, v, j, h => by
    unfold bytesOf
    by_cases e : j < k
    · rw [List.getElem?_append_left (by rw [bytesOf_len]; exact e), bytesOf_at k (v / 256) j e, Nat.div_div_eq_div_mul, show k + 1 - 1 - j = (k - 1 - j) + 1 by omega, Nat.pow_succ, Nat.mul_comm 256]
    · rw [List.getElem?_append_right (by rw [bytesOf_len]; omega), bytesOf_len, show j - k = 0 by omega, show k + 1 - 1 - j = 0 by omega]
      simp
theorem val_bytesOf : ∀ k v, v < 256 ^ k → val (bytesOf k v) = v
  | 0, v, h => by simp [bytesOf, val] at h ⊢; omega
  | k + 1, v, h => by
    unfold bytesOf
    rw [val_snoc, val_bytesOf k (v / 256) (by rw [Nat.pow_succ] at h; omega), UInt8.toNat_ofNat']
    omega
/-- The coder's state: its range, its chances, its low with all that is out, and how many bytes are out. -/
structure RC where
  size : Nat
  ch : Nat → Nat
  low : Nat
  n : Nat
def bound (s : RC) (c : Nat) : Nat := s.size / 2048 * s.ch c
def chOne (p : Nat) : Nat := p - p / 32
def chNot (p : Nat) : Nat := p + (2048 - p) / 32
def setCh (ch : Nat → Nat) (c p : Nat) : Nat → Nat := fun j => if j = c then p else ch j
/-- A bit, ahead of the multiplications. -/
def part1 (s : RC) (c : Nat) (one : Bool) : RC := if one then ⟨s.size - bound s c, setCh s.ch c (chOne (s.ch c)), s.low + bound s c, s.n⟩ else ⟨bound s c, setCh s.ch c (chNot (s.ch c)), s.low, s.n⟩
/-- A multiplication by 256, where the range is too small. (One is enough.) -/
def norm (s : RC) : RC := if s.size < 16777216 then ⟨256 * s.size, s.ch, 256 * s.low, s.n + 1⟩ else s
def step (s : RC) (c : Nat) (one : Bool) : RC := norm (part1 s c one)
def rc0 : RC := ⟨4294967295, fun _ => 1024, 0, 0⟩
/-- What holds of a coder between bits. -/
structure RcOk (s : RC) : Prop where
  lo : 16777216 ≤ s.size
  hi : s.size ≤ 4294967295
  ch : ∀ c, 31 ≤ s.ch c ∧ s.ch c ≤ 2017
  fit : s.low + s.size ≤ 4294967296 * 256 ^ s.n
theorem rc0_ok : RcOk rc0 := ⟨by decide, by decide, fun _ => ⟨by show 31 ≤ 1024; omega, by show 1024 ≤ 2017; omega⟩, by decide⟩
theorem chOne_ok (p : Nat) (h : 31 ≤ p ∧ p ≤ 2017) : 31 ≤ chOne p ∧ chOne p ≤ 2017 := by unfold chOne; omega
theorem chNot_ok (p : Nat) (h : 31 ≤ p ∧ p ≤ 2017) : 31 ≤ chNot p ∧ chNot p ≤ 2017 := by unfold chNot; omega
/-- The bound lies well inside the range. -/
theorem bound_in (s : RC) (c : Nat) (h : RcOk s) : 131072 ≤ bound s c ∧ bound s c + 131072 ≤ s.size := by
  obtain ⟨h1, h2⟩ := h.ch c
  have h3 := h.lo
  unfold bound
  obtain ⟨q, hq⟩ : ∃ q, q = s.size / 2048 := ⟨_, rfl⟩
  rw [← hq]
  have hq1 : 8192 ≤ q := by omega
  have hq2 : 2048 * q ≤ s.size := by omega
  have a1 : 8192 * 31 ≤ q * s.ch c := Nat.mul_le_mul hq1 h1
  have a2 : q * s.ch c ≤ q * 2017 := Nat.mul_le_mul_left q h2
  omega
theorem part1_ok (s : RC) (c : Nat) (one : Bool) (h : RcOk s) : 131072 ≤ (part1 s c one).size ∧ (part1 s c one).size ≤ 4294967295 ∧ (∀ j, 31 ≤ (part1 s c one).ch j ∧ (part1 s c one).ch j ≤ 2017) ∧ (part1 s c one).low + (part1 s c one).size ≤ 4294967296 * 256 ^ s.n ∧ (part1 s c one).n = s.n := by
  obtain ⟨b1, b2⟩ := bound_in s c h
  have hh := h.hi
  have hf := h.fit
  unfold part1
  cases one
  · refine ⟨b1, by show bound s c ≤ _; omega, fun j => ?_, by show s.low + bound s c ≤ _; omega, rfl⟩
    show 31 ≤ (if j = c then chNot (s.ch c) else s.ch j) ∧ (if j = c then chNot (s.ch c) else s.ch j) ≤ 2017
    split
    · exact chNot_ok _ (h.ch c)
    · exact h.ch j
  · refine ⟨by show _ ≤ s.size - bound s c; omega, by show s.size - bound s c ≤ _; omega, fun j => ?_, by show s.low + bound s c + (s.size - bound s c) ≤ _; omega, rfl⟩
    show 31 ≤ (if j = c then chOne (s.ch c) else s.ch j) ∧ (if j = c then chOne (s.ch c) else s.ch j) ≤ 2017
    split
    · exact chOne_ok _ (h.ch c)
    · exact h.ch j
theorem norm_ok (s : RC) (h1 : 131072 ≤ s.size) (h2 : s.size ≤ 4294967295) (h3 : ∀ j, 31 ≤ s.ch j ∧ s.ch j ≤ 2017) (h4 : s.low + s.size ≤ 4294967296 * 256 ^ s.n) : RcOk (norm s) := by
  unfold norm
  by_cases e : s.size < 16777216
  · rw [if_pos e]
    exact ⟨by show _ ≤ 256 * s.size; omega, by show 256 * s.size ≤ _; omega, h3, by show 256 * s.low + 256 * s.size ≤ 4294967296 * 256 ^ (s.n + 1); rw [Nat.pow_succ]; omega⟩
  · rw [if_neg e]
    exact ⟨by omega, h2, h3, h4⟩
theorem step_ok (s : RC) (c : Nat) (one : Bool) (h : RcOk s) : RcOk (step s c one) := by
  obtain ⟨a, b, d, e, f⟩ := part1_ok s c one h
  exact norm_ok _ a b d (by rw [f]; exact e)
/-- The coder behind bits. -/
def run : RC → List (Nat × Bool) → RC
  | s, [] => s
  | s, x :: l => run (step s x.1 x.2) l
theorem run_ok : ∀ l s, RcOk s → RcOk (run s l)
  | [], _, h => h
  | x :: l, s, h => run_ok l _ (step_ok s x.1 x.2 h)
theorem run_snoc : ∀ l s x, run s (l ++ [x]) = step (run s l) x.1 x.2
  | [], _, _ => rfl
  | y :: l, s, x => run_snoc l (step s y.1 y.2) x
/-- The code of bits. -/
def codeOf (l : List (Nat × Bool)) : List UInt8 := bytesOf ((run rc0 l).n + 4) (run rc0 l).low
theorem part1_in (s : RC) (c : Nat) (one : Bool) (h : RcOk s) : s.low ≤ (part1 s c one).low ∧ (part1 s c one).low + (part1 s c one).size ≤ s.low + s.size := by
  obtain ⟨b1, b2⟩ := bound_in s c h
  unfold part1
  cases one
  · exact ⟨Nat.le_refl _, by show s.low + bound s c ≤ _; omega⟩
  · exact ⟨by show _ ≤ s.low + bound s c; omega, by show s.low + bound s c + (s.size - bound s c) ≤ _; omega⟩
theorem part1_n (s : RC) (c : Nat) (one : Bool) : (part1 s c one).n = s.n := by unfold part1; split <;> rfl
theorem norm_n (s : RC) : s.n ≤ (norm s).n := by
  unfold norm
  split
  · exact Nat.le_succ _
  · exact Nat.le_refl _
theorem step_n (s : RC) (c : Nat) (one : Bool) : s.n ≤ (step s c one).n := by
  have h := norm_n (part1 s c one)
  rw [part1_n] at h; exact h
theorem run_n : ∀ l s, s.n ≤ (run s l).n
  | [], _ => Nat.le_refl _
  | x :: l, s => Nat.le_trans (step_n s x.1 x.2) (run_n l (step s x.1 x.2))
theorem norm_scale (s : RC) (M : Nat) (h : (norm s).n ≤ M) : (norm s).low * 256 ^ (M - (norm s).n) = s.low * 256 ^ (M - s.n) ∧ ((norm s).low + (norm s).size) * 256 ^ (M - (norm s).n) = (s.low + s.size) * 256 ^ (M - s.n) := by
  unfold norm at h ⊢
  by_cases e : s.size < 16777216
  · rw [if_pos e] at h ⊢
    have h' : s.n + 1 ≤ M := h
    show 256 * s.low * 256 ^ (M - (s.n + 1)) = _ ∧ (256 * s.low + 256 * s.size) * 256 ^ (M - (s.n + 1)) = _
    rw [show M - s.n = (M - (s.n + 1)) + 1 by omega, Nat.pow_succ]
    generalize 256 ^ (M - (s.n + 1)) = Z
    rw [← Nat.mul_add, Nat.mul_comm Z 256, Nat.mul_comm 256 s.low, Nat.mul_comm 256 (s.low + s.size), Nat.mul_assoc, Nat.mul_assoc]
    exact ⟨rfl, rfl⟩
  · rw [if_neg e]; exact ⟨rfl, rfl⟩
/-- Behind bits low lies in the range that there was. -/
theorem run_in : ∀ l s, RcOk s → s.low * 256 ^ ((run s l).n - s.n) ≤ (run s l).low ∧ (run s l).low + (run s l).size ≤ (s.low + s.size) * 256 ^ ((run s l).n - s.n)
  | [], s, _ => by simp [run]
  | x :: l, s, h => by
    obtain ⟨i1, i2⟩ := run_in l (step s x.1 x.2) (step_ok s x.1 x.2 h)
    obtain ⟨p1, p2⟩ := part1_in s x.1 x.2 h
    have hn := run_n l (step s x.1 x.2)
    obtain ⟨q1, q2⟩ := norm_scale (part1 s x.1 x.2) _ hn
    rw [part1_n] at q1 q2
    exact ⟨Nat.le_trans (Nat.mul_le_mul_right _ p1) (q1 ▸ i1), Nat.le_trans i2 (Nat.le_trans (Nat.le_of_eq q2) (Nat.mul_le_mul_right _ p2))⟩
/-- Behind bits low lies in the part of the range that was taken for the first of them. -/
theorem run_part (l : List (Nat × Bool)) (s : RC) (c : Nat) (one : Bool) (h : RcOk s) : (part1 s c one).low * 256 ^ ((run (step s c one) l).n - s.n) ≤ (run (step s c one) l).low ∧ (run (step s c one) l).low < ((part1 s c one).low + (part1 s c one).size) * 256 ^ ((run (step s c one) l).n - s.n) := by
  have hok := step_ok s c one h
  obtain ⟨i1, i2⟩ := run_in l (step s c one) hok
  have hF := (run_ok l (step s c one) hok).lo
  obtain ⟨q1, q2⟩ := norm_scale (part1 s c one) _ (run_n l (step s c one))
  rw [part1_n] at q1 q2
  refine ⟨q1 ▸ i1, ?_⟩
  have i2' := i2
  have e : ((step s c one).low + (step s c one).size) * 256 ^ ((run (step s c one) l).n - (step s c one).n) = ((part1 s c one).low + (part1 s c one).size) * 256 ^ ((run (step s c one) l).n - s.n) := q2
  rw [e] at i2'
  omega
/-- The first k bytes, as a number. -/
def pv (tb : Nat → Nat) : Nat → Nat
  | 0 => 0
  | k + 1 => 256 * pv tb k + tb k
/-- The decoder: what is left, and the bit. -/
def dbit (s : RC) (x c : Nat) : Bool := decide (bound s c ≤ x)
def dx1 (s : RC) (x c : Nat) : Nat := if bound s c ≤ x then x - bound s c else x
def dx (tb : Nat → Nat) (s : RC) (x c : Nat) : Nat := if (part1 s c (dbit s x c)).size < 16777216 then (256 * dx1 s x c + tb (s.n + 4)) % 18446744073709551616 else dx1 s x c
/-- The decoder behind contexts: its range and chances (low: as the coder's of these bits), what is left; and its bits. -/
def drun (tb : Nat → Nat) : RC → Nat → List Nat → RC × Nat
  | s, x, [] => (s, x)
  | s, x, c :: l => drun tb (step s c (dbit s x c)) (dx tb s x c) l
def dbits (tb : Nat → Nat) : RC → Nat → List Nat → List Bool
  | _, _, [] => []
  | s, x, c :: l => dbit s x c :: dbits tb (step s c (dbit s x c)) (dx tb s x c) l
theorem dbits_len (tb : Nat → Nat) : ∀ l s x, (dbits tb s x l).length = l.length
  | [], _, _ => rfl
  | _ :: l, _, _ => congrArg Nat.succ (dbits_len tb l _ _)
theorem div_le_lt {F L S Z : Nat} (hZ : 0 < Z) (h1 : L * Z ≤ F) (h2 : F < (L + S) * Z) : L ≤ F / Z ∧ F / Z < L + S :=
  ⟨(Nat.le_div_iff_mul_le hZ).2 h1, (Nat.div_lt_iff_lt_mul hZ).2 h2⟩
/-- Bits come back from their code. -/
theorem bits_back (tb : Nat → Nat) (htb : ∀ j, tb j < 256) (M : Nat) : ∀ l s x, RcOk s → M = (run s l).n → (∀ k, k ≤ M + 4 → pv tb k = (run s l).low / 256 ^ (M + 4 - k)) → s.low + x = pv tb (s.n + 4) →
    dbits tb s x (l.map (·.1)) = l.map (·.2)
  | [], _, _, _, _, _, _ => rfl
  | (c, one) :: l, s, x, h, hM, hp, hx => by
    have hM' : M = (run (step s c one) l).n := hM
    have hp' : ∀ k, k ≤ M + 4 → pv tb k = (run (step s c one) l).low / 256 ^ (M + 4 - k) := hp
    have hns := step_n s c one
    have hn := run_n l (step s c one)
    rw [← hM'] at hn
    obtain ⟨r1, r2⟩ := run_part l s c one h
    rw [← hM'] at r1 r2
    have hq := hp' (s.n + 4) (by omega)
    rw [show M + 4 - (s.n + 4) = M - s.n by omega] at hq
    obtain ⟨k1, k2⟩ := div_le_lt (Nat.pow_pos (by decide)) r1 r2
    rw [← hq] at k1 k2
    obtain ⟨b1, b2⟩ := bound_in s c h
    have hkey : dbit s x c = one ∧ (part1 s c one).low + dx1 s x c = pv tb (s.n + 4) := by
      unfold part1 at k1 k2 ⊢
      unfold dbit dx1
      cases one
      · have k2' : pv tb (s.n + 4) < s.low + bound s c := k2
        have hlt : ¬ bound s c ≤ x := by omega
        refine ⟨decide_eq_false hlt, ?_⟩
        rw [if_neg hlt]; exact hx
      · have k1' : s.low + bound s c ≤ pv tb (s.n + 4) := k1
        have hle : bound s c ≤ x := by omega
        refine ⟨decide_eq_true hle, ?_⟩
        rw [if_pos hle]
        show s.low + bound s c + (x - bound s c) = _
        omega
    obtain ⟨hb, hd⟩ := hkey
    show dbit s x c :: dbits tb (step s c (dbit s x c)) (dx tb s x c) (l.map (·.1)) = one :: l.map (·.2)
    rw [hb, bits_back tb htb M l (step s c one) (dx tb s x c) (step_ok s c one h) hM' hp' ?_]
    unfold dx step norm
    rw [hb]
    by_cases e : (part1 s c one).size < 16777216
    · rw [if_pos e, if_pos e]
      show 256 * (part1 s c one).low + (256 * dx1 s x c + tb (s.n + 4)) % 18446744073709551616 = pv tb ((part1 s c one).n + 1 + 4)
      have ht := htb (s.n + 4)
      rw [part1_n, show s.n + 1 + 4 = (s.n + 4) + 1 by omega, Nat.mod_eq_of_lt (by omega)]
      show _ = 256 * pv tb (s.n + 4) + tb (s.n + 4)
      omega
    · rw [if_neg e, if_neg e, part1_n]; exact hd
/-- The first bytes of a code, as numbers. -/
theorem pv_code (tb : Nat → Nat) (m v : Nat) (hv : v < 256 ^ m) (ht : ∀ j, j < m → tb j = v / 256 ^ (m - 1 - j) % 256) : ∀ k, k ≤ m → pv tb k = v / 256 ^ (m - k)
  | 0, _ => by rw [Nat.sub_zero, Nat.div_eq_of_lt hv]; rfl
  | k + 1, hk => by
    show 256 * pv tb k + tb k = _
    rw [pv_code tb m v hv ht k (by omega), ht k (by omega), show m - k = (m - 1 - k) + 1 by omega, Nat.pow_succ, ← Nat.div_div_eq_div_mul, show m - (k + 1) = m - 1 - k by omega]
    omega
/-- What a decoder begins with. -/
theorem back_all (l : List (Nat × Bool)) (tb : Nat → Nat) (htb : ∀ j, tb j < 256) (h : ∀ j u, (codeOf l)[j]? = some u → tb j = u.toNat) : dbits tb rc0 (pv tb 4) (l.map (·.1)) = l.map (·.2) := by
  have hok := run_ok l rc0 rc0_ok
  have hfit := hok.fit
  have hlo := hok.lo
  have hv : (run rc0 l).low < 256 ^ ((run rc0 l).n + 4) := by
    rw [Nat.pow_add, Nat.mul_comm, show (256 : Nat) ^ 4 = 4294967296 from rfl]; omega
  refine bits_back tb htb (run rc0 l).n l rc0 (pv tb 4) rc0_ok rfl ?_ (by show 0 + pv tb 4 = pv tb (0 + 4); rw [Nat.zero_add, Nat.zero_add])
  refine pv_code tb _ _ hv (fun j hj => ?_)
  rw [h j _ (bytesOf_at _ _ j hj), UInt8.toNat_ofNat']
  omega
end Go.Proofs.YtconcnndghmdfaaGreatDoor
