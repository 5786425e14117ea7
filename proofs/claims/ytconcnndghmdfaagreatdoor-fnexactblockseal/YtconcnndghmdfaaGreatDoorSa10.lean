/- The walk over the model's l03Ctr. -/
import Derived.Test.YtconcnndghmdfaaGreatDoorSa9
namespace Go.Proofs.YtconcnndghmdfaaGreatDoor
open Go.RowKit
attribute [local irreducible] times sbox
/-- The bytes that are hidden for the stream: eight of the nonce, eight of the block's number. -/
def ctrB (N m j : Nat) : UInt8 := if j < 8 then UInt8.ofNat (N / 2 ^ (8 * (7 - j)) % 256) else UInt8.ofNat (m / 2 ^ (8 * (15 - j)) % 256)
/-- Ctr, a byte of it. -/
def ctrF (K : Nat → UInt8) (N : Nat) (T : Nat → UInt8) (j : Nat) : UInt8 := T j ^^^ encF K (ctrB N (j / 16)) 10 (j % 16)
def ctrL (K : Nat → UInt8) (N : Nat) (T : Nat → UInt8) (n : Nat) : List UInt8 := (List.range n).map (ctrF K N T)
theorem encF_congr (K : Nat → UInt8) {B B' : Nat → UInt8} (h : ∀ j, j < 16 → B j = B' j) : ∀ n j, j < 16 → encF K B n j = encF K B' n j
  | 0, j, hj => by show B j ^^^ K j = B' j ^^^ K j; rw [h j hj]
  | n + 1, j, hj => by
    show midF (n + 1) (encF K B n) j ^^^ K (16 * (n + 1) + j) = midF (n + 1) (encF K B' n) j ^^^ K (16 * (n + 1) + j)
    rw [midF_congr (n + 1) (fun i hi => encF_congr K h n i hi) j hj]
set_option maxRecDepth 100000 in
set_option maxHeartbeats 1600000 in
theorem spec_ctrA (key text : ByteArray) (N : Nat) (w : World) (hk : key.size = 16) (ht : text.size ≤ 20000) (hN : N ≤ 9223372036854775807) :
    Calls Tryz.prog 58 #[.string key, .int .i64 (N : Int), .string text] w fun e w' => e = .returned (.string ⟨(ctrL (kB (keyF key)) N (bF text) text.size).toArray⟩) ∧ Below w.heap.size w w' := by
  have hcv := fun (w : World) => run_bytes_of_string (P := Tryz.prog) w 9 22 5 text Tryz.underlying9 Tryz.underlying22 Tryz.underlying5
  have hat := hide (bF_at text text.size rfl)
  obtain ⟨n, hn⟩ : ∃ n, n = text.size := ⟨_, rfl⟩
  obtain ⟨T, hT⟩ : ∃ T, T = bF text := ⟨_, rfl⟩
  obtain ⟨K, hK⟩ : ∃ K, K = kB (keyF key) := ⟨_, rfl⟩
  rw [← hT] at hat
  rw [← hT, ← hK, ← hn]
  rw [← hn] at ht
  have HKK := hide hK
  have HNN := hide hn
  clear hT hK hn
  have hmk : ∀ w : World, (Instr.makeSlice 22 (.int .i64 16) (.int .i64 16)).run Tryz.prog w = .ok (.slice (some ⟨w.heap.size, 0, none⟩) 16 16) (w.alloc (.cells (madeCells #[.int .u8 0] 16) 5)) := run_make_row' (P := Tryz.prog) 22 5 (.int .u8 0) 1 (by kernel_rfl) Tryz.infoB8 rfl .i64 .i64 16 (by omega) (by omega)
  have hN' : (N : Int) ≤ 9223372036854775807 := by omega
  go_enter Tryz.func58, Tryz.ntmps58
  go_wp2_with fail
  refine (spec_box _).mono ?_
  rintro e w1 ⟨rfl, hbx, hb1⟩
  have HBX := hide hbx
  have hlt1 := hbx.lt
  clear hbx
  go_wp2_with fail
  refine (spec_keysA key w.heap.size w1 hk hlt1 HBX.out).mono ?_
  rintro e w2 ⟨gw, cw, rfl, hr, hb2⟩
  have HR := hide (show ∀ j, j < 176 → w2.cell? ⟨gw, j, none⟩ = some (.int .u8 ((K j).toNat : Int)) by rw [HKK.out]; exact kL_cellsK hr)
  have hg := hr.facts.2.2.2
  have HBX2 := hide (HBX.out.of_block (hb2.block _ hlt1))
  have hc2 := hide (below3A hb1 hb2)
  have hlt2 : w.heap.size < w2.heap.size := Nat.lt_of_lt_of_le hlt1 hb2.size
  clear hr hb2 hb1 HBX
  have hcap := grownCap_ge w2 text.size 0 5
  have hrow0 := hasRow.of_text w2.drew w2.heap.size 5 (grownCap w2 text.size 0 5) text hcap (Nat.le_refl _)
  have hbl0 := hide ((Below.refl w2.heap.size w2).drew.alloc (Nat.le_refl _) (.cells (bytesRow text (grownCap w2 text.size 0 5)) 5 ((bytesRow text (grownCap w2 text.size 0 5)).size, (bytesRow text (grownCap w2 text.size 0 5)).size + 1)))
  have HR0 := hide (rowC.of_text hrow0 hat.out)
  clear hrow0 hat hcap
  rw [← HNN.out] at HR0 hbl0
  have hn2 := HNN.out.symm
  go_wp2_with fail
  clear hcv hn2
  have HR1 : rowC (w2.alloc (.cells (bytesRow text (grownCap w2 n 0 5)) 5 ((bytesRow text (grownCap w2 n 0 5)).size, (bytesRow text (grownCap w2 n 0 5)).size + 1))).drew w2.heap.size n T := HR0.out
  have hbl1 : Below w2.heap.size w2 (w2.alloc (.cells (bytesRow text (grownCap w2 n 0 5)) 5 ((bytesRow text (grownCap w2 n 0 5)).size, (bytesRow text (grownCap w2 n 0 5)).size + 1))).drew := hbl0.out
  clear HR0 hbl0
  go_loopw [10] (fun i wx => ∃ (m p : Nat) (f : Nat → UInt8), p = 16 * m ∧ p ≤ n + 15 ∧ i = .int .i64 p ∧ Hid (∀ j, j < n → f j = if j < p then ctrF K N T j else T j) ∧ rowC wx w2.heap.size n f ∧ Below w2.heap.size w2 wx) (fun i _ => n + 16 - (intOf i).toNat)
  case atStart => exact ⟨0, 0, T, rfl, by omega, rfl, fun j _ => by simp, HR1, hbl1⟩
  case round =>
    clear HR1 hbl1
    obtain ⟨m, p, f, hp, hpn, rfl, hf, hr, hbl⟩ := hrel
    have HP := hide hp
    have hpm : (p : Int).tdiv 16 = (m : Int) := by rw [Int.tdiv_eq_ediv_of_nonneg (by omega)]; omega
    have hpm2 : (p : Int) / 16 = (m : Int) := by omega
    have hmb : (m : Int) ≤ 1300 := by omega
    clear hp
    by_cases hlt : p < n
    · have hlt' : decide ((p : Int) < (n : Int)) = true := decide_eq_true (by omega)
      obtain ⟨gc, hgc⟩ : ∃ x, x = wr.heap.size := ⟨_, rfl⟩
      have hgcl : w2.heap.size < gc := by have := hr.1; omega
      have hr1 := hr.alloc (.cells (madeCells #[.int .u8 0] 16) 5)
      have hbl1 := hbl.alloc hbl.size (.cells (madeCells #[.int .u8 0] 16) 5)
      have hx1 := World.rowIs_made wr (.int .u8 0) 16 5
      rw [← hgc] at hx1
      go_wp2_with fail
      rw [← hgc]
      generalize wr.alloc (.cells (madeCells #[.int .u8 0] 16) 5) = W1 at *
      clear hgc
      go_loopw [12] (fun i wx => ∃ (k : Nat) (h : Nat → UInt8), k ≤ 8 ∧ i = .int .i64 k ∧ Hid (∀ j, j < 16 → ((j < 8 ∧ 8 ≤ j + k) ∨ 16 ≤ j + k) → h j = ctrB N m j) ∧ wx.rowIs gc 5 16 (u8V h) ∧ rowC wx w2.heap.size n f ∧ Below w2.heap.size w2 wx) (fun i _ => 8 - (intOf i).toNat)
      case atStart => exact ⟨0, fun _ => 0, by omega, rfl, fun j hj h => by omega, hx1, hr1, hbl1⟩
      case round =>
        clear hr hbl hr1 hbl1 hx1
        obtain ⟨k, h, hk8, rfl, hh, hx, hr, hbl⟩ := hrel
        by_cases hklt : k < 8
        · obtain ⟨k8, ek8⟩ : ∃ q, q = 8 * k := ⟨_, rfl⟩
          obtain ⟨q7, eq7⟩ : ∃ q, q = 7 - k := ⟨_, rfl⟩
          obtain ⟨q15, eq15⟩ : ∃ q, q = 15 - k := ⟨_, rfl⟩
          have w0 : IntKind.i64.wrap (8 * (k : Int)) = (k8 : Int) := w_mul (show 8 * k = k8 by omega) (by omega)
          have w7 : IntKind.i64.wrap (7 - (k : Int)) = (q7 : Int) := by simp only [IntKind.wrap_i64]; omega
          have w15 : IntKind.i64.wrap (15 - (k : Int)) = (q15 : Int) := by simp only [IntKind.wrap_i64]; omega
          have n7 : (q7 : Int) < 16 := by omega
          have n15 : (q15 : Int) < 16 := by omega
          have b8 : (k8 : Int) ≤ 56 := by omega
          have hq7 : q7 < 16 := by omega
          have hq15 : q15 < 16 := by omega
          have c7 := hx.cell (i := q7) hq7
          have f7 := hx.frozen q7
          have d : q7 ≠ q15 := by omega
          have c15 : ∀ v, (wr.setCell ⟨gc, q7, none⟩ v).cell? ⟨gc, q15, none⟩ = some (u8V h q15) := fun v => (World.cell?_setCell_other wr ⟨gc, q7, none⟩ ⟨gc, q15, none⟩ v (by intro e; injection e with _ e2; exact d e2)).trans (hx.cell hq15)
          have f15 := hx.frozen q15
          have HQ := hide (show k8 = 8 * k ∧ q7 = 7 - k ∧ q15 = 15 - k from ⟨ek8, eq7, eq15⟩)
          clear ek8 eq7 eq15
          go_wp2_with fail
          obtain ⟨hq1, hq2, hq3⟩ := HQ.out
          have hv7 : ((N : Int) / 2 ^ k8 % 256) = (((ctrB N m q7).toNat : Nat) : Int) := by
            rw [ctrB, if_pos (by omega), show 8 * (7 - q7) = k8 by omega, ofNat_byte _ (by omega)]; simp
          have hv15 : ((m : Int) / 2 ^ k8 % 256) = (((ctrB N m q15).toNat : Nat) : Int) := by
            rw [ctrB, if_neg (by omega), show 8 * (15 - q15) = k8 by omega, ofNat_byte _ (by omega)]; simp
          rw [hv7, hv15]
          refine ⟨⟨k + 1, fun j => if j = q15 then ctrB N m q15 else if j = q7 then ctrB N m q7 else h j, by omega, by go_num, fun j hj hc => ?_, set_byte (set_byte hx rfl) rfl, (hr.far (by omega)).far (by omega), (hbl.setCell (by show w2.heap.size ≤ gc; omega) _).setCell (by show w2.heap.size ≤ gc; omega) _⟩, by simp [intOf]; omega⟩
          show (if j = q15 then ctrB N m q15 else if j = q7 then ctrB N m q7 else h j) = _
          by_cases e : j = q15
          · rw [if_pos e, e]
          · by_cases e2 : j = q7
            · rw [if_neg e, if_pos e2, e2]
            · rw [if_neg e, if_neg e2]; exact hh.out j hj (by omega)
        · have hcv := conv_row (P := Tryz.prog) (cap := 16) hx (l := (List.range 16).map (ctrB N m)) (fun j hj => by rw [List.getElem?_map, List.getElem?_range hj, hh.out j hj (by omega)]; rfl) (by simp) Tryz.underlying22 Tryz.underlying5 Tryz.underlying9
          obtain ⟨cs, hcs⟩ : ∃ x : ByteArray, x = ⟨((List.range 16).map (ctrB N m)).toArray⟩ := ⟨_, rfl⟩
          rw [← hcs] at hcv
          have hcsz : cs.size = 16 := by rw [hcs, size_mk]; simp
          have hbF := hide (show ∀ j, j < 16 → bF cs j = ctrB N m j from fun j hj => by rw [hcs, bF]; simp [hj])
          have hKc := hide (show ∀ j, j < 176 → wr.cell? ⟨gw, j, none⟩ = some (.int .u8 ((K j).toNat : Int)) from fun j hj => (hbl.cell (p := ⟨gw, j, none⟩) hg).trans (HR.out j hj))
          have hBc := hide (HBX2.out.of_block (hbl.block w.heap.size hlt2))
          have hbs := hbl.size
          have hkf : decide ((k : Int) < 8) = false := decide_eq_false (by omega)
          clear hcs hx hh
          go_wp2_with fail
          refine (spec_enc gw cw w.heap.size K cs wr hcsz (by omega) (by omega) hKc.out hBc.out).mono ?_
          rintro e w5 ⟨rfl, hb5⟩
          obtain ⟨X, hX⟩ : ∃ x : ByteArray, x = ⟨(encL K (bF cs)).toArray⟩ := ⟨_, rfl⟩
          have hXs : X.size = 16 := by rw [hX, size_mk]; simp [encL]
          have hXa := hide (show ∀ j (h : j < X.size), X[j] = encF K (ctrB N m) 10 j from fun j h => by
            subst hX
            have hj : j < 16 := by rw [size_mk] at h; simpa [encL] using h
            rw [← encF_congr K hbF.out 10 j hj]
            show (encL K (bF cs)).toArray[j]'_ = _
            simp [encL])
          rw [← hX]
          have hr5 := hr.below hb5
          have hbl5 := hbl.trans (hb5.mono hbs)
          clear hX hcv hKc hBc hr hbl hb5
          go_wp2_with fail
          obtain ⟨p16, ep16⟩ : ∃ q, q = p + 16 := ⟨_, rfl⟩
          have w16 : IntKind.i64.wrap ((p : Int) + 16) = (p16 : Int) := by simp only [IntKind.wrap_i64]; omega
          have HP16 := hide ep16
          clear ep16
          go_loopw [14] (fun i wx => ∃ (q : Nat) (f' : Nat → UInt8), p ≤ q ∧ q ≤ p16 ∧ q ≤ n ∧ i = .int .i64 q ∧ Hid (∀ j, j < n → f' j = if j < q then ctrF K N T j else T j) ∧ rowC wx w2.heap.size n f' ∧ Below w2.heap.size w2 wx) (fun i _ => p16 - (intOf i).toNat)
          case atStart => exact ⟨p, f, Nat.le_refl _, by have := HP16.out; omega, by omega, rfl, hf, hr5, hbl5⟩
          case round =>
            clear hf hr5 hbl5
            obtain ⟨q, f', hq1, hq2, hq3, rfl, hf, hr, hbl⟩ := hrel
            by_cases hq16 : q < p16
            · have a1 : decide ((q : Int) < (p16 : Int)) = true := decide_eq_true (by omega)
              have a1' : (q : Int) < (p16 : Int) := by omega
              by_cases hqn : q < n
              · have a2 : decide ((q : Int) < (n : Int)) = true := decide_eq_true (by omega)
                have a2' : (q : Int) < (n : Int) := by omega
                obtain ⟨d, ed⟩ : ∃ d, d = q - p := ⟨_, rfl⟩
                have wd1 : IntKind.i64.wrap ((q : Int) - (p : Int)) = (d : Int) := by simp only [IntKind.wrap_i64]; omega
                have hd : d < X.size := by have := HP16.out; omega
                have hd16 : (d : Int) < 16 := by omega
                have cq := (hr.2 q hqn).1
                have fq := (hr.2 q hqn).2
                have xx := r_xor8 (f' q) X[d]
                have HV := hide (show f' q ^^^ X[d] = ctrF K N T q by
                  have e0 := HP.out
                  have e1 := HP16.out
                  rw [hf.out q hqn, if_neg (by omega), hXa.out d hd, ctrF, show q / 16 = m by omega, show q % 16 = d by omega])
                obtain ⟨Y, hY⟩ : ∃ Y, Y = f' q ^^^ X[d] := ⟨_, rfl⟩
                rw [← hY] at HV xx
                obtain ⟨fq0, hfq⟩ : ∃ x, x = f' q := ⟨_, rfl⟩
                rw [← hfq] at cq xx
                clear hY hfq ed
                go_wp2_with fail
                go_region
                clear wd1 cq fq
                go_wp2_with fail
                go_roundw
                case rel =>
                  refine ⟨q + 1, fun j => if j = q then Y else f' j, by omega, by omega, by omega, by go_num, fun j hj => ?_, (hr.set hqn rfl).drew, (hbl.setCell (Nat.le_refl _) _).drew⟩
                  show (if j = q then Y else f' j) = _
                  by_cases e : j = q
                  · rw [if_pos e, if_pos (by omega), e, HV.out]
                  · rw [if_neg e, hf.out j hj]
                    by_cases e2 : j < q
                    · rw [if_pos e2, if_pos (by omega)]
                    · rw [if_neg e2, if_neg (by omega)]
                case measure => simp [intOf]; omega
              · have a2 : decide ((q : Int) < (n : Int)) = false := decide_eq_false (by omega)
                have hE := hide (show ∀ j, j < n → f' j = if j < p16 then ctrF K N T j else T j from fun j hj => by rw [hf.out j hj]; by_cases e : j < q; rw [if_pos e, if_pos (by omega)]; rw [if_neg e, if_neg (by omega)])
                have h3 := HP16.out
                have h4 := hide (show p16 = 16 * (m + 1) by have := HP.out; omega)
                have h5 := hide (show p16 ≤ n + 15 by omega)
                clear h3
                go_wp2_with fail
                go_roundw
                case rel => exact ⟨m + 1, p16, f', h4.out, h5.out, by go_num, hE, hr, hbl⟩
                case measure => have := HP16.out; simp [intOf]; omega
            · have a1 : decide ((q : Int) < (p16 : Int)) = false := decide_eq_false (by omega)
              have hE := hide (show ∀ j, j < n → f' j = if j < p16 then ctrF K N T j else T j from fun j hj => by rw [hf.out j hj]; by_cases e : j < q; rw [if_pos e, if_pos (by omega)]; rw [if_neg e, if_neg (by omega)])
              have h3 := HP16.out
              have h4 := hide (show p16 = 16 * (m + 1) by have := HP.out; omega)
              have h5 := hide (show p16 ≤ n + 15 by omega)
              clear h3
              go_wp2_with fail
              go_roundw
              case rel => exact ⟨m + 1, p16, f', h4.out, h5.out, by go_num, hE, hr, hbl⟩
              case measure => have := HP16.out; simp [intOf]; omega
    · have hlt' : decide ((p : Int) < (n : Int)) = false := decide_eq_false (by omega)
      have hcv := conv_rowC (P := Tryz.prog) (cap := grownCap w2 n 0 5) (l := ctrL K N T n) hr (fun j hj => by rw [ctrL, List.getElem?_map, List.getElem?_range hj, hf.out j hj, if_pos (by omega)]; rfl) (by simp [ctrL]) Tryz.underlying22 Tryz.underlying5 Tryz.underlying9
      go_wp2_with fail
      go_ret
      exact ⟨rfl, hc2.out.trans (hbl.mono hc2.out.size)⟩
/-- Ctr. -/
def ctrS (key : ByteArray) (nonce : Int) (text : ByteArray) : ByteArray := if key.size = 16 ∧ 0 ≤ nonce ∧ text.size ≤ 20000 then ⟨(ctrL (kB (keyF key)) nonce.toNat (bF text) text.size).toArray⟩ else ⟨#[]⟩
end Go.Proofs.YtconcnndghmdfaaGreatDoor
