/- Put together: ImpAdd, ImpBytes, ImpHigh, ImpEnd, ImpOf. -/
import Derived.Test.YtconcnndghmdfaaGreatDoorSe26
import Derived.Test.YtconcnndghmdfaaGreatDoorSe3
import Derived.Test.YtconcnndghmdfaaGreatDoorSe4
import Derived.Test.YtconcnndghmdfaaGreatDoorRows
import Derived.Test.YtconcnndghmdfaaGreatDoorSe12
namespace Go.Proofs.YtconcnndghmdfaaGreatDoor
open Go.RowKit
/-- A hash in block g that has taken in the bytes L, of them m blocks. -/
def HAt (w : World) (base g : Nat) (L : List UInt8) (m : Nat) : Prop :=
  ∃ rv, w.rowIs g 191 10 (hashV (stAt L m) rv (.int .u64 (L.length : Nat))) ∧ oRow w base g rv (L.drop (64 * m)) ∧ 64 * m ≤ L.length
theorem stAt_more (L K : List UInt8) : ∀ m, 64 * m ≤ L.length → stAt (L ++ K) m = stAt L m
  | 0, _ => rfl
  | m + 1, h => by
    have e : ((L ++ K).drop (64 * m)).take 64 = (L.drop (64 * m)).take 64 := by
      rw [List.drop_append_of_le_length (by omega), List.take_append_of_le_length (by rw [List.length_drop]; omega)]
    show blockF (byteAt ⟨(((L ++ K).drop (64 * m)).take 64).toArray⟩) (stAt (L ++ K) m) = blockF (byteAt ⟨((L.drop (64 * m)).take 64).toArray⟩) (stAt L m)
    rw [e, stAt_more L K m (by omega)]
theorem hash_rest {w : World} {g T : Nat} {st : Nat → Nat} {rv mv : Value} (h : w.rowIs g T 10 (hashV st rv mv)) : w.cell? ⟨g, 8, none⟩ = some rv := h.cell (i := 8) (by omega)
theorem hash_many {w : World} {g T : Nat} {st : Nat → Nat} {rv mv : Value} (h : w.rowIs g T 10 (hashV st rv mv)) : w.cell? ⟨g, 9, none⟩ = some mv := h.cell (i := 9) (by omega)
theorem hash_set8 {w : World} {g T : Nat} {st : Nat → Nat} {rv mv : Value} (h : w.rowIs g T 10 (hashV st rv mv)) (v : Value) : (w.setCell ⟨g, 8, none⟩ v).rowIs g T 10 (hashV st v mv) := by
  refine (h.set 8 v).congr ?_
  intro i _
  by_cases e : i = 8
  · subst e; rfl
  · rw [if_neg e, hashV, hashV, if_neg e, if_neg e]
theorem hash_set9 {w : World} {g T : Nat} {st : Nat → Nat} {rv mv : Value} (h : w.rowIs g T 10 (hashV st rv mv)) (v : Value) : (w.setCell ⟨g, 9, none⟩ v).rowIs g T 10 (hashV st rv v) := by
  refine (h.set 9 v).congr ?_
  intro i hi
  by_cases e : i = 9
  · subst e; rfl
  · rw [if_neg e, hashV, hashV]
    by_cases e2 : i < 8
    · rw [if_pos e2, if_pos e2]
    · rw [if_neg e2, if_neg e2, if_pos (by omega), if_pos (by omega)]
theorem byteAt_list (l : List UInt8) (j : Nat) (u : UInt8) (h : l[j]? = some u) : byteAt ⟨l.toArray⟩ j = u.toNat := by
  unfold byteAt
  rw [Array.getD_eq_getD_getElem?]
  show (l.toArray[j]?.getD 0).toNat = _
  rw [List.getElem?_toArray, h]; rfl
theorem byteAt_lt (b : ByteArray) (j : Nat) : byteAt b j < 256 := UInt8.toNat_lt _
/-- The first 64 bytes of a row, as a block takes them. -/
theorem block_bytes {w : World} {r o : Nat} {l : List UInt8} (h : ∀ j u, l[j]? = some u → w.cell? ⟨r, o + j, none⟩ = some (byteV u)) (hl : 64 ≤ l.length) :
    ∀ j, j < 64 → byteAt ⟨(l.take 64).toArray⟩ j < 256 ∧ w.cell? ⟨r, o + j, none⟩ = some (.int .u8 (byteAt ⟨(l.take 64).toArray⟩ j : Nat)) := by
  intro j hj
  have hj' : j < l.length := by omega
  have e : (l.take 64)[j]? = some l[j] := by rw [List.getElem?_take, if_pos hj, List.getElem?_eq_getElem hj']
  refine ⟨byteAt_lt _ _, ?_⟩
  rw [byteAt_list _ _ _ e, h j l[j] (List.getElem?_eq_getElem hj')]; rfl
theorem oRow.drop64 {w : World} {base hb r o n cap : Nat} {l : List UInt8} (h : oRow w base hb (.slice (some ⟨r, o, none⟩) n cap) l) (hn : 64 ≤ n) (hl : n = l.length) :
    oRow w base hb (.slice (if cap = 64 then some ⟨r, o, none⟩ else some ⟨r, o + 64, none⟩) (n - 64) (cap - 64)) (l.drop 64) := by
  rcases h with ⟨h, _⟩ | ⟨g, o', cap', h0, h1, h2, h3, h4, h5, h6⟩
  · cases h
  · cases h0
    by_cases e : cap = 64
    · rw [if_pos e]
      refine .inr ⟨r, o, cap - 64, by rw [List.length_drop, hl], h1, h2, h3, by rw [List.length_drop]; omega, fun j hj => by omega, fun j u hu => ?_⟩
      rw [List.drop_eq_nil_of_le (by omega)] at hu; simp at hu
    · rw [if_neg e]
      refine .inr ⟨r, o + 64, cap - 64, by rw [List.length_drop, hl], h1, h2, h3, by rw [List.length_drop]; omega, fun j hj => ?_, fun j u hu => ?_⟩
      · rw [Nat.add_assoc]; exact h5 (64 + j) (by omega)
      · rw [Nat.add_assoc]; rw [List.getElem?_drop] at hu; exact h6 (64 + j) u hu
/-- How many bytes wait in a hash. -/
def restLen (w : World) (g : Nat) : Nat := match w.cell? ⟨g, 8, none⟩ with | some (.slice _ n _) => n | _ => 0
theorem restLen_of {w : World} {g n cap : Nat} {a : Option Addr} (h : w.cell? ⟨g, 8, none⟩ = some (.slice a n cap)) : restLen w g = n := by simp [restLen, h]
theorem Tryz.infoO8 : (Tryz.prog.info? 5).map (fun i => (i.zero, i.size, i.bytes)) = some (some (.int .u8 0), 1, 1) := by kernel_rfl
set_option maxRecDepth 100000 in
set_option maxHeartbeats 1600000 in
theorem add (base g : Nat) (L : List UInt8) (t : ByteArray) (w : World) (hH : HAt w base g L (L.length / 64)) (htab : Tab w) (hb0 : 1 < base) (hbg : base ≤ g) (hlen : L.length + t.size ≤ 1099511627776) :
    Calls Tryz.prog 138 #[.pointer (some ⟨g, 0, none⟩), .string t] w fun e w' => e = .returned (.tuple #[]) ∧ HAt w' base g (L ++ t.data.toList) ((L ++ t.data.toList).length / 64) ∧ Below base w w' := by
  obtain ⟨rv, hrow, hor, hmL⟩ := hH
  obtain ⟨m, hm⟩ : ∃ m, m = L.length / 64 := ⟨_, rfl⟩
  rw [← hm] at hrow hor hmL
  obtain ⟨N, hN⟩ : ∃ N, N = L.length := ⟨_, rfl⟩
  rw [← hN] at hrow hmL
  have hN' : (N : Int) ≤ 1099511627776 := by omega
  have ht' : (t.size : Int) ≤ 1099511627776 := by omega
  have c8 := hash_rest hrow
  have c9 := hash_many hrow
  have f8 := hrow.frozen 8
  have f9 := hrow.frozen 9
  have hlt := hrow.lt
  obtain ⟨i0, hi, hz0, hz1, hz2⟩ := info_parts Tryz.infoO8
  have HT := hide htab
  have HN := hide hN
  have HM := hide hm
  have hrow1 := hash_set9 hrow (.int .u64 ((N : Int) + (t.size : Int)))
  have hor1 : oRow (w.setCell ⟨g, 9, none⟩ (.int .u64 ((N : Int) + (t.size : Int)))) base g rv (L.drop (64 * m)) := hor.kept (grownBy_set ⟨rfl, rfl, rfl, Nat.le_refl _, fun _ _ _ => rfl⟩ _)
  have c81 := hash_rest hrow1
  have hlt1 := hrow1.lt
  have hdl : (L.drop (64 * m)).length + t.size ≤ 140737488355328 := by rw [List.length_drop]; omega
  have hbs : base ≤ (w.setCell ⟨g, 9, none⟩ (.int .u64 ((N : Int) + (t.size : Int)))).heap.size := by omega
  have hB1 : Below base w (w.setCell ⟨g, 9, none⟩ (.int .u64 ((N : Int) + (t.size : Int)))) := (Below.refl _ _).setCell hbg _
  obtain ⟨L2, hL2⟩ : ∃ x, x = L ++ t.data.toList := ⟨_, rfl⟩
  rw [← hL2]
  have HL2 := hide hL2
  clear hN hm htab hL2
  go_enter Tryz.func138, Tryz.ntmps138
  go_wp2_with (at_builtin; refine wpList_append_orow rfl _ _ 22 9 rfl 5 i0 Tryz.underlying22 Tryz.underlying9 hi hz0 hz1 hz2 base g rv (L.drop (64 * m)) rfl hor1 t rfl hdl hbs hlt1 ?_)
  intro v2 w2 hor2 hb2 hk2
  have hrow2 := hrow1.of_block hk2
  have hBl2 := hB1.trans hb2
  clear hrow hor c8 c9 f8 f9 hlt hrow1 hor1 c81 hlt1 hdl hbs hB1 hb2 hk2
  have hT2 : Tab w2 := HT.out.below hBl2 hb0
  have f8 := hrow2.frozen 8
  have c8 := hash_rest hrow2
  have hL2 := HL2.out
  have hN2 : L2.length = N + t.size := by rw [hL2, List.length_append, ← HN.out]; rfl
  have hst : stAt L m = stAt L2 m := by rw [hL2]; exact (stAt_more L _ m (by rw [← HN.out]; exact hmL)).symm
  have hdr : L.drop (64 * m) ++ t.data.toList = L2.drop (64 * m) := by rw [hL2, List.drop_append_of_le_length (by rw [← HN.out]; exact hmL)]
  have hml2 : 64 * m ≤ L2.length := by omega
  rw [hst] at hrow2
  rw [hdr] at hor2
  have e2 : ((N : Int) + (t.size : Int)) = ((L2.length : Nat) : Int) := by omega
  rw [e2] at hrow2
  obtain ⟨a2, cap2, hv2⟩ := hor2.form
  obtain ⟨n2, hn2⟩ : ∃ n, n = (L2.drop (64 * m)).length := ⟨_, rfl⟩
  rw [← hn2] at hv2
  subst hv2
  have hle2 := hide (show L2.length ≤ 1099511627776 by rw [hN2]; have := HN.out; omega)
  have hH2 : HAt (w2.setCell ⟨g, 8, none⟩ (.slice a2 n2 cap2)) base g L2 m := ⟨_, hash_set8 hrow2 _, hor2.kept (grownBy_set ⟨rfl, rfl, rfl, Nat.le_refl _, fun _ _ _ => rfl⟩ _), hml2⟩
  have hB3 : Below base w (w2.setCell ⟨g, 8, none⟩ (.slice a2 n2 cap2)) := hBl2.setCell hbg _
  have hT3 : Tab (w2.setCell ⟨g, 8, none⟩ (.slice a2 n2 cap2)) := HT.out.below hB3 hb0
  clear hn2 hst hdr e2 hL2 HL2 hN2 hor2 hrow2 hT2 hBl2 HM HN hmL hlen hN' ht' hml2
  go_wp2_with fail
  clear f8 c8
  generalize w2.setCell ⟨g, 8, none⟩ (.slice a2 n2 cap2) = W3 at *
  go_loopw [23] (fun _ wx => ∃ m : Nat, HAt wx base g L2 m ∧ Hid (Tab wx) ∧ Hid (Below base w wx)) (fun _ wx => restLen wx g)
  case atStart => exact ⟨m, hH2, hT3, hB3⟩
  case round =>
    clear hH2 hT3 hB3
    obtain ⟨m, hH, hT, hB⟩ := hrel
    obtain ⟨rv', hrow, hor, hml⟩ := hH
    obtain ⟨n, hn⟩ : ∃ n, n = (L2.drop (64 * m)).length := ⟨_, rfl⟩
    by_cases hge : 64 ≤ n
    · rcases hor with ⟨_, h0⟩ | ⟨r, o, cap, rfl, hr1, hr2, hr3, hr4, hr5, hr6⟩
      · rw [h0] at hn; simp at hn; omega
      rw [← hn] at hrow hr4
      have HOR := hide (show oRow wr base g (.slice (some ⟨r, o, none⟩) n cap) (L2.drop (64 * m)) from .inr ⟨r, o, cap, by rw [hn], hr1, hr2, hr3, by rw [← hn]; exact hr4, hr5, hr6⟩)
      have hB64 := hide (block_bytes hr6 (by rw [← hn]; exact hge))
      have c8 := hash_rest hrow
      have hge' : (64 : Int) ≤ (n : Int) := by omega
      have hcap' : (64 : Int) ≤ (cap : Int) := by omega
      have HN := hide hn
      have hrD := hide (show wr.drew.rowIs g 191 10 (hashV (stAt L2 m) (.slice (some ⟨r, o, none⟩) n cap) (.int .u64 (L2.length : Nat))) from hrow)
      have hTD := hide (show Tab wr.drew from hT.out)
      have hBD := hide (show ∀ j, j < 64 → byteAt ⟨((L2.drop (64 * m)).take 64).toArray⟩ j < 256 ∧ wr.drew.cell? ⟨r, o + j, none⟩ = some (.int .u8 (byteAt ⟨((L2.drop (64 * m)).take 64).toArray⟩ j : Nat)) from hB64.out)
      clear hn hr5 hr6 hB64
      go_wp2_with fail
      go_region_held3 (fun w' => w'.cell? ⟨g, 8, none⟩ = some (.slice (some ⟨r, o, none⟩) n cap)) (first | exact hash_rest hrow' | go_keep)
        (first | (go_at_call 153; refine (take g r o cap (stAt L2 m) _ _ _ wr.drew hr3 hBD.out hrD.out hTD.out (by omega)).mono ?_; rintro e w' ⟨rfl, hrow', hgr'⟩))
      rename_i hHeld
      have f8 := hrow'.frozen 8
      have hgr : wr.grownBy w' (some g) := ⟨hgr'.os, hgr'.tape, hgr'.output, hgr'.size, hgr'.block⟩
      have hT' := hide (show Tab w' from hTD.out.below (grownBy_below hgr' (Nat.le_refl g) (Nat.le_of_lt hrow.lt)) (by omega))
      have hor' := hide ((HOR.out.kept hgr).drop64 hge HN.out)
      have hB' := hide (hB.out.trans (grownBy_below hgr hbg (by have := hrow.lt; omega)))
      have hR := hide (restLen_of c8)
      have hml' := hide (show 64 * (m + 1) ≤ L2.length by have h := HN.out; rw [List.length_drop] at h; omega)
      clear hT hTD hBD hrD HOR hB hrow c8 hgr' hgr
      go_wp2_with fail
      rw [List.drop_drop, show 64 * m + 64 = 64 * (m + 1) by omega] at hor'
      have hB'' := fun v => hB'.out.setCell (p := ⟨g, 8, none⟩) hbg v
      refine ⟨⟨m + 1, ⟨_, hash_set8 hrow' _, hor'.out.kept (grownBy_set ⟨rfl, rfl, rfl, Nat.le_refl _, fun _ _ _ => rfl⟩ _), hml'.out⟩, hT'.out.below ((Below.refl g _).setCell (Nat.le_refl _) _) (by omega), hB'' _⟩, ?_⟩
      rw [hR.out, restLen_of (World.cell?_setCell_same _ _ _ hHeld)]
      omega
    · have hlt' : (n : Int) < 64 := by omega
      obtain ⟨a, cap, e⟩ := hor.form
      rw [← hn] at e
      subst e
      have c8 := hash_rest hrow
      have hE := hide (show L2.length / 64 = m by rw [hn, List.length_drop] at hlt'; omega)
      have HN := hide hn
      have HO := hide hor
      clear hn hor
      go_wp2_with fail
      go_end0
      rw [hE.out]
      exact ⟨rfl, ⟨_, hrow, HO.out, hml⟩, hB.out⟩
end Go.Proofs.YtconcnndghmdfaaGreatDoor
namespace Go.Proofs.YtconcnndghmdfaaGreatDoor
open Go.RowKit
theorem outB_at (st : Nat → Nat) (j : Nat) (hj : j < 4) : ∀ n i, i < n → (outB st n)[4 * i + j]? = (wordB (st i))[j]?
  | n + 1, i, h => by
    rw [← outB_succ]
    by_cases e : i < n
    · rw [List.getElem?_append_left (by rw [outB_len]; omega)]; exact outB_at st j hj n i e
    · have : i = n := by omega
      subst this
      rw [List.getElem?_append_right (by rw [outB_len]; omega), outB_len, show 4 * i + j - 4 * i = j by omega]
theorem wordB_at (x j : Nat) (hj : j < 4) : (wordB x)[j]? = some (UInt8.ofNat (x / 2 ^ (24 - 8 * j) % 256)) := by
  match j, hj with
  | 0, _ => rfl
  | 1, _ => rfl
  | 2, _ => rfl
  | 3, _ => simp [wordB]
set_option maxRecDepth 100000 in
set_option maxHeartbeats 1600000 in
theorem tell (g : Nat) (st : Nat → Nat) (rv mv : Value) (w : World) (hst : ∀ j, st j < 4294967296) (hrow : w.rowIs g 191 10 (hashV st rv mv)) :
    Calls Tryz.prog 154 #[.pointer (some ⟨g, 0, none⟩)] w fun e w' => e = .returned (.string ⟨(outB st 8).toArray⟩) ∧ Below w.heap.size w w' := by
  have hlt := hrow.lt
  have HR := hide hrow
  clear hrow
  go_enter Tryz.func154, Tryz.ntmps154
  go_wp2_with fail
  go_loopw [8] (fun i wx => ∃ (k : Nat) (f : Nat → UInt8), k ≤ 8 ∧ i = .int .i64 k ∧ Hid (∀ p, p < 4 * k → (outB st 8)[p]? = some (f p)) ∧ wx.rowIs w.heap.size 238 32 (u8V f) ∧ Below w.heap.size w wx) (fun i _ => 8 - (intOf i).toNat)
  case atStart => exact ⟨0, fun _ => 0, by omega, rfl, fun p hp => by omega, zeros8_row 32 w _ _ rfl, (Below.refl _ _).alloc (Nat.le_refl _) _⟩
  case round =>
    obtain ⟨k, f, hk, rfl, hf, hrw, hbl⟩ := hrel
    by_cases hlt8 : k < 8
    · have ck : wr.cell? ⟨g, k, none⟩ = some (.int .u32 (st k : Nat)) := (hbl.cell (p := ⟨g, k, none⟩) hlt).trans (hash_cell HR.out k hlt8)
      have hsk := hst k
      obtain ⟨S, hS⟩ : ∃ S, S = st k := ⟨_, rfl⟩
      rw [← hS] at ck hsk
      have HS := hide hS
      clear hS
      have hsk' : (S : Int) ≤ 4294967295 := by omega
      go_wp2_with fail
      go_region
      go_wp2_with fail
      go_loopw [14] (fun i wx => ∃ (m : Nat) (f : Nat → UInt8), m ≤ 4 ∧ i = .int .i64 m ∧ Hid (∀ p, p < 4 * k + m → (outB st 8)[p]? = some (f p)) ∧ wx.rowIs w.heap.size 238 32 (u8V f) ∧ Below w.heap.size w wx) (fun i _ => 4 - (intOf i).toNat)
      case atStart => exact ⟨0, f, by omega, rfl, fun p hp => hf.out p (by omega), hrw, hbl.drew⟩
      case round =>
        clear hf hrw hbl ck
        obtain ⟨m, f, hm, rfl, hf, hrw, hbl⟩ := hrel
        by_cases hlt4 : m < 4
        · obtain ⟨q0, e0⟩ : ∃ q, q = 4 * k := ⟨_, rfl⟩
          obtain ⟨q, e⟩ : ∃ q, q = 4 * k + m := ⟨_, rfl⟩
          obtain ⟨z, ez⟩ : ∃ q, q = 24 - 8 * m := ⟨_, rfl⟩
          obtain ⟨y, ey⟩ : ∃ q, q = 8 * m := ⟨_, rfl⟩
          have m0 : IntKind.i64.wrap (4 * (k : Int)) = (q0 : Int) := by simp only [IntKind.wrap_i64]; omega
          have m1 : IntKind.i64.wrap ((q0 : Int) + (m : Int)) = (q : Int) := by simp only [IntKind.wrap_i64]; omega
          have m2 : IntKind.i64.wrap (8 * (m : Int)) = (y : Int) := by simp only [IntKind.wrap_i64]; omega
          have m3 : IntKind.i64.wrap (24 - (y : Int)) = (z : Int) := by simp only [IntKind.wrap_i64]; omega
          have nq : (q : Int) < 32 := by omega
          have hz : z ≤ 24 := by omega
          have hz' : (z : Int) ≤ 24 := by omega
          have cq := hrw.cell (i := q) (by omega)
          have hfz := hrw.frozen q
          have HE := hide e
          have HZ := hide ez
          have hq32 : q < 32 := by omega
          clear e0 e ez ey
          go_wp2_with fail
          obtain ⟨Y, hY⟩ : ∃ Y : UInt8, Y = UInt8.ofNat (S / 2 ^ z % 256) := ⟨_, rfl⟩
          have hv : ((S : Int) / 2 ^ z % 256) = ((Y.toNat : Nat) : Int) := by
            rw [hY, ofNat_byte _ (by omega)]; simp
          rw [hv]
          refine ⟨⟨m + 1, fun j => if j = q then Y else f j, by omega, by go_num, fun p hp => ?_, set_byte hrw rfl, hbl.setCell (Nat.le_refl _) _⟩, by simp [intOf]; omega⟩
          by_cases e : p = q
          · show _ = some (if p = q then Y else f p)
            rw [if_pos e, e, HE.out, outB_at st m hlt4 8 k hlt8, wordB_at _ _ hlt4, hY, HS.out, HZ.out]
          · show _ = some (if p = q then Y else f p)
            rw [if_neg e]; exact hf.out p (by have := HE.out; omega)
        · go_wp2_with fail
          exact ⟨⟨k + 1, f, by omega, by go_num, fun p hp => hf.out p (by omega), hrw, hbl⟩, by simp [intOf]; omega⟩
    · have hcv := conv_row (P := Tryz.prog) (cap := 32) hrw (fun j hj => hf.out j (by omega)) (by rw [outB_len]) Tryz.underlying22 Tryz.underlying5 Tryz.underlying9
      go_wp2_with fail
      go_ret
      exact ⟨rfl, hbl⟩
end Go.Proofs.YtconcnndghmdfaaGreatDoor
namespace Go.Proofs.YtconcnndghmdfaaGreatDoor
open Go.RowKit
/-- The bytes of a number, the highest one first. -/
def hiB (N j : Nat) : UInt8 := UInt8.ofNat (N / 2 ^ (56 - 8 * j) % 256)
theorem hiB_eq (N m s : Nat) (hs : s = 56 - 8 * m) : (N : Int) / 2 ^ s % 256 = ((hiB N m).toNat : Int) := by
  rw [hiB, ← hs, UInt8.toNat_ofNat']
  have e : ((N : Int) / 2 ^ s) = ((N / 2 ^ s : Nat) : Int) := by simp
  rw [e]; omega
theorem Tryz.size8b : (Tryz.prog.info? 105).map (·.size) = some 8 := by kernel_rfl
set_option maxRecDepth 100000 in
set_option maxHeartbeats 6400000 in
theorem imp_highest (N : Nat) (w : World) (hN : N ≤ 9223372036854775807) :
    Calls Tryz.prog 78 #[.int .u64 (N : Int)] w fun e w' => e = .returned (.agg (bL 8 (hiB N)).toArray) ∧ Below w.heap.size w w' := by
  have hN' : (N : Int) ≤ 9223372036854775807 := by omega
  go_enter Tryz.func78, Tryz.ntmps78
  go_wp2_with fail
  go_loopw [5] (fun i wx => ∃ (k : Nat) (f : Nat → UInt8), k ≤ 8 ∧ i = .int .i64 k ∧ Hid (∀ p, p < k → f p = hiB N p) ∧ wx.rowIs w.heap.size 105 8 (u8V fun _ => 0) ∧ wx.rowIs (w.heap.size + 1) 105 8 (u8V f) ∧ Below w.heap.size w wx) (fun i _ => 8 - (intOf i).toNat)
  case atStart =>
    refine ⟨0, fun _ => 0, by omega, rfl, fun p hp => by omega, (zeros8_row 8 w _ _ rfl).alloc _, ?_, ((Below.refl _ _).alloc (Nat.le_refl _) _).alloc (by simp) _⟩
    have h := zeros8_row 8 (w.alloc (.cells (List.replicate 8 (Value.int .u8 0)).toArray 105)) _ 105 rfl
    rw [World.size_alloc] at h
    exact h
  case round =>
    obtain ⟨k, f, hk, rfl, hf, r0, r1, hbl⟩ := hrel
    by_cases hlt8 : k < 8
    · obtain ⟨y, ey⟩ : ∃ q, q = 8 * k := ⟨_, rfl⟩
      obtain ⟨s, es⟩ : ∃ q, q = 56 - 8 * k := ⟨_, rfl⟩
      have m2 : IntKind.i64.wrap (8 * (k : Int)) = (y : Int) := by simp only [IntKind.wrap_i64]; omega
      have m3 : IntKind.i64.wrap (56 - (y : Int)) = (s : Int) := by simp only [IntKind.wrap_i64]; omega
      have hs' : (s : Int) ≤ 56 := by omega
      have cq := r1.cell (i := k) hlt8
      have hfz := r1.frozen k
      have HS := hide es
      clear ey es
      go_wp2_with fail
      have hv := hiB_eq N k s HS.out
      rw [hv]
      refine ⟨⟨k + 1, fun j => if j = k then hiB N k else f j, by omega, by go_num, fun p hp => ?_, r0.setOther (by simp) _, set_byte r1 rfl, hbl.setCell (by simp) _⟩, by simp [intOf]; omega⟩
      show (if p = k then hiB N k else f p) = _
      by_cases e : p = k
      · rw [if_pos e, e]
      · rw [if_neg e]; exact hf.out p (by omega)
    · have r1' : wr.rowIs (w.heap.size + 1) 105 8 (u8V (hiB N)) := r1.congr fun i hi => by rw [u8V, u8V, hf.out i (by omega)]
      have hth := row_there (o := 0) (n := 8) r0 (by omega)
      have hfin := row_setCells0 (k := hiB N) r0
      clear hf r1
      go_wp2_with (first | (refine wpList_load_B rfl 105 (.tmp 3) rfl (w.heap.size + 1) 0 rfl _ _ 8 _ (hiB N) _ r1' (by omega) (fun j _ => by rw [Nat.zero_add]) Tryz.underlying105 rfl Tryz.size8b ?_) | (refine wpList_store_B rfl 105 (.tmp 2) (.tmp 17) rfl w.heap.size 0 8 (hiB N) rfl rfl hth Tryz.size8b ?_))
      exact bodyPost_ret (ret_B Tryz.results78 _ _ w.heap.size 8 _ _ _ rfl hfin Tryz.underlying105 rfl Tryz.size8b) rfl ⟨rfl, below_setCells' hbl (Nat.le_refl _)⟩
end Go.Proofs.YtconcnndghmdfaaGreatDoor
namespace Go.Proofs.YtconcnndghmdfaaGreatDoor
open Go.RowKit
theorem HAt.below {w w' : World} {base g : Nat} {L : List UInt8} {m : Nat} (h : HAt w base g L m) (hb : Below w.heap.size w w') : HAt w' base g L m := by
  obtain ⟨rv, h1, h2, h3⟩ := h
  exact ⟨rv, h1.of_block (hb.block g h1.lt), h2.kept ⟨hb.os, hb.tape, hb.output, hb.size, fun k hk _ => hb.block k hk⟩, h3⟩
theorem HAt.lt {w : World} {base g : Nat} {L : List UInt8} {m : Nat} (h : HAt w base g L m) : g < w.heap.size := by
  obtain ⟨rv, h1, _⟩ := h; exact h1.lt
theorem HAt.cell {w : World} {base g : Nat} {L : List UInt8} (h : HAt w base g L (L.length / 64)) : ∃ a cap, w.cell? ⟨g, 8, none⟩ = some (.slice a (L.length % 64) cap) := by
  obtain ⟨rv, h1, h2, h3⟩ := h
  obtain ⟨a, cap, e⟩ := h2.form
  refine ⟨a, cap, ?_⟩
  rw [hash_rest h1, e, List.length_drop, show L.length - 64 * (L.length / 64) = L.length % 64 by omega]
theorem HAt.many {w : World} {base g : Nat} {L : List UInt8} {m : Nat} (h : HAt w base g L m) : w.cell? ⟨g, 9, none⟩ = some (.int .u64 (L.length : Nat)) := by
  obtain ⟨rv, h1, _⟩ := h; exact hash_many h1
theorem run_stB8 {P : Program} {w : World} {g n : Nat} {k : Nat → UInt8} (h : w.there g 0 n) : (storeCells ⟨g, 0, none⟩ (bL n k)).run P w = .ok () (w.setCells g 0 (bL n k)) :=
  run_storeCells_cells (P := P) g 0 (bL n k) 0 w (fun j hj => by rw [Nat.add_zero]; exact (h j (by rwa [bL_len] at hj)).1) (fun j hj => by rw [Nat.add_zero]; exact (h j (by rwa [bL_len] at hj)).2) (bL_one _ _)
def zrow (L : List UInt8) (z : Nat) : List UInt8 := L ++ [128] ++ List.replicate z 0
theorem zrow_len (L : List UInt8) (z : Nat) : (zrow L z).length = L.length + 1 + z := by simp [zrow]; omega
theorem zrow_succ (L : List UInt8) (z : Nat) : zrow L z ++ [0] = zrow L (z + 1) := by
  unfold zrow; rw [List.append_assoc _ _ [0], List.replicate_succ']
theorem padded_zrow (L : List UInt8) (B : ByteArray) (z : Nat) (hz : z = zerosN L.length) (hB : B = ⟨((List.range 8).map (lenB L.length)).toArray⟩) : padded ⟨L.toArray⟩ = zrow L z ++ B.data.toList := by
  subst hB hz
  unfold padded padded1 zrow
  rw [size_mk]
theorem add' (base g : Nat) (L M : List UInt8) (t : ByteArray) (w : World) (hM : M = L ++ t.data.toList) (hH : HAt w base g L (L.length / 64)) (htab : Tab w) (hb0 : 1 < base) (hbg : base ≤ g) (hlen : L.length + t.size ≤ 1099511627776) :
    Calls Tryz.prog 138 #[.pointer (some ⟨g, 0, none⟩), .string t] w fun e w' => e = .returned (.tuple #[]) ∧ HAt w' base g M (M.length / 64) ∧ Below base w w' := by
  subst hM; exact add base g L t w hH htab hb0 hbg hlen
set_option maxRecDepth 100000 in
set_option maxHeartbeats 1600000 in
theorem ends (base g : Nat) (L : List UInt8) (w : World) (hH : HAt w base g L (L.length / 64)) (htab : Tab w) (hb0 : 1 < base) (hbg : base ≤ g) (hlen : L.length ≤ 1073741824) :
    Calls Tryz.prog 139 #[.pointer (some ⟨g, 0, none⟩)] w fun e w' => e = .returned (.string (digestT ⟨L.toArray⟩)) ∧ Below base w w' := by
  have c9 := hH.many
  obtain ⟨N, hN⟩ : ∃ N, N = L.length := ⟨_, rfl⟩
  rw [← hN] at c9
  have hN' : (N : Int) ≤ 1073741824 := by omega
  have HN := hide hN
  clear hN
  go_enter Tryz.func139, Tryz.ntmps139
  go_wp2_with fail
  refine (add' base g L (zrow L 0) ⟨#[128]⟩ w (by simp [zrow]) hH htab hb0 hbg (by show L.length + 1 ≤ _; omega)).mono ?_
  rintro e w1 ⟨rfl, hH1, hB1⟩
  have HT := hide htab
  clear hH c9 htab
  go_wp2_with fail
  go_loopw [13] (fun _ wx => ∃ z : Nat, z ≤ zerosN N ∧ HAt wx base g (zrow L z) ((zrow L z).length / 64) ∧ Hid (Below base w wx)) (fun _ wx => (120 - restLen wx g) % 64)
  case atStart => exact ⟨0, Nat.zero_le _, hH1, hB1⟩
  case round =>
    clear hH1 hB1
    obtain ⟨z, hz, hH, hB⟩ := hrel
    obtain ⟨a, cap, c8⟩ := hH.cell
    have hR := hide (restLen_of c8)
    have hlz := zrow_len L z
    rw [← HN.out] at hlz
    obtain ⟨R, hRR⟩ : ∃ R, R = (zrow L z).length % 64 := ⟨_, rfl⟩
    rw [← hRR] at c8 hR
    have HRR := hide (show R = (N + 1 + z) % 64 by rw [hRR, hlz])
    have HLZ := hide hlz
    clear hRR hlz
    by_cases h56 : R = 56
    · have h56' : (R : Int) = 56 := by omega
      go_wp2_with fail
      have hzz := hide (show z = zerosN N by have h1 := HRR.out; unfold zerosN at hz ⊢; omega)
      have hH0 := hide hH
      have hlt0 := hH.lt
      have hBs : base ≤ wr.heap.size := by omega
      clear hH hR c8 h56 h56' HRR hz
      generalize wr = W0 at *
      have hL0 := hide (show ∀ w, Calls Tryz.prog 78 #[.int .u64 (8 * (N : Int))] w fun e w' => e = .returned (.agg (bL 8 (lenB N)).toArray) ∧ Below w.heap.size w w' from fun w => by
        have h := imp_highest (8 * N) w (by omega)
        rw [show ((8 * N : Nat) : Int) = 8 * (N : Int) by omega] at h
        exact h)
      refine (hL0.out _).mono ?_
      rintro e w5 ⟨rfl, hb5⟩
      obtain ⟨LF, hLF⟩ : ∃ f, f = lenB N := ⟨_, rfl⟩
      rw [← hLF]
      have HLF := hide hLF
      have z0 : (w5.alloc (.cells #[Value.int .u8 0, Value.int .u8 0, Value.int .u8 0, Value.int .u8 0, Value.int .u8 0, Value.int .u8 0, Value.int .u8 0, Value.int .u8 0] 105)).rowIs w5.heap.size 105 8 (u8V fun _ => 0) := zeros8_row 8 w5 _ _ rfl
      have hst := run_stB8 (P := Tryz.prog) (k := LF) (row_there (o := 0) (n := 8) z0 (by omega))
      have lL : (bL 8 LF).length = 8 := bL_len 8 LF
      have hrw := row_setCells0 (k := LF) z0
      have hbl := below_setCells' (b := w5.heap.size) (o := 0) (vs := bL 8 LF) ((hb5.alloc hb5.size (.cells #[Value.int .u8 0, Value.int .u8 0, Value.int .u8 0, Value.int .u8 0, Value.int .u8 0, Value.int .u8 0, Value.int .u8 0, Value.int .u8 0] 105))) hb5.size
      have hcv := conv_row (P := Tryz.prog) (cap := 8) hrw (l := (List.range 8).map (lenB N)) (fun j hj => by rw [List.getElem?_map, List.getElem?_range hj, HLF.out]; rfl) (by simp) Tryz.underlying22 Tryz.underlying5 Tryz.underlying9
      clear hLF z0 hb5
      generalize hWW : (w5.alloc (.cells #[Value.int .u8 0, Value.int .u8 0, Value.int .u8 0, Value.int .u8 0, Value.int .u8 0, Value.int .u8 0, Value.int .u8 0, Value.int .u8 0] 105)).setCells w5.heap.size 0 (bL 8 LF) = wr at *
      obtain ⟨LB, hLB⟩ : ∃ x : ByteArray, x = ⟨((List.range 8).map (lenB N)).toArray⟩ := ⟨_, rfl⟩
      rw [← hLB] at hcv
      have HLB := hide hLB
      clear hLB
      go_wp2_with fail
      have hM := hide (padded_zrow L LB z (by rw [← HN.out]; exact hzz.out) (by rw [← HN.out]; exact HLB.out))
      have hT := hide (HT.out.below (hB.out.trans (hbl.mono hBs)) hb0)
      refine (add' base g (zrow L z) (padded ⟨L.toArray⟩) LB wr hM.out (hH0.out.below hbl) hT.out hb0 hbg ?_).mono ?_
      · have h1 := HLZ.out
        have h2 := hzz.out
        have h3 : LB.size = 8 := by rw [HLB.out, size_mk]; simp
        unfold zerosN at h2
        omega
      rintro e w3 ⟨rfl, hH3, hB3⟩
      have hBl := hide ((hB.out.trans (hbl.mono hBs)).trans hB3)
      obtain ⟨rv3, hr3, _⟩ := hH3
      clear hcv hrw
      go_wp2_with fail
      refine (tell g (stAt (padded ⟨L.toArray⟩) ((padded ⟨L.toArray⟩).length / 64)) _ _ w3 (stAt_lt _ _) hr3).mono ?_
      rintro e w4 ⟨rfl, hB4⟩
      have hlt3 := hr3.lt
      go_wp2_with fail
      go_ret
      exact ⟨rfl, hBl.out.trans (hB4.mono (by omega))⟩
    · have h56' : ¬ (R : Int) = 56 := by omega
      have HZ := hide hz
      have hT := hide (HT.out.below hB.out hb0)
      clear hz
      go_wp2_with fail
      refine (add' base g (zrow L z) (zrow L (z + 1)) ⟨#[0]⟩ wr (zrow_succ L z).symm hH hT.out hb0 hbg (by show (zrow L z).length + 1 ≤ _; have h1 := HLZ.out; have h2 := HZ.out; unfold zerosN at h2; omega)).mono ?_
      rintro e w2 ⟨rfl, hH2, hB2⟩
      obtain ⟨a2, cap2, c82⟩ := hH2.cell
      have hR2 := hide (restLen_of c82)
      clear c82 c8
      go_wp2_with fail
      refine ⟨⟨z + 1, ?_, hH2, hB.out.trans hB2⟩, ?_⟩
      · have h1 := HRR.out; have h2 := HZ.out; unfold zerosN at h2 ⊢; omega
      · rw [hR.out, hR2.out, zrow_len, ← HN.out]
        have h1 := HRR.out
        omega
end Go.Proofs.YtconcnndghmdfaaGreatDoor
namespace Go.Proofs.YtconcnndghmdfaaGreatDoor
open Go.RowKit
set_option maxRecDepth 100000 in
set_option maxHeartbeats 1600000 in
theorem first (w : World) :
    Calls Tryz.prog 137 #[] w fun e w' => e = .returned (.agg #[.int .u32 1779033703, .int .u32 3144134277, .int .u32 1013904242, .int .u32 2773480762, .int .u32 1359893119, .int .u32 2600822924, .int .u32 528734635, .int .u32 1541459225]) ∧ Below w.heap.size w w' := by
  go_enter Tryz.func137, Tryz.ntmps137
  go_wp2_with fail
  refine bodyPost_ret (results_cell_row Tryz.results137 _ _ w.heap.size _ _ _ _ rfl (heap_alloc_new w _) Tryz.underlying188 rfl (by kernel_rfl)) rfl ⟨rfl, (Below.refl _ _).alloc (Nat.le_refl _) _⟩
def joinB (ps : List ByteArray) : List UInt8 := ps.flatMap fun p => p.data.toList
theorem joinB_take (ps : List ByteArray) (k : Nat) (p : ByteArray) (h : ps[k]? = some p) : joinB (ps.take (k + 1)) = joinB (ps.take k) ++ p.data.toList := by
  unfold joinB
  rw [List.take_add_one, h]
  simp
theorem joinB_len (ps : List ByteArray) (h : ∀ (j : Nat) (t : ByteArray), ps[j]? = some t → t.size ≤ 1048576) : ∀ k, (joinB (ps.take k)).length ≤ 1048576 * k
  | 0 => by simp [joinB]
  | k + 1 => by
    have ih := joinB_len ps h k
    cases e : ps[k]? with
    | none => rw [List.take_add_one, e, Option.toList_none, List.append_nil]; omega
    | some t =>
      rw [joinB_take ps k t e, List.length_append]
      have h1 := h k t e
      have h2 : t.data.toList.length = t.size := rfl
      omega
theorem first_at (w : World) (base : Nat) : HAt (w.alloc (.cells #[.int .u32 1779033703, .int .u32 3144134277, .int .u32 1013904242, .int .u32 2773480762, .int .u32 1359893119, .int .u32 2600822924, .int .u32 528734635, .int .u32 1541459225, .slice none 0 0, .int .u64 0] 191)) base w.heap.size [] 0 := by
  refine ⟨.slice none 0 0, World.rowIs_alloc w _ _ _ ?_, .inl ⟨rfl, rfl⟩, Nat.le_refl _⟩
  intro i hi
  have hi8 : i < 10 := hi
  match i, hi8 with
  | 0, _ => rfl
  | 1, _ => rfl
  | 2, _ => rfl
  | 3, _ => rfl
  | 4, _ => rfl
  | 5, _ => rfl
  | 6, _ => rfl
  | 7, _ => rfl
  | 8, _ => rfl
  | 9, _ => rfl
set_option maxRecDepth 100000 in
set_option maxHeartbeats 1600000 in
theorem ofParts (p n c : Nat) (ps : List ByteArray) (w : World) (hn : ps.length = n) (hn4 : n ≤ 4) (hp : p < w.heap.size) (hps : ∀ (j : Nat) (t : ByteArray), ps[j]? = some t → t.size ≤ 1048576 ∧ w.cell? ⟨p, j, none⟩ = some (.string t)) (htab : Tab w) :
    Calls Tryz.prog 105 #[.slice (some ⟨p, 0, none⟩) n c] w fun e w' => e = .returned (.string (digestT ⟨(joinB ps).toArray⟩)) ∧ Below w.heap.size w w' := by
  have HP := hide hps
  have HT := hide htab
  clear hps htab
  go_enter Tryz.func105, Tryz.ntmps105
  go_wp2_with fail
  refine (first _).mono ?_
  rintro e w1 ⟨rfl, hB1⟩
  go_wp2_with fail
  have hB2 : Below w.heap.size w (w1.alloc (.cells #[.int .u32 1779033703, .int .u32 3144134277, .int .u32 1013904242, .int .u32 2773480762, .int .u32 1359893119, .int .u32 2600822924, .int .u32 528734635, .int .u32 1541459225, .slice none 0 0, .int .u64 0] 191)) := hB1.alloc hB1.size _
  have hH2 := first_at w1 w.heap.size
  have hs1 := hB1.size
  obtain ⟨g, hg⟩ : ∃ g, g = w1.heap.size := ⟨_, rfl⟩
  rw [← hg] at hs1 hH2 ⊢
  have HL := hide (joinB_len ps (fun j t h => (HP.out j t h).1))
  clear hg hB1
  go_loopw [10] (fun i wx => ∃ k : Nat, k ≤ n ∧ i = .int .i64 k ∧ HAt wx w.heap.size g (joinB (ps.take k)) ((joinB (ps.take k)).length / 64) ∧ Below w.heap.size w wx) (fun i _ => n - (intOf i).toNat)
  case atStart => exact ⟨0, Nat.zero_le _, rfl, by rw [List.take_zero]; exact hH2, hB2⟩
  case round =>
    clear hH2 hB2
    obtain ⟨k, hk, rfl, hH, hB⟩ := hrel
    by_cases hlt : k < n
    · have hlt' : (k : Int) < (n : Int) := by omega
      obtain ⟨t, ht⟩ : ∃ t, ps[k]? = some t := ⟨_, List.getElem?_eq_getElem (by omega)⟩
      have ck : wr.cell? ⟨p, k, none⟩ = some (.string t) := (hB.cell (p := ⟨p, k, none⟩) hp).trans (HP.out k t ht).2
      have hts := (HP.out k t ht).1
      have hJ := hide (joinB_take ps k t ht)
      have hT := hide (HT.out.below hB HT.out.lt)
      clear ht
      go_wp2_with fail
      refine (add' w.heap.size g (joinB (ps.take k)) (joinB (ps.take (k + 1))) t wr hJ.out hH hT.out HT.out.lt hs1 (by have := HL.out k; omega)).mono ?_
      rintro e w2 ⟨rfl, hH2, hB2⟩
      have hB3 := hB.trans hB2
      clear hH hB hB2 ck
      go_wp2_with fail
      exact ⟨⟨k + 1, by omega, by go_num, hH2, hB3⟩, by simp [intOf]; omega⟩
    · have hlt' : ¬ (k : Int) < (n : Int) := by omega
      have hE : ps.take k = ps := List.take_of_length_le (by omega)
      rw [hE] at hH
      have hT := hide (HT.out.below hB HT.out.lt)
      have HL2 := hide (show (joinB ps).length ≤ 1073741824 by have := HL.out k; rw [hE] at this; omega)
      clear hE
      go_wp2_with fail
      refine (ends w.heap.size g (joinB ps) wr hH hT.out HT.out.lt hs1 HL2.out).mono ?_
      rintro e w2 ⟨rfl, hB2⟩
      have hB3 := hB.trans hB2
      clear hH hB hB2
      go_wp2_with fail
      go_ret
      exact ⟨rfl, hB3⟩
end Go.Proofs.YtconcnndghmdfaaGreatDoor
