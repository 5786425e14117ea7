/- Put together: SrcN, SrcS, SrcB, LwV, DrawMat, DrawPk. -/
import Derived.Deep.RegionWith
import Derived.Laws.Closers25b
import Derived.Test.YtconcnndghmdfaaGreatDoorSd14
namespace Go.Proofs.YtconcnndghmdfaaGreatDoor
open Go.RowKit
theorem bits_name (op : BinOp) (x y : Int) : ∃ M : Int, bits op .u64 x y = M ∧ 0 ≤ M ∧ M ≤ 18446744073709551615 := ⟨_, rfl, bits_lo_u64 op x y, bits_hi_u64 op x y⟩
theorem mod_in (x most : Int) (h1 : 1 < most) (h2 : most ≤ 4611686018427387904) : 0 ≤ wrap64 (x % most) ∧ wrap64 (x % most) < most := by
 have a := Int.emod_nonneg x (show most ≠ 0 by omega)
 have b := Int.emod_lt_of_pos x (show 0 < most by omega)
 rw [IntWalk.wrap64_in _ ⟨by omega, by omega⟩]
 exact ⟨a, b⟩
theorem set_thrice {w : World} {g : Nat} {x : Value} (m1 m2 m3 : Value) (h : w.cell? ⟨g, 2, none⟩ = some x) :
 (w.setCell ⟨g, 2, none⟩ m1).cell? ⟨g, 2, none⟩ = some m1 ∧ ((w.setCell ⟨g, 2, none⟩ m1).setCell ⟨g, 2, none⟩ m2).cell? ⟨g, 2, none⟩ = some m2 ∧
 (((w.setCell ⟨g, 2, none⟩ m1).setCell ⟨g, 2, none⟩ m2).setCell ⟨g, 2, none⟩ m3).cell? ⟨g, 2, none⟩ = some m3 := by
 have a1 := World.cell?_setCell_same w ⟨g, 2, none⟩ m1 h
 have a2 := World.cell?_setCell_same (w.setCell ⟨g, 2, none⟩ m1) ⟨g, 2, none⟩ m2 a1
 exact ⟨a1, a2, World.cell?_setCell_same _ ⟨g, 2, none⟩ m3 a2⟩
set_option maxRecDepth 100000 in
set_option maxHeartbeats 1600000 in
theorem src_n_end (w : World) (g : Nat) (a : Option Addr) (len cap : Nat) (most mix sz : Int) (hm1 : 1 < most) (hm2 : most ≤ 4611686018427387904) (_hlen : len ≤ 1048576)
 (hh : w.heap[g]? = some (.cells #[.slice a len cap, .int .i64 len, .int .u64 mix, .int .i64 sz] 60 (0, 0))) :
 Calls Tryz.prog 20 #[.pointer (some ⟨g, 0, none⟩), .int .i64 most] w fun e w' => (∃ v : Int, e = .returned (.int .i64 v) ∧ 0 ≤ v ∧ v < most) ∧ (∃ M : Int, 0 ≤ M ∧ M ≤ 18446744073709551615 ∧ w'.heap[g]? = some (.cells #[.slice a len cap, .int .i64 len, .int .u64 M, .int .i64 sz] 60 (0, 0))) ∧ w.grownBy w' (some g) := by
 obtain ⟨⟨c0, c1, c2, c3⟩, hf⟩ := four_cells hh
 have HH := hide hh
 clear hh
 obtain ⟨M1, e1, l1, u1⟩ := bits_name .xor mix (IntKind.u64.wrap (mix * 8192))
 obtain ⟨M2, e2, l2, u2⟩ := bits_name .xor M1 (M1 / 128)
 obtain ⟨M3, e3, l3, u3⟩ := bits_name .xor M2 (IntKind.u64.wrap (M2 * 131072))
 obtain ⟨r1, r2, r3⟩ := set_thrice (.int .u64 M1) (.int .u64 M2) (.int .u64 M3) c2
 go_enter Tryz.func20, Tryz.ntmps20
 go_wp2_with fail
 go_region
 go_wp2_with fail
 go_region
 go_wp2_with fail
 go_region
 go_wp2_with fail
 go_region
 go_wp2_with fail
 go_ret
 refine ⟨⟨_, rfl, mod_in _ most hm1 hm2⟩, ⟨M3, l3, u3, ?_⟩, ?_⟩
 · exact four_set (i := 2) (four_set (i := 2) (four_set (i := 2) HH.out _) _) _
 · exact grownBy_drew (grownBy_drew (grownBy_drew (grownBy_drew (grownBy_set (grownBy_set (grownBy_set (World.grownBy.refl _ _) _) _) _))))
set_option maxRecDepth 100000 in
set_option maxHeartbeats 1600000 in
theorem src_n_byte (w : World) (g b off : Nat) (z : Int) (len cap p : Nat) (most mix sz : Int) (hm1 : 1 < most) (hm2 : most ≤ 4611686018427387904) (hlen : len ≤ 1048576) (hp : p < len) (hz0 : 0 ≤ z) (hz1 : z ≤ 255) (_hbg : b ≠ g)
 (hb : w.cell? ⟨b, off + p, none⟩ = some (.int .u8 z))
 (hh : w.heap[g]? = some (.cells #[.slice (some ⟨b, off, none⟩) len cap, .int .i64 p, .int .u64 mix, .int .i64 sz] 60 (0, 0))) :
 Calls Tryz.prog 20 #[.pointer (some ⟨g, 0, none⟩), .int .i64 most] w fun e w' => (∃ v : Int, e = .returned (.int .i64 v) ∧ 0 ≤ v ∧ v < most) ∧ (∃ M : Int, 0 ≤ M ∧ M ≤ 18446744073709551615 ∧ w'.heap[g]? = some (.cells #[.slice (some ⟨b, off, none⟩) len cap, .int .i64 ((p : Int) + 1), .int .u64 M, .int .i64 sz] 60 (0, 0))) ∧ w.grownBy w' (some g) := by
 obtain ⟨⟨c0, c1, c2, c3⟩, hf⟩ := four_cells hh
 have HH := hide hh
 clear hh
 have hp' : (p : Int) < (len : Int) := by omega
 obtain ⟨M1, e1, l1, u1⟩ := bits_name .xor mix (IntKind.u64.wrap (mix * 8192))
 obtain ⟨M2, e2, l2, u2⟩ := bits_name .xor M1 (M1 / 128)
 obtain ⟨M3, e3, l3, u3⟩ := bits_name .xor M2 (IntKind.u64.wrap (M2 * 131072))
 have d2 : (w.setCell ⟨g, 1, none⟩ (.int .i64 ((p : Int) + 1))).cell? ⟨g, 2, none⟩ = some (.int .u64 mix) := by rw [World.cell?_setCell_other _ _ _ _ (by simp)]; exact c2
 obtain ⟨r1, r2, r3⟩ := set_thrice (.int .u64 M1) (.int .u64 M2) (.int .u64 M3) d2
 go_enter Tryz.func20, Tryz.ntmps20
 go_wp2_with fail
 go_region
 go_wp2_with fail
 go_region
 go_wp2_with fail
 go_region
 go_wp2_with fail
 go_region
 go_wp2_with fail
 go_region
 go_wp2_with fail
 go_ret
 refine ⟨⟨_, rfl, mod_in _ most hm1 hm2⟩, ⟨M3, l3, u3, ?_⟩, ?_⟩
 · exact four_set (i := 2) (four_set (i := 2) (four_set (i := 2) (four_set (i := 1) HH.out _) _) _) _
 · exact grownBy_drew (grownBy_drew (grownBy_drew (grownBy_drew (grownBy_drew (grownBy_set (grownBy_set (grownBy_set (grownBy_set (World.grownBy.refl _ _) _) _) _) _)))))
set_option maxRecDepth 100000 in
set_option maxHeartbeats 400000 in
theorem src_n_none (w : World) (g : Nat) (most : Int) (hm : most ≤ 1) :
 Calls Tryz.prog 20 #[.pointer (some ⟨g, 0, none⟩), .int .i64 most] w fun e w' => e = .returned (.int .i64 0) ∧ w = w' := by
 go_enter Tryz.func20, Tryz.ntmps20
 go_wp2_with fail
 go_ret
 exact ⟨rfl, rfl⟩
theorem src_n (B : Nat) (w : World) (g : Nat) (a : Option Addr) (len cap : Nat) (most : Int) (hm : most ≤ 4611686018427387904) (hs : Src 60 B w g a len cap) :
 Calls Tryz.prog 20 #[.pointer (some ⟨g, 0, none⟩), .int .i64 most] w fun e w' => ∃ v : Int, e = .returned (.int .i64 v) ∧ 0 ≤ v ∧ (v < most ∨ v = 0) ∧ Src 60 B w' g a len cap ∧ w.grownBy w' (some g) := by
 by_cases h1 : most ≤ 1
 · refine (src_n_none w g most h1).mono ?_
   rintro e w' ⟨rfl, rfl⟩
   exact ⟨0, rfl, by omega, .inr rfl, hs, World.grownBy.refl _ _⟩
 · have hlt := hs.lt
   obtain ⟨hB, hl, hby, p, mix, sz, hp, _, _, hs12, hh⟩ := hs
   by_cases hpl : p < len
   · rcases hby with h0 | ⟨b, off, rfl, hb, hc⟩
     · omega
     · obtain ⟨z, z0, z1, hz⟩ := hc p hpl
       refine (src_n_byte w g b off z len cap p most mix sz (by omega) hm hl hpl z0 z1 (by omega) hz hh).mono ?_
       rintro e w' ⟨⟨v, rfl, v0, v1⟩, ⟨M, m0, m1, hM⟩, hg⟩
       refine ⟨v, rfl, v0, .inl v1, ⟨hB, hl, BytesIn.below (.inr ⟨b, off, rfl, hb, hc⟩) (grownBy_below hg hB (by omega)) (Nat.le_refl _), p + 1, M, sz, by omega, m0, m1, hs12, ?_⟩, hg⟩
       rw [hM]; rfl
   · obtain rfl : p = len := by omega
     refine (src_n_end w g a p cap most mix sz (by omega) hm hl hh).mono ?_
     rintro e w' ⟨⟨v, rfl, v0, v1⟩, ⟨M, m0, m1, hM⟩, hg⟩
     exact ⟨v, rfl, v0, .inl v1, ⟨hB, hl, hby.below (grownBy_below hg hB (by omega)) (Nat.le_refl _), p, M, sz, by omega, m0, m1, hs12, hM⟩, hg⟩
set_option maxRecDepth 100000 in
set_option maxHeartbeats 400000 in
theorem src_one (B : Nat) (w : World) (g : Nat) (a : Option Addr) (len cap : Nat) (most : Int) (hm : most ≤ 4611686018427387904) (hs : Src 60 B w g a len cap) :
 Calls Tryz.prog 21 #[.pointer (some ⟨g, 0, none⟩), .int .i64 most] w fun e w' => ∃ r : Bool, e = .returned (.bool r) ∧ Src 60 B w' g a len cap ∧ w.grownBy w' (some g) := by
 have HS := hide hs
 clear hs
 go_enter Tryz.func21, Tryz.ntmps21
 go_wp2_with fail
 refine (src_n B _ g a len cap most hm HS.out).mono ?_
 rintro e w1 ⟨v, rfl, _, _, hs1, hg1⟩
 have HS1 := hide hs1
 clear hs1
 go_wp2_with fail
 go_ret
 exact ⟨_, rfl, HS1.out, hg1⟩
theorem wrap_name (x : Int) : ∃ M : Int, IntKind.u64.wrap x = M ∧ 0 ≤ M ∧ M ≤ 18446744073709551615 := by
 refine ⟨_, rfl, ?_, ?_⟩
 · rw [IntKind.wrap_u64]; omega
 · rw [IntKind.wrap_u64]; omega
set_option maxRecDepth 100000 in
set_option maxHeartbeats 1600000 in
theorem source_any (w : World) (a : Option Addr) (len cap : Nat) (hl : len ≤ 1048576) (hby : BytesIn w w.heap.size a len) :
 Calls Tryz.prog 17 #[.slice a len cap] w fun e w' => e = .returned (.pointer (some ⟨w.heap.size, 0, none⟩)) ∧ Src 60 w.heap.size w' w.heap.size a len cap ∧ w.grownBy w' none := by
 have HB := hide hby
 clear hby
 go_enter Tryz.func17, Tryz.ntmps17
 go_wp2_with fail
 go_loopw [4] (fun i wr => ∃ (k : Nat) (mix : Int), k ≤ len ∧ k ≤ 64 ∧ i = .int .i64 k ∧ 0 ≤ mix ∧ mix ≤ 18446744073709551615 ∧ Hid (wr.heap[w.heap.size]? = some (.cells #[.slice a len cap, .int .i64 0, .int .u64 mix, .int .i64 0] 60 (0, 0))) ∧ w.grownBy wr none) (fun i _ => 64 - (intOf i).toNat)
 case atStart => exact ⟨0, 88172645463325252, by omega, by omega, rfl, by omega, by omega, heap_alloc_new w _, grownBy_alloc (World.grownBy.refl _ _) _⟩
 case round =>
  obtain ⟨k, mix, hk, hk64, rfl, hm0, hm1, hh, hg⟩ := hrel
  obtain ⟨⟨c0, c1, c2, c3⟩, hf⟩ := four_cells hh.out
  by_cases hin : k < len ∧ k < 64
  · obtain ⟨hkl, hk6⟩ := hin
    have hkl' : (k : Int) < (len : Int) := by omega
    have hk6' : (k : Int) < 64 := by omega
    rcases (HB.out.below ((Below.refl _ _).grown hg (Nat.le_refl _) (fun k hk => by cases hk)) (Nat.le_refl _)) with h0 | ⟨b, off, rfl, hb, hc⟩
    · omega
    · obtain ⟨z, z0, z1, hz⟩ := hc k hkl
      clear hc
      obtain ⟨M1, e1, l1, u1⟩ := bits_name .xor mix z
      obtain ⟨M2, e2, l2, u2⟩ := wrap_name (M1 * 1099511628211)
      go_wp2_with fail
      go_region
      go_wp2_with fail
      go_roundw
      case rel => exact ⟨k + 1, M2, by omega, by omega, by go_num, l2, u2, four_set (i := 2) hh.out _, grownBy_drew (grownBy_set_new hg (Nat.le_refl _) _)⟩
      case measure => simp [intOf]; omega
  · have HIN : Hid ((k : Int) < (len : Int) → 64 ≤ (k : Int)) := fun h => by omega
    have HH := hide hh
    have hc3a := fun v => World.cell?_setCell_same wr ⟨w.heap.size, 3, none⟩ v c3
    rcases (show (len : Int) ≤ (k : Int) ∨ ((k : Int) < (len : Int) ∧ 64 ≤ (k : Int)) from by omega) with hx | ⟨hx, hy⟩
    all_goals
     clear hin
     rcases (show (len : Int) / 20 ≤ 12 ∨ 12 < (len : Int) / 20 from by omega) with hq | hq
     · have hc3b := hc3a (.int .i64 ((len : Int) / 20))
       clear hc3a
       go_wp2_with fail
       go_ret
       refine ⟨rfl, ⟨Nat.le_refl _, hl, HB.out.below ((Below.refl _ _).grown (grownBy_set_new hg (Nat.le_refl _) _) (Nat.le_refl _) (fun k hk => by cases hk)) (Nat.le_refl _), 0, mix, _, by omega, hm0, hm1, ⟨by omega, by omega⟩, four_set (i := 3) hh.out _⟩, grownBy_set_new hg (Nat.le_refl _) _⟩
     · have hc3b := hc3a (.int .i64 ((len : Int) / 20))
       clear hc3a
       go_wp2_with fail
       all_goals go_ret
       all_goals refine ⟨rfl, ⟨Nat.le_refl _, hl, HB.out.below ((Below.refl _ _).grown (grownBy_set_new (grownBy_set_new hg (Nat.le_refl _) _) (Nat.le_refl _) _) (Nat.le_refl _) (fun k hk => by cases hk)) (Nat.le_refl _), 0, mix, _, by omega, hm0, hm1, ⟨by omega, by omega⟩, four_set (i := 3) (four_set (i := 3) hh.out _) _⟩, grownBy_set_new (grownBy_set_new hg (Nat.le_refl _) _) (Nat.le_refl _) _⟩
theorem Tryz.infoV8 : (Tryz.prog.info? 5).map (fun i => (i.zero, i.size, i.bytes)) = some (some (.int .u8 0), 1, 1) := by kernel_rfl
set_option maxRecDepth 100000 in
set_option maxHeartbeats 1600000 in
theorem src_bytes (B : Nat) (w : World) (g : Nat) (a : Option Addr) (len cap : Nat) (n : Nat) (hn : n ≤ 1048576) (hs : Src 60 B w g a len cap) :
 Calls Tryz.prog 40 #[.pointer (some ⟨g, 0, none⟩), .int .i64 n] w fun e w' => ∃ t : ByteArray, e = .returned (.string t) ∧ t.size = n ∧ Src 60 B w' g a len cap ∧ w.grownBy w' (some g) := by
 have hlt := hs.lt
 have hBg := hs.1
 have HS := hide hs
 clear hs
 obtain ⟨i0, hi, hz0, hz1, hz2⟩ := info_parts Tryz.infoV8
 go_enter Tryz.func40, Tryz.ntmps40
 go_wp2_with fail
 go_loopw [5, 6] (fun v i wr => ∃ (l : List UInt8), l.length ≤ n ∧ i = .int .i64 l.length ∧ wr.ownsRow w.heap.size 5 1 v l.length (l.map byteV) ∧ Hid (Src 60 B wr g a len cap) ∧ w.grownBy wr (some g)) (fun _ i _ => n - (intOf i).toNat)
 case atStart => exact ⟨[], by simp, rfl, by simpa using World.ownsRow_made (e := 5) (size := 1) (base := w.heap.size) w #[] 0 (Nat.le_refl _) (by decide) (by simp), HS.out.kept (grownBy_alloc (World.grownBy.refl w none) _) (fun k hk => by cases hk) (by omega), grownBy_alloc (World.grownBy.refl _ _) _⟩
 case round =>
  obtain ⟨l, hl, rfl, hown, hsr, hg⟩ := hrel
  have hsz := hg.size
  by_cases hlt2 : l.length < n
  · have hlt' : (l.length : Int) < (n : Int) := by omega
    go_wp2_with fail
    refine (src_n B _ g a len cap 256 (by omega) hsr.out).mono ?_
    rintro e w1 ⟨x, rfl, x0, x1, hs1, hg1⟩
    have hx : x < 256 := by omega
    have hown1 := hown.kept hg1 (by
     rcases hq : u5.ownBlock with _ | q
     · exact .inl rfl
     · refine .inr ?_
       intro he
       have := (hown.lt q hq).1
       simp at he
       omega)
    have hg2 := grownBy_trans hg hg1
    have HS1 := hide hs1
    have hsz1 := hg2.size
    clear hown hg hg1 hs1 hsr
    go_wp2_with (at_builtin; refine wpList_append_own _ rfl _ _ 22 rfl w.heap.size 5 i0 (.int .u8 0) 1 1 Tryz.underlying22 hi hz0 hz1 hz2 rfl (by decide) _ _ _ rfl (hown1.alloc _) ⟨w1.heap.size, 0, none⟩ 1 1 [.int .u8 x] rfl rfl (one_cell _ _ _) (one_oneCell _ _) ?c3 ?c4 ?c5 ?_)
    case c3 => unfold maxLen; omega
    case c4 => omega
    case c5 => simp; omega
    intro v' w2 hown2 hgrow _
    have R1 := own_push (UInt8.ofNat x.toNat) hown2 (by rw [ofNat_byte _ (by omega)]; omega)
    have R2 := push_below hown1 hg2 hgrow
    have R3 : Src 60 B w2 g a len cap := (HS1.out.kept (grownBy_alloc (World.grownBy.refl w1 none) _) (fun k hk => by cases hk) (by omega)).kept hgrow (fun k hk => by have := (hown1.lt k hk).1; omega) (by simp; omega)
    have HR := hide R3
    clear hown1 hown2 hgrow hg2 R3 HS1
    go_wp2_with fail
    go_roundw
    case rel => exact ⟨l ++ [UInt8.ofNat x.toNat], by simp; omega, by simp, R1, HR, R2⟩
    case measure => simp [intOf]; omega
  · have hcv := own_conv (P := Tryz.prog) hown Tryz.underlying22 Tryz.underlying5 Tryz.underlying9
    clear hown
    go_wp2_with fail
    go_ret
    exact ⟨_, rfl, by rw [size_mk]; omega, hsr.out, hg⟩
def valV (w : World) (v : Value) (n : Nat) (f : Nat → Value) : Prop :=
 ∃ ao cap, v = .slice ao n cap ∧ n ≤ cap ∧ (n = 0 ∨ ∃ g, ao = some ⟨g, 0, none⟩ ∧ g < w.heap.size ∧ ∀ j, j < n → w.cell? ⟨g, j, none⟩ = some (f j) ∧ w.frozen? ⟨g, j, none⟩ = false)
theorem valV.below {w w' : World} {v : Value} {n : Nat} {f : Nat → Value} (h : valV w v n f) (hb : Below w.heap.size w w') : valV w' v n f := by
 obtain ⟨ao, cap, rfl, hcap, h | ⟨g, rfl, hg, hc⟩⟩ := h
 · exact ⟨ao, cap, rfl, hcap, .inl h⟩
 · exact ⟨_, cap, rfl, hcap, .inr ⟨g, rfl, Nat.lt_of_lt_of_le hg hb.size, fun j hj => by rw [hb.cell (p := ⟨g, j, none⟩) hg, hb.frozen (p := ⟨g, j, none⟩) hg]; exact hc j hj⟩⟩
theorem valV.of_own {w : World} {base e n : Nat} {v : Value} {xs : List Value} {f : Nat → Value} (h : w.ownsRow base e 1 v n xs) (hf : ∀ j, j < n → xs[j]? = some (f j)) : valV w v n f := by
 have h0 := h
 obtain ⟨_, ⟨rfl, hn⟩ | ⟨g, cap, cur, rfl, hg, hb, hc, _⟩⟩ := h
 · exact ⟨none, 0, by rw [hn], by omega, .inl hn⟩
 · refine ⟨_, cap, rfl, hc, .inr ⟨g, rfl, (h0.lt g rfl).2, fun j hj => ⟨?_, h0.frozenAt j⟩⟩⟩
   rw [h0.cellAt j (by omega), hf j hj]
theorem valV.kept {w w' : World} {v : Value} {n : Nat} {f : Nat → Value} {r : Option Nat} (h : valV w v n f) (hg : w.grownBy w' r) (hr : ∀ k, v.ownBlock = some k → some k ≠ r) : valV w' v n f := by
 obtain ⟨ao, cap, rfl, hcap, h | ⟨g, rfl, hl, hc⟩⟩ := h
 · exact ⟨ao, cap, rfl, hcap, .inl h⟩
 · have hne := hr g rfl
   exact ⟨_, cap, rfl, hcap, .inr ⟨g, rfl, Nat.lt_of_lt_of_le hl hg.size, fun j hj => by rw [hg.cell_far ⟨g, j, none⟩ hl hne, hg.frozen_far ⟨g, j, none⟩ hl hne]; exact hc j hj⟩⟩
theorem valV.congr {w : World} {v : Value} {n : Nat} {f k : Nat → Value} (h : valV w v n f) (e : ∀ j, j < n → f j = k j) : valV w v n k := by
 obtain ⟨ao, cap, rfl, hcap, h | ⟨g, rfl, hl, hc⟩⟩ := h
 · exact ⟨ao, cap, rfl, hcap, .inl h⟩
 · exact ⟨_, cap, rfl, hcap, .inr ⟨g, rfl, hl, fun j hj => by rw [← e j hj]; exact hc j hj⟩⟩
def within (v : Value) (B C : Nat) : Prop := ∀ k, v.ownBlock = some k → B ≤ k ∧ k < C
theorem within.apart {v u : Value} {A B C D : Nat} (h : within v A B) (h2 : within u C D) (hb : B ≤ C ∨ D ≤ A) : ∀ k, v.ownBlock = some k → some k ≠ u.ownBlock := by
 intro k hk e
 have h3 := h k hk
 have h4 := h2 k e.symm
 omega
def valM (m : Nat) (w : World) (v : Value) (n : Nat) (f : Nat → Value) : Prop :=
 ∃ ao cap, v = .slice ao n cap ∧ n ≤ cap ∧ (n = 0 ∨ ∃ g, ao = some ⟨g, 0, none⟩ ∧ g < w.heap.size ∧ ∀ j, j < n * m → w.cell? ⟨g, j, none⟩ = some (f j) ∧ w.frozen? ⟨g, j, none⟩ = false)
theorem valM.below {m : Nat} {w w' : World} {v : Value} {n : Nat} {f : Nat → Value} (h : valM m w v n f) (hb : Below w.heap.size w w') : valM m w' v n f := by
 obtain ⟨ao, cap, rfl, hcap, h | ⟨g, rfl, hg, hc⟩⟩ := h
 · exact ⟨ao, cap, rfl, hcap, .inl h⟩
 · exact ⟨_, cap, rfl, hcap, .inr ⟨g, rfl, Nat.lt_of_lt_of_le hg hb.size, fun j hj => by rw [hb.cell (p := ⟨g, j, none⟩) hg, hb.frozen (p := ⟨g, j, none⟩) hg]; exact hc j hj⟩⟩
theorem valM.kept {m : Nat} {w w' : World} {v : Value} {n : Nat} {f : Nat → Value} {r : Option Nat} (h : valM m w v n f) (hg : w.grownBy w' r) (hr : ∀ k, v.ownBlock = some k → some k ≠ r) : valM m w' v n f := by
 obtain ⟨ao, cap, rfl, hcap, h | ⟨g, rfl, hl, hc⟩⟩ := h
 · exact ⟨ao, cap, rfl, hcap, .inl h⟩
 · have hne := hr g rfl
   exact ⟨_, cap, rfl, hcap, .inr ⟨g, rfl, Nat.lt_of_lt_of_le hl hg.size, fun j hj => by rw [hg.cell_far ⟨g, j, none⟩ hl hne, hg.frozen_far ⟨g, j, none⟩ hl hne]; exact hc j hj⟩⟩
theorem valM.of_own {m : Nat} {w : World} {base e n : Nat} {v : Value} {xs : List Value} {f : Nat → Value} (h : w.ownsRow base e m v n xs) (hf : ∀ j, j < n * m → xs[j]? = some (f j)) : valM m w v n f := by
 have h0 := h
 obtain ⟨_, ⟨rfl, hn⟩ | ⟨g, cap, cur, rfl, hg, hb, hc, _⟩⟩ := h
 · exact ⟨none, 0, by rw [hn], by omega, .inl hn⟩
 · refine ⟨_, cap, rfl, hc, .inr ⟨g, rfl, (h0.lt g rfl).2, fun j hj => ⟨?_, h0.frozenAt j⟩⟩⟩
   rw [h0.cellAt j hj, hf j hj]
set_option maxRecDepth 100000 in
set_option maxHeartbeats 400000 in
theorem src_pick (B : Nat) (w : World) (g : Nat) (a : Option Addr) (len cap : Nat) (z n : Nat) (f : Nat → ByteArray) (hn0 : 0 < n) (hn : n ≤ 1000) (hzg : z ≠ g) (hc : ∀ j, j < n → w.cell? ⟨z, j, none⟩ = some (.string (f j))) (hs : Src 60 B w g a len cap) :
 Calls Tryz.prog 43 #[.pointer (some ⟨g, 0, none⟩), .slice (some ⟨z, 0, none⟩) n n] w fun e w' => ∃ j, j < n ∧ e = .returned (.string (f j)) ∧ Src 60 B w' g a len cap ∧ w.grownBy w' (some g) := by
 have HC := hide hc
 have HS := hide hs
 clear hc hs
 go_enter Tryz.func43, Tryz.ntmps43
 go_wp2_with fail
 refine (src_n _ _ _ a len cap (n : Int) (by omega) HS.out).mono ?_
 rintro e w1 ⟨v, rfl, v0, v1, hs1, hg1⟩
 obtain ⟨j, rfl⟩ := Int.eq_ofNat_of_zero_le v0
 have hj : j < n := by omega
 have hj' : (j : Int) < (n : Int) := by omega
 have c1 : w1.cell? ⟨z, j, none⟩ = some (.string (f j)) := hg1.cell (a := ⟨z, j, none⟩) (HC.out j hj) (fun e => hzg (Option.some.inj e))
 have HS1 := hide hs1
 have HG1 := hide hg1
 clear hs1 hg1 HS HC v1
 obtain ⟨X, hX⟩ : ∃ X, X = f j := ⟨_, rfl⟩
 rw [← hX] at c1
 have HX := hide hX
 clear hX
 go_wp2_with fail
 go_ret
 exact ⟨j, hj, by rw [← HX.out]; rfl, HS1.out, HG1.out⟩
def four (j : Nat) : ByteArray := if j = 0 then ⟨#[97, 98, 99]⟩ else if j = 1 then ⟨#[97, 97, 97, 97]⟩ else if j = 2 then ⟨#[97, 98, 99, 97, 98, 99]⟩ else ⟨#[120]⟩
theorem four_size (j : Nat) : (four j).size ≤ 6 := by
 unfold four
 split
 · decide
 · split
   · decide
   · split <;> decide
theorem cut_size (t : ByteArray) : (t.extract 0 300).size ≤ 300 := by rw [ByteArray.size_extract]; omega
set_option maxRecDepth 100000 in
set_option maxHeartbeats 1600000 in
theorem src_text2 (B : Nat) (w : World) (g : Nat) (a : Option Addr) (len cap : Nat) (hs : Src 60 B w g a len cap) (hB : B ≤ w.heap.size) :
 Calls Tryz.prog 22 #[.pointer (some ⟨g, 0, none⟩)] w fun e w' => ∃ t : ByteArray, e = .returned (.string t) ∧ (t.size ≤ 300 ∨ ∃ n, n ≤ 4001 ∧ t = ⟨(List.replicate n (0 : UInt8)).toArray⟩) ∧ Src 60 B w' g a len cap ∧ w.grownBy w' (some g) := by
 have hgl := hs.lt
 have HS := hide hs
 clear hs
 go_enter Tryz.func22, Tryz.ntmps22
 go_wp2_with fail
 refine (src_n _ _ _ a len cap 12 (by omega) HS.out).mono ?_
 rintro e w1 ⟨x, rfl, x0, x1, hs1, hg1⟩
 have HS1 := hide hs1
 have HG1 := hide hg1
 obtain ⟨k1, rfl⟩ := Int.eq_ofNat_of_zero_le x0
 have hk1 : k1 < 12 := by omega
 clear hs1 hg1 HS x1
 go_wp2_with fail
 refine (src_bytes _ _ _ a len cap k1 (by omega) HS1.out).mono ?_
 rintro e w2 ⟨t0, rfl, ht0, hs2, hg2⟩
 have HS2 := hide hs2
 have HG2 := hide (grownBy_trans HG1.out hg2)
 have ht0' : t0.size ≤ 300 := by omega
 clear hs2 hg2 HS1 HG1 ht0
 go_wp2_with fail
 refine (src_n _ _ _ a len cap 5 (by omega) HS2.out).mono ?_
 rintro e w3 ⟨y, rfl, y0, y1, hs3, hg3⟩
 have HS3 := hide hs3
 have HG3 := hide (grownBy_trans HG2.out hg3)
 obtain ⟨k2, rfl⟩ := Int.eq_ofNat_of_zero_le y0
 have hk2 : k2 < 5 := by omega
 clear hs3 hg3 HS2 HG2 y1
 go_wp2_with fail
 go_loopw [3, 4] (fun tv i wx => ∃ (t : ByteArray) (k : Nat), k ≤ 5 ∧ tv = .string t ∧ i = .int .i64 k ∧ t.size ≤ 300 ∧ Hid (Src 60 B wx g a len cap) ∧ Hid (w.grownBy wx (some g))) (fun _ i _ => (intOf i).toNat)
 case atStart => exact ⟨t0, k2, by omega, rfl, rfl, ht0', HS3, HG3⟩
 case round =>
  clear HS3 HG3
  obtain ⟨t, k, hk, rfl, rfl, ht, hs, hg⟩ := hrel
  by_cases hk0 : 0 < k
  · have hk0' : (0 : Int) < (k : Int) := by omega
    go_wp2_with fail
    refine (src_n _ _ _ a len cap 3 (by omega) hs.out).mono ?_
    rintro e w4 ⟨c, rfl, c0, c1, hs4, hg4⟩
    have HS4 := hide hs4
    have HG4 := hide (grownBy_trans hg.out hg4)
    have hkb : (k : Int) ≤ 5 := by omega
    clear hs4 hg4 hs hg
    have ht300 : (t.size : Int) ≤ 300 := by omega
    by_cases hc0 : c = 0
    · have d0 : (c == 0) = true := by rw [hc0]; rfl
      clear hc0
      go_wp2_with fail
      all_goals
       exact ⟨⟨_, k - 1, by omega, rfl, congrArg _ (by omega), by first | exact cut_size _ | (simp only [ByteArray.size_append]; omega), HS4, HG4⟩, by simp [intOf]; omega⟩
    · have d0 : (c == 0) = false := by rw [beq_eq_false_iff_ne]; exact hc0
      by_cases hc1 : c = 1
      · have d1 : (c == 1) = true := by rw [hc1]; rfl
        clear hc0 hc1
        have S5 := hide (HS4.out.kept (grownBy_alloc (World.grownBy.refl w4 none) (.cells #[.string ⟨#[97, 98, 99]⟩, .string ⟨#[97, 97, 97, 97]⟩, .string ⟨#[97, 98, 99, 97, 98, 99]⟩, .string ⟨#[120]⟩] 9)) (fun k hk => by cases hk) (Nat.le_trans hB HG4.out.size))
        have G5 := hide (grownBy_alloc HG4.out (.cells #[.string ⟨#[97, 98, 99]⟩, .string ⟨#[97, 97, 97, 97]⟩, .string ⟨#[97, 98, 99, 97, 98, 99]⟩, .string ⟨#[120]⟩] 9))
        have hh := heap_alloc_new w4 (.cells #[.string ⟨#[97, 98, 99]⟩, .string ⟨#[97, 97, 97, 97]⟩, .string ⟨#[97, 98, 99, 97, 98, 99]⟩, .string ⟨#[120]⟩] 9)
        have hgz : w4.heap.size ≠ g := by have := HG4.out.size; omega
        go_wp2_with fail
        refine (src_pick B _ g a len cap w4.heap.size 4 four (by omega) (by omega) hgz (fun j hj => by
         rw [cell_of_row _ _ _ _ _ _ hh]
         match j, hj with
         | 0, _ => rfl
         | 1, _ => rfl
         | 2, _ => rfl
         | 3, _ => rfl) S5.out).mono ?_
        rintro e w6 ⟨j, hj, rfl, hs6, hg6⟩
        have HSX := hide hs6
        have HGX := hide (grownBy_trans G5.out hg6)
        have h4 := four_size j
        generalize four j = X at *
        have h4' : (X.size : Int) ≤ 6 := by omega
        clear hs6 hg6 S5 G5 hh HS4 HG4
        go_wp2_with fail
        all_goals
         exact ⟨⟨_, k - 1, by omega, rfl, congrArg _ (by omega), by first | exact cut_size _ | (simp only [ByteArray.size_append]; omega), HSX, HGX⟩, by simp [intOf]; omega⟩
      · have d1 : (c == 1) = false := by rw [beq_eq_false_iff_ne]; exact hc1
        clear hc0 hc1
        go_wp2_with fail
        refine (src_n _ _ _ a len cap 5 (by omega) HS4.out).mono ?_
        rintro e w5 ⟨y, rfl, y0, y1, hs5, hg5⟩
        have HS5 := hide hs5
        have HG5 := hide (grownBy_trans HG4.out hg5)
        obtain ⟨k5, rfl⟩ := Int.eq_ofNat_of_zero_le y0
        have hk5 : k5 < 5 := by omega
        clear hs5 hg5 HS4 HG4 y1
        go_wp2_with fail
        refine (src_bytes _ _ _ a len cap k5 (by omega) HS5.out).mono ?_
        rintro e w6 ⟨X, rfl, hX, hs6, hg6⟩
        have HSX := hide hs6
        have HGX := hide (grownBy_trans HG5.out hg6)
        have h4' : (X.size : Int) ≤ 6 := by omega
        clear hs6 hg6 HS5 HG5 hX
        go_wp2_with fail
        all_goals
         exact ⟨⟨_, k - 1, by omega, rfl, congrArg _ (by omega), by first | exact cut_size _ | (simp only [ByteArray.size_append]; omega), HSX, HGX⟩, by simp [intOf]; omega⟩
  · have hk0' : ¬ (0 : Int) < (k : Int) := by omega
    go_wp2_with fail
    refine (src_one _ _ _ a len cap 25 (by omega) hs.out).mono ?_
    rintro e w4 ⟨r, rfl, hs4, hg4⟩
    have HS4 := hide hs4
    have HG4 := hide (grownBy_trans hg.out hg4)
    clear hs4 hg4 hs hg
    cases r with
    | false =>
      go_wp2_with fail
      go_ret
      exact ⟨t, rfl, .inl ht, HS4.out, HG4.out⟩
    | true =>
      go_wp2_with fail
      refine (src_n _ _ _ a len cap 3 (by omega) HS4.out).mono ?_
      rintro e w5 ⟨y, rfl, y0, y1, hs5, hg5⟩
      have HS5 := hide hs5
      have HG5 := hide (grownBy_trans HG4.out hg5)
      obtain ⟨k5, rfl⟩ := Int.eq_ofNat_of_zero_le y0
      have hk5 : k5 < 3 := by omega
      obtain ⟨n, hn⟩ : ∃ n, n = 3999 + k5 := ⟨_, rfl⟩
      have s1 : (3999 : Int) + (k5 : Int) = (n : Int) := by omega
      have hn4 : n ≤ 4001 := by omega
      have hmk : ∀ w : World, (Instr.makeSlice 22 (.int .i64 (n : Int)) (.int .i64 (n : Int))).run Tryz.prog w = .ok (.slice (some ⟨w.heap.size, 0, none⟩) n n) (w.alloc (.cells (madeCells #[.int .u8 0] n) 5)) := run_make_row' (P := Tryz.prog) 22 5 (.int .u8 0) 1 Tryz.underlying22 (by kernel_rfl) rfl .i64 .i64 n (by omega) (by omega)
      have hcv := own_conv (P := Tryz.prog) (w := w5.alloc (.cells (madeCells #[.int .u8 0] n) 5)) (base := w5.heap.size) (e := 5) (v := .slice (some ⟨w5.heap.size, 0, none⟩) n n) (l := List.replicate n (0 : UInt8)) (by
       have h := World.ownsRow_lit (e := 5) (size := 1) (base := w5.heap.size) w5 (madeCells #[.int .u8 0] n) n (Nat.le_refl _) (by unfold maxLen; omega) (by rw [size_madeCells, Nat.mul_one])
       rw [made_bytes] at h
       rw [List.length_replicate]; exact h) Tryz.underlying22 Tryz.underlying5 Tryz.underlying9
      obtain ⟨X, hX⟩ : ∃ X : ByteArray, X = ⟨(List.replicate n (0 : UInt8)).toArray⟩ := ⟨_, rfl⟩
      rw [← hX] at hcv
      have hXs := hide (show X.size ≤ 300 ∨ ∃ n, n ≤ 4001 ∧ X = ⟨(List.replicate n (0 : UInt8)).toArray⟩ from .inr ⟨n, hn4, hX⟩)
      have SX := hide (HS5.out.kept (grownBy_alloc (World.grownBy.refl w5 none) (.cells (madeCells #[.int .u8 0] n) 5)) (fun k hk => by cases hk) (Nat.le_trans hB HG5.out.size))
      have GX := hide (grownBy_alloc HG5.out (.cells (madeCells #[.int .u8 0] n) 5))
      clear hs5 hg5 HS4 HG4 y1 hX hn HS5 HG5
      go_wp2_with fail
      go_ret
      exact ⟨X, rfl, hXs.out, SX.out, GX.out⟩
theorem src_text (B : Nat) (w : World) (g : Nat) (a : Option Addr) (len cap : Nat) (hs : Src 60 B w g a len cap) (hB : B ≤ w.heap.size) :
 Calls Tryz.prog 22 #[.pointer (some ⟨g, 0, none⟩)] w fun e w' => ∃ t : ByteArray, e = .returned (.string t) ∧ t.size ≤ 4001 ∧ Src 60 B w' g a len cap ∧ w.grownBy w' (some g) := by
 refine (src_text2 B w g a len cap hs hB).mono ?_
 rintro e w' ⟨t, rfl, ht, h1, h2⟩
 refine ⟨t, rfl, ?_, h1, h2⟩
 rcases ht with h | ⟨n, hn, rfl⟩
 · omega
 · rw [size_mk, List.length_replicate]; exact hn
theorem src_drewN {B : Nat} {w w2 : World} {g n : Nat} {a : Option Addr} {len cap : Nat} (hs : Src 60 B w2 g a len cap) (hg : w.grownBy w2 (some g)) (hB : B ≤ w2.heap.size) : Src 60 B (w2.drewN n) g a len cap ∧ w.grownBy (w2.drewN n) (some g) :=
 ⟨hs.kept (r := none) (show w2.grownBy (w2.drewN n) none from ⟨rfl, rfl, rfl, Nat.le_refl _, fun _ _ _ => rfl⟩) (fun k hk => by cases hk) hB, ⟨hg.os, hg.tape, hg.output, hg.size, hg.block⟩⟩
set_option maxRecDepth 100000 in
set_option maxHeartbeats 1600000 in
theorem src_spoil (B : Nat) (w : World) (g : Nat) (a : Option Addr) (len cap : Nat) (t : ByteArray) (ht : t.size ≤ 100000) (hs : Src 60 B w g a len cap) (hB : B ≤ w.heap.size) :
 Calls Tryz.prog 38 #[.pointer (some ⟨g, 0, none⟩), .string t] w fun e w' => ∃ u : ByteArray, e = .returned (.string u) ∧ u.size ≤ 100001 ∧ Src 60 B w' g a len cap ∧ w.grownBy w' (some g) := by
 have hgl := hs.lt
 have ht' : (t.size : Int) ≤ 100000 := by omega
 have HS := hide hs
 clear hs
 go_enter Tryz.func38, Tryz.ntmps38
 go_wp2_with fail
 refine (src_n _ _ _ a len cap _ (by omega) HS.out).mono ?_
 rintro e w1 ⟨x, rfl, x0, x1, hs1, hg1⟩
 have HS1 := hide hs1
 have HG1 := hide hg1
 obtain ⟨k, rfl⟩ := Int.eq_ofNat_of_zero_le x0
 have hk : k ≤ t.size := by omega
 have hk' : (k : Int) ≤ (t.size : Int) := by omega
 clear hs1 hg1 HS x1
 go_wp2_with fail
 refine (src_n _ _ _ a len cap 17 (by omega) HS1.out).mono ?_
 rintro e w2 ⟨y, rfl, y0, y1, hs2, hg2⟩
 have HS2 := hide hs2
 have HG2 := hide (grownBy_trans HG1.out hg2)
 obtain ⟨j, rfl⟩ := Int.eq_ofNat_of_zero_le y0
 have hj : j < 17 := by omega
 have hj' : (j : Int) < 17 := by omega
 clear hs2 hg2 HS1 HG1 y1
 obtain ⟨z, hz⟩ : ∃ z : UInt8, z = (⟨#[32, 10, 48, 97, 45, 110, 44, 58, 93, 255, 40, 120, 126, 49, 128, 225, 59]⟩ : ByteArray)[j]'hj := ⟨_, rfl⟩
 have hz2 := hz.symm
 have hcv := own_conv (P := Tryz.prog) (w := w2.alloc (.cells #[.int .u8 (z.toNat : Int)] 5)) (base := w2.heap.size) (e := 5) (v := .slice (some ⟨w2.heap.size, 0, none⟩) 1 1) (l := [z]) (by
  have h := World.ownsRow_lit (e := 5) (size := 1) (base := w2.heap.size) w2 #[.int .u8 (z.toNat : Int)] 1 (Nat.le_refl _) (by unfold maxLen; omega) rfl
  exact h) Tryz.underlying22 Tryz.underlying5 Tryz.underlying9
 obtain ⟨C, hC⟩ : ∃ C : ByteArray, C = ⟨[z].toArray⟩ := ⟨_, rfl⟩
 have hCs : C.size = 1 := by rw [hC]; rfl
 rw [← hC] at hcv
 have S3 := hide (HS2.out.kept (grownBy_alloc (World.grownBy.refl w2 none) (.cells #[.int .u8 (z.toNat : Int)] 5)) (fun k hk => by cases hk) (Nat.le_trans hB HG2.out.size))
 have G3 := hide (grownBy_alloc HG2.out (.cells #[.int .u8 (z.toNat : Int)] 5))
 clear hz hC HS2 HG2
 have s1 := fun W => (show (Instr.slice 9 (.string t) none (some (.int .i64 (k : Int))) none).run Tryz.prog W = .ok (.string (t.extract 0 k)) W by
  rw [run_slice_string_h W 9 t Tryz.underlying9 .i64 (k : Int) (by omega) (by omega), Int.toNat_natCast])
 have s2 := fun W => run_rest (P := Tryz.prog) W 9 t k Tryz.underlying9 hk
 obtain ⟨A, hA⟩ : ∃ A : ByteArray, A = t.extract 0 k := ⟨_, rfl⟩
 obtain ⟨D, hD⟩ : ∃ D : ByteArray, D = t.extract k t.size := ⟨_, rfl⟩
 have hAs : A.size = k := by rw [hA, ByteArray.size_extract]; omega
 have hDs : D.size = t.size - k := by rw [hD, ByteArray.size_extract]; omega
 rw [← hA] at s1
 rw [← hD] at s2
 clear hD
 by_cases hkt : k = t.size
 · have hkt' : (k : Int) = (t.size : Int) := by omega
   have d1 : ((k : Int) == (t.size : Int)) = true := by rw [hkt]; exact beq_self_eq_true _
   clear hA hkt
   go_wp2_with fail
   go_quiet (fail)
   have R := hide (src_drewN (n := nq) S3.out G3.out (Nat.le_trans hB G3.out.size))
   go_wp2_with fail
   go_ret
   exact ⟨_, rfl, by simp only [ByteArray.size_append]; omega, R.out.1, R.out.2⟩
 · have hkt' : ¬ (k : Int) = (t.size : Int) := by omega
   have d1 : ((k : Int) == (t.size : Int)) = false := by rw [beq_eq_false_iff_ne]; omega
   have s3 := fun W => run_rest (P := Tryz.prog) W 9 t (k + 1) Tryz.underlying9 (by omega)
   obtain ⟨F, hF⟩ : ∃ F : ByteArray, F = t.extract (k + 1) t.size := ⟨_, rfl⟩
   have hFs : F.size = t.size - (k + 1) := by rw [hF, ByteArray.size_extract]; omega
   rw [← hF] at s3
   obtain ⟨k1, hk1⟩ : ∃ k1, k1 = k + 1 := ⟨_, rfl⟩
   rw [← hk1] at s3
   have a1 : (k : Int) + 1 = (k1 : Int) := by omega
   have a2 : IntKind.i64.wrap ((k : Int) + 1) = (k1 : Int) := by rw [IntKind.wrap_i64]; omega
   clear hF hA hk1
   go_wp2_with fail
   refine (src_one _ _ _ a len cap 3 (by omega) S3.out).mono ?_
   rintro e w4 ⟨r, rfl, hs4, hg4⟩
   have S4 := hide hs4
   have G4 := hide (grownBy_trans G3.out hg4)
   clear hs4 hg4 S3 G3
   cases r with
   | true =>
     go_wp2_with fail
     go_quiet (fail)
     have R := hide (src_drewN (n := nq) S4.out G4.out (Nat.le_trans hB G4.out.size))
     go_wp2_with fail
     go_ret
     exact ⟨_, rfl, by simp only [ByteArray.size_append]; omega, R.out.1, R.out.2⟩
   | false =>
     go_wp2_with fail
     refine (src_one _ _ _ a len cap 2 (by omega) S4.out).mono ?_
     rintro e w5 ⟨r, rfl, hs5, hg5⟩
     have S5 := hide hs5
     have G5 := hide (grownBy_trans G4.out hg5)
     clear hs5 hg5 S4 G4
     cases r with
     | true =>
       go_wp2_with fail
       go_quiet (fail)
       have R := hide (src_drewN (n := nq) S5.out G5.out (Nat.le_trans hB G5.out.size))
       go_wp2_with fail
       go_ret
       exact ⟨_, rfl, by simp only [ByteArray.size_append]; omega, R.out.1, R.out.2⟩
     | false =>
       go_wp2_with fail
       go_quiet (fail)
       have R := hide (src_drewN (n := nq) S5.out G5.out (Nat.le_trans hB G5.out.size))
       go_wp2_with fail
       go_ret
       exact ⟨_, rfl, by simp only [ByteArray.size_append]; omega, R.out.1, R.out.2⟩
end Go.Proofs.YtconcnndghmdfaaGreatDoor
