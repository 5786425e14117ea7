/- The walk over the program's grown. -/
import Derived.Test.YtconcnndghmdfaaGreatDoorSe39
import Derived.Test.YtconcnndghmdfaaGreatDoorSe35
import Derived.Test.YtconcnndghmdfaaGreatDoorSe9
import Derived.Test.YtconcnndghmdfaaGreatDoorSe46
import Derived.Test.YtconcnndghmdfaaGreatDoorSe16
namespace Go.Proofs.YtconcnndghmdfaaGreatDoor
open Go.RowKit
/-- What is copied over and over is what was: the byte that a match makes, read in the text ahead of it. -/
theorem copyN_at (F : Nat) (b : List UInt8) (h1 : 1 ≤ F) (h2 : F ≤ b.length) : ∀ c j, j < F + c → (copyN F c b).getD (b.length - F + j) 0 = b.getD (b.length - F + j % F) 0
  | 0, j, hj => by
    show b.getD _ 0 = _
    rw [Nat.mod_eq_of_lt (by omega)]
  | c + 1, j, hj => by
    have hl := copyN_len F c b
    rw [copyN_more]
    by_cases hlt : j < F + c
    · rw [← copyN_at F b h1 h2 c j hlt, List.getD_eq_getElem?_getD, List.getElem?_append_left (by omega), ← List.getD_eq_getElem?_getD]
    · have e : j = F + c := by omega
      subst e
      have e1 : b.length - F + (F + c) = (copyN F c b).length := by omega
      rw [e1, List.getD_eq_getElem?_getD, List.getElem?_append_right (Nat.le_refl _), Nat.sub_self]
      show (copyN F c b).getD ((copyN F c b).length - F) 0 = _
      have e2 : (copyN F c b).length - F = b.length - F + c := by omega
      rw [e2, copyN_at F b h1 h2 c c (by omega), Nat.add_mod_left]
/-- What alone turns: v's own row; the new row lies there, or is new. -/
structure OffV (v v' : Value) (w w' : World) : Prop where
  same : ∀ k, k < w.heap.size → v.ownBlock ≠ some k → w'.heap[k]? = w.heap[k]?
  lies : ∀ k, v'.ownBlock = some k → v.ownBlock = some k ∨ w.heap.size ≤ k
set_option maxRecDepth 100000 in
set_option maxHeartbeats 400000 in
theorem imp_grown_byteK (v : Value) (b : List UInt8) (base y : Nat) (w : World) (hbase : base ≤ w.heap.size) (hown : w.ownsRow base 5 1 v b.length (b.map byteV)) (hlen : b.length ≤ 20000) (hy : y < 256) :
    Calls Tryz.prog 147 #[v, .agg #[.int .i64 (y : Int), .int .i64 0, .int .i64 0]] w fun e w' => ∃ v', e = .returned (.tuple #[v', .bool true]) ∧ w'.ownsRow base 5 1 v' (b ++ [UInt8.ofNat y]).length ((b ++ [UInt8.ofNat y]).map byteV) ∧ Below base w w' ∧ OffV v v' w w' := by
  obtain ⟨i0, hi, hz0, hz1, hz2⟩ := info_parts Tryz.infoB8m
  obtain ⟨ba, bcap, hbv, hbc⟩ : ∃ a cap, v = .slice a b.length cap ∧ b.length ≤ cap := by
    obtain ⟨_, ⟨e, e0⟩ | ⟨g, cap, cur, e, _, _, h, _⟩⟩ := hown
    · exact ⟨none, 0, by rw [e, e0], by omega⟩
    · exact ⟨_, cap, e, h⟩
  subst hbv
  have SM := hide (fun w => imp_isMatch (y : Int) 0 0 w)
  have hw8 : IntKind.u8.wrap (y : Int) = (y : Int) := by rw [IntKind.wrap_u8]; omega
  have HB := hide hbase
  have HOWN := hide hown
  clear hown hbase
  go_enter Tryz.func147, Tryz.ntmps147
  go_wp2_with fail
  refine (SM.out _).mono ?_
  rintro e w1 ⟨rfl, hb1⟩
  have hsz := hb1.size
  have c0 := (hb1.cell (p := ⟨w.heap.size, 0, none⟩) (by simp)).trans (show (w.alloc (.cells #[.int .i64 (y : Int), .int .i64 0, .int .i64 0] 80)).cell? ⟨w.heap.size, 0, none⟩ = some (.int .i64 (y : Int)) by simp)
  have HO := hide ((HOWN.out.alloc (.cells #[.int .i64 (y : Int), .int .i64 0, .int .i64 0] 80)).kept (below_grownBy hb1) (Classical.em _))
  have B1 := hide (((Below.refl base w).alloc HB.out (.cells #[.int .i64 (y : Int), .int .i64 0, .int .i64 0] 80)).trans (hb1.mono (by have := HB.out; simp; omega)))
  have hbs := B1.out.size
  have hm0 : ((0 : Int) != 0) = false := rfl
  have K1 := hide (show ∀ k, k < w.heap.size → w1.heap[k]? = w.heap[k]? from fun k hk => (hb1.block k (by simp; omega)).trans (Below.heap_alloc _ _ k hk))
  clear hb1 HOWN SM
  go_wp2_with (at_builtin; refine wpList_append_lies _ rfl _ _ 22 rfl base 5 i0 (.int .u8 0) 1 1 Tryz.underlying22 hi hz0 hz1 hz2 rfl (by omega) (.slice ba b.length bcap) b.length (b.map byteV) rfl (HO.out.alloc _) ⟨w1.heap.size, 0, none⟩ 1 1 [.int .u8 (y : Int)] rfl rfl (one_cell w1 _ _) (one_oneCell .u8 _) (by omega) (by unfold maxLen; omega) (by omega) (by simp; have := HB.out; simp at hsz; omega) (w1.heap.size + 1) (by simp) ?_)
  intro g' cap' w9 hown' hg' hat' _
  have R1 : w9.ownsRow base 5 1 (.slice (some ⟨g', 0, none⟩) (b.length + 1) cap') (b ++ [UInt8.ofNat y]).length ((b ++ [UInt8.ofNat y]).map byteV) := by
    rw [List.length_append, List.map_append]
    show w9.ownsRow base 5 1 _ (b.length + 1) (b.map byteV ++ [byteV (UInt8.ofNat y)])
    rw [byteV, ofNat_byte y hy]; exact hown'
  have hb1s : base ≤ w1.heap.size := by have := HB.out; simp at hsz; omega
  have R2 := hide ((B1.out.alloc hb1s _).grown hg' (by simp; omega) (fun x hx => (HO.out.lt x hx).1))
  have RR := hide R1
  have R3 := hide (show OffV (.slice ba b.length bcap) (.slice (some ⟨g', 0, none⟩) (b.length + 1) cap') w w9 from ⟨fun k hk hne => (hg'.block k (by simp at hsz; simp; omega) (fun e => hne e.symm)).trans ((Below.heap_alloc _ _ k (by simp at hsz; omega)).trans (K1.out k hk)), fun k hk => by
    obtain rfl : g' = k := by simpa [Value.ownBlock] using hk
    rcases hat' with h | h
    · exact .inl h
    · simp at hsz; exact .inr (by omega)⟩)
  clear hown' hg' hat' HO B1 c0 R1 K1
  go_wp2_with fail
  go_ret2
  exact ⟨_, rfl, RR.out, R2.out, R3.out⟩
theorem imp_grown_byte (v : Value) (b : List UInt8) (base y : Nat) (w : World) (hbase : base ≤ w.heap.size) (hown : w.ownsRow base 5 1 v b.length (b.map byteV)) (hlen : b.length ≤ 20000) (hy : y < 256) :
    Calls Tryz.prog 147 #[v, .agg #[.int .i64 (y : Int), .int .i64 0, .int .i64 0]] w fun e w' => ∃ v', e = .returned (.tuple #[v', .bool true]) ∧ w'.ownsRow base 5 1 v' (b ++ [UInt8.ofNat y]).length ((b ++ [UInt8.ofNat y]).map byteV) ∧ Below base w w' :=
  (imp_grown_byteK v b base y w hbase hown hlen hy).mono fun _ _ ⟨v', h1, h2, h3, _⟩ => ⟨v', h1, h2, h3⟩
set_option maxRecDepth 100000 in
set_option maxHeartbeats 1600000 in
theorem imp_grown_noK (v : Value) (b : List UInt8) (base M F : Nat) (w : World) (hown : w.ownsRow base 5 1 v b.length (b.map byteV)) (hlen : b.length ≤ 20000) (hM3 : 3 ≤ M) (hM : M ≤ 66) (hF : F ≤ 1024) (hFb : b.length < F) :
    Calls Tryz.prog 147 #[v, .agg #[.int .i64 0, .int .i64 (M : Int), .int .i64 (F : Int)]] w fun e w' => e = .returned (.tuple #[.slice none 0 0, .bool false]) ∧ Below w.heap.size w w' := by
  obtain ⟨ba, bcap, hbv, hbc⟩ : ∃ a cap, v = .slice a b.length cap ∧ b.length ≤ cap := by
    obtain ⟨_, ⟨e, e0⟩ | ⟨g, cap, cur, e, _, _, h, _⟩⟩ := hown
    · exact ⟨none, 0, by rw [e, e0], by omega⟩
    · exact ⟨_, cap, e, h⟩
  subst hbv
  have SM := hide (fun w => imp_isMatch 0 (M : Int) (F : Int) w)
  have hm0 : ((M : Int) != 0) = true := by simp; omega
  rw [hm0] at SM
  have hneg : (b.length : Int) - (F : Int) < 0 := by omega
  have hnw : IntKind.i64.wrap ((b.length : Int) - (F : Int)) = (b.length : Int) - (F : Int) := by simp only [IntKind.wrap_i64]; omega
  clear hown hm0
  go_enter Tryz.func147, Tryz.ntmps147
  go_wp2_with fail
  refine (SM.out _).mono ?_
  rintro e w1 ⟨rfl, hb1⟩
  have c2 := (hb1.cell (p := ⟨w.heap.size, 2, none⟩) (by simp)).trans (show (w.alloc (.cells #[.int .i64 0, .int .i64 (M : Int), .int .i64 (F : Int)] 80)).cell? ⟨w.heap.size, 2, none⟩ = some (.int .i64 (F : Int)) by simp)
  have B1 := hide (((Below.refl w.heap.size w).alloc (Nat.le_refl _) (.cells #[.int .i64 0, .int .i64 (M : Int), .int .i64 (F : Int)] 80)).trans (hb1.mono (by simp)))
  clear hb1 SM
  go_wp2_with fail
  go_ret2
  exact ⟨rfl, B1.out⟩
theorem imp_grown_no (v : Value) (b : List UInt8) (base M F : Nat) (w : World) (hbase : base ≤ w.heap.size) (hown : w.ownsRow base 5 1 v b.length (b.map byteV)) (hlen : b.length ≤ 20000) (hM3 : 3 ≤ M) (hM : M ≤ 66) (hF : F ≤ 1024) (hFb : b.length < F) :
    Calls Tryz.prog 147 #[v, .agg #[.int .i64 0, .int .i64 (M : Int), .int .i64 (F : Int)]] w fun e w' => e = .returned (.tuple #[.slice none 0 0, .bool false]) ∧ Below base w w' :=
  (imp_grown_noK v b base M F w hown hlen hM3 hM hF hFb).mono fun _ _ ⟨h1, h2⟩ => ⟨h1, h2.mono hbase⟩
set_option maxRecDepth 100000 in
set_option maxHeartbeats 1600000 in
theorem imp_grown_matchK (v : Value) (b : List UInt8) (base M F : Nat) (w : World) (hbase : base ≤ w.heap.size) (hown : w.ownsRow base 5 1 v b.length (b.map byteV)) (hlen : b.length ≤ 20000) (hM3 : 3 ≤ M) (hM : M ≤ 66) (hF1 : 1 ≤ F) (hF : F ≤ 1024) (hFb : F ≤ b.length) :
    Calls Tryz.prog 147 #[v, .agg #[.int .i64 0, .int .i64 (M : Int), .int .i64 (F : Int)]] w fun e w' => ∃ v', e = .returned (.tuple #[v', .bool true]) ∧ w'.ownsRow base 5 1 v' (copyN F M b).length ((copyN F M b).map byteV) ∧ Below base w w' ∧ OffV v v' w w' := by
  obtain ⟨i0, hi, hz0, hz1, hz2⟩ := info_parts Tryz.infoB8m
  obtain ⟨g0, bcap, hbv, hbc⟩ : ∃ g cap, v = .slice (some ⟨g, 0, none⟩) b.length cap ∧ b.length ≤ cap := by
    obtain ⟨_, ⟨_, e0⟩ | ⟨g, cap, cur, e, _, _, h, _⟩⟩ := hown
    · omega
    · exact ⟨_, cap, e, h⟩
  subst hbv
  have SM := hide (fun w => imp_isMatch 0 (M : Int) (F : Int) w)
  have hm0 : ((M : Int) != 0) = true := by simp; omega
  rw [hm0] at SM
  obtain ⟨p, hp⟩ : ∃ p, p = b.length - F := ⟨_, rfl⟩
  have s1 : (b.length : Int) - (F : Int) = (p : Int) := by omega
  have s1w : IntKind.i64.wrap ((b.length : Int) - (F : Int)) = (p : Int) := by simp only [IntKind.wrap_i64]; omega
  have s2 : b.length - p = F := by omega
  have hpl : (p : Int) ≤ (b.length : Int) := by omega
  have hp0 : ¬ (p : Int) < 0 := by omega
  have hl20 : (b.length : Int) ≤ 20000 := by omega
  have hblc : (b.length : Int) ≤ (bcap : Int) := by omega
  have HB := hide hbase
  have HOWN := hide hown
  have HCELL := hide (show ∀ j (hj : j < b.length), w.cell? ⟨g0, j, none⟩ = some (.int .u8 ((b.getD j 0).toNat : Int)) from fun j hj => by
    rw [hown.cellAt j (by omega), List.getElem?_map, List.getD_eq_getElem?_getD, List.getElem?_eq_getElem hj]; rfl)
  have hg0 := (hown.lt g0 rfl)
  have HCAT := hide (copyN_at F b hF1 hFb)
  have HPB := hide hp
  clear hown hbase hm0 hp
  obtain ⟨N, hN⟩ : ∃ N, N = b.length := ⟨_, rfl⟩
  go_enter Tryz.func147, Tryz.ntmps147
  go_wp2_with fail
  refine (SM.out _).mono ?_
  rintro e w1 ⟨rfl, hb1⟩
  have hsz := hb1.size
  have c1 := (hb1.cell (p := ⟨w.heap.size, 1, none⟩) (by simp)).trans (show (w.alloc (.cells #[.int .i64 0, .int .i64 (M : Int), .int .i64 (F : Int)] 80)).cell? ⟨w.heap.size, 1, none⟩ = some (.int .i64 (M : Int)) by simp)
  have c2 := (hb1.cell (p := ⟨w.heap.size, 2, none⟩) (by simp)).trans (show (w.alloc (.cells #[.int .i64 0, .int .i64 (M : Int), .int .i64 (F : Int)] 80)).cell? ⟨w.heap.size, 2, none⟩ = some (.int .i64 (F : Int)) by simp)
  have HO := hide ((HOWN.out.alloc (.cells #[.int .i64 0, .int .i64 (M : Int), .int .i64 (F : Int)] 80)).kept (below_grownBy hb1) (Classical.em _))
  have HC1 := hide (show ∀ j (hj : j < b.length), w1.cell? ⟨g0, j, none⟩ = some (.int .u8 ((b.getD j 0).toNat : Int)) from fun j hj => by
    rw [hb1.cell (p := ⟨g0, j, none⟩) (by simp; omega)]
    exact (((Below.refl w.heap.size w).alloc (Nat.le_refl _) _).cell (p := ⟨g0, j, none⟩) hg0.2).trans (HCELL.out j hj))
  have B1 := hide (((Below.refl base w).alloc HB.out (.cells #[.int .i64 0, .int .i64 (M : Int), .int .i64 (F : Int)] 80)).trans (hb1.mono (by have := HB.out; simp; omega)))
  obtain ⟨z, hz⟩ : ∃ z, z = w.heap.size := ⟨_, rfl⟩
  have hzlt : z < w1.heap.size := by simp at hsz; omega
  have hgz : g0 < z := by have := hg0.2; omega
  have hbz : base ≤ z := by have := HB.out; omega
  rw [← hz] at c1 c2 ⊢
  have C2 := hide c2
  have hg0b := hg0.1
  have K1 := hide (show (∀ k, k < z → k ≠ g0 → w1.heap[k]? = w.heap[k]?) ∧ ∀ k, (Value.slice (some ⟨g0, 0, none⟩) b.length bcap).ownBlock = some k → k = g0 ∨ z ≤ k from ⟨fun k hk _ => (hb1.block k (by simp; omega)).trans (Below.heap_alloc _ _ k (by omega)), fun k hk => .inl (by simpa [Value.ownBlock] using hk.symm)⟩)
  have HZZ := hide hz
  clear hb1 SM HOWN HCELL hsz hz hg0 HB
  go_wp2_with fail
  clear c1 c2
  go_loopw [0, 34] (fun bv i wx => ∃ c : Nat, c ≤ M ∧ i = .int .i64 (c : Int) ∧ wx.ownsRow base 5 1 bv (b.length + c) ((copyN F c b).map byteV) ∧ Hid (∀ j (hj : j < b.length), wx.cell? ⟨g0, j, none⟩ = some (.int .u8 ((b.getD j 0).toNat : Int))) ∧ bv.ownBlock ≠ some z ∧ z < wx.heap.size ∧ wx.cell? ⟨z, 2, none⟩ = some (.int .i64 (F : Int)) ∧ Hid (Below base w wx) ∧ Hid ((∀ k, k < z → k ≠ g0 → wx.heap[k]? = w.heap[k]?) ∧ ∀ k, bv.ownBlock = some k → k = g0 ∨ z ≤ k)) (fun _ i _ => M - (intOf i).toNat)
  case atStart => exact ⟨0, by omega, rfl, HO.out, HC1, by simp [Value.ownBlock]; omega, hzlt, C2.out, B1, K1⟩
  case round =>
    clear HO HC1 hzlt C2 B1 K1
    obtain ⟨c, hc, rfl, hown, HC, hzn, hzlt, c2, hbl, hkk⟩ := hrel
    by_cases hcM : c < M
    · have hcM' : (c : Int) < (M : Int) := by omega
      obtain ⟨n, hn⟩ : ∃ n, n = b.length + c := ⟨_, rfl⟩
      have hnb : (n : Int) ≤ 20132 := by omega
      rw [← hn] at hown
      obtain ⟨go, ocap, hv, hoc⟩ : ∃ go cap, u0 = .slice (some ⟨go, 0, none⟩) n cap ∧ n ≤ cap := by
        obtain ⟨_, ⟨_, e0⟩ | ⟨g, cap, cur, e, _, _, h, _⟩⟩ := hown
        · omega
        · exact ⟨g, cap, e, h⟩
      subst hv
      have hlc : (copyN F c b).length = n := by rw [copyN_len, hn]
      obtain ⟨q, hq⟩ : ∃ q, q = c % F := ⟨_, rfl⟩
      have hqF : q < F := by rw [hq]; exact Nat.mod_lt _ (by omega)
      have e1 : (c : Int) % (F : Int) = (q : Int) := by omega
      have e1t : Int.tmod (c : Int) (F : Int) = (q : Int) := by rw [Int.tmod_eq_emod_of_nonneg (by omega)]; exact e1
      have hF0 : (F : Int) ≠ 0 := by omega
      have hqF' : (q : Int) < (F : Int) := by omega
      obtain ⟨y, hy⟩ : ∃ y, y = b.getD (p + q) 0 := ⟨_, rfl⟩
      have hcell : wr.cell? ⟨g0, p + q, none⟩ = some (.int .u8 (y.toNat : Int)) := by
        rw [hy]; exact HC.out _ (by omega)
      have HCP := hide (show copyN F (c + 1) b = copyN F c b ++ [y] by
        rw [copyN_more, hlc, hy, hn, show b.length + c - F = b.length - F + c by omega, HCAT.out c c (by omega), ← HPB.out, ← hq])
      have hy8 := y.toNat_lt
      have hwsr := hbl.out.size
      have HN := hide hn
      clear hlc hy hn hq
      go_wp2_with (at_builtin; refine wpList_append_old _ rfl _ _ 22 rfl base 5 i0 (.int .u8 0) 1 Tryz.underlying22 hi hz0 hz1 hz2 rfl go ocap n _ rfl (hown.alloc _) ⟨wr.heap.size, 0, none⟩ 1 (.int .u8 (y.toNat : Int)) rfl (one_cell wr _ _ 0 _ rfl) rfl (by unfold maxLen; omega) (by omega) (by simp; omega) (wr.heap.size + 1) (by simp) ?_)
      intro g' cap' w9 hown' hg' hat' _ hold
      have R1 : w9.ownsRow base 5 1 (.slice (some ⟨g', 0, none⟩) (n + 1) cap') (b.length + (c + 1)) ((copyN F (c + 1) b).map byteV) := by
        rw [HCP.out, List.map_append, show b.length + (c + 1) = n + 1 by have := HN.out; omega]; exact hown'
      have R2 := hide ((hbl.out.alloc (by omega) _).grown hg' (by simp; omega) (fun x hx => by cases hx; exact (hown.lt go rfl).1))
      have hgoz : go ≠ z := fun e => hzn (by simp [Value.ownBlock, e])
      have R3 : (Value.slice (some ⟨g', 0, none⟩) (n + 1) cap').ownBlock ≠ some z := by
        intro e
        have e1 : g' = z := by simpa [Value.ownBlock] using e
        rcases hat' with h | h
        · exact hgoz (by rw [h, e1])
        · omega
      have R4 : w9.cell? ⟨z, 2, none⟩ = some (.int .i64 (F : Int)) := by
        refine hg'.cell (a := ⟨z, 2, none⟩) ?_ (fun e => hgoz (by simpa using e.symm))
        exact (((Below.refl wr.heap.size wr).alloc (Nat.le_refl _) _).cell (p := ⟨z, 2, none⟩) hzlt).trans c2
      have R5 : z < w9.heap.size := by have := hg'.size; simp at this; omega
      have R6 := hide (show ∀ j (hj : j < b.length), w9.cell? ⟨g0, j, none⟩ = some (.int .u8 ((b.getD j 0).toNat : Int)) from fun j hj => by
        have h1 : (wr.alloc (.cells #[.int .u8 (y.toNat : Int)] 5)).cell? ⟨g0, j, none⟩ = some (.int .u8 ((b.getD j 0).toNat : Int)) := (((Below.refl wr.heap.size wr).alloc (Nat.le_refl _) _).cell (p := ⟨g0, j, none⟩) (show g0 < wr.heap.size by omega)).trans (HC.out j hj)
        by_cases e : go = g0
        · subst e
          exact (hold j (by have := HN.out; omega)).trans h1
        · exact hg'.cell (a := ⟨g0, j, none⟩) h1 (fun e2 => e (by simpa using e2.symm)))
      have R7 := hide (show (∀ k, k < z → k ≠ g0 → w9.heap[k]? = w.heap[k]?) ∧ ∀ k, (Value.slice (some ⟨g', 0, none⟩) (n + 1) cap').ownBlock = some k → k = g0 ∨ z ≤ k from by
        have hgo := hkk.out.2 go rfl
        refine ⟨fun k hk hne => (hg'.block k (by simp; omega) (fun e => ?_)).trans ((Below.heap_alloc _ _ k (by omega)).trans (hkk.out.1 k hk hne)), fun k hk => ?_⟩
        · cases e
          rcases hgo with h | h
          · exact hne h
          · omega
        · obtain rfl : g' = k := by simpa [Value.ownBlock] using hk
          rcases hat' with h | h
          · rw [← h]; exact hgo
          · exact .inr (by omega))
      clear hown' hg' hat' hown hbl hkk hcell HCP c2 hzn hzlt hold HC
      go_wp2_with fail
      go_roundw
      case rel => exact ⟨c + 1, by omega, by go_num, R1, R6, R3, R5, R4, R2, R7⟩
      case measure => simp [intOf]; omega
    · have hcM' : ¬ (c : Int) < (M : Int) := by omega
      have ecM : c = M := by omega
      have HO := hide (show wr.ownsRow base 5 1 u0 (copyN F M b).length ((copyN F M b).map byteV) by
        rw [copyN_len, ← ecM]; exact hown)
      clear hown ecM c2 HC
      go_wp2_with fail
      go_ret2
      exact ⟨_, rfl, HO.out, hbl.out, ⟨fun k hk hne => hkk.out.1 k (by rw [HZZ.out]; exact hk) (fun e => hne (by rw [e]; rfl)), fun k hk => by
        rcases hkk.out.2 k hk with h | h
        · exact .inl (by rw [h]; rfl)
        · exact .inr (by rw [← HZZ.out]; exact h)⟩⟩
theorem imp_grown_match (v : Value) (b : List UInt8) (base M F : Nat) (w : World) (hbase : base ≤ w.heap.size) (hown : w.ownsRow base 5 1 v b.length (b.map byteV)) (hlen : b.length ≤ 20000) (hM3 : 3 ≤ M) (hM : M ≤ 66) (hF1 : 1 ≤ F) (hF : F ≤ 1024) (hFb : F ≤ b.length) :
    Calls Tryz.prog 147 #[v, .agg #[.int .i64 0, .int .i64 (M : Int), .int .i64 (F : Int)]] w fun e w' => ∃ v', e = .returned (.tuple #[v', .bool true]) ∧ w'.ownsRow base 5 1 v' (copyN F M b).length ((copyN F M b).map byteV) ∧ Below base w w' :=
  (imp_grown_matchK v b base M F w hbase hown hlen hM3 hM hF1 hF hFb).mono fun _ _ ⟨v', h1, h2, h3, _⟩ => ⟨v', h1, h2, h3⟩
end Go.Proofs.YtconcnndghmdfaaGreatDoor
