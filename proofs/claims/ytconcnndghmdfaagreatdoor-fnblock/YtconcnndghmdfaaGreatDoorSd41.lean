/- Put together: TokD, UnpG, ByteI, ImpGrow. -/
import Derived.Test.YtconcnndghmdfaaGreatDoorSd40
namespace Go.Proofs.YtconcnndghmdfaaGreatDoor
open Go Go.RowKit Go.Shelf
attribute [local go_sem] Oper.semAt_some
theorem imp_tokens (g size : Nat) (w : World) :
 Calls Tryz.prog 146 #[.pointer (some ⟨g, 0, none⟩), .int .i64 (size : Int)] w fun e w' => e = .returned (.func (.func 155) #[] #[.pointer (some ⟨w.heap.size + 1, 0, none⟩), .pointer (some ⟨w.heap.size, 0, none⟩)]) ∧ w' = (w.alloc (.cells #[.pointer (some ⟨g, 0, none⟩)] 179)).alloc (.cells #[.int .i64 (size : Int)] 3) := by
 go_enter Tryz.func146, Tryz.ntmps146
 go_wp2_with fail
 go_ret
 exact ⟨rfl, rfl⟩
set_option maxRecDepth 100000 in
set_option maxHeartbeats 3200000 in
theorem dtoks1_in (n l Bs Bd g size : Nat) (hn : 1 ≤ n) (t : ByteArray) (h4 : size ≤ 4000) (hts : t.size ≤ 9223372036854775807) (st0 : RC × Nat) (hok0 : DecOk st0 0) (J Jx : (Nat → Prop) → List Tok → World → Prop) (hJ : StandsM J)
 (hY : ∀ M pre x W1, J M pre W1 → (pre ++ [x]) <+: dtoks (tbN t) size size st0 0 → YieldAt Fence.wide (n - 1) Tryz.prog l #[tokV x] W1 fun e W' =>
   (e = .returned (.bool true) ∧ J M (pre ++ [x]) W' ∧ KeptM M W1 W') ∨ (e = .returned (.bool false) ∧ Jx M (pre ++ [x]) W'))
 (W : World) (hBs : W.heap[Bs]? = some (.cells #[.int .i64 (size : Int)] 3)) (hBd : W.heap[Bd]? = some (.cells #[.pointer (some ⟨g, 0, none⟩)] 179)) (hD : DecP W g t st0.1 st0.2) (hgs : g ≠ Bs) (hgd : g ≠ Bd) (h0 : J (fun k => k = Bs ∨ k = Bd ∨ k = g) [] W) :
 CallsIn Fence.wide n Tryz.prog 155 #[.func (.yield l) #[] #[], .pointer (some ⟨Bs, 0, none⟩), .pointer (some ⟨Bd, 0, none⟩)] W fun e W' => (∃ v, e = .returned v) ∧
  ((∃ M xs, xs = dtoks (tbN t) size size st0 0 ∧ J M xs W') ∨ (∃ M pre, pre <+: dtoks (tbN t) size size st0 0 ∧ Jx M pre W')) := by
 have h4' : (size : Int) ≤ 4000 := by omega
 obtain ⟨T, hT⟩ : ∃ T, T = dtoks (tbN t) size size st0 0 := ⟨_, rfl⟩
 rw [← hT] at hY ⊢
 have HT := hide hT
 have j0 := hide h0
 have d0 := hide hD
 have b0 := hide (And.intro hBs hBd)
 have k0 := hide hok0
 have l0 := hide (show ∀ k, (k = Bs ∨ k = Bd ∨ k = g) → k < W.heap.size from fun k hk => by
  have h1 := (Array.getElem?_eq_some_iff.1 hBs).1
  have h2 := (Array.getElem?_eq_some_iff.1 hBd).1
  have h3 := hD.lt
  rcases hk with h | h | h <;> omega)
 have HY := hide hY
 have HJ := hide hJ
 clear h0 hD hBs hBd hok0 hY hJ hT
 refine callsIn_of_wp Tryz.func155 rfl trivial ?_ rfl
 simp only [Tryz.ntmps155, List.size_toArray, List.length_cons, List.length_nil, Nat.reduceAdd, Nat.reduceSub, Array.replicate_succ, Array.replicate_zero, List.push_toArray, List.append_toArray, List.nil_append, List.cons_append]
 gi_wp2_with fail
 gi_loopw [4] (fun i wx => ∃ (made k : Nat) (st : RC × Nat) (l : List Tok) (M : Nat → Prop), i = .int .i64 made ∧ made ≤ 4066 ∧ size ≤ made + k ∧ Hid (l ++ dtoks (tbN t) size k st made = T) ∧ Hid (J M l wx) ∧ Hid (∃ m, DecOk st m) ∧ Hid (DecP wx g t st.1 st.2) ∧ Hid (M Bs ∧ M Bd ∧ M g) ∧ Hid (wx.heap[Bs]? = some (.cells #[.int .i64 (size : Int)] 3) ∧ wx.heap[Bd]? = some (.cells #[.pointer (some ⟨g, 0, none⟩)] 179)) ∧ Hid (∀ k, M k → k < wx.heap.size)) (fun i _ => size - (intOf i).toNat)
 case atStart => exact ⟨0, size, st0, [], _, rfl, by omega, by omega, HT.out.symm, j0, ⟨0, k0.out⟩, d0, ⟨.inl rfl, .inr (.inl rfl), .inr (.inr rfl)⟩, b0, l0⟩
 case round =>
  clear j0 d0 b0 k0 l0
  obtain ⟨made, k, st, l2, M, rfl, hm66, hsk, hpl, j1, j2, j3, j4, j5, j6⟩ := hrel
  have cS : wr.cell? ⟨Bs, 0, none⟩ = some (.int .i64 (size : Int)) := by simp [World.cell?, j5.out.1]
  have cD : wr.cell? ⟨Bd, 0, none⟩ = some (.pointer (some ⟨g, 0, none⟩)) := by simp [World.cell?, j5.out.2]
  by_cases hlt : made < size
  · have hlt' : (made : Int) < (size : Int) := by omega
    obtain ⟨k', rfl⟩ : ∃ k', k = k' + 1 := ⟨k - 1, by omega⟩
    obtain ⟨mm, hok⟩ := j2.out
    have ST := hide (imp_getToken g mm t st wr hok hts j3.out)
    have HK2 := hide (dtok_ok (tbN t) st mm hok)
    have hts2 := tsz_pos (tbN t) st
    have HDT := hide (show dtoks (tbN t) size (k' + 1) st made = (dtok (tbN t) st).1 :: dtoks (tbN t) size k' (dtok (tbN t) st).2 (made + tsz (dtok (tbN t) st).1) from if_pos hlt)
    obtain ⟨⟨⟨tb, tm, tf⟩, st2⟩, hTK⟩ : ∃ TK, TK = dtok (tbN t) st := ⟨_, rfl⟩
    rw [← hTK] at ST HK2 hts2 HDT
    simp only at ST HK2 hts2 HDT
    obtain ⟨sN, hsN⟩ : ∃ sN, sN = tsz ⟨tb, tm, tf⟩ := ⟨_, rfl⟩
    rw [← hsN] at hts2 HDT
    have hsz : tokSize tm = (sN : Int) := by
     have h1 : (tokSize tm).toNat = sN := hsN.symm
     omega
    have HPN := hide (show (l2 ++ [(⟨tb, tm, tf⟩ : Tok)]) ++ dtoks (tbN t) size k' st2 (made + sN) = T by
     rw [← hpl.out, HDT.out, List.append_assoc]; rfl)
    have SS := hide (show ∀ u : World, Calls Tryz.prog 84 #[.agg #[.int .i64 tb, .int .i64 tm, .int .i64 tf]] u (fun e w' => e = .returned (.int .i64 (sN : Int)) ∧ Below u.heap.size u w') from fun u => by
     have h := imp_size tb tm tf u
     rw [hsz] at h
     exact h)
    have hgl := j3.out.lt
    obtain ⟨hs1, hs66⟩ := hts2
    clear hTK hsN hsz hpl HDT hok j2
    gi_wp2_with fail
    refine ⟨trivial, (callsIn_wide.2 ST.out).mono ?_⟩
    rintro e w1 ⟨rfl, hd1, hg1⟩
    simp only [tokV]
    obtain ⟨K, hK⟩ : ∃ K, K = w1.heap.size := ⟨_, rfl⟩
    have hk1 := hg1.size
    obtain ⟨m0, m1, m2⟩ := j4.out
    have hBsl := j6.out Bs m0
    have hBdl := j6.out Bd m1
    have mv : Moves M wr (w1.alloc (.cells #[.int .i64 tb, .int .i64 tm, .int .i64 tf] 80)) := ⟨hg1.os, hg1.tape, hg1.output, by simp; omega, fun k hk hm => (Below.heap_alloc _ _ k (by omega)).trans (hg1.block k hk (fun e => by cases e; exact hm m2))⟩
    have z2 : (w1.alloc (.cells #[.int .i64 tb, .int .i64 tm, .int .i64 tf] 80)).heap.size = K + 1 := by simp [hK]
    have q2 : (w1.alloc (.cells #[.int .i64 tb, .int .i64 tm, .int .i64 tf] 80)).heap[K]? = some (.cells #[.int .i64 tb, .int .i64 tm, .int .i64 tf] 80) := by rw [hK]; exact World.alloc_heap_new w1 _
    have d2 : DecP (w1.alloc (.cells #[.int .i64 tb, .int .i64 tm, .int .i64 tf] 80)) g t st2.1 st2.2 := hd1.kept (Below.heap_alloc _ _ _ hd1.lt)
    have bs2 : (w1.alloc (.cells #[.int .i64 tb, .int .i64 tm, .int .i64 tf] 80)).heap[Bs]? = some (.cells #[.int .i64 (size : Int)] 3) := (Below.heap_alloc _ _ _ (by omega)).trans ((hg1.block Bs hBsl (fun e => hgs (by cases e; rfl))).trans j5.out.1)
    have bd2 : (w1.alloc (.cells #[.int .i64 tb, .int .i64 tm, .int .i64 tf] 80)).heap[Bd]? = some (.cells #[.pointer (some ⟨g, 0, none⟩)] 179) := (Below.heap_alloc _ _ _ (by omega)).trans ((hg1.block Bd hBdl (fun e => hgd (by cases e; rfl))).trans j5.out.2)
    obtain ⟨M2, hM2⟩ : ∃ M2 : Nat → Prop, ∀ g, M2 g ↔ (M g ∨ wr.heap.size ≤ g ∧ g < K + 1) := ⟨fun g => M g ∨ wr.heap.size ≤ g ∧ g < K + 1, fun g => Iff.rfl⟩
    have jj2 := HJ.out _ M2 _ _ _ j1.out mv (fun g hg => by rcases (hM2 g).1 hg with h | h; exact .inl h; exact .inr ⟨h.1, by omega⟩)
    obtain ⟨fn, tmps, assign, body, hy, hR⟩ := HY.out M2 l2 ⟨tb, tm, tf⟩ _ jj2 ⟨_, HPN.out⟩
    simp only [tokV] at hy
    have HR := hide hR
    have HT9 := hide (And.intro z2 (And.intro q2 (And.intro hM2 (And.intro hK (And.intro d2 (And.intro bs2 bd2))))))
    clear hR z2 q2 hM2 hK hg1 hd1 ST jj2 mv d2 bs2 bd2
    gi_wp2_with fail
    refine HR.out.mono ?_
    obtain ⟨z2, q2, hM2, hK, d2, bs2, bd2⟩ := HT9.out
    generalize (w1.alloc (.cells #[.int .i64 tb, .int .i64 tm, .int .i64 tf] 80)) = W2 at *
    rw [← hK]
    have HK := hide hK
    have n0 : ∀ g, M g → M2 g := fun g h => (hM2 g).2 (.inl h)
    have nK : M2 K := (hM2 K).2 (.inr (by omega))
    have hw2 : wr.heap.size ≤ W2.heap.size := by omega
    have l2z : ∀ g, M2 g → g < W2.heap.size := fun g hg => by rcases (hM2 g).1 hg with h | h; exact Nat.lt_of_lt_of_le (j6.out g h) (by omega); omega
    clear hK hy HR HT9
    rintro e W3 (⟨rfl, hJ3, hk3⟩ | ⟨rfl, hJx3⟩)
    · have q3 : W3.heap[K]? = some (.cells #[.int .i64 tb, .int .i64 tm, .int .i64 tf] 80) := (hk3.block K (by omega) nK).trans q2
      have k0 : W3.cell? ⟨K, 0, none⟩ = some (.int .i64 tb) := by simp [World.cell?, q3]
      have k1 : W3.cell? ⟨K, 1, none⟩ = some (.int .i64 tm) := by simp [World.cell?, q3]
      have k2 : W3.cell? ⟨K, 2, none⟩ = some (.int .i64 tf) := by simp [World.cell?, q3]
      have hs3 := hk3.size
      have d3 := hide (d2.kept (hk3.block _ (l2z _ (n0 _ m2)) (n0 _ m2)))
      have bs3 := hide ((hk3.block Bs (l2z _ (n0 _ m0)) (n0 _ m0)).trans bs2)
      have bd3 := hide ((hk3.block Bd (l2z _ (n0 _ m1)) (n0 _ m1)).trans bd2)
      have J3 := hide hJ3
      have HN0 := hide n0
      have HL2 := hide l2z
      have hM0 := hide (And.intro m0 (And.intro m1 m2))
      clear hk3 hJ3 q3 q2 hM2 n0 l2z d2 bs2 bd2 z2 nK
      gi_wp2_with fail
      refine ⟨trivial, (callsIn_wide.2 (SS.out _)).mono ?_⟩
      rintro e w6 ⟨rfl, hb6⟩
      have hs6 := hb6.size
      obtain ⟨M6, hM6⟩ : ∃ M6 : Nat → Prop, ∀ g, M6 g ↔ (M2 g ∨ W3.heap.size ≤ g ∧ g < w6.heap.size) := ⟨fun g => M2 g ∨ W3.heap.size ≤ g ∧ g < w6.heap.size, fun g => Iff.rfl⟩
      have n6 : ∀ g, M g → M6 g := fun g h => (hM6 g).2 (.inl (HN0.out g h))
      have J6 := hide (HJ.out M2 M6 _ _ _ J3.out (Moves.below hb6) (fun g hg => by rcases (hM6 g).1 hg with h | h; exact .inl h; exact .inr h))
      have D6 := hide (show DecP w6 g t st2.1 st2.2 from d3.out.kept (hb6.block _ d3.out.lt))
      have B6 := hide (show w6.heap[Bs]? = some (.cells #[.int .i64 (size : Int)] 3) ∧ w6.heap[Bd]? = some (.cells #[.pointer (some ⟨g, 0, none⟩)] 179) from ⟨(hb6.block Bs (by omega)).trans bs3.out, (hb6.block Bd (by omega)).trans bd3.out⟩)
      have ML6 := hide (show ∀ g, M6 g → g < w6.heap.size from fun g hg => by rcases (hM6 g).1 hg with h | h; exact Nat.lt_of_lt_of_le (HL2.out g h) (by omega); exact h.2)
      have N6 := hide (And.intro (n6 _ hM0.out.1) (And.intro (n6 _ hM0.out.2.1) (n6 _ hM0.out.2.2)))
      obtain ⟨q, hq⟩ : ∃ q, q = made + sN := ⟨_, rfl⟩
      have s1 : (made : Int) + (sN : Int) = (q : Int) := by omega
      have s1w : IntKind.i64.wrap ((made : Int) + (sN : Int)) = (q : Int) := by simp only [IntKind.wrap_i64]; omega
      have hq4 : (q : Int) ≤ 4066 := by omega
      have hqm : made < q := by omega
      have hqk : size ≤ q + k' := by omega
      rw [← hq] at HPN
      clear hq hM6 n6 hb6 SS d3 bs3 bd3 J3 k0 k1 k2
      gi_wp2_with fail
      go_roundw
      case rel => exact ⟨q, k', st2, l2 ++ [(⟨tb, tm, tf⟩ : Tok)], M6, rfl, by omega, hqk, HPN, J6, ⟨_, HK2.out⟩, D6, N6, B6, ML6⟩
      case measure => simp [intOf]; omega
    · have HX := hide hJx3
      have HPX := hide (show (l2 ++ [(⟨tb, tm, tf⟩ : Tok)]) <+: T from ⟨_, HPN.out⟩)
      clear hJx3
      gi_wp2_with fail
      refine bodyPost_ret (results_none rfl _ _ _) rfl ?_
      exact ⟨⟨_, rfl⟩, .inr ⟨M2, _, HPX.out, HX.out⟩⟩
  · have hlt' : ¬ (made : Int) < (size : Int) := by omega
    have R := hide (show l2 = T by
     rw [← hpl.out]
     cases k with
     | zero => exact (List.append_nil _).symm
     | succ k => rw [show dtoks (tbN t) size (k + 1) st made = [] from if_neg hlt, List.append_nil])
    clear hpl
    gi_wp2_with fail
    go_end0
    exact ⟨⟨_, rfl⟩, .inl ⟨M, by rw [← R.out]; exact j1.out⟩⟩
theorem dtoks_seq (n Bs Bd g size : Nat) (hn : 1 ≤ n) (t : ByteArray) (h4 : size ≤ 4000) (hts : t.size ≤ 9223372036854775807) (st0 : RC × Nat) (hok0 : DecOk st0 0) (w : World) (hBs : w.heap[Bs]? = some (.cells #[.int .i64 (size : Int)] 3)) (hBd : w.heap[Bd]? = some (.cells #[.pointer (some ⟨g, 0, none⟩)] 179)) (hD : DecP w g t st0.1 st0.2) (hgs : g ≠ Bs) (hgd : g ≠ Bd) :
 SeqM Fence.wide n Tryz.prog 155 #[.pointer (some ⟨Bs, 0, none⟩), .pointer (some ⟨Bd, 0, none⟩)] (fun x => #[tokV x]) (fun k => k = Bs ∨ k = Bd ∨ k = g) (fun xs => xs = dtoks (tbN t) size size st0 0) (fun pre => pre <+: dtoks (tbN t) size size st0 0) (fun pre x => (pre ++ [x]) <+: dtoks (tbN t) size size st0 0) w :=
 fun l J Jx W hW hJ _ hY h0 => dtoks1_in n l Bs Bd g size hn t h4 hts st0 hok0 J Jx hJ hY W ((hW.block Bs (Array.getElem?_eq_some_iff.1 hBs).1 (.inl rfl)).trans hBs) ((hW.block Bd (Array.getElem?_eq_some_iff.1 hBd).1 (.inr (.inl rfl))).trans hBd) (hD.kept (hW.block g hD.lt (.inr (.inr rfl)))) hgs hgd h0
end Go.Proofs.YtconcnndghmdfaaGreatDoor
namespace Go.Proofs.YtconcnndghmdfaaGreatDoor
theorem dt_step (tb : Nat → Nat) (size : Nat) : ∀ (pre : List Tok) (k : Nat) (st : RC × Nat) (b c : List UInt8) (x : Tok) (rest : List Tok), pre ++ x :: rest = dtoks tb size k st b.length → growL pre b = some c → c.length < size ∧ ∃ st', x = (dtok tb st').1
 | [], k, st, b, c, x, rest, h, hg => by
   have e : b = c := Option.some.inj hg
   cases k with
   | zero => cases h
   | succ k =>
     unfold dtoks at h
     split at h
     · rename_i hlt
       rw [← e]
       exact ⟨hlt, st, (List.cons.inj h).1⟩
     · cases h
 | y :: pre, k, st, b, c, x, rest, h, hg => by
   cases k with
   | zero => cases h
   | succ k =>
     unfold dtoks at h
     split at h
     · obtain ⟨h1, h2⟩ := List.cons.inj h
       have hg' : (growT y b).bind (growL pre) = some c := hg
       cases hy : growT y b with
       | none => rw [hy] at hg'; cases hg'
       | some d =>
         rw [hy] at hg'
         rw [h1] at hy
         have hl := growT_len tb st b d hy
         rw [← hl] at h2
         exact dt_step tb size pre k _ d c x rest h2 hg'
     · cases h
theorem growL_snoc (l : List Tok) (x : Tok) (b : List UInt8) : growL (l ++ [x]) b = (growL l b).bind (growT x) := by
 rw [growL_app]
 cases growL l b with
 | none => rfl
 | some c =>
   show (growT x c).bind some = growT x c
   cases growT x c <;> rfl
theorem growL_stop (l k : List Tok) (b : List UInt8) (h : l <+: k) (hn : growL l b = none) : growL k b = none := by
 obtain ⟨r, rfl⟩ := h
 rw [growL_app, hn]; rfl
end Go.Proofs.YtconcnndghmdfaaGreatDoor
namespace Go.Proofs.YtconcnndghmdfaaGreatDoor
open Go.RowKit
theorem Tryz.infoB8m : (Tryz.prog.info? 5).map (fun i => (i.zero, i.size, i.bytes)) = some (some (.int .u8 0), 1, 1) := by kernel_rfl
theorem copyN_at (F : Nat) (b : List UInt8) (h1 : 1 ≤ F) (h2 : F ≤ b.length) : ∀ c j, j < F + c → (copyN F c b).getD (b.length - F + j) 0 = b.getD (b.length - F + j % F) 0
 | 0, j, hj => by
   show b.getD _ 0 = _
   rw [Nat.mod_eq_of_lt (by omega)]
 | c + 1, j, hj => by
   have hl := copyN_len F c b
   rw [copyN_more]
   by_cases hlt : j < F + c
   · rw [← copyN_at F b h1 h2 c j hlt, List.getD_eq_getElem?_getD, List.getElem?_append_left (by omega), ← List.getD_eq_getElem?_getD]
   · have e : j = F + c := by omega
     subst e
     have e1 : b.length - F + (F + c) = (copyN F c b).length := by omega
     rw [e1, List.getD_eq_getElem?_getD, List.getElem?_append_right (Nat.le_refl _), Nat.sub_self]
     show (copyN F c b).getD ((copyN F c b).length - F) 0 = _
     have e2 : (copyN F c b).length - F = b.length - F + c := by omega
     rw [e2, copyN_at F b h1 h2 c c (by omega), Nat.add_mod_left]
structure OffV (v v' : Value) (w w' : World) : Prop where
 same : ∀ k, k < w.heap.size → v.ownBlock ≠ some k → w'.heap[k]? = w.heap[k]?
 lies : ∀ k, v'.ownBlock = some k → v.ownBlock = some k ∨ w.heap.size ≤ k
set_option maxRecDepth 100000 in
set_option maxHeartbeats 400000 in
theorem imp_grown_byteK (v : Value) (b : List UInt8) (base y : Nat) (w : World) (hbase : base ≤ w.heap.size) (hown : w.ownsRow base 5 1 v b.length (b.map byteV)) (hlen : b.length ≤ 20000) (hy : y < 256) :
 Calls Tryz.prog 147 #[v, .agg #[.int .i64 (y : Int), .int .i64 0, .int .i64 0]] w fun e w' => ∃ v', e = .returned (.tuple #[v', .bool true]) ∧ w'.ownsRow base 5 1 v' (b ++ [UInt8.ofNat y]).length ((b ++ [UInt8.ofNat y]).map byteV) ∧ Below base w w' ∧ OffV v v' w w' := by
 obtain ⟨i0, hi, hz0, hz1, hz2⟩ := info_parts Tryz.infoB8m
 obtain ⟨ba, bcap, hbv, hbc⟩ : ∃ a cap, v = .slice a b.length cap ∧ b.length ≤ cap := by
  obtain ⟨_, ⟨e, e0⟩ | ⟨g, cap, cur, e, _, _, h, _⟩⟩ := hown
  · exact ⟨none, 0, by rw [e, e0], by omega⟩
  · exact ⟨_, cap, e, h⟩
 subst hbv
 have SM := hide (fun w => imp_isMatch (y : Int) 0 0 w)
 have hw8 : IntKind.u8.wrap (y : Int) = (y : Int) := by rw [IntKind.wrap_u8]; omega
 have HB := hide hbase
 have HOWN := hide hown
 clear hown hbase
 go_enter Tryz.func147, Tryz.ntmps147
 go_wp2_with fail
 refine (SM.out _).mono ?_
 rintro e w1 ⟨rfl, hb1⟩
 have hsz := hb1.size
 have c0 := (hb1.cell (p := ⟨w.heap.size, 0, none⟩) (by simp)).trans (show (w.alloc (.cells #[.int .i64 (y : Int), .int .i64 0, .int .i64 0] 80)).cell? ⟨w.heap.size, 0, none⟩ = some (.int .i64 (y : Int)) by simp)
 have HO := hide ((HOWN.out.alloc (.cells #[.int .i64 (y : Int), .int .i64 0, .int .i64 0] 80)).kept (below_grownBy hb1) (Classical.em _))
 have B1 := hide (((Below.refl base w).alloc HB.out (.cells #[.int .i64 (y : Int), .int .i64 0, .int .i64 0] 80)).trans (hb1.mono (by have := HB.out; simp; omega)))
 have hbs := B1.out.size
 have hm0 : ((0 : Int) != 0) = false := rfl
 have K1 := hide (show ∀ k, k < w.heap.size → w1.heap[k]? = w.heap[k]? from fun k hk => (hb1.block k (by simp; omega)).trans (Below.heap_alloc _ _ k hk))
 clear hb1 HOWN SM
 go_wp2_with (at_builtin; refine wpList_append_lies _ rfl _ _ 22 rfl base 5 i0 (.int .u8 0) 1 1 Tryz.underlying22 hi hz0 hz1 hz2 rfl (by omega) (.slice ba b.length bcap) b.length (b.map byteV) rfl (HO.out.alloc _) ⟨w1.heap.size, 0, none⟩ 1 1 [.int .u8 (y : Int)] rfl rfl (one_cell w1 _ _) (one_oneCell .u8 _) (by omega) (by unfold maxLen; omega) (by omega) (by simp; have := HB.out; simp at hsz; omega) (w1.heap.size + 1) (by simp) ?_)
 intro g' cap' w9 hown' hg' hat' _
 have R1 : w9.ownsRow base 5 1 (.slice (some ⟨g', 0, none⟩) (b.length + 1) cap') (b ++ [UInt8.ofNat y]).length ((b ++ [UInt8.ofNat y]).map byteV) := by
  rw [List.length_append, List.map_append]
  show w9.ownsRow base 5 1 _ (b.length + 1) (b.map byteV ++ [byteV (UInt8.ofNat y)])
  rw [byteV, ofNat_byte y hy]; exact hown'
 have hb1s : base ≤ w1.heap.size := by have := HB.out; simp at hsz; omega
 have R2 := hide ((B1.out.alloc hb1s _).grown hg' (by simp; omega) (fun x hx => (HO.out.lt x hx).1))
 have RR := hide R1
 have R3 := hide (show OffV (.slice ba b.length bcap) (.slice (some ⟨g', 0, none⟩) (b.length + 1) cap') w w9 from ⟨fun k hk hne => (hg'.block k (by simp at hsz; simp; omega) (fun e => hne e.symm)).trans ((Below.heap_alloc _ _ k (by simp at hsz; omega)).trans (K1.out k hk)), fun k hk => by
  obtain rfl : g' = k := by simpa [Value.ownBlock] using hk
  rcases hat' with h | h
  · exact .inl h
  · simp at hsz; exact .inr (by omega)⟩)
 clear hown' hg' hat' HO B1 c0 R1 K1
 go_wp2_with fail
 go_ret2
 exact ⟨_, rfl, RR.out, R2.out, R3.out⟩
set_option maxRecDepth 100000 in
set_option maxHeartbeats 1600000 in
theorem imp_grown_noK (v : Value) (b : List UInt8) (base M F : Nat) (w : World) (hown : w.ownsRow base 5 1 v b.length (b.map byteV)) (hlen : b.length ≤ 20000) (hM3 : 3 ≤ M) (hM : M ≤ 66) (hF : F ≤ 1024) (hFb : b.length < F) :
 Calls Tryz.prog 147 #[v, .agg #[.int .i64 0, .int .i64 (M : Int), .int .i64 (F : Int)]] w fun e w' => e = .returned (.tuple #[.slice none 0 0, .bool false]) ∧ Below w.heap.size w w' := by
 obtain ⟨ba, bcap, hbv, hbc⟩ : ∃ a cap, v = .slice a b.length cap ∧ b.length ≤ cap := by
  obtain ⟨_, ⟨e, e0⟩ | ⟨g, cap, cur, e, _, _, h, _⟩⟩ := hown
  · exact ⟨none, 0, by rw [e, e0], by omega⟩
  · exact ⟨_, cap, e, h⟩
 subst hbv
 have SM := hide (fun w => imp_isMatch 0 (M : Int) (F : Int) w)
 have hm0 : ((M : Int) != 0) = true := by simp; omega
 rw [hm0] at SM
 have hneg : (b.length : Int) - (F : Int) < 0 := by omega
 have hnw : IntKind.i64.wrap ((b.length : Int) - (F : Int)) = (b.length : Int) - (F : Int) := by simp only [IntKind.wrap_i64]; omega
 clear hown hm0
 go_enter Tryz.func147, Tryz.ntmps147
 go_wp2_with fail
 refine (SM.out _).mono ?_
 rintro e w1 ⟨rfl, hb1⟩
 have c2 := (hb1.cell (p := ⟨w.heap.size, 2, none⟩) (by simp)).trans (show (w.alloc (.cells #[.int .i64 0, .int .i64 (M : Int), .int .i64 (F : Int)] 80)).cell? ⟨w.heap.size, 2, none⟩ = some (.int .i64 (F : Int)) by simp)
 have B1 := hide (((Below.refl w.heap.size w).alloc (Nat.le_refl _) (.cells #[.int .i64 0, .int .i64 (M : Int), .int .i64 (F : Int)] 80)).trans (hb1.mono (by simp)))
 clear hb1 SM
 go_wp2_with fail
 go_ret2
 exact ⟨rfl, B1.out⟩
set_option maxRecDepth 100000 in
set_option maxHeartbeats 1600000 in
theorem imp_grown_matchK (v : Value) (b : List UInt8) (base M F : Nat) (w : World) (hbase : base ≤ w.heap.size) (hown : w.ownsRow base 5 1 v b.length (b.map byteV)) (hlen : b.length ≤ 20000) (hM3 : 3 ≤ M) (hM : M ≤ 66) (hF1 : 1 ≤ F) (hF : F ≤ 1024) (hFb : F ≤ b.length) :
 Calls Tryz.prog 147 #[v, .agg #[.int .i64 0, .int .i64 (M : Int), .int .i64 (F : Int)]] w fun e w' => ∃ v', e = .returned (.tuple #[v', .bool true]) ∧ w'.ownsRow base 5 1 v' (copyN F M b).length ((copyN F M b).map byteV) ∧ Below base w w' ∧ OffV v v' w w' := by
 obtain ⟨i0, hi, hz0, hz1, hz2⟩ := info_parts Tryz.infoB8m
 obtain ⟨g0, bcap, hbv, hbc⟩ : ∃ g cap, v = .slice (some ⟨g, 0, none⟩) b.length cap ∧ b.length ≤ cap := by
  obtain ⟨_, ⟨_, e0⟩ | ⟨g, cap, cur, e, _, _, h, _⟩⟩ := hown
  · omega
  · exact ⟨_, cap, e, h⟩
 subst hbv
 have SM := hide (fun w => imp_isMatch 0 (M : Int) (F : Int) w)
 have hm0 : ((M : Int) != 0) = true := by simp; omega
 rw [hm0] at SM
 obtain ⟨p, hp⟩ : ∃ p, p = b.length - F := ⟨_, rfl⟩
 have s1 : (b.length : Int) - (F : Int) = (p : Int) := by omega
 have s1w : IntKind.i64.wrap ((b.length : Int) - (F : Int)) = (p : Int) := by simp only [IntKind.wrap_i64]; omega
 have s2 : b.length - p = F := by omega
 have hpl : (p : Int) ≤ (b.length : Int) := by omega
 have hp0 : ¬ (p : Int) < 0 := by omega
 have hl20 : (b.length : Int) ≤ 20000 := by omega
 have hblc : (b.length : Int) ≤ (bcap : Int) := by omega
 have HB := hide hbase
 have HOWN := hide hown
 have HCELL := hide (show ∀ j (hj : j < b.length), w.cell? ⟨g0, j, none⟩ = some (.int .u8 ((b.getD j 0).toNat : Int)) from fun j hj => by
  rw [hown.cellAt j (by omega), List.getElem?_map, List.getD_eq_getElem?_getD, List.getElem?_eq_getElem hj]; rfl)
 have hg0 := (hown.lt g0 rfl)
 have HCAT := hide (copyN_at F b hF1 hFb)
 have HPB := hide hp
 clear hown hbase hm0 hp
 obtain ⟨N, hN⟩ : ∃ N, N = b.length := ⟨_, rfl⟩
 go_enter Tryz.func147, Tryz.ntmps147
 go_wp2_with fail
 refine (SM.out _).mono ?_
 rintro e w1 ⟨rfl, hb1⟩
 have hsz := hb1.size
 have c1 := (hb1.cell (p := ⟨w.heap.size, 1, none⟩) (by simp)).trans (show (w.alloc (.cells #[.int .i64 0, .int .i64 (M : Int), .int .i64 (F : Int)] 80)).cell? ⟨w.heap.size, 1, none⟩ = some (.int .i64 (M : Int)) by simp)
 have c2 := (hb1.cell (p := ⟨w.heap.size, 2, none⟩) (by simp)).trans (show (w.alloc (.cells #[.int .i64 0, .int .i64 (M : Int), .int .i64 (F : Int)] 80)).cell? ⟨w.heap.size, 2, none⟩ = some (.int .i64 (F : Int)) by simp)
 have HO := hide ((HOWN.out.alloc (.cells #[.int .i64 0, .int .i64 (M : Int), .int .i64 (F : Int)] 80)).kept (below_grownBy hb1) (Classical.em _))
 have HC1 := hide (show ∀ j (hj : j < b.length), w1.cell? ⟨g0, j, none⟩ = some (.int .u8 ((b.getD j 0).toNat : Int)) from fun j hj => by
  rw [hb1.cell (p := ⟨g0, j, none⟩) (by simp; omega)]
  exact (((Below.refl w.heap.size w).alloc (Nat.le_refl _) _).cell (p := ⟨g0, j, none⟩) hg0.2).trans (HCELL.out j hj))
 have B1 := hide (((Below.refl base w).alloc HB.out (.cells #[.int .i64 0, .int .i64 (M : Int), .int .i64 (F : Int)] 80)).trans (hb1.mono (by have := HB.out; simp; omega)))
 obtain ⟨z, hz⟩ : ∃ z, z = w.heap.size := ⟨_, rfl⟩
 have hzlt : z < w1.heap.size := by simp at hsz; omega
 have hgz : g0 < z := by have := hg0.2; omega
 have hbz : base ≤ z := by have := HB.out; omega
 rw [← hz] at c1 c2 ⊢
 have C2 := hide c2
 have hg0b := hg0.1
 have K1 := hide (show (∀ k, k < z → k ≠ g0 → w1.heap[k]? = w.heap[k]?) ∧ ∀ k, (Value.slice (some ⟨g0, 0, none⟩) b.length bcap).ownBlock = some k → k = g0 ∨ z ≤ k from ⟨fun k hk _ => (hb1.block k (by simp; omega)).trans (Below.heap_alloc _ _ k (by omega)), fun k hk => .inl (by simpa [Value.ownBlock] using hk.symm)⟩)
 have HZZ := hide hz
 clear hb1 SM HOWN HCELL hsz hz hg0 HB
 go_wp2_with fail
 clear c1 c2
 go_loopw [0, 34] (fun bv i wx => ∃ c : Nat, c ≤ M ∧ i = .int .i64 (c : Int) ∧ wx.ownsRow base 5 1 bv (b.length + c) ((copyN F c b).map byteV) ∧ Hid (∀ j (hj : j < b.length), wx.cell? ⟨g0, j, none⟩ = some (.int .u8 ((b.getD j 0).toNat : Int))) ∧ bv.ownBlock ≠ some z ∧ z < wx.heap.size ∧ wx.cell? ⟨z, 2, none⟩ = some (.int .i64 (F : Int)) ∧ Hid (Below base w wx) ∧ Hid ((∀ k, k < z → k ≠ g0 → wx.heap[k]? = w.heap[k]?) ∧ ∀ k, bv.ownBlock = some k → k = g0 ∨ z ≤ k)) (fun _ i _ => M - (intOf i).toNat)
 case atStart => exact ⟨0, by omega, rfl, HO.out, HC1, by simp [Value.ownBlock]; omega, hzlt, C2.out, B1, K1⟩
 case round =>
  clear HO HC1 hzlt C2 B1 K1
  obtain ⟨c, hc, rfl, hown, HC, hzn, hzlt, c2, hbl, hkk⟩ := hrel
  by_cases hcM : c < M
  · have hcM' : (c : Int) < (M : Int) := by omega
    obtain ⟨n, hn⟩ : ∃ n, n = b.length + c := ⟨_, rfl⟩
    have hnb : (n : Int) ≤ 20132 := by omega
    rw [← hn] at hown
    obtain ⟨go, ocap, hv, hoc⟩ : ∃ go cap, u0 = .slice (some ⟨go, 0, none⟩) n cap ∧ n ≤ cap := by
     obtain ⟨_, ⟨_, e0⟩ | ⟨g, cap, cur, e, _, _, h, _⟩⟩ := hown
     · omega
     · exact ⟨g, cap, e, h⟩
    subst hv
    have hlc : (copyN F c b).length = n := by rw [copyN_len, hn]
    obtain ⟨q, hq⟩ : ∃ q, q = c % F := ⟨_, rfl⟩
    have hqF : q < F := by rw [hq]; exact Nat.mod_lt _ (by omega)
    have e1 : (c : Int) % (F : Int) = (q : Int) := by omega
    have e1t : Int.tmod (c : Int) (F : Int) = (q : Int) := by rw [Int.tmod_eq_emod_of_nonneg (by omega)]; exact e1
    have hF0 : (F : Int) ≠ 0 := by omega
    have hqF' : (q : Int) < (F : Int) := by omega
    obtain ⟨y, hy⟩ : ∃ y, y = b.getD (p + q) 0 := ⟨_, rfl⟩
    have hcell : wr.cell? ⟨g0, p + q, none⟩ = some (.int .u8 (y.toNat : Int)) := by
     rw [hy]; exact HC.out _ (by omega)
    have HCP := hide (show copyN F (c + 1) b = copyN F c b ++ [y] by
     rw [copyN_more, hlc, hy, hn, show b.length + c - F = b.length - F + c by omega, HCAT.out c c (by omega), ← HPB.out, ← hq])
    have hy8 := y.toNat_lt
    have hwsr := hbl.out.size
    have HN := hide hn
    clear hlc hy hn hq
    go_wp2_with (at_builtin; refine wpList_append_old _ rfl _ _ 22 rfl base 5 i0 (.int .u8 0) 1 Tryz.underlying22 hi hz0 hz1 hz2 rfl go ocap n _ rfl (hown.alloc _) ⟨wr.heap.size, 0, none⟩ 1 (.int .u8 (y.toNat : Int)) rfl (one_cell wr _ _ 0 _ rfl) rfl (by unfold maxLen; omega) (by omega) (by simp; omega) (wr.heap.size + 1) (by simp) ?_)
    intro g' cap' w9 hown' hg' hat' _ hold
    have R1 : w9.ownsRow base 5 1 (.slice (some ⟨g', 0, none⟩) (n + 1) cap') (b.length + (c + 1)) ((copyN F (c + 1) b).map byteV) := by
     rw [HCP.out, List.map_append, show b.length + (c + 1) = n + 1 by have := HN.out; omega]; exact hown'
    have R2 := hide ((hbl.out.alloc (by omega) _).grown hg' (by simp; omega) (fun x hx => by cases hx; exact (hown.lt go rfl).1))
    have hgoz : go ≠ z := fun e => hzn (by simp [Value.ownBlock, e])
    have R3 : (Value.slice (some ⟨g', 0, none⟩) (n + 1) cap').ownBlock ≠ some z := by
     intro e
     have e1 : g' = z := by simpa [Value.ownBlock] using e
     rcases hat' with h | h
     · exact hgoz (by rw [h, e1])
     · omega
    have R4 : w9.cell? ⟨z, 2, none⟩ = some (.int .i64 (F : Int)) := by
     refine hg'.cell (a := ⟨z, 2, none⟩) ?_ (fun e => hgoz (by simpa using e.symm))
     exact (((Below.refl wr.heap.size wr).alloc (Nat.le_refl _) _).cell (p := ⟨z, 2, none⟩) hzlt).trans c2
    have R5 : z < w9.heap.size := by have := hg'.size; simp at this; omega
    have R6 := hide (show ∀ j (hj : j < b.length), w9.cell? ⟨g0, j, none⟩ = some (.int .u8 ((b.getD j 0).toNat : Int)) from fun j hj => by
     have h1 : (wr.alloc (.cells #[.int .u8 (y.toNat : Int)] 5)).cell? ⟨g0, j, none⟩ = some (.int .u8 ((b.getD j 0).toNat : Int)) := (((Below.refl wr.heap.size wr).alloc (Nat.le_refl _) _).cell (p := ⟨g0, j, none⟩) (show g0 < wr.heap.size by omega)).trans (HC.out j hj)
     by_cases e : go = g0
     · subst e
       exact (hold j (by have := HN.out; omega)).trans h1
     · exact hg'.cell (a := ⟨g0, j, none⟩) h1 (fun e2 => e (by simpa using e2.symm)))
    have R7 := hide (show (∀ k, k < z → k ≠ g0 → w9.heap[k]? = w.heap[k]?) ∧ ∀ k, (Value.slice (some ⟨g', 0, none⟩) (n + 1) cap').ownBlock = some k → k = g0 ∨ z ≤ k from by
     have hgo := hkk.out.2 go rfl
     refine ⟨fun k hk hne => (hg'.block k (by simp; omega) (fun e => ?_)).trans ((Below.heap_alloc _ _ k (by omega)).trans (hkk.out.1 k hk hne)), fun k hk => ?_⟩
     · cases e
       rcases hgo with h | h
       · exact hne h
       · omega
     · obtain rfl : g' = k := by simpa [Value.ownBlock] using hk
       rcases hat' with h | h
       · rw [← h]; exact hgo
       · exact .inr (by omega))
    clear hown' hg' hat' hown hbl hkk hcell HCP c2 hzn hzlt hold HC
    go_wp2_with fail
    go_roundw
    case rel => exact ⟨c + 1, by omega, by go_num, R1, R6, R3, R5, R4, R2, R7⟩
    case measure => simp [intOf]; omega
  · have hcM' : ¬ (c : Int) < (M : Int) := by omega
    have ecM : c = M := by omega
    have HO := hide (show wr.ownsRow base 5 1 u0 (copyN F M b).length ((copyN F M b).map byteV) by
     rw [copyN_len, ← ecM]; exact hown)
    clear hown ecM c2 HC
    go_wp2_with fail
    go_ret2
    exact ⟨_, rfl, HO.out, hbl.out, ⟨fun k hk hne => hkk.out.1 k (by rw [HZZ.out]; exact hk) (fun e => hne (by rw [e]; rfl)), fun k hk => by
     rcases hkk.out.2 k hk with h | h
     · exact .inl (by rw [h]; rfl)
     · exact .inr (by rw [← HZZ.out]; exact h)⟩⟩
end Go.Proofs.YtconcnndghmdfaaGreatDoor
