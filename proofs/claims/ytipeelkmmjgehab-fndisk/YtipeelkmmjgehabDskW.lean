/- The walk over the model's l08Write. -/
import Derived.Test.YtipeelkmmjgehabDskB
import Derived.Test.YtipeelkmmjgehabArr
namespace Go.Proofs.Ytipeelkmmjgehab
open Go Go.RowKit
/-- The piece i of a text, in 64 bytes. -/
def pieceF (t : ByteArray) (i j : Nat) : UInt8 := if 64 * i + j < t.size then bF t (64 * i + j) else 0
def pieceS (t : ByteArray) (i : Nat) : ByteArray := ⟨((List.range 64).map (pieceF t i)).toArray⟩
/-- How many pieces a text has. -/
def manyW (t : ByteArray) : Nat := (t.size + 63) / 64
/-- The writes, with those of a text behind them. -/
def wrA (A : Nat → Int) (nC : Nat) (a : Int) (j : Nat) : Int := if j < nC then A j else a + ((j - nC : Nat) : Int)
def wrX (X : Nat → ByteArray) (nC : Nat) (t : ByteArray) (j : Nat) : ByteArray := if j < nC then X j else pieceS t (j - nC)
theorem wL_old (A : Nat → Int) (X : Nat → ByteArray) (nC : Nat) (a : Int) (t : ByteArray) : wL (wrA A nC a) (wrX X nC t) nC = wL A X nC := by
  unfold wL
  apply List.map_congr_left
  intro x hx
  have hx2 : x / 2 < nC := by have := List.mem_range.1 hx; omega
  show cWr _ _ _ _ = cWr _ _ _ _
  unfold cWr wrA wrX
  rw [if_pos hx2, if_pos hx2]
theorem wL_snoc (A : Nat → Int) (X : Nat → ByteArray) (n : Nat) : wL A X (n + 1) = wL A X n ++ [.int .i64 (A n), .string (X n)] := by
  unfold wL
  rw [show (n + 1) * 2 = n * 2 + 1 + 1 by omega, List.range_succ, List.range_succ, List.map_append, List.map_append, List.append_assoc]
  have h1 : n * 2 / 2 = n := by omega
  have h2 : (n * 2 + 1) / 2 = n := by omega
  have h3 : n * 2 % 2 = 0 := by omega
  have h4 : (n * 2 + 1) % 2 = 1 := by omega
  simp [wF, cWr, h1, h2, h3, h4]
theorem run_restW {P : Program} (w : World) (t : TypeId) (s : ByteArray) (A : Nat) (h : P.underlying t = some .string) (hS : A ≤ s.size) :
    (Instr.slice t (.string s) (some (.int .i64 (A : Int))) none none).run P w = .ok (.string (s.extract A s.size)) w := by
  rw [run_slice_string_from_if w t s .i64 _ h, if_pos (by omega), Int.toNat_natCast]
theorem cells2w (w : World) (x y : Value) (t n : Nat) (hn : w.heap.size = n) : ∀ (j : Nat) (u : Value), [x, y][j]? = some u → (w.alloc (.cells #[x, y] t)).cell? ((⟨n, 0, none⟩ : Addr).add j) = some u := by
  subst hn; exact World.news_of_block (heap_alloc_new w (.cells #[x, y] t))
theorem own_weak {w : World} {b c e s n : Nat} {v : Value} {xs : List Value} (h : w.ownsRow b e s v n xs) (hc : c ≤ b) : w.ownsRow c e s v n xs := own_base h hc
set_option maxRecDepth 100000 in
set_option maxHeartbeats 3200000 in
theorem spec_write_goodW (v : Value) (nS : Nat) (S : Nat → ByteArray) (nC : Nat) (A : Nat → Int) (X : Nat → ByteArray) (a : Int) (t : ByteArray) (w : World) (hok : dskOk nS S nC A X) (hts : t.size ≤ 20480) (ha : 0 ≤ a) (ha2 : a ≤ (nS : Int) - (manyW t : Int)) (hf : nC + manyW t ≤ 400) (h : dskI w w.heap.size v nS S nC A X) :
    Calls Try.prog 43 #[v, .int .i64 a, .string t] w fun e w' => ∃ sv cv, e = .returned (doutV sv cv ⟨#[]⟩ 0) ∧ w'.ownsRow w.heap.size 9 1 sv nS (sL S nS) ∧ w'.ownsRow w.heap.size 70 2 cv (nC + manyW t) (wL (wrA A nC a) (wrX X nC t) (nC + manyW t)) ∧ apartV sv cv ∧ Below w.heap.size w w' := by
  obtain ⟨iw, hiw, hzw0, hzw1, hzw2⟩ := info_parts Try.infoWr
  obtain ⟨sv, cv, rfl, hs, hc⟩ := h
  have HI := hide (show dskI w w.heap.size (.agg #[sv, cv]) nS S nC A X from ⟨sv, cv, rfl, hs, hc⟩)
  obtain ⟨sa, sk, e1⟩ : ∃ a c, sv = .slice a nS c := by obtain ⟨a, c, e, _⟩ := hs; exact ⟨a, c, e⟩
  obtain ⟨ca, ck, e2⟩ : ∃ a c, cv = .slice a nC c := by obtain ⟨a, c, e, _⟩ := hc; exact ⟨a, c, e⟩
  subst e1 e2
  have hn6 := hok.1
  have hn4 := hok.2.1
  clear hs hc hok
  obtain ⟨m, hm⟩ : ∃ m, m = manyW t := ⟨_, rfl⟩
  rw [← hm] at ha2 hf ⊢
  have hm0 : m = (t.size + 63) / 64 := hm
  obtain ⟨z1, hz1⟩ : ∃ z1, z1 = t.size + 64 := ⟨_, rfl⟩
  obtain ⟨z2, hz2⟩ : ∃ z2, z2 = t.size + 63 := ⟨_, rfl⟩
  have s1 : (t.size : Int) + 64 = (z1 : Int) := by omega
  have s2 : (z1 : Int) - 1 = (z2 : Int) := by omega
  have z1b : (z1 : Int) ≤ 20544 := by omega
  have z2b : (z2 : Int) ≤ 20543 := by omega
  have z1p : 64 ≤ z1 := by omega
  obtain ⟨A2, hA2⟩ : ∃ A2, A2 = wrA A nC a := ⟨_, rfl⟩
  obtain ⟨X2, hX2⟩ : ∃ X2, X2 = wrX X nC t := ⟨_, rfl⟩
  rw [← hA2, ← hX2]
  have HA2 := hide hA2
  have HX2 := hide hX2
  have HOLD := hide (show wL A2 X2 nC = wL A X nC by rw [hA2, hX2]; exact wL_old A X nC a t)
  clear hA2 hX2 hm
  obtain ⟨q0, q1, q2, q3⟩ := box2 w (.cells #[.slice sa nS sk, .slice ca nC ck] 26) (.cells #[.slice none 0 0, .slice none 0 0, .string ⟨#[]⟩, .int .i64 0] 30)
  have HQ := hide (And.intro q0 (And.intro q1 (And.intro q2 q3)))
  have b0 : ((w.alloc (.cells #[.slice sa nS sk, .slice ca nC ck] 26)).alloc (.cells #[.slice none 0 0, .slice none 0 0, .string ⟨#[]⟩, .int .i64 0] 30)).cell? ⟨w.heap.size, 0, none⟩ = some (.slice sa nS sk) := by simp [World.cell?, q2]
  clear q0 q1 q2 q3 b0
  have hm400 : (m : Int) ≤ 400 := by omega
  have s3 : (z2 : Int) / 64 = (m : Int) := by omega
  have s3t : Int.tdiv (z2 : Int) 64 = (m : Int) := by rw [Int.tdiv_eq_ediv_of_nonneg (by omega)]; exact s3
  clear hz1 hz2
  have d1 : decide (a < 0) = false := decide_eq_false (by omega)
  have d2 : decide ((nS : Int) - (m : Int) < a) = false := decide_eq_false (by omega)
  have d3 : decide ((400 : Int) < (nC : Int) + (m : Int)) = false := decide_eq_false (by omega)
  have HM0 := hide hm0
  clear hm0
  go_enter Try.func43, Try.ntmps43
  go_wp2_with fail
  obtain ⟨q0, q1, q2, q3⟩ := HQ.out
  generalize ((w.alloc (.cells #[.slice sa nS sk, .slice ca nC ck] 26)).alloc (.cells #[.slice none 0 0, .slice none 0 0, .string ⟨#[]⟩, .int .i64 0] 30)) = W2 at *
  have I2 : dskI W2 W2.heap.size (.agg #[.slice sa nS sk, .slice ca nC ck]) nS S nC A X := (HI.out.below q0).wide (by omega)
  refine (spec_copyO _ nS S nC A X W2 (by omega) (by omega) I2).mono ?_
  rintro e w1 ⟨sv, cv, rfl, hso, hco, hap, hb1⟩
  have hsz1 := hb1.size
  have r3 := (hb1.block (w.heap.size + 1) (by omega)).trans q3
  obtain ⟨va, vk, ev⟩ := own_slice hso
  obtain ⟨ua, uk, eu⟩ := own_slice hco
  subst ev eu
  obtain ⟨y, hy⟩ : ∃ y, y = w1.heap.size := ⟨_, rfl⟩
  have HY := hide hy
  have hwy : w.heap.size + 2 ≤ y := by omega
  obtain ⟨B, hB⟩ : ∃ B, B = w.heap.size := ⟨_, rfl⟩
  rw [← hB] at hwy
  have HBB := hide hB
  have ab : Below w1.heap.size w1 (w1.alloc (.cells #[.slice va nS vk, .slice ua nC uk] 26)) := (Below.refl _ w1).alloc (Nat.le_refl _) _
  have H1 := hide (show (w1.alloc (.cells #[.slice va nS vk, .slice ua nC uk] 26)).ownsRow w.heap.size 9 1 (.slice va nS vk) nS (sL S nS) ∧ (w1.alloc (.cells #[.slice va nS vk, .slice ua nC uk] 26)).ownsRow w.heap.size 70 2 (.slice ua nC uk) nC (wL A2 X2 nC) ∧ (w1.alloc (.cells #[.slice va nS vk, .slice ua nC uk] 26)).heap[y]? = some (.cells #[.slice va nS vk, .slice ua nC uk] 26) ∧ (w1.alloc (.cells #[.slice va nS vk, .slice ua nC uk] 26)).heap[w.heap.size + 1]? = some (.cells #[.slice none 0 0, .slice none 0 0, .string ⟨#[]⟩, .int .i64 0] 30) ∧ Below w.heap.size w (w1.alloc (.cells #[.slice va nS vk, .slice ua nC uk] 26)) ∧ apartV (.slice va nS vk) (.slice ua nC uk) from
    ⟨(own_base hso (by omega)).alloc _, by rw [HOLD.out]; exact (own_base hco (by omega)).alloc _, by rw [hy]; exact heap_alloc_new _ _, (ab.block _ (by omega)).trans r3, (q0.trans (hb1.mono (by omega))).trans (ab.mono (by omega)), hap⟩)
  have hoff := hide (show ∀ k, (Value.slice va nS vk).ownBlock = some k → k ≠ y ∧ k ≠ w.heap.size + 1 from fun k hk => by have := hso.lt k hk; omega)
  have hoffc := hide (show ∀ k, (Value.slice ua nC uk).ownBlock = some k → k ≠ y ∧ k ≠ w.heap.size + 1 from fun k hk => by have := hco.lt k hk; omega)
  have hsy : (w1.alloc (.cells #[.slice va nS vk, .slice ua nC uk] 26)).heap.size = y + 1 := by simp [hy]
  clear q0 q1 q2 q3 I2 hso hco hap hb1 hsz1 r3 ab hy HQ HI d1 d2 d3 s1 s2 s3 s3t z1b z2b z1p
  rw [← hB] at H1 hoff hoffc ⊢
  clear hB
  go_wp2_with fail
  rw [← HY.out]
  generalize w1.alloc (.cells #[.slice va nS vk, .slice ua nC uk] 26) = W3 at *
  have hmk : ∀ w : World, (Instr.makeSlice 22 (.int .i64 64) (.int .i64 64)).run Try.prog w = .ok (.slice (some ⟨w.heap.size, 0, none⟩) 64 64) (w.alloc (.cells (madeCells #[.int .u8 0] 64) 5)) := run_make_row' (P := Try.prog) 22 5 (.int .u8 0) 1 Try.underlying22 (by kernel_rfl) rfl .i64 .i64 64 (by omega) (by omega)
  have hsz8 : (Try.prog.info? 5).map (·.size) = some 1 := by kernel_rfl
  go_loopw [9] (fun i wx => ∃ (k : Nat) (ca : Option Addr) (cc : Nat), k ≤ m ∧ i = .int .i64 (k : Int) ∧ Hid (wx.ownsRow B 9 1 (.slice va nS vk) nS (sL S nS)) ∧ Hid (wx.ownsRow B 70 2 (.slice ca (nC + k) cc) (nC + k) (wL A2 X2 (nC + k))) ∧ Hid (wx.heap[y]? = some (.cells #[.slice va nS vk, .slice ca (nC + k) cc] 26) ∧ wx.heap[B + 1]? = some (.cells #[.slice none 0 0, .slice none 0 0, .string ⟨#[]⟩, .int .i64 0] 30) ∧ Below B w wx) ∧ Hid (apartV (.slice va nS vk) (.slice ca (nC + k) cc)) ∧ Hid (∀ j, (Value.slice ca (nC + k) cc).ownBlock = some j → j ≠ y ∧ j ≠ B + 1) ∧ y < wx.heap.size) (fun i _ => m - (intOf i).toNat)
  case atStart => exact ⟨0, ua, uk, Nat.zero_le _, rfl, H1.out.1, H1.out.2.1, ⟨H1.out.2.2.1, H1.out.2.2.2.1, H1.out.2.2.2.2.1⟩, H1.out.2.2.2.2.2, hoffc, by omega⟩
  case round =>
    clear H1 hoffc hsy
    obtain ⟨k, ca2, cc, hk, rfl, hso, hco, hst, hap, hof, hyw⟩ := hrel
    by_cases hlt : k < m
    · have hlt' : (k : Int) < (m : Int) := by omega
      obtain ⟨p, hp⟩ : ∃ p, p = k * 64 := ⟨_, rfl⟩
      have s4 : (k : Int) * 64 = (p : Int) := by omega
      have hpt : p < t.size := by have := HM0.out; omega
      have hptI : (p : Int) ≤ (t.size : Int) := by omega
      obtain ⟨R, hR⟩ : ∃ R, R = t.extract p t.size := ⟨_, rfl⟩
      have hRs : R.size = t.size - p := by rw [hR, ByteArray.size_extract, Nat.min_self]
      have hrest := fun u : World => run_restW (P := Try.prog) u 9 t p Try.underlying9 (by omega)
      rw [← hR] at hrest
      obtain ⟨mm, hmm⟩ : ∃ mm, mm = Nat.min R.size 64 := ⟨_, rfl⟩
      have hsrc : ∀ j, j < mm → R.data.toList[j]? = some (bF t (p + j)) := fun j hj => by
        rw [hR]; exact ext_at t p t.size rfl j (by have : mm ≤ R.size := by rw [hmm]; exact Nat.min_le_left _ _
                                                   omega)
      have hmm64 : mm ≤ 64 := by rw [hmm]; exact Nat.min_le_right _ _
      have z0 : (wr.alloc (.cells (madeCells #[.int .u8 0] 64) 5)).rowIs wr.heap.size 5 64 (u8V fun _ => 0) := zeros8_row 64 wr _ _ (by rw [← toList_madeCells_one])
      have hth : (wr.alloc (.cells (madeCells #[.int .u8 0] 64) 5)).there wr.heap.size 0 mm := row_there z0 (by omega)
      have z1 := row_setCells (o := 0) (n := mm) (k := fun j => bF t (p + j)) z0 (by omega)
      obtain ⟨P, hP⟩ : ∃ P : ByteArray, P = pieceS t k := ⟨_, rfl⟩
      have z2 : ((wr.alloc (.cells (madeCells #[.int .u8 0] 64) 5)).setCells wr.heap.size 0 (bL mm fun j => bF t (p + j))).rowIs wr.heap.size 5 64 (u8V (pieceF t k)) := z1.congr fun j hj => by
        have hmv : mm = min (t.size - p) 64 := by rw [hmm, hRs]
        have e : (if 0 ≤ j ∧ j < 0 + mm then bF t (p + (j - 0)) else 0) = pieceF t k j := by
          unfold pieceF
          by_cases h1 : 64 * k + j < t.size
          · rw [if_pos (show 0 ≤ j ∧ j < 0 + mm by omega), if_pos h1, show p + (j - 0) = 64 * k + j by omega]
          · rw [if_neg (show ¬ (0 ≤ j ∧ j < 0 + mm) by omega), if_neg h1]
        show Value.int .u8 (((if 0 ≤ j ∧ j < 0 + mm then bF t (p + (j - 0)) else 0).toNat : Nat) : Int) = .int .u8 ((pieceF t k j).toNat : Int)
        rw [e]
      have hcv := conv_row (P := Try.prog) (cap := 64) (l := (List.range 64).map (pieceF t k)) z2 (fun j hj => by simp [hj]) (by simp) Try.underlying22 Try.underlying5 Try.underlying9
      rw [show (⟨((List.range 64).map (pieceF t k)).toArray⟩ : ByteArray) = P from hP.symm] at hcv
      have hb2 : Below wr.heap.size wr ((wr.alloc (.cells (madeCells #[.int .u8 0] 64) 5)).setCells wr.heap.size 0 (bL mm fun j => bF t (p + j))) := below_setCells' ((Below.refl _ wr).alloc (Nat.le_refl _) _) (Nat.le_refl _)
      have hs2 : ((wr.alloc (.cells (madeCells #[.int .u8 0] 64) 5)).setCells wr.heap.size 0 (bL mm fun j => bF t (p + j))).heap.size = wr.heap.size + 1 := by rw [size_setCells]; simp
      have r1 := (hb2.block y hyw).trans hst.out.1
      have hsb := hst.out.2.2.size
      have r2 := (hb2.block (B + 1) (by omega)).trans hst.out.2.1
      have c1 : ((wr.alloc (.cells (madeCells #[.int .u8 0] 64) 5)).setCells wr.heap.size 0 (bL mm fun j => bF t (p + j))).cell? ⟨y, 1, none⟩ = some (.slice ca2 (nC + k) cc) := by simp [World.cell?, r1]
      have O1 := hide (own_of_block hso.out (fun j hj => hb2.block j (hso.out.lt j hj).2))
      have O2 := hide (own_of_block hco.out (fun j hj => hb2.block j (hco.out.lt j hj).2))
      have HM := hide hmm
      have HS2 := hide hsrc
      have HW := hide (And.intro r1 (And.intro r2 (And.intro (hst.out.2.2.trans (hb2.mono (by omega))) hs2)))
      obtain ⟨q, hq⟩ : ∃ q : Int, q = a + (k : Int) := ⟨_, rfl⟩
      have s5 : a + (k : Int) = q := hq.symm
      have hqb : 0 ≤ q ∧ q ≤ 1020 := by omega
      obtain ⟨hq0, hq1⟩ := hqb
      have s5w : IntKind.i64.wrap (a + (k : Int)) = q := by rw [IntKind.wrap_i64]; omega
      have HSN := hide (show wL A2 X2 (nC + k + 1) = wL A2 X2 (nC + k) ++ [.int .i64 q, .string P] by
        rw [wL_snoc]
        have e1 : A2 (nC + k) = q := by rw [HA2.out]; unfold wrA; rw [if_neg (by omega), hq, Nat.add_sub_cancel_left]
        have e2 : X2 (nC + k) = P := by rw [HX2.out]; unfold wrX; rw [if_neg (by omega), hP, Nat.add_sub_cancel_left]
        rw [e1, e2])
      have hnk : nC + k ≤ 400 := by omega
      clear z0 z1 z2 r1 r2 hmm hsrc hP hp hR hq hst hso hco hRs
      go_wp2_with (first
        | (with_reducible (show wpList _ _ _ ({ dst := _, op := .call _, type := _, pos := _, after := _, guard := _ } :: _) _ _); refine wpList_copy_S rfl (.tmp 43) (.tmp 47) 22 9 rfl 5 Try.underlying22 hsz8 wr.heap.size 0 64 64 R rfl rfl mm (fun j => bF t (p + j)) HM.out HS2.out hth ?_; clear hth; generalize ((wr.alloc (.cells (madeCells #[.int .u8 0] 64) 5)).setCells wr.heap.size 0 (bL mm fun j => bF t (p + j))) = W2 at *)
        | (at_builtin; refine wpList_append_any _ rfl _ _ 24 rfl B 70 iw (.agg #[.int .i64 0, .string ⟨#[]⟩]) 2 24 Try.underlying24 hiw hzw0 hzw1 hzw2 rfl (by decide) (.slice ca2 (nC + k) cc) (nC + k) _ rfl (O2.out.alloc _) (some ⟨wr.heap.size + 1, 0, none⟩) 1 1 [.int .i64 q, .string P] rfl rfl (.inr ⟨_, rfl, cells2w _ _ _ _ _ hs2⟩) (by intro u hu; simp at hu; rcases hu with rfl | rfl <;> rfl) (by unfold maxLen; omega) (by omega) (by simp; omega) ?_))
      intro v9 w9 o9 g9 t9
      obtain ⟨a9, k9, e9⟩ := own_slice o9
      subst e9
      obtain ⟨r1, r2, bw, _⟩ := HW.out
      have zs9 := g9.size
      simp at zs9
      have nb : ∀ b, (b = y ∨ b = B + 1) → some b ≠ (Value.slice ca2 (nC + k) cc).ownBlock := fun b h1 h2 => by
        have := hof.out b h2.symm
        rcases h1 with h | h
        · exact this.1 h
        · exact this.2 h
      have nb2 : ∀ b, (Value.slice va nS vk).ownBlock = some b → some b ≠ (Value.slice ca2 (nC + k) cc).ownBlock := fun b h1 h2 => hap.out b h1 h2.symm
      have u1 : w9.heap[y]? = some (.cells #[.slice va nS vk, .slice ca2 (nC + k) cc] 26) := ((g9.block y (by simp; omega) (nb _ (.inl rfl))).trans (Below.heap_alloc _ _ _ (by omega))).trans r1
      have u2 : w9.heap[B + 1]? = some (.cells #[.slice none 0 0, .slice none 0 0, .string ⟨#[]⟩, .int .i64 0] 30) := ((g9.block (B + 1) (by simp; omega) (nb _ (.inr rfl))).trans (Below.heap_alloc _ _ _ (by omega))).trans r2
      have bwz := bw.size
      have u3 : Below B w w9 := (bw.alloc (by omega) _).grown g9 (by simp; omega) (fun j hj => (O2.out.lt j hj).1)
      have u4 : w9.ownsRow B 9 1 (.slice va nS vk) nS (sL S nS) := own_of_block O1.out (fun j hj => (g9.block j (by have := (O1.out.lt j hj).2; simp; omega) (nb2 j hj)).trans (Below.heap_alloc _ _ _ (O1.out.lt j hj).2))
      have l9 : ∀ j, (Value.slice a9 (nC + k + 1) k9).ownBlock = some j → (j ≠ y ∧ j ≠ B + 1) ∧ (Value.slice va nS vk).ownBlock ≠ some j := fun j hj => by
        rcases t9 j hj with h | h
        · exact ⟨hof.out j h, fun e => hap.out j e h⟩
        · have h' : wr.heap.size + 1 ≤ j := by first | omega | (rw [World.size_alloc] at h; omega) | (refine Nat.le_trans ?_ h; simp; omega)
          exact ⟨by omega, fun e => by have := (O1.out.lt j e).2; omega⟩
      have d1 : w9.cell? ⟨y, 1, none⟩ = some (.slice ca2 (nC + k) cc) := by simp [World.cell?, u1]
      have f1 : w9.frozen? ⟨y, 1, none⟩ = false := by simp [World.frozen?, u1]
      have R1 := hide (show (w9.setCell ⟨y, 1, none⟩ (.slice a9 (nC + k + 1) k9)).ownsRow B 9 1 (.slice va nS vk) nS (sL S nS) from own_of_block u4 (fun j hj => set1_o _ _ _ _ _ (hoff.out j hj).1))
      have R2 := hide (show (w9.setCell ⟨y, 1, none⟩ (.slice a9 (nC + k + 1) k9)).ownsRow B 70 2 (.slice a9 (nC + k + 1) k9) (nC + k + 1) (wL A2 X2 (nC + k + 1)) from own_of_block (by rw [HSN.out]; exact o9) (fun j hj => set1_o _ _ _ _ _ (l9 j hj).1.1))
      have R3 := hide (show (w9.setCell ⟨y, 1, none⟩ (.slice a9 (nC + k + 1) k9)).heap[y]? = some (.cells #[.slice va nS vk, .slice a9 (nC + k + 1) k9] 26) ∧ (w9.setCell ⟨y, 1, none⟩ (.slice a9 (nC + k + 1) k9)).heap[B + 1]? = some (.cells #[.slice none 0 0, .slice none 0 0, .string ⟨#[]⟩, .int .i64 0] 30) ∧ Below B w (w9.setCell ⟨y, 1, none⟩ (.slice a9 (nC + k + 1) k9)) from ⟨by simp [World.setCell, Array.getElem?_modify, u1], (set1_o _ _ _ _ _ (by omega)).trans u2, below_set u3 _ 1 (by omega) _⟩)
      have R4 := hide (show apartV (.slice va nS vk) (.slice a9 (nC + k + 1) k9) from fun j hj e => (l9 j e).2 hj)
      have R5 := hide (show ∀ j, (Value.slice a9 (nC + k + 1) k9).ownBlock = some j → j ≠ y ∧ j ≠ B + 1 from fun j hj => (l9 j hj).1)
      have R6 : y < (w9.setCell ⟨y, 1, none⟩ (.slice a9 (nC + k + 1) k9)).heap.size := by simp [World.setCell]; omega
      clear o9 g9 t9 r1 r2 bw u1 u2 u3 u4 l9 nb nb2 O1 O2 HW hap hof c1 hcv hb2 hs2 hrest hmk
      go_wp2_with fail
      go_roundw
      case rel => exact ⟨k + 1, a9, k9, by omega, by go_num, R1, R2, R3, R4, R5, R6⟩
      case measure => simp [intOf]; omega
    · have hlt' : ¬ (k : Int) < (m : Int) := by omega
      have hkm : k = m := by omega
      subst hkm
      have b0 : wr.cell? ⟨y, 0, none⟩ = some (.slice va nS vk) := by simp [World.cell?, hst.out.1]
      have b1 : wr.cell? ⟨y, 1, none⟩ = some (.slice ca2 (nC + k) cc) := by simp [World.cell?, hst.out.1]
      have c0 : wr.cell? ⟨B + 1, 0, none⟩ = some (.slice none 0 0) := by simp [World.cell?, hst.out.2.1]
      have c1 : wr.cell? ⟨B + 1, 1, none⟩ = some (.slice none 0 0) := by simp [World.cell?, hst.out.2.1]
      have c2 : wr.cell? ⟨B + 1, 2, none⟩ = some (.string ⟨#[]⟩) := by simp [World.cell?, hst.out.2.1]
      have c3 : wr.cell? ⟨B + 1, 3, none⟩ = some (.int .i64 0) := by simp [World.cell?, hst.out.2.1]
      have f0 : wr.frozen? ⟨B + 1, 0, none⟩ = false := by simp [World.frozen?, hst.out.2.1]
      have f1 : wr.frozen? ⟨B + 1, 1, none⟩ = false := by simp [World.frozen?, hst.out.2.1]
      have f2 : wr.frozen? ⟨B + 1, 2, none⟩ = false := by simp [World.frozen?, hst.out.2.1]
      have f3 : wr.frozen? ⟨B + 1, 3, none⟩ = false := by simp [World.frozen?, hst.out.2.1]
      clear hmk
      go_wp2_with fail
      have fin := set4_blk wr (B + 1) _ _ _ _ (.slice va nS vk) (.slice ca2 (nC + k) cc) (.string ⟨#[]⟩) (.int .i64 0) _ hst.out.2.1
      have hbf := below_set4 hst.out.2.2 (B + 1) (by have := HBB.out; omega) (.slice va nS vk) (.slice ca2 (nC + k) cc) (.string ⟨#[]⟩) (.int .i64 0)
      have same : ∀ j, j ≠ B + 1 → ((((wr.setCell ⟨B + 1, 0, none⟩ (.slice va nS vk)).setCell ⟨B + 1, 1, none⟩ (.slice ca2 (nC + k) cc)).setCell ⟨B + 1, 2, none⟩ (.string ⟨#[]⟩)).setCell ⟨B + 1, 3, none⟩ (.int .i64 0)).heap[j]? = wr.heap[j]? := fun j hj => (set1_o _ _ _ _ _ hj).trans ((set1_o _ _ _ _ _ hj).trans ((set1_o _ _ _ _ _ hj).trans (set1_o _ _ _ _ _ hj)))
      have o1 := own_of_block hso.out (fun j hj => same j (hoff.out j hj).2)
      have o2 := own_of_block hco.out (fun j hj => same j (hof.out j hj).2)
      exact bodyPost_ret (results_cell_row Try.results43 _ _ (B + 1) 30 #[.slice va nS vk, .slice ca2 (nC + k) cc, .string ⟨#[]⟩, .int .i64 0] (0, 0) _ rfl fin Try.underlying30 rfl (by kernel_rfl)) rfl ⟨_, _, rfl, by rw [← HBB.out]; exact o1, by rw [← HBB.out]; exact o2, hap.out, by rw [← HBB.out]; exact hbf⟩
theorem spec_write_good (v : Value) (nS : Nat) (S : Nat → ByteArray) (nC : Nat) (A : Nat → Int) (X : Nat → ByteArray) (a : Int) (t : ByteArray) (w : World) (hok : dskOk nS S nC A X) (hts : t.size ≤ 20000) (ha : 0 ≤ a) (ha2 : a ≤ (nS : Int) - (manyW t : Int)) (hf : nC + manyW t ≤ 400) (h : dskI w w.heap.size v nS S nC A X) :
    Calls Try.prog 43 #[v, .int .i64 a, .string t] w fun e w' => ∃ sv cv, e = .returned (doutV sv cv ⟨#[]⟩ 0) ∧ w'.ownsRow w.heap.size 9 1 sv nS (sL S nS) ∧ w'.ownsRow w.heap.size 70 2 cv (nC + manyW t) (wL (wrA A nC a) (wrX X nC t) (nC + manyW t)) ∧ apartV sv cv ∧ Below w.heap.size w w' :=
  spec_write_goodW v nS S nC A X a t w hok (by omega) ha ha2 hf h
end Go.Proofs.Ytipeelkmmjgehab
