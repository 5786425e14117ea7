/- The walk over the program's DiskCrash (written by mkdkk.py). -/
import Derived.Test.YtipeelkmmjgehabDkS
import Derived.Test.YtipeelkmmjgehabDkR
import Derived.Test.YtipeelkmmjgehabDskV
import Derived.Handy
namespace Go.Proofs.Ytipeelkmmjgehab
open Go Go.RowKit
theorem flS_skip {S : Nat → ByteArray} {A : Nat → Int} {X : Nat → ByteArray} {kp : Nat → Bool} {k j : Nat} (h : kp k = false) : flS S A X kp (k + 1) j = flS S A X kp k j := by
  show (if kp k = true ∧ (j : Int) = A k then X k else flS S A X kp k j) = _
  rw [if_neg (fun e => by rw [h] at e; cases e.1)]
theorem flS_take {S : Nat → ByteArray} {A : Nat → Int} {X : Nat → ByteArray} {kp : Nat → Bool} {k j : Nat} (h : kp k = true) : flS S A X kp (k + 1) j = if (j : Int) = A k then X k else flS S A X kp k j := by
  show (if kp k = true ∧ (j : Int) = A k then X k else flS S A X kp k j) = _
  rw [h]; simp
theorem flS_congr (S : Nat → ByteArray) (A : Nat → Int) (X : Nat → ByteArray) (A2 : Nat → Int) (X2 : Nat → ByteArray) : ∀ n, (∀ i, i < n → A i = A2 i ∧ X i = X2 i) → ∀ j, flS S A X (fun _ => true) n j = flS S A2 X2 (fun _ => true) n j
  | 0, _, _ => rfl
  | n + 1, h, j => by
    show (if true = true ∧ (j : Int) = A n then X n else flS S A X (fun _ => true) n j) = (if true = true ∧ (j : Int) = A2 n then X2 n else flS S A2 X2 (fun _ => true) n j)
    rw [(h n (by omega)).1, (h n (by omega)).2, flS_congr S A X A2 X2 n (fun i hi => h i (by omega)) j]
theorem wL_congr {A A2 : Nat → Int} {X X2 : Nat → ByteArray} (n : Nat) (h : ∀ i, i < n → A i = A2 i ∧ X i = X2 i) : wL A X n = wL A2 X2 n := by
  unfold wL
  apply List.map_congr_left
  intro x hx
  have hx2 : x / 2 < n := by have := List.mem_range.1 hx; omega
  unfold wF cWr
  rw [(h _ hx2).1, (h _ hx2).2]
theorem news_at (w : World) (x y : Value) (t n : Nat) (hn : w.heap.size = n) : ∀ (j : Nat) (u : Value), [x, y][j]? = some u → (w.alloc (.cells #[x, y] t)).cell? ((⟨n, 0, none⟩ : Addr).add j) = some u := by
  subst hn; exact World.news_of_block (heap_alloc_new w (.cells #[x, y] t))
theorem dskV.nil0 {w : World} {o : Value} {lo hi nS : Nat} {fS : Nat → Value} {A A2 : Nat → Int} {X X2 : Nat → ByteArray} (h : dskV w o lo hi nS fS 0 (wF A X)) : dskV w o lo hi nS fS 0 (wF A2 X2) := by
  obtain ⟨sv, cv, e, h1, h2, h3⟩ := h
  exact ⟨sv, cv, e, h1, h2.zero, h3⟩
set_option maxRecDepth 100000 in
set_option maxHeartbeats 1600000 in
theorem imp_diskCrash_long (v : Value) (nS : Nat) (S : Nat → ByteArray) (nC : Nat) (A : Nat → Int) (X : Nat → ByteArray) (ka : Option Addr) (nK kk : Nat) (w : World) (hK4 : 400 < nK) (hKm : nK ≤ 9223372036854775807) (h : dskI w w.heap.size v nS S nC A X) :
    Calls Try.prog 15 #[v, .slice ka nK kk] w fun e w' => e = .returned (.agg #[.slice none 0 0, .slice none 0 0]) ∧ Below w.heap.size w w' := by
  obtain ⟨sv, cv, rfl, hs, hc⟩ := h
  have HI := hide (show dskI w w.heap.size (.agg #[sv, cv]) nS S nC A X from ⟨sv, cv, rfl, hs, hc⟩)
  obtain ⟨sa, sk, e1⟩ : ∃ a c, sv = .slice a nS c := by obtain ⟨a, c, e, _⟩ := hs; exact ⟨a, c, e⟩
  obtain ⟨ca, ck, e2⟩ : ∃ a c, cv = .slice a nC c := by obtain ⟨a, c, e, _⟩ := hc; exact ⟨a, c, e⟩
  subst e1 e2
  clear hs hc
  have q0 : Below w.heap.size w ((w.alloc (.cells #[.slice sa nS sk, .slice ca nC ck] 26)).alloc (.cells #[.slice none 0 0, .slice none 0 0] 26)) := below_2 _ _ _
  have q1 : ((w.alloc (.cells #[.slice sa nS sk, .slice ca nC ck] 26)).alloc (.cells #[.slice none 0 0, .slice none 0 0] 26)).heap[w.heap.size]? = some (.cells #[.slice sa nS sk, .slice ca nC ck] 26) := (Below.heap_alloc _ _ _ (by simp)).trans (heap_alloc_new _ _)
  have q2 : ((w.alloc (.cells #[.slice sa nS sk, .slice ca nC ck] 26)).alloc (.cells #[.slice none 0 0, .slice none 0 0] 26)).heap[w.heap.size + 1]? = some (.cells #[.slice none 0 0, .slice none 0 0] 26) := by have := heap_alloc_new (w.alloc (.cells #[.slice sa nS sk, .slice ca nC ck] 26)) (.cells #[.slice none 0 0, .slice none 0 0] 26); rwa [World.size_alloc] at this
  have qs : ((w.alloc (.cells #[.slice sa nS sk, .slice ca nC ck] 26)).alloc (.cells #[.slice none 0 0, .slice none 0 0] 26)).heap.size = w.heap.size + 2 := by simp
  have HQ := hide (And.intro q0 (And.intro q1 q2))
  clear q0 q1 q2
  have d1 : decide ((400 : Int) < (nK : Int)) = true := decide_eq_true (by omega)
  go_enter Try.func15, Try.ntmps15
  go_wp2_with fail
  obtain ⟨q0, q1, q2⟩ := HQ.out
  exact bodyPost_ret (results_cell_row Try.results15 _ _ (w.heap.size + 1) 26 #[.slice none 0 0, .slice none 0 0] (0, 0) _ rfl q2 Try.underlying26 rfl (by kernel_rfl)) rfl ⟨rfl, q0⟩
set_option maxRecDepth 100000 in
set_option maxHeartbeats 1600000 in
theorem imp_diskCrash_no (v : Value) (nS : Nat) (S : Nat → ByteArray) (nC : Nat) (A : Nat → Int) (X : Nat → ByteArray) (ka : Option Addr) (nK kk : Nat) (w : World) (hK4 : nK ≤ 400) (hS : nS ≤ 1048576) (hC : nC ≤ 1048576) (hno : ¬ dskOk nS S nC A X) (hSs : ∀ j, j < nS → (S j).size ≤ 1048576) (hXs : ∀ j, j < nC → (X j).size ≤ 1048576) (h : dskI w w.heap.size v nS S nC A X) :
    Calls Try.prog 15 #[v, .slice ka nK kk] w fun e w' => ∃ o, e = .returned o ∧ dskV w' o w.heap.size w'.heap.size nS (sC S) nC (wF A X) ∧ Below w.heap.size w w' := by
  obtain ⟨sv, cv, rfl, hs, hc⟩ := h
  have HI := hide (show dskI w w.heap.size (.agg #[sv, cv]) nS S nC A X from ⟨sv, cv, rfl, hs, hc⟩)
  obtain ⟨sa, sk, e1⟩ : ∃ a c, sv = .slice a nS c := by obtain ⟨a, c, e, _⟩ := hs; exact ⟨a, c, e⟩
  obtain ⟨ca, ck, e2⟩ : ∃ a c, cv = .slice a nC c := by obtain ⟨a, c, e, _⟩ := hc; exact ⟨a, c, e⟩
  subst e1 e2
  clear hs hc
  have q0 : Below w.heap.size w ((w.alloc (.cells #[.slice sa nS sk, .slice ca nC ck] 26)).alloc (.cells #[.slice none 0 0, .slice none 0 0] 26)) := below_2 _ _ _
  have q1 : ((w.alloc (.cells #[.slice sa nS sk, .slice ca nC ck] 26)).alloc (.cells #[.slice none 0 0, .slice none 0 0] 26)).heap[w.heap.size]? = some (.cells #[.slice sa nS sk, .slice ca nC ck] 26) := (Below.heap_alloc _ _ _ (by simp)).trans (heap_alloc_new _ _)
  have q2 : ((w.alloc (.cells #[.slice sa nS sk, .slice ca nC ck] 26)).alloc (.cells #[.slice none 0 0, .slice none 0 0] 26)).heap[w.heap.size + 1]? = some (.cells #[.slice none 0 0, .slice none 0 0] 26) := by have := heap_alloc_new (w.alloc (.cells #[.slice sa nS sk, .slice ca nC ck] 26)) (.cells #[.slice none 0 0, .slice none 0 0] 26); rwa [World.size_alloc] at this
  have qs : ((w.alloc (.cells #[.slice sa nS sk, .slice ca nC ck] 26)).alloc (.cells #[.slice none 0 0, .slice none 0 0] 26)).heap.size = w.heap.size + 2 := by simp
  have HQ := hide (And.intro q0 (And.intro q1 q2))
  clear q0 q1 q2
  have HNO := hide hno
  have HZ := hide (And.intro hSs hXs)
  clear hno hSs hXs
  have d1 : decide ((400 : Int) < (nK : Int)) = false := decide_eq_false (by omega)
  go_enter Try.func15, Try.ntmps15
  go_wp2_with fail
  obtain ⟨q0, q1, q2⟩ := HQ.out
  generalize ((w.alloc (.cells #[.slice sa nS sk, .slice ca nC ck] 26)).alloc (.cells #[.slice none 0 0, .slice none 0 0] 26)) = W2 at *
  have I2 : dskI W2 W2.heap.size (.agg #[.slice sa nS sk, .slice ca nC ck]) nS S nC A X := (HI.out.below q0).wide (by omega)
  refine (imp_diskRight _ nS S nC A X W2 hS hC I2).mono ?_
  rintro e w1 ⟨⟨r, rfl, hr⟩, hb1⟩
  obtain rfl : r = false := by cases r; rfl; exact absurd (hr.1 rfl) HNO.out
  have hsz1 := hb1.size
  have r1 := (hb1.block w.heap.size (by omega)).trans q1
  have r2 := (hb1.block (w.heap.size + 1) (by omega)).trans q2
  have b0 : w1.cell? ⟨w.heap.size, 0, none⟩ = some (.slice sa nS sk) := by simp [World.cell?, r1]
  have b1 : w1.cell? ⟨w.heap.size, 1, none⟩ = some (.slice ca nC ck) := by simp [World.cell?, r1]
  have I3 := hide (show dskI w1 w1.heap.size (.agg #[.slice sa nS sk, .slice ca nC ck]) nS S nC A X from (I2.below hb1).wide hsz1)
  have B1 := hide (q0.trans (hb1.mono (by omega)))
  have hs1 : w.heap.size + 2 ≤ w1.heap.size := by omega
  have HR := hide r2
  clear hr hb1 r1 r2 q0 q1 q2 I2 HQ
  go_wp2_with fail
  refine (imp_copied _ nS S nC A X w1 hS hC HZ.out.1 HZ.out.2 I3.out).mono ?_
  rintro e w2 ⟨o, rfl, hd, hb2⟩
  clear b0 b1
  obtain ⟨a, b, c, d, eo⟩ := hd.shape
  subst eo
  have r2 := (hb2.block (w.heap.size + 1) (by omega)).trans HR.out
  have c10 : w2.cell? ⟨w.heap.size + 1, 0, none⟩ = some (.slice none 0 0) := by simp [World.cell?, r2]
  have c11 : w2.cell? ⟨w.heap.size + 1, 1, none⟩ = some (.slice none 0 0) := by simp [World.cell?, r2]
  have f10 : w2.frozen? ⟨w.heap.size + 1, 0, none⟩ = false := by simp [World.frozen?, r2]
  have f11 : w2.frozen? ⟨w.heap.size + 1, 1, none⟩ = false := by simp [World.frozen?, r2]
  have HD := hide hd
  have B2 := hide (B1.out.trans (hb2.mono (by omega)))
  have HR2 := hide r2
  clear hd hb2 r2 HR
  go_wp2_with fail
  have u1 : ((w2.setCell ⟨w.heap.size + 1, 0, none⟩ (.slice a nS b)).setCell ⟨w.heap.size + 1, 1, none⟩ (.slice c nC d)).heap[w.heap.size + 1]? = some (.cells #[.slice a nS b, (.slice c nC d)] 26) := by simp [World.setCell, Array.getElem?_modify, HR2.out]
  have u2 : ((w2.setCell ⟨w.heap.size + 1, 0, none⟩ (.slice a nS b)).setCell ⟨w.heap.size + 1, 1, none⟩ (.slice c nC d)).heap.size = w2.heap.size := by simp [World.setCell]
  have u4 := HD.out.set2 (w.heap.size + 1) (by omega) (.slice a nS b) (.slice c nC d)
  have u6 : Below w.heap.size w ((w2.setCell ⟨w.heap.size + 1, 0, none⟩ (.slice a nS b)).setCell ⟨w.heap.size + 1, 1, none⟩ (.slice c nC d)) := below_set (below_set B2.out _ 0 (by omega) _) _ 1 (by omega) _
  generalize ((w2.setCell ⟨w.heap.size + 1, 0, none⟩ (.slice a nS b)).setCell ⟨w.heap.size + 1, 1, none⟩ (.slice c nC d)) = w9 at *
  exact bodyPost_ret (results_cell_row Try.results15 _ _ (w.heap.size + 1) 26 #[.slice a nS b, (.slice c nC d)] (0, 0) _ rfl u1 Try.underlying26 rfl (by kernel_rfl)) rfl ⟨_, rfl, u4.span (by omega) (by omega), u6⟩
set_option maxRecDepth 100000 in
set_option maxHeartbeats 3200000 in
theorem imp_diskCrash_yes (v : Value) (nS : Nat) (S : Nat → ByteArray) (nC : Nat) (A : Nat → Int) (X : Nat → ByteArray) (ka : Option Addr) (nK kk : Nat) (Kf : Nat → Bool) (w : World) (hK4 : nK ≤ 400) (hkb : booI w w.heap.size (.slice ka nK kk) nK Kf) (hok : dskOk nS S nC A X) (h : dskI w w.heap.size v nS S nC A X) :
    Calls Try.prog 15 #[v, .slice ka nK kk] w fun e w' => ∃ o, e = .returned o ∧ dskV w' o w.heap.size w'.heap.size nS (sC (flS S A X (fun j => decide (j < nK) && Kf j) nC)) 0 (wF A X) ∧ Below w.heap.size w w' := by
  obtain ⟨iw, hiw, hzw0, hzw1, hzw2⟩ := info_parts Try.infoWr
  have hS : nS ≤ 1048576 := by have := hok.1; omega
  have hC : nC ≤ 1048576 := by have := hok.2.1; omega
  have hn6 := hok.1
  have hn4 := hok.2.1
  have HOK := hide hok
  have HKB := hide hkb
  clear hok hkb
  obtain ⟨sv, cv, rfl, hs, hc⟩ := h
  have HI := hide (show dskI w w.heap.size (.agg #[sv, cv]) nS S nC A X from ⟨sv, cv, rfl, hs, hc⟩)
  obtain ⟨sa, sk, e1⟩ : ∃ a c, sv = .slice a nS c := by obtain ⟨a, c, e, _⟩ := hs; exact ⟨a, c, e⟩
  obtain ⟨ca, ck, e2⟩ : ∃ a c, cv = .slice a nC c := by obtain ⟨a, c, e, _⟩ := hc; exact ⟨a, c, e⟩
  subst e1 e2
  clear hs hc
  have q0 : Below w.heap.size w ((w.alloc (.cells #[.slice sa nS sk, .slice ca nC ck] 26)).alloc (.cells #[.slice none 0 0, .slice none 0 0] 26)) := below_2 _ _ _
  have q1 : ((w.alloc (.cells #[.slice sa nS sk, .slice ca nC ck] 26)).alloc (.cells #[.slice none 0 0, .slice none 0 0] 26)).heap[w.heap.size]? = some (.cells #[.slice sa nS sk, .slice ca nC ck] 26) := (Below.heap_alloc _ _ _ (by simp)).trans (heap_alloc_new _ _)
  have q2 : ((w.alloc (.cells #[.slice sa nS sk, .slice ca nC ck] 26)).alloc (.cells #[.slice none 0 0, .slice none 0 0] 26)).heap[w.heap.size + 1]? = some (.cells #[.slice none 0 0, .slice none 0 0] 26) := by have := heap_alloc_new (w.alloc (.cells #[.slice sa nS sk, .slice ca nC ck] 26)) (.cells #[.slice none 0 0, .slice none 0 0] 26); rwa [World.size_alloc] at this
  have qs : ((w.alloc (.cells #[.slice sa nS sk, .slice ca nC ck] 26)).alloc (.cells #[.slice none 0 0, .slice none 0 0] 26)).heap.size = w.heap.size + 2 := by simp
  have HQ := hide (And.intro q0 (And.intro q1 q2))
  clear q0 q1 q2
  have d1 : decide ((400 : Int) < (nK : Int)) = false := decide_eq_false (by omega)
  go_enter Try.func15, Try.ntmps15
  go_wp2_with fail
  obtain ⟨q0, q1, q2⟩ := HQ.out
  generalize ((w.alloc (.cells #[.slice sa nS sk, .slice ca nC ck] 26)).alloc (.cells #[.slice none 0 0, .slice none 0 0] 26)) = W2 at *
  have I2 : dskI W2 W2.heap.size (.agg #[.slice sa nS sk, .slice ca nC ck]) nS S nC A X := (HI.out.below q0).wide (by omega)
  refine (imp_diskRight _ nS S nC A X W2 hS hC I2).mono ?_
  rintro e w1 ⟨⟨r, rfl, hr⟩, hb1⟩
  obtain rfl : r = true := hr.2 HOK.out
  have hsz1 := hb1.size
  have r1 := (hb1.block w.heap.size (by omega)).trans q1
  have r2 := (hb1.block (w.heap.size + 1) (by omega)).trans q2
  have b0 : w1.cell? ⟨w.heap.size, 0, none⟩ = some (.slice sa nS sk) := by simp [World.cell?, r1]
  have b1 : w1.cell? ⟨w.heap.size, 1, none⟩ = some (.slice ca nC ck) := by simp [World.cell?, r1]
  have I3 := hide (show dskI w1 w1.heap.size (.agg #[.slice sa nS sk, .slice ca nC ck]) nS S nC A X from (I2.below hb1).wide hsz1)
  have B1 := hide (q0.trans (hb1.mono (by omega)))
  have hs1 : w.heap.size + 2 ≤ w1.heap.size := by omega
  have HR0 := hide r2
  have y3 : (w1.alloc (.cells #[.slice sa nS sk, .slice none 0 0] 26)).cell? ⟨w.heap.size, 1, none⟩ = some (.slice ca nC ck) := (((Below.refl w1.heap.size w1).alloc (Nat.le_refl _) _).cell (p := ⟨w.heap.size, 1, none⟩) (by show w.heap.size < _; omega)).trans b1
  clear hr hb1 r1 r2 q0 q1 q2 I2 HQ b1
  have y0 : Below w1.heap.size w1 (w1.alloc (.cells #[.slice sa nS sk, .slice none 0 0] 26)) := (Below.refl _ _).alloc (Nat.le_refl _) _
  have y1 := heap_alloc_new w1 (.cells #[.slice sa nS sk, .slice none 0 0] 26)
  have y2 : w1.heap.size < (w1.alloc (.cells #[.slice sa nS sk, .slice none 0 0] 26)).heap.size := by simp
  have Y := hide (show (w1.alloc (.cells #[.slice sa nS sk, .slice none 0 0] 26)).heap[w.heap.size + 1]? = some (.cells #[.slice none 0 0, .slice none 0 0] 26) ∧ (w1.alloc (.cells #[.slice sa nS sk, .slice none 0 0] 26)).heap[w1.heap.size]? = some (.cells #[.slice sa nS sk, .slice none 0 0] 26) ∧ Below w1.heap.size w1 (w1.alloc (.cells #[.slice sa nS sk, .slice none 0 0] 26)) from ⟨(y0.block _ (by omega)).trans HR0.out, y1, y0⟩)
  clear y0 y1
  go_wp2_with fail
  generalize (w1.alloc (.cells #[.slice sa nS sk, .slice none 0 0] 26)) = W3 at *
  clear y3
  go_loopw [23] (fun i wx => ∃ (k n : Nat) (aw : Option Addr) (cw : Nat) (A2 : Nat → Int) (X2 : Nat → ByteArray), k ≤ nC ∧ n ≤ k ∧ i = .int .i64 k ∧ Hid (wx.ownsRow w1.heap.size 70 2 (.slice aw n cw) n (wL A2 X2 n)) ∧ Hid ((∀ j, flS S A2 X2 (fun _ => true) n j = flS S A X (fun j => decide (j < nK) && Kf j) k j) ∧ ∀ j, j < n → ∃ i, i < nC ∧ A2 j = A i ∧ X2 j = X i) ∧ Hid (∀ b, (Value.slice aw n cw).ownBlock = some b → b ≠ w1.heap.size) ∧ Hid (wx.heap[w.heap.size + 1]? = some (.cells #[.slice none 0 0, .slice none 0 0] 26) ∧ wx.heap[w1.heap.size]? = some (.cells #[.slice sa nS sk, .slice aw n cw] 26) ∧ Below w1.heap.size w1 wx) ∧ w1.heap.size < wx.heap.size) (fun i _ => nC - (intOf i).toNat)
  case atStart => exact ⟨0, 0, none, 0, A, X, Nat.zero_le _, Nat.le_refl _, rfl, World.ownsRow_nil _ _ _ _, ⟨fun j => rfl, fun j hj => by omega⟩, (fun b h => by cases h), Y, y2⟩
  case round =>
    clear Y y2
    obtain ⟨k, n, aw, cw, A2, X2, hk, hnk, rfl, hown, hA, NE, hst, hsz⟩ := hrel
    by_cases hlt : k < nC
    · have hlt' : (k : Int) < (nC : Int) := by omega
      obtain ⟨y, hy⟩ : ∃ y, y = A k := ⟨_, rfl⟩
      obtain ⟨x, hx⟩ : ∃ x, x = X k := ⟨_, rfl⟩
      obtain ⟨r, o, er, hrw, hcells⟩ : ∃ r o, ca = some ⟨r, o, none⟩ ∧ r < w.heap.size ∧ ∀ i, i < 2 → w.cell? ⟨r, o + 2 * k + i, none⟩ = some (cWr A X k i) := by
        obtain ⟨_, _, e, _, ⟨a2, c2, e2, hl, h0 | ⟨r, o, er, hr, hcell⟩⟩⟩ := HI.out
        · omega
        · cases e
          cases e2
          exact ⟨r, o, er, hr, hcell k hlt⟩
      have hck' : (nC : Int) ≤ (ck : Int) := by
        obtain ⟨_, _, e, _, ⟨a2, c2, e2, hl, _⟩⟩ := HI.out
        cases e
        cases e2
        omega
      obtain ⟨q, hq⟩ : ∃ q, q = o + 2 * k := ⟨_, rfl⟩
      have bwr := B1.out.trans (hst.out.2.2.mono (by omega))
      have y0 : wr.cell? ⟨r, q, none⟩ = some (.int .i64 y) := by rw [hq, hy]; exact (bwr.cell (p := ⟨r, o + 2 * k, none⟩) hrw).trans (hcells 0 (by omega))
      have y1 : wr.cell? ⟨r, q + 1, none⟩ = some (.string x) := by rw [hq, hx]; exact (bwr.cell (p := ⟨r, o + 2 * k + 1, none⟩) hrw).trans (hcells 1 (by omega))
      have n1 : o + 2 * k = q := hq.symm
      have n2 : o + k * 2 = q := by omega
      have HX := hide (And.intro hy hx)
      have hk4 : (k : Int) ≤ 400 := by omega
      have W0 : Below wr.heap.size wr (wr.alloc (.cells #[.int .i64 y, .string x] 70)) := (Below.refl _ _).alloc (Nat.le_refl _) _
      have e8 : (wr.alloc (.cells #[.int .i64 y, .string x] 70)).cell? ⟨w1.heap.size, 1, none⟩ = some (.slice aw n cw) := by
        have h := (W0.block w1.heap.size (by omega)).trans hst.out.2.1
        simp [World.cell?, h]
      have z8 : (wr.alloc (.cells #[.int .i64 y, .string x] 70)).frozen? ⟨w1.heap.size, 1, none⟩ = false := by
        have h := (W0.block w1.heap.size (by omega)).trans hst.out.2.1
        simp [World.frozen?, h]
      have W1_ := hide (show (wr.alloc (.cells #[.int .i64 y, .string x] 70)).heap[w.heap.size + 1]? = some (.cells #[.slice none 0 0, .slice none 0 0] 26) ∧ (wr.alloc (.cells #[.int .i64 y, .string x] 70)).heap[w1.heap.size]? = some (.cells #[.slice sa nS sk, .slice aw n cw] 26) ∧ Below w1.heap.size w1 (wr.alloc (.cells #[.int .i64 y, .string x] 70)) from ⟨(W0.block _ (by omega)).trans hst.out.1, (W0.block _ (by omega)).trans hst.out.2.1, hst.out.2.2.trans (W0.mono (by omega))⟩)
      have O8 := hide (own_of_block hown.out (fun g hg => W0.block g (hown.out.lt g hg).2))
      have hsw : wr.heap.size < (wr.alloc (.cells #[.int .i64 y, .string x] 70)).heap.size := by simp
      have HSW := hide hsw
      subst er
      clear hy hx hq hcells bwr W0 hsw
      by_cases hkn : k < nK
      · have hkn' : (k : Int) < (nK : Int) := by omega
        have dk : decide ((k : Int) < (nK : Int)) = true := decide_eq_true hkn'
        have dkn : decide (k < nK) = true := decide_eq_true hkn
        obtain ⟨kr, ko, ker, hkr, hkc⟩ : ∃ r o, ka = some ⟨r, o, none⟩ ∧ r < w.heap.size ∧ w.cell? ⟨r, o + k, none⟩ = some (.bool (Kf k)) := by
          obtain ⟨a2, c2, e2, hl, h0 | ⟨r, o, er, hr, hcell⟩⟩ := HKB.out
          · omega
          · cases e2
            exact ⟨r, o, er, hr, hcell k hkn⟩
        have hkk' : (nK : Int) ≤ (kk : Int) := by
          obtain ⟨a2, c2, e2, hl, _⟩ := HKB.out
          cases e2
          omega
        have k8 : (wr.alloc (.cells #[.int .i64 y, .string x] 70)).cell? ⟨kr, ko + k, none⟩ = some (.bool (Kf k)) := ((B1.out.trans (W1_.out.2.2.mono (by omega))).cell (p := ⟨kr, ko + k, none⟩) hkr).trans hkc
        subst ker
        clear hkc
        cases hKf : Kf k with
        | false =>
          rw [hKf] at k8
          have KP := hide (show (decide (k < nK) && Kf k) = false by rw [hKf]; simp)
          clear hKf
          have FL := hide (show ∀ j, flS S A2 X2 (fun _ => true) n j = flS S A X (fun j => decide (j < nK) && Kf j) (k + 1) j from fun j => by
            rw [flS_skip (by simp [KP.out])]; exact hA.out.1 j)
          have IN := hide (show ∀ j, j < n → ∃ i, i < nC ∧ A2 j = A i ∧ X2 j = X i from hA.out.2)
          clear e8 z8
          go_wp2_with fail
          go_roundw
          case rel => exact ⟨k + 1, n, aw, cw, A2, X2, by omega, by omega, by go_num, O8, ⟨FL.out, IN.out⟩, NE, W1_, by have := HSW.out; omega⟩
          case measure => simp [intOf]; omega
        | true =>
          rw [hKf] at k8
          have KP := hide (show (decide (k < nK) && Kf k) = true by rw [hKf, dkn]; rfl)
          clear hKf
          obtain ⟨A3, hA3⟩ : ∃ A3 : Nat → Int, A3 = fun j => if j = n then A k else A2 j := ⟨_, rfl⟩
          obtain ⟨X3, hX3⟩ : ∃ X3 : Nat → ByteArray, X3 = fun j => if j = n then X k else X2 j := ⟨_, rfl⟩
          have FL := hide (show ∀ j, flS S A3 X3 (fun _ => true) (n + 1) j = flS S A X (fun j => decide (j < nK) && Kf j) (k + 1) j from fun j => by
            rw [flS_take (kp := fun j => decide (j < nK) && Kf j) KP.out]
            show (if true = true ∧ (j : Int) = A3 n then X3 n else flS S A3 X3 (fun _ => true) n j) = _
            rw [hA3, hX3]
            simp only [if_pos, true_and]
            rw [flS_congr S _ _ A2 X2 n (fun i hi => by show (if i = n then A k else A2 i) = A2 i ∧ (if i = n then X k else X2 i) = X2 i; rw [if_neg (by omega), if_neg (by omega)]; exact ⟨rfl, rfl⟩) j, hA.out.1 j])
          have IN := hide (show ∀ j, j < n + 1 → ∃ i, i < nC ∧ A3 j = A i ∧ X3 j = X i from fun j hj => by
            rw [hA3, hX3]
            by_cases e : j = n
            · exact ⟨k, hlt, by simp [e], by simp [e]⟩
            · obtain ⟨i, h1, h2, h3⟩ := hA.out.2 j (by omega)
              exact ⟨i, h1, by simp [e, h2], by simp [e, h3]⟩)
          have WL := hide (show wL A3 X3 (n + 1) = wL A2 X2 n ++ [.int .i64 y, .string x] by
            rw [wL_more]
            have e1 : wL A3 X3 n = wL A2 X2 n := wL_congr n (fun i hi => by rw [hA3, hX3]; simp [show i ≠ n by omega])
            rw [e1, hA3, hX3, HX.out.1, HX.out.2]
            simp)
          have hn4' : n ≤ 400 := by omega
          clear hA3 hX3
          go_wp2_with (at_builtin; refine wpList_append_any _ rfl _ _ 24 rfl w1.heap.size 70 iw (.agg #[.int .i64 0, .string ⟨#[]⟩]) 2 24 Try.underlying24 hiw hzw0 hzw1 hzw2 rfl (by decide) (.slice aw n cw) n _ rfl (O8.out.alloc _) (some ⟨wr.heap.size + 1, 0, none⟩) 1 1 [.int .i64 y, .string x] rfl rfl (.inr ⟨_, rfl, news_at _ _ _ _ _ (by simp)⟩) (by intro u hu; simp at hu; rcases hu with rfl | rfl <;> rfl) (by unfold maxLen; omega) (by omega) (by simp; have := HSW.out; omega) ?_)
          intro v9 w9 o9 g9 t9
          obtain ⟨a9, c9, ea⟩ := own_slice o9
          subst ea
          have hsw := HSW.out
          have g0 : ∀ b, b < wr.heap.size → some b ≠ (Value.slice aw n cw).ownBlock → w9.heap[b]? = wr.heap[b]? := fun b h1 h2 => (g9.block b (by simp; omega) h2).trans ((Below.heap_alloc _ _ _ (by simp; omega)).trans (Below.heap_alloc _ _ _ (by omega)))
          have r1 := (g0 w1.heap.size (by omega) (fun e => NE.out _ e.symm rfl)).trans hst.out.2.1
          have r0 := (g0 (w.heap.size + 1) (by omega) (fun e => by have := (hown.out.lt _ e.symm).1; omega)).trans hst.out.1
          have bw : Below w1.heap.size w1 w9 := ((W1_.out.2.2.alloc W1_.out.2.2.size _)).grown g9 (by simp; omega) (fun k hk => by have := (hown.out.lt k hk).1; omega)
          have d0 : w9.cell? ⟨w1.heap.size, 1, none⟩ = some (.slice aw n cw) := by simp [World.cell?, r1]
          have f0 : w9.frozen? ⟨w1.heap.size, 1, none⟩ = false := by simp [World.frozen?, r1]
          have NE9 : ∀ b, (Value.slice a9 (n + 1) c9).ownBlock = some b → b ≠ w1.heap.size := fun b e => by
            rcases t9 b e with h | h
            · exact NE.out b h
            · have := HSW.out; omega
          have R1 := hide (show (w9.setCell ⟨w1.heap.size, 1, none⟩ (.slice a9 (n + 1) c9)).ownsRow w1.heap.size 70 2 (.slice a9 (n + 1) c9) (n + 1) (wL A3 X3 (n + 1)) from own_of_block (by rw [WL.out]; exact o9) (fun b hb => set1_o _ _ _ _ _ (NE9 b hb)))
          have R2 := hide (show (w9.setCell ⟨w1.heap.size, 1, none⟩ (.slice a9 (n + 1) c9)).heap[w.heap.size + 1]? = some (.cells #[.slice none 0 0, .slice none 0 0] 26) ∧ (w9.setCell ⟨w1.heap.size, 1, none⟩ (.slice a9 (n + 1) c9)).heap[w1.heap.size]? = some (.cells #[.slice sa nS sk, .slice a9 (n + 1) c9] 26) ∧ Below w1.heap.size w1 (w9.setCell ⟨w1.heap.size, 1, none⟩ (.slice a9 (n + 1) c9)) from ⟨(set1_o _ _ _ _ _ (by omega)).trans r0, by simp [World.setCell, Array.getElem?_modify, r1], below_set bw _ 1 (by omega) _⟩)
          have R3 : w1.heap.size < (w9.setCell ⟨w1.heap.size, 1, none⟩ (.slice a9 (n + 1) c9)).heap.size := by have := g9.size; simp [World.setCell]; simp at this; omega
          have R4 := hide NE9
          clear o9 g9 t9 g0 r1 r0 bw NE9 e8 z8 k8 hown hst O8 W1_ NE hsw
          go_wp2_with fail
          go_roundw
          case rel => exact ⟨k + 1, n + 1, a9, c9, A3, X3, by omega, by omega, by go_num, R1, ⟨FL.out, IN.out⟩, R4, R2, R3⟩
          case measure => simp [intOf]; omega
      · have hkn' : ¬ (k : Int) < (nK : Int) := by omega
        have dk : decide ((k : Int) < (nK : Int)) = false := decide_eq_false hkn'
        have dkn : decide (k < nK) = false := decide_eq_false hkn
        have KP := hide (show (decide (k < nK) && Kf k) = false by rw [dkn]; rfl)
        have FL := hide (show ∀ j, flS S A2 X2 (fun _ => true) n j = flS S A X (fun j => decide (j < nK) && Kf j) (k + 1) j from fun j => by
          rw [flS_skip (by simp [KP.out])]; exact hA.out.1 j)
        have IN := hide (show ∀ j, j < n → ∃ i, i < nC ∧ A2 j = A i ∧ X2 j = X i from hA.out.2)
        clear e8 z8
        go_wp2_with fail
        go_roundw
        case rel => exact ⟨k + 1, n, aw, cw, A2, X2, by omega, by omega, by go_num, O8, ⟨FL.out, IN.out⟩, NE, W1_, by have := HSW.out; omega⟩
        case measure => simp [intOf]; omega
    · have hlt' : ¬ (k : Int) < (nC : Int) := by omega
      have hkn : nC = k := by omega
      have x0 : wr.cell? ⟨w1.heap.size, 0, none⟩ = some (.slice sa nS sk) := by simp [World.cell?, hst.out.2.1]
      have x1 : wr.cell? ⟨w1.heap.size, 1, none⟩ = some (.slice aw n cw) := by simp [World.cell?, hst.out.2.1]
      have OK2 : dskOk nS S n A2 X2 := ⟨HOK.out.1, by omega, HOK.out.2.2.1, fun j hj => by
        obtain ⟨i, h1, h2, h3⟩ := hA.out.2 j hj
        rw [h2, h3]; exact HOK.out.2.2.2 i h1⟩
      have IS : dskI wr wr.heap.size (.agg #[.slice sa nS sk, .slice aw n cw]) nS S n A2 X2 := by
        obtain ⟨_, _, e, h, _⟩ := I3.out
        cases e
        exact ⟨_, _, rfl, (h.below hst.out.2.2).wide hst.out.2.2.size, (own_val2 hown.out).sli.congr (fun j _ i hi => by show cWr A2 X2 ((2 * j + i) / 2) ((2 * j + i) % 2) = _; rw [show (2 * j + i) / 2 = j by omega, show (2 * j + i) % 2 = i by omega])⟩
      have ST := hide (imp_settled _ nS S n A2 X2 wr OK2 IS)
      have HR := hide hst.out.1
      have HB := hide (B1.out.trans (hst.out.2.2.mono (by omega)))
      have FE := hide (show flS S A2 X2 (fun _ => true) n = flS S A X (fun j => decide (j < nK) && Kf j) nC from funext fun j => by rw [hkn]; exact hA.out.1 j)
      have hsr := hst.out.2.2.size
      clear hown hA NE hst OK2 IS hkn
      go_wp2_with fail
      refine ST.out.mono ?_
      rintro e w2 ⟨o, rfl, hd, hb2⟩
      rw [FE.out] at hd
      clear x0 x1 B1
      have B1 := HB
      obtain ⟨a, b, c, d, eo⟩ := hd.shape
      subst eo
      have r2 := (hb2.block (w.heap.size + 1) (by omega)).trans HR.out
      have c10 : w2.cell? ⟨w.heap.size + 1, 0, none⟩ = some (.slice none 0 0) := by simp [World.cell?, r2]
      have c11 : w2.cell? ⟨w.heap.size + 1, 1, none⟩ = some (.slice none 0 0) := by simp [World.cell?, r2]
      have f10 : w2.frozen? ⟨w.heap.size + 1, 0, none⟩ = false := by simp [World.frozen?, r2]
      have f11 : w2.frozen? ⟨w.heap.size + 1, 1, none⟩ = false := by simp [World.frozen?, r2]
      have HD := hide hd
      have B2 := hide (B1.out.trans (hb2.mono (by omega)))
      have HR2 := hide r2
      clear hd hb2 r2 HR
      go_wp2_with fail
      have u1 : ((w2.setCell ⟨w.heap.size + 1, 0, none⟩ (.slice a nS b)).setCell ⟨w.heap.size + 1, 1, none⟩ (.slice c 0 d)).heap[w.heap.size + 1]? = some (.cells #[.slice a nS b, (.slice c 0 d)] 26) := by simp [World.setCell, Array.getElem?_modify, HR2.out]
      have u2 : ((w2.setCell ⟨w.heap.size + 1, 0, none⟩ (.slice a nS b)).setCell ⟨w.heap.size + 1, 1, none⟩ (.slice c 0 d)).heap.size = w2.heap.size := by simp [World.setCell]
      have u4 := HD.out.set2 (w.heap.size + 1) (by omega) (.slice a nS b) (.slice c 0 d)
      have u6 : Below w.heap.size w ((w2.setCell ⟨w.heap.size + 1, 0, none⟩ (.slice a nS b)).setCell ⟨w.heap.size + 1, 1, none⟩ (.slice c 0 d)) := below_set (below_set B2.out _ 0 (by omega) _) _ 1 (by omega) _
      generalize ((w2.setCell ⟨w.heap.size + 1, 0, none⟩ (.slice a nS b)).setCell ⟨w.heap.size + 1, 1, none⟩ (.slice c 0 d)) = w9 at *
      exact bodyPost_ret (results_cell_row Try.results15 _ _ (w.heap.size + 1) 26 #[.slice a nS b, (.slice c 0 d)] (0, 0) _ rfl u1 Try.underlying26 rfl (by kernel_rfl)) rfl ⟨_, rfl, (dskV.nil0 (A2 := A) (X2 := X) u4).span (by omega) (by omega), u6⟩
end Go.Proofs.Ytipeelkmmjgehab
