/- Put together: LayNum, PutTok. -/
import Derived.Test.YtconcnndghmdfaaGreatDoorSe35
import Derived.Test.YtconcnndghmdfaaGreatDoorSe10
namespace Go.Proofs.YtconcnndghmdfaaGreatDoor
open Go.RowKit
theorem CodK.split {w : World} {base g N : Nat} {Mo : Nat → Prop} {s : RC} (h : CodK w base g N Mo s) : ∃ ob : Option Nat, (∀ k, ob = some k → (Mo k ∨ N ≤ k) ∧ k < w.heap.size) ∧ ∀ w', (∀ k, k < w.heap.size → w'.heap[k]? = w.heap[k]?) → ∀ N', CodK w' base g N' (fun k => ob = some k) s := by
  have h2 := h
  obtain ⟨ov, hr, ho, hd, hm⟩ := h
  refine ⟨ov.ownBlock, fun k hk => ⟨hm k hk, (World.ownsRow.lt ho k hk).2⟩, fun w' hw N' => ?_⟩
  exact CodK.keep (N := N') (Mo := fun k => ov.ownBlock = some k) ⟨ov, hr, ho, hd, fun k hk => .inl hk⟩ hw
theorem CodK.join {w : World} {base g N N' : Nat} {Mo : Nat → Prop} {ob : Option Nat} {s : RC} (h : CodK w base g N' (fun k => ob = some k) s) (hob : ∀ k, ob = some k → Mo k ∨ N ≤ k) (hN : N ≤ N') : CodK w base g N Mo s := by
  obtain ⟨ov, hr, ho, hd, hm⟩ := h
  exact ⟨ov, hr, ho, hd, fun k hk => by rcases hm k hk with h | h; exact hob k h; exact .inr (by omega)⟩
theorem FrK.join {w w' : World} {g N N' : Nat} {Mo : Nat → Prop} {ob : Option Nat} (h : FrK N' g (fun k => ob = some k) w w') (hob : ∀ k, ob = some k → Mo k ∨ N ≤ k) (hN : N ≤ N') : FrK N g Mo w w' :=
  ⟨h.1, fun k h1 h2 h3 => h.2 k (by omega) h2 (fun e => by rcases hob k e with h | h; exact h3 h; omega)⟩
set_option maxRecDepth 100000 in
set_option maxHeartbeats 800000 in
theorem imp_newCoder (w : World) :
    Calls Tryz.prog 53 #[] w fun e w' => ∃ g, e = .returned (.pointer (some ⟨g, 0, none⟩)) ∧ w.heap.size ≤ g ∧ (∀ N Mo, CodK w' w.heap.size g N Mo rc0) ∧ Below w.heap.size w w' := by
  go_enter Tryz.func53, Tryz.ntmps53
  go_wp2_with fail
  refine (imp_parting w).mono ?_
  rintro e w2 ⟨rfl, hb2⟩
  have HBT := hide (Tryz.builtCod 4294967295 fun _ => 1024)
  have B2 := hide hb2
  clear hb2
  go_wp2_with (first | (with_reducible (show wpList _ _ _ ({ dst := _, op := .build _ _, type := _, pos := _, after := _, guard := _ } :: _) _ _); refine wpList_build_1 rfl 112 0 _ rfl (.agg (vL 1601 (parF 4294967295 fun _ => 1024)).toArray) rfl _ HBT.out ?_))
  have R3 := vrow_alloc w2 112 1603 (cdF 4294967295 (fun _ => 1024) 0 (.slice none 0 0))
  have B3 := hide (B2.out.alloc B2.out.size (.cells (vL 1603 (cdF 4294967295 (fun _ => 1024) 0 (.slice none 0 0))).toArray 112))
  have hg2 := B2.out.size
  have C3 := hide (show ∀ N Mo, CodK (w2.alloc (.cells (vL 1603 (cdF 4294967295 (fun _ => 1024) 0 (.slice none 0 0))).toArray 112)) w.heap.size w2.heap.size N Mo rc0 from fun N Mo => ⟨.slice none 0 0, R3, ⟨rfl, .inl ⟨rfl, rfl⟩⟩, by simp [Value.ownBlock], by simp [Value.ownBlock]⟩)
  clear R3 HBT
  go_ret
  exact ⟨_, rfl, hg2, C3.out, B3.out⟩
theorem wraps_u8 (n : Int) (h₀ : 0 ≤ n) (h₁ : n < 2 ^ 8) : IntKind.u8.wrap n = n := by rw [IntKind.wrap_u8]; omega
theorem bit_q8 (n k : Nat) (h : n < 256) : bits .and .u8 ((n : Int) / 2 ^ k) 1 = ((n / 2 ^ k % 2 : Nat) : Int) := by
  have e : (n : Int) / 2 ^ k = ((n / 2 ^ k : Nat) : Int) := by simp
  have hle : n / 2 ^ k ≤ n := Nat.div_le_self _ _
  rw [e]
  generalize n / 2 ^ k = q at *
  have h2 := bits_mask .u8 8 (by decide) wraps_u8 1 (by decide) (q : Int) (by omega) (by omega)
  have e1 : ((2 : Int) ^ 1 - 1) = 1 := rfl
  rw [e1] at h2
  rw [h2]
  simp
set_option maxRecDepth 100000 in
set_option maxHeartbeats 1600000 in
theorem imp_lay8 (b0 g n many base N : Nat) (Mo : Nat → Prop) (s : RC) (w : World) (hn : n < 256) (hm : many ≤ 8) (hb : base ≤ 400) (hok : RcOk s) (hsn : s.n + many ≤ 80000) (hbg : b0 ≤ g) (hcod : CodK w b0 g N Mo s) (hN : N ≤ w.heap.size) :
    Calls Tryz.prog 87 #[.int .u8 (n : Int), .int .i64 (base : Int), .int .i64 (many : Int), .func (.func 85) #[.pointer (some ⟨g, 0, none⟩)] #[]] w fun e w' => e = .returned (.tuple #[]) ∧ CodK w' b0 g N Mo (run s (tree n many base)) ∧ Below b0 w w' ∧ FrK N g Mo w w' := by
  obtain ⟨T, hT⟩ : ∃ T, T = tree n many base := ⟨_, rfl⟩
  rw [← hT]
  have HT := hide hT
  have HC := hide hcod
  have HOK := hide hok
  have hgl : g < w.heap.size := by obtain ⟨_, hr, _⟩ := hcod; exact hr.lt
  clear hT hcod hok
  go_enter Tryz.func87, Tryz.ntmps87
  go_wp2_with fail
  go_loopw [8, 9] (fun nd i wx => ∃ (r node : Nat) (k : List (Nat × Bool)), r ≤ many ∧ node < 2 ^ (many - r + 1) ∧ i = .int .i64 ((r : Int) - 1) ∧ nd = .int .i64 (node : Nat) ∧ k.length + r = many ∧ Hid (k ++ treeG n base r node = T) ∧ Hid (CodK wx b0 g N Mo (run s k)) ∧ Hid (Below b0 w wx) ∧ Hid (FrK N g Mo w wx) ∧ N ≤ wx.heap.size) (fun _ i _ => (intOf i + 1).toNat)
  case atStart => exact ⟨many, 1, [], Nat.le_refl _, by rw [Nat.sub_self]; decide, by go_num, rfl, by simp, HT.out.symm, HC, Below.refl _ _, FrK.refl _ _ _ _, hN⟩
  case round =>
    clear HC hN
    obtain ⟨r, node, k, hr, hnd, rfl, rfl, hkl, hk, hcod, hbl, hfr, hNr⟩ := hrel
    have hnode : node < 2048 := Nat.lt_of_lt_of_le hnd (Nat.le_trans (Nat.pow_le_pow_right (by omega) (show many - r + 1 ≤ 11 by omega)) (by decide))
    by_cases hr0 : 0 < r
    · obtain ⟨q, hq⟩ : ∃ q, q = r - 1 := ⟨_, rfl⟩
      have hnode1 : node < 1024 := Nat.lt_of_lt_of_le hnd (Nat.le_trans (Nat.pow_le_pow_right (by omega) (show many - r + 1 ≤ 10 by omega)) (by decide))
      have es : (r : Int) - 1 = (q : Int) := by omega
      rw [es]
      have hs0 : (0 : Int) ≤ (q : Int) := by omega
      have hs10 : (q : Int) ≤ 9 := by omega
      have hnode' : (node : Int) < 2048 := by omega
      have hbq := bit_q8 n q hn
      have hmin : min q 8 = q := Nat.min_eq_left (by omega)
      obtain ⟨t, ht⟩ : ∃ t, t = n / 2 ^ q % 2 := ⟨_, rfl⟩
      rw [← ht] at hbq
      obtain ⟨bit, hbit⟩ : ∃ b, b = bitAt n q := ⟨_, rfl⟩
      have hbt : ((t : Int) == 1) = bit := by
        rw [hbit, bitAt, ← ht]
        by_cases h1 : t = 1
        · rw [h1]; rfl
        · rw [decide_eq_false h1, beq_eq_false_iff_ne]; omega
      obtain ⟨c, hc⟩ : ∃ c, c = base + node := ⟨_, rfl⟩
      have s1 : (base : Int) + (node : Int) = (c : Int) := by omega
      have hr1 : r - 1 = q := hq.symm
      have HK := hide (show (k ++ [(c, bit)]) ++ treeG n base q (2 * node + bN bit) = T by
        rw [← hk.out, show r = q + 1 by omega, hc, hbit, List.append_assoc]; rfl)
      have HND := hide (show 2 * node + bN bit < 2 ^ (many - q + 1) by
        have := bN_le bit
        rw [show many - q + 1 = (many - r + 1) + 1 by omega, Nat.pow_succ]; omega)
      obtain ⟨ob, hob, hcut⟩ := hcod.out.split
      obtain ⟨z, hz⟩ : ∃ z, z = wr.heap.size := ⟨_, rfl⟩
      have hws := hbl.out.size
      have hal : Below wr.heap.size wr (wr.alloc (.cells #[.int .i64 (c : Int), .bool bit] 122)) := (Below.refl _ wr).alloc (Nat.le_refl _) _
      have SP := hide (imp_putK b0 g c (wr.alloc (.cells #[.int .i64 (c : Int), .bool bit] 122)).heap.size (fun j => ob = some j) bit (run s k) (wr.alloc (.cells #[.int .i64 (c : Int), .bool bit] 122)) (run_ok k s HOK.out) (by have := run_n_le k s; omega) (by omega) hbg (hcut _ hal.block _) (Nat.le_refl _))
      have HA := hide (And.intro hal (And.intro hz hob))
      have HS := hide (And.intro hq (And.intro hr hkl))
      clear ht hbit hc hk hq es hnd hkl hal hz hob hcut
      go_wp2_with fail
      refine SP.out.mono ?_
      obtain ⟨hal, hz, hob⟩ := HA.out
      rintro e w9 ⟨rfl, hc9, hb9, hf9⟩
      have zs : (wr.alloc (.cells #[.int .i64 (c : Int), .bool bit] 122)).heap.size = z + 1 := by simp [hz]
      have q9 : w9.heap[z]? = some (.cells #[.int .i64 (c : Int), .bool bit] 122) := (hf9.2 z (by omega) (by omega) (fun e => by have := (hob z e).2; omega)).trans (by rw [hz]; exact heap_alloc_new wr _)
      have e0 : w9.cell? ⟨z, 0, none⟩ = some (.int .i64 (c : Int)) := by simp [World.cell?, q9]
      have e1 : w9.cell? ⟨z, 1, none⟩ = some (.bool bit) := by simp [World.cell?, q9]
      have C9 := hide (show CodK w9 b0 g N Mo (run s (k ++ [(c, bit)])) by rw [run_snoc]; exact hc9.join (fun j hj => (hob j hj).1) (by omega))
      have F9 := hide (show FrK N g Mo w w9 from hfr.out.trans ((FrK.of_below hal hNr).trans (hf9.join (fun j hj => (hob j hj).1) (by omega))))
      have B9 := hide ((hbl.out.trans (hal.mono (by omega))).trans hb9)
      have hN9 : N ≤ w9.heap.size := by have := hf9.1; omega
      rw [← hz]
      clear HA SP hal hz hob hc9 hb9 hf9 q9 zs hcod hbl hfr
      go_wp2_with fail
      refine (imp_below node bit w9 (by omega)).mono ?_
      rintro e w10 ⟨rfl, rfl⟩
      obtain ⟨nn, hnn⟩ : ∃ nn, nn = 2 * node + bN bit := ⟨_, rfl⟩
      rw [← hnn] at HK HND ⊢
      clear hnn e0 e1
      go_wp2_with fail
      go_roundw
      case rel => exact ⟨q, nn, k ++ [(c, bit)], by have := HS.out; omega, HND.out, by go_num, rfl, by have := HS.out; simp; omega, HK, C9, B9, F9, hN9⟩
      case measure => simp [intOf]
    · have hr1 : r = 0 := by omega
      have hlt : ¬ (0 : Int) ≤ (r : Int) - 1 := by omega
      have e := hk.out
      rw [hr1] at e
      have e2 : k = T := by rw [← e]; simp [treeG]
      have HO := hide (show CodK wr b0 g N Mo (run s T) by rw [← e2]; exact hcod.out)
      clear hcod e e2 hk hr1
      go_wp2_with fail
      go_end0
      exact ⟨rfl, HO.out, hbl.out, hfr.out⟩
set_option maxRecDepth 100000 in
set_option maxHeartbeats 1600000 in
theorem imp_lay64 (b0 g n many base N : Nat) (Mo : Nat → Prop) (s : RC) (w : World) (hn : n < 1048576) (hm : many ≤ 10) (hb : base ≤ 400) (hok : RcOk s) (hsn : s.n + many ≤ 80000) (hbg : b0 ≤ g) (hcod : CodK w b0 g N Mo s) (hN : N ≤ w.heap.size) :
    Calls Tryz.prog 88 #[.int .i64 (n : Int), .int .i64 (base : Int), .int .i64 (many : Int), .func (.func 85) #[.pointer (some ⟨g, 0, none⟩)] #[]] w fun e w' => e = .returned (.tuple #[]) ∧ CodK w' b0 g N Mo (run s (tree n many base)) ∧ Below b0 w w' ∧ FrK N g Mo w w' := by
  obtain ⟨T, hT⟩ : ∃ T, T = tree n many base := ⟨_, rfl⟩
  rw [← hT]
  have HT := hide hT
  have HC := hide hcod
  have HOK := hide hok
  have hgl : g < w.heap.size := by obtain ⟨_, hr, _⟩ := hcod; exact hr.lt
  clear hT hcod hok
  go_enter Tryz.func88, Tryz.ntmps88
  go_wp2_with fail
  go_loopw [8, 9] (fun nd i wx => ∃ (r node : Nat) (k : List (Nat × Bool)), r ≤ many ∧ node < 2 ^ (many - r + 1) ∧ i = .int .i64 ((r : Int) - 1) ∧ nd = .int .i64 (node : Nat) ∧ k.length + r = many ∧ Hid (k ++ treeG n base r node = T) ∧ Hid (CodK wx b0 g N Mo (run s k)) ∧ Hid (Below b0 w wx) ∧ Hid (FrK N g Mo w wx) ∧ N ≤ wx.heap.size) (fun _ i _ => (intOf i + 1).toNat)
  case atStart => exact ⟨many, 1, [], Nat.le_refl _, by rw [Nat.sub_self]; decide, by go_num, rfl, by simp, HT.out.symm, HC, Below.refl _ _, FrK.refl _ _ _ _, hN⟩
  case round =>
    clear HC hN
    obtain ⟨r, node, k, hr, hnd, rfl, rfl, hkl, hk, hcod, hbl, hfr, hNr⟩ := hrel
    have hnode : node < 2048 := Nat.lt_of_lt_of_le hnd (Nat.le_trans (Nat.pow_le_pow_right (by omega) (show many - r + 1 ≤ 11 by omega)) (by decide))
    by_cases hr0 : 0 < r
    · obtain ⟨q, hq⟩ : ∃ q, q = r - 1 := ⟨_, rfl⟩
      have hnode1 : node < 1024 := Nat.lt_of_lt_of_le hnd (Nat.le_trans (Nat.pow_le_pow_right (by omega) (show many - r + 1 ≤ 10 by omega)) (by decide))
      have es : (r : Int) - 1 = (q : Int) := by omega
      rw [es]
      have hs0 : (0 : Int) ≤ (q : Int) := by omega
      have hs10 : (q : Int) ≤ 9 := by omega
      have hnode' : (node : Int) < 2048 := by omega
      have hbq := bit_q n q hn
      obtain ⟨t, ht⟩ : ∃ t, t = n / 2 ^ q % 2 := ⟨_, rfl⟩
      rw [← ht] at hbq
      obtain ⟨bit, hbit⟩ : ∃ b, b = bitAt n q := ⟨_, rfl⟩
      have hbt : ((t : Int) == 1) = bit := by
        rw [hbit, bitAt, ← ht]
        by_cases h1 : t = 1
        · rw [h1]; rfl
        · rw [decide_eq_false h1, beq_eq_false_iff_ne]; omega
      obtain ⟨c, hc⟩ : ∃ c, c = base + node := ⟨_, rfl⟩
      have s1 : (base : Int) + (node : Int) = (c : Int) := by omega
      have hr1 : r - 1 = q := hq.symm
      have HK := hide (show (k ++ [(c, bit)]) ++ treeG n base q (2 * node + bN bit) = T by
        rw [← hk.out, show r = q + 1 by omega, hc, hbit, List.append_assoc]; rfl)
      have HND := hide (show 2 * node + bN bit < 2 ^ (many - q + 1) by
        have := bN_le bit
        rw [show many - q + 1 = (many - r + 1) + 1 by omega, Nat.pow_succ]; omega)
      obtain ⟨ob, hob, hcut⟩ := hcod.out.split
      obtain ⟨z, hz⟩ : ∃ z, z = wr.heap.size := ⟨_, rfl⟩
      have hws := hbl.out.size
      have hal : Below wr.heap.size wr (wr.alloc (.cells #[.int .i64 (c : Int), .bool bit] 122)) := (Below.refl _ wr).alloc (Nat.le_refl _) _
      have SP := hide (imp_putK b0 g c (wr.alloc (.cells #[.int .i64 (c : Int), .bool bit] 122)).heap.size (fun j => ob = some j) bit (run s k) (wr.alloc (.cells #[.int .i64 (c : Int), .bool bit] 122)) (run_ok k s HOK.out) (by have := run_n_le k s; omega) (by omega) hbg (hcut _ hal.block _) (Nat.le_refl _))
      have HA := hide (And.intro hal (And.intro hz hob))
      have HS := hide (And.intro hq (And.intro hr hkl))
      clear ht hbit hc hk hq es hnd hkl hal hz hob hcut
      go_wp2_with fail
      refine SP.out.mono ?_
      obtain ⟨hal, hz, hob⟩ := HA.out
      rintro e w9 ⟨rfl, hc9, hb9, hf9⟩
      have zs : (wr.alloc (.cells #[.int .i64 (c : Int), .bool bit] 122)).heap.size = z + 1 := by simp [hz]
      have q9 : w9.heap[z]? = some (.cells #[.int .i64 (c : Int), .bool bit] 122) := (hf9.2 z (by omega) (by omega) (fun e => by have := (hob z e).2; omega)).trans (by rw [hz]; exact heap_alloc_new wr _)
      have e0 : w9.cell? ⟨z, 0, none⟩ = some (.int .i64 (c : Int)) := by simp [World.cell?, q9]
      have e1 : w9.cell? ⟨z, 1, none⟩ = some (.bool bit) := by simp [World.cell?, q9]
      have C9 := hide (show CodK w9 b0 g N Mo (run s (k ++ [(c, bit)])) by rw [run_snoc]; exact hc9.join (fun j hj => (hob j hj).1) (by omega))
      have F9 := hide (show FrK N g Mo w w9 from hfr.out.trans ((FrK.of_below hal hNr).trans (hf9.join (fun j hj => (hob j hj).1) (by omega))))
      have B9 := hide ((hbl.out.trans (hal.mono (by omega))).trans hb9)
      have hN9 : N ≤ w9.heap.size := by have := hf9.1; omega
      rw [← hz]
      clear HA SP hal hz hob hc9 hb9 hf9 q9 zs hcod hbl hfr
      go_wp2_with fail
      refine (imp_below node bit w9 (by omega)).mono ?_
      rintro e w10 ⟨rfl, rfl⟩
      obtain ⟨nn, hnn⟩ : ∃ nn, nn = 2 * node + bN bit := ⟨_, rfl⟩
      rw [← hnn] at HK HND ⊢
      clear hnn e0 e1
      go_wp2_with fail
      go_roundw
      case rel => exact ⟨q, nn, k ++ [(c, bit)], by have := HS.out; omega, HND.out, by go_num, rfl, by have := HS.out; simp; omega, HK, C9, B9, F9, hN9⟩
      case measure => simp [intOf]
    · have hr1 : r = 0 := by omega
      have hlt : ¬ (0 : Int) ≤ (r : Int) - 1 := by omega
      have e := hk.out
      rw [hr1] at e
      have e2 : k = T := by rw [← e]; simp [treeG]
      have HO := hide (show CodK wr b0 g N Mo (run s T) by rw [← e2]; exact hcod.out)
      clear hcod e e2 hk hr1
      go_wp2_with fail
      go_end0
      exact ⟨rfl, HO.out, hbl.out, hfr.out⟩
end Go.Proofs.YtconcnndghmdfaaGreatDoor
namespace Go.Proofs.YtconcnndghmdfaaGreatDoor
open Go.RowKit
theorem tokBits_byte (t : Tok) (h : t.f = 0) : tokBits t = (0, false) :: tree t.b.toNat 8 16 := if_pos h
theorem tokBits_match (t : Tok) (h : t.f ≠ 0) : tokBits t = (0, true) :: (tree (t.m - 3).toNat 6 300 ++ tree (t.f - 1).toNat 10 400) := if_neg h
set_option maxRecDepth 100000 in
set_option maxHeartbeats 1600000 in
theorem imp_putToken (b0 g N : Nat) (Mo : Nat → Prop) (s : RC) (t : Tok) (w : World) (ht : tokOk t = true) (hok : RcOk s) (hsn : s.n ≤ 70000) (hbg : b0 ≤ g) (hcod : CodK w b0 g N Mo s) (hN : N ≤ w.heap.size) :
    Calls Tryz.prog 55 #[.pointer (some ⟨g, 0, none⟩), .agg #[.int .i64 t.b, .int .i64 t.m, .int .i64 t.f]] w fun e w' => e = .returned (.tuple #[]) ∧ CodK w' b0 g N Mo (run s (tokBits t)) ∧ Below b0 w w' ∧ FrK N g Mo w w' := by
  have HC := hide hcod
  have HOK := hide hok
  have hgl : g < w.heap.size := by obtain ⟨_, hr, _⟩ := hcod; exact hr.lt
  obtain ⟨z, hz⟩ : ∃ z, z = w.heap.size := ⟨_, rfl⟩
  obtain ⟨ob, hob, hcut⟩ := hcod.split
  have hal : Below w.heap.size w (w.alloc (.cells #[.int .i64 t.b, .int .i64 t.m, .int .i64 t.f] 80)) := (Below.refl _ w).alloc (Nat.le_refl _) _
  have C1 := hide (hcut _ hal.block (z + 1))
  have q1 : (w.alloc (.cells #[.int .i64 t.b, .int .i64 t.m, .int .i64 t.f] 80)).heap[z]? = some (.cells #[.int .i64 t.b, .int .i64 t.m, .int .i64 t.f] 80) := by rw [hz]; exact heap_alloc_new w _
  have s1 : (w.alloc (.cells #[.int .i64 t.b, .int .i64 t.m, .int .i64 t.f] 80)).heap.size = z + 1 := by simp [hz]
  have F1 := hide (FrK.of_below (g := g) (Mo := Mo) hal hN)
  have B1 := hide (hal.mono (show b0 ≤ w.heap.size by omega))
  have HOB := hide hob
  have HZ := hide hz
  have hgz : g < z := by omega
  have hNz : N ≤ z := by omega
  have htwo := tokOk_two t ht
  obtain ⟨tb, tm, tf⟩ := t
  simp only at htwo C1 q1 s1 F1 B1
  have HF := hide (show ∀ (W W' : World), FrK (z + 1) g (fun k => ob = some k) W W' → W'.heap[z]? = W.heap[z]? from fun W W' h => h.2 z (by omega) (by omega) (fun e => by have := (HOB.out z e).2; omega))
  have HJ := hide (show ∀ (W W' : World), FrK (z + 1) g (fun k => ob = some k) W W' → FrK N g Mo W W' from fun W W' h => h.join (fun j hj => (HOB.out j hj).1) (by omega))
  clear hob hcut hal hcod hok hz
  by_cases hf0 : tf = 0
  · subst hf0
    obtain ⟨hb1, hb2⟩ : 0 ≤ tb ∧ tb ≤ 255 := by rcases htwo with h | h; exact h.2; exact absurd rfl h.1
    have hm0 : tm = 0 := by
      by_cases h0 : tm = 0
      · exact h0
      · have h := ht
        unfold tokOk at h
        rw [if_neg (fun h => h0 h.1)] at h
        have := of_decide_eq_true h
        have h1 : (1 : Int) ≤ 0 := this.2.2.2.1
        omega
    subst hm0
    obtain ⟨n, rfl⟩ : ∃ n : Nat, tb = (n : Int) := ⟨tb.toNat, by omega⟩
    have wb : IntKind.u8.wrap (n : Int) = (n : Int) := by rw [IntKind.wrap_u8]; omega
    have HT := hide (show tokBits ⟨(n : Int), 0, 0⟩ = (0, false) :: tree n 8 16 from by rw [tokBits_byte _ rfl]; rfl)
    have SI := hide (show ∀ u : World, Calls Tryz.prog 86 #[.agg #[.int .i64 (n : Int), .int .i64 0, .int .i64 0]] u (fun e w' => e = .returned (.bool false) ∧ Below u.heap.size u w') from fun u => by
      have h := imp_isMatch (n : Int) 0 0 u
      rw [show ((0 : Int) != 0) = false from rfl] at h
      exact h)
    have HQ := hide q1
    clear q1 htwo ht
    go_enter Tryz.func55, Tryz.ntmps55
    go_wp2_with fail
    refine (SI.out _).mono ?_
    rw [← HZ.out]
    generalize w.alloc (.cells #[.int .i64 (n : Int), .int .i64 0, .int .i64 0] 80) = W1 at *
    rintro e w2 ⟨rfl, hb2⟩
    have hs2 := hb2.size
    have C2 := C1.out.keep hb2.block
    have q2 := (hb2.block z (by omega)).trans HQ.out
    have SP := hide (imp_putK b0 g 0 (z + 1) (fun k => ob = some k) false s w2 HOK.out (by omega) (by omega) hbg C2 (by omega))
    have F2 := hide (FrK.of_below (g := g) (Mo := Mo) hb2 (show N ≤ W1.heap.size by omega))
    have B2 := hide (B1.out.trans (hb2.mono (show b0 ≤ W1.heap.size by omega)))
    have HQ2 := hide q2
    clear hb2 C2 q2 C1 HQ B1
    go_wp2_with fail
    refine SP.out.mono ?_
    rintro e w3 ⟨rfl, C3, hb3, hf3⟩
    have hs3 := hb3.size
    have q3 := (HF.out _ _ hf3).trans HQ2.out
    have F3 := hide ((F1.out.trans F2.out).trans (HJ.out _ _ hf3))
    have B3 := hide (B2.out.trans hb3)
    have HC3 := hide C3
    have HQ3 := hide q3
    have e0 : w3.cell? ⟨z, 0, none⟩ = some (.int .i64 (n : Int)) := by simp [World.cell?, q3]
    have e1 : w3.cell? ⟨z, 1, none⟩ = some (.int .i64 0) := by simp [World.cell?, q3]
    have e2 : w3.cell? ⟨z, 2, none⟩ = some (.int .i64 0) := by simp [World.cell?, q3]
    clear C3 hb3 hf3 q3 SP B2 F1 F2 HQ2
    go_wp2_with fail
    refine (SI.out _).mono ?_
    rintro e w4 ⟨rfl, hb4⟩
    have hs4 := hb4.size
    have C4 := HC3.out.keep hb4.block
    have q4 := (hb4.block z (by omega)).trans HQ3.out
    have f0 : w4.cell? ⟨z, 0, none⟩ = some (.int .i64 (n : Int)) := by simp [World.cell?, q4]
    have f1 : w4.cell? ⟨z, 1, none⟩ = some (.int .i64 0) := by simp [World.cell?, q4]
    have f2 : w4.cell? ⟨z, 2, none⟩ = some (.int .i64 0) := by simp [World.cell?, q4]
    have F4 := hide (F3.out.trans (FrK.of_below (g := g) (Mo := Mo) hb4 (show N ≤ w3.heap.size by omega)))
    have B4 := hide (B3.out.trans (hb4.mono (show b0 ≤ w3.heap.size by omega)))
    have OK1 := step_ok s 0 false HOK.out
    have ns0 := run_n_le [(0, false)] s
    have ns1 : (step s 0 false).n ≤ s.n + 1 := ns0
    clear ns0
    have HQ4 := hide q4
    have SL := hide (imp_lay8 b0 g n 8 16 (z + 1) (fun k => ob = some k) (step s 0 false) w4 (by omega) (by omega) (by omega) OK1 (by omega) hbg C4 (by omega))
    clear hb4 C4 q4 e0 e1 e2 HC3 HQ3 F3 B3 OK1 ns1 SI
    go_wp2_with fail
    refine SL.out.mono ?_
    rintro e w5 ⟨rfl, C5, hb5, hf5⟩
    have R1 := hide (show CodK w5 b0 g N Mo (run s (tokBits ⟨(n : Int), 0, 0⟩)) by rw [HT.out]; exact C5.join (fun j hj => (HOB.out j hj).1) (by omega))
    have R2 := hide (B4.out.trans hb5)
    have R3 := hide (F4.out.trans (HJ.out _ _ hf5))
    clear C5 hb5 hf5 SL f0 f1 f2
    go_wp2_with fail
    exact bodyPost_ret (v := .tuple #[]) (by simp [results, Tryz.results55]) rfl ⟨rfl, R1.out, R2.out, R3.out⟩
  · obtain ⟨hm1, hm2, hf1, hf2⟩ : 3 ≤ tm ∧ tm ≤ 66 ∧ 1 ≤ tf ∧ tf ≤ 1024 := by rcases htwo with h | h; exact absurd h.1 hf0; exact h.2
    have hb0 : tb = 0 := by
      have h := ht
      unfold tokOk at h
      rw [if_neg (fun h => hf0 h.2)] at h
      exact (of_decide_eq_true h).1
    subst hb0
    obtain ⟨M, hM⟩ : ∃ M : Nat, M = (tm - 3).toNat := ⟨_, rfl⟩
    obtain ⟨Fa, hFa⟩ : ∃ Fa : Nat, Fa = (tf - 1).toNat := ⟨_, rfl⟩
    have HT := hide (show tokBits ⟨0, tm, tf⟩ = ((0, true) :: tree M 6 300) ++ tree Fa 10 400 from by rw [tokBits_match _ hf0, hM, hFa]; rfl)
    have hM2 : (M : Int) = tm - 3 := by omega
    have hF2 : (Fa : Int) = tf - 1 := by omega
    have hMn : M ≤ 63 := by omega
    have hFn : Fa ≤ 1023 := by omega
    clear hM hFa
    have SI := hide (show ∀ u : World, Calls Tryz.prog 86 #[.agg #[.int .i64 0, .int .i64 tm, .int .i64 tf]] u (fun e w' => e = .returned (.bool true) ∧ Below u.heap.size u w') from fun u => by
      have h := imp_isMatch 0 tm tf u
      rw [show ((tm : Int) != 0) = true from by simp; omega] at h
      exact h)
    have HQ := hide q1
    clear q1 htwo ht
    go_enter Tryz.func55, Tryz.ntmps55
    go_wp2_with fail
    refine (SI.out _).mono ?_
    rw [← HZ.out]
    generalize w.alloc (.cells #[.int .i64 0, .int .i64 tm, .int .i64 tf] 80) = W1 at *
    rintro e w2 ⟨rfl, hb2⟩
    have hs2 := hb2.size
    have C2 := C1.out.keep hb2.block
    have q2 := (hb2.block z (by omega)).trans HQ.out
    have SP := hide (imp_putK b0 g 0 (z + 1) (fun k => ob = some k) true s w2 HOK.out (by omega) (by omega) hbg C2 (by omega))
    have F2 := hide (FrK.of_below (g := g) (Mo := Mo) hb2 (show N ≤ W1.heap.size by omega))
    have B2 := hide (B1.out.trans (hb2.mono (show b0 ≤ W1.heap.size by omega)))
    have HQ2 := hide q2
    clear hb2 C2 q2 C1 HQ B1
    go_wp2_with fail
    refine SP.out.mono ?_
    rintro e w3 ⟨rfl, C3, hb3, hf3⟩
    have hs3 := hb3.size
    have q3 := (HF.out _ _ hf3).trans HQ2.out
    have F3 := hide ((F1.out.trans F2.out).trans (HJ.out _ _ hf3))
    have B3 := hide (B2.out.trans hb3)
    have HC3 := hide C3
    have HQ3 := hide q3
    have e0 : w3.cell? ⟨z, 0, none⟩ = some (.int .i64 0) := by simp [World.cell?, q3]
    have e1 : w3.cell? ⟨z, 1, none⟩ = some (.int .i64 tm) := by simp [World.cell?, q3]
    have e2 : w3.cell? ⟨z, 2, none⟩ = some (.int .i64 tf) := by simp [World.cell?, q3]
    clear C3 hb3 hf3 q3 SP B2 F1 F2 HQ2
    go_wp2_with fail
    refine (SI.out _).mono ?_
    rintro e w4 ⟨rfl, hb4⟩
    have hs4 := hb4.size
    have C4 := HC3.out.keep hb4.block
    have q4 := (hb4.block z (by omega)).trans HQ3.out
    have f0 : w4.cell? ⟨z, 0, none⟩ = some (.int .i64 0) := by simp [World.cell?, q4]
    have f1 : w4.cell? ⟨z, 1, none⟩ = some (.int .i64 tm) := by simp [World.cell?, q4]
    have f2 : w4.cell? ⟨z, 2, none⟩ = some (.int .i64 tf) := by simp [World.cell?, q4]
    have F4 := hide (F3.out.trans (FrK.of_below (g := g) (Mo := Mo) hb4 (show N ≤ w3.heap.size by omega)))
    have B4 := hide (B3.out.trans (hb4.mono (show b0 ≤ w3.heap.size by omega)))
    have OK1 := step_ok s 0 true HOK.out
    have ns0 := run_n_le [(0, true)] s
    have ns1 : (step s 0 true).n ≤ s.n + 1 := ns0
    clear ns0
    have HQ4 := hide q4
    have m1 : tm - 3 = ((M : Nat) : Int) := by omega
    have m2 : IntKind.i64.wrap (tm - 3) = ((M : Nat) : Int) := by rw [IntKind.wrap_i64]; omega
    have g1 : tf - 1 = ((Fa : Nat) : Int) := by omega
    have g2 : IntKind.i64.wrap (tf - 1) = ((Fa : Nat) : Int) := by rw [IntKind.wrap_i64]; omega
    have SL := hide (imp_lay64 b0 g M 6 300 (z + 1) (fun k => ob = some k) (step s 0 true) w4 (by omega) (by omega) (by omega) OK1 (by omega) hbg C4 (by omega))
    have HG := hide (And.intro OK1 (And.intro ns1 (And.intro g1 g2)))
    clear hM2 hF2 hb4 C4 q4 e0 e1 e2 HC3 HQ3 F3 B3 OK1 ns1 SI g1 g2
    go_wp2_with fail
    refine SL.out.mono ?_
    rintro e w5 ⟨rfl, C5, hb5, hf5⟩
    have hs5 := hb5.size
    have q5 := (HF.out _ _ hf5).trans HQ4.out
    obtain ⟨OK1, ns1, g1, g2⟩ := HG.out
    have h0 : w5.cell? ⟨z, 0, none⟩ = some (.int .i64 0) := by simp [World.cell?, q5]
    have h1 : w5.cell? ⟨z, 1, none⟩ = some (.int .i64 tm) := by simp [World.cell?, q5]
    have h2 : w5.cell? ⟨z, 2, none⟩ = some (.int .i64 tf) := by simp [World.cell?, q5]
    have F5 := hide (F4.out.trans (HJ.out _ _ hf5))
    have B5 := hide (B4.out.trans hb5)
    have ns2 := run_n_le (tree M 6 300) (step s 0 true)
    have tl : (tree M 6 300).length = 6 := treeG_len _ _ _ _
    have SL2 := hide (imp_lay64 b0 g Fa 10 400 (z + 1) (fun k => ob = some k) (run (step s 0 true) (tree M 6 300)) w5 (by omega) (by omega) (by omega) (run_ok _ _ OK1) (by omega) hbg C5 (by omega))
    clear C5 hb5 hf5 SL f0 f1 f2 m1 m2 q5 OK1 ns1 ns2 tl
    go_wp2_with fail
    refine SL2.out.mono ?_
    rintro e w6 ⟨rfl, C6, hb6, hf6⟩
    have R1 := hide (show CodK w6 b0 g N Mo (run s (tokBits ⟨0, tm, tf⟩)) by rw [HT.out, run_app]; exact C6.join (fun j hj => (HOB.out j hj).1) (by omega))
    have R2 := hide (B5.out.trans hb6)
    have R3 := hide (F5.out.trans (HJ.out _ _ hf6))
    clear C6 hb6 hf6 SL2 h0 h1 h2 g1 g2
    go_wp2_with fail
    go_end0
    exact ⟨rfl, R1.out, R2.out, R3.out⟩
end Go.Proofs.YtconcnndghmdfaaGreatDoor
