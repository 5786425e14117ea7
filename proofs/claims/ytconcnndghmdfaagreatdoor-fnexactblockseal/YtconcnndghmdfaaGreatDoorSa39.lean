/- The program's newCoder, below, layNum (at byte and at int64), putToken (written by mklay.py). -/
import Derived.Test.YtconcnndghmdfaaGreatDoorSa38
import Derived.Test.YtconcnndghmdfaaGreatDoorSa15
namespace Go.Proofs.YtconcnndghmdfaaGreatDoor
open Go.RowKit
theorem CodK.split {w : World} {base g N : Nat} {Mo : Nat → Prop} {s : RC} (h : CodK w base g N Mo s) : ∃ ob : Option Nat, (∀ k, ob = some k → (Mo k ∨ N ≤ k) ∧ k < w.heap.size) ∧ ∀ w', (∀ k, k < w.heap.size → w'.heap[k]? = w.heap[k]?) → ∀ N', CodK w' base g N' (fun k => ob = some k) s := by
  have h2 := h
  obtain ⟨ov, hr, ho, hd, hm⟩ := h
  refine ⟨ov.ownBlock, fun k hk => ⟨hm k hk, (World.ownsRow.lt ho k hk).2⟩, fun w' hw N' => ?_⟩
  exact CodK.keep (N := N') (Mo := fun k => ov.ownBlock = some k) ⟨ov, hr, ho, hd, fun k hk => .inl hk⟩ hw
theorem CodK.join {w : World} {base g N N' : Nat} {Mo : Nat → Prop} {ob : Option Nat} {s : RC} (h : CodK w base g N' (fun k => ob = some k) s) (hob : ∀ k, ob = some k → Mo k ∨ N ≤ k) (hN : N ≤ N') : CodK w base g N Mo s := by
  obtain ⟨ov, hr, ho, hd, hm⟩ := h
  exact ⟨ov, hr, ho, hd, fun k hk => by rcases hm k hk with h | h; exact hob k h; exact .inr (by omega)⟩
theorem FrK.join {w w' : World} {g N N' : Nat} {Mo : Nat → Prop} {ob : Option Nat} (h : FrK N' g (fun k => ob = some k) w w') (hob : ∀ k, ob = some k → Mo k ∨ N ≤ k) (hN : N ≤ N') : FrK N g Mo w w' :=
  ⟨h.1, fun k h1 h2 h3 => h.2 k (by omega) h2 (fun e => by rcases hob k e with h | h; exact h3 h; omega)⟩
set_option maxRecDepth 100000 in
set_option maxHeartbeats 800000 in
theorem imp_newCoder (w : World) :
    Calls Tryz.prog 53 #[] w fun e w' => ∃ g, e = .returned (.pointer (some ⟨g, 0, none⟩)) ∧ w.heap.size ≤ g ∧ (∀ N Mo, CodK w' w.heap.size g N Mo rc0) ∧ Below w.heap.size w w' := by
  go_enter Tryz.func53, Tryz.ntmps53
  go_wp2_with fail
  refine (imp_parting w).mono ?_
  rintro e w2 ⟨rfl, hb2⟩
  have HBT := hide (Tryz.builtCod 4294967295 fun _ => 1024)
  have B2 := hide hb2
  clear hb2
  go_wp2_with (first | (with_reducible (show wpList _ _ _ ({ dst := _, op := .build _ _, type := _, pos := _, after := _, guard := _ } :: _) _ _); refine wpList_build_1 rfl 112 0 _ rfl (.agg (vL 1601 (parF 4294967295 fun _ => 1024)).toArray) rfl _ HBT.out ?_))
  have R3 := vrow_alloc w2 112 1603 (cdF 4294967295 (fun _ => 1024) 0 (.slice none 0 0))
  have B3 := hide (B2.out.alloc B2.out.size (.cells (vL 1603 (cdF 4294967295 (fun _ => 1024) 0 (.slice none 0 0))).toArray 112))
  have hg2 := B2.out.size
  have C3 := hide (show ∀ N Mo, CodK (w2.alloc (.cells (vL 1603 (cdF 4294967295 (fun _ => 1024) 0 (.slice none 0 0))).toArray 112)) w.heap.size w2.heap.size N Mo rc0 from fun N Mo => ⟨.slice none 0 0, R3, ⟨rfl, .inl ⟨rfl, rfl⟩⟩, by simp [Value.ownBlock], by simp [Value.ownBlock]⟩)
  clear R3 HBT
  go_ret
  exact ⟨_, rfl, hg2, C3.out, B3.out⟩
theorem wraps_u8 (n : Int) (h₀ : 0 ≤ n) (h₁ : n < 2 ^ 8) : IntKind.u8.wrap n = n := by rw [IntKind.wrap_u8]; omega
theorem bit_q8 (n k : Nat) (h : n < 256) : bits .and .u8 ((n : Int) / 2 ^ k) 1 = ((n / 2 ^ k % 2 : Nat) : Int) := by
  have e : (n : Int) / 2 ^ k = ((n / 2 ^ k : Nat) : Int) := by simp
  have hle : n / 2 ^ k ≤ n := Nat.div_le_self _ _
  rw [e]
  generalize n / 2 ^ k = q at *
  have h2 := bits_mask .u8 8 (by decide) wraps_u8 1 (by decide) (q : Int) (by omega) (by omega)
  have e1 : ((2 : Int) ^ 1 - 1) = 1 := rfl
  rw [e1] at h2
  rw [h2]
  simp
set_option maxRecDepth 100000 in
set_option maxHeartbeats 1600000 in
theorem imp_lay8 (b0 g n many base N : Nat) (Mo : Nat → Prop) (s : RC) (w : World) (hn : n < 256) (hm : many ≤ 8) (hb : base ≤ 400) (hok : RcOk s) (hsn : s.n + many ≤ 80000) (hbg : b0 ≤ g) (hcod : CodK w b0 g N Mo s) (hN : N ≤ w.heap.size) :
    Calls Tryz.prog 87 #[.int .u8 (n : Int), .int .i64 (base : Int), .int .i64 (many : Int), .func (.func 85) #[.pointer (some ⟨g, 0, none⟩)] #[]] w fun e w' => e = .returned (.tuple #[]) ∧ CodK w' b0 g N Mo (run s (tree n many base)) ∧ Below b0 w w' ∧ FrK N g Mo w w' := by
  obtain ⟨T, hT⟩ : ∃ T, T = tree n many base := ⟨_, rfl⟩
  rw [← hT]
  have HT := hide hT
  have HC := hide hcod
  have HOK := hide hok
  have hgl : g < w.heap.size := by obtain ⟨_, hr, _⟩ := hcod; exact hr.lt
  clear hT hcod hok
  go_enter Tryz.func87, Tryz.ntmps87
  go_wp2_with fail
  go_loopw [8, 9] (fun nd i wx => ∃ (r node : Nat) (k : List (Nat × Bool)), r ≤ many ∧ node < 2 ^ (many - r + 1) ∧ i = .int .i64 ((r : Int) - 1) ∧ nd = .int .i64 (node : Nat) ∧ k.length + r = many ∧ Hid (k ++ treeG n base r node = T) ∧ Hid (CodK wx b0 g N Mo (run s k)) ∧ Hid (Below b0 w wx) ∧ Hid (FrK N g Mo w wx) ∧ N ≤ wx.heap.size) (fun _ i _ => (intOf i + 1).toNat)
  case atStart => exact ⟨many, 1, [], Nat.le_refl _, by rw [Nat.sub_self]; decide, by go_num, rfl, by simp, HT.out.symm, HC, Below.refl _ _, FrK.refl _ _ _ _, hN⟩
  case round =>
    clear HC hN
    obtain ⟨r, node, k, hr, hnd, rfl, rfl, hkl, hk, hcod, hbl, hfr, hNr⟩ := hrel
    have hnode : node < 2048 := Nat.lt_of_lt_of_le hnd (Nat.le_trans (Nat.pow_le_pow_right (by omega) (show many - r + 1 ≤ 11 by omega)) (by decide))
    by_cases hr0 : 0 < r
    · obtain ⟨q, hq⟩ : ∃ q, q = r - 1 := ⟨_, rfl⟩
      have hnode1 : node < 1024 := Nat.lt_of_lt_of_le hnd (Nat.le_trans (Nat.pow_le_pow_right (by omega) (show many - r + 1 ≤ 10 by omega)) (by decide))
      have es : (r : Int) - 1 = (q : Int) := by omega
      rw [es]
      have hs0 : (0 : Int) ≤ (q : Int) := by omega
      have hs10 : (q : Int) ≤ 9 := by omega
      have hnode' : (node : Int) < 2048 := by omega
      have hbq := bit_q8 n q hn
      have hmin : min q 8 = q := Nat.min_eq_left (by omega)
      obtain ⟨t, ht⟩ : ∃ t, t = n / 2 ^ q % 2 := ⟨_, rfl⟩
      rw [← ht] at hbq
      obtain ⟨bit, hbit⟩ : ∃ b, b = bitAt n q := ⟨_, rfl⟩
      have hbt : ((t : Int) == 1) = bit := by
        rw [hbit, bitAt, ← ht]
        by_cases h1 : t = 1
        · rw [h1]; rfl
        · rw [decide_eq_false h1, beq_eq_false_iff_ne]; omega
      obtain ⟨c, hc⟩ : ∃ c, c = base + node := ⟨_, rfl⟩
      have s1 : (base : Int) + (node : Int) = (c : Int) := by omega
      have hr1 : r - 1 = q := hq.symm
      have HK := hide (show (k ++ [(c, bit)]) ++ treeG n base q (2 * node + bN bit) = T by
        rw [← hk.out, show r = q + 1 by omega, hc, hbit, List.append_assoc]; rfl)
      have HND := hide (show 2 * node + bN bit < 2 ^ (many - q + 1) by
        have := bN_le bit
        rw [show many - q + 1 = (many - r + 1) + 1 by omega, Nat.pow_succ]; omega)
      obtain ⟨ob, hob, hcut⟩ := hcod.out.split
      obtain ⟨z, hz⟩ : ∃ z, z = wr.heap.size := ⟨_, rfl⟩
      have hws := hbl.out.size
      have hal : Below wr.heap.size wr (wr.alloc (.cells #[.int .i64 (c : Int), .bool bit] 122)) := (Below.refl _ wr).alloc (Nat.le_refl _) _
      have SP := hide (imp_putK b0 g c (wr.alloc (.cells #[.int .i64 (c : Int), .bool bit] 122)).heap.size (fun j => ob = some j) bit (run s k) (wr.alloc (.cells #[.int .i64 (c : Int), .bool bit] 122)) (run_ok k s HOK.out) (by have := run_n_le k s; omega) (by omega) hbg (hcut _ hal.block _) (Nat.le_refl _))
      have HA := hide (And.intro hal (And.intro hz hob))
      have HS := hide (And.intro hq (And.intro hr hkl))
      clear ht hbit hc hk hq es hnd hkl hal hz hob hcut
      go_wp2_with fail
      refine SP.out.mono ?_
      obtain ⟨hal, hz, hob⟩ := HA.out
      rintro e w9 ⟨rfl, hc9, hb9, hf9⟩
      have zs : (wr.alloc (.cells #[.int .i64 (c : Int), .bool bit] 122)).heap.size = z + 1 := by simp [hz]
      have q9 : w9.heap[z]? = some (.cells #[.int .i64 (c : Int), .bool bit] 122) := (hf9.2 z (by omega) (by omega) (fun e => by have := (hob z e).2; omega)).trans (by rw [hz]; exact heap_alloc_new wr _)
      have e0 : w9.cell? ⟨z, 0, none⟩ = some (.int .i64 (c : Int)) := by simp [World.cell?, q9]
      have e1 : w9.cell? ⟨z, 1, none⟩ = some (.bool bit) := by simp [World.cell?, q9]
      have C9 := hide (show CodK w9 b0 g N Mo (run s (k ++ [(c, bit)])) by rw [run_snoc]; exact hc9.join (fun j hj => (hob j hj).1) (by omega))
      have F9 := hide (show FrK N g Mo w w9 from hfr.out.trans ((FrK.of_below hal hNr).trans (hf9.join (fun j hj => (hob j hj).1) (by omega))))
      have B9 := hide ((hbl.out.trans (hal.mono (by omega))).trans hb9)
      have hN9 : N ≤ w9.heap.size := by have := hf9.1; omega
      rw [← hz]
      clear HA SP hal hz hob hc9 hb9 hf9 q9 zs hcod hbl hfr
      go_wp2_with fail
      refine (imp_below node bit w9 (by omega)).mono ?_
      rintro e w10 ⟨rfl, rfl⟩
      obtain ⟨nn, hnn⟩ : ∃ nn, nn = 2 * node + bN bit := ⟨_, rfl⟩
      rw [← hnn] at HK HND ⊢
      clear hnn e0 e1
      go_wp2_with fail
      go_roundw
      case rel => exact ⟨q, nn, k ++ [(c, bit)], by have := HS.out; omega, HND.out, by go_num, rfl, by have := HS.out; simp; omega, HK, C9, B9, F9, hN9⟩
      case measure => simp [intOf]
    · have hr1 : r = 0 := by omega
      have hlt : ¬ (0 : Int) ≤ (r : Int) - 1 := by omega
      have e := hk.out
      rw [hr1] at e
      have e2 : k = T := by rw [← e]; simp [treeG]
      have HO := hide (show CodK wr b0 g N Mo (run s T) by rw [← e2]; exact hcod.out)
      clear hcod e e2 hk hr1
      go_wp2_with fail
      go_end0
      exact ⟨rfl, HO.out, hbl.out, hfr.out⟩
set_option maxRecDepth 100000 in
set_option maxHeartbeats 1600000 in
theorem imp_lay64 (b0 g n many base N : Nat) (Mo : Nat → Prop) (s : RC) (w : World) (hn : n < 1048576) (hm : many ≤ 10) (hb : base ≤ 400) (hok : RcOk s) (hsn : s.n + many ≤ 80000) (hbg : b0 ≤ g) (hcod : CodK w b0 g N Mo s) (hN : N ≤ w.heap.size) :
    Calls Tryz.prog 88 #[.int .i64 (n : Int), .int .i64 (base : Int), .int .i64 (many : Int), .func (.func 85) #[.pointer (some ⟨g, 0, none⟩)] #[]] w fun e w' => e = .returned (.tuple #[]) ∧ CodK w' b0 g N Mo (run s (tree n many base)) ∧ Below b0 w w' ∧ FrK N g Mo w w' := by
  obtain ⟨T, hT⟩ : ∃ T, T = tree n many base := ⟨_, rfl⟩
  rw [← hT]
  have HT := hide hT
  have HC := hide hcod
  have HOK := hide hok
  have hgl : g < w.heap.size := by obtain ⟨_, hr, _⟩ := hcod; exact hr.lt
  clear hT hcod hok
  go_enter Tryz.func88, Tryz.ntmps88
  go_wp2_with fail
  go_loopw [8, 9] (fun nd i wx => ∃ (r node : Nat) (k : List (Nat × Bool)), r ≤ many ∧ node < 2 ^ (many - r + 1) ∧ i = .int .i64 ((r : Int) - 1) ∧ nd = .int .i64 (node : Nat) ∧ k.length + r = many ∧ Hid (k ++ treeG n base r node = T) ∧ Hid (CodK wx b0 g N Mo (run s k)) ∧ Hid (Below b0 w wx) ∧ Hid (FrK N g Mo w wx) ∧ N ≤ wx.heap.size) (fun _ i _ => (intOf i + 1).toNat)
  case atStart => exact ⟨many, 1, [], Nat.le_refl _, by rw [Nat.sub_self]; decide, by go_num, rfl, by simp, HT.out.symm, HC, Below.refl _ _, FrK.refl _ _ _ _, hN⟩
  case round =>
    clear HC hN
    obtain ⟨r, node, k, hr, hnd, rfl, rfl, hkl, hk, hcod, hbl, hfr, hNr⟩ := hrel
    have hnode : node < 2048 := Nat.lt_of_lt_of_le hnd (Nat.le_trans (Nat.pow_le_pow_right (by omega) (show many - r + 1 ≤ 11 by omega)) (by decide))
    by_cases hr0 : 0 < r
    · obtain ⟨q, hq⟩ : ∃ q, q = r - 1 := ⟨_, rfl⟩
      have hnode1 : node < 1024 := Nat.lt_of_lt_of_le hnd (Nat.le_trans (Nat.pow_le_pow_right (by omega) (show many - r + 1 ≤ 10 by omega)) (by decide))
      have es : (r : Int) - 1 = (q : Int) := by omega
      rw [es]
      have hs0 : (0 : Int) ≤ (q : Int) := by omega
      have hs10 : (q : Int) ≤ 9 := by omega
      have hnode' : (node : Int) < 2048 := by omega
      have hbq := bit_q n q hn
      obtain ⟨t, ht⟩ : ∃ t, t = n / 2 ^ q % 2 := ⟨_, rfl⟩
      rw [← ht] at hbq
      obtain ⟨bit, hbit⟩ : ∃ b, b = bitAt n q := ⟨_, rfl⟩
      have hbt : ((t : Int) == 1) = bit := by
        rw [hbit, bitAt, ← ht]
        by_cases h1 : t = 1
        · rw [h1]; rfl
        · rw [decide_eq_false h1, beq_eq_false_iff_ne]; omega
      obtain ⟨c, hc⟩ : ∃ c, c = base + node := ⟨_, rfl⟩
      have s1 : (base : Int) + (node : Int) = (c : Int) := by omega
      have hr1 : r - 1 = q := hq.symm
      have HK := hide (show (k ++ [(c, bit)]) ++ treeG n base q (2 * node + bN bit) = T by
        rw [← hk.out, show r = q + 1 by omega, hc, hbit, List.append_assoc]; rfl)
      have HND := hide (show 2 * node + bN bit < 2 ^ (many - q + 1) by
        have := bN_le bit
        rw [show many - q + 1 = (many - r + 1) + 1 by omega, Nat.pow_succ]; omega)
      obtain ⟨ob, hob, hcut⟩ := hcod.out.split
      obtain ⟨z, hz⟩ : ∃ z, z = wr.heap.size := ⟨_, rfl⟩
      have hws := hbl.out.size
      have hal : Below wr.heap.size wr (wr.alloc (.cells #[.int .i64 (c : Int), .bool bit] 122)) := (Below.refl _ wr).alloc (Nat.le_refl _) _
      have SP := hide (imp_putK b0 g c (wr.alloc (.cells #[.int .i64 (c : Int), .bool bit] 122)).heap.size (fun j => ob = some j) bit (run s k) (wr.alloc (.cells #[.int .i64 (c : Int), .bool bit] 122)) (run_ok k s HOK.out) (by have := run_n_le k s; omega) (by omega) hbg (hcut _ hal.block _) (Nat.le_refl _))
      have HA := hide (And.intro hal (And.intro hz hob))
      have HS := hide (And.intro hq (And.intro hr hkl))
      clear ht hbit hc hk hq es hnd hkl hal hz hob hcut
      go_wp2_with fail
      refine SP.out.mono ?_
      obtain ⟨hal, hz, hob⟩ := HA.out
      rintro e w9 ⟨rfl, hc9, hb9, hf9⟩
      have zs : (wr.alloc (.cells #[.int .i64 (c : Int), .bool bit] 122)).heap.size = z + 1 := by simp [hz]
      have q9 : w9.heap[z]? = some (.cells #[.int .i64 (c : Int), .bool bit] 122) := (hf9.2 z (by omega) (by omega) (fun e => by have := (hob z e).2; omega)).trans (by rw [hz]; exact heap_alloc_new wr _)
      have e0 : w9.cell? ⟨z, 0, none⟩ = some (.int .i64 (c : Int)) := by simp [World.cell?, q9]
      have e1 : w9.cell? ⟨z, 1, none⟩ = some (.bool bit) := by simp [World.cell?, q9]
      have C9 := hide (show CodK w9 b0 g N Mo (run s (k ++ [(c, bit)])) by rw [run_snoc]; exact hc9.join (fun j hj => (hob j hj).1) (by omega))
      have F9 := hide (show FrK N g Mo w w9 from hfr.out.trans ((FrK.of_below hal hNr).trans (hf9.join (fun j hj => (hob j hj).1) (by omega))))
      have B9 := hide ((hbl.out.trans (hal.mono (by omega))).trans hb9)
      have hN9 : N ≤ w9.heap.size := by have := hf9.1; omega
      rw [← hz]
      clear HA SP hal hz hob hc9 hb9 hf9 q9 zs hcod hbl hfr
      go_wp2_with fail
      refine (imp_below node bit w9 (by omega)).mono ?_
      rintro e w10 ⟨rfl, rfl⟩
      obtain ⟨nn, hnn⟩ : ∃ nn, nn = 2 * node + bN bit := ⟨_, rfl⟩
      rw [← hnn] at HK HND ⊢
      clear hnn e0 e1
      go_wp2_with fail
      go_roundw
      case rel => exact ⟨q, nn, k ++ [(c, bit)], by have := HS.out; omega, HND.out, by go_num, rfl, by have := HS.out; simp; omega, HK, C9, B9, F9, hN9⟩
      case measure => simp [intOf]
    · have hr1 : r = 0 := by omega
      have hlt : ¬ (0 : Int) ≤ (r : Int) - 1 := by omega
      have e := hk.out
      rw [hr1] at e
      have e2 : k = T := by rw [← e]; simp [treeG]
      have HO := hide (show CodK wr b0 g N Mo (run s T) by rw [← e2]; exact hcod.out)
      clear hcod e e2 hk hr1
      go_wp2_with fail
      go_end0
      exact ⟨rfl, HO.out, hbl.out, hfr.out⟩
end Go.Proofs.YtconcnndghmdfaaGreatDoor
