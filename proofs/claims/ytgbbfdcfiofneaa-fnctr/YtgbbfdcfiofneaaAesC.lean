/- The walks over the model's AesBlock, l03Ctr, Ctr. -/
import Derived.Test.YtgbbfdcfiofneaaAesE
import Derived.Test.YtgbbfdcfiofneaaAesK
namespace Go.Proofs.Ytgbbfdcfiofneaa
open Go.RowKit
attribute [local irreducible] times sbox
theorem below3A {w w1 w2 : World} (h : Below w.heap.size w w1) (h2 : Below w1.heap.size w1 w2) : Below w.heap.size w w2 := h.trans (h2.mono h.size)
/-- AesBlock. -/
def aesS (key block : ByteArray) : ByteArray := if key.size = 16 ∧ block.size = 16 then ⟨(encL (kB (keyF key)) (bF block)).toArray⟩ else ⟨#[]⟩
theorem kL_cells {w : World} {base g cap : Nat} {K : Nat → UInt8} (h : hasRow w base (.slice (some ⟨g, 0, none⟩) 176 cap) (kL K 176)) : ∀ j, j < 176 → w.cell? ⟨g, j, none⟩ = some (.int .u8 ((kB K j).toNat : Int)) :=
  fun j hj => h.cell j _ (kL_at K 176 j hj)
theorem kL_cellsK {w : World} {base g cap : Nat} {key : ByteArray} (h : hasRow w base (.slice (some ⟨g, 0, none⟩) 176 cap) (kL (keyF key) 176)) : ∀ j, j < 176 → w.cell? ⟨g, j, none⟩ = some (.int .u8 ((kB (keyF key) j).toNat : Int)) := kL_cells h
set_option maxRecDepth 100000 in
set_option maxHeartbeats 1600000 in
theorem spec_aesBlock (key block : ByteArray) (w : World) (_hk : key.size ≤ 9223372036854775807) (_hb : block.size ≤ 9223372036854775807) :
    Calls Try.prog 13 #[.string key, .string block] w fun e w' => e = .returned (.string (aesS key block)) ∧ Below w.heap.size w w' := by
  by_cases h : key.size = 16
  · by_cases h2 : block.size = 16
    · have hE : aesS key block = ⟨(encL (kB (keyF key)) (bF block)).toArray⟩ := if_pos ⟨h, h2⟩
      rw [hE]
      clear hE
      have h' : (key.size : Int) = 16 := by omega
      have h2' : (block.size : Int) = 16 := by omega
      go_enter Try.func13, Try.ntmps13
      go_wp2_with fail
      refine (spec_box _).mono ?_
      rintro e w1 ⟨rfl, hbx, hb1⟩
      have HBX := hide hbx
      have hlt1 := hbx.lt
      clear hbx
      go_wp2_with fail
      refine (spec_keysA key w.heap.size w1 h hlt1 HBX.out).mono ?_
      rintro e w2 ⟨g, cap, rfl, hr, hb2⟩
      have HR := hide (kL_cells hr)
      have hg := hr.facts.2.2.2
      have HBX2 := hide (HBX.out.of_block (hb2.block _ hlt1))
      have hc2 := hide (below3A hb1 hb2)
      have hlt2 : w.heap.size < w2.heap.size := Nat.lt_of_lt_of_le hlt1 hb2.size
      clear hr hb2 hb1 HBX
      go_wp2_with fail
      refine (spec_enc g cap w.heap.size (kB (keyF key)) block w2 h2 hg hlt2 HR.out HBX2.out).mono ?_
      rintro e w3 ⟨rfl, hb3⟩
      go_wp2_with fail
      go_ret
      exact ⟨rfl, below3A hc2.out hb3⟩
    · have hE : aesS key block = ⟨#[]⟩ := if_neg (fun x => h2 x.2)
      rw [hE]
      have h' : (key.size : Int) = 16 := by omega
      have h2' : ¬ (block.size : Int) = 16 := by omega
      clear hE
      go_enter Try.func13, Try.ntmps13
      go_wp2_with fail
      go_ret
      exact ⟨rfl, Below.refl _ _⟩
  · have hE : aesS key block = ⟨#[]⟩ := if_neg (fun x => h x.1)
    rw [hE]
    have h' : ¬ (key.size : Int) = 16 := by omega
    clear hE
    go_enter Try.func13, Try.ntmps13
    go_wp2_with fail
    go_ret
    exact ⟨rfl, Below.refl _ _⟩
end Go.Proofs.Ytgbbfdcfiofneaa
