/- The walks over the model's l02Mac, Digest, Mac, Stretch. -/
import Derived.Test.YtconcnndghmdfaaDoorShaA
import Derived.Test.YtconcnndghmdfaaDoorShaP
namespace Go.Proofs.YtconcnndghmdfaaDoor
open Go.RowKit
def digestT (t : ByteArray) : ByteArray := ⟨(digestL t).toArray⟩
def padT (key : ByteArray) (m : UInt8) : ByteArray := ⟨(padL key m).toArray⟩
def keyT (key : ByteArray) : ByteArray := if key.size ≤ 64 then key else digestT key
def macT (key text : ByteArray) : ByteArray := digestT (padT (keyT key) 92 ++ digestT (padT (keyT key) 54 ++ text))
theorem digestT_size (t : ByteArray) : (digestT t).size = 32 := by rw [digestT, size_mk, digestL, outB_len]
theorem padT_size (key : ByteArray) (m : UInt8) : (padT key m).size = 64 := by rw [padT, size_mk, padL_length]
theorem macT_size (key text : ByteArray) : (macT key text).size = 32 := digestT_size _
def stretchT (pass : ByteArray) : Nat → ByteArray
  | 0 => ⟨#[115, 97, 108, 116]⟩
  | n + 1 => macT pass (stretchT pass n)
theorem stretchT_size (pass : ByteArray) : ∀ n, (stretchT pass n).size ≤ 32
  | 0 => by show (4 : Nat) ≤ 32; omega
  | n + 1 => by rw [stretchT, macT_size]; exact Nat.le_refl _
theorem spec_allT (t : ByteArray) (w : World) (ht : t.size ≤ 4194304) :
    Calls Tryd.prog 14 #[.string t] w fun e w' => e = .returned (.string (digestT t)) ∧ Below w.heap.size w w' := spec_all t w ht
theorem spec_padT (key : ByteArray) (m : UInt8) (M : Int) (hM : M = (m.toNat : Int)) (w : World) (hk : key.size ≤ 64) :
    Calls Tryd.prog 15 #[.string key, .int .u8 M] w fun e w' => e = .returned (.string (padT key m)) ∧ Below w.heap.size w w' := by
  subst hM; exact spec_pad key m w hk
theorem below3 {w w1 w2 : World} (h : Below w.heap.size w w1) (h2 : Below w1.heap.size w1 w2) : Below w.heap.size w w2 := h.trans (h2.mono h.size)
set_option maxRecDepth 100000 in
set_option maxHeartbeats 1600000 in
theorem spec_mac (key text : ByteArray) (w : World) (hk : key.size ≤ 20000) (ht : text.size ≤ 20000) :
    Calls Tryd.prog 11 #[.string key, .string text] w fun e w' => e = .returned (.string (macT key text)) ∧ Below w.heap.size w w' := by
  have hin : ∀ (K : ByteArray) (wx : World), K.size ≤ 64 → (padT K 54 ++ text).size ≤ 4194304 ∧ (padT K 92 ++ digestT (padT K 54 ++ text)).size ≤ 4194304 := by
    intro K _ _
    rw [ByteArray.size_append, ByteArray.size_append, padT_size, padT_size, digestT_size]; omega
  by_cases h64 : key.size ≤ 64
  · have hK : keyT key = key := if_pos h64
    have hlt : ¬ (64 : Int) < key.size := by omega
    have hE := hide (show macT key text = digestT (padT key 92 ++ digestT (padT key 54 ++ text)) by rw [macT, hK])
    obtain ⟨hs1, hs2⟩ := hin key w h64
    have z1 := padT_size key 54
    have z2 := padT_size key 92
    have z3 := digestT_size (padT key 54 ++ text)
    clear hK hin
    go_enter Tryd.func11, Tryd.ntmps11
    go_wp2_with fail
    refine (spec_padT key 92 92 rfl _ h64).mono ?_
    rintro e w1 ⟨rfl, hb1⟩
    go_wp2_with fail
    refine (spec_padT key 54 54 rfl _ h64).mono ?_
    rintro e w2 ⟨rfl, hb2⟩
    go_wp2_with fail
    refine (spec_allT (padT key 54 ++ text) _ hs1).mono ?_
    rintro e w3 ⟨rfl, hb3⟩
    go_wp2_with fail
    refine (spec_allT (padT key 92 ++ digestT (padT key 54 ++ text)) _ hs2).mono ?_
    rintro e w4 ⟨rfl, hb4⟩
    go_wp2_with fail
    go_ret
    exact ⟨by rw [hE.out]; rfl, below3 (below3 (below3 hb1 hb2) hb3) hb4⟩
  · have hK : keyT key = digestT key := if_neg h64
    have hlt : (64 : Int) < key.size := by omega
    have hE := hide (show macT key text = digestT (padT (digestT key) 92 ++ digestT (padT (digestT key) 54 ++ text)) by rw [macT, hK])
    have hd := digestT_size key
    obtain ⟨hs1, hs2⟩ := hin (digestT key) w (by omega)
    have z1 := padT_size (digestT key) 54
    have z2 := padT_size (digestT key) 92
    have z3 := digestT_size (padT (digestT key) 54 ++ text)
    clear hK hin
    go_enter Tryd.func11, Tryd.ntmps11
    go_wp2_with fail
    refine (spec_allT key _ (by omega)).mono ?_
    rintro e w0 ⟨rfl, hb0⟩
    go_wp2_with fail
    refine (spec_padT (digestT key) 92 92 rfl _ (by omega)).mono ?_
    rintro e w1 ⟨rfl, hb1⟩
    go_wp2_with fail
    refine (spec_padT (digestT key) 54 54 rfl _ (by omega)).mono ?_
    rintro e w2 ⟨rfl, hb2⟩
    go_wp2_with fail
    refine (spec_allT (padT (digestT key) 54 ++ text) _ hs1).mono ?_
    rintro e w3 ⟨rfl, hb3⟩
    go_wp2_with fail
    refine (spec_allT (padT (digestT key) 92 ++ digestT (padT (digestT key) 54 ++ text)) _ hs2).mono ?_
    rintro e w4 ⟨rfl, hb4⟩
    go_wp2_with fail
    go_ret
    exact ⟨by rw [hE.out]; rfl, below3 (below3 (below3 (below3 hb0 hb1) hb2) hb3) hb4⟩
end Go.Proofs.YtconcnndghmdfaaDoor
