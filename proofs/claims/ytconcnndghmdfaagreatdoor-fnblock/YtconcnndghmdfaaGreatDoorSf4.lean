/- Put together: ShaP, ShaM, ShaD, ShaS, AesF, AesKF, AesT, AesS. -/
import Derived.Test.YtconcnndghmdfaaGreatDoorSf3
namespace Go.Proofs.YtconcnndghmdfaaGreatDoor
open Go.RowKit
theorem Tryz.infoP8 : (Tryz.prog.info? 5).map (fun i => (i.zero, i.size, i.bytes)) = some (some (.int .u8 0), 1, 1) := by kernel_rfl
theorem Tryz.sizeP8 : (Tryz.prog.info? 5).map (·.size) = some 1 := by kernel_rfl
def keyAt (key : ByteArray) (j : Nat) : UInt8 := key.data.toList.getD j 0
def padL (key : ByteArray) (m : UInt8) : List UInt8 := (List.range 64).map fun j => keyAt key j ^^^ m
theorem splice_get (n : Nat) (l : List UInt8) (i : Nat) (hi : i < n) : (Go.splice (List.replicate n (Value.int .u8 0)) 0 (l.map byteV))[i]? = some (.int .u8 ((l.getD i 0).toNat : Int)) := by
 unfold Go.splice
 rw [List.take_zero, List.nil_append, Nat.zero_add, List.length_map]
 by_cases h : i < l.length
 · rw [List.getElem?_append_left (by simpa using h)]; simp [h, byteV]
 · rw [List.getElem?_append_right (by simpa using h), List.getElem?_drop, List.length_map, List.getElem?_replicate, if_pos (by omega), List.getD_eq_getElem?_getD, List.getElem?_eq_none (by omega)]; rfl
theorem row_copied (w : World) (g t : Nat) (key : ByteArray) (hk : key.size ≤ 64) (h : w.heap[g]? = some (.cells (Go.splice (List.replicate 64 (.int .u8 0)) 0 (key.data.toList.map byteV)).toArray t (0, 0))) : w.rowIs g t 64 (u8V (keyAt key)) := by
 have hl : key.data.toList.length = key.size := by simp
 refine ⟨_, h, ?_, fun i hi => ?_⟩
 · rw [List.size_toArray, Go.length_splice _ _ _ (by rw [List.length_map, hl, List.length_replicate]; omega), List.length_replicate]
 · rw [List.getElem?_toArray]
   exact splice_get 64 _ i hi
theorem xor_step {key : ByteArray} {m : UInt8} {f : Nat → UInt8} {k : Nat} (h : ∀ j, f j = if j < k then keyAt key j ^^^ m else keyAt key j) : ∀ j, (if j = k then f k ^^^ m else f j) = if j < k + 1 then keyAt key j ^^^ m else keyAt key j := by
 intro j
 by_cases e : j = k
 · subst e; rw [if_pos rfl, if_pos (by omega), h j, if_neg (by omega)]
 · rw [if_neg e, h j]
   by_cases e2 : j < k
   · rw [if_pos e2, if_pos (by omega)]
   · rw [if_neg e2, if_neg (by omega)]
theorem pad_list {key : ByteArray} {m : UInt8} {f : Nat → UInt8} {k : Nat} (h : ∀ j, f j = if j < k then keyAt key j ^^^ m else keyAt key j) (hk : 64 ≤ k) : ∀ j, j < 64 → (padL key m)[j]? = some (f j) := by
 intro j hj
 rw [h j, if_pos (by omega)]
 simp [padL, hj]
theorem pad_conv {P : Program} {w : World} {g e src dst cap : Nat} {f : Nat → UInt8} {l : List UInt8} (h : w.rowIs g e 64 (u8V f)) (hl : ∀ j, j < 64 → l[j]? = some (f j)) (hn : l.length = 64) (hs : P.underlying src = some (.slice e)) (he : P.underlying e = some (.int .u8)) (hd : P.underlying dst = some .string) :
 (convert src dst (.slice (some ⟨g, 0, none⟩) 64 cap)).run P w = .ok (.string ⟨l.toArray⟩) w := by
 have hr := run_convert_bytes_back (P := P) w src dst e ⟨g, 0, none⟩ cap l hs he hd (fun j hj => by
  have hc := h.cell (i := j) (by omega)
  have ea : (⟨g, 0, none⟩ : Addr).add j = ⟨g, j, none⟩ := by by_cases hz : j = 0 <;> simp [Addr.add, hz]
  have e2 := hl j (by omega)
  rw [List.getElem?_eq_getElem hj] at e2
  rw [ea, hc, Option.some.inj e2]
  rfl)
 rw [hn] at hr
 exact hr
theorem padL_length (key : ByteArray) (m : UInt8) : (padL key m).length = 64 := by simp [padL]
set_option maxRecDepth 100000 in
set_option maxHeartbeats 1600000 in
theorem spec_pad (key : ByteArray) (m : UInt8) (w : World) (hk : key.size ≤ 64) :
 Calls Tryz.prog 61 #[.string key, .int .u8 (m.toNat : Int)] w fun e w' => e = .returned (.string ⟨(padL key m).toArray⟩) ∧ Below w.heap.size w w' := by
 have hmk : ∀ w : World, (Instr.makeSlice 22 (.int .i64 64) (.int .i64 64)).run Tryz.prog w = .ok (.slice (some ⟨w.heap.size, 0, none⟩) 64 64) (w.alloc (.cells (madeCells #[.int .u8 0] 64) 5)) := run_make_row' (P := Tryz.prog) 22 5 (.int .u8 0) 1 (by kernel_rfl) Tryz.infoP8 rfl .i64 .i64 64 (by omega) (by omega)
 have hmade : madeCells #[Value.int .u8 0] 64 = (List.replicate 64 (Value.int .u8 0)).toArray := by
  apply Array.toList_inj.1; rw [toList_madeCells_one]
 obtain ⟨cur, hcur⟩ : ∃ l : List Value, l = List.replicate 64 (Value.int .u8 0) := ⟨_, rfl⟩
 rw [hmade, ← hcur] at hmk
 have hcl : cur.length = 64 := by rw [hcur]; simp
 have HC := hide hcur
 clear hcur hmade
 have hm : (m.toNat : Int) ≤ 255 := by have := m.toNat_lt; omega
 go_enter Tryz.func61, Tryz.ntmps61
 go_wp2_with (refine wpList_copy_str rfl _ _ 22 9 rfl 5 Tryz.underlying22 Tryz.sizeP8 _ _ _ rfl key rfl w.heap.size 0 cur 5 (heap_alloc_new w _) hk (fun _ => rfl) (by omega) w.heap.size w ((Below.refl _ _).alloc (Nat.le_refl _) _) (Nat.le_refl _) ?_)
 intro w1 hrow hb1
 have hr1 := row_copied w1 w.heap.size 5 key hk (by rw [← HC.out]; exact hrow.out)
 clear hrow hmk HC hcl
 go_wp2_with fail
 go_loopw [6] (fun i wx => ∃ (k : Nat) (f : Nat → UInt8), k ≤ 64 ∧ i = .int .i64 k ∧ Hid (∀ j, f j = if j < k then keyAt key j ^^^ m else keyAt key j) ∧ wx.rowIs w.heap.size 5 64 (u8V f) ∧ Below w.heap.size w wx) (fun i _ => 64 - (intOf i).toNat)
 case atStart => exact ⟨0, keyAt key, by omega, rfl, fun j => by simp, hr1, hb1⟩
 case round =>
  clear hr1 hb1
  obtain ⟨k, f, hk64, rfl, hf, hr, hbl⟩ := hrel
  by_cases hlt : k < 64
  · have c : wr.cell? ⟨w.heap.size, k, none⟩ = some (.int .u8 ((f k).toNat : Int)) := hr.cell hlt
    have fz := hr.frozen k
    have hx := r_xor8 (f k) m
    have hf2 := hide (xor_step hf.out)
    go_wp2_with fail
    refine ⟨?rel, ?measure⟩
    case rel => exact ⟨k + 1, fun j => if j = k then f k ^^^ m else f j, by omega, by go_num, hf2, set_byte hr (by rw [UInt8.toNat_xor]), hbl.setCell (Nat.le_refl _) _⟩
    case measure => simp [intOf]; omega
  · have hcv := pad_conv (P := Tryz.prog) (cap := 64) hr (pad_list hf.out (by omega)) (padL_length key m) Tryz.underlying22 Tryz.underlying5 Tryz.underlying9
    go_wp2_with fail
    go_ret
    exact ⟨rfl, hbl⟩
def digestT (t : ByteArray) : ByteArray := ⟨(digestL t).toArray⟩
def padT (key : ByteArray) (m : UInt8) : ByteArray := ⟨(padL key m).toArray⟩
def keyT (key : ByteArray) : ByteArray := if key.size ≤ 64 then key else digestT key
def macT (key text : ByteArray) : ByteArray := digestT (padT (keyT key) 92 ++ digestT (padT (keyT key) 54 ++ text))
theorem digestT_size (t : ByteArray) : (digestT t).size = 32 := by rw [digestT, size_mk, digestL, outB_len]
theorem padT_size (key : ByteArray) (m : UInt8) : (padT key m).size = 64 := by rw [padT, size_mk, padL_length]
theorem macT_size (key text : ByteArray) : (macT key text).size = 32 := digestT_size _
def stretchT (pass : ByteArray) : Nat → ByteArray
 | 0 => ⟨#[115, 97, 108, 116]⟩
 | n + 1 => macT pass (stretchT pass n)
theorem stretchT_size (pass : ByteArray) : ∀ n, (stretchT pass n).size ≤ 32
 | 0 => by show (4 : Nat) ≤ 32; omega
 | n + 1 => by rw [stretchT, macT_size]; exact Nat.le_refl _
theorem spec_allT (t : ByteArray) (w : World) (ht : t.size ≤ 4194304) :
 Calls Tryz.prog 60 #[.string t] w fun e w' => e = .returned (.string (digestT t)) ∧ Below w.heap.size w w' := spec_all t w ht
theorem spec_padT (key : ByteArray) (m : UInt8) (M : Int) (hM : M = (m.toNat : Int)) (w : World) (hk : key.size ≤ 64) :
 Calls Tryz.prog 61 #[.string key, .int .u8 M] w fun e w' => e = .returned (.string (padT key m)) ∧ Below w.heap.size w w' := by
 subst hM; exact spec_pad key m w hk
theorem below3 {w w1 w2 : World} (h : Below w.heap.size w w1) (h2 : Below w1.heap.size w1 w2) : Below w.heap.size w w2 := h.trans (h2.mono h.size)
set_option maxRecDepth 100000 in
set_option maxHeartbeats 1600000 in
theorem spec_mac (key text : ByteArray) (w : World) (hk : key.size ≤ 20000) (ht : text.size ≤ 20000) :
 Calls Tryz.prog 34 #[.string key, .string text] w fun e w' => e = .returned (.string (macT key text)) ∧ Below w.heap.size w w' := by
 have hin : ∀ (K : ByteArray) (wx : World), K.size ≤ 64 → (padT K 54 ++ text).size ≤ 4194304 ∧ (padT K 92 ++ digestT (padT K 54 ++ text)).size ≤ 4194304 := by
  intro K _ _
  rw [ByteArray.size_append, ByteArray.size_append, padT_size, padT_size, digestT_size]; omega
 by_cases h64 : key.size ≤ 64
 · have hK : keyT key = key := if_pos h64
   have hlt : ¬ (64 : Int) < key.size := by omega
   have hE := hide (show macT key text = digestT (padT key 92 ++ digestT (padT key 54 ++ text)) by rw [macT, hK])
   obtain ⟨hs1, hs2⟩ := hin key w h64
   have z1 := padT_size key 54
   have z2 := padT_size key 92
   have z3 := digestT_size (padT key 54 ++ text)
   clear hK hin
   go_enter Tryz.func34, Tryz.ntmps34
   go_wp2_with fail
   refine (spec_padT key 92 92 rfl _ h64).mono ?_
   rintro e w1 ⟨rfl, hb1⟩
   go_wp2_with fail
   refine (spec_padT key 54 54 rfl _ h64).mono ?_
   rintro e w2 ⟨rfl, hb2⟩
   go_wp2_with fail
   refine (spec_allT (padT key 54 ++ text) _ hs1).mono ?_
   rintro e w3 ⟨rfl, hb3⟩
   go_wp2_with fail
   refine (spec_allT (padT key 92 ++ digestT (padT key 54 ++ text)) _ hs2).mono ?_
   rintro e w4 ⟨rfl, hb4⟩
   go_wp2_with fail
   go_ret
   exact ⟨by rw [hE.out]; rfl, below3 (below3 (below3 hb1 hb2) hb3) hb4⟩
 · have hK : keyT key = digestT key := if_neg h64
   have hlt : (64 : Int) < key.size := by omega
   have hE := hide (show macT key text = digestT (padT (digestT key) 92 ++ digestT (padT (digestT key) 54 ++ text)) by rw [macT, hK])
   have hd := digestT_size key
   obtain ⟨hs1, hs2⟩ := hin (digestT key) w (by omega)
   have z1 := padT_size (digestT key) 54
   have z2 := padT_size (digestT key) 92
   have z3 := digestT_size (padT (digestT key) 54 ++ text)
   clear hK hin
   go_enter Tryz.func34, Tryz.ntmps34
   go_wp2_with fail
   refine (spec_allT key _ (by omega)).mono ?_
   rintro e w0 ⟨rfl, hb0⟩
   go_wp2_with fail
   refine (spec_padT (digestT key) 92 92 rfl _ (by omega)).mono ?_
   rintro e w1 ⟨rfl, hb1⟩
   go_wp2_with fail
   refine (spec_padT (digestT key) 54 54 rfl _ (by omega)).mono ?_
   rintro e w2 ⟨rfl, hb2⟩
   go_wp2_with fail
   refine (spec_allT (padT (digestT key) 54 ++ text) _ hs1).mono ?_
   rintro e w3 ⟨rfl, hb3⟩
   go_wp2_with fail
   refine (spec_allT (padT (digestT key) 92 ++ digestT (padT (digestT key) 54 ++ text)) _ hs2).mono ?_
   rintro e w4 ⟨rfl, hb4⟩
   go_wp2_with fail
   go_ret
   exact ⟨by rw [hE.out]; rfl, below3 (below3 (below3 (below3 hb0 hb1) hb2) hb3) hb4⟩
def macS (key text : ByteArray) : ByteArray := if key.size ≤ 20000 ∧ text.size ≤ 20000 then macT key text else ⟨#[]⟩
def stretchS (pass : ByteArray) (n : Int) : ByteArray := if pass.size ≤ 20000 ∧ 1 ≤ n ∧ n ≤ 100 then stretchT pass n.toNat else ⟨#[]⟩
set_option maxRecDepth 100000 in
set_option maxHeartbeats 1600000 in
theorem stretch_bad (pass : ByteArray) (n : Int) (w : World) (h : ¬ (pass.size ≤ 20000 ∧ 1 ≤ n ∧ n ≤ 100)) :
 Calls Tryz.prog 104 #[.string pass, .int .i64 n] w fun e w' => e = .returned (.string ⟨#[]⟩) ∧ w' = w := by
 by_cases h1 : pass.size ≤ 20000
 · have h1' : ¬ (20000 : Int) < pass.size := by omega
   by_cases h2 : 1 ≤ n
   · have h2' : ¬ n < 1 := by omega
     have h3' : 100 < n := by omega
     go_enter Tryz.func104, Tryz.ntmps104
     go_wp2_with fail
     go_ret
     exact ⟨rfl, rfl⟩
   · have h2' : n < 1 := by omega
     go_enter Tryz.func104, Tryz.ntmps104
     go_wp2_with fail
     go_ret
     exact ⟨rfl, rfl⟩
 · have h1' : (20000 : Int) < pass.size := by omega
   go_enter Tryz.func104, Tryz.ntmps104
   go_wp2_with fail
   go_ret
   exact ⟨rfl, rfl⟩
set_option maxRecDepth 100000 in
set_option maxHeartbeats 1600000 in
theorem stretch_good (pass : ByteArray) (n : Nat) (w : World) (h1 : pass.size ≤ 20000) (h2 : 1 ≤ n) (h3 : n ≤ 100) :
 Calls Tryz.prog 104 #[.string pass, .int .i64 (n : Int)] w fun e w' => e = .returned (.string (stretchT pass n)) ∧ Below w.heap.size w w' := by
 have h1' : ¬ (20000 : Int) < pass.size := by omega
 have h2' : ¬ (n : Int) < 1 := by omega
 have h3' : ¬ 100 < (n : Int) := by omega
 go_enter Tryz.func104, Tryz.ntmps104
 go_wp2_with fail
 go_loopw [5, 6] (fun s i wx => ∃ k : Nat, k ≤ n ∧ i = .int .i64 k ∧ s = .string (stretchT pass k) ∧ Below w.heap.size w wx) (fun _ i _ => n - (intOf i).toNat)
 case atStart => exact ⟨0, Nat.zero_le _, rfl, rfl, Below.refl _ _⟩
 case round =>
  obtain ⟨k, hk, rfl, rfl, hbl⟩ := hrel
  by_cases hlt : k < n
  · have hlt' : (k : Int) < (n : Int) := by omega
    have hs := stretchT_size pass k
    go_wp2_with fail
    refine (spec_mac pass (stretchT pass k) _ h1 (by omega)).mono ?_
    rintro e w1 ⟨rfl, hb1⟩
    have hb2 := below3 hbl hb1
    clear hs hb1
    go_wp2_with fail
    go_roundw
    case rel => exact ⟨k + 1, by omega, by go_num, rfl, hb2⟩
    case measure => simp [intOf]; omega
  · have hlt' : ¬ (k : Int) < (n : Int) := by omega
    have hE := hide (show stretchT pass k = stretchT pass n by rw [show k = n by omega])
    go_wp2_with fail
    go_ret
    exact ⟨by rw [← hE.out]; rfl, hbl⟩
theorem spec_stretch (pass : ByteArray) (n : Int) (w : World) :
 Calls Tryz.prog 104 #[.string pass, .int .i64 n] w fun e w' => e = .returned (.string (stretchS pass n)) ∧ Below w.heap.size w w' := by
 by_cases h : pass.size ≤ 20000 ∧ 1 ≤ n ∧ n ≤ 100
 · obtain ⟨m, rfl⟩ : ∃ m : Nat, n = (m : Int) := ⟨n.toNat, by omega⟩
   rw [show stretchS pass (m : Int) = stretchT pass m from if_pos h]
   exact stretch_good pass m w h.1 (by omega) (by omega)
 · rw [show stretchS pass n = ⟨#[]⟩ from if_neg h]
   exact (stretch_bad pass n w h).mono fun _ _ ⟨a, b⟩ => ⟨a, by rw [b]; exact Below.refl _ _⟩
end Go.Proofs.YtconcnndghmdfaaGreatDoor
namespace Go.Proofs.YtconcnndghmdfaaGreatDoor
open Go Go.RowKit
theorem ofInt64 (a : Nat) : (BitVec.ofInt 64 (a : Int)).toNat = a % 18446744073709551616 := by rw [BitVec.ofInt_natCast, BitVec.toNat_ofNat]
theorem q_xor (a b : Nat) (ha : a < 4611686018427387904) (hb : b < 4611686018427387904) : bits .xor .i64 (a : Int) (b : Int) = ((a ^^^ b : Nat) : Int) := by
 have hx : a ^^^ b < 2 ^ 62 := Nat.xor_lt_two_pow (by omega) (by omega)
 show IntKind.i64.wrap ((BitVec.ofInt 64 (a : Int) ^^^ BitVec.ofInt 64 (b : Int)).toNat : Int) = _
 rw [BitVec.toNat_xor, ofInt64, ofInt64, Nat.mod_eq_of_lt (by omega), Nat.mod_eq_of_lt (by omega), IntKind.wrap_i64]; omega
theorem q_and (a b : Nat) (ha : a < 4611686018427387904) (hb : b < 4611686018427387904) : bits .and .i64 (a : Int) (b : Int) = ((a &&& b : Nat) : Int) := by
 have hx : a &&& b < 2 ^ 62 := Nat.and_lt_two_pow _ (by omega)
 show IntKind.i64.wrap ((BitVec.ofInt 64 (a : Int) &&& BitVec.ofInt 64 (b : Int)).toNat : Int) = _
 rw [BitVec.toNat_and, ofInt64, ofInt64, Nat.mod_eq_of_lt (by omega), Nat.mod_eq_of_lt (by omega), IntKind.wrap_i64]; omega
theorem q_or (a b : Nat) (ha : a < 4611686018427387904) (hb : b < 4611686018427387904) : bits .or .i64 (a : Int) (b : Int) = ((a ||| b : Nat) : Int) := by
 have hx : a ||| b < 2 ^ 62 := Nat.or_lt_two_pow (by omega) (by omega)
 show IntKind.i64.wrap ((BitVec.ofInt 64 (a : Int) ||| BitVec.ofInt 64 (b : Int)).toNat : Int) = _
 rw [BitVec.toNat_or, ofInt64, ofInt64, Nat.mod_eq_of_lt (by omega), Nat.mod_eq_of_lt (by omega), IntKind.wrap_i64]; omega
def dbl (a : Nat) : Nat := if 255 < 2 * a then (2 * a) ^^^ 283 else 2 * a
theorem dbl_lt (a : Nat) (h : a < 256) : dbl a < 256 := by
 have : ∀ x : Fin 256, dbl x.1 < 256 := by decide +kernel
 exact this ⟨a, h⟩
def tA (a : Nat) : Nat → Nat
 | 0 => a
 | k + 1 => dbl (tA a k)
def tN (a b : Nat) : Nat → Nat
 | 0 => 0
 | k + 1 => if b / 2 ^ k % 2 = 1 then tN a b k ^^^ tA a k else tN a b k
def times (a b : Nat) : Nat := tN a b 8
theorem tA_lt (a : Nat) (h : a < 256) : ∀ k, tA a k < 256
 | 0 => h
 | k + 1 => dbl_lt _ (tA_lt a h k)
theorem xor_lt256 (a b : Nat) (ha : a < 256) (hb : b < 256) : a ^^^ b < 256 := Nat.xor_lt_two_pow (n := 8) ha hb
theorem tN_lt (a b : Nat) (h : a < 256) : ∀ k, tN a b k < 256
 | 0 => Nat.zero_lt_succ _
 | k + 1 => by
   unfold tN
   split
   · exact xor_lt256 _ _ (tN_lt a b h k) (tA_lt a h k)
   · exact tN_lt a b h k
theorem times_lt (a b : Nat) (h : a < 256) : times a b < 256 := tN_lt a b h 8
def pw (n : Nat) : Nat → Nat
 | 0 => 1
 | j + 1 => if j < 7 then times (times (pw n j) (pw n j)) n else times (pw n j) (pw n j)
theorem pw_lt (n : Nat) : ∀ j, pw n j < 256
 | 0 => by show (1 : Nat) < 256; omega
 | j + 1 => by
   unfold pw
   split
   · exact times_lt _ _ (times_lt _ _ (pw_lt n j))
   · exact times_lt _ _ (pw_lt n j)
def ring (b : Nat) : Nat → Nat
 | 0 => 99
 | k + 1 => ring b k ^^^ ((b * 2 ^ k) % 256 ||| b / 2 ^ (8 - k))
theorem ring_lt (b : Nat) (h : b < 256) : ∀ k, k ≤ 5 → ring b k < 256
 | 0, _ => by show (99 : Nat) < 256; omega
 | k + 1, hk => by
   have h1 := ring_lt b h k (by omega)
   have h2 : b / 2 ^ (8 - k) < 256 := Nat.lt_of_le_of_lt (Nat.div_le_self _ _) h
   have h3 : (b * 2 ^ k) % 256 ||| b / 2 ^ (8 - k) < 256 := Nat.or_lt_two_pow (n := 8) (Nat.mod_lt _ (by decide)) h2
   exact xor_lt256 _ _ h1 h3
def sboxN (n : Nat) : Nat := ring (pw n 8) 5
theorem sboxN_lt (n : Nat) : sboxN n < 256 := ring_lt _ (pw_lt n 8) 5 (by omega)
def sbox (n : Nat) : UInt8 := UInt8.ofNat (sboxN n)
end Go.Proofs.YtconcnndghmdfaaGreatDoor
namespace Go.Proofs.YtconcnndghmdfaaGreatDoor
def rcN : Nat → Nat
 | 0 => 1
 | m + 1 => times (rcN m) 2
theorem rcN_lt : ∀ m, rcN m < 256
 | 0 => by show (1 : Nat) < 256; omega
 | m + 1 => times_lt _ _ (rcN_lt m)
def kB (key : Nat → UInt8) (i : Nat) : UInt8 :=
 if _h : i < 16 then key i
 else kB key (i - 16) ^^^ (if i / 4 % 4 = 0 then sbox (kB key (4 * (i / 4 - 1) + (i % 4 + 1) % 4)).toNat ^^^ (if i % 4 = 0 then UInt8.ofNat (rcN (i / 16 - 1)) else 0) else kB key (i - 4))
def tB (key : Nat → UInt8) (i r : Nat) : UInt8 :=
 if i % 4 = 0 then sbox (kB key (4 * (i - 1) + (r + 1) % 4)).toNat ^^^ (if r = 0 then UInt8.ofNat (rcN (i / 4 - 1)) else 0) else kB key (4 * i + r - 4)
theorem kB_lo (key : Nat → UInt8) (i : Nat) (h : i < 16) : kB key i = key i := by rw [kB, dif_pos h]
theorem kB_hi (key : Nat → UInt8) (i r : Nat) (hi : 4 ≤ i) (hr : r < 4) : kB key (4 * i + r) = kB key (4 * i - 16 + r) ^^^ tB key i r := by
 rw [kB, dif_neg (by omega), show 4 * i + r - 16 = 4 * i - 16 + r by omega, show (4 * i + r) / 4 = i by omega, show (4 * i + r) % 4 = r by omega, show (4 * i + r) / 16 - 1 = i / 4 - 1 by omega]
 rfl
def kL (key : Nat → UInt8) (n : Nat) : List UInt8 := (List.range n).map (kB key)
theorem kL_len (key : Nat → UInt8) (n : Nat) : (kL key n).length = n := by simp [kL]
theorem kL_at (key : Nat → UInt8) (n j : Nat) (h : j < n) : (kL key n)[j]? = some (kB key j) := by simp [kL, h]
theorem kL_succ (key : Nat → UInt8) (n : Nat) : kL key n ++ [kB key n] = kL key (n + 1) := by simp [kL, List.range_succ]
end Go.Proofs.YtconcnndghmdfaaGreatDoor
namespace Go.Proofs.YtconcnndghmdfaaGreatDoor
open Go.RowKit
theorem int_eq' {k : IntKind} {a b : Int} (h : a = b) : Value.int k a = Value.int k b := by rw [h]
theorem bit_eq (b k : Nat) (h : b < 256) : bits .and .i64 ((b : Int) / 2 ^ k) 1 = ((b / 2 ^ k % 2 : Nat) : Int) := by
 have e : ((b : Int) / 2 ^ k) = ((b / 2 ^ k : Nat) : Int) := by simp
 have hle : b / 2 ^ k ≤ b := Nat.div_le_self _ _
 rw [e, show (1 : Int) = ((1 : Nat) : Int) from rfl, q_and _ _ (by omega) (by omega), Nat.and_one_is_mod]
theorem dbl_eq (A : Nat) (h : A < 256) : (255 < 2 * A → bits .xor .i64 ((A : Int) * 2) 283 = ((dbl A : Nat) : Int)) ∧ (¬ 255 < 2 * A → (A : Int) * 2 = ((dbl A : Nat) : Int)) := by
 have e : (A : Int) * 2 = ((2 * A : Nat) : Int) := by omega
 refine ⟨fun h2 => ?_, fun h2 => ?_⟩
 · rw [e, show (283 : Int) = ((283 : Nat) : Int) from rfl, q_xor _ _ (by omega) (by omega), dbl, if_pos h2]
 · rw [e, dbl, if_neg h2]
set_option maxRecDepth 100000 in
set_option maxHeartbeats 800000 in
theorem spec_times (a b : Nat) (w : World) (ha : a < 256) (hb : b < 256) :
 Calls Tryz.prog 122 #[.int .i64 a, .int .i64 b] w fun e w' => e = .returned (.int .i64 (times a b : Nat)) ∧ w = w' := by
 go_enter Tryz.func122, Tryz.ntmps122
 go_wp2_with fail
 go_loopw [0, 5, 6] (fun x n i wx => ∃ k : Nat, k ≤ 8 ∧ i = .int .i64 k ∧ x = .int .i64 (tA a k : Nat) ∧ n = .int .i64 (tN a b k : Nat) ∧ w = wx) (fun _ _ i _ => 8 - (intOf i).toNat)
 case atStart => exact ⟨0, by omega, rfl, rfl, rfl, rfl⟩
 case round =>
  obtain ⟨k, hk, rfl, rfl, rfl, rfl⟩ := hrel
  by_cases hlt : k < 8
  · have hA := tA_lt a ha k
    have hN := tN_lt a b ha k
    have eA := hide (show tA a (k + 1) = dbl (tA a k) from rfl)
    have eN := hide (show tN a b (k + 1) = if b / 2 ^ k % 2 = 1 then tN a b k ^^^ tA a k else tN a b k from rfl)
    generalize tA a k = A at *
    generalize tN a b k = N at *
    have hA' : (A : Int) ≤ 255 := by omega
    have hbt := bit_eq b k (by omega)
    have hx1 := hide (q_xor N A (by omega) (by omega))
    have hx2 := hide (dbl_eq A hA)
    by_cases hbit : b / 2 ^ k % 2 = 1
    · rw [hbit] at hbt
      rw [if_pos hbit] at eN
      go_wp2_with fail
      all_goals refine ⟨⟨k + 1, by omega, by go_num, ?_, by rw [hx1.out, eN.out], trivial⟩, by simp [intOf]; omega⟩
      all_goals rw [eA.out]
      · exact int_eq' (hx2.out.1 (by omega))
      · exact int_eq' (hx2.out.2 (by omega))
    · have h0 : b / 2 ^ k % 2 = 0 := by omega
      rw [h0] at hbt
      rw [if_neg hbit] at eN
      go_wp2_with fail
      all_goals refine ⟨⟨k + 1, by omega, by go_num, ?_, by rw [eN.out], trivial⟩, by simp [intOf]; omega⟩
      all_goals rw [eA.out]
      · exact int_eq' (hx2.out.1 (by omega))
      · exact int_eq' (hx2.out.2 (by omega))
  · have hE := hide (show tN a b k = times a b by rw [show k = 8 by omega]; rfl)
    go_wp2_with fail
    go_ret
    exact ⟨by rw [← hE.out]; rfl, rfl⟩
theorem spec_timesT (a b c : Nat) (w : World) (ha : a < 256) (hb : b < 256) (hc : times a b = c) :
 Calls Tryz.prog 122 #[.int .i64 a, .int .i64 b] w fun e w' => e = .returned (.int .i64 (c : Nat)) ∧ w = w' := by
 subst hc; exact spec_times a b w ha hb
theorem ring_eq (R P k k8 : Nat) (hR : R < 256) (hP : P < 256) (hk : k < 5) (h8 : k8 = 8 - k) :
 bits .xor .i64 (R : Int) (bits .or .i64 (bits .and .i64 (wrap64 ((P : Int) * 2 ^ k)) 255) ((P : Int) / 2 ^ k8)) = ((R ^^^ ((P * 2 ^ k) % 256 ||| P / 2 ^ (8 - k)) : Nat) : Int) := by
 have hp : 2 ^ k ≤ 2 ^ 4 := Nat.pow_le_pow_right (by omega) (by omega)
 have hb : P * 2 ^ k ≤ 255 * 16 := Nat.mul_le_mul (by omega) hp
 have e1 : ((P : Int) * 2 ^ k) = ((P * 2 ^ k : Nat) : Int) := by simp
 have e2 : ((P : Int) / 2 ^ k8) = ((P / 2 ^ k8 : Nat) : Int) := by simp
 have hd : P / 2 ^ k8 ≤ P := Nat.div_le_self _ _
 have ha : (P * 2 ^ k) &&& 255 = (P * 2 ^ k) % 256 := Nat.and_two_pow_sub_one_eq_mod _ 8
 have ho : (P * 2 ^ k) % 256 ||| P / 2 ^ k8 < 2 ^ 8 := Nat.or_lt_two_pow (Nat.mod_lt _ (by decide)) (by omega)
 rw [e1, e2, IntWalk.wrap64_in _ ⟨by omega, by omega⟩, show (255 : Int) = ((255 : Nat) : Int) from rfl, q_and _ _ (by omega) (by omega), ha, q_or _ _ (by omega) (by omega), q_xor _ _ (by omega) (by omega), h8]
set_option maxRecDepth 100000 in
set_option maxHeartbeats 800000 in
theorem spec_sbox (n : Nat) (w : World) (hn : n < 256) :
 Calls Tryz.prog 121 #[.int .i64 n] w fun e w' => e = .returned (.int .i64 (sboxN n : Nat)) ∧ w = w' := by
 go_enter Tryz.func121, Tryz.ntmps121
 go_wp2_with fail
 go_loopw [3, 4] (fun b i wx => ∃ j : Nat, j ≤ 8 ∧ i = .int .i64 (7 - (j : Int)) ∧ b = .int .i64 (pw n j : Nat) ∧ w = wx) (fun _ i _ => (intOf i + 1).toNat)
 case atStart => exact ⟨0, by omega, rfl, rfl, rfl⟩
 case round =>
  obtain ⟨j, hj, rfl, rfl, rfl⟩ := hrel
  have hp := pw_lt n j
  by_cases hlt : j < 8
  · have eP := hide (show pw n (j + 1) = if j < 7 then times (times (pw n j) (pw n j)) n else times (pw n j) (pw n j) from rfl)
    generalize hP2 : pw n (j + 1) = P2 at *
    generalize pw n j = P at *
    have ht := times_lt P P hp
    by_cases h7 : j < 7
    · rw [if_pos h7] at eP
      go_wp2_with fail
      refine (spec_times P P _ hp hp).mono ?_
      rintro e w1 ⟨rfl, rfl⟩
      go_wp2_with fail
      refine (spec_times (times P P) n _ ht hn).mono ?_
      rintro e w1 ⟨rfl, rfl⟩
      go_wp2_with fail
      exact ⟨⟨j + 1, by omega, by go_num, by rw [hP2, eP.out], trivial⟩, by simp [intOf]; omega⟩
    · rw [if_neg h7] at eP
      go_wp2_with fail
      refine (spec_times P P _ hp hp).mono ?_
      rintro e w1 ⟨rfl, rfl⟩
      go_wp2_with fail
      exact ⟨⟨j + 1, by omega, by go_num, by rw [hP2, eP.out], trivial⟩, by simp [intOf]; omega⟩
  · have hP8 := hide (show pw n j = pw n 8 by rw [show j = 8 by omega])
    generalize pw n j = P at *
    have hP' : (P : Int) ≤ 255 := by omega
    go_wp2_with fail
    go_loopw [5, 6] (fun o i wx => ∃ k : Nat, k ≤ 5 ∧ i = .int .i64 k ∧ o = .int .i64 (ring P k : Nat) ∧ w = wx) (fun _ i _ => 5 - (intOf i).toNat)
    case atStart => exact ⟨0, by omega, rfl, rfl, rfl⟩
    case round =>
     obtain ⟨k, hk, rfl, rfl, rfl⟩ := hrel
     have hr := ring_lt P hp k hk
     by_cases hlt5 : k < 5
     · have eR := hide (show ring P (k + 1) = ring P k ^^^ ((P * 2 ^ k) % 256 ||| P / 2 ^ (8 - k)) from rfl)
       generalize hR2 : ring P (k + 1) = R2 at *
       generalize ring P k = R at *
       obtain ⟨k8, hk8⟩ : ∃ m, m = 8 - k := ⟨_, rfl⟩
       have m8 : IntKind.i64.wrap (8 - (k : Int)) = (k8 : Int) := by simp only [IntKind.wrap_i64]; omega
       have hk8' : k8 ≤ 8 := by omega
       have HK8 := hide hk8
       clear hk8
       go_wp2_with fail
       have hv := hide (ring_eq R P k k8 hr hp hlt5 HK8.out)
       refine ⟨⟨k + 1, by omega, by go_num, by rw [hv.out, hR2, eR.out], trivial⟩, by simp [intOf]; omega⟩
     · have hE := hide (show ring P k = sboxN n by rw [show k = 5 by omega, hP8.out]; rfl)
       go_wp2_with fail
       go_ret
       exact ⟨by rw [← hE.out]; rfl, rfl⟩
theorem sbox_toNat (n : Nat) : (sbox n).toNat = sboxN n := by
 have h := sboxN_lt n
 unfold sbox
 rw [UInt8.toNat_ofNat']; exact Nat.mod_eq_of_lt h
theorem Tryz.infoB8 : (Tryz.prog.info? 5).map (fun i => (i.zero, i.size, i.bytes)) = some (some (.int .u8 0), 1, 1) := by kernel_rfl
set_option maxRecDepth 100000 in
set_option maxHeartbeats 800000 in
theorem spec_box (w : World) :
 Calls Tryz.prog 90 #[] w fun e w' => e = .returned (.slice (some ⟨w.heap.size, 0, none⟩) 256 256) ∧ w'.rowIs w.heap.size 5 256 (u8V sbox) ∧ Below w.heap.size w w' := by
 have hmk : ∀ w : World, (Instr.makeSlice 22 (.int .i64 256) (.int .i64 256)).run Tryz.prog w = .ok (.slice (some ⟨w.heap.size, 0, none⟩) 256 256) (w.alloc (.cells (madeCells #[.int .u8 0] 256) 5)) := run_make_row' (P := Tryz.prog) 22 5 (.int .u8 0) 1 (by kernel_rfl) Tryz.infoB8 rfl .i64 .i64 256 (by omega) (by omega)
 go_enter Tryz.func90, Tryz.ntmps90
 go_wp2_with fail
 clear hmk
 go_loopw [2] (fun i wx => ∃ (k : Nat) (f : Nat → UInt8), k ≤ 256 ∧ i = .int .i64 k ∧ Hid (∀ j, j < k → f j = sbox j) ∧ wx.rowIs w.heap.size 5 256 (u8V f) ∧ Below w.heap.size w wx) (fun i _ => 256 - (intOf i).toNat)
 case atStart => exact ⟨0, fun _ => 0, by omega, rfl, fun j hj => by omega, World.rowIs_made _ _ _ _, (Below.refl _ _).alloc (Nat.le_refl _) _⟩
 case round =>
  obtain ⟨k, f, hk, rfl, hf, hrw, hbl⟩ := hrel
  by_cases hlt : k < 256
  · have ck := hrw.cell (i := k) hlt
    have hfz := hrw.frozen k
    have hS := sboxN_lt k
    have hS' : (sboxN k : Int) ≤ 255 := by omega
    have HS := hide (sbox_toNat k)
    go_wp2_with fail
    refine (spec_sbox k _ hlt).mono ?_
    rintro e w1 ⟨rfl, rfl⟩
    go_wp2_with fail
    refine ⟨⟨k + 1, fun j => if j = k then sbox k else f j, by omega, by go_num, fun j hj => ?_, set_byte hrw HS.out.symm, hbl.setCell (Nat.le_refl _) _⟩, by simp [intOf]; omega⟩
    show (if j = k then sbox k else f j) = _
    by_cases e : j = k
    · rw [if_pos e, e]
    · rw [if_neg e]; exact hf.out j (by omega)
  · have hr2 : wr.rowIs w.heap.size 5 256 (u8V sbox) := hrw.congr fun i hi => by rw [u8V, u8V, hf.out i (by omega)]
    go_wp2_with fail
    go_ret
    exact ⟨rfl, hr2, hbl⟩
end Go.Proofs.YtconcnndghmdfaaGreatDoor
