/- The walks over the model's l01Four and Seal. -/
import Derived.Test.YtiknoncalgifmaaCrcS
namespace Go.Proofs.Ytiknoncalgifmaa
open Go.RowKit

/-- The four bytes of a number, the lowest first. -/
def four (c : Nat) : List UInt8 := [UInt8.ofNat (c % 256), UInt8.ofNat (c / 256 % 256), UInt8.ofNat (c / 65536 % 256), UInt8.ofNat (c / 16777216)]
def fourB (c : Nat) : ByteArray := ⟨(four c).toArray⟩
theorem fourB_size (c : Nat) : (fourB c).size = 4 := rfl
/-- A text, and the four bytes of its CRC. -/
def sealB (s : ByteArray) : ByteArray := s ++ fourB (crcMore 0 s.data.toList)

theorem four_conv {P : Program} {src dst e : Nat} (hs : P.underlying src = some (.slice e)) (he : P.underlying e = some (.int .u8)) (hd : P.underlying dst = some .string) (c : Nat) (hc : (c : Int) ≤ 4294967295) (w : World) (a b : Nat)
    (h : w.heap[b]? = some (.cells #[.int .u8 ((c : Int) % 256), .int .u8 ((c : Int) / 256 % 256), .int .u8 ((c : Int) / 65536 % 256), .int .u8 ((c : Int) / 16777216)] a (0, 0))) :
    (convert src dst (.slice (some ⟨b, 0, none⟩) 4 4)).run P w = .ok (.string (fourB c)) w := by
  refine run_convert_bytes_back w src dst e ⟨b, 0, none⟩ 4 (four c) hs he hd (fun j hj => ?_)
  have e1 : (⟨b, 0, none⟩ : Addr).add j = ⟨b, j, none⟩ := by by_cases hz : j = 0 <;> simp [Addr.add, hz]
  rw [e1]
  have hj4 : j < 4 := hj
  have e2 : w.cell? ⟨b, j, none⟩ = (#[Value.int .u8 ((c : Int) % 256), .int .u8 ((c : Int) / 256 % 256), .int .u8 ((c : Int) / 65536 % 256), .int .u8 ((c : Int) / 16777216)] : Array Value)[j]? := by simp [World.cell?, h]
  rw [e2]
  match j, hj4 with
  | 0, _ => simp only [four, List.getElem_cons_zero]; rw [ofNat_byte _ (by omega)]; rfl
  | 1, _ => simp only [four, List.getElem_cons_succ, List.getElem_cons_zero]; rw [ofNat_byte _ (by omega)]; rfl
  | 2, _ => simp only [four, List.getElem_cons_succ, List.getElem_cons_zero]; rw [ofNat_byte _ (by omega)]; rfl
  | 3, _ => simp only [four, List.getElem_cons_succ, List.getElem_cons_zero]; rw [ofNat_byte _ (by omega)]; rfl

set_option maxRecDepth 100000 in
set_option maxHeartbeats 400000 in
theorem spec_four (c : Nat) (w : World) (hc : (c : Int) ≤ 4294967295) :
    Calls Try.prog 25 #[.int .i64 c] w fun e w' => e = .returned (.string (fourB c)) ∧ Below w.heap.size w w' := by
  have hcv := fun (W : World) (h : _) => four_conv (P := Try.prog) Try.underlying22 Try.underlying5 Try.underlying9 c hc W 5 w.heap.size h
  have hcw := hcv (w.alloc (.cells #[.int .u8 ((c : Int) % 256), .int .u8 ((c : Int) / 256 % 256), .int .u8 ((c : Int) / 65536 % 256), .int .u8 ((c : Int) / 16777216)] 5)) (heap_alloc_new w _)
  clear hcv
  go_enter Try.func25, Try.ntmps25
  go_wp2_with fail
  go_ret
  exact ⟨rfl, (Below.refl _ _).alloc (Nat.le_refl _) _⟩

set_option maxRecDepth 100000 in
set_option maxHeartbeats 400000 in
theorem spec_seal (s : ByteArray) (w : World) (hs : s.size ≤ 19996) :
    Calls Try.prog 9 #[.string s] w fun e w' => e = .returned (.string (sealB s)) ∧ Below w.heap.size w w' := by
  have hl := crcMore_lt 0 s.data.toList (by omega)
  go_enter Try.func9, Try.ntmps9
  go_wp2_with fail
  refine (spec_l01Crc 0 s _ (by omega) (by omega)).mono ?_
  rintro e w1 ⟨rfl, rfl⟩
  go_wp2_with fail
  refine (spec_four _ _ (by omega)).mono ?_
  rintro e w1 ⟨rfl, hb⟩
  have h4 := fourB_size (crcMore 0 s.data.toList)
  go_wp2_with fail
  go_ret
  exact ⟨rfl, hb⟩
set_option maxRecDepth 100000 in
set_option maxHeartbeats 400000 in
theorem spec_seal_long (s : ByteArray) (w : World) (hs : s.size ≤ 9223372036854775807) (h : 19996 < s.size) :
    Calls Try.prog 9 #[.string s] w fun e w' => e = .returned (.string ⟨#[]⟩) ∧ w = w' := by
  go_enter Try.func9, Try.ntmps9
  go_wp2_with fail
  go_ret
  exact ⟨rfl, rfl⟩
end Go.Proofs.Ytiknoncalgifmaa
