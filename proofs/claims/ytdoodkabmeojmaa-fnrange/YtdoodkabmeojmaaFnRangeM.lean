/- Bits come back from their code, whatever stands behind it: as the program's functions tell it. -/
import Derived.Test.YtdoodkabmeojmaaRangeDec
import Derived.Test.YtdoodkabmeojmaaSrc
import Derived.Deep.Slices
namespace Go.Proofs.Ytdoodkabmeojmaa
open Go.RowKit
theorem tbN_app (a b : ByteArray) (j : Nat) (u : UInt8) (h : a.data.toList[j]? = some u) : tbN (a ++ b) j = u.toNat := by
  unfold tbN bF
  have hj := (List.getElem?_eq_some_iff.1 h).1
  rw [ByteArray.data_append, Array.toList_append, List.getD_eq_getElem?_getD, List.getElem?_append_left hj, h]; rfl
theorem dec_back (l : List (Int × Bool)) (b : ByteArray) (hl : l.length ≤ 260) (hb : b.size ≤ 20) (hall : ∀ x ∈ l, ctxOk x.1 = true) : decS ((⟨(codeOf (bitsN l)).toArray⟩ : ByteArray) ++ b) (l.map (·.1)) = l.map (·.2) := by
  have hsz : ((⟨(codeOf (bitsN l)).toArray⟩ : ByteArray) ++ b).size ≤ 20000 := by
    rw [ByteArray.size_append, size_mk, codeOf, bytesOf_len]
    have h := run_n_le (bitsN l) rc0
    have h2 : rc0.n = 0 := rfl
    have h3 : (bitsN l).length = l.length := by simp [bitsN]
    omega
  have h1 : decS ((⟨(codeOf (bitsN l)).toArray⟩ : ByteArray) ++ b) (l.map (·.1)) = dbits (tbN ((⟨(codeOf (bitsN l)).toArray⟩ : ByteArray) ++ b)) rc0 (pv (tbN ((⟨(codeOf (bitsN l)).toArray⟩ : ByteArray) ++ b)) 4) (ctxN (l.map (·.1))) :=
    if_pos ⟨hsz, by rw [List.length_map]; omega, fun x hx => by obtain ⟨y, hy, rfl⟩ := List.mem_map.1 hx; exact hall y hy⟩
  have h2 : ctxN (l.map (·.1)) = (bitsN l).map (·.1) := by unfold ctxN bitsN; rw [List.map_map, List.map_map]; rfl
  have h3 : (bitsN l).map (·.2) = l.map (·.2) := by unfold bitsN; rw [List.map_map]; rfl
  rw [h1, h2, ← h3]
  exact back_all (bitsN l) _ (tbN_lt _) (fun j u hu => tbN_app _ _ j u hu)
theorem encS_cases (l : List (Int × Bool)) : (encS l = ⟨#[]⟩) ∨ (encS l ≠ ⟨#[]⟩ ∧ (∀ x ∈ l, ctxOk x.1 = true) ∧ encS l = ⟨(codeOf (bitsN l)).toArray⟩) := by
  unfold encS
  split
  · rename_i hh
    refine .inr ⟨fun e => ?_, hh.2, rfl⟩
    have h2 := congrArg ByteArray.size e
    rw [size_mk, codeOf, bytesOf_len] at h2
    have h3 : (⟨#[]⟩ : ByteArray).size = 0 := rfl
    omega
  · exact .inl rfl
/-- Bytes that came in, as a text. -/
theorem bytes_conv {P : Program} {w : World} {B src dst e cap len : Nat} {a : Option Addr} (h : BytesIn w B a len) (hs : P.underlying src = some (.slice e)) (he : P.underlying e = some (.int .u8)) (hd : P.underlying dst = some .string) :
    ∃ b : ByteArray, b.size = len ∧ (convert src dst (.slice a len cap)).run P w = .ok (.string b) w := by
  rcases h with h | ⟨g, off, rfl, _, hc⟩
  · subst h
    refine ⟨⟨#[]⟩, rfl, ?_⟩
    cases a with
    | none =>
      have h1 := run_convert_bytes_string w src dst e none 0 cap hs he hd
      rw [h1]
      simp [Conv.bytesToString]
      rfl
    | some x => exact run_convert_bytes_back w src dst e x cap [] hs he hd (fun j hj => by simp at hj)
  · have hex := Go.Deep.choose_lt (α := UInt8) (n := len) (p := fun i u => w.cell? ⟨g, off + i, none⟩ = some (.int .u8 (u.toNat : Int))) (fun i hi => by
      obtain ⟨z, z0, z1, hz⟩ := hc i hi
      obtain ⟨k, rfl⟩ := Int.eq_ofNat_of_zero_le z0
      exact ⟨UInt8.ofNat k, by rw [hz, ofNat_byte k (by omega)]⟩)
    obtain ⟨f, hf⟩ := hex
    refine ⟨⟨((List.range len).map f).toArray⟩, by rw [size_mk]; simp, ?_⟩
    have hr := run_convert_bytes_back (P := P) w src dst e ⟨g, off, none⟩ cap ((List.range len).map f) hs he hd (fun j hj => by
      have hj2 : j < len := by simpa using hj
      have e3 : (⟨g, off, none⟩ : Addr).add j = ⟨g, off + j, none⟩ := by by_cases hz : j = 0 <;> simp [Addr.add, hz]
      rw [e3, hf j hj2]; simp)
    rw [show ((List.range len).map f).length = len by simp] at hr
    exact hr
theorem BytesIn.wide {w : World} {B B' : Nat} {a : Option Addr} {len : Nat} (h : BytesIn w B a len) (hB : B ≤ B') : BytesIn w B' a len := by
  rcases h with h | ⟨b, off, rfl, hb, hc⟩
  · exact .inl h
  · exact .inr ⟨b, off, rfl, Nat.lt_of_lt_of_le hb hB, hc⟩
theorem empty_list : (⟨#[]⟩ : ByteArray).toList = [] := by rw [ByteArray.toList_eq]
theorem BytesIn.less {w : World} {B len n : Nat} {a : Option Addr} (h : BytesIn w B a len) (hn : n ≤ len) : BytesIn w B a n := by
  rcases h with h | ⟨b, off, rfl, hb, hc⟩
  · exact .inl (by omega)
  · exact .inr ⟨b, off, rfl, hb, fun i hi => hc i (by omega)⟩
end Go.Proofs.Ytdoodkabmeojmaa
