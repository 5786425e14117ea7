/- Rows of bytes as texts. No program is named here. -/
import Derived.Test.YtipeelkmmjgehabSrc
import Derived.Handy
import Derived.OwnWalk
import Derived.Laws.IdiomStrings
namespace Go.Proofs.Ytipeelkmmjgehab
open Go.RowKit

/-- What a row of gathered bytes is as a text. -/
theorem own_conv {P : Program} {w : World} {base e src dst : Nat} {v : Value} {l : List UInt8} (h : w.ownsRow base e 1 v l.length (l.map byteV)) (hs : P.underlying src = some (.slice e)) (he : P.underlying e = some (.int .u8)) (hd : P.underlying dst = some .string) :
    (convert src dst v).run P w = .ok (.string ⟨l.toArray⟩) w := by
  by_cases hl : l = []
  · subst hl
    obtain ⟨_, ⟨rfl, _⟩ | ⟨g, cap, cur, rfl, _⟩⟩ := h
    · have h1 := run_convert_bytes_string w src dst e none 0 0 hs he hd
      rw [h1]
      simp [Conv.bytesToString]
      rfl
    · exact run_convert_bytes_back w src dst e ⟨g, 0, none⟩ cap [] hs he hd (fun j hj => by simp at hj)
  · obtain ⟨g, cap, rfl, _, hc⟩ := own_bytes h hl
    exact run_convert_bytes_back w src dst e ⟨g, 0, none⟩ cap l hs he hd hc

theorem push_below {w wr w1 : World} {g e : Nat} {v : Value} {n : Nat} {xs : List Value} {o : Obj} (hown : wr.ownsRow w.heap.size e 1 v n xs) (hg : w.grownBy wr (some g)) (hgr : (wr.alloc o).grownBy w1 v.ownBlock) : w.grownBy w1 (some g) :=
  ⟨hgr.os.trans hg.os, hgr.tape.trans hg.tape, hgr.output.trans hg.output, by have := hgr.size; have := hg.size; simp at *; omega, fun k hk hr => by
    have hs := hg.size
    rw [hgr.block k (by simp; omega) (fun e => by have := (hown.lt k e.symm).1; omega), Below.heap_alloc _ _ _ (by omega)]
    exact hg.block k hk hr⟩

theorem made_bytes (n : Nat) : (madeCells #[Value.int IntKind.u8 0] n).toList = (List.replicate n (0 : UInt8)).map byteV := by
  rw [toList_madeCells_one]
  simp [byteV]

end Go.Proofs.Ytipeelkmmjgehab
