/-
 What the small functions of the exact statements on lists of knots answer: how great a list is, a list handed on into new memory, and whether two that hold the same are alike; for lists of at most 2^20 knots.
-/
import Derived.Test.YtflhaiakhfmmmaaGreatOLaceR
import Derived.Test.YtflhaiakhfmmmaaGreatOLawK
import Derived.Test.YtflhaiakhfmmmaaGreatOFam
namespace Go.Proofs.YtflhaiakhfmmmaaGreat
open Go.RowKit
set_option maxRecDepth 100000
namespace Lc
open Kn (K okK)
structure Made (w : World) (B n : Nat) (L : List K) (j : Nat) : Prop where
 lt : B < w.heap.size
 rd : ∀ i, i < j → CellsK w B (i * 4) (at' L i)
 ex : ∀ i, i < n * 4 → ∃ v, w.cell? ⟨B, i, none⟩ = some v
 fr : ∀ i, i < n * 4 → w.frozen? ⟨B, i, none⟩ = false
theorem Made.below {w w' : World} {B n j : Nat} {L : List K} (h : Made w B n L j) (hb : Below w.heap.size w w') : Made w' B n L j where
 lt := Nat.lt_of_lt_of_le h.lt hb.size
 rd := fun i hi => (h.rd i hi).below hb h.lt
 ex := fun i hi => by obtain ⟨v, hv⟩ := h.ex i hi; exact ⟨v, (hb.cell (p := ⟨B, i, none⟩) h.lt).trans hv⟩
 fr := fun i hi => (hb.frozen (p := ⟨B, i, none⟩) h.lt).trans (h.fr i hi)
theorem infoKn : (Tryz.prog.info? 42).map (fun i => (i.zero, i.size, i.bytes)) = some (some (.agg #[.int .i64 0, .int .i64 0, .int .i64 0, .string ⟨#[]⟩]), 4, 40) := by kernel_rfl
end Lc
end Go.Proofs.YtflhaiakhfmmmaaGreat
