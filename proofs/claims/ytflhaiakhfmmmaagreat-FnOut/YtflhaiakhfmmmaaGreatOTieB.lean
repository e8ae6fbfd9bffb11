/-
 What the model's copy of a list and the program's own handing out and tying answer: the knots in memory of their own; for lists of at most 2000000 knots.
-/
import Derived.Test.YtflhaiakhfmmmaaGreatOLaceE
import Derived.Test.YtflhaiakhfmmmaaGreatOLaceL
import Derived.Laws.CopyOwn
namespace Go.Proofs.YtflhaiakhfmmmaaGreat
open Go.RowKit
set_option maxRecDepth 100000
namespace Lc
open Kn (K okK)
theorem cells_at {w : World} {g o : Nat} {k : K} (h : CellsK w g o k) (c : Nat) (hc : c < 4) (u : Value) (hu : (cellsOf k)[c]? = some u) : w.cell? ⟨g, o + c, none⟩ = some u := by
 match c, hc with
 | 0, _ => simp [cellsOf] at hu; subst hu; exact h.c0
 | 1, _ => simp [cellsOf] at hu; subst hu; exact h.c1
 | 2, _ => simp [cellsOf] at hu; subst hu; exact h.c2
 | 3, _ => simp [cellsOf] at hu; subst hu; exact h.c3
theorem rd_news {w : World} {g off : Nat} {L : List K} (h : RdK w (some ⟨g, off, none⟩) L) : ∀ (j : Nat) u, (flat L)[j]? = some u → w.cell? ((⟨g, off, none⟩ : Addr).add j) = some u := by
 intro j u hj
 have hlt : j < L.length * 4 := by
   have := (List.getElem?_eq_some_iff.1 hj).1
   rwa [flat_len] at this
 have e : j = j / 4 * 4 + j % 4 := by omega
 have hc := (h.on (j / 4) (by omega)).2
 rw [e, flat_at L (j / 4) (j % 4) (by omega) (by omega)] at hj
 have := cells_at hc (j % 4) (by omega) u hj
 rw [WideShapes.add_plain]
 rwa [show off + j / 4 * 4 + j % 4 = off + j by omega] at this
theorem ownK_base {t : TypeId} {b b' : Nat} {w : World} {v : Value} {L : List K} (h : OwnK t b w v L) (hb : b' ≤ b) : OwnK t b' w v L := by
 refine ⟨?_, h.2⟩
 obtain ⟨h1, h2⟩ := h.1
 refine ⟨h1, ?_⟩
 rcases h2 with h2 | ⟨g, cap', cur, hv, hB, rest⟩
 · exact .inl h2
 · exact .inr ⟨g, cap', cur, hv, by omega, rest⟩
theorem own_nil (w : World) (t : TypeId) : (w.alloc (.cells #[] t)).ownsRow w.heap.size t 4 (.slice (some ⟨w.heap.size, 0, none⟩) 0 0) 0 [] := by
 refine ⟨rfl, .inr ⟨w.heap.size, 0, #[], rfl, Nat.le_refl _, ?_, Nat.le_refl _, by unfold maxLen; omega, rfl, rfl⟩⟩
 show (w.heap.push _)[w.heap.size]? = _
 rw [Array.getElem?_push_size]
def CopyPost (L : List K) (w : World) (e : Ending) (w' : World) : Prop := ∃ v, e = .returned v ∧ OwnK 42 w.heap.size w' v L ∧ Below w.heap.size w w'
set_option maxHeartbeats 800000 in
theorem l3Copy (g off cap : Nat) (L : List K) (w : World) (hl : L.length ≤ 2000000) (hr : RdK w (some ⟨g, off, none⟩) L) : Calls Tryz.prog 88 #[.slice (some ⟨g, off, none⟩) L.length cap] w (CopyPost L w) := by
 obtain ⟨i0, hi, hz0, hz1, hz2⟩ := info_parts infoKn
 go_enter Tryz.func88, Tryz.ntmps88
 go_wp2_with (at_builtin; refine wpList_append_own _ rfl _ _ 24 rfl w.heap.size 42 i0 (.agg #[.int .i64 0, .int .i64 0, .int .i64 0, .string ⟨#[]⟩]) 4 40 Tryz.underlying24 hi hz0 hz1 hz2 rfl (by decide) _ 0 [] rfl (own_nil w _) ⟨g, off, none⟩ L.length cap (flat L) rfl (flat_len L) ?c1 ?c2 ?c3 ?c4 ?c5 ?_)
 case c1 => exact rd_news (hr.below ((Below.refl _ _).alloc (Nat.le_refl _) _))
 case c2 => exact flat_one L
 case c3 => unfold maxLen; omega
 case c4 => omega
 case c5 => simp
 intro v' w5 hown' hgrow hnil
 have HR : Hid (OwnK 42 w.heap.size w5 v' L ∧ Below w.heap.size w w5) := by
   refine ⟨⟨by simpa using hown', ?_⟩, ?_⟩
   · intro e
     simp [e] at hnil
   · exact ((Below.refl w.heap.size w).alloc (Nat.le_refl _) _).grown hgrow (by simp) (fun i hi => by simp [Value.ownBlock] at hi; omega)
 clear hown' hgrow hnil hi hz0 hz1 hz2
 go_wp2
 go_ret
 exact ⟨v', rfl, HR.out.1, HR.out.2⟩
end Lc
end Go.Proofs.YtflhaiakhfmmmaaGreat
