/-
  What Tied of the model and Tied of the program answer: the lace with the knot at its end and its number; the lace and -1 where it can't be; nothing and -1 where it is no lace; in memory of their own; for lists of at most 2^20 knots whose words have at most 2^40 bytes.
-/
import Derived.Test.YtapfmadnkaimeaaDoorTieB
namespace Go.Proofs.YtapfmadnkaimeaaDoor
open Go.RowKit
set_option maxRecDepth 100000
namespace Lc
open Kn (K okK)

def tiedL (L : List K) (k : K) : List K := if laceB L then (if takesB L k then L ++ [k] else L) else []
def tiedN (L : List K) (k : K) : Int := if laceB L then (if takesB L k then (L.length : Int) else -1) else -1

theorem tied_no {L : List K} (k : K) (h : laceB L = false) : tiedL L k = [] ∧ tiedN L k = -1 := by unfold tiedL tiedN; rw [h]; exact ⟨rfl, rfl⟩
theorem tied_same {L : List K} {k : K} (h : laceB L = true) (h2 : takesB L k = false) : tiedL L k = L ∧ tiedN L k = -1 := by unfold tiedL tiedN; rw [h, h2]; exact ⟨rfl, rfl⟩
theorem tied_with {L : List K} {k : K} (h : laceB L = true) (h2 : takesB L k = true) : tiedL L k = L ++ [k] ∧ tiedN L k = (L.length : Int) := by unfold tiedL tiedN; rw [h, h2]; exact ⟨rfl, rfl⟩
theorem tied_len (L : List K) (k : K) : (tiedL L k).length ≤ L.length + 1 := by
  unfold tiedL; split
  · split
    · simp
    · omega
  · simp

/-- how the model's tying ends -/
def SpecTied (L : List K) (k : K) (w : World) (e : Ending) (w' : World) : Prop :=
  ∃ g cap, e = .returned (.tuple #[.slice (some ⟨g, 0, none⟩) (tiedL L k).length cap, .int .i64 (tiedN L k)]) ∧ w.heap.size ≤ g ∧ g < w'.heap.size ∧ RdK w' (some ⟨g, 0, none⟩) (tiedL L k) ∧ Below w.heap.size w w'
/-- how the program's tying ends -/
def ImplTied (L : List K) (k : K) (w : World) (e : Ending) (w' : World) : Prop :=
  ∃ g cap, e = .returned (.tuple #[.slice (some ⟨g, 0, none⟩) (tiedL L k).length cap, .int .i64 (tiedN L k)]) ∧ w.heap.size ≤ g ∧ Made w' g (tiedL L k).length (tiedL L k) (tiedL L k).length ∧ Below w.heap.size w w'

theorem specTied_mk {L : List K} {k : K} {w w' : World} {g cap n : Nat} {x : Int} {T : List K} (h : tiedL L k = T ∧ tiedN L k = x) (hn : n = T.length) (h1 : w.heap.size ≤ g) (h2 : g < w'.heap.size) (h3 : RdK w' (some ⟨g, 0, none⟩) T) (h4 : Below w.heap.size w w') :
    SpecTied L k w (.returned (.tuple #[.slice (some ⟨g, 0, none⟩) n cap, .int .i64 x])) w' := by
  obtain ⟨rfl, rfl⟩ := h; subst hn; exact ⟨g, cap, rfl, h1, h2, h3, h4⟩
theorem implTied_mk {L : List K} {k : K} {w w' : World} {g cap n : Nat} {x : Int} {T : List K} (h : tiedL L k = T ∧ tiedN L k = x) (hn : n = T.length) (h1 : w.heap.size ≤ g) (h3 : Made w' g T.length T T.length) (h4 : Below w.heap.size w w') :
    ImplTied L k w (.returned (.tuple #[.slice (some ⟨g, 0, none⟩) n cap, .int .i64 x])) w' := by
  obtain ⟨rfl, rfl⟩ := h; subst hn; exact ⟨g, cap, rfl, h1, h3, h4⟩

theorem step_own {P : Program} {ops : Array Oper} {o : Oper} {a : Act} {w : World} {K : Act → World → Prop} {Q : Exit → Act → World → Prop} {E : Prop}
    (hg : o.guard = none) (s x : Operand) (t : TypeId) (hop : o.op = Op.call { callee := Callee.builtin Builtin.append, args := #[s, x], argTypes := #[t, t] })
    (base : Nat) (e : TypeId) (i : TypeInfo) (z : Value) (size bytes : Nat) (ht : P.underlying t = some (.slice e)) (hi : P.info? e = some i) (hz : i.zero = some z) (hsize : i.size = size) (hby : i.bytes = bytes) (hzs : z.cells.size = size) (hsz : 0 < size)
    (v : Value) (n : Nat) (xs : List Value) (hs : a.eval s = v) (hown : w.ownsRow base e size v n xs)
    (ad : Addr) (m c : Nat) (news : List Value) (hx : a.eval x = .slice (some ad) m c) (hl : news.length = m * size) (hnews : ∀ j u, news[j]? = some u → w.cell? (ad.add j) = some u) (h1 : ∀ u ∈ news, u.oneCell' = true)
    (h63 : n + m ≤ maxLen) (hbytes : (n + m) * bytes ≤ 140737488355328) (hbase : base ≤ w.heap.size)
    (hK : ∀ v' w', w'.ownsRow base e size v' (n + m) (xs ++ news) → w.grownBy w' v.ownBlock → (v' = .slice none 0 0 ↔ v = .slice none 0 0 ∧ m = 0) → K (a.put o.dst v') w') :
    if Region.wanted o (yielded ops a.tmps) = true then Oper.wp P o a w K Q else E := by
  rw [if_pos (by simp [Region.wanted, hg])]
  exact wp_append_own w s x t hop base e i z size bytes ht hi hz hsize hby hzs hsz v n xs hs hown ad m c news hx hl hnews h1 h63 hbytes hbase hK

theorem kept_cells {W V : World} {k : K} {t : TypeId} (hb : Below (W.alloc (.cells #[.int .i64 k.hand, .int .i64 k.round, .int .i64 k.frm, .string k.word] t)).heap.size (W.alloc (.cells #[.int .i64 k.hand, .int .i64 k.round, .int .i64 k.frm, .string k.word] t)) V) :
    ∀ (j : Nat) u, (cellsOf k)[j]? = some u → V.cell? ((⟨W.heap.size, 0, none⟩ : Addr).add j) = some u := by
  intro j u hj
  have h := new_cells W k t j u hj
  rw [WideShapes.add_plain] at h ⊢
  exact (hb.cell (p := ⟨W.heap.size, 0 + j, none⟩) (by simp)).trans h

theorem ownK_app {t : TypeId} {b : Nat} {w0 w4 w5 : World} {v v' : Value} {L : List K} {k : K} (hne : v ≠ .slice none 0 0) (hown : w4.ownsRow b t 4 v L.length (flat L)) (hb : Below b w0 w4)
    (hbs : b ≤ w4.heap.size) (hown' : w5.ownsRow b t 4 v' (L.length + 1) (flat L ++ cellsOf k)) (hgrow : w4.grownBy w5 v.ownBlock) (hnil : v' = .slice none 0 0 ↔ v = .slice none 0 0 ∧ 1 = 0) :
    OwnK t b w5 v' (L ++ [k]) ∧ Below b w0 w5 :=
  ⟨⟨by rw [flat_snoc, List.length_append]; exact hown', fun e => hne (hnil.1 e).1⟩, hb.grown hgrow hbs (fun i hi => (World.ownsRow.lt hown i hi).1)⟩

end Lc
end Go.Proofs.YtapfmadnkaimeaaDoor
