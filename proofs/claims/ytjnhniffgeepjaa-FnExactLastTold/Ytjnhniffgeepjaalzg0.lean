/-
 The laws' own copy and count of a log that came in: the copy lies in memory of its own, its lists one behind the other.
-/
import Derived.Laws.BitsAllLaws
import Derived.Laws.Bits128
import Derived.WalkKit
import Derived.Test.YtjnhniffgeepjaaChecked
import Derived.BigQuiet
import Derived.Deep.OwnRows
import Derived.Deep.QuietTactic
import Derived.WalkSmall
import Derived.Deep.RegionLaw
import Derived.Deep.RegionWith
import Derived.Deep.DeepCutAuto
import Derived.Deep.AppendLies
import Derived.Laws.OwnMore
import Derived.BigRegion
import Derived.Below
import Derived.Maps.AppendAt
import Derived.Laws.AppendOwnNone
import Derived.Deep.RegionHeld3
import Derived.Deep.CutBlock
import Derived.Deep.CutRange
set_option linter.unusedVariables false
namespace Go.Proofs.Ytjnhniffgeepjaa.Bit
end Go.Proofs.Ytjnhniffgeepjaa.Bit
namespace Go.Proofs.Ytjnhniffgeepjaa
open Go.RowKit
set_option maxRecDepth 100000
namespace Base
end Base
end Go.Proofs.Ytjnhniffgeepjaa
namespace Go.Proofs.Ytjnhniffgeepjaa
open Go.RowKit
set_option maxRecDepth 100000
namespace Kn
end Kn
end Go.Proofs.Ytjnhniffgeepjaa
namespace Go.Proofs.Ytjnhniffgeepjaa
open Go.RowKit
set_option maxRecDepth 100000
namespace Lc
end Lc
end Go.Proofs.Ytjnhniffgeepjaa
namespace Go.Proofs.Ytjnhniffgeepjaa
open Go.RowKit
set_option maxRecDepth 100000
namespace Sg
end Sg
end Go.Proofs.Ytjnhniffgeepjaa
namespace Go.Proofs.Ytjnhniffgeepjaa
open Go.RowKit
set_option maxRecDepth 100000
namespace Memb
theorem info2 : (Try.prog.info? 2).map (fun i => (i.zero, i.size, i.bytes)) = some (some (.int .i64 0), 1, 8) := by kernel_rfl
theorem own_empty (w : World) : (w.alloc (.cells #[] 2)).ownsRow w.heap.size 2 1 (.slice (some ⟨w.heap.size, 0, none⟩) 0 0) 0 [] :=
 World.ownsRow_lit w #[] 0 (Nat.le_refl _) (by unfold maxLen; omega) rfl
def Own (B : Nat) (w : World) (ao : Option Addr) (cap : Nat) (l : List Int) : Prop := w.ownsRow B 2 1 (.slice ao l.length cap) l.length (l.map (Value.int .i64))
theorem own_shape {B : Nat} {w : World} {v : Value} {l : List Int} (h : w.ownsRow B 2 1 v l.length (l.map (Value.int .i64))) : ∃ ao cap, v = .slice ao l.length cap ∧ Own B w ao cap l := by
 have h' := h
 obtain ⟨_, ⟨hv, hn⟩ | ⟨g, cap, cur, hv, _⟩⟩ := h'
 · refine ⟨none, 0, by rw [hn]; exact hv, ?_⟩
   unfold Own; rw [hn] at h ⊢; rw [← hv]; exact h
 · refine ⟨some ⟨g, 0, none⟩, cap, hv, ?_⟩
   unfold Own; rw [← hv]; exact h
end Memb
end Go.Proofs.Ytjnhniffgeepjaa
namespace Go.Proofs.Ytjnhniffgeepjaa
open Go.RowKit
set_option maxRecDepth 100000
namespace Lc
end Lc
end Go.Proofs.Ytjnhniffgeepjaa
namespace Go.Proofs.Ytjnhniffgeepjaa
open Go.RowKit
set_option maxRecDepth 100000
namespace Kn
end Kn
end Go.Proofs.Ytjnhniffgeepjaa
namespace Go.Proofs.Ytjnhniffgeepjaa
open Go.RowKit
set_option maxRecDepth 100000
namespace Lc
end Lc
end Go.Proofs.Ytjnhniffgeepjaa
namespace Go.Proofs.Ytjnhniffgeepjaa
open Go.RowKit
set_option maxRecDepth 100000
namespace Lst
open Memb (Own)
def Rd (w : World) (ao : Option Addr) (l : List Int) : Prop := l = [] ∨ ∃ g, ao = some ⟨g, 0, none⟩ ∧ ∀ j, j < l.length → w.cell? ⟨g, j, none⟩ = some (.int .i64 (l.getD j 0))
theorem own_block {B : Nat} {w : World} {ao : Option Addr} {cap : Nat} {l : List Int} (h : Own B w ao cap l) (hl : l ≠ []) : ∃ g, ao = some ⟨g, 0, none⟩ ∧ B ≤ g ∧ g < w.heap.size := by
 have hlt := World.ownsRow.lt h
 obtain ⟨_, ⟨_, hn⟩ | ⟨g, cap', cur, hv, hB, _⟩⟩ := h
 · exact absurd (List.length_eq_zero_iff.1 hn) hl
 · simp only [Value.slice.injEq] at hv
   obtain ⟨rfl, _, _⟩ := hv
   exact ⟨g, rfl, hB, (hlt g rfl).2⟩
theorem own_rd {B : Nat} {w : World} {ao : Option Addr} {cap : Nat} {l : List Int} (h : Own B w ao cap l) : Rd w ao l := by
 by_cases hl : l = []
 · exact .inl hl
 · obtain ⟨g, rfl, _, _⟩ := own_block h hl
   refine .inr ⟨g, rfl, fun j hj => ?_⟩
   have := World.ownsRow.cellAt h j (by omega)
   rw [this]; simp [hj]
theorem own_below {B : Nat} {w w' : World} {ao : Option Addr} {cap : Nat} {l : List Int} (h : Own B w ao cap l) (hb : Below w.heap.size w w') : Own B w' ao cap l := by
 have hlt := World.ownsRow.lt h
 unfold Own at *
 obtain ⟨h1, h2⟩ := h
 refine ⟨h1, ?_⟩
 rcases h2 with h2 | ⟨g, cap', cur, hv, hB, hg, rest⟩
 · exact .inl h2
 · refine .inr ⟨g, cap', cur, hv, hB, ?_, rest⟩
   rw [hv] at hlt
   rw [hb.block g (hlt g rfl).2]; exact hg
end Lst
end Go.Proofs.Ytjnhniffgeepjaa
namespace Go.Proofs.Ytjnhniffgeepjaa
open Go.RowKit
set_option maxRecDepth 100000
namespace Sg
open Memb (Own)
def NumsPost (l : List Int) (w : World) (e : Ending) (w' : World) : Prop := ∃ ao cap, e = .returned (.slice ao l.length cap) ∧ Own w.heap.size w' ao cap l ∧ Below w.heap.size w w'
end Sg
end Go.Proofs.Ytjnhniffgeepjaa
namespace Go.Proofs.Ytjnhniffgeepjaa
open Go.RowKit
set_option maxRecDepth 100000
namespace Sg
end Sg
end Go.Proofs.Ytjnhniffgeepjaa
namespace Go.Proofs.Ytjnhniffgeepjaa
open Go.RowKit
set_option maxRecDepth 100000
namespace Db
structure RowI (w : World) (g n : Nat) (D : Nat → Int) : Prop where
 lt : g < w.heap.size
 rd : ∀ i, i < n → w.cell? ⟨g, i, none⟩ = some (.int .i64 (D i))
 fr : ∀ i, i < n → w.frozen? ⟨g, i, none⟩ = false
theorem RowI.put {w : World} {g n : Nat} {D : Nat → Int} (h : RowI w g n D) (m : Nat) (hm : m < n) (x : Int) : RowI (w.setCell ⟨g, m, none⟩ (.int .i64 x)) g n (fun i => if i = m then x else D i) where
 lt := by simpa using h.lt
 rd := fun i hi => by
   by_cases e : i = m
   · subst e; simpa using World.cell?_setCell_same _ _ _ (h.rd i hi)
   · rw [if_neg e]; exact (World.cell?_setCell_other _ _ _ _ (by intro q; injection q with _ q; exact e q.symm)).trans (h.rd i hi)
 fr := fun i hi => by simpa using h.fr i hi
theorem rowI_made (w : World) (t : TypeId) (n : Nat) : RowI (w.alloc (.cells (madeCells #[.int .i64 0] n) t)) w.heap.size n (fun _ => 0) where
 lt := by simp
 rd := fun i hi => by
   rw [World.cell?_alloc_new]
   have : i < (madeCells #[Value.int .i64 0] n).size := by rw [size_madeCells]; exact hi
   rw [Array.getElem?_eq_getElem this]
   simp [madeCells, Nat.mod_one]
 fr := fun i hi => by simp
end Db
end Go.Proofs.Ytjnhniffgeepjaa
namespace Go.Proofs.Ytjnhniffgeepjaa
open Go.RowKit
set_option maxRecDepth 100000
namespace Lc
end Lc
end Go.Proofs.Ytjnhniffgeepjaa
namespace Go.Proofs.Ytjnhniffgeepjaa
open Go.RowKit
set_option maxRecDepth 100000
namespace Lc
end Lc
end Go.Proofs.Ytjnhniffgeepjaa
namespace Go.Proofs.Ytjnhniffgeepjaa
open Go.RowKit
set_option maxRecDepth 100000
namespace Lc
end Lc
end Go.Proofs.Ytjnhniffgeepjaa
namespace Go.Proofs.Ytjnhniffgeepjaa
open Go.RowKit
namespace Fam
theorem region {P : Program} {X : Type} {F : X → World} {id : Nat} {Q : Exit → Act → World → Prop} {a : Act} {w : World} {l : List Oper} (hm : P.follows .mixedOrders = true) (hB : Region.lexB .any l.toArray = true) (hC : ∃ z, w.drew = F z)
   (h : wpQuiet P l.toArray (fun w' => ∃ z, w' = F z) (fun a' => ∀ w', (∃ z, w' = F z) → Q .normal a' w') l a) : (Code.region id l.toArray true).wp P Q a w :=
 wp_region_quiet (C := fun w' => ∃ z, w' = F z) hm hB hC (by simpa using h)
theorem fam (W : World) : ∃ (X : Type) (_ : Inhabited X) (F : X → World), Hid (∀ z, Below W.heap.size W (F z)) ∧ Hid (∀ w', Below W.heap.size W w' → ∃ z, w' = F z) :=
 ⟨{w' // Below W.heap.size W w'}, ⟨⟨W, Below.refl _ _⟩⟩, Subtype.val, fun z => z.2, fun w' h => ⟨⟨w', h⟩, rfl⟩⟩
end Fam
end Go.Proofs.Ytjnhniffgeepjaa
namespace Go.Proofs.Ytjnhniffgeepjaa
open Go.RowKit
set_option maxRecDepth 100000
namespace Lc
end Lc
end Go.Proofs.Ytjnhniffgeepjaa
namespace Go.Proofs.Ytjnhniffgeepjaa
open Go.RowKit
set_option maxRecDepth 100000
namespace Lc
end Lc
end Go.Proofs.Ytjnhniffgeepjaa
namespace Go.Proofs.Ytjnhniffgeepjaa
open Go.RowKit
set_option maxRecDepth 100000
namespace Sg
end Sg
end Go.Proofs.Ytjnhniffgeepjaa
namespace Go.Proofs.Ytjnhniffgeepjaa
open Go.RowKit
set_option maxRecDepth 100000
namespace Db
end Db
end Go.Proofs.Ytjnhniffgeepjaa
namespace Go.Proofs.Ytjnhniffgeepjaa
open Go.RowKit
set_option maxRecDepth 100000
namespace Nd
end Nd
end Go.Proofs.Ytjnhniffgeepjaa
namespace Go.Proofs.Ytjnhniffgeepjaa
open Go.RowKit
set_option maxRecDepth 100000
namespace Sl
end Sl
end Go.Proofs.Ytjnhniffgeepjaa
namespace Go.Proofs.Ytjnhniffgeepjaa
open Go.RowKit
set_option maxRecDepth 100000
namespace Ag
end Ag
end Go.Proofs.Ytjnhniffgeepjaa
namespace Go.Proofs.Ytjnhniffgeepjaa
open Go.RowKit
set_option maxRecDepth 100000
namespace Rm
open Memb (Own)
theorem rd_nums {w : World} {ao : Option Addr} {l : List Int} {g : Nat} (h : Lst.Rd w ao l) (ha : ao = some ⟨g, 0, none⟩) : ∀ (j : Nat) u, (l.map (Value.int .i64))[j]? = some u → w.cell? ((⟨g, 0, none⟩ : Addr).add j) = some u := by
 intro j u hj
 rcases h with h | ⟨b, hb, hc⟩
 · rw [h] at hj; simp at hj
 · rw [ha] at hb
   injection hb with hb
   injection hb with hb
   subst hb
   have hlt : j < l.length := by
     have := (List.getElem?_eq_some_iff.1 hj).1
     simpa using this
   have hu : u = .int .i64 (l.getD j 0) := by
     simp [hlt] at hj
     rw [← hj]; simp [List.getD, hlt]
   rw [hu, WideShapes.add_plain, Nat.zero_add]
   exact hc j hlt
theorem nums_one (l : List Int) : ∀ u ∈ l.map (Value.int .i64), u.oneCell' = true := by
 intro u hu
 rw [List.mem_map] at hu
 obtain ⟨z, _, rfl⟩ := hu
 rfl
set_option maxHeartbeats 800000 in
theorem l1Copy (g cap : Nat) (l : List Int) (w : World) (hl : l.length ≤ 1048576) (hlt : g < w.heap.size) (hrd : Lst.Rd w (some ⟨g, 0, none⟩) l) : Calls Try.prog 15 #[.slice (some ⟨g, 0, none⟩) l.length cap] w (Sg.NumsPost l w) := by
 obtain ⟨i0, hi, hz0, hz1, hz2⟩ := info_parts Memb.info2
 have hrd0 : Lst.Rd (w.alloc (.cells #[] 2)) (some ⟨g, 0, none⟩) l := by
   rcases hrd with h | ⟨b, hb, hc⟩
   · exact .inl h
   · injection hb with hb
     injection hb with hb
     subst hb
     exact .inr ⟨g, rfl, fun j hj => (World.cell?_alloc_lt w _ ⟨g, j, none⟩ hlt).trans (hc j hj)⟩
 go_enter Try.func15, Try.ntmps15
 go_wp2_with (at_builtin; refine wpList_append_own _ rfl _ _ 22 rfl w.heap.size 2 i0 (.int .i64 0) 1 8 Try.underlying22 hi hz0 hz1 hz2 rfl (by decide) _ 0 [] rfl (Memb.own_empty w) ⟨g, 0, none⟩ l.length cap (l.map (Value.int .i64)) rfl (by simp) (rd_nums hrd0 rfl) (nums_one l) ?c3 ?c4 ?c5 ?_)
 case c3 => unfold maxLen; omega
 case c4 => omega
 case c5 => simp
 intro v' w5 hown' hgrow _
 have HR : Hid (w5.ownsRow w.heap.size 2 1 v' l.length (l.map (Value.int .i64)) ∧ Below w.heap.size w w5) :=
   ⟨by simpa using hown', ((Below.refl w.heap.size w).alloc (Nat.le_refl _) _).grown hgrow (by simp) (fun i hi => by simp [Value.ownBlock] at hi; omega)⟩
 clear hown' hgrow hi hz0 hz1 hz2
 obtain ⟨ao, ca, hv, ho⟩ := Memb.own_shape HR.out.1
 subst hv
 go_wp2
 go_ret
 exact ⟨ao, ca, rfl, ho, HR.out.2⟩
end Rm
end Go.Proofs.Ytjnhniffgeepjaa
namespace Go.Proofs.Ytjnhniffgeepjaa
open Go.RowKit
set_option maxRecDepth 100000
namespace Ch
end Ch
end Go.Proofs.Ytjnhniffgeepjaa
namespace Go.Proofs.Ytjnhniffgeepjaa
open Go.RowKit
set_option maxRecDepth 100000
namespace Ch
end Ch
end Go.Proofs.Ytjnhniffgeepjaa
namespace Go.Proofs.Ytjnhniffgeepjaa
open Go.RowKit
set_option maxRecDepth 100000
namespace Tl
end Tl
end Go.Proofs.Ytjnhniffgeepjaa
namespace Go.Proofs.Ytjnhniffgeepjaa
open Go.RowKit
set_option maxRecDepth 100000
namespace Ch
theorem rd_below {w w' : World} {ao : Option Addr} {l : List Int} (h : Lst.Rd w ao l) (hao : ∀ c, ao = some ⟨c, 0, none⟩ → c < w.heap.size) (hb : Below w.heap.size w w') : Lst.Rd w' ao l := by
 rcases h with h | ⟨g, rfl, hc⟩
 · exact .inl h
 · exact .inr ⟨g, rfl, fun j hj => (hb.cell (p := ⟨g, j, none⟩) (hao g rfl)).trans (hc j hj)⟩
end Ch
end Go.Proofs.Ytjnhniffgeepjaa
namespace Go.Proofs.Ytjnhniffgeepjaa
open Go.RowKit
set_option maxRecDepth 100000
namespace Nd
open Db (RowI)
end Nd
end Go.Proofs.Ytjnhniffgeepjaa
namespace Go.Proofs.Ytjnhniffgeepjaa
open Go.RowKit
set_option maxRecDepth 100000
namespace Sl
open Db (RowI)
end Sl
end Go.Proofs.Ytjnhniffgeepjaa
namespace Go.Proofs.Ytjnhniffgeepjaa
open Go.RowKit
set_option maxRecDepth 100000
namespace Fm
open Sg (NumsPost)
open Db (RowI)
end Fm
end Go.Proofs.Ytjnhniffgeepjaa
namespace Go.Proofs.Ytjnhniffgeepjaa
open Go.RowKit
set_option maxRecDepth 100000
namespace Ch
open Sg (NumsPost)
open Db (RowI)
theorem own_base {B B' : Nat} {w : World} {ao : Option Addr} {cap : Nat} {l : List Int} (h : Memb.Own B w ao cap l) (hb : B' ≤ B) : Memb.Own B' w ao cap l := by
 obtain ⟨a1, a2⟩ := h
 refine ⟨a1, ?_⟩
 rcases a2 with a2 | ⟨g2, c2, cur, e1, e2, rest⟩
 · exact .inl a2
 · exact .inr ⟨g2, c2, cur, e1, Nat.le_trans hb e2, rest⟩
theorem nums_nil {w w1 : World} (hb1 : Below w.heap.size w w1) : Memb.Own w.heap.size (w1.alloc (.cells #[] 2)) (some ⟨w1.heap.size, 0, none⟩) 0 [] ∧ Below w.heap.size w (w1.alloc (.cells #[] 2)) := ⟨own_base (Memb.own_empty w1) hb1.size, hb1.alloc hb1.size _⟩
end Ch
end Go.Proofs.Ytjnhniffgeepjaa
namespace Go.Proofs.Ytjnhniffgeepjaa
open Go.RowKit
set_option maxRecDepth 100000
namespace Tl
open Sg (NumsPost)
end Tl
end Go.Proofs.Ytjnhniffgeepjaa
namespace Go.Proofs.Ytjnhniffgeepjaa
open Go.RowKit
set_option maxRecDepth 100000
namespace Sg
end Sg
end Go.Proofs.Ytjnhniffgeepjaa
namespace Go.Proofs.Ytjnhniffgeepjaa
open Go.RowKit
set_option maxRecDepth 100000
namespace Tl
open Sg (NumsPost)
end Tl
end Go.Proofs.Ytjnhniffgeepjaa
namespace Go.Proofs.Ytjnhniffgeepjaa
open Go.RowKit
set_option maxRecDepth 100000
namespace Cur
theorem grownBy_set {a b : World} {c : Nat} (h : a.grownBy b (some c)) (j : Nat) (u : Value) : a.grownBy (b.setCell ⟨c, j, none⟩ u) (some c) where
 os := h.os
 tape := h.tape
 output := h.output
 size := by simpa using h.size
 block := fun k hk hne => (heap_setCell_other b ⟨c, j, none⟩ k u (fun e => hne (by simp [e]))).trans (h.block k hk hne)
end Cur
end Go.Proofs.Ytjnhniffgeepjaa
namespace Go.Proofs.Ytjnhniffgeepjaa
open Go.RowKit
set_option maxRecDepth 100000
namespace Lsx
open Memb (Own)
open Lst (Rd own_block own_rd own_below)
def marks (k : Int) (n : Nat) : List Int := (List.range n).map fun i : Nat => k + (i : Int)
theorem marks_length (k : Int) (n : Nat) : (marks k n).length = n := by simp [marks]
theorem marks_get (k : Int) (n j : Nat) (h : j < n) : (marks k n).getD j 0 = k + (j : Int) := by simp [marks, h]
set_option maxHeartbeats 400000 in
theorem held (k0 : Int) (n : Nat) (ao : Option Addr) (cap : Nat) (w : World) (hk : 0 ≤ k0) (hk' : k0 ≤ 1048576) (hn : n ≤ 1048576) (h : Rd w ao (marks k0 n)) :
   Calls Try.prog 12 #[.slice ao n cap, .int .i64 k0] w fun e w' => e = .returned (.int .i64 (k0 + (n : Int))) ∧ w = w' := by
 go_enter Try.func12, Try.ntmps12
 go_wp2
 go_loop [1, 5] (fun q i => ∃ k : Nat, k ≤ n ∧ i = .int .i64 k ∧ q = .int .i64 (k0 + (k : Int))) (fun _ i => n - (intOf i).toNat)
 case atStart => exact ⟨0, by omega, rfl, by simp⟩
 case round =>
   obtain ⟨k, hkn, rfl, rfl⟩ := hrel
   by_cases hlt : k < n
   · rcases h with h | ⟨g, rfl, hc⟩
     · exfalso; have := marks_length k0 n; rw [h] at this; simp at this; omega
     · have hck := hc k (by rw [marks_length]; exact hlt)
       rw [marks_get k0 n k hlt] at hck
       clear hc
       go_wp2
       go_round
       case rel => exact ⟨k + 1, by omega, by go_num, by go_num⟩
       case measure => simp [intOf]; omega
   · obtain rfl : k = n := by omega
     go_wp2
     go_ret
     exact ⟨rfl, rfl⟩
set_option maxHeartbeats 800000 in
theorem alike (l : List Int) (a b : Option Addr) (ca cb : Nat) (w : World) (hn : l.length ≤ 1048576) (ha : Rd w a l) (hb : Rd w b l) :
   Calls Try.prog 8 #[.slice a l.length ca, .slice b l.length cb] w fun e w' => e = .returned (.bool true) ∧ ∃ n, w' = w.drewN n := by
 go_enter Try.func8, Try.ntmps8
 go_wp2
 go_loopw [5] (fun i wr => ∃ k n : Nat, k ≤ l.length ∧ i = .int .i64 k ∧ wr = w.drewN n) (fun i _ => l.length - (intOf i).toNat)
 case atStart => exact ⟨0, 0, by omega, rfl, rfl⟩
 case round =>
   obtain ⟨k, n, hkn, rfl, rfl⟩ := hrel
   by_cases hlt : k < l.length
   · rcases ha with h | ⟨g, rfl, hc⟩
     · exfalso; rw [h] at hlt; simp at hlt
     · rcases hb with h | ⟨g', rfl, hc'⟩
       · exfalso; rw [h] at hlt; simp at hlt
       · have h1 := hc k hlt
         have h2 := hc' k hlt
         clear hc hc'
         generalize l.getD k 0 = x at h1 h2
         go_wp2_with fail
         go_quiet (fail)
         go_wp2
         go_roundw
         case rel => exact ⟨k + 1, _, by omega, by go_num, rfl⟩
         case measure => simp [intOf]; omega
   · go_wp2
     go_ret
     exact ⟨rfl, n, rfl⟩
end Lsx
end Go.Proofs.Ytjnhniffgeepjaa
namespace Go.Proofs.Ytjnhniffgeepjaa
open Go.RowKit
set_option maxRecDepth 100000
namespace Nu
open Db (RowI)
def RdI (w : World) (ao : Option Addr) (C : List Int) : Prop := C = [] ∨ ∃ g off, ao = some ⟨g, off, none⟩ ∧ g < w.heap.size ∧ ∀ j, j < C.length → w.cell? ⟨g, off + j, none⟩ = some (.int .i64 (C.getD j 0))
theorem RdI.below {w w' : World} {ao : Option Addr} {C : List Int} (h : RdI w ao C) (hb : Below w.heap.size w w') : RdI w' ao C := by
 rcases h with h | ⟨g, off, e, hg, hc⟩
 · exact .inl h
 · exact .inr ⟨g, off, e, Nat.lt_of_lt_of_le hg hb.size, fun j hj => (hb.cell (p := ⟨g, off + j, none⟩) hg).trans (hc j hj)⟩
theorem row_below {w w' : World} {b n : Nat} {D : Nat → Int} (h : RowI w b n D) (hb : Below w.heap.size w w') : RowI w' b n D :=
 ⟨Nat.lt_of_lt_of_le h.lt hb.size, fun i hi => (hb.cell (p := ⟨b, i, none⟩) h.lt).trans (h.rd i hi), fun i hi => (hb.frozen (p := ⟨b, i, none⟩) h.lt).trans (h.fr i hi)⟩
theorem row_eq {w : World} {b n : Nat} {D E : Nat → Int} (h : RowI w b n D) (e : ∀ i, i < n → D i = E i) : RowI w b n E := ⟨h.lt, fun i hi => by rw [← e i hi]; exact h.rd i hi, h.fr⟩
def ToPost (C : List Int) (w : World) (e : Ending) (w' : World) : Prop := e = .returned (.slice (some ⟨w.heap.size, 0, none⟩) C.length C.length) ∧ RowI w' w.heap.size C.length (fun i => C.getD i 0) ∧ Below w.heap.size w w'
def soFar (C : List Int) (j i : Nat) : Int := if i < j then C.getD i 0 else 0
set_option maxHeartbeats 1600000 in
theorem toInts (ao : Option Addr) (cap : Nat) (C : List Int) (w : World) (hl : C.length ≤ 1048576) (hr : RdI w ao C) :
   Calls Try.prog 16 #[.slice ao C.length cap] w (ToPost C w) := by
 have hmk : ∀ W : World, (Instr.makeSlice 22 (.int .i64 (C.length : Int)) (.int .i64 (C.length : Int))).run Try.prog W = .ok (.slice (some ⟨W.heap.size, 0, none⟩) C.length C.length) (W.alloc (.cells (madeCells #[.int .i64 0] C.length) 2)) :=
   fun W => run_make_row' (P := Try.prog) 22 2 (.int .i64 0) 8 Try.underlying22 Memb.info2 rfl .i64 .i64 C.length (by omega) (by omega) W
 have HP : Hid (RowI (w.alloc (.cells (madeCells #[.int .i64 0] C.length) 2)) w.heap.size C.length (fun _ => 0) ∧ Below w.heap.size w (w.alloc (.cells (madeCells #[.int .i64 0] C.length) 2))) := ⟨Db.rowI_made _ _ _, (Below.refl _ _).alloc (Nat.le_refl _) _⟩
 generalize madeCells #[Value.int .i64 0] C.length = mc at hmk HP
 go_enter Try.func16, Try.ntmps16
 go_wp2
 clear hmk
 go_loopw [4] (fun i wr => ∃ j : Nat, j ≤ C.length ∧ i = .int .i64 j ∧ Hid (RowI wr w.heap.size C.length (soFar C j)) ∧ Hid (Below w.heap.size w wr)) (fun i _ => C.length - (intOf i).toNat)
 case atStart => exact ⟨0, by omega, rfl, row_eq HP.out.1 (fun i _ => by unfold soFar; rw [if_neg (by omega)]), HP.out.2⟩
 case round =>
   obtain ⟨j, hj, rfl, HR, HB⟩ := hrel
   by_cases hlt : j < C.length
   · rcases hr with h | ⟨g, off, rfl, hg, hc⟩
     · exfalso; rw [h] at hlt; simp at hlt
     have cj := (HB.out.cell (p := ⟨g, off + j, none⟩) hg).trans (hc j hlt)
     have dj := HR.out.rd j hlt
     have fj := HR.out.fr j hlt
     have hbs := HR.out.lt
     have hgr : g < wr.heap.size := Nat.lt_of_lt_of_le hg HB.out.size
     have HR1 : Hid (RowI (wr.setCell ⟨w.heap.size, j, none⟩ (.int .i64 (C.getD j 0))) w.heap.size C.length (soFar C (j + 1))) := row_eq (HR.out.put j hlt (C.getD j 0)) (fun i _ => by
       unfold soFar
       by_cases e : i = j
       · subst e; rw [if_pos rfl, if_pos (by omega)]
       · rw [if_neg e]
         by_cases q : i < j
         · rw [if_pos q, if_pos (by omega)]
         · rw [if_neg q, if_neg (by omega)])
     have HB1 : Hid (Below w.heap.size w (wr.setCell ⟨w.heap.size, j, none⟩ (.int .i64 (C.getD j 0)))) := HB.out.setCell (p := ⟨w.heap.size, j, none⟩) (Nat.le_refl _) _
     generalize C.getD j 0 = x at cj HR1 HB1
     generalize soFar C j j = y at dj
     clear HR HB hc
     go_wp2
     go_roundw
     case rel => exact ⟨j + 1, by omega, by go_num, HR1, HB1⟩
     case measure => simp [intOf]; omega
   · obtain rfl : j = C.length := by omega
     have HR2 : Hid (RowI wr w.heap.size C.length (fun i => C.getD i 0)) := row_eq HR.out (fun i hi => by unfold soFar; rw [if_pos hi])
     clear HR
     go_wp2
     go_ret
     exact ⟨rfl, HR2.out, HB.out⟩
theorem below_drewN {b : Nat} {a w : World} (h : Below b a w) (n : Nat) : Below b a (w.drewN n) := ⟨h.os, h.tape, h.output, h.size, h.block⟩
theorem alikeB (l : List Int) (a b : Option Addr) (ca cb : Nat) (w : World) (hn : l.length ≤ 1048576) (ha : Lst.Rd w a l) (hb : Lst.Rd w b l) :
   Calls Try.prog 8 #[.slice a l.length ca, .slice b l.length cb] w fun e w' => e = .returned (.bool true) ∧ Below w.heap.size w w' := by
 refine (Lsx.alike l a b ca cb w hn ha hb).mono ?_
 rintro e w' ⟨h, n, rfl⟩
 exact ⟨h, below_drewN (Below.refl _ _) n⟩
def MarkPost (b n : Nat) (k0 : Int) (w : World) (e : Ending) (w' : World) : Prop := e = .returned (.int .i64 (k0 + (n : Int))) ∧ RowI w' b n (fun i => k0 + (i : Int)) ∧ w.grownBy w' (some b)
def markD (D : Nat → Int) (k0 : Int) (j i : Nat) : Int := if i < j then k0 + (i : Int) else D i
end Nu
end Go.Proofs.Ytjnhniffgeepjaa
namespace Go.Proofs.Ytjnhniffgeepjaa
open Go.RowKit
set_option maxRecDepth 100000
namespace Tl
open Sg (NumsPost)
end Tl
end Go.Proofs.Ytjnhniffgeepjaa
namespace Go.Proofs.Ytjnhniffgeepjaa
open Go.RowKit
set_option maxRecDepth 100000
set_option linter.unusedVariables false
namespace Lg
open Sg (NumsPost)
abbrev At := Nat → Option Addr × Nat
structure RdL (w : World) (so qo : Option Addr) (S : List Int) (T : List (List Int)) (f : At) : Prop where
 seen : Lst.Rd w so S
 seenB : ∀ c, so = some ⟨c, 0, none⟩ → c < w.heap.size
 told : T = [] ∨ ∃ tb off, qo = some ⟨tb, off, none⟩ ∧ tb < w.heap.size ∧ ∀ i, i < T.length → w.cell? ⟨tb, off + i, none⟩ = some (.slice (f i).1 (T.getD i []).length (f i).2)
 row : ∀ i, i < T.length → Lst.Rd w (f i).1 (T.getD i [])
 rowB : ∀ i, i < T.length → ∀ c, (f i).1 = some ⟨c, 0, none⟩ → c < w.heap.size
theorem RdL.below {w w' : World} {so qo : Option Addr} {S : List Int} {T : List (List Int)} {f : At} (h : RdL w so qo S T f) (hb : Below w.heap.size w w') : RdL w' so qo S T f where
 seen := Ch.rd_below h.seen h.seenB hb
 seenB := fun c e => Nat.lt_of_lt_of_le (h.seenB c e) hb.size
 told := by
   rcases h.told with e | ⟨tb, off, e, hlt, hc⟩
   · exact .inl e
   · exact .inr ⟨tb, off, e, Nat.lt_of_lt_of_le hlt hb.size, fun i hi => (hb.cell (p := ⟨tb, off + i, none⟩) hlt).trans (hc i hi)⟩
 row := fun i hi => Ch.rd_below (h.row i hi) (h.rowB i hi) hb
 rowB := fun i hi c e => Nat.lt_of_lt_of_le (h.rowB i hi c e) hb.size
end Lg
end Go.Proofs.Ytjnhniffgeepjaa
namespace Go.Proofs.Ytjnhniffgeepjaa
open Go.RowKit
set_option maxRecDepth 100000
set_option linter.unusedVariables false
namespace Lg
open Sg (NumsPost)
theorem told_at {w : World} {so qo : Option Addr} {S : List Int} {T : List (List Int)} {f : At} (h : RdL w so qo S T f) (hT : 0 < T.length) : ∃ tb toff, qo = some ⟨tb, toff, none⟩ := by
 rcases h.told with e | ⟨tb, toff, e, _⟩
 · rw [e] at hT; simp at hT
 · exact ⟨tb, toff, e⟩
theorem told_cell {w : World} {so : Option Addr} {tb toff : Nat} {S : List Int} {T : List (List Int)} {f : At} (h : RdL w so (some ⟨tb, toff, none⟩) S T f) (i : Nat) (hi : i < T.length) : w.cell? ⟨tb, toff + i, none⟩ = some (.slice (f i).1 (T.getD i []).length (f i).2) := by
 rcases h.told with e | ⟨tb', off', e, _, hc⟩
 · rw [e] at hi; simp at hi
 · injection e with e; injection e with e e'; subst e; subst e'; exact hc i hi
end Lg
end Go.Proofs.Ytjnhniffgeepjaa
namespace Go.Proofs.Ytjnhniffgeepjaa
open Go.RowKit
set_option maxRecDepth 100000
set_option linter.unusedVariables false
namespace Lg
set_option maxHeartbeats 1600000 in
theorem eqSS (T : List (List Int)) (qo1 qo2 : Option Addr) (c1 c2 : Nat) (f1 f2 : At) (so1 so2 : Option Addr) (S1 S2 : List Int) (w : World) (hT : T.length ≤ 1048576) (hTT : ∀ i, i < T.length → (T.getD i []).length ≤ 1048576) (h1 : RdL w so1 qo1 S1 T f1) (h2 : RdL w so2 qo2 S2 T f2) :
   Calls Try.prog 18 #[.slice qo1 T.length c1, .slice qo2 T.length c2] w fun e w' => e = .returned (.bool true) ∧ Below w.heap.size w w' := by
 have H1 : Hid (RdL w so1 qo1 S1 T f1) := h1
 have H2 : Hid (RdL w so2 qo2 S2 T f2) := h2
 have HTT : Hid (∀ i, i < T.length → (T.getD i []).length ≤ 1048576) := hTT
 clear h1 h2 hTT
 go_enter Try.func18, Try.ntmps18
 go_wp2
 go_loopw [5] (fun iv wr => ∃ i : Nat, i ≤ T.length ∧ iv = .int .i64 i ∧ Hid (Below w.heap.size w wr)) (fun iv _ => T.length - (intOf iv).toNat)
 case atStart => exact ⟨0, by omega, rfl, Below.refl _ _⟩
 case round =>
   obtain ⟨i, hi, rfl, HB⟩ := hrel
   by_cases hil : i < T.length
   · have hii : (i : Int) < (T.length : Int) := by omega
     obtain ⟨tb1, o1, rfl⟩ := told_at H1.out (by omega)
     obtain ⟨tb2, o2, rfl⟩ := told_at H2.out (by omega)
     obtain ⟨X, _, F, HF, HG⟩ := Fam.fam wr
     have HBF : Hid (∀ z, Below w.heap.size w (F z)) := fun z => HB.out.trans ((HF.out z).mono HB.out.size)
     have hc1 : ∀ z, (F z).cell? ⟨tb1, o1 + i, none⟩ = some (.slice (f1 i).1 (T.getD i []).length (f1 i).2) := fun z => told_cell (H1.out.below (HBF.out z)) i hil
     have hc2 : ∀ z, (F z).cell? ⟨tb2, o2 + i, none⟩ = some (.slice (f2 i).1 (T.getD i []).length (f2 i).2) := fun z => told_cell (H2.out.below (HBF.out z)) i hil
     have HQ : Hid (∀ z, Calls Try.prog 8 #[.slice (f1 i).1 (T.getD i []).length (f1 i).2, .slice (f2 i).1 (T.getD i []).length (f2 i).2] (F z) fun e w' => e = .returned (.bool true) ∧ Below (F z).heap.size (F z) w') := fun z => Nu.alikeB _ _ _ _ _ _ (HTT.out i hil) ((H1.out.below (HBF.out z)).row i hil) ((H2.out.below (HBF.out z)).row i hil)
     clear HB
     generalize (T.getD i []).length = n at hc1 hc2 HQ
     generalize (f1 i).1 = a1 at hc1 HQ
     generalize (f1 i).2 = b1 at hc1 HQ
     generalize (f2 i).1 = a2 at hc2 HQ
     generalize (f2 i).2 = b2 at hc2 HQ
     go_wp2_with fail
     refine Fam.region (F := F) (by kernel_rfl) (by kernel_rfl) (HG.out _ (Below.refl _ wr).drew) ?_
     repeat (go_big_quiet_step (first
       | (go_at_call 8; exact (HQ.out _).mono fun _ _ h => ⟨h.1, HG.out _ ((HF.out _).trans (h.2.mono (HF.out _).size))⟩)))
     refine wpQuiet_nil ?_
     intro w2 hw2
     obtain ⟨z, rfl⟩ := hw2
     have HB2 : Hid (Below w.heap.size w (F z)) := HBF.out z
     go_wp2
     go_roundw
     case rel => exact ⟨i + 1, by omega, by go_num, HB2⟩
     case measure => simp [intOf]; omega
   · obtain rfl : i = T.length := by omega
     go_wp2
     go_ret
     exact ⟨rfl, HB.out⟩
theorem boxes (w : World) (x y u v : Value) (t : TypeId) : Below w.heap.size w ((w.alloc (.cells #[x, y] t)).alloc (.cells #[u, v] t)) ∧ ((w.alloc (.cells #[x, y] t)).alloc (.cells #[u, v] t)).cell? ⟨w.heap.size, 0, none⟩ = some x ∧ ((w.alloc (.cells #[x, y] t)).alloc (.cells #[u, v] t)).cell? ⟨w.heap.size, 1, none⟩ = some y ∧ ((w.alloc (.cells #[x, y] t)).alloc (.cells #[u, v] t)).cell? ⟨w.heap.size + 1, 0, none⟩ = some u ∧ ((w.alloc (.cells #[x, y] t)).alloc (.cells #[u, v] t)).cell? ⟨w.heap.size + 1, 1, none⟩ = some v ∧ w.heap.size + 1 < ((w.alloc (.cells #[x, y] t)).alloc (.cells #[u, v] t)).heap.size := by
 have e : (w.alloc (.cells #[x, y] t)).heap.size = w.heap.size + 1 := by simp
 refine ⟨((Below.refl _ _).alloc (Nat.le_refl _) _).alloc (by simp) _, ?_, ?_, ?_, ?_, by simp⟩
 · rw [World.cell?_alloc_lt _ _ _ (by simp)]; simp
 · rw [World.cell?_alloc_lt _ _ _ (by simp)]; simp
 · rw [← e]; simp
 · rw [← e]; simp
set_option maxHeartbeats 1600000 in
theorem eqLog (S : List Int) (T : List (List Int)) (so1 so2 qo1 qo2 : Option Addr) (sc1 sc2 tc1 tc2 : Nat) (f1 f2 : At) (w : World) (hS : S.length ≤ 1048576) (hT : T.length ≤ 1048576) (hTT : ∀ i, i < T.length → (T.getD i []).length ≤ 1048576) (h1 : RdL w so1 qo1 S T f1) (h2 : RdL w so2 qo2 S T f2) :
   Calls Try.prog 9 #[.agg #[.slice so1 S.length sc1, .slice qo1 T.length tc1], .agg #[.slice so2 S.length sc2, .slice qo2 T.length tc2]] w fun e w' => e = .returned (.bool true) ∧ Below w.heap.size w w' := by
 have P0 : Hid (_) := boxes w (.slice so1 S.length sc1) (.slice qo1 T.length tc1) (.slice so2 S.length sc2) (.slice qo2 T.length tc2) 28
 have HQ : Hid (∀ W : World, Below w.heap.size w W → Calls Try.prog 8 #[.slice so1 S.length sc1, .slice so2 S.length sc2] W fun e w' => e = .returned (.bool true) ∧ Below W.heap.size W w') := fun W hW => Nu.alikeB _ _ _ _ _ _ hS (h1.below hW).seen (h2.below hW).seen
 have HSS : Hid (∀ W : World, Below w.heap.size w W → Calls Try.prog 18 #[.slice qo1 T.length tc1, .slice qo2 T.length tc2] W fun e w' => e = .returned (.bool true) ∧ Below W.heap.size W w') := fun W hW => eqSS T qo1 qo2 tc1 tc2 f1 f2 so1 so2 S S W hT hTT (h1.below hW) (h2.below hW)
 clear h1 h2 hTT
 go_enter Try.func9, Try.ntmps9
 go_upto_region 1 with fail
 generalize (w.alloc (.cells #[.slice so1 S.length sc1, .slice qo1 T.length tc1] 28)).alloc (.cells #[.slice so2 S.length sc2, .slice qo2 T.length tc2] 28) = W0 at P0 ⊢
 obtain ⟨B0, x0, x1, y0, y1, hl⟩ := P0
 go_wp2_with fail
 refine (HQ.out W0 B0).mono ?_
 rintro e W1 ⟨rfl, hb1⟩
 have B1 := B0.trans (hb1.mono B0.size)
 have x1' := (hb1.cell (p := ⟨w.heap.size, 1, none⟩) (show w.heap.size < W0.heap.size by omega)).trans x1
 have y1' := (hb1.cell (p := ⟨w.heap.size + 1, 1, none⟩) hl).trans y1
 clear x0 x1 y0 y1 hb1 B0
 go_wp2_with fail
 refine (HSS.out W1 B1).mono ?_
 rintro e W2 ⟨rfl, hb2⟩
 have B2 := B1.trans (hb2.mono B1.size)
 clear hb2 x1' y1' B1
 go_wp2
 go_ret
 exact ⟨rfl, B2⟩
end Lg
end Go.Proofs.Ytjnhniffgeepjaa
namespace Go.Proofs.Ytjnhniffgeepjaa
open Go.RowKit
set_option maxRecDepth 100000
set_option linter.unusedVariables false
namespace Lg
open Sg (NumsPost)
set_option maxHeartbeats 800000 in
theorem l1CopyN (w : World) : Calls Try.prog 15 #[.slice none 0 0] w (NumsPost [] w) := by
 obtain ⟨i0, hi, hz0, hz1, hz2⟩ := info_parts Memb.info2
 have HB : Hid (Memb.Own w.heap.size (w.alloc (.cells #[] 2)) (some ⟨w.heap.size, 0, none⟩) 0 [] ∧ Below w.heap.size w (w.alloc (.cells #[] 2))) := ⟨Memb.own_empty w, (Below.refl _ _).alloc (Nat.le_refl _) _⟩
 go_enter Try.func15, Try.ntmps15
 go_wp2_with (at_builtin; refine wpList_append_own_none rfl _ _ 22 rfl w.heap.size 2 i0 1 Try.underlying22 hi _ 0 [] rfl (Memb.own_empty w) rfl ?_)
 go_ret
 exact ⟨_, 0, rfl, HB.out.1, HB.out.2⟩
set_option maxHeartbeats 800000 in
/-- the copy of an empty list, wherever it is said to lie -/
theorem l1CopyE (ad : Addr) (cap : Nat) (w : World) : Calls Try.prog 15 #[.slice (some ad) 0 cap] w (NumsPost [] w) := by
 obtain ⟨i0, hi, hz0, hz1, hz2⟩ := info_parts Memb.info2
 go_enter Try.func15, Try.ntmps15
 go_wp2_with (at_builtin; refine wpList_append_own _ rfl _ _ 22 rfl w.heap.size 2 i0 (.int .i64 0) 1 8 Try.underlying22 hi hz0 hz1 hz2 rfl (by decide) _ 0 [] rfl (Memb.own_empty w) ad 0 cap [] rfl rfl (fun j u h => by simp at h) (fun u h => by simp at h) ?c3 ?c4 ?c5 ?_)
 case c3 => unfold maxLen; omega
 case c4 => omega
 case c5 => simp
 intro v' w5 hown' hgrow _
 have HR : Hid (w5.ownsRow w.heap.size 2 1 v' ([] : List Int).length (([] : List Int).map (Value.int .i64)) ∧ Below w.heap.size w w5) :=
   ⟨by simpa using hown', ((Below.refl w.heap.size w).alloc (Nat.le_refl _) _).grown hgrow (by simp) (fun i hi => by simp [Value.ownBlock] at hi; omega)⟩
 clear hown' hgrow hi hz0 hz1 hz2
 obtain ⟨ao, ca, hv, ho⟩ := Memb.own_shape HR.out.1
 subst hv
 go_wp2
 go_ret
 exact ⟨ao, ca, rfl, ho, HR.out.2⟩
theorem l1CopyA (ao : Option Addr) (cap : Nat) (l : List Int) (w : World) (hl : l.length ≤ 1048576) (hrd : Lst.Rd w ao l) (hat : ∀ c, ao = some ⟨c, 0, none⟩ → c < w.heap.size) (hn : ao = none → cap = 0) : Calls Try.prog 15 #[.slice ao l.length cap] w (NumsPost l w) := by
 rcases hrd with e | ⟨g, e, hc⟩
 · subst e
   cases ao with
   | none => rw [hn rfl]; exact l1CopyN w
   | some ad => exact l1CopyE ad cap w
 · subst e
   exact Rm.l1Copy g cap l w hl (hat g rfl) (.inr ⟨g, rfl, hc⟩)
def lastB (T : List (List Int)) : List Int := T.getD (T.length - 1) []
set_option maxHeartbeats 1600000 in
theorem lastTold0 (so qo : Option Addr) (sc tc : Nat) (S : List Int) (w : World) : Calls Try.prog 5 #[.agg #[.slice so S.length sc, .slice qo 0 tc]] w (NumsPost [] w) := by
 have HB : Hid (Below w.heap.size w (w.alloc (.cells #[.slice so S.length sc, .slice qo 0 tc] 28)) ∧ (w.alloc (.cells #[.slice so S.length sc, .slice qo 0 tc] 28)).cell? ⟨w.heap.size, 1, none⟩ = some (.slice qo 0 tc)) := ⟨(Below.refl _ _).alloc (Nat.le_refl _) _, by simp⟩
 have HP : Hid _ := Ch.nums_nil HB.out.1
 go_enter Try.func5, Try.ntmps5
 go_upto_region 1 with fail
 generalize w.alloc (.cells #[.slice so S.length sc, .slice qo 0 tc] 28) = W at HB HP ⊢
 have c1 := HB.out.2
 go_wp2
 go_ret
 exact ⟨_, 0, rfl, HP.out.1, HP.out.2⟩
set_option maxHeartbeats 1600000 in
theorem specLastTold (so qo : Option Addr) (sc tc : Nat) (S : List Int) (T : List (List Int)) (f : At) (w : World) (hlog : RdL w so qo S T f) (hN : ∀ i, i < T.length → (f i).1 = none → (f i).2 = 0) (hT : T.length ≤ 1048576) (hTT : ∀ i, i < T.length → (T.getD i []).length ≤ 1048576) :
   Calls Try.prog 5 #[.agg #[.slice so S.length sc, .slice qo T.length tc]] w (NumsPost (lastB T) w) := by
 have hb : Below w.heap.size w (w.alloc (.cells #[.slice so S.length sc, .slice qo T.length tc] 28)) := (Below.refl _ _).alloc (Nat.le_refl _) _
 have HB : Hid (Below w.heap.size w (w.alloc (.cells #[.slice so S.length sc, .slice qo T.length tc] 28)) ∧ (w.alloc (.cells #[.slice so S.length sc, .slice qo T.length tc] 28)).cell? ⟨w.heap.size, 1, none⟩ = some (.slice qo T.length tc)) := ⟨hb, by simp⟩
 have HL : Hid (RdL (w.alloc (.cells #[.slice so S.length sc, .slice qo T.length tc] 28)) so qo S T f) := hlog.below hb
 clear hb hlog
 by_cases h0 : T.length = 0
 · obtain rfl : T = [] := List.length_eq_zero_iff.1 h0
   exact lastTold0 so qo sc tc S w
 · have h0' : ((T.length : Int) == 0) = false := by simpa using (by omega : ¬ (T.length : Int) = 0)
   obtain ⟨t, ht⟩ : ∃ t : Nat, t = T.length - 1 := ⟨_, rfl⟩
   have htT : (T.length : Int) - 1 = (t : Int) := by omega
   have hlt : (t : Int) < (T.length : Int) := by omega
   obtain ⟨tb, toff, rfl⟩ := told_at HL.out (by omega)
   have HT : Hid (lastB T = T.getD t []) := by show _ = _; unfold lastB; rw [ht]
   have HC : Hid (_) := told_cell HL.out t (by omega)
   have hcall := l1CopyA (f t).1 (f t).2 (T.getD t []) _ (hTT t (by omega)) (HL.out.row t (by omega)) (HL.out.rowB t (by omega)) (hN t (by omega))
   clear hN hTT HL ht
   generalize T.getD t [] = tl at HT HC hcall
   generalize (f t).1 = f1 at HC hcall
   generalize (f t).2 = f2 at HC hcall
   go_enter Try.func5, Try.ntmps5
   go_upto_region 1 with fail
   generalize w.alloc (.cells #[.slice so S.length sc, .slice (some ⟨tb, toff, none⟩) T.length tc] 28) = W at HB HC hcall ⊢
   have c1 := HB.out.2
   have c2 := HC.out
   go_wp2_with fail
   refine hcall.mono ?_
   rintro e w2 ⟨ro, rc, rfl, hown, hb2⟩
   have HP : Hid (Memb.Own w.heap.size w2 ro rc tl ∧ Below w.heap.size w w2) := ⟨Ch.own_base hown HB.out.1.size, HB.out.1.trans (hb2.mono HB.out.1.size)⟩
   clear hcall hown hb2
   go_wp2
   go_ret
   rw [HT.out]
   exact ⟨ro, rc, rfl, HP.out.1, HP.out.2⟩
end Lg
end Go.Proofs.Ytjnhniffgeepjaa
namespace Go.Proofs.Ytjnhniffgeepjaa
open Go.RowKit
set_option maxRecDepth 100000
set_option linter.unusedVariables false
namespace Lg
open Sg (NumsPost)
theorem infoS : (Try.prog.info? 22).map (fun i => (i.zero, i.size, i.bytes)) = some (some (.slice none 0 0), 1, 24) := by kernel_rfl
end Lg
end Go.Proofs.Ytjnhniffgeepjaa
namespace Go.Proofs.Ytjnhniffgeepjaa
open Go.RowKit
set_option maxRecDepth 100000
set_option linter.unusedVariables false
namespace Lg
open Db (RowI)
structure InL (w : World) (so qo : Option Addr) (S : List Int) (T : List (List Int)) (f : At) : Prop where
 seen : Nu.RdI w so S
 told : T = [] ∨ ∃ tb off, qo = some ⟨tb, off, none⟩ ∧ tb < w.heap.size ∧ ∀ i, i < T.length → w.cell? ⟨tb, off + i, none⟩ = some (.slice (f i).1 (T.getD i []).length (f i).2)
 row : ∀ i, i < T.length → Nu.RdI w (f i).1 (T.getD i [])
theorem InL.below {w w' : World} {so qo : Option Addr} {S : List Int} {T : List (List Int)} {f : At} (h : InL w so qo S T f) (hb : Below w.heap.size w w') : InL w' so qo S T f where
 seen := h.seen.below hb
 told := by
   rcases h.told with e | ⟨tb, off, e, hlt, hc⟩
   · exact .inl e
   · exact .inr ⟨tb, off, e, Nat.lt_of_lt_of_le hlt hb.size, fun i hi => (hb.cell (p := ⟨tb, off + i, none⟩) hlt).trans (hc i hi)⟩
 row := fun i hi => (h.row i hi).below hb
structure MadeL (w : World) (p : Nat) (T : List (List Int)) (j : Nat) (f : Nat → Nat) : Prop where
 lt : p < w.heap.size
 hd : ∀ i, i < j → w.cell? ⟨p, i, none⟩ = some (.slice (some ⟨f i, 0, none⟩) (T.getD i []).length (T.getD i []).length)
 ex : ∀ i, i < T.length → ∃ u, w.cell? ⟨p, i, none⟩ = some u
 fr : ∀ i, i < T.length → w.frozen? ⟨p, i, none⟩ = false
 row : ∀ i, i < j → RowI w (f i) (T.getD i []).length (fun q => (T.getD i []).getD q 0)
 ne : ∀ i, i < j → p < f i
 up : ∀ i k, i < k → k < j → f i < f k
theorem MadeL.below {w w' : World} {p j : Nat} {T : List (List Int)} {f : Nat → Nat} (h : MadeL w p T j f) (hb : Below w.heap.size w w') : MadeL w' p T j f :=
 ⟨Nat.lt_of_lt_of_le h.lt hb.size, fun i hi => (hb.cell (p := ⟨p, i, none⟩) h.lt).trans (h.hd i hi), fun i hi => by obtain ⟨u, hu⟩ := h.ex i hi; exact ⟨u, (hb.cell (p := ⟨p, i, none⟩) h.lt).trans hu⟩, fun i hi => (hb.frozen (p := ⟨p, i, none⟩) h.lt).trans (h.fr i hi), fun i hi => Nu.row_below (h.row i hi) hb, h.ne, h.up⟩
theorem row_off {w : World} {b n p j : Nat} {D : Nat → Int} {v : Value} (h : RowI w b n D) (hne : b ≠ p) : RowI (w.setCell ⟨p, j, none⟩ v) b n D :=
 ⟨by simpa using h.lt, fun i hi => (World.cell?_setCell_other _ _ _ _ (by intro e; injection e with e; exact hne e.symm)).trans (h.rd i hi), fun i hi => by simpa using h.fr i hi⟩
theorem MadeL.put {w V : World} {p j : Nat} {T : List (List Int)} {f : Nat → Nat} (h : MadeL w p T j f) (hb : Below w.heap.size w V) (hj : j < T.length) (hr : RowI V w.heap.size (T.getD j []).length (fun q => (T.getD j []).getD q 0)) :
   MadeL (V.setCell ⟨p, j, none⟩ (.slice (some ⟨w.heap.size, 0, none⟩) (T.getD j []).length (T.getD j []).length)) p T (j + 1) (fun i => if i = j then w.heap.size else f i) := by
 have k := h.below hb
 have hp := h.lt
 obtain ⟨u, hu⟩ := k.ex j hj
 refine ⟨by simpa using k.lt, fun i hi => ?_, fun i hi => ?_, fun i hi => by simpa using k.fr i hi, fun i hi => ?_, fun i hi => ?_, fun i q hiq hq => ?_⟩
 · by_cases e : i = j
   · subst e; simp only [if_pos]; exact World.cell?_setCell_same _ _ _ hu
   · rw [if_neg e]
     exact (World.cell?_setCell_other _ _ _ _ (by intro q; injection q with _ q; exact e q.symm)).trans (k.hd i (by omega))
 · by_cases e : i = j
   · subst e; exact ⟨_, World.cell?_setCell_same _ _ _ hu⟩
   · obtain ⟨x, hx⟩ := k.ex i hi
     exact ⟨x, (World.cell?_setCell_other _ _ _ _ (by intro q; injection q with _ q; exact e q.symm)).trans hx⟩
 · by_cases e : i = j
   · subst e; rw [if_pos rfl]; exact row_off hr (by omega)
   · rw [if_neg e]; exact row_off (k.row i (by omega)) (by have := h.ne i (by omega); omega)
 · by_cases e : i = j
   · subst e; rw [if_pos rfl]; exact hp
   · rw [if_neg e]; exact h.ne i (by omega)
 · rw [if_neg (by omega)]
   by_cases e : q = j
   · subst e; rw [if_pos rfl]; exact (h.row i (by omega)).lt
   · rw [if_neg e]; exact h.up i q hiq (by omega)
theorem made_new (w : World) (T : List (List Int)) (t : TypeId) (f : Nat → Nat) : MadeL (w.alloc (.cells (madeCells #[.slice none 0 0] T.length) t)) w.heap.size T 0 f := by
 refine ⟨by simp, fun i hi => by omega, fun i hi => ?_, fun i hi => by simp, fun i hi => by omega, fun i hi => by omega, fun i k _ hk => by omega⟩
 rw [World.cell?_alloc_new]
 have : i < (madeCells #[Value.slice none 0 0] T.length).size := by rw [size_madeCells]; exact hi
 rw [Array.getElem?_eq_getElem this]
 exact ⟨_, rfl⟩
def atL (f : Nat → Nat) (T : List (List Int)) : At := fun i => (some ⟨f i, 0, none⟩, (T.getD i []).length)
theorem in_at {w : World} {so qo : Option Addr} {S : List Int} {T : List (List Int)} {f : At} (h : InL w so qo S T f) (hT : 0 < T.length) : ∃ tb off, qo = some ⟨tb, off, none⟩ ∧ tb < w.heap.size ∧ ∀ i, i < T.length → w.cell? ⟨tb, off + i, none⟩ = some (.slice (f i).1 (T.getD i []).length (f i).2) := by
 rcases h.told with e | h
 · rw [e] at hT; simp at hT
 · exact h
set_option maxHeartbeats 1600000 in
theorem toSS (so qo : Option Addr) (tc : Nat) (S : List Int) (T : List (List Int)) (f : At) (w : World) (hT : T.length ≤ 1048576) (hTT : ∀ i, i < T.length → (T.getD i []).length ≤ 1048576) (h : InL w so qo S T f) :
   Calls Try.prog 17 #[.slice qo T.length tc] w fun e w' => e = .returned (.slice (some ⟨w.heap.size, 0, none⟩) T.length T.length) ∧ (∃ p, MadeL w' w.heap.size T T.length p) ∧ Below w.heap.size w w' := by
 have hmk : ∀ W : World, (Instr.makeSlice 23 (.int .i64 (T.length : Int)) (.int .i64 (T.length : Int))).run Try.prog W = .ok (.slice (some ⟨W.heap.size, 0, none⟩) T.length T.length) (W.alloc (.cells (madeCells #[.slice none 0 0] T.length) 22)) :=
   fun W => run_make_row' (P := Try.prog) 23 22 (.slice none 0 0) 24 Try.underlying23 infoS rfl .i64 .i64 T.length (by omega) (by omega) W
 have HP : Hid (MadeL (w.alloc (.cells (madeCells #[.slice none 0 0] T.length) 22)) w.heap.size T 0 (fun _ => 0) ∧ Below w.heap.size w (w.alloc (.cells (madeCells #[.slice none 0 0] T.length) 22))) := ⟨made_new _ _ _ _, (Below.refl _ _).alloc (Nat.le_refl _) _⟩
 have HIN : Hid (InL w so qo S T f) := h
 have HTT : Hid (∀ i, i < T.length → (T.getD i []).length ≤ 1048576) := hTT
 clear h hTT
 generalize madeCells #[Value.slice none 0 0] T.length = mc at hmk HP
 go_enter Try.func17, Try.ntmps17
 go_wp2
 clear hmk
 go_loopw [4] (fun i wr => ∃ (j : Nat) (p : Nat → Nat), j ≤ T.length ∧ i = .int .i64 j ∧ Hid (MadeL wr w.heap.size T j p) ∧ Hid (Below w.heap.size w wr)) (fun i _ => T.length - (intOf i).toNat)
 case atStart => exact ⟨0, _, by omega, rfl, HP.out.1, HP.out.2⟩
 case round =>
   obtain ⟨j, p, hj, rfl, HM, HB⟩ := hrel
   clear HP
   by_cases hlt : j < T.length
   · have hlti : (j : Int) < (T.length : Int) := by omega
     obtain ⟨tb, off, hqo, htb, hcl⟩ := in_at (HIN.out.below HB.out) (by omega)
     subst hqo
     have cj := hcl j hlt
     have hcall := Nu.toInts (f j).1 (f j).2 (T.getD j []) wr (HTT.out j hlt) ((HIN.out.below HB.out).row j hlt)
     have HST : Hid (∀ V : World, Below wr.heap.size wr V → RowI V wr.heap.size (T.getD j []).length (fun q => (T.getD j []).getD q 0) → MadeL (V.setCell ⟨w.heap.size, j, none⟩ (.slice (some ⟨wr.heap.size, 0, none⟩) (T.getD j []).length (T.getD j []).length)) w.heap.size T (j + 1) (fun i => if i = j then wr.heap.size else p i) ∧ Below w.heap.size w (V.setCell ⟨w.heap.size, j, none⟩ (.slice (some ⟨wr.heap.size, 0, none⟩) (T.getD j []).length (T.getD j []).length)) ∧ (∃ u, V.cell? ⟨w.heap.size, j, none⟩ = some u) ∧ V.frozen? ⟨w.heap.size, j, none⟩ = false) := fun V hV hR =>
       ⟨HM.out.put hV hlt hR, (HB.out.trans (hV.mono HB.out.size)).setCell (p := ⟨w.heap.size, j, none⟩) (Nat.le_refl _) _, (HM.out.below hV).ex j hlt, (HM.out.below hV).fr j hlt⟩
     clear hcl HM HB
     generalize T.getD j [] = row1 at cj hcall HST
     generalize (f j).1 = a1 at cj hcall
     generalize (f j).2 = b1 at cj hcall
     go_wp2_with fail
     refine hcall.mono ?_
     rintro e V ⟨rfl, hR, hV⟩
     obtain ⟨s1, s2, ⟨u, s3⟩, s4⟩ := HST.out V hV hR
     have S1 : Hid (_) := s1
     have S2 : Hid (_) := s2
     clear hcall HST hR hV cj s1 s2
     go_wp2
     go_roundw
     case rel => exact ⟨j + 1, _, by omega, by go_num, S1, S2⟩
     case measure => simp [intOf]; omega
   · obtain rfl : j = T.length := by omega
     go_wp2
     go_ret
     exact ⟨rfl, ⟨p, HM.out⟩, HB.out⟩
end Lg
end Go.Proofs.Ytjnhniffgeepjaa
