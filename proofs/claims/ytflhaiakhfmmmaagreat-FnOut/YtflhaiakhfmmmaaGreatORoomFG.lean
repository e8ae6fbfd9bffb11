/-
 What the model's LaceOk, l3Can, l3CanTie and l3Copy answer at the nil list; and at a list that may be nil.
 Frames and places of a room in memory: what a step may change, where the room's parts lie; no program in it.
-/
import Derived.Test.YtflhaiakhfmmmaaGreatORoomAB
import Derived.Test.YtflhaiakhfmmmaaGreatOTieB
import Derived.Laws.AppendOwnNone
namespace Go.Proofs.YtflhaiakhfmmmaaGreat
open Go.RowKit
set_option maxRecDepth 100000
namespace Rm
open Kn (K okK)
open Lc (at' RdK laceB flat OwnK)
structure Fr (S : Nat → Prop) (w w' : World) : Prop where
 os : w'.os = w.os
 tape : w'.tape = w.tape
 output : w'.output = w.output
 size : w.heap.size ≤ w'.heap.size
 block : ∀ k, k < w.heap.size → ¬ S k → w'.heap[k]? = w.heap[k]?
theorem Fr.refl (S : Nat → Prop) (w : World) : Fr S w w := ⟨rfl, rfl, rfl, Nat.le_refl _, fun _ _ _ => rfl⟩
theorem Fr.trans {S T : Nat → Prop} {a b c : World} (h : Fr S a b) (k : Fr T b c) (hs : ∀ x, T x → x < a.heap.size → S x) : Fr S a c :=
 ⟨k.os.trans h.os, k.tape.trans h.tape, k.output.trans h.output, Nat.le_trans h.size k.size, fun x hx hn => (k.block x (Nat.lt_of_lt_of_le hx h.size) (fun ht => hn (hs x ht hx))).trans (h.block x hx hn)⟩
theorem Fr.mono {S T : Nat → Prop} {a b : World} (h : Fr S a b) (hs : ∀ x, S x → x < a.heap.size → T x) : Fr T a b :=
 ⟨h.os, h.tape, h.output, h.size, fun x hx hn => h.block x hx (fun hh => hn (hs x hh hx))⟩
theorem Fr.of_below {w w' : World} (h : Below w.heap.size w w') (S : Nat → Prop) : Fr S w w' := ⟨h.os, h.tape, h.output, h.size, fun k hk _ => h.block k hk⟩
theorem Fr.of_grown {w w' : World} {c : Nat} (h : w.grownBy w' (some c)) : Fr (fun x => x = c) w w' := ⟨h.os, h.tape, h.output, h.size, fun k hk hn => h.block k hk (fun e => hn (by cases e; rfl))⟩
theorem Fr.of_own {w w' : World} {v : Value} (h : w.grownBy w' v.ownBlock) : Fr (fun x => v.ownBlock = some x) w w' := ⟨h.os, h.tape, h.output, h.size, fun k hk hn => h.block k hk (fun e => hn e.symm)⟩
theorem Fr.set (w : World) (p : Addr) (u : Value) : Fr (fun x => x = p.block) w (w.setCell p u) := ⟨rfl, rfl, rfl, by simp, fun k _ hn => Below.heap_setCell w p u k hn⟩
theorem Fr.alloc (S : Nat → Prop) (w : World) (o : Obj) : Fr S w (w.alloc o) := Fr.of_below ((Below.refl _ _).alloc (Nat.le_refl _) o) S
theorem Fr.drew {S : Nat → Prop} {a b : World} (h : Fr S a b) : Fr S a b.drew := ⟨h.os, h.tape, h.output, h.size, h.block⟩
theorem Fr.drewN {S : Nat → Prop} {a b : World} (h : Fr S a b) (n : Nat) : Fr S a (b.drewN n) := ⟨h.os, h.tape, h.output, h.size, h.block⟩
theorem Fr.cell {S : Nat → Prop} {w w' : World} (h : Fr S w w') {p : Addr} (hp : p.block < w.heap.size) (hn : ¬ S p.block) : w'.cell? p = w.cell? p := World.cell?_of_block (w := w) (h.block p.block hp hn)
theorem Fr.frozen {S : Nat → Prop} {w w' : World} (h : Fr S w w') {p : Addr} (hp : p.block < w.heap.size) (hn : ¬ S p.block) : w'.frozen? p = w.frozen? p := World.frozen?_of_block (w := w) (h.block p.block hp hn)
theorem Fr.toBelow {S : Nat → Prop} {w w' : World} (h : Fr S w w') {B : Nat} (hB : B ≤ w.heap.size) (hs : ∀ x, S x → B ≤ x) : Below B w w' := ⟨h.os, h.tape, h.output, h.size, fun k hk => h.block k (by omega) (fun hh => by have := hs k hh; omega)⟩
theorem Fr.grown {w w' : World} {c : Nat} (h : Fr (fun x => x = c) w w') : w.grownBy w' (some c) := ⟨h.os, h.tape, h.output, h.size, fun k hk hn => h.block k hk (fun e => hn (by rw [e]))⟩
theorem own_fr {S : Nat → Prop} {w w' : World} (h : Fr S w w') {base : Nat} {e : TypeId} {size : Nat} {v : Value} {n : Nat} {xs : List Value} (ho : w.ownsRow base e size v n xs) (hn : ∀ g, v.ownBlock = some g → ¬ S g) : w'.ownsRow base e size v n xs := by
 obtain ⟨hx, h1 | ⟨g, cap, cur, rfl, hB, hg, rest⟩⟩ := ho
 · exact ⟨hx, .inl h1⟩
 · have hlt := (Array.getElem?_eq_some_iff.1 hg).1
   exact ⟨hx, .inr ⟨g, cap, cur, rfl, hB, (h.block g hlt (hn g rfl)).trans hg, rest⟩⟩
theorem own_lace {t : TypeId} {base : Nat} {w : World} {v : Value} {L : List K} (h : w.ownsRow base t 4 v L.length (flat L)) :
   ∃ ao cap, v = .slice ao L.length cap ∧ (ao = none → L = [] ∧ cap = 0) ∧ (∀ x, ao = some x → x.spot = none) ∧ L.length ≤ cap ∧ RdK w ao L ∧ (∀ g, v.ownBlock = some g → base ≤ g ∧ g < w.heap.size) := by
 have hlt := World.ownsRow.lt h
 by_cases hv : v = .slice none 0 0
 · obtain ⟨_, ⟨_, hn⟩ | ⟨g, cap, cur, hv', _⟩⟩ := h
   · have hL : L = [] := List.eq_nil_of_length_eq_zero hn
     subst hL hv
     exact ⟨none, 0, rfl, fun _ => ⟨rfl, rfl⟩, fun _ e => (by cases e), Nat.le_refl _, .inl rfl, hlt⟩
   · rw [hv] at hv'; simp at hv'
 · obtain ⟨g, cap, hv', hcap, _, hbg, hgl, hrd, _⟩ := Lc.ownK_shape (⟨h, hv⟩ : OwnK t base w v L)
   subst hv'
   exact ⟨some ⟨g, 0, none⟩, cap, rfl, fun e => (by cases e), fun x e => (by cases e; rfl), hcap, hrd, hlt⟩
structure Hd where
 who : Int
 has : Int
 kept : Int
 last : Int
structure HdOk (n : Nat) (h : Hd) : Prop where
 h0 : 0 ≤ h.has
 h1 : h.has < 1152921504606846976
 k0 : 0 ≤ h.kept
 k1 : h.kept < 1152921504606846976
 la : h.last < (n : Int)
theorem HdOk.mono {n m : Nat} {h : Hd} (x : HdOk n h) (hm : n ≤ m) : HdOk m h := ⟨x.h0, x.h1, x.k0, x.k1, by have := x.la; omega⟩
def HAt (w : World) (g o : Nat) (h : Hd) : Prop := HandAt w g o h.who h.has h.kept h.last
theorem hat_fr {S : Nat → Prop} {w w' : World} {g o : Nat} {h : Hd} (x : HAt w g o h) (hf : Fr S w w') (hn : ¬ S g) : HAt w' g o h where
 lt := Nat.lt_of_lt_of_le x.lt hf.size
 c0 := (hf.cell (p := ⟨g, o, none⟩) x.lt hn).trans x.c0
 c1 := (hf.cell (p := ⟨g, o + 1, none⟩) x.lt hn).trans x.c1
 c2 := (hf.cell (p := ⟨g, o + 2, none⟩) x.lt hn).trans x.c2
 c3 := (hf.cell (p := ⟨g, o + 3, none⟩) x.lt hn).trans x.c3
 f0 := (hf.frozen (p := ⟨g, o, none⟩) x.lt hn).trans x.f0
 f1 := (hf.frozen (p := ⟨g, o + 1, none⟩) x.lt hn).trans x.f1
 f2 := (hf.frozen (p := ⟨g, o + 2, none⟩) x.lt hn).trans x.f2
 f3 := (hf.frozen (p := ⟨g, o + 3, none⟩) x.lt hn).trans x.f3
structure Ro where
 L : List K
 lv : Value
 cv : Value
 gh : Nat
 hc : Nat
 hs : Nat → Hd
 bad : Int
structure Parts (B : Nat) (w : World) (R : Ro) : Prop where
 own : w.ownsRow B 42 4 R.lv R.L.length (flat R.L)
 lace : laceB R.L = true
 hands : ∀ i, i < 4 → HAt w R.gh (i * 4) (R.hs i)
 hok : ∀ i, i < 4 → HdOk R.L.length (R.hs i)
 gB : B ≤ R.gh
 cap : 4 ≤ R.hc
 ne : R.lv.ownBlock ≠ some R.gh
structure RoAt (B : Nat) (w : World) (p : Nat) (R : Ro) : Prop where
 lt : p < w.heap.size
 pB : B ≤ p
 c0 : w.cell? ⟨p, 0, none⟩ = some R.lv
 c1 : w.cell? ⟨p, 1, none⟩ = some R.cv
 c2 : w.cell? ⟨p, 2, none⟩ = some (.slice (some ⟨R.gh, 0, none⟩) 4 R.hc)
 c3 : w.cell? ⟨p, 3, none⟩ = some (.int .i64 R.bad)
 f0 : w.frozen? ⟨p, 0, none⟩ = false
 parts : Parts B w R
 n1 : p ≠ R.gh
 n2 : R.lv.ownBlock ≠ some p
def roS (p : Nat) (R : Ro) (x : Nat) : Prop := x = p ∨ x = R.gh ∨ R.lv.ownBlock = some x
theorem parts_fr {S : Nat → Prop} {B : Nat} {w w' : World} {R : Ro} (x : Parts B w R) (hf : Fr S w w') (h1 : ¬ S R.gh) (h2 : ∀ g, R.lv.ownBlock = some g → ¬ S g) : Parts B w' R :=
 ⟨own_fr hf x.own h2, x.lace, fun i hi => hat_fr (x.hands i hi) hf h1, x.hok, x.gB, x.cap, x.ne⟩
theorem roat_fr {S : Nat → Prop} {B : Nat} {w w' : World} {p : Nat} {R : Ro} (x : RoAt B w p R) (hf : Fr S w w') (hn : ∀ g, roS p R g → ¬ S g) : RoAt B w' p R where
 lt := Nat.lt_of_lt_of_le x.lt hf.size
 pB := x.pB
 c0 := (hf.cell (p := ⟨p, 0, none⟩) x.lt (hn p (.inl rfl))).trans x.c0
 c1 := (hf.cell (p := ⟨p, 1, none⟩) x.lt (hn p (.inl rfl))).trans x.c1
 c2 := (hf.cell (p := ⟨p, 2, none⟩) x.lt (hn p (.inl rfl))).trans x.c2
 c3 := (hf.cell (p := ⟨p, 3, none⟩) x.lt (hn p (.inl rfl))).trans x.c3
 f0 := (hf.frozen (p := ⟨p, 0, none⟩) x.lt (hn p (.inl rfl))).trans x.f0
 parts := parts_fr x.parts hf (hn _ (.inr (.inl rfl))) (fun g hg => hn g (.inr (.inr hg)))
 n1 := x.n1
 n2 := x.n2
theorem roat_below {B : Nat} {w w' : World} {p : Nat} {R : Ro} (x : RoAt B w p R) (hb : Below w.heap.size w w') : RoAt B w' p R := roat_fr (S := fun _ => False) x (Fr.of_below hb _) (fun _ _ h => h)
theorem hat_below {w w' : World} {g o : Nat} {h : Hd} (x : HAt w g o h) (hb : Below w.heap.size w w') : HAt w' g o h := hat_fr (S := fun _ => False) x (Fr.of_below hb _) (fun h => h)
theorem hat_new (w : World) (h : Hd) (t : TypeId) : HAt (w.alloc (.cells #[.int .i64 h.who, .int .i64 h.has, .int .i64 h.kept, .int .i64 h.last] t)) w.heap.size 0 h := ⟨by simp, by simp, by simp, by simp, by simp, by simp, by simp, by simp, by simp⟩
theorem hput {w : World} {b : Nat} {z : Hd} (x : HAt w b 0 z) (v0 v1 v2 v3 : Value) :
   ((((w.setCell ⟨b, 0, none⟩ v0).setCell ⟨b, 1, none⟩ v1).setCell ⟨b, 2, none⟩ v2).setCell ⟨b, 3, none⟩ v3).cell? ⟨b, 0, none⟩ = some v0 ∧
   ((((w.setCell ⟨b, 0, none⟩ v0).setCell ⟨b, 1, none⟩ v1).setCell ⟨b, 2, none⟩ v2).setCell ⟨b, 3, none⟩ v3).cell? ⟨b, 1, none⟩ = some v1 ∧
   ((((w.setCell ⟨b, 0, none⟩ v0).setCell ⟨b, 1, none⟩ v1).setCell ⟨b, 2, none⟩ v2).setCell ⟨b, 3, none⟩ v3).cell? ⟨b, 2, none⟩ = some v2 ∧
   ((((w.setCell ⟨b, 0, none⟩ v0).setCell ⟨b, 1, none⟩ v1).setCell ⟨b, 2, none⟩ v2).setCell ⟨b, 3, none⟩ v3).cell? ⟨b, 3, none⟩ = some v3 := by
 obtain ⟨_, c0, c1, c2, c3, _, _, _, _⟩ := x
 simp only [Nat.zero_add] at c1 c2 c3
 refine ⟨?_, ?_, ?_, ?_⟩
 · rw [World.cell?_setCell_other _ _ _ _ (by simp), World.cell?_setCell_other _ _ _ _ (by simp), World.cell?_setCell_other _ _ _ _ (by simp)]
   exact World.cell?_setCell_same _ _ _ c0
 · rw [World.cell?_setCell_other _ _ _ _ (by simp), World.cell?_setCell_other _ _ _ _ (by simp)]
   exact World.cell?_setCell_same _ _ _ ((World.cell?_setCell_other _ _ _ _ (by simp)).trans c1)
 · rw [World.cell?_setCell_other _ _ _ _ (by simp)]
   exact World.cell?_setCell_same _ _ _ ((World.cell?_setCell_other _ _ _ _ (by simp)).trans ((World.cell?_setCell_other _ _ _ _ (by simp)).trans c2))
 · exact World.cell?_setCell_same _ _ _ ((World.cell?_setCell_other _ _ _ _ (by simp)).trans ((World.cell?_setCell_other _ _ _ _ (by simp)).trans ((World.cell?_setCell_other _ _ _ _ (by simp)).trans c3)))
theorem hat_has {w : World} {g o : Nat} {h : Hd} (x : HAt w g o h) (y : Int) : HAt (w.setCell ⟨g, o + 1, none⟩ (.int .i64 y)) g o { h with has := y } :=
 ⟨by simpa using x.lt, (World.cell?_setCell_other _ _ _ _ (by simp)).trans x.c0, World.cell?_setCell_same _ _ _ x.c1, (World.cell?_setCell_other _ _ _ _ (by simp)).trans x.c2, (World.cell?_setCell_other _ _ _ _ (by simp)).trans x.c3, by simpa using x.f0, by simpa using x.f1, by simpa using x.f2, by simpa using x.f3⟩
theorem hat_kept {w : World} {g o : Nat} {h : Hd} (x : HAt w g o h) (y : Int) : HAt (w.setCell ⟨g, o + 2, none⟩ (.int .i64 y)) g o { h with kept := y } :=
 ⟨by simpa using x.lt, (World.cell?_setCell_other _ _ _ _ (by simp)).trans x.c0, (World.cell?_setCell_other _ _ _ _ (by simp)).trans x.c1, World.cell?_setCell_same _ _ _ x.c2, (World.cell?_setCell_other _ _ _ _ (by simp)).trans x.c3, by simpa using x.f0, by simpa using x.f1, by simpa using x.f2, by simpa using x.f3⟩
theorem hat_last {w : World} {g o : Nat} {h : Hd} (x : HAt w g o h) (y : Int) : HAt (w.setCell ⟨g, o + 3, none⟩ (.int .i64 y)) g o { h with last := y } :=
 ⟨by simpa using x.lt, (World.cell?_setCell_other _ _ _ _ (by simp)).trans x.c0, (World.cell?_setCell_other _ _ _ _ (by simp)).trans x.c1, (World.cell?_setCell_other _ _ _ _ (by simp)).trans x.c2, World.cell?_setCell_same _ _ _ x.c3, by simpa using x.f0, by simpa using x.f1, by simpa using x.f2, by simpa using x.f3⟩
theorem hat_other {w : World} {g o p j : Nat} {h : Hd} (x : HAt w g o h) (hn : g ≠ p) (u : Value) : HAt (w.setCell ⟨p, j, none⟩ u) g o h := hat_fr x (Fr.set w ⟨p, j, none⟩ u) hn
theorem hat_drew {w : World} {g o : Nat} {h : Hd} (x : HAt w g o h) : HAt w.drew g o h := ⟨x.lt, x.c0, x.c1, x.c2, x.c3, x.f0, x.f1, x.f2, x.f3⟩
end Rm
namespace Rm
open Kn (K okK)
open Bit (bit)
open Lc (at' RdK canB laceB takesB handsN roundS handsB lesserB CellsK flat OwnK)
set_option maxHeartbeats 3200000 in
theorem l3CanN (k : K) (w : World) (hw : k.word.size ≤ 1099511627776) :
   Calls Tryz.prog 76 #[.slice none 0 0, .int .i64 0, .agg #[.int .i64 k.hand, .int .i64 k.round, .int .i64 k.frm, .string k.word]] w fun e w' => e = .returned (.bool (canB [] k)) ∧ Below w.heap.size w w' := by
 have HC : Hid (canB [] k = (okK k && (decide (k.frm / 2 ^ 0 = 0) && (lesserB [] k.frm k.round 0 && handsB [] k)))) := rfl
 have P0 : Hid (Below w.heap.size w (w.alloc (.cells #[.int .i64 k.hand, .int .i64 k.round, .int .i64 k.frm, .string k.word] 42)) ∧ CellsK (w.alloc (.cells #[.int .i64 k.hand, .int .i64 k.round, .int .i64 k.frm, .string k.word] 42)) w.heap.size 0 k ∧ w.heap.size < (w.alloc (.cells #[.int .i64 k.hand, .int .i64 k.round, .int .i64 k.frm, .string k.word] 42)).heap.size) :=
   ⟨(Below.refl _ _).alloc (Nat.le_refl _) _, ⟨by simp, by simp, by simp, by simp⟩, by simp⟩
 go_enter Tryz.func76, Tryz.ntmps76
 go_wp2_with fail
 generalize w.alloc (.cells #[.int .i64 k.hand, .int .i64 k.round, .int .i64 k.frm, .string k.word] 42) = w0 at P0 ⊢
 obtain ⟨B0, C0, S0⟩ := P0
 generalize hb : w.heap.size = b at *
 refine (Kn.specKnotOk k.hand k.round k.frm k.word _ hw).mono ?_
 rintro e w1 ⟨rfl, hb1⟩
 have C1 := C0.below hb1 S0
 have S1 : b < w1.heap.size := Nat.lt_of_lt_of_le S0 hb1.size
 have B1 := B0.trans (hb1.mono (Nat.le_of_lt S0))
 clear hb1 B0 S0 C0
 obtain ⟨c0, c1, c2, c3⟩ := C1
 rw [Nat.zero_add] at c1 c2 c3
 cases hok : okK k
 · have HT2 : Hid (canB [] k = false) := by show _ = _; rw [HC.out, hok]; simp
   clear hok HC
   go_wp2
   go_ret
   exact ⟨by rw [HT2.out]; rfl, by first | exact B1 | (rw [hb]; exact B1)⟩
 · have hf := Lc.ok_frm hok
   have hrd := Lc.ok_round hok
   have HT2 : Hid (canB [] k = (decide (k.frm = 0) && handsB [] k)) := by
     show _ = _; rw [HC.out, hok]; simp [lesserB]
   clear hok HC
   by_cases hd : k.frm = 0
   · have HT3 : Hid (canB [] k = handsB [] k) := by show _ = _; rw [HT2.out]; simp [hd]
     have hd' : (k.frm != 0) = false := by simpa using hd
     have hd2 : (k.frm / 1 != 0) = false := by simpa using hd
     clear HT2 hd
     have HB1 : Hid (Below b w w1) := B1
     clear B1
     go_wp2
     go_loopw [7] (fun i wr => i = .int .i64 0 ∧ wr = w1) (fun _ _ => 0)
     case atStart => exact ⟨rfl, rfl⟩
     case round =>
       obtain ⟨rfl, rfl⟩ := hrel
       by_cases hz : k.round = 0
       · have HT5 : Hid (canB [] k = true) := by show _ = _; rw [HT3.out]; simp [handsB, hz]
         have hz' : (k.round == 0) = true := by simpa using hz
         clear hz HT3
         go_wp2_with fail
         go_quiet (fail)
         go_wp2
         go_ret
         exact ⟨by rw [HT5.out]; rfl, by have := Lc.below_drewN' HB1.out; first | exact this _ | (rw [hb]; exact this _)⟩
       · have HT5 : Hid (canB [] k = decide (3 ≤ handsN [] (roundS [] k.frm (k.round - 1)))) := by show _ = _; rw [HT3.out]; simp [handsB, hz]
         have hz' : (k.round == 0) = false := by simpa using hz
         clear hz HT3
         have hrb := Lc.round_bd [] k.frm (k.round - 1) (by simp)
         have HRT : Hid (∀ W : World, Calls Tryz.prog 101 #[.slice none 0 0, .int .i64 k.frm, .int .i64 (k.round - 1)] W fun e w' => e = .returned (.int .i64 (roundS [] k.frm (k.round - 1))) ∧ W = w') := fun W => l3RoundO none 0 [] k.frm (k.round - 1) W (by simp) (.inl rfl) hf.1 hf.2
         have HHT : Hid (∀ W : World, Calls Tryz.prog 100 #[.slice none 0 0, .int .i64 (roundS [] k.frm (k.round - 1))] W fun e w' => e = .returned (.int .i64 (handsN [] (roundS [] k.frm (k.round - 1)))) ∧ Below W.heap.size W w') := fun W => Lc.l3Hands none 0 [] (roundS [] k.frm (k.round - 1)) W (by simp) (.inl rfl) (fun _ h => by cases h) hrb.1 (by omega)
         generalize roundS [] k.frm (k.round - 1) = q at HRT HHT HT5
         generalize handsN [] q = q2 at HHT HT5
         clear hrb
         have P2 : Hid (Below b w wr ∧ b < wr.heap.size) := ⟨HB1.out, S1⟩
         clear c0 c3 HB1 S1
         go_wp2_with fail
         clear hd' hw
         obtain ⟨X, _, F, HF, HG⟩ := Fam.fam wr
         have hc1 : ∀ z, (F z).cell? ⟨b, 1, none⟩ = some (.int .i64 k.round) := fun z => ((HF.out z).cell (p := ⟨b, 1, none⟩) P2.out.2).trans c1
         have hc2 : ∀ z, (F z).cell? ⟨b, 2, none⟩ = some (.int .i64 k.frm) := fun z => ((HF.out z).cell (p := ⟨b, 2, none⟩) P2.out.2).trans c2
         clear c1 c2
         refine Fam.region (F := F) (by kernel_rfl) (by kernel_rfl) (HG.out _ (Below.refl _ wr).drew) ?_
         repeat (go_big_quiet_step (first
           | (go_at_call 101; exact (HRT.out _).mono fun _ _ h => ⟨h.1, _, h.2.symm⟩)
           | (go_at_call 100; exact (HHT.out _).mono fun _ _ h => ⟨h.1, HG.out _ ((HF.out _).trans (h.2.mono (HF.out _).size))⟩)))
         refine wpQuiet_nil ?_
         intro w2 hw2
         obtain ⟨z, rfl⟩ := hw2
         have HB2 : Hid (Below b w (F z)) := P2.out.1.trans ((HF.out z).mono (Nat.le_of_lt P2.out.2))
         go_wp2
         go_ret
         exact ⟨by rw [HT5.out]; rfl, by first | exact HB2.out | (rw [hb]; exact HB2.out)⟩
   · have HT3 : Hid (canB [] k = false) := by show _ = _; rw [HT2.out]; simp [hd]
     have hd' : (k.frm != 0) = true := by simpa using hd
     have hd2 : (k.frm / 1 != 0) = true := by simpa using hd
     clear hd HT2
     go_wp2
     go_ret
     exact ⟨by rw [HT3.out]; rfl, by first | exact B1 | (rw [hb]; exact B1)⟩
set_option maxHeartbeats 800000 in
theorem l3CanTieN (k : K) (w : World) (hw : k.word.size ≤ 1099511627776) :
   Calls Tryz.prog 143 #[.slice none 0 0, .agg #[.int .i64 k.hand, .int .i64 k.round, .int .i64 k.frm, .string k.word]] w fun e w' => e = .returned (.bool (takesB [] k)) ∧ Below w.heap.size w w' := by
 have HT : Hid (takesB [] k = canB [] k) := rfl
 have P0 : Hid (Below w.heap.size w (w.alloc (.cells #[.int .i64 k.hand, .int .i64 k.round, .int .i64 k.frm, .string k.word] 42))) := (Below.refl _ _).alloc (Nat.le_refl _) _
 go_enter Tryz.func143, Tryz.ntmps143
 go_wp2_with fail
 refine (l3CanN k _ hw).mono ?_
 rintro e w1 ⟨rfl, hb1⟩
 have B1 := P0.out.trans (hb1.mono P0.out.size)
 go_wp2
 go_ret
 exact ⟨by rw [HT.out]; rfl, B1⟩
set_option maxHeartbeats 800000 in
theorem laceOkN (w : World) : Calls Tryz.prog 47 #[.slice none 0 0] w fun e w' => e = .returned (.bool true) ∧ w = w' := by
 go_enter Tryz.func47, Tryz.ntmps47
 go_wp2
 go_loopw [3] (fun i wr => i = .int .i64 0 ∧ wr = w) (fun _ _ => 0)
 case atStart => exact ⟨rfl, rfl⟩
 case round =>
   obtain ⟨rfl, rfl⟩ := hrel
   go_wp2
   go_ret
   exact ⟨rfl, rfl⟩
set_option maxHeartbeats 800000 in
theorem l3CopyN (w : World) : Calls Tryz.prog 88 #[.slice none 0 0] w (Lc.CopyPost [] w) := by
 obtain ⟨i0, hi, hz0, hz1, hz2⟩ := info_parts Lc.infoKn
 have HB : Hid (OwnK 42 w.heap.size (w.alloc (.cells #[] 42)) (.slice (some ⟨w.heap.size, 0, none⟩) 0 0) [] ∧ Below w.heap.size w (w.alloc (.cells #[] 42))) := ⟨⟨Lc.own_nil w _, by simp⟩, (Below.refl _ _).alloc (Nat.le_refl _) _⟩
 go_enter Tryz.func88, Tryz.ntmps88
 go_wp2_with (at_builtin; refine wpList_append_own_none rfl _ _ 24 rfl w.heap.size 42 i0 4 Tryz.underlying24 hi _ 0 [] rfl (Lc.own_nil w _) rfl ?_)
 go_ret
 exact ⟨_, rfl, HB.out.1, HB.out.2⟩
theorem l3CanTieO (ao : Option Addr) (cap : Nat) (L : List K) (k : K) (w : World) (ho : ao = none → L = [] ∧ cap = 0) (hz : ∀ x, ao = some x → x.spot = none) (hcap : L.length ≤ cap) (hl : laceB L = true) (hw : k.word.size ≤ 1099511627776) (hr : RdK w ao L) :
   Calls Tryz.prog 143 #[.slice ao L.length cap, .agg #[.int .i64 k.hand, .int .i64 k.round, .int .i64 k.frm, .string k.word]] w fun e w' => e = .returned (.bool (takesB L k)) ∧ Below w.heap.size w w' := by
 cases ao with
 | none => obtain ⟨rfl, rfl⟩ := ho rfl; exact l3CanTieN k w hw
 | some x =>
   obtain ⟨g, off, q⟩ := x
   obtain rfl : q = none := hz _ rfl
   exact Lc.l3CanTie g off cap L k w hcap hl hw hr
theorem l3CopyO (ao : Option Addr) (cap : Nat) (L : List K) (w : World) (ho : ao = none → L = [] ∧ cap = 0) (hz : ∀ x, ao = some x → x.spot = none) (hl : L.length ≤ 2000000) (hr : RdK w ao L) : Calls Tryz.prog 88 #[.slice ao L.length cap] w (Lc.CopyPost L w) := by
 cases ao with
 | none => obtain ⟨rfl, rfl⟩ := ho rfl; exact l3CopyN w
 | some x =>
   obtain ⟨g, off, q⟩ := x
   obtain rfl : q = none := hz _ rfl
   exact Lc.l3Copy g off cap L w hl hr
end Rm
end Go.Proofs.YtflhaiakhfmmmaaGreat
