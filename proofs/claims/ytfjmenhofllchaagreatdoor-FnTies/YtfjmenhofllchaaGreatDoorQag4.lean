/-
 Plain mathematics of what hangs on what: what is below a knot is what can be gone to thread by thread; a set is closed just where it has all threads of those of it; its tips are those of it that are below no other one; for laces.
-/
import Derived.Test.YtfjmenhofllchaaGreatDoorQag3
import Derived.Laws.AppendOwnNone
namespace Go.Proofs.YtfjmenhofllchaaGreatDoor
open Go.RowKit
set_option maxRecDepth 100000
namespace Rm
open Kn (K okK)
open Lc (at' RdK laceB flat OwnK)
structure Fr (S : Nat → Prop) (w w' : World) : Prop where
 os : w'.os = w.os
 tape : w'.tape = w.tape
 output : w'.output = w.output
 size : w.heap.size ≤ w'.heap.size
 block : ∀ k, k < w.heap.size → ¬ S k → w'.heap[k]? = w.heap[k]?
theorem Fr.refl (S : Nat → Prop) (w : World) : Fr S w w := ⟨rfl, rfl, rfl, Nat.le_refl _, fun _ _ _ => rfl⟩
theorem Fr.trans {S T : Nat → Prop} {a b c : World} (h : Fr S a b) (k : Fr T b c) (hs : ∀ x, T x → x < a.heap.size → S x) : Fr S a c :=
 ⟨k.os.trans h.os, k.tape.trans h.tape, k.output.trans h.output, Nat.le_trans h.size k.size, fun x hx hn => (k.block x (Nat.lt_of_lt_of_le hx h.size) (fun ht => hn (hs x ht hx))).trans (h.block x hx hn)⟩
theorem Fr.mono {S T : Nat → Prop} {a b : World} (h : Fr S a b) (hs : ∀ x, S x → x < a.heap.size → T x) : Fr T a b :=
 ⟨h.os, h.tape, h.output, h.size, fun x hx hn => h.block x hx (fun hh => hn (hs x hh hx))⟩
theorem Fr.of_below {w w' : World} (h : Below w.heap.size w w') (S : Nat → Prop) : Fr S w w' := ⟨h.os, h.tape, h.output, h.size, fun k hk _ => h.block k hk⟩
theorem Fr.of_grown {w w' : World} {c : Nat} (h : w.grownBy w' (some c)) : Fr (fun x => x = c) w w' := ⟨h.os, h.tape, h.output, h.size, fun k hk hn => h.block k hk (fun e => hn (by cases e; rfl))⟩
theorem Fr.of_own {w w' : World} {v : Value} (h : w.grownBy w' v.ownBlock) : Fr (fun x => v.ownBlock = some x) w w' := ⟨h.os, h.tape, h.output, h.size, fun k hk hn => h.block k hk (fun e => hn e.symm)⟩
theorem Fr.set (w : World) (p : Addr) (u : Value) : Fr (fun x => x = p.block) w (w.setCell p u) := ⟨rfl, rfl, rfl, by simp, fun k _ hn => Below.heap_setCell w p u k hn⟩
theorem Fr.alloc (S : Nat → Prop) (w : World) (o : Obj) : Fr S w (w.alloc o) := Fr.of_below ((Below.refl _ _).alloc (Nat.le_refl _) o) S
theorem Fr.drew {S : Nat → Prop} {a b : World} (h : Fr S a b) : Fr S a b.drew := ⟨h.os, h.tape, h.output, h.size, h.block⟩
theorem Fr.drewN {S : Nat → Prop} {a b : World} (h : Fr S a b) (n : Nat) : Fr S a (b.drewN n) := ⟨h.os, h.tape, h.output, h.size, h.block⟩
theorem Fr.cell {S : Nat → Prop} {w w' : World} (h : Fr S w w') {p : Addr} (hp : p.block < w.heap.size) (hn : ¬ S p.block) : w'.cell? p = w.cell? p := World.cell?_of_block (w := w) (h.block p.block hp hn)
theorem Fr.frozen {S : Nat → Prop} {w w' : World} (h : Fr S w w') {p : Addr} (hp : p.block < w.heap.size) (hn : ¬ S p.block) : w'.frozen? p = w.frozen? p := World.frozen?_of_block (w := w) (h.block p.block hp hn)
theorem Fr.toBelow {S : Nat → Prop} {w w' : World} (h : Fr S w w') {B : Nat} (hB : B ≤ w.heap.size) (hs : ∀ x, S x → B ≤ x) : Below B w w' := ⟨h.os, h.tape, h.output, h.size, fun k hk => h.block k (by omega) (fun hh => by have := hs k hh; omega)⟩
theorem Fr.grown {w w' : World} {c : Nat} (h : Fr (fun x => x = c) w w') : w.grownBy w' (some c) := ⟨h.os, h.tape, h.output, h.size, fun k hk hn => h.block k hk (fun e => hn (by rw [e]))⟩
theorem own_fr {S : Nat → Prop} {w w' : World} (h : Fr S w w') {base : Nat} {e : TypeId} {size : Nat} {v : Value} {n : Nat} {xs : List Value} (ho : w.ownsRow base e size v n xs) (hn : ∀ g, v.ownBlock = some g → ¬ S g) : w'.ownsRow base e size v n xs := by
 obtain ⟨hx, h1 | ⟨g, cap, cur, rfl, hB, hg, rest⟩⟩ := ho
 · exact ⟨hx, .inl h1⟩
 · have hlt := (Array.getElem?_eq_some_iff.1 hg).1
   exact ⟨hx, .inr ⟨g, cap, cur, rfl, hB, (h.block g hlt (hn g rfl)).trans hg, rest⟩⟩
theorem own_lace {t : TypeId} {base : Nat} {w : World} {v : Value} {L : List K} (h : w.ownsRow base t 4 v L.length (flat L)) :
   ∃ ao cap, v = .slice ao L.length cap ∧ (ao = none → L = [] ∧ cap = 0) ∧ (∀ x, ao = some x → x.spot = none) ∧ L.length ≤ cap ∧ RdK w ao L ∧ (∀ g, v.ownBlock = some g → base ≤ g ∧ g < w.heap.size) := by
 have hlt := World.ownsRow.lt h
 by_cases hv : v = .slice none 0 0
 · obtain ⟨_, ⟨_, hn⟩ | ⟨g, cap, cur, hv', _⟩⟩ := h
   · have hL : L = [] := List.eq_nil_of_length_eq_zero hn
     subst hL hv
     exact ⟨none, 0, rfl, fun _ => ⟨rfl, rfl⟩, fun _ e => (by cases e), Nat.le_refl _, .inl rfl, hlt⟩
   · rw [hv] at hv'; simp at hv'
 · obtain ⟨g, cap, hv', hcap, _, hbg, hgl, hrd, _⟩ := Lc.ownK_shape (⟨h, hv⟩ : OwnK t base w v L)
   subst hv'
   exact ⟨some ⟨g, 0, none⟩, cap, rfl, fun e => (by cases e), fun x e => (by cases e; rfl), hcap, hrd, hlt⟩
structure Hd where
 who : Int
 has : Int
 kept : Int
 last : Int
structure HdOk (n : Nat) (h : Hd) : Prop where
 h0 : 0 ≤ h.has
 h1 : h.has < 1152921504606846976
 k0 : 0 ≤ h.kept
 k1 : h.kept < 1152921504606846976
 la : h.last < (n : Int)
theorem HdOk.mono {n m : Nat} {h : Hd} (x : HdOk n h) (hm : n ≤ m) : HdOk m h := ⟨x.h0, x.h1, x.k0, x.k1, by have := x.la; omega⟩
def HAt (w : World) (g o : Nat) (h : Hd) : Prop := HandAt w g o h.who h.has h.kept h.last
theorem hat_fr {S : Nat → Prop} {w w' : World} {g o : Nat} {h : Hd} (x : HAt w g o h) (hf : Fr S w w') (hn : ¬ S g) : HAt w' g o h where
 lt := Nat.lt_of_lt_of_le x.lt hf.size
 c0 := (hf.cell (p := ⟨g, o, none⟩) x.lt hn).trans x.c0
 c1 := (hf.cell (p := ⟨g, o + 1, none⟩) x.lt hn).trans x.c1
 c2 := (hf.cell (p := ⟨g, o + 2, none⟩) x.lt hn).trans x.c2
 c3 := (hf.cell (p := ⟨g, o + 3, none⟩) x.lt hn).trans x.c3
 f0 := (hf.frozen (p := ⟨g, o, none⟩) x.lt hn).trans x.f0
 f1 := (hf.frozen (p := ⟨g, o + 1, none⟩) x.lt hn).trans x.f1
 f2 := (hf.frozen (p := ⟨g, o + 2, none⟩) x.lt hn).trans x.f2
 f3 := (hf.frozen (p := ⟨g, o + 3, none⟩) x.lt hn).trans x.f3
structure Ro where
 L : List K
 lv : Value
 cv : Value
 gh : Nat
 hc : Nat
 hs : Nat → Hd
 bad : Int
structure Parts (B : Nat) (w : World) (R : Ro) : Prop where
 own : w.ownsRow B 36 4 R.lv R.L.length (flat R.L)
 lace : laceB R.L = true
 hands : ∀ i, i < 4 → HAt w R.gh (i * 4) (R.hs i)
 hok : ∀ i, i < 4 → HdOk R.L.length (R.hs i)
 gB : B ≤ R.gh
 cap : 4 ≤ R.hc
 ne : R.lv.ownBlock ≠ some R.gh
structure RoAt (B : Nat) (w : World) (p : Nat) (R : Ro) : Prop where
 lt : p < w.heap.size
 pB : B ≤ p
 c0 : w.cell? ⟨p, 0, none⟩ = some R.lv
 c1 : w.cell? ⟨p, 1, none⟩ = some R.cv
 c2 : w.cell? ⟨p, 2, none⟩ = some (.slice (some ⟨R.gh, 0, none⟩) 4 R.hc)
 c3 : w.cell? ⟨p, 3, none⟩ = some (.int .i64 R.bad)
 f0 : w.frozen? ⟨p, 0, none⟩ = false
 parts : Parts B w R
 n1 : p ≠ R.gh
 n2 : R.lv.ownBlock ≠ some p
def roS (p : Nat) (R : Ro) (x : Nat) : Prop := x = p ∨ x = R.gh ∨ R.lv.ownBlock = some x
theorem parts_fr {S : Nat → Prop} {B : Nat} {w w' : World} {R : Ro} (x : Parts B w R) (hf : Fr S w w') (h1 : ¬ S R.gh) (h2 : ∀ g, R.lv.ownBlock = some g → ¬ S g) : Parts B w' R :=
 ⟨own_fr hf x.own h2, x.lace, fun i hi => hat_fr (x.hands i hi) hf h1, x.hok, x.gB, x.cap, x.ne⟩
theorem roat_fr {S : Nat → Prop} {B : Nat} {w w' : World} {p : Nat} {R : Ro} (x : RoAt B w p R) (hf : Fr S w w') (hn : ∀ g, roS p R g → ¬ S g) : RoAt B w' p R where
 lt := Nat.lt_of_lt_of_le x.lt hf.size
 pB := x.pB
 c0 := (hf.cell (p := ⟨p, 0, none⟩) x.lt (hn p (.inl rfl))).trans x.c0
 c1 := (hf.cell (p := ⟨p, 1, none⟩) x.lt (hn p (.inl rfl))).trans x.c1
 c2 := (hf.cell (p := ⟨p, 2, none⟩) x.lt (hn p (.inl rfl))).trans x.c2
 c3 := (hf.cell (p := ⟨p, 3, none⟩) x.lt (hn p (.inl rfl))).trans x.c3
 f0 := (hf.frozen (p := ⟨p, 0, none⟩) x.lt (hn p (.inl rfl))).trans x.f0
 parts := parts_fr x.parts hf (hn _ (.inr (.inl rfl))) (fun g hg => hn g (.inr (.inr hg)))
 n1 := x.n1
 n2 := x.n2
theorem roat_below {B : Nat} {w w' : World} {p : Nat} {R : Ro} (x : RoAt B w p R) (hb : Below w.heap.size w w') : RoAt B w' p R := roat_fr (S := fun _ => False) x (Fr.of_below hb _) (fun _ _ h => h)
theorem hat_below {w w' : World} {g o : Nat} {h : Hd} (x : HAt w g o h) (hb : Below w.heap.size w w') : HAt w' g o h := hat_fr (S := fun _ => False) x (Fr.of_below hb _) (fun h => h)
theorem hat_new (w : World) (h : Hd) (t : TypeId) : HAt (w.alloc (.cells #[.int .i64 h.who, .int .i64 h.has, .int .i64 h.kept, .int .i64 h.last] t)) w.heap.size 0 h := ⟨by simp, by simp, by simp, by simp, by simp, by simp, by simp, by simp, by simp⟩
theorem hput {w : World} {b : Nat} {z : Hd} (x : HAt w b 0 z) (v0 v1 v2 v3 : Value) :
   ((((w.setCell ⟨b, 0, none⟩ v0).setCell ⟨b, 1, none⟩ v1).setCell ⟨b, 2, none⟩ v2).setCell ⟨b, 3, none⟩ v3).cell? ⟨b, 0, none⟩ = some v0 ∧
   ((((w.setCell ⟨b, 0, none⟩ v0).setCell ⟨b, 1, none⟩ v1).setCell ⟨b, 2, none⟩ v2).setCell ⟨b, 3, none⟩ v3).cell? ⟨b, 1, none⟩ = some v1 ∧
   ((((w.setCell ⟨b, 0, none⟩ v0).setCell ⟨b, 1, none⟩ v1).setCell ⟨b, 2, none⟩ v2).setCell ⟨b, 3, none⟩ v3).cell? ⟨b, 2, none⟩ = some v2 ∧
   ((((w.setCell ⟨b, 0, none⟩ v0).setCell ⟨b, 1, none⟩ v1).setCell ⟨b, 2, none⟩ v2).setCell ⟨b, 3, none⟩ v3).cell? ⟨b, 3, none⟩ = some v3 := by
 obtain ⟨_, c0, c1, c2, c3, _, _, _, _⟩ := x
 simp only [Nat.zero_add] at c1 c2 c3
 refine ⟨?_, ?_, ?_, ?_⟩
 · rw [World.cell?_setCell_other _ _ _ _ (by simp), World.cell?_setCell_other _ _ _ _ (by simp), World.cell?_setCell_other _ _ _ _ (by simp)]
   exact World.cell?_setCell_same _ _ _ c0
 · rw [World.cell?_setCell_other _ _ _ _ (by simp), World.cell?_setCell_other _ _ _ _ (by simp)]
   exact World.cell?_setCell_same _ _ _ ((World.cell?_setCell_other _ _ _ _ (by simp)).trans c1)
 · rw [World.cell?_setCell_other _ _ _ _ (by simp)]
   exact World.cell?_setCell_same _ _ _ ((World.cell?_setCell_other _ _ _ _ (by simp)).trans ((World.cell?_setCell_other _ _ _ _ (by simp)).trans c2))
 · exact World.cell?_setCell_same _ _ _ ((World.cell?_setCell_other _ _ _ _ (by simp)).trans ((World.cell?_setCell_other _ _ _ _ (by simp)).trans ((World.cell?_setCell_other _ _ _ _ (by simp)).trans c3)))
theorem hat_has {w : World} {g o : Nat} {h : Hd} (x : HAt w g o h) (y : Int) : HAt (w.setCell ⟨g, o + 1, none⟩ (.int .i64 y)) g o { h with has := y } :=
 ⟨by simpa using x.lt, (World.cell?_setCell_other _ _ _ _ (by simp)).trans x.c0, World.cell?_setCell_same _ _ _ x.c1, (World.cell?_setCell_other _ _ _ _ (by simp)).trans x.c2, (World.cell?_setCell_other _ _ _ _ (by simp)).trans x.c3, by simpa using x.f0, by simpa using x.f1, by simpa using x.f2, by simpa using x.f3⟩
theorem hat_kept {w : World} {g o : Nat} {h : Hd} (x : HAt w g o h) (y : Int) : HAt (w.setCell ⟨g, o + 2, none⟩ (.int .i64 y)) g o { h with kept := y } :=
 ⟨by simpa using x.lt, (World.cell?_setCell_other _ _ _ _ (by simp)).trans x.c0, (World.cell?_setCell_other _ _ _ _ (by simp)).trans x.c1, World.cell?_setCell_same _ _ _ x.c2, (World.cell?_setCell_other _ _ _ _ (by simp)).trans x.c3, by simpa using x.f0, by simpa using x.f1, by simpa using x.f2, by simpa using x.f3⟩
theorem hat_last {w : World} {g o : Nat} {h : Hd} (x : HAt w g o h) (y : Int) : HAt (w.setCell ⟨g, o + 3, none⟩ (.int .i64 y)) g o { h with last := y } :=
 ⟨by simpa using x.lt, (World.cell?_setCell_other _ _ _ _ (by simp)).trans x.c0, (World.cell?_setCell_other _ _ _ _ (by simp)).trans x.c1, (World.cell?_setCell_other _ _ _ _ (by simp)).trans x.c2, World.cell?_setCell_same _ _ _ x.c3, by simpa using x.f0, by simpa using x.f1, by simpa using x.f2, by simpa using x.f3⟩
theorem hat_other {w : World} {g o p j : Nat} {h : Hd} (x : HAt w g o h) (hn : g ≠ p) (u : Value) : HAt (w.setCell ⟨p, j, none⟩ u) g o h := hat_fr x (Fr.set w ⟨p, j, none⟩ u) hn
theorem hat_drew {w : World} {g o : Nat} {h : Hd} (x : HAt w g o h) : HAt w.drew g o h := ⟨x.lt, x.c0, x.c1, x.c2, x.c3, x.f0, x.f1, x.f2, x.f3⟩
end Rm
namespace Rm
open Kn (K okK)
open Bit (bit)
open Lc (at' RdK canB laceB takesB handsN roundS handsB lesserB CellsK flat OwnK)
set_option maxHeartbeats 3200000 in
theorem l3CanN (k : K) (w : World) (hw : k.word.size ≤ 1099511627776) :
   Calls Tryz.prog 73 #[.slice none 0 0, .int .i64 0, .agg #[.int .i64 k.hand, .int .i64 k.round, .int .i64 k.frm, .string k.word]] w fun e w' => e = .returned (.bool (canB [] k)) ∧ Below w.heap.size w w' := by
 have HC : Hid (canB [] k = (okK k && (decide (k.frm / 2 ^ 0 = 0) && (lesserB [] k.frm k.round 0 && handsB [] k)))) := rfl
 have P0 : Hid (Below w.heap.size w (w.alloc (.cells #[.int .i64 k.hand, .int .i64 k.round, .int .i64 k.frm, .string k.word] 36)) ∧ CellsK (w.alloc (.cells #[.int .i64 k.hand, .int .i64 k.round, .int .i64 k.frm, .string k.word] 36)) w.heap.size 0 k ∧ w.heap.size < (w.alloc (.cells #[.int .i64 k.hand, .int .i64 k.round, .int .i64 k.frm, .string k.word] 36)).heap.size) :=
   ⟨(Below.refl _ _).alloc (Nat.le_refl _) _, ⟨by simp, by simp, by simp, by simp⟩, by simp⟩
 go_enter Tryz.func73, Tryz.ntmps73
 go_wp2_with fail
 generalize w.alloc (.cells #[.int .i64 k.hand, .int .i64 k.round, .int .i64 k.frm, .string k.word] 36) = w0 at P0 ⊢
 obtain ⟨B0, C0, S0⟩ := P0
 generalize hb : w.heap.size = b at *
 refine (Kn.specKnotOk k.hand k.round k.frm k.word _ hw).mono ?_
 rintro e w1 ⟨rfl, hb1⟩
 have C1 := C0.below hb1 S0
 have S1 : b < w1.heap.size := Nat.lt_of_lt_of_le S0 hb1.size
 have B1 := B0.trans (hb1.mono (Nat.le_of_lt S0))
 clear hb1 B0 S0 C0
 obtain ⟨c0, c1, c2, c3⟩ := C1
 rw [Nat.zero_add] at c1 c2 c3
 cases hok : okK k
 · have HT2 : Hid (canB [] k = false) := by show _ = _; rw [HC.out, hok]; simp
   clear hok HC
   go_wp2
   go_ret
   exact ⟨by rw [HT2.out]; rfl, by first | exact B1 | (rw [hb]; exact B1)⟩
 · have hf := Lc.ok_frm hok
   have hrd := Lc.ok_round hok
   have HT2 : Hid (canB [] k = (decide (k.frm = 0) && handsB [] k)) := by
     show _ = _; rw [HC.out, hok]; simp [lesserB]
   clear hok HC
   by_cases hd : k.frm = 0
   · have HT3 : Hid (canB [] k = handsB [] k) := by show _ = _; rw [HT2.out]; simp [hd]
     have hd' : (k.frm != 0) = false := by simpa using hd
     have hd2 : (k.frm / 1 != 0) = false := by simpa using hd
     clear HT2 hd
     have HB1 : Hid (Below b w w1) := B1
     clear B1
     go_wp2
     go_loopw [7] (fun i wr => i = .int .i64 0 ∧ wr = w1) (fun _ _ => 0)
     case atStart => exact ⟨rfl, rfl⟩
     case round =>
       obtain ⟨rfl, rfl⟩ := hrel
       by_cases hz : k.round = 0
       · have HT5 : Hid (canB [] k = true) := by show _ = _; rw [HT3.out]; simp [handsB, hz]
         have hz' : (k.round == 0) = true := by simpa using hz
         clear hz HT3
         go_wp2_with fail
         go_quiet (fail)
         go_wp2
         go_ret
         exact ⟨by rw [HT5.out]; rfl, by have := Lc.below_drewN' HB1.out; first | exact this _ | (rw [hb]; exact this _)⟩
       · have HT5 : Hid (canB [] k = decide (3 ≤ handsN [] (roundS [] k.frm (k.round - 1)))) := by show _ = _; rw [HT3.out]; simp [handsB, hz]
         have hz' : (k.round == 0) = false := by simpa using hz
         clear hz HT3
         have hrb := Lc.round_bd [] k.frm (k.round - 1) (by simp)
         have HRT : Hid (∀ W : World, Calls Tryz.prog 76 #[.slice none 0 0, .int .i64 k.frm, .int .i64 (k.round - 1)] W fun e w' => e = .returned (.int .i64 (roundS [] k.frm (k.round - 1))) ∧ W = w') := fun W => l3RoundO none 0 [] k.frm (k.round - 1) W (by simp) (.inl rfl) hf.1 hf.2
         have HHT : Hid (∀ W : World, Calls Tryz.prog 75 #[.slice none 0 0, .int .i64 (roundS [] k.frm (k.round - 1))] W fun e w' => e = .returned (.int .i64 (handsN [] (roundS [] k.frm (k.round - 1)))) ∧ Below W.heap.size W w') := fun W => Lc.l3Hands none 0 [] (roundS [] k.frm (k.round - 1)) W (by simp) (.inl rfl) (fun _ h => by cases h) hrb.1 (by omega)
         generalize roundS [] k.frm (k.round - 1) = q at HRT HHT HT5
         generalize handsN [] q = q2 at HHT HT5
         clear hrb
         have P2 : Hid (Below b w wr ∧ b < wr.heap.size) := ⟨HB1.out, S1⟩
         clear c0 c3 HB1 S1
         go_wp2_with fail
         clear hd' hw
         obtain ⟨X, _, F, HF, HG⟩ := Fam.fam wr
         have hc1 : ∀ z, (F z).cell? ⟨b, 1, none⟩ = some (.int .i64 k.round) := fun z => ((HF.out z).cell (p := ⟨b, 1, none⟩) P2.out.2).trans c1
         have hc2 : ∀ z, (F z).cell? ⟨b, 2, none⟩ = some (.int .i64 k.frm) := fun z => ((HF.out z).cell (p := ⟨b, 2, none⟩) P2.out.2).trans c2
         clear c1 c2
         refine Fam.region (F := F) (by kernel_rfl) (by kernel_rfl) (HG.out _ (Below.refl _ wr).drew) ?_
         repeat (go_big_quiet_step (first
           | (go_at_call 76; exact (HRT.out _).mono fun _ _ h => ⟨h.1, _, h.2.symm⟩)
           | (go_at_call 75; exact (HHT.out _).mono fun _ _ h => ⟨h.1, HG.out _ ((HF.out _).trans (h.2.mono (HF.out _).size))⟩)))
         refine wpQuiet_nil ?_
         intro w2 hw2
         obtain ⟨z, rfl⟩ := hw2
         have HB2 : Hid (Below b w (F z)) := P2.out.1.trans ((HF.out z).mono (Nat.le_of_lt P2.out.2))
         go_wp2
         go_ret
         exact ⟨by rw [HT5.out]; rfl, by first | exact HB2.out | (rw [hb]; exact HB2.out)⟩
   · have HT3 : Hid (canB [] k = false) := by show _ = _; rw [HT2.out]; simp [hd]
     have hd' : (k.frm != 0) = true := by simpa using hd
     have hd2 : (k.frm / 1 != 0) = true := by simpa using hd
     clear hd HT2
     go_wp2
     go_ret
     exact ⟨by rw [HT3.out]; rfl, by first | exact B1 | (rw [hb]; exact B1)⟩
set_option maxHeartbeats 800000 in
theorem l3CanTieN (k : K) (w : World) (hw : k.word.size ≤ 1099511627776) :
   Calls Tryz.prog 108 #[.slice none 0 0, .agg #[.int .i64 k.hand, .int .i64 k.round, .int .i64 k.frm, .string k.word]] w fun e w' => e = .returned (.bool (takesB [] k)) ∧ Below w.heap.size w w' := by
 have HT : Hid (takesB [] k = canB [] k) := rfl
 have P0 : Hid (Below w.heap.size w (w.alloc (.cells #[.int .i64 k.hand, .int .i64 k.round, .int .i64 k.frm, .string k.word] 36))) := (Below.refl _ _).alloc (Nat.le_refl _) _
 go_enter Tryz.func108, Tryz.ntmps108
 go_wp2_with fail
 refine (l3CanN k _ hw).mono ?_
 rintro e w1 ⟨rfl, hb1⟩
 have B1 := P0.out.trans (hb1.mono P0.out.size)
 go_wp2
 go_ret
 exact ⟨by rw [HT.out]; rfl, B1⟩
set_option maxHeartbeats 800000 in
theorem laceOkN (w : World) : Calls Tryz.prog 29 #[.slice none 0 0] w fun e w' => e = .returned (.bool true) ∧ w = w' := by
 go_enter Tryz.func29, Tryz.ntmps29
 go_wp2
 go_loopw [3] (fun i wr => i = .int .i64 0 ∧ wr = w) (fun _ _ => 0)
 case atStart => exact ⟨rfl, rfl⟩
 case round =>
   obtain ⟨rfl, rfl⟩ := hrel
   go_wp2
   go_ret
   exact ⟨rfl, rfl⟩
set_option maxHeartbeats 800000 in
theorem l3CopyN (w : World) : Calls Tryz.prog 69 #[.slice none 0 0] w (Lc.CopyPost [] w) := by
 obtain ⟨i0, hi, hz0, hz1, hz2⟩ := info_parts Lc.infoKn
 have HB : Hid (OwnK 36 w.heap.size (w.alloc (.cells #[] 36)) (.slice (some ⟨w.heap.size, 0, none⟩) 0 0) [] ∧ Below w.heap.size w (w.alloc (.cells #[] 36))) := ⟨⟨Lc.own_nil w _, by simp⟩, (Below.refl _ _).alloc (Nat.le_refl _) _⟩
 go_enter Tryz.func69, Tryz.ntmps69
 go_wp2_with (at_builtin; refine wpList_append_own_none rfl _ _ 24 rfl w.heap.size 36 i0 4 Tryz.underlying24 hi _ 0 [] rfl (Lc.own_nil w _) rfl ?_)
 go_ret
 exact ⟨_, rfl, HB.out.1, HB.out.2⟩
/-! ### a list that may be nil -/
theorem l3CanTieO (ao : Option Addr) (cap : Nat) (L : List K) (k : K) (w : World) (ho : ao = none → L = [] ∧ cap = 0) (hz : ∀ x, ao = some x → x.spot = none) (hcap : L.length ≤ cap) (hl : laceB L = true) (hw : k.word.size ≤ 1099511627776) (hr : RdK w ao L) :
   Calls Tryz.prog 108 #[.slice ao L.length cap, .agg #[.int .i64 k.hand, .int .i64 k.round, .int .i64 k.frm, .string k.word]] w fun e w' => e = .returned (.bool (takesB L k)) ∧ Below w.heap.size w w' := by
 cases ao with
 | none => obtain ⟨rfl, rfl⟩ := ho rfl; exact l3CanTieN k w hw
 | some x =>
   obtain ⟨g, off, q⟩ := x
   obtain rfl : q = none := hz _ rfl
   exact Lc.l3CanTie g off cap L k w hcap hl hw hr
theorem l3CopyO (ao : Option Addr) (cap : Nat) (L : List K) (w : World) (ho : ao = none → L = [] ∧ cap = 0) (hz : ∀ x, ao = some x → x.spot = none) (hl : L.length ≤ 2000000) (hr : RdK w ao L) : Calls Tryz.prog 69 #[.slice ao L.length cap] w (Lc.CopyPost L w) := by
 cases ao with
 | none => obtain ⟨rfl, rfl⟩ := ho rfl; exact l3CopyN w
 | some x =>
   obtain ⟨g, off, q⟩ := x
   obtain rfl : q = none := hz _ rfl
   exact Lc.l3Copy g off cap L w hl hr
end Rm
namespace Rm
open Kn (K okK in3)
open Sg (orB belows)
open Lc (at' RdK laceB takesB flat OwnK CellsK cellsOf)
structure Ac where
 kind : Int
 who : Int
 knot : Int
 round : Int
 frm : Int
 word : ByteArray
abbrev acV (a : Ac) : Value := .agg #[.int .i64 a.kind, .int .i64 a.who, .int .i64 a.knot, .int .i64 a.round, .int .i64 a.frm, .string a.word]
abbrev acO (a : Ac) : Obj := .cells #[.int .i64 a.kind, .int .i64 a.who, .int .i64 a.knot, .int .i64 a.round, .int .i64 a.frm, .string a.word] 137
structure Out where
 done : Bool
 L : List K
 hs : Nat → Hd
def DoPost (B p : Nat) (R : Ro) (x : Out) (w : World) (e : Ending) (w' : World) : Prop :=
 ∃ R' : Ro, e = .returned (.bool x.done) ∧ RoAt B w' p R' ∧ R'.gh = R.gh ∧ (R'.bad = R.bad ∧ R'.cv = R.cv ∧ R'.L = x.L ∧ R'.hs = x.hs) ∧ Fr (roS p R) w w' ∧ ∀ g, R'.lv.ownBlock = some g → R.lv.ownBlock = some g ∨ w.heap.size ≤ g
theorem do_same {B p : Nat} {R : Ro} {x : Out} {w w' : World} (b : Bool) (hx : x = ⟨b, R.L, R.hs⟩) (hr : RoAt B w p R) (hb : Below w.heap.size w w') : DoPost B p R x w (.returned (.bool b)) w' := by
 subst hx
 exact ⟨R, rfl, roat_below hr hb, rfl, ⟨rfl, rfl, rfl, rfl⟩, Fr.of_below hb _, fun _ hg => .inl hg⟩
structure DoBeg (B p : Nat) (R : Ro) (a : Ac) (w W : World) : Prop where
 bel : Below w.heap.size w W
 ro : RoAt B W p R
 lt : w.heap.size < W.heap.size
 a0 : W.cell? ⟨w.heap.size, 0, none⟩ = some (.int .i64 a.kind)
 a1 : W.cell? ⟨w.heap.size, 1, none⟩ = some (.int .i64 a.who)
 a2 : W.cell? ⟨w.heap.size, 2, none⟩ = some (.int .i64 a.knot)
 a3 : W.cell? ⟨w.heap.size, 3, none⟩ = some (.int .i64 a.round)
 a4 : W.cell? ⟨w.heap.size, 4, none⟩ = some (.int .i64 a.frm)
 a5 : W.cell? ⟨w.heap.size, 5, none⟩ = some (.string a.word)
theorem dobeg {B p : Nat} {R : Ro} (a : Ac) {w : World} (hr : RoAt B w p R) : DoBeg B p R a w (w.alloc (acO a)) :=
 ⟨(Below.refl _ _).alloc (Nat.le_refl _) _, roat_below hr ((Below.refl _ _).alloc (Nat.le_refl _) _), by simp, by simp, by simp, by simp, by simp, by simp, by simp⟩
theorem in3_call (x : Int) (b : Bool) (h : in3 x = b) (V : World) : Calls Tryz.prog 47 #[.int .i64 x, .int .i64 0, .int .i64 3] V fun e w' => e = .returned (.bool b) ∧ w' = V := by
 refine (Kn.l1In3 x V).mono ?_
 rintro e w' ⟨rfl, rfl⟩
 exact ⟨by rw [h], rfl⟩
theorem in3_iff (x : Int) : in3 x = true ↔ 0 ≤ x ∧ x ≤ 3 := by unfold in3; simp
def goodB (R : Ro) (a : Ac) : Bool := in3 a.who && (a.who != R.bad)
set_option maxHeartbeats 1600000 in
theorem doNot (B p : Nat) (R : Ro) (a : Ac) (w : World) (hr : RoAt B w p R) (hk : a.kind ≠ 5) (hg : goodB R a = false) (x : Out) (HX : Hid (x = ⟨false, R.L, R.hs⟩)) : Calls Tryz.prog 114 #[.pointer (some ⟨p, 0, none⟩), acV a] w (DoPost B p R x w) := by
 have P0 : Hid (DoBeg B p R a w (w.alloc (acO a))) := dobeg a hr
 have HR : Hid (RoAt B w p R) := hr
 have hk5 : (a.kind == 5) = false := by simpa using hk
 clear hr hk
 cases hin : in3 a.who
 · have hcall := in3_call a.who false hin
   clear hin hg
   go_enter Tryz.func114, Tryz.ntmps114
   go_wp2_with fail
   generalize w.alloc (acO a) = W at P0 ⊢
   obtain ⟨hB, hro, hlt, a0, a1, a2, a3, a4, a5⟩ := P0.out
   have c3 := hro.c3
   have HB : Hid (Below w.heap.size w W) := hB
   clear hro hB P0
   go_quiet (first | (go_at_call 47; exact (hcall _).mono fun _ _ h => ⟨h.1, _, h.2⟩))
   go_wp2
   go_ret
   exact do_same false HX.out HR.out (Lc.below_drewN' HB.out _)
 · have hcall := in3_call a.who true hin
   have hq : a.who = R.bad := by unfold goodB at hg; rw [hin] at hg; simpa using hg
   have hq1 : (a.who != R.bad) = false := by simpa using hq
   clear hin hg hq
   go_enter Tryz.func114, Tryz.ntmps114
   go_wp2_with fail
   generalize w.alloc (acO a) = W at P0 ⊢
   obtain ⟨hB, hro, hlt, a0, a1, a2, a3, a4, a5⟩ := P0.out
   have c3 := hro.c3
   have HB : Hid (Below w.heap.size w W) := hB
   clear hro hB P0
   go_quiet (first | (go_at_call 47; exact (hcall _).mono fun _ _ h => ⟨h.1, _, h.2⟩))
   go_wp2
   go_ret
   exact do_same false HX.out HR.out (Lc.below_drewN' HB.out _)
def upd (hs : Nat → Hd) (i : Nat) (h : Hd) : Nat → Hd := fun j => if j = i then h else hs j
def putH (R : Ro) (i : Nat) (h : Hd) : Ro := { R with hs := upd R.hs i h }
theorem do_hand {B p : Nat} {R : Ro} {x : Out} {w w' : World} (b : Bool) (i : Nat) (h : Hd) (hx : x = ⟨b, R.L, upd R.hs i h⟩) (hok : HdOk R.L.length h) (hr : RoAt B w p R) (hf : Fr (fun x => x = R.gh) w w') (hh : ∀ j, j < 4 → HAt w' R.gh (j * 4) ((putH R i h).hs j)) : DoPost B p R x w (.returned (.bool b)) w' := by
 subst hx
 have hn : p ≠ R.gh := hr.n1
 refine ⟨putH R i h, rfl, ⟨Nat.lt_of_lt_of_le hr.lt hf.size, hr.pB, (hf.cell (p := ⟨p, 0, none⟩) hr.lt hn).trans hr.c0, (hf.cell (p := ⟨p, 1, none⟩) hr.lt hn).trans hr.c1, (hf.cell (p := ⟨p, 2, none⟩) hr.lt hn).trans hr.c2, (hf.cell (p := ⟨p, 3, none⟩) hr.lt hn).trans hr.c3, (hf.frozen (p := ⟨p, 0, none⟩) hr.lt hn).trans hr.f0, ?_, hr.n1, hr.n2⟩, rfl, ⟨rfl, rfl, rfl, rfl⟩, hf.mono (fun x hx _ => .inr (.inl hx)), fun _ hg => .inl hg⟩
 refine ⟨own_fr hf hr.parts.own (fun g hg e => hr.parts.ne (by rw [← e]; exact hg)), hr.parts.lace, hh, fun j hj => ?_, hr.parts.gB, hr.parts.cap, hr.parts.ne⟩
 show HdOk R.L.length (if j = i then h else R.hs j)
 split
 · exact hok
 · exact hr.parts.hok j hj
theorem hat_far {w : World} {g o o' j : Nat} {h : Hd} (x : HAt w g o h) (hj : j < 4) (hn : o + 4 ≤ o' ∨ o' + 4 ≤ o) (u : Value) : HAt (w.setCell ⟨g, o' + j, none⟩ u) g o h := by
 have hne : ∀ c, c < 4 → (⟨g, o' + j, none⟩ : Addr) ≠ ⟨g, o + c, none⟩ := fun c hc e => by injection e with _ e; omega
 exact ⟨by simpa using x.lt, (World.cell?_setCell_other _ _ _ _ (hne 0 (by omega))).trans x.c0, (World.cell?_setCell_other _ _ _ _ (hne 1 (by omega))).trans x.c1, (World.cell?_setCell_other _ _ _ _ (hne 2 (by omega))).trans x.c2, (World.cell?_setCell_other _ _ _ _ (hne 3 (by omega))).trans x.c3, by simpa using x.f0, by simpa using x.f1, by simpa using x.f2, by simpa using x.f3⟩
theorem hat_drewN {w : World} {g o : Nat} {h : Hd} (x : HAt w g o h) (n : Nat) : HAt (w.drewN n) g o h := ⟨x.lt, x.c0, x.c1, x.c2, x.c3, x.f0, x.f1, x.f2, x.f3⟩
theorem do_put {B p : Nat} {R : Ro} {x : Out} {w V : World} (b : Bool) (i : Nat) (h : Hd) (hx : x = ⟨b, R.L, upd R.hs i h⟩) (hok : HdOk R.L.length h) (hr : RoAt B w p R) (hb : Below w.heap.size w V) (c : Nat) (hc : c < 4) (u : Value) (hh : HAt (V.setCell ⟨R.gh, i * 4 + c, none⟩ u) R.gh (i * 4) h) : DoPost B p R x w (.returned (.bool b)) (V.setCell ⟨R.gh, i * 4 + c, none⟩ u) := by
 refine do_hand b i h hx hok hr ((Fr.of_below hb _).trans (Fr.set V ⟨R.gh, i * 4 + c, none⟩ u) (fun x hx _ => hx)) (fun j hj => ?_)
 show HAt _ R.gh (j * 4) (if j = i then h else R.hs j)
 split
 · rename_i e; subst e; exact hh
 · exact hat_far (hat_below (hr.parts.hands j hj) hb) hc (by omega) u
set_option maxHeartbeats 1600000 in
theorem doKeep (B p : Nat) (R : Ro) (a : Ac) (w : World) (hr : RoAt B w p R) (hk : a.kind = 3) (hg : goodB R a = true) (x : Out) (HX : Hid (x = ⟨true, R.L, upd R.hs a.who.toNat { R.hs a.who.toNat with kept := (R.hs a.who.toNat).has }⟩)) : Calls Tryz.prog 114 #[.pointer (some ⟨p, 0, none⟩), acV a] w (DoPost B p R x w) := by
 obtain ⟨kind, who, knot, round, frm, word⟩ := a
 obtain rfl : kind = 3 := hk
 have P0 : Hid (DoBeg B p R ⟨3, who, knot, round, frm, word⟩ w (w.alloc (acO ⟨3, who, knot, round, frm, word⟩))) := dobeg _ hr
 have HR : Hid (RoAt B w p R) := hr
 unfold goodB at hg
 rw [Bool.and_eq_true] at hg
 have hcall := in3_call who true hg.1
 have hw3 := (in3_iff who).1 hg.1
 have hq1 : (who != R.bad) = true := hg.2
 clear hr hg
 obtain ⟨i, rfl⟩ := Int.eq_ofNat_of_zero_le hw3.1
 try simp only [Int.toNat_natCast] at HX
 have hi : i < 4 := by omega
 have hi4 : (i : Int) < 4 := by omega
 go_enter Tryz.func114, Tryz.ntmps114
 go_wp2_with fail
 generalize w.alloc (acO ⟨3, (i : Int), knot, round, frm, word⟩) = W at P0 ⊢
 obtain ⟨hB, hro, hlt, a0, a1, a2, a3, a4, a5⟩ := P0.out
 have c2 := hro.c2
 have c3 := hro.c3
 have hcap := hro.parts.cap
 obtain ⟨_, x0, x1, x2, x3, f0, f1, f2, f3⟩ := hro.parts.hands i hi
 have HB : Hid (Below w.heap.size w W) := hB
 have HH : Hid (HAt W R.gh (i * 4) (R.hs i)) := hro.parts.hands i hi
 have HOK : Hid (HdOk R.L.length (R.hs i)) := hro.parts.hok i hi
 clear hro hB P0
 go_quiet (first | (go_at_call 47; exact (hcall _).mono fun _ _ h => ⟨h.1, _, h.2⟩))
 go_wp2_with fail
 go_quiet (fail)
 go_wp2
 go_ret
 exact do_put true i { R.hs i with kept := (R.hs i).has } HX.out ⟨HOK.out.h0, HOK.out.h1, HOK.out.h0, HOK.out.h1, HOK.out.la⟩ HR.out (Lc.below_drewN' HB.out _) 2 (by omega) _ (hat_kept (hat_drewN HH.out _) _)
set_option maxHeartbeats 1600000 in
theorem doForget (B p : Nat) (R : Ro) (a : Ac) (w : World) (hr : RoAt B w p R) (hk : a.kind = 4) (hg : goodB R a = true) (x : Out) (HX : Hid (x = ⟨true, R.L, upd R.hs a.who.toNat { R.hs a.who.toNat with has := (R.hs a.who.toNat).kept }⟩)) : Calls Tryz.prog 114 #[.pointer (some ⟨p, 0, none⟩), acV a] w (DoPost B p R x w) := by
 obtain ⟨kind, who, knot, round, frm, word⟩ := a
 obtain rfl : kind = 4 := hk
 have P0 : Hid (DoBeg B p R ⟨4, who, knot, round, frm, word⟩ w (w.alloc (acO ⟨4, who, knot, round, frm, word⟩))) := dobeg _ hr
 have HR : Hid (RoAt B w p R) := hr
 unfold goodB at hg
 rw [Bool.and_eq_true] at hg
 have hcall := in3_call who true hg.1
 have hw3 := (in3_iff who).1 hg.1
 have hq1 : (who != R.bad) = true := hg.2
 clear hr hg
 obtain ⟨i, rfl⟩ := Int.eq_ofNat_of_zero_le hw3.1
 try simp only [Int.toNat_natCast] at HX
 have hi : i < 4 := by omega
 have hi4 : (i : Int) < 4 := by omega
 go_enter Tryz.func114, Tryz.ntmps114
 go_wp2_with fail
 generalize w.alloc (acO ⟨4, (i : Int), knot, round, frm, word⟩) = W at P0 ⊢
 obtain ⟨hB, hro, hlt, a0, a1, a2, a3, a4, a5⟩ := P0.out
 have c2 := hro.c2
 have c3 := hro.c3
 have hcap := hro.parts.cap
 obtain ⟨_, x0, x1, x2, x3, f0, f1, f2, f3⟩ := hro.parts.hands i hi
 have HB : Hid (Below w.heap.size w W) := hB
 have HH : Hid (HAt W R.gh (i * 4) (R.hs i)) := hro.parts.hands i hi
 have HOK : Hid (HdOk R.L.length (R.hs i)) := hro.parts.hok i hi
 clear hro hB P0
 go_quiet (first | (go_at_call 47; exact (hcall _).mono fun _ _ h => ⟨h.1, _, h.2⟩))
 go_wp2_with fail
 go_quiet (fail)
 go_wp2
 go_ret
 exact do_put true i { R.hs i with has := (R.hs i).kept } HX.out ⟨HOK.out.k0, HOK.out.k1, HOK.out.k0, HOK.out.k1, HOK.out.la⟩ HR.out (Lc.below_drewN' HB.out _) 1 (by omega) _ (hat_has (hat_drewN HH.out _) _)
set_option maxHeartbeats 1600000 in
theorem doElse (B p : Nat) (R : Ro) (a : Ac) (w : World) (hr : RoAt B w p R) (h1 : a.kind ≠ 1) (h2 : a.kind ≠ 2) (h3 : a.kind ≠ 3) (h4 : a.kind ≠ 4) (h5 : a.kind ≠ 5) (hg : goodB R a = true) (x : Out) (HX : Hid (x = ⟨false, R.L, R.hs⟩)) : Calls Tryz.prog 114 #[.pointer (some ⟨p, 0, none⟩), acV a] w (DoPost B p R x w) := by
 obtain ⟨kind, who, knot, round, frm, word⟩ := a
 have q1 : (kind == 1) = false := by simpa using h1
 have q2 : (kind == 2) = false := by simpa using h2
 have q3 : (kind == 3) = false := by simpa using h3
 have q4 : (kind == 4) = false := by simpa using h4
 have q5 : (kind == 5) = false := by simpa using h5
 clear h1 h2 h3 h4 h5
 have P0 : Hid (DoBeg B p R ⟨kind, who, knot, round, frm, word⟩ w (w.alloc (acO ⟨kind, who, knot, round, frm, word⟩))) := dobeg _ hr
 have HR : Hid (RoAt B w p R) := hr
 unfold goodB at hg
 rw [Bool.and_eq_true] at hg
 have hcall := in3_call who true hg.1
 have hw3 := (in3_iff who).1 hg.1
 have hq1 : (who != R.bad) = true := hg.2
 clear hr hg
 obtain ⟨i, rfl⟩ := Int.eq_ofNat_of_zero_le hw3.1
 try simp only [Int.toNat_natCast] at HX
 have hi : i < 4 := by omega
 have hi4 : (i : Int) < 4 := by omega
 go_enter Tryz.func114, Tryz.ntmps114
 go_wp2_with fail
 generalize w.alloc (acO ⟨kind, (i : Int), knot, round, frm, word⟩) = W at P0 ⊢
 obtain ⟨hB, hro, hlt, a0, a1, a2, a3, a4, a5⟩ := P0.out
 have c2 := hro.c2
 have c3 := hro.c3
 have hcap := hro.parts.cap
 obtain ⟨_, x0, x1, x2, x3, f0, f1, f2, f3⟩ := hro.parts.hands i hi
 have HB : Hid (Below w.heap.size w W) := hB
 clear hro hB P0
 go_quiet (first | (go_at_call 47; exact (hcall _).mono fun _ _ h => ⟨h.1, _, h.2⟩))
 go_wp2_with fail
 go_quiet (fail)
 go_wp2
 go_ret
 exact do_same false HX.out HR.out (Lc.below_drewN' HB.out _)
end Rm
namespace Rm
open Memb (Own)
def coinsTo (l : List Int) (n : Nat) : Bool := (List.range n).all fun i => Kn.in3 (l.getD i 0)
def coinsB (l : List Int) : Bool := coinsTo l l.length && decide (l.length ≤ 6)
theorem coins_step (l : List Int) (n : Nat) : coinsTo l (n + 1) = (coinsTo l n && Kn.in3 (l.getD n 0)) := by
 unfold coinsTo; rw [List.range_succ]; simp
theorem coins_no (l : List Int) (n : Nat) (h : n < l.length) (hq : Kn.in3 (l.getD n 0) = false) : coinsB l = false := by
 unfold coinsB coinsTo
 have : ((List.range l.length).all fun i => Kn.in3 (l.getD i 0)) = false := by
   rw [List.all_eq_false]
   exact ⟨n, by simpa using h, by rw [hq]; decide⟩
 rw [this]; rfl
set_option maxHeartbeats 800000 in
theorem specCoinsOk (ao : Option Addr) (cap : Nat) (l : List Int) (w : World) (hl : l.length ≤ 1048576) (hrd : Lst.Rd w ao l) : Calls Tryz.prog 157 #[.slice ao l.length cap] w fun e w' => e = .returned (.bool (coinsB l)) ∧ w = w' := by
 go_enter Tryz.func157, Tryz.ntmps157
 go_wp2
 go_loop [3] (fun i => ∃ j : Nat, j ≤ l.length ∧ i = .int .i64 j ∧ Hid (coinsTo l j = true)) (fun i => l.length - (intOf i).toNat)
 case atStart => exact ⟨0, by omega, rfl, rfl⟩
 case round =>
   obtain ⟨j, hj, rfl, HC⟩ := hrel
   by_cases hlt : j < l.length
   · rcases hrd with hrd | ⟨b, rfl, hcell⟩
     · rw [hrd] at hlt; simp at hlt
     have cj := hcell j hlt
     have HS : Hid (coinsTo l (j + 1) = (coinsTo l j && Kn.in3 (l.getD j 0))) := coins_step l j
     have HN : Hid (Kn.in3 (l.getD j 0) = false → coinsB l = false) := coins_no l j hlt
     clear hcell
     generalize l.getD j 0 = y at cj HS HN
     cases hq : Kn.in3 y
     · have HT : Hid (coinsB l = false) := HN.out hq
       have HQ : Hid (Kn.in3 y = false) := hq
       clear hq HS HN
       go_wp2_with (go_at_call 47; refine (Kn.l1In3 _ _).mono ?_; rintro e w' ⟨rfl, rfl⟩; rw [HQ.out])
       go_ret
       exact ⟨by rw [HT.out]; rfl, rfl⟩
     · have HT : Hid (coinsTo l (j + 1) = true) := by show _ = _; rw [HS.out, HC.out, hq]; rfl
       have HQ : Hid (Kn.in3 y = true) := hq
       clear hq HS HN HC
       go_wp2_with (go_at_call 47; refine (Kn.l1In3 _ _).mono ?_; rintro e w' ⟨rfl, rfl⟩; rw [HQ.out])
       go_round
       case rel => exact ⟨j + 1, by omega, by go_num, HT⟩
       case measure => simp [intOf]; omega
   · obtain rfl : j = l.length := by omega
     by_cases h6 : l.length ≤ 6
     · have HT : Hid (coinsB l = true) := by show _ = _; unfold coinsB; rw [HC.out, decide_eq_true h6]; rfl
       have h6' : (l.length : Int) ≤ 6 := by omega
       go_wp2
       go_ret
       exact ⟨by rw [HT.out]; rfl, rfl⟩
     · have HT : Hid (coinsB l = false) := by show _ = _; unfold coinsB; rw [decide_eq_false h6]; simp
       have h6' : ¬ (l.length : Int) ≤ 6 := by omega
       go_wp2
       go_ret
       exact ⟨by rw [HT.out]; rfl, rfl⟩
theorem rd_nums {w : World} {ao : Option Addr} {l : List Int} {g : Nat} (h : Lst.Rd w ao l) (ha : ao = some ⟨g, 0, none⟩) : ∀ (j : Nat) u, (l.map (Value.int .i64))[j]? = some u → w.cell? ((⟨g, 0, none⟩ : Addr).add j) = some u := by
 intro j u hj
 rcases h with h | ⟨b, hb, hc⟩
 · rw [h] at hj; simp at hj
 · rw [ha] at hb
   injection hb with hb
   injection hb with hb
   subst hb
   have hlt : j < l.length := by
     have := (List.getElem?_eq_some_iff.1 hj).1
     simpa using this
   have hu : u = .int .i64 (l.getD j 0) := by
     simp [hlt] at hj
     rw [← hj]; simp [List.getD, hlt]
   rw [hu, WideShapes.add_plain, Nat.zero_add]
   exact hc j hlt
theorem nums_one (l : List Int) : ∀ u ∈ l.map (Value.int .i64), u.oneCell' = true := by
 intro u hu
 rw [List.mem_map] at hu
 obtain ⟨z, _, rfl⟩ := hu
 rfl
set_option maxHeartbeats 800000 in
theorem l1Copy (g cap : Nat) (l : List Int) (w : World) (hl : l.length ≤ 1048576) (hlt : g < w.heap.size) (hrd : Lst.Rd w (some ⟨g, 0, none⟩) l) : Calls Tryz.prog 152 #[.slice (some ⟨g, 0, none⟩) l.length cap] w (Sg.NumsPost l w) := by
 obtain ⟨i0, hi, hz0, hz1, hz2⟩ := info_parts Memb.info2
 have hrd0 : Lst.Rd (w.alloc (.cells #[] 2)) (some ⟨g, 0, none⟩) l := by
   rcases hrd with h | ⟨b, hb, hc⟩
   · exact .inl h
   · injection hb with hb
     injection hb with hb
     subst hb
     exact .inr ⟨g, rfl, fun j hj => (World.cell?_alloc_lt w _ ⟨g, j, none⟩ hlt).trans (hc j hj)⟩
 go_enter Tryz.func152, Tryz.ntmps152
 go_wp2_with (at_builtin; refine wpList_append_own _ rfl _ _ 51 rfl w.heap.size 2 i0 (.int .i64 0) 1 8 Tryz.underlying51 hi hz0 hz1 hz2 rfl (by decide) _ 0 [] rfl (Memb.own_empty w) ⟨g, 0, none⟩ l.length cap (l.map (Value.int .i64)) rfl (by simp) (rd_nums hrd0 rfl) (nums_one l) ?c3 ?c4 ?c5 ?_)
 case c3 => unfold maxLen; omega
 case c4 => omega
 case c5 => simp
 intro v' w5 hown' hgrow _
 have HR : Hid (w5.ownsRow w.heap.size 2 1 v' l.length (l.map (Value.int .i64)) ∧ Below w.heap.size w w5) :=
   ⟨by simpa using hown', ((Below.refl w.heap.size w).alloc (Nat.le_refl _) _).grown hgrow (by simp) (fun i hi => by simp [Value.ownBlock] at hi; omega)⟩
 clear hown' hgrow hi hz0 hz1 hz2
 obtain ⟨ao, ca, hv, ho⟩ := Memb.own_shape HR.out.1
 subst hv
 go_wp2
 go_ret
 exact ⟨ao, ca, rfl, ho, HR.out.2⟩
end Rm
namespace Sg
open Kn (K okK)
open Bit (bit)
open Lc (at')
theorem bit_pow (i j : Nat) : bit (2 ^ i) j = decide (j = i) := by
 have h : ((2 : Int) ^ i).toNat = 2 ^ i := by
   rw [show ((2 : Int) ^ i) = ((2 ^ i : Nat) : Int) by simp, Int.toNat_natCast]
 rw [Bit.bit_testBit _ (Int.le_of_lt (Bit.pow_pos' i)), h, Nat.testBit_two_pow]
 exact decide_eq_decide.2 eq_comm
theorem bit_acc (f : Int) (l : List Int) (i k : Nat) (hi : i < 60) (hl : Within l) (j : Nat) : bit (accB f l i k) j = true ↔ j = i ∨ ∃ m, m < k ∧ bit f m = true ∧ bit (l.getD m 0) j = true := by
 induction k with
 | zero => unfold accB; rw [bit_pow]; simp
 | succ k ih =>
   have hb := accB_bd f l i k hi hl
   have hg := within_get hl k
   unfold accB
   cases hf : bit f k
   · simp only [Bool.false_eq_true, if_false]
     rw [ih]
     constructor
     · rintro (h | ⟨m, hm, h1, h2⟩)
       · exact .inl h
       · exact .inr ⟨m, by omega, h1, h2⟩
     · rintro (h | ⟨m, hm, h1, h2⟩)
       · exact .inl h
       · by_cases e : m = k
         · rw [e, hf] at h1; exact Bool.noConfusion h1
         · exact .inr ⟨m, by omega, h1, h2⟩
   · simp only [if_true]
     rw [bit_orB _ _ hb.1 hg.1, Bool.or_eq_true, ih]
     constructor
     · rintro ((h | ⟨m, hm, h1, h2⟩) | h)
       · exact .inl h
       · exact .inr ⟨m, by omega, h1, h2⟩
       · exact .inr ⟨k, by omega, hf, h⟩
     · rintro (h | ⟨m, hm, h1, h2⟩)
       · exact .inl (.inl h)
       · by_cases e : m = k
         · rw [e] at h2; exact .inr h2
         · exact .inl (.inr ⟨m, by omega, h1, h2⟩)
def bel (L : List K) (i : Nat) : Int := (belows L (i + 1)).getD i 0
theorem belows_get (L : List K) (n i : Nat) (h : i < n) : (belows L n).getD i 0 = bel L i := by
 induction n with
 | zero => omega
 | succ n ih =>
   by_cases e : i = n
   · subst e; rfl
   · have hn : i < (belows L n).length := by rw [belows_len]; omega
     rw [← ih (by omega)]
     show (belows L n ++ _).getD i 0 = _
     simp [List.getD, List.getElem?_append_left hn]
theorem bel_acc (L : List K) (i : Nat) : bel L i = accB (at' L i).frm (belows L i) i i := by
 unfold bel
 show (belows L i ++ [_]).getD i 0 = _
 have := belows_len L i
 simp [List.getD, this]
theorem bel_bd (L : List K) (i : Nat) (hi : i < 60) : 0 ≤ bel L i ∧ bel L i < 1152921504606846976 := by
 rw [bel_acc]; exact accB_bd _ _ _ _ hi (belows_in L i (by omega))
theorem bit_bel (L : List K) (i : Nat) (hi : i < 60) (j : Nat) : bit (bel L i) j = true ↔ j = i ∨ ∃ m, m < i ∧ bit (at' L i).frm m = true ∧ bit (bel L m) j = true := by
 rw [bel_acc, bit_acc _ _ _ _ hi (belows_in L i (by omega))]
 constructor
 · rintro (h | ⟨m, hm, h1, h2⟩)
   · exact .inl h
   · exact .inr ⟨m, hm, h1, by rwa [belows_get L i m hm] at h2⟩
 · rintro (h | ⟨m, hm, h1, h2⟩)
   · exact .inl h
   · exact .inr ⟨m, hm, h1, by rwa [belows_get L i m hm]⟩
/-- thread by thread -/
inductive Reach (L : List K) : Nat → Nat → Prop
 | self (i : Nat) : Reach L i i
 | step {i m j : Nat} : bit (at' L i).frm m = true → Reach L m j → Reach L i j
theorem Reach.trans {L : List K} {i m j : Nat} (h : Reach L i m) (h2 : Reach L m j) : Reach L i j := by
 induction h with
 | self => exact h2
 | step hb _ ih => exact .step hb (ih h2)
theorem thread_lt {L : List K} (hl : Lc.laceB L = true) {i m : Nat} (hi : i < L.length) (hb : bit (at' L i).frm m = true) : m < i := by
 have hc := Lc.lace_upTo hl i hi
 have hf := Lc.ok_frm (Lc.can_ok hc)
 unfold Lc.canB at hc
 simp only [Bool.and_eq_true, decide_eq_true_eq] at hc
 have hd : (at' L i).frm / 2 ^ (L.take i).length = 0 := hc.2.1
 have hlen : (L.take i).length = i := by simp; omega
 rw [hlen] at hd
 apply Classical.byContradiction
 intro h
 rw [Lc.bit_hi _ i hf.1 hd m (by omega)] at hb
 exact Bool.noConfusion hb
theorem bel_reach {L : List K} (hl : Lc.laceB L = true) (i : Nat) (hi : i < L.length) (j : Nat) : bit (bel L i) j = true ↔ Reach L i j := by
 have h60 := ((Lc.lace_iff L).1 hl).1
 induction i using Nat.strongRecOn generalizing j with
 | _ i ih =>
   rw [bit_bel L i (by omega)]
   constructor
   · rintro (rfl | ⟨m, hm, h1, h2⟩)
     · exact .self _
     · exact .step h1 ((ih m hm (by omega) j).1 h2)
   · intro h
     cases h with
     | self => exact .inl rfl
     | step hb h2 =>
       have hm := thread_lt hl hi hb
       exact .inr ⟨_, hm, hb, (ih _ hm (by omega) j).2 h2⟩
theorem reach_le {L : List K} (hl : Lc.laceB L = true) {i j : Nat} (hi : i < L.length) (h : Reach L i j) : j ≤ i := by
 induction h with
 | self => exact Nat.le_refl _
 | step hb _ ih =>
   have hm := thread_lt hl hi hb
   have := ih (by omega)
   omega
theorem bel_trans {L : List K} (hl : Lc.laceB L = true) {i m j : Nat} (hi : i < L.length) (h1 : bit (bel L i) m = true) (h2 : bit (bel L m) j = true) : bit (bel L i) j = true := by
 have r1 := (bel_reach hl i hi m).1 h1
 have hm := reach_le hl hi r1
 exact (bel_reach hl i hi j).2 (r1.trans ((bel_reach hl m (by omega) j).1 h2))
theorem andNot_sub (a s : Int) (h0 : 0 ≤ a) (h1 : a < 9223372036854775808) (h2 : 0 ≤ s) (h3 : s < 9223372036854775808) : (bits .andNot .i64 a s == 0) = true ↔ ∀ i, bit a i = true → bit s i = true := by
 obtain ⟨A, rfl⟩ := Int.eq_ofNat_of_zero_le h0
 obtain ⟨S, rfl⟩ := Int.eq_ofNat_of_zero_le h2
 have hA : (BitVec.ofInt 64 (A : Int)).toNat = A := ofInt_u64 A (by omega)
 have hS : (BitVec.ofInt 64 (S : Int)).toNat = S := ofInt_u64 S (by omega)
 have e : bits .andNot .i64 (A : Int) (S : Int) = IntKind.i64.wrap ((BitVec.ofInt 64 (A : Int) &&& ~~~ BitVec.ofInt 64 (S : Int)).toNat : Int) := rfl
 have hz : (bits .andNot .i64 (A : Int) (S : Int) == 0) = true ↔ (BitVec.ofInt 64 (A : Int) &&& ~~~ BitVec.ofInt 64 (S : Int)) = 0#64 := by
   rw [e, beq_iff_eq]
   constructor
   · intro h
     have hlt : (BitVec.ofInt 64 (A : Int) &&& ~~~ BitVec.ofInt 64 (S : Int)).toNat < 18446744073709551616 := BitVec.isLt _
     have hw : ∀ x : Nat, x < 18446744073709551616 → IntKind.i64.wrap (x : Int) = 0 → x = 0 := by
       intro x hx hh
       simp only [IntKind.wrap, IntKind.bits, IntKind.signed] at hh
       simp at hh
       omega
     exact BitVec.eq_of_toNat_eq ((hw _ hlt h).trans rfl)
   · intro h; rw [h]; rfl
 rw [hz]
 have ba : ∀ i, (BitVec.ofInt 64 (A : Int)).getLsbD i = A.testBit i := fun i => by rw [BitVec.getLsbD, hA]
 have bs : ∀ i, (BitVec.ofInt 64 (S : Int)).getLsbD i = S.testBit i := fun i => by rw [BitVec.getLsbD, hS]
 have ta : ∀ i, bit (A : Int) i = A.testBit i := fun i => by rw [Bit.bit_testBit _ h0, Int.toNat_natCast]
 have ts : ∀ i, bit (S : Int) i = S.testBit i := fun i => by rw [Bit.bit_testBit _ h2, Int.toNat_natCast]
 constructor
 · intro h i hi
   rw [ta] at hi
   have h64 : i < 64 := by
     apply Classical.byContradiction
     intro hn
     have : A.testBit i = false := Nat.testBit_lt_two_pow (Nat.lt_of_lt_of_le (show A < 2 ^ 64 by omega) (Nat.pow_le_pow_right (by decide) (by omega)))
     rw [this] at hi; exact Bool.noConfusion hi
   have hb := congrArg (fun v => v.getLsbD i) h
   simp only [BitVec.getLsbD_and, BitVec.getLsbD_not, ba, bs, hi, h64] at hb
   rw [ts]
   simpa using hb
 · intro h
   apply BitVec.eq_of_getLsbD_eq
   intro i hi
   simp only [BitVec.getLsbD_and, BitVec.getLsbD_not, ba, bs]
   cases hA' : A.testBit i
   · simp
   · have := h i (by rw [ta]; exact hA')
     rw [ts] at this
     rw [this]; simp
theorem closed_iff (L : List K) (s : Int) (n : Nat) (hn : n ≤ 60) (h0 : 0 ≤ s) (h1 : s < 1152921504606846976) : closedTo (belows L n) s n = true ↔ ∀ i, i < n → bit s i = true → ∀ j, bit (bel L i) j = true → bit s j = true := by
 unfold closedTo
 rw [List.all_eq_true]
 constructor
 · intro h i hi hb
   have := h i (by simpa using hi)
   rw [hb, belows_get L n i hi] at this
   have hbd := bel_bd L i (by omega)
   exact (andNot_sub _ _ hbd.1 (by omega) h0 (by omega)).1 (by simpa using this)
 · intro h i hi
   have hi' : i < n := by simpa using hi
   cases hb : bit s i
   · rfl
   · rw [belows_get L n i hi']
     have hbd := bel_bd L i (by omega)
     have := (andNot_sub _ _ hbd.1 (by omega) h0 (by omega)).2 (h i hi' hb)
     simpa using this
theorem closed_threads {L : List K} (hl : Lc.laceB L = true) (s : Int) (h0 : 0 ≤ s) (h1 : s < 1152921504606846976) : closedTo (belows L L.length) s L.length = true ↔ ∀ i, i < L.length → bit s i = true → ∀ m, bit (at' L i).frm m = true → bit s m = true := by
 have h60 := ((Lc.lace_iff L).1 hl).1
 rw [closed_iff L s L.length h60 h0 h1]
 constructor
 · intro h i hi hb m hm
   exact h i hi hb m ((bel_reach hl i hi m).2 (.step hm (.self _)))
 · intro h i hi hb j hj
   have r := (bel_reach hl i hi j).1 hj
   clear hj
   induction r with
   | self => exact hb
   | step hm _ ih => exact ih (Nat.lt_trans (thread_lt hl hi hm) hi) (h _ hi hb _ hm)
end Sg
end Go.Proofs.YtfjmenhofllchaaGreatDoor
