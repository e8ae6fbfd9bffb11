/-
  What one act does in a room, where a hand ties: the room stays one; nothing else is changed.
-/
import Derived.Test.YtfjmenhofllchaaGreatDoorRoomI
import Derived.Test.YtfjmenhofllchaaGreatDoorRoomH
import Derived.Test.YtfjmenhofllchaaGreatDoorRoomJ
import Derived.Deep.RegionHeld3
namespace Go.Proofs.YtfjmenhofllchaaGreatDoor
open Go.RowKit
set_option maxRecDepth 100000
namespace Rm
open Kn (K okK in3)
open Sg (orB belows)
open Lc (at' RdK laceB takesB flat OwnK CellsK cellsOf)

theorem own_base {w : World} {b b' : Nat} {t : TypeId} {size n : Nat} {v : Value} {xs : List Value} (h : w.ownsRow b t size v n xs) (hb : b' ≤ b) : w.ownsRow b' t size v n xs := by
  obtain ⟨h1, h2⟩ := h
  refine ⟨h1, ?_⟩
  rcases h2 with h2 | ⟨g, cap', cur, hv, hB, rest⟩
  · exact .inl h2
  · exact .inr ⟨g, cap', cur, hv, by omega, rest⟩

/-- a whole hand is written -/
def set4 (V : World) (g o : Nat) (h : Hd) : World := (((V.setCell ⟨g, o, none⟩ (.int .i64 h.who)).setCell ⟨g, o + 1, none⟩ (.int .i64 h.has)).setCell ⟨g, o + 2, none⟩ (.int .i64 h.kept)).setCell ⟨g, o + 3, none⟩ (.int .i64 h.last)

theorem hat_who {w : World} {g o : Nat} {h : Hd} (x : HAt w g o h) (y : Int) : HAt (w.setCell ⟨g, o, none⟩ (.int .i64 y)) g o { h with who := y } :=
  ⟨by simpa using x.lt, World.cell?_setCell_same _ _ _ x.c0, (World.cell?_setCell_other _ _ _ _ (by simp)).trans x.c1, (World.cell?_setCell_other _ _ _ _ (by simp)).trans x.c2, (World.cell?_setCell_other _ _ _ _ (by simp)).trans x.c3, by simpa using x.f0, by simpa using x.f1, by simpa using x.f2, by simpa using x.f3⟩
theorem set4_at {V : World} {g o : Nat} {h0 h : Hd} (x : HAt V g o h0) : HAt (set4 V g o h) g o h := hat_last (hat_kept (hat_has (hat_who x h.who) h.has) h.kept) h.last
theorem set4_far {V : World} {g o o' : Nat} {h0 h : Hd} (x : HAt V g o h0) (hn : o + 4 ≤ o' ∨ o' + 4 ≤ o) : HAt (set4 V g o' h) g o h0 :=
  hat_far (hat_far (hat_far (hat_far (j := 0) x (by omega) hn _) (j := 1) (by omega) hn _) (j := 2) (by omega) hn _) (j := 3) (by omega) hn _
theorem set4_fr (V : World) (g o : Nat) (h : Hd) : Fr (fun x => x = g) V (set4 V g o h) :=
  (((Fr.set V ⟨g, o, none⟩ _).trans (Fr.set _ ⟨g, o + 1, none⟩ _) (fun _ hx _ => hx)).trans (Fr.set _ ⟨g, o + 2, none⟩ _) (fun _ hx _ => hx)).trans (Fr.set _ ⟨g, o + 3, none⟩ _) (fun _ hx _ => hx)

theorem roat_lace {B p : Nat} {R : Ro} {w V : World} (L' : List K) (v : Value) (hr : RoAt B w p R) (hb : Below w.heap.size w V) (ho : V.ownsRow w.heap.size 36 4 v L'.length (flat L')) (hl : laceB L' = true) (hlen : R.L.length ≤ L'.length) :
    RoAt B (V.setCell ⟨p, 0, none⟩ v) p (putL R L' v) := by
  have hBw : B ≤ w.heap.size := Nat.le_trans hr.pB (Nat.le_of_lt hr.lt)
  have hgl : R.gh < w.heap.size := (hr.parts.hands 0 (by omega)).lt
  have hlt := World.ownsRow.lt ho
  have hvp : v.ownBlock ≠ some p := fun e => by have := (hlt p e).1; have := hr.lt; omega
  have hvg : v.ownBlock ≠ some R.gh := fun e => by have := (hlt R.gh e).1; omega
  have hs := Fr.set V ⟨p, 0, none⟩ v
  have hpl : p < V.heap.size := Nat.lt_of_lt_of_le hr.lt hb.size
  have hcell : ∀ j, V.cell? ⟨p, j, none⟩ = w.cell? ⟨p, j, none⟩ := fun j => hb.cell (p := ⟨p, j, none⟩) hr.lt
  refine ⟨by simpa using hpl, hr.pB, World.cell?_setCell_same _ _ _ ((hcell 0).trans hr.c0), (World.cell?_setCell_other _ _ _ _ (by simp)).trans ((hcell 1).trans hr.c1), (World.cell?_setCell_other _ _ _ _ (by simp)).trans ((hcell 2).trans hr.c2), (World.cell?_setCell_other _ _ _ _ (by simp)).trans ((hcell 3).trans hr.c3), ?_, ⟨?_, hl, fun j hj => ?_, fun j hj => (hr.parts.hok j hj).mono hlen, hr.parts.gB, hr.parts.cap, hvg⟩, hr.n1, hvp⟩
  · rw [World.frozen?_setCell]; exact (hb.frozen (p := ⟨p, 0, none⟩) hr.lt).trans hr.f0
  · exact own_base (own_fr hs ho (fun g hg e => hvp (by have e' : g = p := e; rw [← e']; exact hg))) hBw
  · exact hat_fr (hat_below (hr.parts.hands j hj) hb) hs (fun e => hr.n1 e.symm)

theorem tie_fin {B p : Nat} {R : Ro} {w V : World} {v : Value} {L' : List K} {h : Hd} {i : Nat} {x : Out} (hxo : x = ⟨true, L', upd R.hs i h⟩) (hi : i < 4) (hr : RoAt B w p R) (hb : Below w.heap.size w V) (ho : V.ownsRow w.heap.size 36 4 v L'.length (flat L')) (hl : laceB L' = true) (hlen : R.L.length ≤ L'.length) (hok : HdOk L'.length h) :
    DoPost B p R x w (.returned (.bool true)) (set4 (V.setCell ⟨p, 0, none⟩ v) R.gh (i * 4) h) := by
  have hro := roat_lace L' v hr hb ho hl hlen
  have hlt := World.ownsRow.lt ho
  have hf1 : Fr (roS p R) w (V.setCell ⟨p, 0, none⟩ v) := (Fr.of_below hb _).trans (Fr.set V ⟨p, 0, none⟩ v) (fun x hx _ => .inl hx)
  have hf2 := set4_fr (V.setCell ⟨p, 0, none⟩ v) R.gh (i * 4) h
  obtain ⟨R', he, hro', h1, h2, hf3, h3⟩ := do_hand (R := putL R L' v) true i h hxo hok hro hf2 (fun j hj => by
    show HAt _ R.gh (j * 4) (if j = i then h else R.hs j)
    have hx : HAt (V.setCell ⟨p, 0, none⟩ v) R.gh (j * 4) (R.hs j) := hro.parts.hands j hj
    split
    · rename_i e; subst e; exact set4_at hx
    · exact set4_far hx (by omega))
  refine ⟨R', he, hro', h1, h2, hf1.trans hf2 (fun x hx _ => .inr (.inl hx)), fun g hg => ?_⟩
  rcases h3 g hg with h | h
  · exact .inr (hlt g h).1
  · have := hf1.size; exact .inr (by omega)

/-- what tying hands back, for a room's walk -/
structure TRes (R : Ro) (x : Out) (i : Nat) (w wx : World) (v : Value) (hb : Nat) (h : Hd) (b : Bool) : Prop where
  bel : Below w.heap.size w wx
  hh : HAt wx hb 0 h
  gt : w.heap.size ≤ hb
  no : b = false → x = ⟨false, R.L, R.hs⟩
  res : b = true → ∃ L', wx.ownsRow w.heap.size 36 4 v L'.length (flat L') ∧ laceB L' = true ∧ R.L.length ≤ L'.length ∧ HdOk L'.length h ∧ x = ⟨true, L', upd R.hs i h⟩

/-- what comes of a tying -/
def tieOut (L : List K) (hs : Nat → Hd) (i : Nat) (word : ByteArray) : Out := if tieB L (hs i) word then ⟨true, L ++ [tieK L (hs i) word], upd hs i ⟨(hs i).who, orB (hs i).has (2 ^ L.length), orB (hs i).has (2 ^ L.length), (L.length : Int)⟩⟩ else ⟨false, L, hs⟩

def TieForm (R : Ro) (x : Out) (i : Nat) (X : World) (e : Ending) (w' : World) : Prop :=
  ∃ (v : Value) (h : Hd) (b : Bool), e = .returned (.tuple #[v, .agg #[.int .i64 h.who, .int .i64 h.has, .int .i64 h.kept, .int .i64 h.last], .bool b]) ∧ Below X.heap.size X w' ∧ (b = false → x = ⟨false, R.L, R.hs⟩) ∧ (b = true → ∃ L', OwnK 36 X.heap.size w' v L' ∧ laceB L' = true ∧ R.L.length ≤ L'.length ∧ HdOk L'.length h ∧ x = ⟨true, L', upd R.hs i h⟩)

theorem tie_form {ao : Option Addr} {cap : Nat} {R : Ro} {x : Out} {i : Nat} {word : ByteArray} {X w' : World} {e : Ending} (hx : x = tieOut R.L R.hs i word) (hl : laceB R.L = true) (hok : HdOk R.L.length (R.hs i)) (hp : TiePost ao cap R.L (R.hs i) word X e w') : TieForm R x i X e w' := by
  obtain ⟨⟨hn, he⟩ | ⟨ht, v, he, ho⟩, hb⟩ := hp
  · exact ⟨_, R.hs i, false, he, hb, fun _ => by rw [hx]; unfold tieOut; rw [hn]; rfl, fun e => by cases e⟩
  · have hx' := hx
    unfold tieOut at hx'
    rw [if_pos ht] at hx'
    unfold tieB at ht
    rw [Bool.and_eq_true] at ht
    have hc : (decide (R.L.length < 60) && Lc.canB R.L (tieK R.L (R.hs i) word)) = true := ht.2
    rw [Bool.and_eq_true, decide_eq_true_eq] at hc
    have hp := Base.pow_bd R.L.length hc.1
    have hor := Sg.orB_bd (R.hs i).has (2 ^ R.L.length) hok.h0 hok.h1 (by omega) hp.2
    exact ⟨v, ⟨(R.hs i).who, orB (R.hs i).has (2 ^ R.L.length), orB (R.hs i).has (2 ^ R.L.length), (R.L.length : Int)⟩, true, he, hb, (fun e => by cases e), fun _ => ⟨_, ho, lace_snoc hl ht.2, by simp, ⟨hor.1, hor.2, hor.1, hor.2, by simp; omega⟩, hx'⟩⟩

theorem tresA {R : Ro} {x : Out} {i : Nat} {w W X V : World} {v : Value} {h : Hd} {b : Bool} (hw : Below w.heap.size w W) (hX : Below W.heap.size W X) (hV : Below X.heap.size X V) (hno : b = false → x = ⟨false, R.L, R.hs⟩) (hr : b = true → ∃ L', OwnK 36 X.heap.size V v L' ∧ laceB L' = true ∧ R.L.length ≤ L'.length ∧ HdOk L'.length h ∧ x = ⟨true, L', upd R.hs i h⟩) (t : TypeId) :
    TRes R x i w (V.alloc (.cells #[.int .i64 h.who, .int .i64 h.has, .int .i64 h.kept, .int .i64 h.last] t)) v V.heap.size h b := by
  have hB := (hw.trans (hX.mono hw.size)).trans (hV.mono (Nat.le_trans hw.size hX.size))
  refine ⟨hB.alloc hB.size _, hat_new V h t, hB.size, hno, fun e => ?_⟩
  obtain ⟨L', ho, h1, h2, h3, h4⟩ := hr e
  exact ⟨L', own_base (ho.1.alloc _) (Nat.le_trans hw.size hX.size), h1, h2, h3, h4⟩

theorem tresB {R : Ro} {x : Out} {i : Nat} {w W X V : World} {v : Value} {h h0 : Hd} {b : Bool} {g : Nat} (hw : Below w.heap.size w W) (hX : Below W.heap.size W X) (hV : Below X.heap.size X V) (hg : w.heap.size ≤ g) (hgx : g < X.heap.size) (hz : HAt V g 0 h0) (hno : b = false → x = ⟨false, R.L, R.hs⟩) (hr : b = true → ∃ L', OwnK 36 X.heap.size V v L' ∧ laceB L' = true ∧ R.L.length ≤ L'.length ∧ HdOk L'.length h ∧ x = ⟨true, L', upd R.hs i h⟩) :
    TRes R x i w (set4 V g 0 h) v g h b := by
  have hB := (hw.trans (hX.mono hw.size)).trans (hV.mono (Nat.le_trans hw.size hX.size))
  have hf := set4_fr V g 0 h
  refine ⟨hB.trans (hf.toBelow hB.size (fun x hx => by subst hx; exact hg)), set4_at hz, hg, hno, fun e => ?_⟩
  obtain ⟨L', ho, h1, h2, h3, h4⟩ := hr e
  exact ⟨L', own_base (own_fr hf ho.1 (fun y hy e => by have := (World.ownsRow.lt ho.1 y hy).1; omega)) (Nat.le_trans hw.size hX.size), h1, h2, h3, h4⟩

theorem kA' {W V : World} (h : Below W.drew.heap.size W.drew V) : Below W.heap.size W V := ⟨h.os, h.tape, h.output, h.size, h.block⟩
theorem kB' {W V : World} {o : Obj} (h : Below (W.drew.alloc o).heap.size (W.drew.alloc o) V) : Below W.heap.size W V := kA' (((Below.refl _ W.drew).alloc (Nat.le_refl _) o).trans (h.mono (by simp)))
theorem kC' {W V : World} {o : Obj} (h : Below (W.alloc o).drew.heap.size (W.alloc o).drew V) : Below W.heap.size W V := ((Below.refl _ W).alloc (Nat.le_refl _) o).trans ((kA' h).mono (by simp))
theorem keepH {W V : World} {t : TypeId} (h : Below (W.drew.alloc (.cells #[.int .i64 0, .int .i64 0, .int .i64 0, .int .i64 0] t)).heap.size (W.drew.alloc (.cells #[.int .i64 0, .int .i64 0, .int .i64 0, .int .i64 0] t)) V) : HAt V W.heap.size 0 ⟨0, 0, 0, 0⟩ := hat_below (hat_new W.drew ⟨0, 0, 0, 0⟩ t) h
theorem keepH' {W V : World} {t : TypeId} (h : Below (W.alloc (.cells #[.int .i64 0, .int .i64 0, .int .i64 0, .int .i64 0] t)).drew.heap.size (W.alloc (.cells #[.int .i64 0, .int .i64 0, .int .i64 0, .int .i64 0] t)).drew V) : HAt V W.heap.size 0 ⟨0, 0, 0, 0⟩ := hat_below (hat_drew (hat_new W ⟨0, 0, 0, 0⟩ t)) h

set_option maxHeartbeats 6400000 in
theorem doTie (B p : Nat) (R : Ro) (a : Ac) (w : World) (hr : RoAt B w p R) (hk : a.kind = 1) (hg : goodB R a = true) (hwd : a.word.size ≤ 1099511627776) (x : Out) (HX : Hid (x = tieOut R.L R.hs a.who.toNat a.word)) : Calls Tryz.prog 114 #[.pointer (some ⟨p, 0, none⟩), acV a] w (DoPost B p R x w) := by
  obtain ⟨kind, who, knot, round, frm, word⟩ := a
  obtain rfl : kind = 1 := hk
  have P0 : Hid (DoBeg B p R ⟨1, who, knot, round, frm, word⟩ w (w.alloc (acO ⟨1, who, knot, round, frm, word⟩))) := dobeg _ hr
  have HR : Hid (RoAt B w p R) := hr
  unfold goodB at hg
  rw [Bool.and_eq_true] at hg
  have hcall := in3_call who true hg.1
  have hw3 := (in3_iff who).1 hg.1
  have hq1 : (who != R.bad) = true := hg.2
  clear hr hg
  obtain ⟨i, rfl⟩ := Int.eq_ofNat_of_zero_le hw3.1
  simp only [Int.toNat_natCast] at HX
  have hi : i < 4 := by omega
  have hi4 : (i : Int) < 4 := by omega
  go_enter Tryz.func114, Tryz.ntmps114
  go_wp2_with fail
  generalize w.alloc (acO ⟨1, (i : Int), knot, round, frm, word⟩) = W at P0 ⊢
  obtain ⟨hB, hro, hlt, a0, a1, a2, a3, a4, a5⟩ := P0.out
  have c2 := hro.c2
  have c3 := hro.c3
  have hcap := hro.parts.cap
  obtain ⟨_, x0, x1, x2, x3, f0, f1, f2, f3⟩ := hro.parts.hands i hi
  have HB : Hid (Below w.heap.size w W) := hB
  have HH : Hid (HAt W R.gh (i * 4) (R.hs i)) := hro.parts.hands i hi
  have HOK : Hid (HdOk R.L.length (R.hs i)) := hro.parts.hok i hi
  clear hro hB
  go_quiet (first | (go_at_call 47; exact (hcall _).mono fun _ _ h => ⟨h.1, _, h.2⟩))
  go_wp2_with fail
  go_quiet (fail)
  go_upto_region 14 with fail
  generalize hN : W.drewN _ = W1
  have P1 : Hid (DoBeg B p R ⟨1, (i : Int), knot, round, frm, word⟩ w W1) := hN ▸ dobeg_drewN P0.out _
  clear hN P0 a0 a1 a2 a3 a4 a5 c2 c3 x0 x1 x2 x3 f0 f1 f2 f3 HB HH hcall hlt
  have hpl := P1.out.ro.lt
  have hlt := P1.out.lt
  have a5 := P1.out.a5
  obtain ⟨hgl, x0, x1, x2, x3, _, _, _, _⟩ := P1.out.ro.parts.hands i hi
  obtain ⟨ao, cap, hlv, ho, hz, hcp, hrd, _⟩ := own_lace P1.out.ro.parts.own
  have c0 := P1.out.ro.c0
  rw [hlv] at c0
  have HCT : Hid (∀ X : World, Below W1.heap.size W1 X → Calls Tryz.prog 68 #[.slice ao R.L.length cap, .agg #[.int .i64 (R.hs i).who, .int .i64 (R.hs i).has, .int .i64 (R.hs i).kept, .int .i64 (R.hs i).last], .string word] X (TieForm R x i X)) := fun X hX =>
    (l14Tie ao cap R.L (R.hs i) word X ho hz hcp P1.out.ro.parts.lace (hrd.below hX) HOK.out hwd).mono fun _ _ y => tie_form HX.out P1.out.ro.parts.lace HOK.out y
  clear hrd ho hz hcp hcap hwd hlv
  go_cut [8, 9, 10] (fun lv' hp is wx => ∃ (hb : Nat) (h : Hd) (b : Bool), hp = .pointer (some ⟨hb, 0, none⟩) ∧ is = .bool b ∧ Hid (TRes R x i w wx lv' hb h b))
  case first =>
    have HSB : Hid (∀ X : World, Below W1.heap.size W1 X → X.cell? ⟨p, 0, none⟩ = some (.slice ao R.L.length cap) ∧ X.cell? ⟨R.gh, i * 4, none⟩ = some (.int .i64 (R.hs i).who) ∧ X.cell? ⟨R.gh, i * 4 + 1, none⟩ = some (.int .i64 (R.hs i).has) ∧ X.cell? ⟨R.gh, i * 4 + 2, none⟩ = some (.int .i64 (R.hs i).kept) ∧ X.cell? ⟨R.gh, i * 4 + 3, none⟩ = some (.int .i64 (R.hs i).last) ∧ X.cell? ⟨w.heap.size, 5, none⟩ = some (.string word)) := fun X hX =>
      ⟨(hX.cell (p := ⟨p, 0, none⟩) hpl).trans c0, (hX.cell (p := ⟨R.gh, i * 4, none⟩) hgl).trans x0, (hX.cell (p := ⟨R.gh, i * 4 + 1, none⟩) hgl).trans x1, (hX.cell (p := ⟨R.gh, i * 4 + 2, none⟩) hgl).trans x2, (hX.cell (p := ⟨R.gh, i * 4 + 3, none⟩) hgl).trans x3, (hX.cell (p := ⟨w.heap.size, 5, none⟩) hlt).trans a5⟩
    go_region_held3 (fun X => X.cell? ⟨p, 0, none⟩ = some (.slice ao R.L.length cap) ∧ X.cell? ⟨R.gh, i * 4, none⟩ = some (.int .i64 (R.hs i).who) ∧ X.cell? ⟨R.gh, i * 4 + 1, none⟩ = some (.int .i64 (R.hs i).has) ∧ X.cell? ⟨R.gh, i * 4 + 2, none⟩ = some (.int .i64 (R.hs i).kept) ∧ X.cell? ⟨R.gh, i * 4 + 3, none⟩ = some (.int .i64 (R.hs i).last) ∧ X.cell? ⟨w.heap.size, 5, none⟩ = some (.string word)) (first
      | exact HSB.out _ (B1.alloc B1.size _)
      | exact HSB.out _ B1
      | exact HSB.out _ ((((B1.setCell (p := ⟨W1.heap.size, 0, none⟩) (Nat.le_refl _) _).setCell (p := ⟨W1.heap.size, 1, none⟩) (Nat.le_refl _) _).setCell (p := ⟨W1.heap.size, 2, none⟩) (Nat.le_refl _) _).setCell (p := ⟨W1.heap.size, 3, none⟩) (Nat.le_refl _) _)
      | exact HSB.out _ (Below.refl _ _).drew
      | exact HSB.out _ ((Below.refl _ _).alloc (Nat.le_refl _) _).drew
      | exact HSB.out _ ((Below.refl _ _).drew.alloc (Nat.le_refl _) _)
      | go_keep) (first
      | (go_at_call 68
         refine (HCT.out _ (by first | exact (Below.refl _ _).drew | exact ((Below.refl _ _).alloc (Nat.le_refl _) _).drew | exact (Below.refl _ _).drew.alloc (Nat.le_refl _) _)).mono ?_
         rintro e V1 ⟨v, h, b, rfl, b1, hno, hres⟩
         (first | have HZ := keepH b1 | have HZ := keepH' b1 | skip)
         (first | (have z0 := HZ.c0; have z1 := HZ.c1; have z2 := HZ.c2; have z3 := HZ.c3; have g0 := HZ.f0; have g1 := HZ.f1; have g2 := HZ.f2; have g3 := HZ.f3; simp only [Nat.zero_add] at z1 z2 z3 g1 g2 g3) | skip)
         (first | have B1 : Below W1.heap.size W1 V1 := kC' b1 | have B1 : Below W1.heap.size W1 V1 := kB' b1 | have B1 : Below W1.heap.size W1 V1 := kA' b1)))
    all_goals (go_wp2_with fail)
    all_goals go_meet
    all_goals
      first
        | exact ⟨_, h, b, rfl, rfl, tresA P1.out.bel (Below.refl _ _).drew b1 hno hres _⟩
        | exact ⟨_, h, b, rfl, rfl, tresB (X := (W1.alloc _).drew) P1.out.bel ((Below.refl _ _).alloc (Nat.le_refl _) _).drew b1 P1.out.bel.size (by simp) HZ hno hres⟩
        | exact ⟨_, h, b, rfl, rfl, tresB (X := W1.drew.alloc _) P1.out.bel ((Below.refl _ _).drew.alloc (Nat.le_refl _) _) b1 P1.out.bel.size (by simp) HZ hno hres⟩
  case rest =>
    obtain ⟨hb, h, b, rfl, rfl, HT⟩ := hcut
    generalize u8 = v at HT ⊢
    clear HCT c0 x0 x1 x2 x3 a5 hpl hlt hgl P1
    cases b
    · go_wp2
      go_ret
      exact do_same false (HT.out.no rfl) HR.out HT.out.bel
    · obtain ⟨L', hown, hl', hlen, hok, hxx⟩ := HT.out.res rfl
      obtain ⟨ao', cap', hv, _⟩ := own_lace hown
      subst hv
      have HF : Hid (DoPost B p R x w (.returned (.bool true)) (set4 (wc.setCell ⟨p, 0, none⟩ (.slice ao' L'.length cap')) R.gh (i * 4) h)) := tie_fin hxx hi HR.out HT.out.bel hown hl' hlen hok
      have hRO := roat_below HR.out HT.out.bel
      have hRO1 := roat_lace L' _ HR.out HT.out.bel hown hl' hlen
      have hne : hb ≠ p := fun e => by have := HT.out.gt; have := HR.out.lt; omega
      have HA : Hid (HAt (wc.setCell ⟨p, 0, none⟩ (.slice ao' L'.length cap')) hb 0 h) := hat_other HT.out.hh hne _
      have HB1 : Hid (HAt (wc.setCell ⟨p, 0, none⟩ (.slice ao' L'.length cap')) R.gh (i * 4) (R.hs i)) := hRO1.parts.hands i hi
      have c0 := hRO.c0
      have f0 := hRO.f0
      clear hRO hRO1 hown hl' hlen hok hxx HT HOK
      go_upto_region 18 with fail
      generalize wc.setCell ⟨p, 0, none⟩ (.slice ao' L'.length cap') = W2 at HF HA HB1 ⊢
      clear c0 f0
      obtain ⟨_, y0, y1, y2, y3, _, _, _, _⟩ := HA.out
      obtain ⟨_, x0, x1, x2, x3, g0, g1, g2, g3⟩ := HB1.out
      simp only [Nat.zero_add] at y1 y2 y3
      go_wp2
      go_ret
      exact HF.out

end Rm
end Go.Proofs.YtfjmenhofllchaaGreatDoor
