/-
  What one act does in a room, where it is a keeping, a forgetting, or nothing: the room stays one; nothing else is changed.
-/
import Derived.Test.YtfjmenhofllchaaGreatDoorRoomF
import Derived.Test.YtfjmenhofllchaaGreatDoorRoomG
import Derived.Test.YtfjmenhofllchaaGreatDoorFam
import Derived.Deep.QuietTactic
import Derived.BigQuiet
import Derived.BigRegion
import Derived.Deep.DeepCutAuto
namespace Go.Proofs.YtfjmenhofllchaaGreatDoor
open Go.RowKit
set_option maxRecDepth 100000
namespace Rm
open Kn (K okK in3)
open Sg (orB belows)
open Lc (at' RdK laceB takesB flat OwnK CellsK cellsOf)

/-- an act's six values -/
structure Ac where
  kind : Int
  who : Int
  knot : Int
  round : Int
  frm : Int
  word : ByteArray

abbrev acV (a : Ac) : Value := .agg #[.int .i64 a.kind, .int .i64 a.who, .int .i64 a.knot, .int .i64 a.round, .int .i64 a.frm, .string a.word]
abbrev acO (a : Ac) : Obj := .cells #[.int .i64 a.kind, .int .i64 a.who, .int .i64 a.knot, .int .i64 a.round, .int .i64 a.frm, .string a.word] 137

/-- what comes out of an act: is it done, the lace, the hands -/
structure Out where
  done : Bool
  L : List K
  hs : Nat → Hd

/-- how an act ends -/
def DoPost (B p : Nat) (R : Ro) (x : Out) (w : World) (e : Ending) (w' : World) : Prop :=
  ∃ R' : Ro, e = .returned (.bool x.done) ∧ RoAt B w' p R' ∧ R'.gh = R.gh ∧ (R'.bad = R.bad ∧ R'.cv = R.cv ∧ R'.L = x.L ∧ R'.hs = x.hs) ∧ Fr (roS p R) w w' ∧ ∀ g, R'.lv.ownBlock = some g → R.lv.ownBlock = some g ∨ w.heap.size ≤ g

theorem do_same {B p : Nat} {R : Ro} {x : Out} {w w' : World} (b : Bool) (hx : x = ⟨b, R.L, R.hs⟩) (hr : RoAt B w p R) (hb : Below w.heap.size w w') : DoPost B p R x w (.returned (.bool b)) w' := by
  subst hx
  exact ⟨R, rfl, roat_below hr hb, rfl, ⟨rfl, rfl, rfl, rfl⟩, Fr.of_below hb _, fun _ hg => .inl hg⟩

/-- where an act begins -/
structure DoBeg (B p : Nat) (R : Ro) (a : Ac) (w W : World) : Prop where
  bel : Below w.heap.size w W
  ro : RoAt B W p R
  lt : w.heap.size < W.heap.size
  a0 : W.cell? ⟨w.heap.size, 0, none⟩ = some (.int .i64 a.kind)
  a1 : W.cell? ⟨w.heap.size, 1, none⟩ = some (.int .i64 a.who)
  a2 : W.cell? ⟨w.heap.size, 2, none⟩ = some (.int .i64 a.knot)
  a3 : W.cell? ⟨w.heap.size, 3, none⟩ = some (.int .i64 a.round)
  a4 : W.cell? ⟨w.heap.size, 4, none⟩ = some (.int .i64 a.frm)
  a5 : W.cell? ⟨w.heap.size, 5, none⟩ = some (.string a.word)

theorem dobeg {B p : Nat} {R : Ro} (a : Ac) {w : World} (hr : RoAt B w p R) : DoBeg B p R a w (w.alloc (acO a)) :=
  ⟨(Below.refl _ _).alloc (Nat.le_refl _) _, roat_below hr ((Below.refl _ _).alloc (Nat.le_refl _) _), by simp, by simp, by simp, by simp, by simp, by simp, by simp⟩

theorem in3_call (x : Int) (b : Bool) (h : in3 x = b) (V : World) : Calls Tryz.prog 47 #[.int .i64 x, .int .i64 0, .int .i64 3] V fun e w' => e = .returned (.bool b) ∧ w' = V := by
  refine (Kn.l1In3 x V).mono ?_
  rintro e w' ⟨rfl, rfl⟩
  exact ⟨by rw [h], rfl⟩

theorem in3_iff (x : Int) : in3 x = true ↔ 0 ≤ x ∧ x ≤ 3 := by unfold in3; simp

/-- is it one of a right hand that is not bad? -/
def goodB (R : Ro) (a : Ac) : Bool := in3 a.who && (a.who != R.bad)

set_option maxHeartbeats 1600000 in
theorem doNot (B p : Nat) (R : Ro) (a : Ac) (w : World) (hr : RoAt B w p R) (hk : a.kind ≠ 5) (hg : goodB R a = false) (x : Out) (HX : Hid (x = ⟨false, R.L, R.hs⟩)) : Calls Tryz.prog 114 #[.pointer (some ⟨p, 0, none⟩), acV a] w (DoPost B p R x w) := by
  have P0 : Hid (DoBeg B p R a w (w.alloc (acO a))) := dobeg a hr
  have HR : Hid (RoAt B w p R) := hr
  have hk5 : (a.kind == 5) = false := by simpa using hk
  clear hr hk
  cases hin : in3 a.who
  · have hcall := in3_call a.who false hin
    clear hin hg
    go_enter Tryz.func114, Tryz.ntmps114
    go_wp2_with fail
    generalize w.alloc (acO a) = W at P0 ⊢
    obtain ⟨hB, hro, hlt, a0, a1, a2, a3, a4, a5⟩ := P0.out
    have c3 := hro.c3
    have HB : Hid (Below w.heap.size w W) := hB
    clear hro hB P0
    go_quiet (first | (go_at_call 47; exact (hcall _).mono fun _ _ h => ⟨h.1, _, h.2⟩))
    go_wp2
    go_ret
    exact do_same false HX.out HR.out (Lc.below_drewN' HB.out _)
  · have hcall := in3_call a.who true hin
    have hq : a.who = R.bad := by unfold goodB at hg; rw [hin] at hg; simpa using hg
    have hq1 : (a.who != R.bad) = false := by simpa using hq
    clear hin hg hq
    go_enter Tryz.func114, Tryz.ntmps114
    go_wp2_with fail
    generalize w.alloc (acO a) = W at P0 ⊢
    obtain ⟨hB, hro, hlt, a0, a1, a2, a3, a4, a5⟩ := P0.out
    have c3 := hro.c3
    have HB : Hid (Below w.heap.size w W) := hB
    clear hro hB P0
    go_quiet (first | (go_at_call 47; exact (hcall _).mono fun _ _ h => ⟨h.1, _, h.2⟩))
    go_wp2
    go_ret
    exact do_same false HX.out HR.out (Lc.below_drewN' HB.out _)

/-- a hand is changed -/
def upd (hs : Nat → Hd) (i : Nat) (h : Hd) : Nat → Hd := fun j => if j = i then h else hs j
def putH (R : Ro) (i : Nat) (h : Hd) : Ro := { R with hs := upd R.hs i h }

theorem do_hand {B p : Nat} {R : Ro} {x : Out} {w w' : World} (b : Bool) (i : Nat) (h : Hd) (hx : x = ⟨b, R.L, upd R.hs i h⟩) (hok : HdOk R.L.length h) (hr : RoAt B w p R) (hf : Fr (fun x => x = R.gh) w w') (hh : ∀ j, j < 4 → HAt w' R.gh (j * 4) ((putH R i h).hs j)) : DoPost B p R x w (.returned (.bool b)) w' := by
  subst hx
  have hn : p ≠ R.gh := hr.n1
  refine ⟨putH R i h, rfl, ⟨Nat.lt_of_lt_of_le hr.lt hf.size, hr.pB, (hf.cell (p := ⟨p, 0, none⟩) hr.lt hn).trans hr.c0, (hf.cell (p := ⟨p, 1, none⟩) hr.lt hn).trans hr.c1, (hf.cell (p := ⟨p, 2, none⟩) hr.lt hn).trans hr.c2, (hf.cell (p := ⟨p, 3, none⟩) hr.lt hn).trans hr.c3, (hf.frozen (p := ⟨p, 0, none⟩) hr.lt hn).trans hr.f0, ?_, hr.n1, hr.n2⟩, rfl, ⟨rfl, rfl, rfl, rfl⟩, hf.mono (fun x hx _ => .inr (.inl hx)), fun _ hg => .inl hg⟩
  refine ⟨own_fr hf hr.parts.own (fun g hg e => hr.parts.ne (by rw [← e]; exact hg)), hr.parts.lace, hh, fun j hj => ?_, hr.parts.gB, hr.parts.cap, hr.parts.ne⟩
  show HdOk R.L.length (if j = i then h else R.hs j)
  split
  · exact hok
  · exact hr.parts.hok j hj

theorem hat_far {w : World} {g o o' j : Nat} {h : Hd} (x : HAt w g o h) (hj : j < 4) (hn : o + 4 ≤ o' ∨ o' + 4 ≤ o) (u : Value) : HAt (w.setCell ⟨g, o' + j, none⟩ u) g o h := by
  have hne : ∀ c, c < 4 → (⟨g, o' + j, none⟩ : Addr) ≠ ⟨g, o + c, none⟩ := fun c hc e => by injection e with _ e; omega
  exact ⟨by simpa using x.lt, (World.cell?_setCell_other _ _ _ _ (hne 0 (by omega))).trans x.c0, (World.cell?_setCell_other _ _ _ _ (hne 1 (by omega))).trans x.c1, (World.cell?_setCell_other _ _ _ _ (hne 2 (by omega))).trans x.c2, (World.cell?_setCell_other _ _ _ _ (hne 3 (by omega))).trans x.c3, by simpa using x.f0, by simpa using x.f1, by simpa using x.f2, by simpa using x.f3⟩

theorem hat_drewN {w : World} {g o : Nat} {h : Hd} (x : HAt w g o h) (n : Nat) : HAt (w.drewN n) g o h := ⟨x.lt, x.c0, x.c1, x.c2, x.c3, x.f0, x.f1, x.f2, x.f3⟩

/-- one number of one hand is written -/
theorem do_put {B p : Nat} {R : Ro} {x : Out} {w V : World} (b : Bool) (i : Nat) (h : Hd) (hx : x = ⟨b, R.L, upd R.hs i h⟩) (hok : HdOk R.L.length h) (hr : RoAt B w p R) (hb : Below w.heap.size w V) (c : Nat) (hc : c < 4) (u : Value) (hh : HAt (V.setCell ⟨R.gh, i * 4 + c, none⟩ u) R.gh (i * 4) h) : DoPost B p R x w (.returned (.bool b)) (V.setCell ⟨R.gh, i * 4 + c, none⟩ u) := by
  refine do_hand b i h hx hok hr ((Fr.of_below hb _).trans (Fr.set V ⟨R.gh, i * 4 + c, none⟩ u) (fun x hx _ => hx)) (fun j hj => ?_)
  show HAt _ R.gh (j * 4) (if j = i then h else R.hs j)
  split
  · rename_i e; subst e; exact hh
  · exact hat_far (hat_below (hr.parts.hands j hj) hb) hc (by omega) u

set_option maxHeartbeats 1600000 in
theorem doKeep (B p : Nat) (R : Ro) (a : Ac) (w : World) (hr : RoAt B w p R) (hk : a.kind = 3) (hg : goodB R a = true) (x : Out) (HX : Hid (x = ⟨true, R.L, upd R.hs a.who.toNat { R.hs a.who.toNat with kept := (R.hs a.who.toNat).has }⟩)) : Calls Tryz.prog 114 #[.pointer (some ⟨p, 0, none⟩), acV a] w (DoPost B p R x w) := by
  obtain ⟨kind, who, knot, round, frm, word⟩ := a
  obtain rfl : kind = 3 := hk
  have P0 : Hid (DoBeg B p R ⟨3, who, knot, round, frm, word⟩ w (w.alloc (acO ⟨3, who, knot, round, frm, word⟩))) := dobeg _ hr
  have HR : Hid (RoAt B w p R) := hr
  unfold goodB at hg
  rw [Bool.and_eq_true] at hg
  have hcall := in3_call who true hg.1
  have hw3 := (in3_iff who).1 hg.1
  have hq1 : (who != R.bad) = true := hg.2
  clear hr hg
  obtain ⟨i, rfl⟩ := Int.eq_ofNat_of_zero_le hw3.1
  try simp only [Int.toNat_natCast] at HX
  have hi : i < 4 := by omega
  have hi4 : (i : Int) < 4 := by omega
  go_enter Tryz.func114, Tryz.ntmps114
  go_wp2_with fail
  generalize w.alloc (acO ⟨3, (i : Int), knot, round, frm, word⟩) = W at P0 ⊢
  obtain ⟨hB, hro, hlt, a0, a1, a2, a3, a4, a5⟩ := P0.out
  have c2 := hro.c2
  have c3 := hro.c3
  have hcap := hro.parts.cap
  obtain ⟨_, x0, x1, x2, x3, f0, f1, f2, f3⟩ := hro.parts.hands i hi
  have HB : Hid (Below w.heap.size w W) := hB
  have HH : Hid (HAt W R.gh (i * 4) (R.hs i)) := hro.parts.hands i hi
  have HOK : Hid (HdOk R.L.length (R.hs i)) := hro.parts.hok i hi
  clear hro hB P0
  go_quiet (first | (go_at_call 47; exact (hcall _).mono fun _ _ h => ⟨h.1, _, h.2⟩))
  go_wp2_with fail
  go_quiet (fail)
  go_wp2
  go_ret
  exact do_put true i { R.hs i with kept := (R.hs i).has } HX.out ⟨HOK.out.h0, HOK.out.h1, HOK.out.h0, HOK.out.h1, HOK.out.la⟩ HR.out (Lc.below_drewN' HB.out _) 2 (by omega) _ (hat_kept (hat_drewN HH.out _) _)

set_option maxHeartbeats 1600000 in
theorem doForget (B p : Nat) (R : Ro) (a : Ac) (w : World) (hr : RoAt B w p R) (hk : a.kind = 4) (hg : goodB R a = true) (x : Out) (HX : Hid (x = ⟨true, R.L, upd R.hs a.who.toNat { R.hs a.who.toNat with has := (R.hs a.who.toNat).kept }⟩)) : Calls Tryz.prog 114 #[.pointer (some ⟨p, 0, none⟩), acV a] w (DoPost B p R x w) := by
  obtain ⟨kind, who, knot, round, frm, word⟩ := a
  obtain rfl : kind = 4 := hk
  have P0 : Hid (DoBeg B p R ⟨4, who, knot, round, frm, word⟩ w (w.alloc (acO ⟨4, who, knot, round, frm, word⟩))) := dobeg _ hr
  have HR : Hid (RoAt B w p R) := hr
  unfold goodB at hg
  rw [Bool.and_eq_true] at hg
  have hcall := in3_call who true hg.1
  have hw3 := (in3_iff who).1 hg.1
  have hq1 : (who != R.bad) = true := hg.2
  clear hr hg
  obtain ⟨i, rfl⟩ := Int.eq_ofNat_of_zero_le hw3.1
  try simp only [Int.toNat_natCast] at HX
  have hi : i < 4 := by omega
  have hi4 : (i : Int) < 4 := by omega
  go_enter Tryz.func114, Tryz.ntmps114
  go_wp2_with fail
  generalize w.alloc (acO ⟨4, (i : Int), knot, round, frm, word⟩) = W at P0 ⊢
  obtain ⟨hB, hro, hlt, a0, a1, a2, a3, a4, a5⟩ := P0.out
  have c2 := hro.c2
  have c3 := hro.c3
  have hcap := hro.parts.cap
  obtain ⟨_, x0, x1, x2, x3, f0, f1, f2, f3⟩ := hro.parts.hands i hi
  have HB : Hid (Below w.heap.size w W) := hB
  have HH : Hid (HAt W R.gh (i * 4) (R.hs i)) := hro.parts.hands i hi
  have HOK : Hid (HdOk R.L.length (R.hs i)) := hro.parts.hok i hi
  clear hro hB P0
  go_quiet (first | (go_at_call 47; exact (hcall _).mono fun _ _ h => ⟨h.1, _, h.2⟩))
  go_wp2_with fail
  go_quiet (fail)
  go_wp2
  go_ret
  exact do_put true i { R.hs i with has := (R.hs i).kept } HX.out ⟨HOK.out.k0, HOK.out.k1, HOK.out.k0, HOK.out.k1, HOK.out.la⟩ HR.out (Lc.below_drewN' HB.out _) 1 (by omega) _ (hat_has (hat_drewN HH.out _) _)

set_option maxHeartbeats 1600000 in
theorem doElse (B p : Nat) (R : Ro) (a : Ac) (w : World) (hr : RoAt B w p R) (h1 : a.kind ≠ 1) (h2 : a.kind ≠ 2) (h3 : a.kind ≠ 3) (h4 : a.kind ≠ 4) (h5 : a.kind ≠ 5) (hg : goodB R a = true) (x : Out) (HX : Hid (x = ⟨false, R.L, R.hs⟩)) : Calls Tryz.prog 114 #[.pointer (some ⟨p, 0, none⟩), acV a] w (DoPost B p R x w) := by
  obtain ⟨kind, who, knot, round, frm, word⟩ := a
  have q1 : (kind == 1) = false := by simpa using h1
  have q2 : (kind == 2) = false := by simpa using h2
  have q3 : (kind == 3) = false := by simpa using h3
  have q4 : (kind == 4) = false := by simpa using h4
  have q5 : (kind == 5) = false := by simpa using h5
  clear h1 h2 h3 h4 h5
  have P0 : Hid (DoBeg B p R ⟨kind, who, knot, round, frm, word⟩ w (w.alloc (acO ⟨kind, who, knot, round, frm, word⟩))) := dobeg _ hr
  have HR : Hid (RoAt B w p R) := hr
  unfold goodB at hg
  rw [Bool.and_eq_true] at hg
  have hcall := in3_call who true hg.1
  have hw3 := (in3_iff who).1 hg.1
  have hq1 : (who != R.bad) = true := hg.2
  clear hr hg
  obtain ⟨i, rfl⟩ := Int.eq_ofNat_of_zero_le hw3.1
  try simp only [Int.toNat_natCast] at HX
  have hi : i < 4 := by omega
  have hi4 : (i : Int) < 4 := by omega
  go_enter Tryz.func114, Tryz.ntmps114
  go_wp2_with fail
  generalize w.alloc (acO ⟨kind, (i : Int), knot, round, frm, word⟩) = W at P0 ⊢
  obtain ⟨hB, hro, hlt, a0, a1, a2, a3, a4, a5⟩ := P0.out
  have c2 := hro.c2
  have c3 := hro.c3
  have hcap := hro.parts.cap
  obtain ⟨_, x0, x1, x2, x3, f0, f1, f2, f3⟩ := hro.parts.hands i hi
  have HB : Hid (Below w.heap.size w W) := hB
  clear hro hB P0
  go_quiet (first | (go_at_call 47; exact (hcall _).mono fun _ _ h => ⟨h.1, _, h.2⟩))
  go_wp2_with fail
  go_quiet (fail)
  go_wp2
  go_ret
  exact do_same false HX.out HR.out (Lc.below_drewN' HB.out _)

end Rm
end Go.Proofs.YtfjmenhofllchaaGreatDoor
