/-
 What the program's face over owners answers to what gives up behind it.
-/
import Derived.Test.YtfjmenhofllchaaGreatDoorQag15
import Derived.RegionDies
set_option linter.unusedVariables false
namespace Go.Proofs.YtfjmenhofllchaaGreatDoor
open Go.RowKit
set_option maxRecDepth 100000
set_option linter.unusedVariables false
namespace Rm
open Kn (K okK)
open Lc (at' RdK laceB WordsOk handsN roundS)
open Sg (bel belows closedTo orB)
set_option maxHeartbeats 800000 in
theorem catchK_panicking (p q r : Nat) (k : K) (v2 : Value) (u : TypeId) (pv : Value) (older : List PanicEntry) (w : World) (hqr : q ≠ r) (hk : KnAt w p k) (hz : Kn.Zero q w) (hr : w.cell? ⟨r, 0, none⟩ = some v2) (fr : w.frozen? ⟨r, 0, none⟩ = false) :
   CallsD Tryz.prog 103 #[.pointer (some ⟨p, 0, none⟩), .pointer (some ⟨q, 0, none⟩), .pointer (some ⟨r, 0, none⟩)] (.panicking ({ v := .iface u pv, recovered := false } :: older)) w fun e u' w' =>
     e = .returned (.tuple #[]) ∧ u' = .panicking ({ v := .iface u pv, recovered := true } :: older) ∧ w' = ((((w.setCell ⟨q, 0, none⟩ (.int .i64 k.hand)).setCell ⟨q, 1, none⟩ (.int .i64 k.round)).setCell ⟨q, 2, none⟩ (.int .i64 k.frm)).setCell ⟨q, 3, none⟩ (.string k.word)).setCell ⟨r, 0, none⟩ (.bool false) := by
 obtain ⟨_, k0, k1, k2, k3⟩ := hk
 obtain ⟨z0, z1, z2, z3⟩ := zeroQc hz
 obtain ⟨f0, f1, f2, f3⟩ := zeroQf hz
 have hn : ∀ i : Nat, (⟨q, i, none⟩ : Addr) ≠ ⟨r, 0, none⟩ := fun i e => hqr (by injection e)
 have hr2 : ((((w.setCell ⟨q, 0, none⟩ (.int .i64 k.hand)).setCell ⟨q, 1, none⟩ (.int .i64 k.round)).setCell ⟨q, 2, none⟩ (.int .i64 k.frm)).setCell ⟨q, 3, none⟩ (.string k.word)).cell? ⟨r, 0, none⟩ = some v2 := by
   rw [World.cell?_setCell_other _ _ _ _ (hn 3), World.cell?_setCell_other _ _ _ _ (hn 2), World.cell?_setCell_other _ _ _ _ (hn 1), World.cell?_setCell_other _ _ _ _ (hn 0)]; exact hr
 refine callsD_of_wpS Tryz.func103 rfl fun c₀ cs hu => ?_
 apply wpS_seq
 apply wpS_region
 simp [wpOpsS, go_sem, recoverD, hu, Tryz.ntmps103, Exit.thenS]
 refine wpS_cond (t := true) (by simp [Act.eval, Array.replicate]) ?_
 simp only [if_true]
 apply wpS_region
 simp [wpOpsS, go_sem, k0, k1, k2, k3, z0, z1, z2, z3, f0, f1, f2, f3, hr2, fr, bodyPostS, results, Tryz.results103]
theorem catchK_idle (p q r : Value) (w : World) :
   CallsD Tryz.prog 103 #[p, q, r] .returning w fun e u' w' => e = .returned (.tuple #[]) ∧ u' = .returning ∧ w' = w := by
 refine callsD_of_wpS Tryz.func103 rfl fun c₀ cs hu => ?_
 apply wpS_seq
 apply wpS_region
 simp [wpOpsS, go_sem, recoverD, hu, Tryz.ntmps103, Exit.thenS]
 refine wpS_cond (t := false) (by simp [Act.eval, Array.replicate]) ?_
 simp only [Bool.false_eq_true, if_false]
 refine wpS_of_wp (wp_skip ?_)
 cases c₀
 simp_all [bodyPostS, results, Tryz.results103]
structure TriK (w W : World) (x : K) : Prop where
 bel : Below w.heap.size w W
 kn : KnAt W w.heap.size x
 ze : Kn.Zero (w.heap.size + 1) W
 c2 : W.cell? ⟨w.heap.size + 1 + 1, 0, none⟩ = some (.bool false)
 f2 : W.frozen? ⟨w.heap.size + 1 + 1, 0, none⟩ = false
theorem TriK.below {w W V : World} {x : K} (q : TriK w W x) (hb : Below W.heap.size W V) : TriK w V x :=
 ⟨q.bel.trans (hb.mono q.bel.size), knat_below q.kn hb, q.ze.below hb, (hb.cell (p := ⟨w.heap.size + 1 + 1, 0, none⟩) (cell_lt q.c2)).trans q.c2, (hb.frozen (p := ⟨w.heap.size + 1 + 1, 0, none⟩) (cell_lt q.c2)).trans q.f2⟩
theorem triK_new (w : World) (x : K) (t0 t1 t2 : TypeId) : TriK w (((w.alloc (.cells #[.int .i64 x.hand, .int .i64 x.round, .int .i64 x.frm, .string x.word] t0)).alloc (.cells #[.int .i64 0, .int .i64 0, .int .i64 0, .string ⟨#[]⟩] t1)).alloc (.cells #[.bool false] t2)) x := by
 have q1 := zeroQ_new (w.alloc (.cells #[.int .i64 x.hand, .int .i64 x.round, .int .i64 x.frm, .string x.word] t0)) t1
 rw [World.size_alloc] at q1
 have b1 : Below (w.alloc (.cells #[.int .i64 x.hand, .int .i64 x.round, .int .i64 x.frm, .string x.word] t0)).heap.size (w.alloc (.cells #[.int .i64 x.hand, .int .i64 x.round, .int .i64 x.frm, .string x.word] t0)) (((w.alloc (.cells #[.int .i64 x.hand, .int .i64 x.round, .int .i64 x.frm, .string x.word] t0)).alloc (.cells #[.int .i64 0, .int .i64 0, .int .i64 0, .string ⟨#[]⟩] t1)).alloc (.cells #[.bool false] t2)) := ((Below.refl _ _).alloc (Nat.le_refl _) _).alloc (by simp) _
 have b2 : Below ((w.alloc (.cells #[.int .i64 x.hand, .int .i64 x.round, .int .i64 x.frm, .string x.word] t0)).alloc (.cells #[.int .i64 0, .int .i64 0, .int .i64 0, .string ⟨#[]⟩] t1)).heap.size ((w.alloc (.cells #[.int .i64 x.hand, .int .i64 x.round, .int .i64 x.frm, .string x.word] t0)).alloc (.cells #[.int .i64 0, .int .i64 0, .int .i64 0, .string ⟨#[]⟩] t1)) (((w.alloc (.cells #[.int .i64 x.hand, .int .i64 x.round, .int .i64 x.frm, .string x.word] t0)).alloc (.cells #[.int .i64 0, .int .i64 0, .int .i64 0, .string ⟨#[]⟩] t1)).alloc (.cells #[.bool false] t2)) := (Below.refl _ _).alloc (Nat.le_refl _) _
 have e2 : (((w.alloc (.cells #[.int .i64 x.hand, .int .i64 x.round, .int .i64 x.frm, .string x.word] t0)).alloc (.cells #[.int .i64 0, .int .i64 0, .int .i64 0, .string ⟨#[]⟩] t1)).alloc (.cells #[.bool false] t2)).cell? ⟨((w.alloc (.cells #[.int .i64 x.hand, .int .i64 x.round, .int .i64 x.frm, .string x.word] t0)).alloc (.cells #[.int .i64 0, .int .i64 0, .int .i64 0, .string ⟨#[]⟩] t1)).heap.size, 0, none⟩ = some (.bool false) := by simp [-World.size_alloc]
 have g2 : (((w.alloc (.cells #[.int .i64 x.hand, .int .i64 x.round, .int .i64 x.frm, .string x.word] t0)).alloc (.cells #[.int .i64 0, .int .i64 0, .int .i64 0, .string ⟨#[]⟩] t1)).alloc (.cells #[.bool false] t2)).frozen? ⟨((w.alloc (.cells #[.int .i64 x.hand, .int .i64 x.round, .int .i64 x.frm, .string x.word] t0)).alloc (.cells #[.int .i64 0, .int .i64 0, .int .i64 0, .string ⟨#[]⟩] t1)).heap.size, 0, none⟩ = false := by simp [-World.size_alloc]
 rw [World.size_alloc, World.size_alloc] at e2 g2
 exact ⟨(((Below.refl _ w).alloc (Nat.le_refl _) _).alloc (by simp) _).alloc (by simp; omega) _, knat_below (knat_new w x t0) b1, q1.below b2, e2, g2⟩
set_option maxHeartbeats 3200000 in
theorem orNoneK (fid : Nat) (eg : ∀ (args : Array Value) (w : World), (callFunc fid args).run Tryz.prog w = .ok (.enter fid args) w) (c0 c1 c2 : Value) (x : K) (R : K → Prop) (N : Prop) (w : World)
   (hask : ∀ V : World, Below w.heap.size w V → Calls Tryz.prog fid #[c0, c1, c2] V fun e V' => ((∃ k, e = .returned (.agg #[.int .i64 k.hand, .int .i64 k.round, .int .i64 k.frm, .string k.word]) ∧ R k) ∨ (Gives e ∧ N)) ∧ Below V.heap.size V V') :
   Calls Tryz.prog 64 #[.agg #[.int .i64 x.hand, .int .i64 x.round, .int .i64 x.frm, .string x.word], .func (.func fid) #[] #[c0, c1, c2]] w fun e w' => ((∃ k, e = .returned (.tuple #[.agg #[.int .i64 k.hand, .int .i64 k.round, .int .i64 k.frm, .string k.word], .bool true]) ∧ R k) ∨ (e = .returned (.tuple #[.agg #[.int .i64 x.hand, .int .i64 x.round, .int .i64 x.frm, .string x.word], .bool false]) ∧ N)) ∧ Below w.heap.size w w' := by
 have hmf : ∀ (fn : Fn) (first cap : Array Value) (w : World), (Instr.makeFunc fn first cap).run Tryz.prog w = .ok (.func fn first cap) w := fun _ _ _ _ => rfl
 have P0 : Hid (TriK w (((w.alloc (.cells #[.int .i64 x.hand, .int .i64 x.round, .int .i64 x.frm, .string x.word] 92)).alloc (.cells #[.int .i64 0, .int .i64 0, .int .i64 0, .string ⟨#[]⟩] 92)).alloc (.cells #[.bool false] 4)) x) := triK_new w x _ _ _
 have HA : Hid (∀ V : World, Below w.heap.size w V → Calls Tryz.prog fid #[c0, c1, c2] V fun e V' => ((∃ k, e = .returned (.agg #[.int .i64 k.hand, .int .i64 k.round, .int .i64 k.frm, .string k.word]) ∧ R k) ∨ (Gives e ∧ N)) ∧ Below V.heap.size V V') := hask
 clear hask
 go_enter_defers Tryz.func64, Tryz.ntmps64
 go_upto_region 2 with fail
 generalize ((w.alloc (.cells #[.int .i64 x.hand, .int .i64 x.round, .int .i64 x.frm, .string x.word] 92)).alloc (.cells #[.int .i64 0, .int .i64 0, .int .i64 0, .string ⟨#[]⟩] 92)).alloc (.cells #[.bool false] 4) = V at P0 ⊢
 have hak := HA.out V P0.out.bel
 go_wp2_with fail
 refine hak.mono ?_
 clear hak
 rintro e w1 ⟨hp, hb1⟩
 have P1 : Hid (TriK w w1 x) := P0.out.below hb1
 have d2 := P1.out.c2
 have f2 := P1.out.f2
 obtain ⟨z0, z1, z2, z3⟩ := zeroQc P1.out.ze
 obtain ⟨g0, g1, g2, g3⟩ := zeroQf P1.out.ze
 clear P0 hb1
 rcases hp with ⟨k, rfl, hR⟩ | ⟨⟨v, rfl⟩, hN⟩
 · obtain ⟨q0, q1, q2, q3⟩ := P1.out.ze.put (.int .i64 k.hand) (.int .i64 k.round) (.int .i64 k.frm) (.string k.word)
   have hne : ∀ i j : Nat, (⟨w.heap.size + 1 + 1, i, none⟩ : Addr) ≠ ⟨w.heap.size + 1, j, none⟩ := fun i j e => absurd e (by simp)
   have m0 := (World.cell?_setCell_other _ ⟨w.heap.size + 1 + 1, 0, none⟩ _ (.bool true) (hne 0 0)).trans q0
   have m1 := (World.cell?_setCell_other _ ⟨w.heap.size + 1 + 1, 0, none⟩ _ (.bool true) (hne 0 1)).trans q1
   have m2 := (World.cell?_setCell_other _ ⟨w.heap.size + 1 + 1, 0, none⟩ _ (.bool true) (hne 0 2)).trans q2
   have m3 := (World.cell?_setCell_other _ ⟨w.heap.size + 1 + 1, 0, none⟩ _ (.bool true) (hne 0 3)).trans q3
   have d2' : ((((w1.setCell ⟨w.heap.size + 1, 0, none⟩ (.int .i64 k.hand)).setCell ⟨w.heap.size + 1, 1, none⟩ (.int .i64 k.round)).setCell ⟨w.heap.size + 1, 2, none⟩ (.int .i64 k.frm)).setCell ⟨w.heap.size + 1, 3, none⟩ (.string k.word)).cell? ⟨w.heap.size + 1 + 1, 0, none⟩ = some (.bool false) := by
     rw [World.cell?_setCell_other _ _ _ _ (by simp), World.cell?_setCell_other _ _ _ _ (by simp), World.cell?_setCell_other _ _ _ _ (by simp), World.cell?_setCell_other _ _ _ _ (by simp)]; exact d2
   have m4 : (((((w1.setCell ⟨w.heap.size + 1, 0, none⟩ (.int .i64 k.hand)).setCell ⟨w.heap.size + 1, 1, none⟩ (.int .i64 k.round)).setCell ⟨w.heap.size + 1, 2, none⟩ (.int .i64 k.frm)).setCell ⟨w.heap.size + 1, 3, none⟩ (.string k.word)).setCell ⟨w.heap.size + 1 + 1, 0, none⟩ (.bool true)).cell? ⟨w.heap.size + 1 + 1, 0, none⟩ = some (.bool true) := World.cell?_setCell_same _ _ _ d2'
   have HE : Hid (Below w.heap.size w (((((w1.setCell ⟨w.heap.size + 1, 0, none⟩ (.int .i64 k.hand)).setCell ⟨w.heap.size + 1, 1, none⟩ (.int .i64 k.round)).setCell ⟨w.heap.size + 1, 2, none⟩ (.int .i64 k.frm)).setCell ⟨w.heap.size + 1, 3, none⟩ (.string k.word)).setCell ⟨w.heap.size + 1 + 1, 0, none⟩ (.bool true))) := (below_set4 P1.out.bel (by omega) _ _ _ _).setCell (p := ⟨w.heap.size + 1 + 1, 0, none⟩) (by simp; omega) _
   clear q0 q1 q2 q3
   go_wp2
   refine leaves_cons (f := 103) (args := #[.pointer (some ⟨w.heap.size, 0, none⟩), .pointer (some ⟨w.heap.size + 1, 0, none⟩), .pointer (some ⟨w.heap.size + 1 + 1, 0, none⟩)]) (by simp) (by simp [go_sem]) ?_
   refine (catchK_idle _ _ _ _).mono ?_
   rintro e u' w'' ⟨rfl, rfl, rfl⟩
   generalize ((((w1.setCell ⟨w.heap.size + 1, 0, none⟩ (.int .i64 k.hand)).setCell ⟨w.heap.size + 1, 1, none⟩ (.int .i64 k.round)).setCell ⟨w.heap.size + 1, 2, none⟩ (.int .i64 k.frm)).setCell ⟨w.heap.size + 1, 3, none⟩ (.string k.word)).setCell ⟨w.heap.size + 1 + 1, 0, none⟩ (.bool true) = W2 at m0 m1 m2 m3 m4 HE ⊢
   simp [Leaves, settle, results, Tryz.results64, go_sem, m0, m1, m2, m3, m4]
   exact ⟨⟨k, ⟨rfl, rfl, rfl, rfl⟩, hR⟩, HE.out⟩
 · obtain ⟨q0, q1, q2, q3⟩ := P1.out.ze.put (.int .i64 x.hand) (.int .i64 x.round) (.int .i64 x.frm) (.string x.word)
   have hne : ∀ i j : Nat, (⟨w.heap.size + 1 + 1, i, none⟩ : Addr) ≠ ⟨w.heap.size + 1, j, none⟩ := fun i j e => absurd e (by simp)
   have m0 := (World.cell?_setCell_other _ ⟨w.heap.size + 1 + 1, 0, none⟩ _ (.bool false) (hne 0 0)).trans q0
   have m1 := (World.cell?_setCell_other _ ⟨w.heap.size + 1 + 1, 0, none⟩ _ (.bool false) (hne 0 1)).trans q1
   have m2 := (World.cell?_setCell_other _ ⟨w.heap.size + 1 + 1, 0, none⟩ _ (.bool false) (hne 0 2)).trans q2
   have m3 := (World.cell?_setCell_other _ ⟨w.heap.size + 1 + 1, 0, none⟩ _ (.bool false) (hne 0 3)).trans q3
   have d2' : ((((w1.setCell ⟨w.heap.size + 1, 0, none⟩ (.int .i64 x.hand)).setCell ⟨w.heap.size + 1, 1, none⟩ (.int .i64 x.round)).setCell ⟨w.heap.size + 1, 2, none⟩ (.int .i64 x.frm)).setCell ⟨w.heap.size + 1, 3, none⟩ (.string x.word)).cell? ⟨w.heap.size + 1 + 1, 0, none⟩ = some (.bool false) := by
     rw [World.cell?_setCell_other _ _ _ _ (by simp), World.cell?_setCell_other _ _ _ _ (by simp), World.cell?_setCell_other _ _ _ _ (by simp), World.cell?_setCell_other _ _ _ _ (by simp)]; exact d2
   have m4 : (((((w1.setCell ⟨w.heap.size + 1, 0, none⟩ (.int .i64 x.hand)).setCell ⟨w.heap.size + 1, 1, none⟩ (.int .i64 x.round)).setCell ⟨w.heap.size + 1, 2, none⟩ (.int .i64 x.frm)).setCell ⟨w.heap.size + 1, 3, none⟩ (.string x.word)).setCell ⟨w.heap.size + 1 + 1, 0, none⟩ (.bool false)).cell? ⟨w.heap.size + 1 + 1, 0, none⟩ = some (.bool false) := World.cell?_setCell_same _ _ _ d2'
   have HE : Hid (Below w.heap.size w (((((w1.setCell ⟨w.heap.size + 1, 0, none⟩ (.int .i64 x.hand)).setCell ⟨w.heap.size + 1, 1, none⟩ (.int .i64 x.round)).setCell ⟨w.heap.size + 1, 2, none⟩ (.int .i64 x.frm)).setCell ⟨w.heap.size + 1, 3, none⟩ (.string x.word)).setCell ⟨w.heap.size + 1 + 1, 0, none⟩ (.bool false))) := (below_set4 P1.out.bel (by omega) _ _ _ _).setCell (p := ⟨w.heap.size + 1 + 1, 0, none⟩) (by simp; omega) _
   clear q0 q1 q2 q3
   go_wp2
   refine leaves_cons (f := 103) (args := #[.pointer (some ⟨w.heap.size, 0, none⟩), .pointer (some ⟨w.heap.size + 1, 0, none⟩), .pointer (some ⟨w.heap.size + 1 + 1, 0, none⟩)]) (by simp) (by simp [go_sem]) ?_
   refine (catchK_panicking _ _ _ x _ _ v [] w1 (by omega) P1.out.kn P1.out.ze d2 f2).mono ?_
   rintro e u' w'' ⟨rfl, rfl, rfl⟩
   generalize ((((w1.setCell ⟨w.heap.size + 1, 0, none⟩ (.int .i64 x.hand)).setCell ⟨w.heap.size + 1, 1, none⟩ (.int .i64 x.round)).setCell ⟨w.heap.size + 1, 2, none⟩ (.int .i64 x.frm)).setCell ⟨w.heap.size + 1, 3, none⟩ (.string x.word)).setCell ⟨w.heap.size + 1 + 1, 0, none⟩ (.bool false) = W2 at m0 m1 m2 m3 m4 HE ⊢
   simp [Leaves, settle, results, Tryz.results64, go_sem, m0, m1, m2, m3, m4]
   exact ⟨hN, HE.out⟩
theorem right_yes {L : List K} {h : Hd} {w w' : World} {e : Ending} (hok : handOkB L h = true) (q : RightPost L h w e w') : ∃ g, e = .returned (.agg #[.slice (some ⟨g, 0, none⟩) L.length L.length, .int .i64 h.who, .int .i64 h.has, .int .i64 h.kept, .int .i64 h.last]) ∧ g < w'.heap.size ∧ RdK w' (some ⟨g, 0, none⟩) L ∧ Below w.heap.size w w' := by
 rcases q with ⟨_, q⟩ | ⟨h2, _⟩
 · exact q
 · rw [hok] at h2; cases h2
theorem right_no {L : List K} {h : Hd} {w w' : World} {e : Ending} (hok : handOkB L h = false) (q : RightPost L h w e w') : Gives e ∧ Below w.heap.size w w' := by
 rcases q with ⟨h2, _⟩ | ⟨_, q⟩
 · rw [hok] at h2; cases h2
 · exact q
set_option maxHeartbeats 3200000 in
theorem draft1 (ao : Option Addr) (lb hb wb cap : Nat) (L : List K) (h : Hd) (word : ByteArray) (a : Addr) (w : World) (hlc : w.cell? ⟨lb, 0, none⟩ = some (.slice ao L.length cap)) (hhc : HAt w hb 0 h) (hwc : w.cell? ⟨wb, 0, none⟩ = some (.string word)) (hla0 : ∀ V : World, Below w.heap.size w V → Calls Tryz.prog 92 #[.slice ao L.length cap] V (Lc.LacePost L V)) (hk : H64 h) (hws : word.size ≤ 1099511627776) (hn : NoH w a) (he : HoldsE w 6) (hf : HoldsE w 7) :
   Calls Tryz.prog 65 #[.pointer (some ⟨lb, 0, none⟩), .pointer (some ⟨hb, 0, none⟩), .pointer (some ⟨wb, 0, none⟩)] w fun e w' => ((∃ k, e = .returned (.agg #[.int .i64 k.hand, .int .i64 k.round, .int .i64 k.frm, .string k.word]) ∧ (draftedB L h word = true ∧ draftedK L h word = k)) ∨ (Gives e ∧ draftedB L h word = false)) ∧ Below w.heap.size w w' := by
 have P0 : Hid (Below w.heap.size w (w.alloc (.cells #[.int .i64 0, .int .i64 0, .int .i64 0, .string ⟨#[]⟩] 92)) ∧ Kn.Zero w.heap.size (w.alloc (.cells #[.int .i64 0, .int .i64 0, .int .i64 0, .string ⟨#[]⟩] 92))) := ⟨(Below.refl _ w).alloc (Nat.le_refl _) _, zeroQ_new w _⟩
 have HDB : Hid (draftedB L h word = (handOkB L h && draftB L (belows L L.length) h.who h.has h.last word)) := rfl
 have HDK : Hid (draftedK L h word = if draftedB L h word then draftK L (belows L L.length) h.who h.has h.last word else ⟨0, 0, 0, ⟨#[]⟩⟩) := rfl
 have HLA : Hid (∀ V : World, Below w.heap.size w V → Calls Tryz.prog 92 #[.slice ao L.length cap] V (Lc.LacePost L V)) := hla0
 have HCC : Hid (w.cell? ⟨lb, 0, none⟩ = some (.slice ao L.length cap) ∧ HAt w hb 0 h ∧ w.cell? ⟨wb, 0, none⟩ = some (.string word)) := ⟨hlc, hhc, hwc⟩
 have HSS : Hid (NoH w a ∧ HoldsE w 6 ∧ HoldsE w 7) := ⟨hn, he, hf⟩
 clear hla0 hlc hhc hwc hn he hf
 go_enter Tryz.func65, Tryz.ntmps65
 go_upto_region 1 with fail
 generalize w.alloc (.cells #[.int .i64 0, .int .i64 0, .int .i64 0, .string ⟨#[]⟩] 92) = V at P0 ⊢
 have HB0 : Hid (Below w.heap.size w V) := P0.out.1
 have HZ0 : Hid (Kn.Zero w.heap.size V) := P0.out.2
 clear P0
 have hVl : V.cell? ⟨lb, 0, none⟩ = some (.slice ao L.length cap) := (HB0.out.cell (p := ⟨lb, 0, none⟩) (cell_lt HCC.out.1)).trans HCC.out.1
 have hVw : V.cell? ⟨wb, 0, none⟩ = some (.string word) := (HB0.out.cell (p := ⟨wb, 0, none⟩) (cell_lt HCC.out.2.2)).trans HCC.out.2.2
 have HVH : Hid (HAt V hb 0 h) := hat_below HCC.out.2.1 HB0.out
 obtain ⟨a0, a1, a2, a3⟩ := cellsH HVH.out
 have HRO : Hid (∀ X : World, Below V.heap.size V X → Calls Tryz.prog 53 #[.slice ao L.length cap, .agg #[.int .i64 h.who, .int .i64 h.has, .int .i64 h.kept, .int .i64 h.last]] X (RightPost L h X)) := fun X hX => rightOwner ao cap L h a X (fun Y hY => HLA.out Y ((HB0.out.trans (hX.mono HB0.out.size)).trans (hY.mono (HB0.out.trans (hX.mono HB0.out.size)).size))) hk ((HSS.out.1.below HB0.out).below hX)
 cases hok : handOkB L h
 · have HF : Hid (draftedB L h word = false) := by show _ = _; rw [HDB.out, hok]; rfl
   have HRN : Hid (∀ X : World, Below V.heap.size V X → Calls Tryz.prog 53 #[.slice ao L.length cap, .agg #[.int .i64 h.who, .int .i64 h.has, .int .i64 h.kept, .int .i64 h.last]] X fun e w' => Gives e ∧ Below V.heap.size V w') := fun X hX => (HRO.out X hX).mono fun _ _ q => ⟨(right_no hok q).1, hX.trans ((right_no hok q).2.mono hX.size)⟩
   clear HRO hok HDB HDK HLA HCC HSS
   go_region_dies
   all_goals refine (HRN.out _ (by first | exact Below.refl _ _ | exact (Below.refl _ _).drew)).mono ?_
   all_goals rintro e w1 ⟨⟨v, rfl⟩, hb1⟩
   all_goals exact ⟨rfl, .inr ⟨⟨_, rfl⟩, HF.out⟩, HB0.out.trans (hb1.mono HB0.out.size)⟩
 · have hi := hand_is hk hok
   have HRY : Hid (∀ X : World, Below V.heap.size V X → Calls Tryz.prog 53 #[.slice ao L.length cap, .agg #[.int .i64 h.who, .int .i64 h.has, .int .i64 h.kept, .int .i64 h.last]] X fun e w' => ∃ g, e = .returned (.agg #[.slice (some ⟨g, 0, none⟩) L.length L.length, .int .i64 h.who, .int .i64 h.has, .int .i64 h.kept, .int .i64 h.last]) ∧ w'.cell? ⟨wb, 0, none⟩ = some (.string word) ∧ Hid (g < w'.heap.size ∧ RdK w' (some ⟨g, 0, none⟩) L ∧ Below V.heap.size V w')) := fun X hX => (HRO.out X hX).mono fun _ W q => by
     obtain ⟨g, e1, e2, e3, e4⟩ := right_yes hok q
     have b := hX.trans (e4.mono hX.size)
     exact ⟨g, e1, (b.cell (p := ⟨wb, 0, none⟩) (cell_lt hVw)).trans hVw, e2, e3, b⟩
   have HDR : Hid (∀ (g : Nat) (X : World), g < X.heap.size ∧ RdK X (some ⟨g, 0, none⟩) L ∧ Below V.heap.size V X → Calls Tryz.prog 66 #[.agg #[.slice (some ⟨g, 0, none⟩) L.length L.length, .int .i64 h.who, .int .i64 h.has, .int .i64 h.kept, .int .i64 h.last], .string word] X (DraftsPost L h word X)) := fun g X q => draft g L.length L h word X hi (Nat.le_refl _) hws q.1 q.2.1 ((HSS.out.2.1.below HB0.out).below q.2.2) ((HSS.out.2.2.below HB0.out).below q.2.2)
   have HDB2 : Hid (draftedB L h word = draftB L (belows L L.length) h.who h.has h.last word) := by show _ = _; rw [HDB.out, hok]; rfl
   clear HRO HLA HCC HSS hi hok HDB
   cases hdb : draftB L (belows L L.length) h.who h.has h.last word
   · have HF : Hid (draftedB L h word = false) := HDB2.out.trans hdb
     have HDN : Hid (∀ (g : Nat) (X : World), g < X.heap.size ∧ RdK X (some ⟨g, 0, none⟩) L ∧ Below V.heap.size V X → Calls Tryz.prog 66 #[.agg #[.slice (some ⟨g, 0, none⟩) L.length L.length, .int .i64 h.who, .int .i64 h.has, .int .i64 h.kept, .int .i64 h.last], .string word] X fun e w' => Gives e ∧ Below V.heap.size V w') := fun g X q => (HDR.out g X q).mono fun e w' z => by
       refine ⟨?_, q.2.2.trans (z.2.mono q.2.2.size)⟩
       rcases z.1 with ⟨z1, _⟩ | ⟨_, z1⟩
       · rw [hdb] at z1; cases z1
       · exact z1
     clear HDR HDB2 hdb HDK
     go_region_dies
     all_goals rename_i K1 hK1
     all_goals refine (HRY.out _ (by first | exact Below.refl _ _ | exact (Below.refl _ _).drew)).mono ?_
     all_goals rintro e w1 ⟨g, rfl, hw1, HG⟩
     all_goals refine hK1 _ _ ?_
     all_goals clear hK1
     all_goals (first
       | (refine wpAny_ready (rs := [3]) (by decide +kernel) (by simp) ?_
          refine AllReady.cons rfl (fun K2 hK2 => ?_) AllReady.nil
          go_simp
          refine hK2 _ _ ?_
          clear hK2)
       | skip)
     all_goals refine wpAny_ready (rs := [4]) (by kernel_rfl) (by simp) ?_
     all_goals refine AllReady.cons rfl (fun K3 hK3 => ?_) AllReady.nil
     all_goals go_simp
     all_goals refine (HDN.out _ _ HG.out).mono ?_
     all_goals rintro e w2 ⟨⟨v, rfl⟩, hb2⟩
     all_goals exact ⟨rfl, .inr ⟨⟨_, rfl⟩, HF.out⟩, HB0.out.trans (hb2.mono HB0.out.size)⟩
   · have HT : Hid (draftedB L h word = true) := HDB2.out.trans hdb
     have HDY : Hid (∀ (g : Nat) (X : World), g < X.heap.size ∧ RdK X (some ⟨g, 0, none⟩) L ∧ Below V.heap.size V X → Calls Tryz.prog 66 #[.agg #[.slice (some ⟨g, 0, none⟩) L.length L.length, .int .i64 h.who, .int .i64 h.has, .int .i64 h.kept, .int .i64 h.last], .string word] X fun e w' => ∃ k, e = .returned (.agg #[.int .i64 k.hand, .int .i64 k.round, .int .i64 k.frm, .string k.word]) ∧ Hid (draftedK L h word = k) ∧ Below V.heap.size V w') := fun g X q => (HDR.out g X q).mono fun e w' z => by
       rcases z.1 with ⟨_, k, z1, z2⟩ | ⟨z1, _⟩
       · exact ⟨k, z2, by show _ = _; rw [HDK.out, HT.out]; exact z1, q.2.2.trans (z.2.mono q.2.2.size)⟩
       · rw [hdb] at z1; cases z1
     clear HDR HDB2 hdb HDK
     go_region_law (first
       | (rw [if_pos (by simp [Region.wanted])]
          go_simp
          go_at_call 53
          refine (HRY.out _ (by first | exact Below.refl _ _ | exact (Below.refl _ _).drew)).mono ?_
          rintro e w1 ⟨g, rfl, hw1, HG⟩)
       | (rw [if_pos (by simp [Region.wanted])]
          go_simp
          go_at_call 66
          refine (HDY.out _ _ HG.out).mono ?_
          rintro e w2 ⟨k, rfl, HK, hb2⟩
          have HZ2 : Hid (Kn.Zero w.heap.size w2) := HZ0.out.below hb2
          obtain ⟨z0, z1, z2, z3⟩ := zeroQc HZ2.out
          obtain ⟨f0, f1, f2, f3⟩ := zeroQf HZ2.out))
     all_goals
       obtain ⟨q0, q1, q2, q3⟩ := HZ2.out.put (.int .i64 k.hand) (.int .i64 k.round) (.int .i64 k.frm) (.string k.word)
       have HBE : Hid _ := below_set4 (HB0.out.trans (hb2.mono HB0.out.size)) (Nat.le_refl w.heap.size) (.int .i64 k.hand) (.int .i64 k.round) (.int .i64 k.frm) (.string k.word)
       go_wp2
       refine bodyPost_ret (v := .agg #[.int .i64 k.hand, .int .i64 k.round, .int .i64 k.frm, .string k.word]) (by simp [results, Tryz.f65, go_sem, q0, q1, q2, q3]) rfl ?_
       exact ⟨.inl ⟨k, rfl, HT.out, HK.out⟩, HBE.out⟩
end Rm
namespace Rm
open Kn (K okK)
open Lc (at' RdK laceB WordsOk handsN roundS)
open Sg (bel belows closedTo orB)
theorem boxes4_new (w : World) (x y : Value) (h : Hd) (t0 t1 t2 t3 : TypeId) : ∃ V, V = (((w.alloc (.cells #[x] t0)).alloc (.cells #[.int .i64 h.who, .int .i64 h.has, .int .i64 h.kept, .int .i64 h.last] t1)).alloc (.cells #[y] t2)).alloc (.cells #[.int .i64 0, .int .i64 0, .int .i64 0, .string ⟨#[]⟩] t3) ∧ Below w.heap.size w V ∧ V.cell? ⟨w.heap.size, 0, none⟩ = some x ∧ HAt V (w.heap.size + 1) 0 h ∧ V.cell? ⟨w.heap.size + 1 + 1, 0, none⟩ = some y ∧ Kn.Zero (w.heap.size + 1 + 1 + 1) V := by
 refine ⟨_, rfl, ?_⟩
 obtain ⟨b0, c0, h0⟩ := boxes_new w x h t0 t1
 have hs : ((w.alloc (.cells #[x] t0)).alloc (.cells #[.int .i64 h.who, .int .i64 h.has, .int .i64 h.kept, .int .i64 h.last] t1)).heap.size = w.heap.size + 1 + 1 := by simp
 generalize (w.alloc (.cells #[x] t0)).alloc (.cells #[.int .i64 h.who, .int .i64 h.has, .int .i64 h.kept, .int .i64 h.last] t1) = W at b0 c0 h0 hs ⊢
 have b1 : Below W.heap.size W ((W.alloc (.cells #[y] t2)).alloc (.cells #[.int .i64 0, .int .i64 0, .int .i64 0, .string ⟨#[]⟩] t3)) := ((Below.refl _ _).alloc (Nat.le_refl _) _).alloc (by simp) _
 have b2 : Below (W.alloc (.cells #[y] t2)).heap.size (W.alloc (.cells #[y] t2)) ((W.alloc (.cells #[y] t2)).alloc (.cells #[.int .i64 0, .int .i64 0, .int .i64 0, .string ⟨#[]⟩] t3)) := (Below.refl _ _).alloc (Nat.le_refl _) _
 have e1 : (W.alloc (.cells #[y] t2)).cell? ⟨W.heap.size, 0, none⟩ = some y := by simp
 have q := zeroQ_new (W.alloc (.cells #[y] t2)) t3
 rw [World.size_alloc, hs] at q
 have e2 := (b2.cell (p := ⟨W.heap.size, 0, none⟩) (by simp)).trans e1
 rw [hs] at e2
 exact ⟨b0.trans (b1.mono b0.size), (b1.cell (p := ⟨w.heap.size, 0, none⟩) (cell_lt c0)).trans c0, hat_below h0 b1, e2, q⟩
set_option maxHeartbeats 3200000 in
theorem implDraftA (ao : Option Addr) (cap : Nat) (L : List K) (h : Hd) (word : ByteArray) (a : Addr) (w : World) (hla0 : ∀ V : World, Below w.heap.size w V → Calls Tryz.prog 92 #[.slice ao L.length cap] V (Lc.LacePost L V)) (hk : H64 h) (hws : word.size ≤ 1099511627776) (hn : NoH w a) (he : HoldsE w 6) (hf : HoldsE w 7) :
   Calls Tryz.prog 23 #[.slice ao L.length cap, .agg #[.int .i64 h.who, .int .i64 h.has, .int .i64 h.kept, .int .i64 h.last], .string word] w fun e w' => e = .returned (.tuple #[.agg #[.int .i64 (draftedK L h word).hand, .int .i64 (draftedK L h word).round, .int .i64 (draftedK L h word).frm, .string (draftedK L h word).word], .bool (draftedB L h word)]) ∧ Below w.heap.size w w' := by
 have hmf : ∀ (fn : Fn) (first cap : Array Value) (w : World), (Instr.makeFunc fn first cap).run Tryz.prog w = .ok (.func fn first cap) w := fun _ _ _ _ => rfl
 obtain ⟨V, hV, P0⟩ := boxes4_new w (.slice ao L.length cap) (.string word) h 24 26 9 36
 have HV : Hid (V = _) := hV
 clear hV
 have HB0 : Hid (Below w.heap.size w V) := P0.1
 have HZ0 : Hid (Kn.Zero (w.heap.size + 1 + 1 + 1) V) := P0.2.2.2.2
 have hdf : draftedB L h word = false → draftedK L h word = ⟨0, 0, 0, ⟨#[]⟩⟩ := fun q => by unfold draftedK; rw [q]; rfl
 have hor := orNoneK 65 (enters_of Tryz.func65 (by kernel_rfl) rfl) (.pointer (some ⟨w.heap.size, 0, none⟩)) (.pointer (some ⟨w.heap.size + 1, 0, none⟩)) (.pointer (some ⟨w.heap.size + 1 + 1, 0, none⟩)) ⟨0, 0, 0, ⟨#[]⟩⟩ (fun k => draftedB L h word = true ∧ draftedK L h word = k) (draftedB L h word = false) V (fun X hX => draft1 ao w.heap.size (w.heap.size + 1) (w.heap.size + 1 + 1) cap L h word a X ((hX.cell (p := ⟨w.heap.size, 0, none⟩) (cell_lt P0.2.1)).trans P0.2.1) (hat_below P0.2.2.1 hX) ((hX.cell (p := ⟨w.heap.size + 1 + 1, 0, none⟩) (cell_lt P0.2.2.2.1)).trans P0.2.2.2.1) (fun Y hY => hla0 Y ((HB0.out.trans (hX.mono HB0.out.size)).trans (hY.mono (HB0.out.trans (hX.mono HB0.out.size)).size))) hk hws ((hn.below HB0.out).below hX) ((he.below HB0.out).below hX) ((hf.below HB0.out).below hX))
 have HOR : Hid (Calls Tryz.prog 64 #[.agg #[.int .i64 0, .int .i64 0, .int .i64 0, .string ⟨#[]⟩], .func (.func 65) #[] #[.pointer (some ⟨w.heap.size, 0, none⟩), .pointer (some ⟨w.heap.size + 1, 0, none⟩), .pointer (some ⟨w.heap.size + 1 + 1, 0, none⟩)]] V fun e w' => ((∃ k : K, e = .returned (.tuple #[.agg #[.int .i64 k.hand, .int .i64 k.round, .int .i64 k.frm, .string k.word], .bool true]) ∧ (draftedB L h word = true ∧ draftedK L h word = k)) ∨ (e = .returned (.tuple #[.agg #[.int .i64 0, .int .i64 0, .int .i64 0, .string ⟨#[]⟩], .bool false]) ∧ draftedB L h word = false)) ∧ Below V.heap.size V w') := hor
 clear P0 hla0 hn he hf hor
 go_enter Tryz.func23, Tryz.ntmps23
 go_upto_region 1 with fail
 rw [← HV.out]
 clear HV
 go_wp2_with fail
 refine HOR.out.mono ?_
 clear HOR
 rintro e w1 ⟨hp, hb1⟩
 have HB1 : Hid (Below w.heap.size w w1) := HB0.out.trans (hb1.mono HB0.out.size)
 have HZ1 : Hid (Kn.Zero (w.heap.size + 1 + 1 + 1) w1) := HZ0.out.below hb1
 clear HB0 HZ0 hb1
 obtain ⟨k, b, hE, hkb⟩ : ∃ (k : K) (b : Bool), e = .returned (.tuple #[.agg #[.int .i64 k.hand, .int .i64 k.round, .int .i64 k.frm, .string k.word], .bool b]) ∧ (draftedK L h word = k ∧ draftedB L h word = b) := by
   rcases hp with ⟨k, e1, e2, e3⟩ | ⟨e1, e2⟩
   · exact ⟨k, true, e1, e3, e2⟩
   · exact ⟨⟨0, 0, 0, ⟨#[]⟩⟩, false, e1, hdf e2, e2⟩
 have HKB : Hid (draftedK L h word = k ∧ draftedB L h word = b) := hkb
 clear hp hkb hdf
 subst hE
 have P2 : Hid (KnAt (w1.alloc (.cells #[.int .i64 k.hand, .int .i64 k.round, .int .i64 k.frm, .string k.word] 92)) w1.heap.size k ∧ Kn.Zero (w.heap.size + 1 + 1 + 1) (w1.alloc (.cells #[.int .i64 k.hand, .int .i64 k.round, .int .i64 k.frm, .string k.word] 92)) ∧ Below w.heap.size w (w1.alloc (.cells #[.int .i64 k.hand, .int .i64 k.round, .int .i64 k.frm, .string k.word] 92))) := ⟨knat_new w1 k _, HZ1.out.below ((Below.refl _ _).alloc (Nat.le_refl _) _), HB1.out.alloc HB1.out.size _⟩
 clear HZ1 HB1
 go_upto_region 2 with fail
 generalize w1.alloc (.cells #[.int .i64 k.hand, .int .i64 k.round, .int .i64 k.frm, .string k.word] 92) = V2 at P2 ⊢
 generalize w1.heap.size = kb at P2 ⊢
 obtain ⟨_, k0, k1, k2, k3⟩ := P2.out.1
 go_wp2_with fail
 refine (Kn.handedOut k.hand k.round k.frm k.word _).mono ?_
 rintro e w3 ⟨rfl, hb3⟩
 have HZ3 : Hid (Kn.Zero (w.heap.size + 1 + 1 + 1) w3) := P2.out.2.1.below hb3
 have HB3 : Hid (Below w.heap.size w w3) := P2.out.2.2.trans (hb3.mono P2.out.2.2.size)
 clear P2 k0 k1 k2 k3 hb3
 obtain ⟨z0, z1, z2, z3⟩ := zeroQc HZ3.out
 obtain ⟨f0, f1, f2, f3⟩ := zeroQf HZ3.out
 obtain ⟨q0, q1, q2, q3⟩ := HZ3.out.put (.int .i64 k.hand) (.int .i64 k.round) (.int .i64 k.frm) (.string k.word)
 have HBE : Hid _ := below_set4 HB3.out (show w.heap.size ≤ w.heap.size + 1 + 1 + 1 by omega) (.int .i64 k.hand) (.int .i64 k.round) (.int .i64 k.frm) (.string k.word)
 clear HZ3 HB3
 go_wp2
 refine bodyPost_ret (v := .tuple #[.agg #[.int .i64 k.hand, .int .i64 k.round, .int .i64 k.frm, .string k.word], .bool b]) (by simp [results, Tryz.f23, go_sem, q0, q1, q2, q3]) rfl ?_
 exact ⟨by rw [HKB.out.1, HKB.out.2], HBE.out⟩
theorem implDraft (g off cap : Nat) (L : List K) (h : Hd) (word : ByteArray) (a : Addr) (w : World) (hlen : L.length ≤ 1099511627776) (hw : WordsOk L) (hk : H64 h) (hws : word.size ≤ 1099511627776) (hr : RdK w (some ⟨g, off, none⟩) L) (hn : NoH w a) (he : HoldsE w 6) (hf : HoldsE w 7) :
   Calls Tryz.prog 23 #[.slice (some ⟨g, off, none⟩) L.length cap, .agg #[.int .i64 h.who, .int .i64 h.has, .int .i64 h.kept, .int .i64 h.last], .string word] w fun e w' => e = .returned (.tuple #[.agg #[.int .i64 (draftedK L h word).hand, .int .i64 (draftedK L h word).round, .int .i64 (draftedK L h word).frm, .string (draftedK L h word).word], .bool (draftedB L h word)]) ∧ Below w.heap.size w w' :=
 implDraftA _ cap L h word a w (fun V hV => Lc.laceOf g off cap L V hlen hw (hr.below hV)) hk hws hn he hf
def STie2 (W : World) : Prop := STie1 W ∧ HoldsE W 7
theorem STie2.below {W V : World} (h : STie2 W) (hb : Below W.heap.size W V) : STie2 V := ⟨h.1.below hb, h.2.below hb⟩
end Rm
namespace Rm
open Kn (K okK)
open Lc (at' RdK laceB WordsOk handsN roundS)
open Sg (bel belows closedTo orB)
set_option maxHeartbeats 800000 in
theorem catchO_panicking (p q r : Nat) (ao : Option Addr) (mm cc : Nat) (i1 i2 i3 i4 : Int) (m0 m1 m2 m3 m4 v2 : Value) (u : TypeId) (pv : Value) (older : List PanicEntry) (w : World) (hqr : q ≠ r) (hk : Ow w p (.slice ao mm cc) (.int .i64 i1) (.int .i64 i2) (.int .i64 i3) (.int .i64 i4)) (hz : Ow w q m0 m1 m2 m3 m4) (hr : w.cell? ⟨r, 0, none⟩ = some v2) (fr : w.frozen? ⟨r, 0, none⟩ = false) :
   CallsD Tryz.prog 95 #[.pointer (some ⟨p, 0, none⟩), .pointer (some ⟨q, 0, none⟩), .pointer (some ⟨r, 0, none⟩)] (.panicking ({ v := .iface u pv, recovered := false } :: older)) w fun e u' w' =>
     e = .returned (.tuple #[]) ∧ u' = .panicking ({ v := .iface u pv, recovered := true } :: older) ∧ w' = (((((w.setCell ⟨q, 0, none⟩ (.slice ao mm cc)).setCell ⟨q, 1, none⟩ (.int .i64 i1)).setCell ⟨q, 2, none⟩ (.int .i64 i2)).setCell ⟨q, 3, none⟩ (.int .i64 i3)).setCell ⟨q, 4, none⟩ (.int .i64 i4)).setCell ⟨r, 0, none⟩ (.bool false) := by
 obtain ⟨_, k0, k1, k2, k3, k4, _, _, _, _, _⟩ := hk
 obtain ⟨_, z0, z1, z2, z3, z4, f0, f1, f2, f3, f4⟩ := hz
 have hn : ∀ i : Nat, (⟨q, i, none⟩ : Addr) ≠ ⟨r, 0, none⟩ := fun i e => hqr (by injection e)
 have hr2 : (((((w.setCell ⟨q, 0, none⟩ (.slice ao mm cc)).setCell ⟨q, 1, none⟩ (.int .i64 i1)).setCell ⟨q, 2, none⟩ (.int .i64 i2)).setCell ⟨q, 3, none⟩ (.int .i64 i3)).setCell ⟨q, 4, none⟩ (.int .i64 i4)).cell? ⟨r, 0, none⟩ = some v2 := by
   rw [World.cell?_setCell_other _ _ _ _ (hn 4), World.cell?_setCell_other _ _ _ _ (hn 3), World.cell?_setCell_other _ _ _ _ (hn 2), World.cell?_setCell_other _ _ _ _ (hn 1), World.cell?_setCell_other _ _ _ _ (hn 0)]; exact hr
 refine callsD_of_wpS Tryz.func95 rfl fun c₀ cs hu => ?_
 apply wpS_seq
 apply wpS_region
 simp [wpOpsS, go_sem, recoverD, hu, Tryz.ntmps95, Exit.thenS]
 refine wpS_cond (t := true) (by simp [Act.eval, Array.replicate]) ?_
 simp only [if_true]
 apply wpS_region
 simp [wpOpsS, go_sem, k0, k1, k2, k3, k4, z0, z1, z2, z3, z4, f0, f1, f2, f3, f4, hr2, fr, bodyPostS, results, Tryz.results95]
theorem catchO_idle (p q r : Value) (w : World) :
   CallsD Tryz.prog 95 #[p, q, r] .returning w fun e u' w' => e = .returned (.tuple #[]) ∧ u' = .returning ∧ w' = w := by
 refine callsD_of_wpS Tryz.func95 rfl fun c₀ cs hu => ?_
 apply wpS_seq
 apply wpS_region
 simp [wpOpsS, go_sem, recoverD, hu, Tryz.ntmps95, Exit.thenS]
 refine wpS_cond (t := false) (by simp [Act.eval, Array.replicate]) ?_
 simp only [Bool.false_eq_true, if_false]
 refine wpS_of_wp (wp_skip ?_)
 cases c₀
 simp_all [bodyPostS, results, Tryz.results95]
structure TriO (w W : World) (ao : Option Addr) (mm cc : Nat) (i1 i2 i3 i4 : Int) : Prop where
 bel : Below w.heap.size w W
 kn : Ow W w.heap.size (.slice ao mm cc) (.int .i64 i1) (.int .i64 i2) (.int .i64 i3) (.int .i64 i4)
 ze : Ow W (w.heap.size + 1) (.slice none 0 0) (.int .i64 0) (.int .i64 0) (.int .i64 0) (.int .i64 0)
 c2 : W.cell? ⟨w.heap.size + 1 + 1, 0, none⟩ = some (.bool false)
 f2 : W.frozen? ⟨w.heap.size + 1 + 1, 0, none⟩ = false
theorem TriO.below {w W V : World} {ao : Option Addr} {mm cc : Nat} {i1 i2 i3 i4 : Int} (q : TriO w W ao mm cc i1 i2 i3 i4) (hb : Below W.heap.size W V) : TriO w V ao mm cc i1 i2 i3 i4 :=
 ⟨q.bel.trans (hb.mono q.bel.size), q.kn.below hb, q.ze.below hb, (hb.cell (p := ⟨w.heap.size + 1 + 1, 0, none⟩) (cell_lt q.c2)).trans q.c2, (hb.frozen (p := ⟨w.heap.size + 1 + 1, 0, none⟩) (cell_lt q.c2)).trans q.f2⟩
theorem triO_new (w : World) (ao : Option Addr) (mm cc : Nat) (i1 i2 i3 i4 : Int) (t0 t1 t2 : TypeId) : TriO w (((w.alloc (.cells #[(.slice ao mm cc), (.int .i64 i1), (.int .i64 i2), (.int .i64 i3), (.int .i64 i4)] t0)).alloc (.cells #[.slice none 0 0, .int .i64 0, .int .i64 0, .int .i64 0, .int .i64 0] t1)).alloc (.cells #[.bool false] t2)) ao mm cc i1 i2 i3 i4 := by
 have q1 := ow_new (w.alloc (.cells #[(.slice ao mm cc), (.int .i64 i1), (.int .i64 i2), (.int .i64 i3), (.int .i64 i4)] t0)) (.slice none 0 0) (.int .i64 0) (.int .i64 0) (.int .i64 0) (.int .i64 0) t1
 rw [World.size_alloc] at q1
 have b1 : Below (w.alloc (.cells #[(.slice ao mm cc), (.int .i64 i1), (.int .i64 i2), (.int .i64 i3), (.int .i64 i4)] t0)).heap.size (w.alloc (.cells #[(.slice ao mm cc), (.int .i64 i1), (.int .i64 i2), (.int .i64 i3), (.int .i64 i4)] t0)) (((w.alloc (.cells #[(.slice ao mm cc), (.int .i64 i1), (.int .i64 i2), (.int .i64 i3), (.int .i64 i4)] t0)).alloc (.cells #[.slice none 0 0, .int .i64 0, .int .i64 0, .int .i64 0, .int .i64 0] t1)).alloc (.cells #[.bool false] t2)) := ((Below.refl _ _).alloc (Nat.le_refl _) _).alloc (by simp) _
 have b2 : Below ((w.alloc (.cells #[(.slice ao mm cc), (.int .i64 i1), (.int .i64 i2), (.int .i64 i3), (.int .i64 i4)] t0)).alloc (.cells #[.slice none 0 0, .int .i64 0, .int .i64 0, .int .i64 0, .int .i64 0] t1)).heap.size ((w.alloc (.cells #[(.slice ao mm cc), (.int .i64 i1), (.int .i64 i2), (.int .i64 i3), (.int .i64 i4)] t0)).alloc (.cells #[.slice none 0 0, .int .i64 0, .int .i64 0, .int .i64 0, .int .i64 0] t1)) (((w.alloc (.cells #[(.slice ao mm cc), (.int .i64 i1), (.int .i64 i2), (.int .i64 i3), (.int .i64 i4)] t0)).alloc (.cells #[.slice none 0 0, .int .i64 0, .int .i64 0, .int .i64 0, .int .i64 0] t1)).alloc (.cells #[.bool false] t2)) := (Below.refl _ _).alloc (Nat.le_refl _) _
 have e2 : (((w.alloc (.cells #[(.slice ao mm cc), (.int .i64 i1), (.int .i64 i2), (.int .i64 i3), (.int .i64 i4)] t0)).alloc (.cells #[.slice none 0 0, .int .i64 0, .int .i64 0, .int .i64 0, .int .i64 0] t1)).alloc (.cells #[.bool false] t2)).cell? ⟨((w.alloc (.cells #[(.slice ao mm cc), (.int .i64 i1), (.int .i64 i2), (.int .i64 i3), (.int .i64 i4)] t0)).alloc (.cells #[.slice none 0 0, .int .i64 0, .int .i64 0, .int .i64 0, .int .i64 0] t1)).heap.size, 0, none⟩ = some (.bool false) := by simp [-World.size_alloc]
 have g2 : (((w.alloc (.cells #[(.slice ao mm cc), (.int .i64 i1), (.int .i64 i2), (.int .i64 i3), (.int .i64 i4)] t0)).alloc (.cells #[.slice none 0 0, .int .i64 0, .int .i64 0, .int .i64 0, .int .i64 0] t1)).alloc (.cells #[.bool false] t2)).frozen? ⟨((w.alloc (.cells #[(.slice ao mm cc), (.int .i64 i1), (.int .i64 i2), (.int .i64 i3), (.int .i64 i4)] t0)).alloc (.cells #[.slice none 0 0, .int .i64 0, .int .i64 0, .int .i64 0, .int .i64 0] t1)).heap.size, 0, none⟩ = false := by simp [-World.size_alloc]
 rw [World.size_alloc, World.size_alloc] at e2 g2
 exact ⟨(((Below.refl _ w).alloc (Nat.le_refl _) _).alloc (by simp) _).alloc (by simp; omega) _, (ow_new w (.slice ao mm cc) (.int .i64 i1) (.int .i64 i2) (.int .i64 i3) (.int .i64 i4) t0).below b1, q1.below b2, e2, g2⟩
theorem rdk_bool {W : World} {g b i : Nat} {L : List K} {x : Bool} (h : RdK W (some ⟨g, 0, none⟩) L) (hx : W.cell? ⟨b, 0, none⟩ = some (.bool x)) (u : Value) : RdK (W.setCell ⟨b, i, none⟩ u) (some ⟨g, 0, none⟩) L := by
 rcases h with h | ⟨g', off, ha, hg, hk⟩
 · exact .inl h
 · by_cases hl : L.length = 0
   · exact .inl (List.length_eq_zero_iff.1 hl)
   injection ha with ha
   injection ha with h1 h2
   subst h1 h2
   have hgb : g ≠ b := by
     rintro rfl
     have q := (hk 0 (by omega)).c0
     rw [show 0 + 0 * 4 = 0 from rfl, hx] at q
     cases q
   have hc : ∀ j : Nat, (W.setCell ⟨b, i, none⟩ u).cell? ⟨g, j, none⟩ = W.cell? ⟨g, j, none⟩ := fun j => World.cell?_setCell_other _ _ _ _ (fun e => hgb (by injection e with e; exact e.symm))
   exact .inr ⟨g, 0, rfl, by simpa using hg, fun i hi => ⟨(hc _).trans (hk i hi).c0, (hc _).trans (hk i hi).c1, (hc _).trans (hk i hi).c2, (hc _).trans (hk i hi).c3⟩⟩
set_option maxHeartbeats 3200000 in
theorem orNoneO (fid : Nat) (eg : ∀ (args : Array Value) (w : World), (callFunc fid args).run Tryz.prog w = .ok (.enter fid args) w) (c0 c1 : Value) (ao : Option Addr) (mm cc : Nat) (i1 i2 i3 i4 : Int) (R : List K → Hd → Prop) (N : Prop) (w : World)
   (hask : ∀ V : World, Below w.heap.size w V → Calls Tryz.prog fid #[c0, c1] V fun e V' => ((∃ (g : Nat) (T : List K) (h2 : Hd), e = .returned (.agg #[.slice (some ⟨g, 0, none⟩) T.length T.length, .int .i64 h2.who, .int .i64 h2.has, .int .i64 h2.kept, .int .i64 h2.last]) ∧ g < V'.heap.size ∧ RdK V' (some ⟨g, 0, none⟩) T ∧ R T h2) ∨ (Gives e ∧ N)) ∧ Below V.heap.size V V') :
   Calls Tryz.prog 51 #[.agg #[(.slice ao mm cc), (.int .i64 i1), (.int .i64 i2), (.int .i64 i3), (.int .i64 i4)], .func (.func fid) #[] #[c0, c1]] w fun e w' => ((∃ g T h2, e = .returned (.tuple #[.agg #[.slice (some ⟨g, 0, none⟩) T.length T.length, .int .i64 h2.who, .int .i64 h2.has, .int .i64 h2.kept, .int .i64 h2.last], .bool true]) ∧ g < w'.heap.size ∧ RdK w' (some ⟨g, 0, none⟩) T ∧ R T h2) ∨ (e = .returned (.tuple #[.agg #[(.slice ao mm cc), (.int .i64 i1), (.int .i64 i2), (.int .i64 i3), (.int .i64 i4)], .bool false]) ∧ N)) ∧ Below w.heap.size w w' := by
 have hmf : ∀ (fn : Fn) (first cap : Array Value) (w : World), (Instr.makeFunc fn first cap).run Tryz.prog w = .ok (.func fn first cap) w := fun _ _ _ _ => rfl
 have P0 : Hid (TriO w (((w.alloc (.cells #[(.slice ao mm cc), (.int .i64 i1), (.int .i64 i2), (.int .i64 i3), (.int .i64 i4)] 66)).alloc (.cells #[.slice none 0 0, .int .i64 0, .int .i64 0, .int .i64 0, .int .i64 0] 66)).alloc (.cells #[.bool false] 4)) ao mm cc i1 i2 i3 i4) := triO_new w _ _ _ _ _ _ _ _ _ _
 have HA : Hid (∀ V : World, Below w.heap.size w V → Calls Tryz.prog fid #[c0, c1] V fun e V' => ((∃ (g : Nat) (T : List K) (h2 : Hd), e = .returned (.agg #[.slice (some ⟨g, 0, none⟩) T.length T.length, .int .i64 h2.who, .int .i64 h2.has, .int .i64 h2.kept, .int .i64 h2.last]) ∧ g < V'.heap.size ∧ RdK V' (some ⟨g, 0, none⟩) T ∧ R T h2) ∨ (Gives e ∧ N)) ∧ Below V.heap.size V V') := hask
 clear hask
 go_enter_defers Tryz.func51, Tryz.ntmps51
 go_upto_region 2 with fail
 generalize ((w.alloc (.cells #[(.slice ao mm cc), (.int .i64 i1), (.int .i64 i2), (.int .i64 i3), (.int .i64 i4)] 66)).alloc (.cells #[.slice none 0 0, .int .i64 0, .int .i64 0, .int .i64 0, .int .i64 0] 66)).alloc (.cells #[.bool false] 4) = V at P0 ⊢
 have hak := HA.out V P0.out.bel
 go_wp2_with fail
 refine hak.mono ?_
 clear hak
 rintro e w1 ⟨hp, hb1⟩
 have P1 : Hid (TriO w w1 ao mm cc i1 i2 i3 i4) := P0.out.below hb1
 have d2 := P1.out.c2
 have f2 := P1.out.f2
 obtain ⟨_, z0, z1, z2, z3, z4, g0, g1, g2, g3, g4⟩ := P1.out.ze
 clear P0 hb1
 rcases hp with ⟨g, T, h2, rfl, hg, hr, hR⟩ | ⟨⟨v, rfl⟩, hN⟩
 · have HRR : Hid (R T h2) := hR
   have HRK : Hid (g < w1.heap.size ∧ RdK w1 (some ⟨g, 0, none⟩) T) := ⟨hg, hr⟩
   clear hR hr hg
   obtain ⟨WW, hW, hOW, hBW, hsW, hcW⟩ := P1.out.ze.put (.slice (some ⟨g, 0, none⟩) T.length T.length) (.int .i64 h2.who) (.int .i64 h2.has) (.int .i64 h2.kept) (.int .i64 h2.last)
   have HW : Hid (WW = (((((w1.setCell ⟨w.heap.size + 1, 0, none⟩ (.slice (some ⟨g, 0, none⟩) T.length T.length)).setCell ⟨w.heap.size + 1, 1, none⟩ (.int .i64 h2.who)).setCell ⟨w.heap.size + 1, 2, none⟩ (.int .i64 h2.has)).setCell ⟨w.heap.size + 1, 3, none⟩ (.int .i64 h2.kept)).setCell ⟨w.heap.size + 1, 4, none⟩ (.int .i64 h2.last))) := hW
   have d3 : WW.cell? ⟨w.heap.size + 1 + 1, 0, none⟩ = some (.bool false) := (hcW _ (by simp)).trans d2
   have HWF : Hid (WW.frozen? ⟨w.heap.size + 1 + 1, 0, none⟩ = false) := by show _ = _; rw [hW]; simp only [World.frozen?_setCell]; exact f2
   have hOX := hOW.other (c := w.heap.size + 1 + 1) (by omega) 0 (.bool true)
   have m5 : (WW.setCell ⟨w.heap.size + 1 + 1, 0, none⟩ (.bool true)).cell? ⟨w.heap.size + 1 + 1, 0, none⟩ = some (.bool true) := World.cell?_setCell_same _ _ _ d3
   have HE : Hid (g < (WW.setCell ⟨w.heap.size + 1 + 1, 0, none⟩ (.bool true)).heap.size ∧ RdK (WW.setCell ⟨w.heap.size + 1 + 1, 0, none⟩ (.bool true)) (some ⟨g, 0, none⟩) T ∧ Below w.heap.size w (WW.setCell ⟨w.heap.size + 1 + 1, 0, none⟩ (.bool true))) := ⟨by simp [hsW]; exact HRK.out.1, rdk_bool (rdk_other HRK.out.2 hcW hsW z0) d3 _, (hBW _ _ P1.out.bel (by omega)).setCell (p := ⟨w.heap.size + 1 + 1, 0, none⟩) (by simp; omega) _⟩
   obtain ⟨_, m0, m1, m2, m3, m4, _, _, _, _, _⟩ := hOX
   have d3' := d3
   have f3' := HWF.out
   rw [HW.out] at d3' f3'
   clear hW hBW hsW hcW hOW d3 HWF P1 HRK HA
   go_wp2
   refine leaves_cons (f := 95) (args := #[.pointer (some ⟨w.heap.size, 0, none⟩), .pointer (some ⟨w.heap.size + 1, 0, none⟩), .pointer (some ⟨w.heap.size + 1 + 1, 0, none⟩)]) (by simp) (by simp [go_sem]) ?_
   refine (catchO_idle _ _ _ _).mono ?_
   rintro e u' w'' ⟨rfl, rfl, rfl⟩
   rw [← HW.out]
   generalize WW.setCell ⟨w.heap.size + 1 + 1, 0, none⟩ (.bool true) = W2 at m0 m1 m2 m3 m4 m5 HE ⊢
   simp [Leaves, settle, results, Tryz.results51, go_sem, m0, m1, m2, m3, m4, m5]
   refine ⟨⟨g, T, h2, ?_⟩, HE.out.2.2⟩
   exact ⟨⟨⟨rfl, rfl⟩, rfl, rfl, rfl, rfl⟩, HE.out.1, HE.out.2.1, HRR.out⟩
 · have HNN : Hid N := hN
   clear hN
   obtain ⟨WW, hW, hOW, hBW, hsW, hcW⟩ := P1.out.ze.put (.slice ao mm cc) (.int .i64 i1) (.int .i64 i2) (.int .i64 i3) (.int .i64 i4)
   have HW : Hid (WW = (((((w1.setCell ⟨w.heap.size + 1, 0, none⟩ (.slice ao mm cc)).setCell ⟨w.heap.size + 1, 1, none⟩ (.int .i64 i1)).setCell ⟨w.heap.size + 1, 2, none⟩ (.int .i64 i2)).setCell ⟨w.heap.size + 1, 3, none⟩ (.int .i64 i3)).setCell ⟨w.heap.size + 1, 4, none⟩ (.int .i64 i4))) := hW
   have d3 : WW.cell? ⟨w.heap.size + 1 + 1, 0, none⟩ = some (.bool false) := (hcW _ (by simp)).trans d2
   have hOX := hOW.other (c := w.heap.size + 1 + 1) (by omega) 0 (.bool false)
   have m5 : (WW.setCell ⟨w.heap.size + 1 + 1, 0, none⟩ (.bool false)).cell? ⟨w.heap.size + 1 + 1, 0, none⟩ = some (.bool false) := World.cell?_setCell_same _ _ _ d3
   have HE : Hid (Below w.heap.size w (WW.setCell ⟨w.heap.size + 1 + 1, 0, none⟩ (.bool false))) := (hBW _ _ P1.out.bel (by omega)).setCell (p := ⟨w.heap.size + 1 + 1, 0, none⟩) (by simp; omega) _
   obtain ⟨_, m0, m1, m2, m3, m4, _, _, _, _, _⟩ := hOX
   clear hW hBW hsW hcW hOW d3 HA
   go_wp2
   refine leaves_cons (f := 95) (args := #[.pointer (some ⟨w.heap.size, 0, none⟩), .pointer (some ⟨w.heap.size + 1, 0, none⟩), .pointer (some ⟨w.heap.size + 1 + 1, 0, none⟩)]) (by simp) (by simp [go_sem]) ?_
   refine (catchO_panicking _ _ _ ao mm cc i1 i2 i3 i4 _ _ _ _ _ _ _ v [] w1 (by omega) P1.out.kn P1.out.ze d2 f2).mono ?_
   rintro e u' w'' ⟨rfl, rfl, rfl⟩
   rw [← HW.out]
   generalize WW.setCell ⟨w.heap.size + 1 + 1, 0, none⟩ (.bool false) = W2 at m0 m1 m2 m3 m4 m5 HE ⊢
   simp [Leaves, settle, results, Tryz.results51, go_sem, m0, m1, m2, m3, m4, m5]
   exact ⟨HNN.out, HE.out⟩
set_option maxHeartbeats 1600000 in
theorem ties1 (ao : Option Addr) (lb hb cap : Nat) (L : List K) (h : Hd) (a : Addr) (w : World) (hlc : w.cell? ⟨lb, 0, none⟩ = some (.slice ao L.length cap)) (hhc : HAt w hb 0 h) (hla0 : ∀ V : World, Below w.heap.size w V → Calls Tryz.prog 92 #[.slice ao L.length cap] V (Lc.LacePost L V)) (hk : H64 h) (hn : NoH w a) :
   Calls Tryz.prog 52 #[.pointer (some ⟨lb, 0, none⟩), .pointer (some ⟨hb, 0, none⟩)] w fun e w' => ((∃ (g : Nat) (T : List K) (h2 : Hd), e = .returned (.agg #[.slice (some ⟨g, 0, none⟩) T.length T.length, .int .i64 h2.who, .int .i64 h2.has, .int .i64 h2.kept, .int .i64 h2.last]) ∧ g < w'.heap.size ∧ RdK w' (some ⟨g, 0, none⟩) T ∧ (handOkB L h = true ∧ T = L ∧ h2 = h)) ∨ (Gives e ∧ handOkB L h = false)) ∧ Below w.heap.size w w' := by
 have P0 : Hid (Below w.heap.size w (w.alloc (.cells #[.slice none 0 0, .int .i64 0, .int .i64 0, .int .i64 0, .int .i64 0] 66)) ∧ Ow (w.alloc (.cells #[.slice none 0 0, .int .i64 0, .int .i64 0, .int .i64 0, .int .i64 0] 66)) w.heap.size (.slice none 0 0) (.int .i64 0) (.int .i64 0) (.int .i64 0) (.int .i64 0)) := ⟨(Below.refl _ w).alloc (Nat.le_refl _) _, ow_new w _ _ _ _ _ _⟩
 have HLA : Hid (∀ V : World, Below w.heap.size w V → Calls Tryz.prog 92 #[.slice ao L.length cap] V (Lc.LacePost L V)) := hla0
 have HCC : Hid (w.cell? ⟨lb, 0, none⟩ = some (.slice ao L.length cap) ∧ HAt w hb 0 h ∧ NoH w a) := ⟨hlc, hhc, hn⟩
 clear hla0 hlc hhc hn
 go_enter Tryz.func52, Tryz.ntmps52
 go_upto_region 1 with fail
 generalize w.alloc (.cells #[.slice none 0 0, .int .i64 0, .int .i64 0, .int .i64 0, .int .i64 0] 66) = V at P0 ⊢
 have HB0 : Hid (Below w.heap.size w V) := P0.out.1
 have HZ0 : Hid (Ow V w.heap.size (.slice none 0 0) (.int .i64 0) (.int .i64 0) (.int .i64 0) (.int .i64 0)) := P0.out.2
 clear P0
 have hVl : V.cell? ⟨lb, 0, none⟩ = some (.slice ao L.length cap) := (HB0.out.cell (p := ⟨lb, 0, none⟩) (cell_lt HCC.out.1)).trans HCC.out.1
 obtain ⟨a0, a1, a2, a3⟩ := cellsH (hat_below HCC.out.2.1 HB0.out)
 have hro := rightOwner ao cap L h a V (fun X hX => HLA.out X (HB0.out.trans (hX.mono HB0.out.size))) hk (HCC.out.2.2.below HB0.out)
 clear HLA HCC
 go_wp2_with fail
 refine hro.mono ?_
 clear hro a0 a1 a2 a3 hVl
 intro e w1 hp
 rcases hp with ⟨hl, g, rfl, hg1, hr1, hb1⟩ | ⟨hl, ⟨v, rfl⟩, hb1⟩
 · have HL : Hid (handOkB L h = true) := hl
   have HZ1 : Hid (Ow w1 w.heap.size (.slice none 0 0) (.int .i64 0) (.int .i64 0) (.int .i64 0) (.int .i64 0)) := HZ0.out.below hb1
   have HB1 : Hid (Below w.heap.size w w1) := HB0.out.trans (hb1.mono HB0.out.size)
   have HRK : Hid (g < w1.heap.size ∧ RdK w1 (some ⟨g, 0, none⟩) L) := ⟨hg1, hr1⟩
   clear hl hg1 hr1 hb1 HZ0 HB0
   obtain ⟨_, z0, z1, z2, z3, z4, f0, f1, f2, f3, f4⟩ := HZ1.out
   obtain ⟨WW, hW, hOW, hBW, hsW, hcW⟩ := HZ1.out.put (.slice (some ⟨g, 0, none⟩) L.length L.length) (.int .i64 h.who) (.int .i64 h.has) (.int .i64 h.kept) (.int .i64 h.last)
   have HW : Hid (WW = _) := hW
   have HE : Hid (g < WW.heap.size ∧ RdK WW (some ⟨g, 0, none⟩) L ∧ Below w.heap.size w WW) := ⟨by rw [hsW]; exact HRK.out.1, rdk_other HRK.out.2 hcW hsW z0, hBW _ _ HB1.out (Nat.le_refl _)⟩
   obtain ⟨_, y0, y1, y2, y3, y4, _, _, _, _, _⟩ := hOW
   clear hW hBW hsW hcW HZ1 HB1 HRK
   go_wp2
   rw [← HW.out]
   refine bodyPost_ret (v := .agg #[.slice (some ⟨g, 0, none⟩) L.length L.length, .int .i64 h.who, .int .i64 h.has, .int .i64 h.kept, .int .i64 h.last]) (by simp [results, Tryz.f52, go_sem, y0, y1, y2, y3, y4]) rfl ?_
   exact ⟨.inl ⟨g, L, h, rfl, HE.out.1, HE.out.2.1, HL.out, rfl, rfl⟩, HE.out.2.2⟩
 · have HL : Hid (handOkB L h = false) := hl
   have HB1 : Hid (Below w.heap.size w w1) := HB0.out.trans (hb1.mono HB0.out.size)
   clear hl
   go_wp2
   exact ⟨rfl, .inr ⟨⟨_, rfl⟩, HL.out⟩, HB1.out⟩
set_option maxHeartbeats 1600000 in
theorem ties2 (g ob wb : Nat) (L : List K) (h : Hd) (word : ByteArray) (w : World) (hob : Ow w ob (.slice (some ⟨g, 0, none⟩) L.length L.length) (.int .i64 h.who) (.int .i64 h.has) (.int .i64 h.kept) (.int .i64 h.last)) (hwc : w.cell? ⟨wb, 0, none⟩ = some (.string word)) (hi : HandIs L h) (hws : word.size ≤ 1099511627776) (hg : g < w.heap.size) (hr : RdK w (some ⟨g, 0, none⟩) L) (he : HoldsE w 6) (hf : HoldsE w 7) (hu : HoldsE w 5) :
   Calls Tryz.prog 54 #[.pointer (some ⟨ob, 0, none⟩), .pointer (some ⟨wb, 0, none⟩)] w fun e w' => ((∃ (g : Nat) (T : List K) (h2 : Hd), e = .returned (.agg #[.slice (some ⟨g, 0, none⟩) T.length T.length, .int .i64 h2.who, .int .i64 h2.has, .int .i64 h2.kept, .int .i64 h2.last]) ∧ g < w'.heap.size ∧ RdK w' (some ⟨g, 0, none⟩) T ∧ (tieB L h word = true ∧ T = L ++ [tieK L h word] ∧ h2 = ⟨h.who, orB h.has (2 ^ L.length), orB h.has (2 ^ L.length), (L.length : Int)⟩)) ∨ (Gives e ∧ tieB L h word = false)) ∧ Below w.heap.size w w' := by
 have P0 : Hid (Below w.heap.size w (w.alloc (.cells #[.slice none 0 0, .int .i64 0, .int .i64 0, .int .i64 0, .int .i64 0] 66)) ∧ Ow (w.alloc (.cells #[.slice none 0 0, .int .i64 0, .int .i64 0, .int .i64 0, .int .i64 0] 66)) w.heap.size (.slice none 0 0) (.int .i64 0) (.int .i64 0) (.int .i64 0) (.int .i64 0)) := ⟨(Below.refl _ w).alloc (Nat.le_refl _) _, ow_new w _ _ _ _ _ _⟩
 have HCC : Hid (Ow w ob (.slice (some ⟨g, 0, none⟩) L.length L.length) (.int .i64 h.who) (.int .i64 h.has) (.int .i64 h.kept) (.int .i64 h.last) ∧ w.cell? ⟨wb, 0, none⟩ = some (.string word)) := ⟨hob, hwc⟩
 clear hob hwc
 go_enter Tryz.func54, Tryz.ntmps54
 go_upto_region 1 with fail
 generalize w.alloc (.cells #[.slice none 0 0, .int .i64 0, .int .i64 0, .int .i64 0, .int .i64 0] 66) = V at P0 ⊢
 have HB0 : Hid (Below w.heap.size w V) := P0.out.1
 have HZ0 : Hid (Ow V w.heap.size (.slice none 0 0) (.int .i64 0) (.int .i64 0) (.int .i64 0) (.int .i64 0)) := P0.out.2
 clear P0
 have hVw : V.cell? ⟨wb, 0, none⟩ = some (.string word) := (HB0.out.cell (p := ⟨wb, 0, none⟩) (cell_lt HCC.out.2)).trans HCC.out.2
 obtain ⟨_, x0, x1, x2, x3, x4, _, _, _, _, _⟩ := HCC.out.1.below HB0.out
 have hti := ties g L.length L h word V hi (Nat.le_refl _) hws (Nat.lt_of_lt_of_le hg HB0.out.size) (hr.below HB0.out) (he.below HB0.out) (hf.below HB0.out) (hu.below HB0.out)
 clear HCC hr he hf hu
 go_wp2_with fail
 refine hti.mono ?_
 clear hti x0 x1 x2 x3 x4 hVw
 rintro e w1 ⟨hp, hb1⟩
 have HB1 : Hid (Below w.heap.size w w1) := HB0.out.trans (hb1.mono HB0.out.size)
 have HZ1 : Hid (Ow w1 w.heap.size (.slice none 0 0) (.int .i64 0) (.int .i64 0) (.int .i64 0) (.int .i64 0)) := HZ0.out.below hb1
 clear HB0 HZ0 hb1
 rcases hp with ⟨hl, hlt, gt, rfl, hg1, hr1⟩ | ⟨hl, v, rfl⟩
 · have HL : Hid (tieB L h word = true) := hl
   have HRK : Hid (gt < w1.heap.size ∧ RdK w1 (some ⟨gt, 0, none⟩) (L ++ [tieK L h word])) := ⟨hg1, hr1⟩
   clear hl hg1 hr1 hlt
   have HT : Hid (∃ T, T = L ++ [tieK L h word]) := ⟨_, rfl⟩
   generalize hTT : L ++ [tieK L h word] = T at HRK ⊢
   generalize hNH : orB h.has (2 ^ L.length) = nh
   have HTT : Hid (L ++ [tieK L h word] = T ∧ orB h.has (2 ^ L.length) = nh) := ⟨hTT, hNH⟩
   clear hTT hNH HT
   obtain ⟨_, z0, z1, z2, z3, z4, f0, f1, f2, f3, f4⟩ := HZ1.out
   obtain ⟨WW, hW, hOW, hBW, hsW, hcW⟩ := HZ1.out.put (.slice (some ⟨gt, 0, none⟩) T.length T.length) (.int .i64 h.who) (.int .i64 nh) (.int .i64 nh) (.int .i64 (L.length : Int))
   have HW : Hid (WW = _) := hW
   have HE : Hid (gt < WW.heap.size ∧ RdK WW (some ⟨gt, 0, none⟩) T ∧ Below w.heap.size w WW) := ⟨by rw [hsW]; exact HRK.out.1, rdk_other HRK.out.2 hcW hsW z0, hBW _ _ HB1.out (Nat.le_refl _)⟩
   obtain ⟨_, y0, y1, y2, y3, y4, _, _, _, _, _⟩ := hOW
   clear hW hBW hsW hcW HZ1 HB1 HRK
   go_wp2
   rw [← HW.out]
   refine bodyPost_ret (v := .agg #[.slice (some ⟨gt, 0, none⟩) T.length T.length, .int .i64 h.who, .int .i64 nh, .int .i64 nh, .int .i64 (L.length : Int)]) (by simp [results, Tryz.f54, go_sem, y0, y1, y2, y3, y4]) rfl ?_
   exact ⟨.inl ⟨gt, T, ⟨h.who, nh, nh, (L.length : Int)⟩, rfl, HE.out.1, HE.out.2.1, HL.out, HTT.out.1.symm, by rw [HTT.out.2]⟩, HE.out.2.2⟩
 · have HL : Hid (tieB L h word = false) := hl
   clear hl
   go_wp2
   exact ⟨rfl, .inr ⟨⟨_, rfl⟩, HL.out⟩, HB1.out⟩
def STie3 (W : World) : Prop := (STie1 W ∧ HoldsE W 7) ∧ HoldsE W 5
theorem STie3.below {W V : World} (h : STie3 W) (hb : Below W.heap.size W V) : STie3 V := ⟨⟨h.1.1.below hb, h.1.2.below hb⟩, h.2.below hb⟩
end Rm
end Go.Proofs.YtfjmenhofllchaaGreatDoor
