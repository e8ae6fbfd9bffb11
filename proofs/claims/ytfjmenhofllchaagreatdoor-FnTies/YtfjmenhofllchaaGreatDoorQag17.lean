/-
 What the model's drawings for the laws on tying by a hand hand back, where the drawing of a room keeps its word.
-/
import Derived.Test.YtfjmenhofllchaaGreatDoorQag16
set_option linter.unusedVariables false
namespace Go.Proofs.YtfjmenhofllchaaGreatDoor
open Go.RowKit
set_option maxRecDepth 100000
set_option linter.unusedVariables false
namespace Rm
open Kn (K okK)
open Lc (at' RdK laceB WordsOk handsN roundS)
open Sg (bel belows closedTo orB)
def TiesMade (L : List K) (h : Hd) (word : ByteArray) (w : World) (e : Ending) (w' : World) : Prop :=
 ∃ g, e = .returned (.tuple #[.slice (some ⟨g, 0, none⟩) (tiesL L h word).length (tiesL L h word).length, .agg #[.int .i64 (tiesH L h word).who, .int .i64 (tiesH L h word).has, .int .i64 (tiesH L h word).kept, .int .i64 (tiesH L h word).last], .bool (tiesB L h word)]) ∧ w.heap.size ≤ g ∧ Lc.Made w' g (tiesL L h word).length (tiesL L h word) (tiesL L h word).length ∧ Below w.heap.size w w'
theorem boxesT_new (w : World) (x y : Value) (h : Hd) (t0 t1 t2 t3 : TypeId) : ∃ V, V = (((w.alloc (.cells #[x] t0)).alloc (.cells #[.int .i64 h.who, .int .i64 h.has, .int .i64 h.kept, .int .i64 h.last] t1)).alloc (.cells #[y] t2)).alloc (.cells #[.int .i64 0, .int .i64 0, .int .i64 0, .int .i64 0] t3) ∧ Below w.heap.size w V ∧ V.cell? ⟨w.heap.size, 0, none⟩ = some x ∧ HAt V (w.heap.size + 1) 0 h ∧ V.cell? ⟨w.heap.size + 1 + 1, 0, none⟩ = some y ∧ HAt V (w.heap.size + 1 + 1 + 1) 0 ⟨0, 0, 0, 0⟩ := by
 refine ⟨_, rfl, ?_⟩
 obtain ⟨b0, c0, h0⟩ := boxes_new w x h t0 t1
 have hs : ((w.alloc (.cells #[x] t0)).alloc (.cells #[.int .i64 h.who, .int .i64 h.has, .int .i64 h.kept, .int .i64 h.last] t1)).heap.size = w.heap.size + 1 + 1 := by simp
 generalize (w.alloc (.cells #[x] t0)).alloc (.cells #[.int .i64 h.who, .int .i64 h.has, .int .i64 h.kept, .int .i64 h.last] t1) = W at b0 c0 h0 hs ⊢
 have b1 : Below W.heap.size W ((W.alloc (.cells #[y] t2)).alloc (.cells #[.int .i64 0, .int .i64 0, .int .i64 0, .int .i64 0] t3)) := ((Below.refl _ _).alloc (Nat.le_refl _) _).alloc (by simp) _
 have b2 : Below (W.alloc (.cells #[y] t2)).heap.size (W.alloc (.cells #[y] t2)) ((W.alloc (.cells #[y] t2)).alloc (.cells #[.int .i64 0, .int .i64 0, .int .i64 0, .int .i64 0] t3)) := (Below.refl _ _).alloc (Nat.le_refl _) _
 have e1 : (W.alloc (.cells #[y] t2)).cell? ⟨W.heap.size, 0, none⟩ = some y := by simp
 have q := hat_new (W.alloc (.cells #[y] t2)) ⟨0, 0, 0, 0⟩ t3
 rw [World.size_alloc, hs] at q
 have e2 := (b2.cell (p := ⟨W.heap.size, 0, none⟩) (by simp)).trans e1
 rw [hs] at e2
 exact ⟨b0.trans (b1.mono b0.size), (b1.cell (p := ⟨w.heap.size, 0, none⟩) (cell_lt c0)).trans c0, hat_below h0 b1, e2, q⟩
theorem made_nil (W : World) (b : Nat) (hb : b < W.heap.size) : Lc.Made W b 0 [] 0 := ⟨hb, fun i hi => by omega, fun i hi => by omega, fun i hi => by omega⟩
theorem made_set {W : World} {b n c i : Nat} {L : List K} {j : Nat} (x : Lc.Made W b n L j) (hne : b ≠ c) (u : Value) : Lc.Made (W.setCell ⟨c, i, none⟩ u) b n L j := by
 have hn : ∀ j : Nat, (⟨c, i, none⟩ : Addr) ≠ ⟨b, j, none⟩ := fun j e => hne (by injection e with e; exact e.symm)
 have hc : ∀ j : Nat, (W.setCell ⟨c, i, none⟩ u).cell? ⟨b, j, none⟩ = W.cell? ⟨b, j, none⟩ := fun j => World.cell?_setCell_other _ _ _ _ (hn j)
 exact ⟨by simpa using x.lt, fun i hi => ⟨(hc _).trans (x.rd i hi).c0, (hc _).trans (x.rd i hi).c1, (hc _).trans (x.rd i hi).c2, (hc _).trans (x.rd i hi).c3⟩, fun i hi => (x.ex i hi).elim fun v q => ⟨v, (hc _).trans q⟩, fun i hi => by rw [World.frozen?_setCell]; exact x.fr i hi⟩
set_option maxHeartbeats 6400000 in
theorem implTiesA (ao : Option Addr) (cap : Nat) (L : List K) (h : Hd) (word : ByteArray) (a : Addr) (w : World) (hla0 : ∀ V : World, Below w.heap.size w V → Calls Tryz.prog 92 #[.slice ao L.length cap] V (Lc.LacePost L V)) (hk : H64 h) (hws : word.size ≤ 1099511627776) (hn : NoH w a) (he : HoldsE w 6) (hf : HoldsE w 7) (hu : HoldsE w 5) :
   Calls Tryz.prog 19 #[.slice ao L.length cap, .agg #[.int .i64 h.who, .int .i64 h.has, .int .i64 h.kept, .int .i64 h.last], .string word] w (TiesMade L h word w) := by
 have hmf : ∀ (fn : Fn) (first cap : Array Value) (w : World), (Instr.makeFunc fn first cap).run Tryz.prog w = .ok (.func fn first cap) w := fun _ _ _ _ => rfl
 obtain ⟨V, hV, P0⟩ := boxesT_new w (.slice ao L.length cap) (.string word) h 24 26 9 26
 have HV : Hid (V = _) := hV
 clear hV
 have HB0 : Hid (Below w.heap.size w V) := P0.1
 have HZ0 : Hid (HAt V (w.heap.size + 1 + 1 + 1) 0 ⟨0, 0, 0, 0⟩) := P0.2.2.2.2
 have HWC : Hid (V.cell? ⟨w.heap.size + 1 + 1, 0, none⟩ = some (.string word)) := P0.2.2.2.1
 have HSS : Hid (HoldsE w 6 ∧ HoldsE w 7 ∧ HoldsE w 5) := ⟨he, hf, hu⟩
 have HO1 : Hid (Calls Tryz.prog 51 #[.agg #[.slice none 0 0, .int .i64 0, .int .i64 0, .int .i64 0, .int .i64 0], .func (.func 52) #[] #[.pointer (some ⟨w.heap.size, 0, none⟩), .pointer (some ⟨w.heap.size + 1, 0, none⟩)]] V fun e w' => ((∃ (g : Nat) (T : List K) (h2 : Hd), e = .returned (.tuple #[.agg #[.slice (some ⟨g, 0, none⟩) T.length T.length, .int .i64 h2.who, .int .i64 h2.has, .int .i64 h2.kept, .int .i64 h2.last], .bool true]) ∧ g < w'.heap.size ∧ RdK w' (some ⟨g, 0, none⟩) T ∧ (handOkB L h = true ∧ T = L ∧ h2 = h)) ∨ (e = .returned (.tuple #[.agg #[.slice none 0 0, .int .i64 0, .int .i64 0, .int .i64 0, .int .i64 0], .bool false]) ∧ handOkB L h = false)) ∧ Below V.heap.size V w') :=
   orNoneO 52 (enters_of Tryz.func52 (by kernel_rfl) rfl) _ _ none 0 0 0 0 0 0 (fun T h2 => handOkB L h = true ∧ T = L ∧ h2 = h) (handOkB L h = false) V (fun X hX => ties1 ao w.heap.size (w.heap.size + 1) cap L h a X ((hX.cell (p := ⟨w.heap.size, 0, none⟩) (cell_lt P0.2.1)).trans P0.2.1) (hat_below P0.2.2.1 hX) (fun Y hY => hla0 Y ((HB0.out.trans (hX.mono HB0.out.size)).trans (hY.mono (HB0.out.trans (hX.mono HB0.out.size)).size))) hk ((hn.below HB0.out).below hX))
 clear P0 hla0 hn he hf hu
 go_enter Tryz.func19, Tryz.ntmps19
 go_upto_region 1 with fail
 rw [← HV.out]
 clear HV
 go_wp2_with fail
 refine HO1.out.mono ?_
 clear HO1
 rintro e w1 ⟨hp, hb1⟩
 have HB1 : Hid (Below w.heap.size w w1) := HB0.out.trans (hb1.mono HB0.out.size)
 have HZ1 : Hid (HAt w1 (w.heap.size + 1 + 1 + 1) 0 ⟨0, 0, 0, 0⟩) := hat_below HZ0.out hb1
 have HW1 : Hid (w1.cell? ⟨w.heap.size + 1 + 1, 0, none⟩ = some (.string word)) := (hb1.cell (p := ⟨w.heap.size + 1 + 1, 0, none⟩) (cell_lt HWC.out)).trans HWC.out
 clear HB0 HZ0 HWC hb1
 have hzb : w.heap.size + 1 + 1 + 1 < w1.heap.size := HZ1.out.lt
 rcases hp with ⟨g, T, h2, rfl, hg, hr, hok, hT, hh⟩ | ⟨rfl, hok⟩
 rotate_left
 · have HL : Hid (tiesL L h word = [] ∧ tiesH L h word = ⟨0, 0, 0, 0⟩ ∧ tiesB L h word = false) := ⟨by unfold tiesL; rw [hok]; rfl, by unfold tiesH; rw [hok]; rfl, by unfold tiesB; rw [hok]; rfl⟩
   have P2 : Hid (Below w.heap.size w ((w1.alloc (.cells #[.slice none 0 0, .int .i64 0, .int .i64 0, .int .i64 0, .int .i64 0] 66)).alloc (.cells #[] 36)) ∧ HAt ((w1.alloc (.cells #[.slice none 0 0, .int .i64 0, .int .i64 0, .int .i64 0, .int .i64 0] 66)).alloc (.cells #[] 36)) (w.heap.size + 1 + 1 + 1) 0 ⟨0, 0, 0, 0⟩ ∧ w1.heap.size + 1 < ((w1.alloc (.cells #[.slice none 0 0, .int .i64 0, .int .i64 0, .int .i64 0, .int .i64 0] 66)).alloc (.cells #[] 36)).heap.size) :=
     ⟨(HB1.out.alloc HB1.out.size _).alloc (by simp; have := HB1.out.size; omega) _, hat_below (hat_below HZ1.out ((Below.refl _ _).alloc (Nat.le_refl _) _)) ((Below.refl _ _).alloc (Nat.le_refl _) _), by simp⟩
   clear HB1 HZ1 HW1 hok
   obtain ⟨z0, z1, z2, z3⟩ := cellsH P2.out.2.1
   have f0 := P2.out.2.1.f0
   have f1 := P2.out.2.1.f1
   have f2 := P2.out.2.1.f2
   have f3 := P2.out.2.1.f3
   simp only [Nat.zero_add] at f1 f2 f3
   obtain ⟨q0, q1, q2, q3⟩ := hput P2.out.2.1 (.int .i64 0) (.int .i64 0) (.int .i64 0) (.int .i64 0)
   have HE : Hid (Below w.heap.size w ((((((w1.alloc (.cells #[.slice none 0 0, .int .i64 0, .int .i64 0, .int .i64 0, .int .i64 0] 66)).alloc (.cells #[] 36)).setCell ⟨w.heap.size + 1 + 1 + 1, 0, none⟩ (.int .i64 0)).setCell ⟨w.heap.size + 1 + 1 + 1, 1, none⟩ (.int .i64 0)).setCell ⟨w.heap.size + 1 + 1 + 1, 2, none⟩ (.int .i64 0)).setCell ⟨w.heap.size + 1 + 1 + 1, 3, none⟩ (.int .i64 0)) ∧ w1.heap.size + 1 < ((((((w1.alloc (.cells #[.slice none 0 0, .int .i64 0, .int .i64 0, .int .i64 0, .int .i64 0] 66)).alloc (.cells #[] 36)).setCell ⟨w.heap.size + 1 + 1 + 1, 0, none⟩ (.int .i64 0)).setCell ⟨w.heap.size + 1 + 1 + 1, 1, none⟩ (.int .i64 0)).setCell ⟨w.heap.size + 1 + 1 + 1, 2, none⟩ (.int .i64 0)).setCell ⟨w.heap.size + 1 + 1 + 1, 3, none⟩ (.int .i64 0)).heap.size) := ⟨below_set4 P2.out.1 (by omega) _ _ _ _, by simp⟩
   clear P2
   go_wp2
   refine bodyPost_ret (v := .tuple #[.slice (some ⟨w1.heap.size + 1, 0, none⟩) 0 0, .agg #[.int .i64 0, .int .i64 0, .int .i64 0, .int .i64 0], .bool false]) (by simp [results, Tryz.f19, go_sem, q0, q1, q2, q3]) rfl ?_
   exact ⟨w1.heap.size + 1, by rw [HL.out.1, HL.out.2.1, HL.out.2.2]; rfl, by omega, by rw [HL.out.1]; exact made_nil _ _ HE.out.2, HE.out.1⟩
 · have hT' := hT.symm
   have hh' := hh.symm
   subst hT' hh'
   clear hT hh
   have hi := hand_is hk hok
   have h60 := ((Lc.lace_iff L).1 hi.lace).1
   have HTL : Hid (tiesL L h word = (if tieB L h word then L ++ [tieK L h word] else L) ∧ tiesH L h word = (if tieB L h word then ⟨h.who, orB h.has (2 ^ L.length), orB h.has (2 ^ L.length), (L.length : Int)⟩ else h) ∧ tiesB L h word = tieB L h word) := ⟨by unfold tiesL; rw [if_pos hok], by unfold tiesH; rw [if_pos hok], by unfold tiesB; rw [hok]; rfl⟩
   have P2 : Hid (Below w.heap.size w (w1.alloc (.cells #[.slice (some ⟨g, 0, none⟩) L.length L.length, .int .i64 h.who, .int .i64 h.has, .int .i64 h.kept, .int .i64 h.last] 66)) ∧ HAt (w1.alloc (.cells #[.slice (some ⟨g, 0, none⟩) L.length L.length, .int .i64 h.who, .int .i64 h.has, .int .i64 h.kept, .int .i64 h.last] 66)) (w.heap.size + 1 + 1 + 1) 0 ⟨0, 0, 0, 0⟩ ∧ Ow (w1.alloc (.cells #[.slice (some ⟨g, 0, none⟩) L.length L.length, .int .i64 h.who, .int .i64 h.has, .int .i64 h.kept, .int .i64 h.last] 66)) w1.heap.size (.slice (some ⟨g, 0, none⟩) L.length L.length) (.int .i64 h.who) (.int .i64 h.has) (.int .i64 h.kept) (.int .i64 h.last) ∧ (w1.alloc (.cells #[.slice (some ⟨g, 0, none⟩) L.length L.length, .int .i64 h.who, .int .i64 h.has, .int .i64 h.kept, .int .i64 h.last] 66)).cell? ⟨w.heap.size + 1 + 1, 0, none⟩ = some (.string word) ∧ g < (w1.alloc (.cells #[.slice (some ⟨g, 0, none⟩) L.length L.length, .int .i64 h.who, .int .i64 h.has, .int .i64 h.kept, .int .i64 h.last] 66)).heap.size ∧ RdK (w1.alloc (.cells #[.slice (some ⟨g, 0, none⟩) L.length L.length, .int .i64 h.who, .int .i64 h.has, .int .i64 h.kept, .int .i64 h.last] 66)) (some ⟨g, 0, none⟩) L) :=
     ⟨HB1.out.alloc HB1.out.size _, hat_below HZ1.out ((Below.refl _ _).alloc (Nat.le_refl _) _), ow_new w1 _ _ _ _ _ _, (((Below.refl _ w1).alloc (Nat.le_refl _) _).cell (p := ⟨w.heap.size + 1 + 1, 0, none⟩) (cell_lt HW1.out)).trans HW1.out, by simp; omega, hr.below ((Below.refl _ _).alloc (Nat.le_refl _) _)⟩
   clear HB1 HZ1 HW1 hr hg hok
   go_upto_region 2 with fail
   generalize w1.alloc (.cells #[.slice (some ⟨g, 0, none⟩) L.length L.length, .int .i64 h.who, .int .i64 h.has, .int .i64 h.kept, .int .i64 h.last] 66) = V2 at P2 ⊢
   generalize w1.heap.size = bb at P2 hzb ⊢
   have HO2 : Hid (Calls Tryz.prog 51 #[.agg #[.slice (some ⟨g, 0, none⟩) L.length L.length, .int .i64 h.who, .int .i64 h.has, .int .i64 h.kept, .int .i64 h.last], .func (.func 54) #[] #[.pointer (some ⟨bb, 0, none⟩), .pointer (some ⟨w.heap.size + 1 + 1, 0, none⟩)]] V2 fun e w' => ((∃ (g : Nat) (T : List K) (h2 : Hd), e = .returned (.tuple #[.agg #[.slice (some ⟨g, 0, none⟩) T.length T.length, .int .i64 h2.who, .int .i64 h2.has, .int .i64 h2.kept, .int .i64 h2.last], .bool true]) ∧ g < w'.heap.size ∧ RdK w' (some ⟨g, 0, none⟩) T ∧ (tieB L h word = true ∧ T = L ++ [tieK L h word] ∧ h2 = ⟨h.who, orB h.has (2 ^ L.length), orB h.has (2 ^ L.length), (L.length : Int)⟩)) ∨ (e = .returned (.tuple #[.agg #[.slice (some ⟨g, 0, none⟩) L.length L.length, .int .i64 h.who, .int .i64 h.has, .int .i64 h.kept, .int .i64 h.last], .bool false]) ∧ tieB L h word = false)) ∧ Below V2.heap.size V2 w') :=
     orNoneO 54 (enters_of Tryz.func54 (by kernel_rfl) rfl) _ _ (some ⟨g, 0, none⟩) L.length L.length h.who h.has h.kept h.last (fun T h2 => tieB L h word = true ∧ T = L ++ [tieK L h word] ∧ h2 = ⟨h.who, orB h.has (2 ^ L.length), orB h.has (2 ^ L.length), (L.length : Int)⟩) (tieB L h word = false) V2 (fun X hX => ties2 g bb (w.heap.size + 1 + 1) L h word X (P2.out.2.2.1.below hX) ((hX.cell (p := ⟨w.heap.size + 1 + 1, 0, none⟩) (cell_lt P2.out.2.2.2.1)).trans P2.out.2.2.2.1) hi hws (Nat.lt_of_lt_of_le P2.out.2.2.2.2.1 hX.size) (P2.out.2.2.2.2.2.below hX) ((HSS.out.1.below P2.out.1).below hX) ((HSS.out.2.1.below P2.out.1).below hX) ((HSS.out.2.2.below P2.out.1).below hX))
   obtain ⟨_, x0, x1, x2, x3, x4, _, _, _, _, _⟩ := P2.out.2.2.1
   go_wp2_with fail
   refine HO2.out.mono ?_
   clear HO2 x0 x1 x2 x3 x4 HSS
   rintro e w3 ⟨hp, hb3⟩
   obtain ⟨g2, T, h2, b, hE, hg2, hr2, hlen, hq⟩ : ∃ (g2 : Nat) (T : List K) (h2 : Hd) (b : Bool), e = .returned (.tuple #[.agg #[.slice (some ⟨g2, 0, none⟩) T.length T.length, .int .i64 h2.who, .int .i64 h2.has, .int .i64 h2.kept, .int .i64 h2.last], .bool b]) ∧ g2 < w3.heap.size ∧ RdK w3 (some ⟨g2, 0, none⟩) T ∧ T.length ≤ 61 ∧ (tiesL L h word = T ∧ tiesH L h word = h2 ∧ tiesB L h word = b) := by
     rcases hp with ⟨g3, T3, h3, e1, e2, e3, e4, e5, e6⟩ | ⟨e1, e2⟩
     · refine ⟨g3, T3, h3, true, e1, e2, e3, by rw [e5]; simp; omega, ?_, ?_, ?_⟩
       · rw [HTL.out.1, e4, e5]; rfl
       · rw [HTL.out.2.1, e4, e6]; rfl
       · rw [HTL.out.2.2, e4]
     · refine ⟨g, L, h, false, e1, Nat.lt_of_lt_of_le P2.out.2.2.2.2.1 hb3.size, P2.out.2.2.2.2.2.below hb3, by omega, ?_, ?_, ?_⟩
       · rw [HTL.out.1, e2]; rfl
       · rw [HTL.out.2.1, e2]; rfl
       · rw [HTL.out.2.2, e2]
   have HQ : Hid (tiesL L h word = T ∧ tiesH L h word = h2 ∧ tiesB L h word = b) := hq
   clear hp hq HTL
   subst hE
   have P3 : Hid (Below w.heap.size w (w3.alloc (.cells #[.slice (some ⟨g2, 0, none⟩) T.length T.length, .int .i64 h2.who, .int .i64 h2.has, .int .i64 h2.kept, .int .i64 h2.last] 66)) ∧ HAt (w3.alloc (.cells #[.slice (some ⟨g2, 0, none⟩) T.length T.length, .int .i64 h2.who, .int .i64 h2.has, .int .i64 h2.kept, .int .i64 h2.last] 66)) (w.heap.size + 1 + 1 + 1) 0 ⟨0, 0, 0, 0⟩ ∧ Ow (w3.alloc (.cells #[.slice (some ⟨g2, 0, none⟩) T.length T.length, .int .i64 h2.who, .int .i64 h2.has, .int .i64 h2.kept, .int .i64 h2.last] 66)) w3.heap.size (.slice (some ⟨g2, 0, none⟩) T.length T.length) (.int .i64 h2.who) (.int .i64 h2.has) (.int .i64 h2.kept) (.int .i64 h2.last) ∧ RdK (w3.alloc (.cells #[.slice (some ⟨g2, 0, none⟩) T.length T.length, .int .i64 h2.who, .int .i64 h2.has, .int .i64 h2.kept, .int .i64 h2.last] 66)) (some ⟨g2, 0, none⟩) T) :=
     ⟨(P2.out.1.trans (hb3.mono P2.out.1.size)).alloc (P2.out.1.trans (hb3.mono P2.out.1.size)).size _, hat_below (hat_below P2.out.2.1 hb3) ((Below.refl _ _).alloc (Nat.le_refl _) _), ow_new w3 _ _ _ _ _ _, hr2.below ((Below.refl _ _).alloc (Nat.le_refl _) _)⟩
   clear P2 hr2 hg2 hb3
   go_upto_region 5 with fail
   generalize w3.alloc (.cells #[.slice (some ⟨g2, 0, none⟩) T.length T.length, .int .i64 h2.who, .int .i64 h2.has, .int .i64 h2.kept, .int .i64 h2.last] 66) = V4 at P3 ⊢
   generalize w3.heap.size = ab at P3 ⊢
   have HB4 : Hid (Below w.heap.size w V4) := P3.out.1
   have HZ4 : Hid (HAt V4 (w.heap.size + 1 + 1 + 1) 0 ⟨0, 0, 0, 0⟩) := P3.out.2.1
   have HOB : Hid (∀ X : World, Below V4.heap.size V4 X → Ow X ab (.slice (some ⟨g2, 0, none⟩) T.length T.length) (.int .i64 h2.who) (.int .i64 h2.has) (.int .i64 h2.kept) (.int .i64 h2.last)) := fun X hX => P3.out.2.2.1.below hX
   have HRK : Hid (RdK V4 (some ⟨g2, 0, none⟩) T) := P3.out.2.2.2
   obtain ⟨_, x0, x1, x2, x3, x4, _, _, _, _, _⟩ := P3.out.2.2.1
   clear P3
   have hsz := HB4.out.size
   have HZF : Hid (∀ X : World, Below V4.heap.size V4 X → Below w.heap.size w X ∧ HAt X (w.heap.size + 1 + 1 + 1) 0 ⟨0, 0, 0, 0⟩) := fun X hX => ⟨HB4.out.trans (hX.mono HB4.out.size), hat_below HZ4.out hX⟩
   have HLO : Hid (∀ X : World, Below V4.heap.size V4 X → X.heap.size = V4.heap.size → Calls Tryz.prog 56 #[.slice (some ⟨g2, 0, none⟩) T.length T.length] X fun e w' => e = .returned (.slice (some ⟨V4.heap.size, 0, none⟩) T.length T.length) ∧ Hid (Lc.Made w' V4.heap.size T.length T T.length) ∧ Hid (Below V4.heap.size V4 w')) := fun X hX hs => (Lc.laceOut g2 0 T.length T X (by omega) (HRK.out.below hX)).mono fun e w' q => by
     obtain ⟨e1, e2, e3⟩ := q
     rw [hs] at e1 e2 e3
     exact ⟨e1, e2, hX.trans e3⟩
   have hz4 : w.heap.size + 1 + 1 + 1 < V4.heap.size := HZ4.out.lt
   clear HB4 HZ4 HRK
   go_region_law (first
     | (rw [if_pos (by simp [Region.wanted])]
        go_simp
        go_at_call 56
        refine (HLO.out _ (by first | exact Below.refl _ _ | exact (Below.refl _ _).drew) (by rfl)).mono ?_
        rintro e W1 ⟨rfl, HM1, HB1⟩
        obtain ⟨_, y0, y1, y2, y3, y4, _, _, _, _, _⟩ := HOB.out W1 HB1.out)
     | (rw [if_pos (by simp [Region.wanted])]
        go_simp
        go_at_call 57
        refine (handedOut _ h2 _).mono ?_
        rintro e W2 ⟨rfl, hb2⟩
        have HB2 : Hid (Below V4.heap.size V4 W2) := HB1.out.trans (hb2.mono HB1.out.size)
        have HM2 : Hid (Lc.Made W2 V4.heap.size T.length T T.length) := HM1.out.below hb2
        have HZ2 := (HZF.out W2 HB2.out).2
        obtain ⟨z0, z1, z2, z3⟩ := cellsH HZ2
        have f0 := HZ2.f0
        have f1 := HZ2.f1
        have f2 := HZ2.f2
        have f3 := HZ2.f3
        simp only [Nat.zero_add] at f1 f2 f3
        have HZZ : Hid (HAt W2 (w.heap.size + 1 + 1 + 1) 0 ⟨0, 0, 0, 0⟩) := HZ2))
   all_goals
     obtain ⟨q0, q1, q2, q3⟩ := hput HZZ.out (.int .i64 h2.who) (.int .i64 h2.has) (.int .i64 h2.kept) (.int .i64 h2.last)
     have HE : Hid (Below w.heap.size w ((((W2.setCell ⟨w.heap.size + 1 + 1 + 1, 0, none⟩ (.int .i64 h2.who)).setCell ⟨w.heap.size + 1 + 1 + 1, 1, none⟩ (.int .i64 h2.has)).setCell ⟨w.heap.size + 1 + 1 + 1, 2, none⟩ (.int .i64 h2.kept)).setCell ⟨w.heap.size + 1 + 1 + 1, 3, none⟩ (.int .i64 h2.last)) ∧ Lc.Made ((((W2.setCell ⟨w.heap.size + 1 + 1 + 1, 0, none⟩ (.int .i64 h2.who)).setCell ⟨w.heap.size + 1 + 1 + 1, 1, none⟩ (.int .i64 h2.has)).setCell ⟨w.heap.size + 1 + 1 + 1, 2, none⟩ (.int .i64 h2.kept)).setCell ⟨w.heap.size + 1 + 1 + 1, 3, none⟩ (.int .i64 h2.last)) V4.heap.size T.length T T.length) := ⟨below_set4 (HZF.out W2 HB2.out).1 (by omega) _ _ _ _, made_set (made_set (made_set (made_set HM2.out (by omega) _) (by omega) _) (by omega) _) (by omega) _⟩
     go_wp2
     refine bodyPost_ret (v := .tuple #[.slice (some ⟨V4.heap.size, 0, none⟩) T.length T.length, .agg #[.int .i64 h2.who, .int .i64 h2.has, .int .i64 h2.kept, .int .i64 h2.last], .bool b]) (by simp [results, Tryz.f19, go_sem, q0, q1, q2, q3]) rfl ?_
     exact ⟨V4.heap.size, by rw [HQ.out.1, HQ.out.2.1, HQ.out.2.2], hsz, by rw [HQ.out.1]; exact HE.out.2, HE.out.1⟩
theorem implTies (g off cap : Nat) (L : List K) (h : Hd) (word : ByteArray) (a : Addr) (w : World) (hlen : L.length ≤ 1099511627776) (hw : WordsOk L) (hk : H64 h) (hws : word.size ≤ 1099511627776) (hr : RdK w (some ⟨g, off, none⟩) L) (hn : NoH w a) (he : HoldsE w 6) (hf : HoldsE w 7) (hu : HoldsE w 5) :
   Calls Tryz.prog 19 #[.slice (some ⟨g, off, none⟩) L.length cap, .agg #[.int .i64 h.who, .int .i64 h.has, .int .i64 h.kept, .int .i64 h.last], .string word] w (TiesMade L h word w) :=
 implTiesA _ cap L h word a w (fun V hV => Lc.laceOf g off cap L V hlen hw (hr.below hV)) hk hws hn he hf hu
end Rm
namespace Rm
open Kn (K okK)
open Bit (bit withB)
open Lc (at' RdK laceB)
open Sg (belows orB bel)
def TiesQ (L : List K) (h : Hd) (word : ByteArray) (w : World) (e : Ending) (w' : World) : Prop :=
 ∃ gx cx, e = .returned (.tuple #[.slice (some ⟨gx, 0, none⟩) (tiesL L h word).length cx, .agg #[.int .i64 (tiesH L h word).who, .int .i64 (tiesH L h word).has, .int .i64 (tiesH L h word).kept, .int .i64 (tiesH L h word).last], .bool (tiesB L h word)]) ∧ (tiesL L h word).length ≤ cx ∧ RdK w' (some ⟨gx, 0, none⟩) (tiesL L h word) ∧ Below w.heap.size w w'
structure LiesT (w : World) (g : Nat) (L : List K) : Prop where
 rd : RdK w (some ⟨g, 0, none⟩) L
 len : L.length ≤ 61
 words : Lc.WordsOk L
 st : STie3 w
theorem LiesT.below {w w' : World} {g : Nat} {L : List K} (h : LiesT w g L) (hb : Below w.heap.size w w') : LiesT w' g L := ⟨h.rd.below hb, h.len, h.words, h.st.below hb⟩
theorem LiesT.toN {w : World} {g : Nat} {L : List K} (h : LiesT w g L) : LiesN w g L := ⟨⟨h.rd, h.len, h.words⟩, h.st.1.1.1⟩
theorem q_spec {L : List K} {h : Hd} {word : ByteArray} {w : World} {e : Ending} {w' : World} (p : TiesPost L h word w e w') : TiesQ L h word w e w' := by
 obtain ⟨v, rfl, ho, hb⟩ := p
 obtain ⟨gx, cx, rfl, hcx, _, _, _, hrd, _⟩ := Lc.ownK_shape ho
 exact ⟨gx, cx, rfl, hcx, hrd, hb⟩
theorem q_made {L : List K} {h : Hd} {word : ByteArray} {w : World} {e : Ending} {w' : World} (p : TiesMade L h word w e w') : TiesQ L h word w e w' := by
 obtain ⟨g, e1, _, hm, hb⟩ := p
 exact ⟨g, _, e1, Nat.le_refl _, Lc.made_rd hm, hb⟩
def ImplTies : Prop := ∀ (g cap : Nat) (L : List K) (h : Hd) (word : ByteArray) (w : World), LiesT w g L → L.length ≤ cap → H64 h → word.size ≤ 1099511627776 → Calls Tryz.prog 19 #[.slice (some ⟨g, 0, none⟩) L.length cap, .agg #[.int .i64 h.who, .int .i64 h.has, .int .i64 h.kept, .int .i64 h.last], .string word] w (TiesQ L h word w)
def ImplNextRound : Prop := ∀ (g cap : Nat) (L : List K) (h : Hd) (w : World), LiesT w g L → L.length ≤ cap → H64 h → Calls Tryz.prog 21 #[.slice (some ⟨g, 0, none⟩) L.length cap, .agg #[.int .i64 h.who, .int .i64 h.has, .int .i64 h.kept, .int .i64 h.last]] w fun e w' => e = .returned (.int .i64 (nextRI L h)) ∧ Below w.heap.size w w'
def ImplDraft : Prop := ∀ (g cap : Nat) (L : List K) (h : Hd) (word : ByteArray) (w : World), LiesT w g L → L.length ≤ cap → H64 h → word.size ≤ 1099511627776 → Calls Tryz.prog 23 #[.slice (some ⟨g, 0, none⟩) L.length cap, .agg #[.int .i64 h.who, .int .i64 h.has, .int .i64 h.kept, .int .i64 h.last], .string word] w fun e w' => e = .returned (.tuple #[.agg #[.int .i64 (draftedK L h word).hand, .int .i64 (draftedK L h word).round, .int .i64 (draftedK L h word).frm, .string (draftedK L h word).word], .bool (draftedB L h word)]) ∧ Below w.heap.size w w'
theorem ties_lies {L : List K} {h : Hd} {word : ByteArray} {w : World} (hst : STie3 w) (hl : L.length ≤ 61) (hw : Lc.WordsOk L) (hwd : word.size ≤ 1099511627776) {e : Ending} {w' : World} (p : TiesQ L h word w e w') :
   ∃ gx cx, e = .returned (.tuple #[.slice (some ⟨gx, 0, none⟩) (tiesL L h word).length cx, .agg #[.int .i64 (tiesH L h word).who, .int .i64 (tiesH L h word).has, .int .i64 (tiesH L h word).kept, .int .i64 (tiesH L h word).last], .bool (tiesB L h word)]) ∧ (tiesL L h word).length ≤ cx ∧ LiesT w' gx (tiesL L h word) ∧ Below w.heap.size w w' := by
 obtain ⟨gx, cx, rfl, hcx, hrd, hb⟩ := p
 refine ⟨gx, cx, rfl, hcx, ⟨hrd, ?_, ?_, hst.below hb⟩, hb⟩
 · unfold tiesL
   split
   · split
     · rename_i q
       unfold tieB at q
       rw [Bool.and_eq_true] at q
       have := q.2
       unfold Lc.takesB at this
       rw [Bool.and_eq_true, decide_eq_true_eq] at this
       simp; omega
     · exact hl
   · simp
 · unfold tiesL
   split
   · split
     · intro k hk
       rw [List.mem_append, List.mem_singleton] at hk
       rcases hk with hk | rfl
       · exact hw k hk
       · unfold tieK draftZ
         split
         · exact hwd
         · show (ByteArray.mk #[]).size ≤ _
           decide
     · exact hw
   · intro k hk; simp at hk
theorem nextRI_ok {L : List K} {h : Hd} (hok : handOkB L h = true) : nextRI L h = nextI L h.has h.last := by unfold nextRI; rw [hok]; rfl
theorem drafted_parts {L : List K} {h : Hd} {word : ByteArray} (q : draftedB L h word = true) : okK (draftedK L h word) = true ∧ (draftedK L h word).round = nextRI L h := by
 have q' := q
 unfold draftedB at q'
 rw [Bool.and_eq_true] at q'
 have hd := q'.2
 unfold draftB at hd
 rw [Bool.and_eq_true] at hd
 unfold draftedK
 rw [if_pos q, nextRI_ok q'.1]
 exact ⟨hd.2, rfl⟩
theorem likeS (W : World) (a b ca cb : Nat) (X : List K) (ha : LiesT W a X) (hb : LiesT W b X) : Calls Tryz.prog 25 #[.slice (some ⟨a, 0, none⟩) X.length ca, .slice (some ⟨b, 0, none⟩) X.length cb] W fun e w' => e = .returned (.bool true) ∧ Below W.heap.size W w' :=
 (likeLace (some ⟨a, 0, none⟩) (some ⟨b, 0, none⟩) ca cb X W (by have := ha.len; omega) ha.rd hb.rd).mono fun e w' ⟨h1, n, h2⟩ => ⟨h1, by rw [h2]; exact ⟨rfl, rfl, rfl, Nat.le_refl _, fun _ _ => rfl⟩⟩
theorem below_bel2 {L : List K} (hl : laceB L = true) {p : Nat} (hp : p < L.length) : Sg.belowI L (p : Int) = Sg.bel L p := by
 unfold Sg.belowI
 rw [if_pos (by unfold Sg.isB; rw [hl]; simp; omega), Int.toNat_natCast]
theorem is_64b {L : List K} {h : Hd} (x : HandIs L h) : H64 h := ⟨by have := x.h0; omega, by have := x.h1; omega, by have := x.k0; omega, by have := x.k1; omega⟩
theorem tied_with {L : List K} {h : Hd} (x : HandIs L h) (h60 : L.length < 60) : Base.withI h.has (L.length : Int) = orB h.has (2 ^ L.length) := by
 have hp := Lc.pow60 L.length (by omega)
 have hwb := Bit.withB_bd h.has x.h0 x.h1 L.length (by omega)
 unfold Base.withI
 rw [(Base.okB_iff _).2 ⟨x.h0, x.h1⟩, (Base.inB_iff _).2 ⟨by omega, by omega⟩]
 simp only [Bool.and_self, if_true, Int.toNat_natCast]
 have hp2 : (2 : Int) ^ L.length < 1152921504606846976 := by
   have e : (2 : Int) ^ L.length * 2 ≤ 1152921504606846976 := by
     have := Lc.pow60 (L.length + 1) (by omega)
     rw [Int.pow_succ] at this
     exact this.2
   omega
 have hob := Sg.orB_bd h.has (2 ^ L.length) x.h0 x.h1 (by omega) hp2
 refine Lc.eq_of_bits _ _ hwb.1 hob.1 fun j => ?_
 rw [Bit.bit_withB h.has x.h0, Sg.bit_orB h.has _ x.h0 (by omega), Sg.bit_pow, Bool.or_comm]
theorem rdK_front {W : World} {gx : Nat} {L : List K} {k : K} (h : RdK W (some ⟨gx, 0, none⟩) (L ++ [k])) : RdK W (some ⟨gx, 0, none⟩) L := by
 by_cases h0 : L = []
 · exact .inl h0
 · rcases h with h | ⟨g, off, e, hg, hc⟩
   · simp at h
   · refine .inr ⟨g, off, e, hg, fun i hi => ?_⟩
     have := hc i (by simp; omega)
     have ea : at' (L ++ [k]) i = at' L i := by unfold Lc.at'; simp [List.getElem?_append_left hi]
     rw [ea] at this
     exact this
theorem okW_size {k : K} (h : okK k = true) : k.word.size ≤ 1099511627776 := by
 unfold Kn.okK at h
 simp only [Bool.and_eq_true] at h
 have := h.2.2.2.2
 unfold Kn.okW at this
 rw [Bool.and_eq_true, decide_eq_true_eq] at this
 omega
end Rm
namespace Rm
open Kn (K okK)
open Lc (at' RdK laceB flat OwnK cellsOf)
open Cur (At)
structure LnSt (c : Nat) (a : Option Addr) (len cap : Nat) (w : World) (B b : Nat) (v : Value) (L : List K) (h : Hd) (wr : World) : Prop where
 at' : At c a len cap wr
 wc : w.heap.size < c
 cB : c < B
 bB : B ≤ b
 bel : Below w.heap.size w wr
 lo : OwnK 36 B wr v L
 l61 : L.length ≤ 61
 wd : ∀ k ∈ L, k.word.size ≤ 13
 ha : HAt wr b 0 h
 ze : HAt wr w.heap.size 0 ⟨0, 0, 0, 0⟩
 h64 : H64 h
theorem LnSt.grown {c : Nat} {a : Option Addr} {len cap : Nat} {w : World} {B b : Nat} {v : Value} {L : List K} {h : Hd} {wr w1 : World} (s : LnSt c a len cap w B b v L h wr) (hA : At c a len cap w1) (hG : wr.grownBy w1 (some c)) : LnSt c a len cap w B b v L h w1 :=
 ⟨hA, s.wc, s.cB, s.bB, s.bel.grown hG s.bel.size (fun k e => by cases e; have := s.wc; omega), ownK_grown s.lo hG s.cB, s.l61, s.wd, hat_grown s.ha hG (by have := s.cB; have := s.bB; omega), hat_grown s.ze hG (by have := s.wc; omega), s.h64⟩
theorem LnSt.below {c : Nat} {a : Option Addr} {len cap : Nat} {w : World} {B b : Nat} {v : Value} {L : List K} {h : Hd} {wr w1 : World} (s : LnSt c a len cap w B b v L h wr) (hb : Below wr.heap.size wr w1) : LnSt c a len cap w B b v L h w1 :=
 ⟨s.at'.below hb, s.wc, s.cB, s.bB, s.bel.trans (hb.mono s.bel.size), Lc.ownK_below s.lo hb, s.l61, s.wd, hat_below s.ha hb, hat_below s.ze hb, s.h64⟩
theorem LnSt.fin {c : Nat} {a : Option Addr} {len cap : Nat} {w : World} {B b : Nat} {v : Value} {L : List K} {h : Hd} {wr : World} (s : LnSt c a len cap w B b v L h wr) (d : Nat) :
   ∃ X, X = ((((wr.setCell ⟨w.heap.size, 0, none⟩ (.int .i64 h.who)).setCell ⟨w.heap.size, 1, none⟩ (.int .i64 h.has)).setCell ⟨w.heap.size, 2, none⟩ (.int .i64 h.kept)).setCell ⟨w.heap.size, 3, none⟩ (.int .i64 h.last)) ∧ HAt X w.heap.size 0 h ∧ DrawnH w (X.drewN d) v L h := by
 obtain ⟨X, hX, hH, hbX, hOX⟩ := put_hand (w1 := w) (h := h) s.ze s.bel v L (ownK_base s.lo (by have := s.wc; have := s.cB; omega))
 refine ⟨X, hX, hH, ⟨⟨⟨hOX.1, hOX.2⟩, s.l61, s.wd, ⟨hbX.os, hbX.tape, hbX.output, hbX.size, hbX.block⟩⟩, s.h64⟩⟩
end Rm
namespace Rm
open Kn (K okK)
open Lc (at' RdK laceB flat OwnK cellsOf)
open Cur (At)
set_option maxHeartbeats 6400000 in
theorem drawDraft (HD : DrawsRoom) (HDC : DrawsRoomC) (a : Option Addr) (len cap : Nat) (w : World) (hl : len ≤ 4096) (hc : Cur.Code w a len) :
   Calls Tryz.prog 22 #[.slice a len cap] w fun e w' => ∃ v L h s, e = .returned (.tuple #[v, .agg #[.int .i64 (h : Hd).who, .int .i64 h.has, .int .i64 h.kept, .int .i64 h.last], .string s]) ∧ DrawnH w w' v L h ∧ s.size ≤ 13 := by
 have HDD : Hid DrawsRoom := HD
 have HDX : Hid DrawsRoomC := HDC
 have HZ : Hid (HAt (w.alloc (.cells #[.int .i64 0, .int .i64 0, .int .i64 0, .int .i64 0] 26)) w.heap.size 0 ⟨0, 0, 0, 0⟩ ∧ Below w.heap.size w (w.alloc (.cells #[.int .i64 0, .int .i64 0, .int .i64 0, .int .i64 0] 26))) := ⟨hat_zero w _, (Below.refl _ _).alloc (Nat.le_refl _) _⟩
 have hc0 := code_below2 hc HZ.out.2
 clear HD HDC
 go_enter Tryz.func22, Tryz.ntmps22
 go_wp2_with fail
 generalize w.alloc (.cells #[.int .i64 0, .int .i64 0, .int .i64 0, .int .i64 0] 26) = w0 at HZ hc0 ⊢
 refine (Cur.new a len cap _ hl hc0).mono ?_
 rintro e w1 ⟨rfl, hA1, hb1⟩
 have HZ1 : Hid (HAt w1 w.heap.size 0 ⟨0, 0, 0, 0⟩ ∧ Below w.heap.size w w1) := ⟨hat_below HZ.out.1 hb1, HZ.out.2.trans (hb1.mono HZ.out.2.size)⟩
 have hw0 : w.heap.size < w0.heap.size := HZ.out.1.lt
 have hlt1 := hA1.lt
 clear HZ hb1
 go_wp2_with fail
 refine (l13Draw HDD.out HDX.out _ a len cap _ hl hA1).mono ?_
 rintro e w2 ⟨v, L, h, rfl, hA2, hG2, hO2, h61, hwd, h64⟩
 have HS3 : Hid (LnSt w0.heap.size a len cap w w1.heap.size w2.heap.size v L h (w2.alloc (.cells #[.int .i64 h.who, .int .i64 h.has, .int .i64 h.kept, .int .i64 h.last] 26))) := by
   have hbb : Below w2.heap.size w2 (w2.alloc (.cells #[.int .i64 h.who, .int .i64 h.has, .int .i64 h.kept, .int .i64 h.last] 26)) := (Below.refl _ _).alloc (Nat.le_refl _) _
   have hb2 : Below w.heap.size w w2 := Draw.below_of_grown HZ1.out.2 (by omega) hG2
   exact ⟨hA2.below hbb, hw0, hlt1, hG2.size, hb2.trans (hbb.mono hb2.size), Lc.ownK_below hO2 hbb, h61, hwd, hat_new w2 h _, hat_below (hat_grown HZ1.out.1 hG2 (by omega)) hbb, h64⟩
 obtain ⟨g, cp, rfl, hcp, _, hgB, _, _, _⟩ := Lc.ownK_shape hO2
 clear hA2 hG2 hO2 hwd h64 HZ1 hA1 hlt1
 go_wp2_with fail
 generalize w2.alloc (.cells #[.int .i64 h.who, .int .i64 h.has, .int .i64 h.kept, .int .i64 h.last] 26) = w3 at HS3 ⊢
 generalize w2.heap.size = b at HS3 ⊢
 generalize w0.heap.size = c at HS3 hw0 ⊢
 refine (Kn.drawWord c a len cap _ hl HS3.out.at').mono ?_
 rintro e w4 ⟨s4, rfl, hs4, hA4, hG4⟩
 have HS4 : Hid (LnSt c a len cap w w1.heap.size b (.slice (some ⟨g, 0, none⟩) L.length cp) L h w4) := HS3.out.grown hA4 hG4
 clear hA4 hG4 HS3
 go_wp2_with fail
 refine (Cur.once c a len cap 12 _ hl (by omega) HS4.out.at').mono ?_
 rintro e w5 ⟨b5, rfl, hA5, hG5⟩
 have HS5 : Hid (LnSt c a len cap w w1.heap.size b (.slice (some ⟨g, 0, none⟩) L.length cp) L h w5) := HS4.out.grown hA5 hG5
 clear hA5 hG5 HS4
 go_upto_if 19 with fail
 go_cut [8] from 20 to 24 (fun sv wx => ∃ s : ByteArray, sv = .string s ∧ s.size ≤ 13 ∧ Hid (LnSt c a len cap w w1.heap.size b (.slice (some ⟨g, 0, none⟩) L.length cp) L h wx))
 case first =>
   cases b5
   · go_wp2_with fail
     go_meet
     exact ⟨s4, rfl, hs4, HS5⟩
   · have HS6 : Hid (LnSt c a len cap w w1.heap.size b (.slice (some ⟨g, 0, none⟩) L.length cp) L h (w5.alloc (.cells #[.string ⟨#[65]⟩, .string ⟨#[97, 98, 99, 100, 101, 102, 103, 104, 105, 106, 107, 108, 109]⟩] 9))) := HS5.out.below ((Below.refl _ _).alloc (Nat.le_refl _) _)
     have k0 : (w5.alloc (.cells #[.string ⟨#[65]⟩, .string ⟨#[97, 98, 99, 100, 101, 102, 103, 104, 105, 106, 107, 108, 109]⟩] 9)).cell? ⟨w5.heap.size, 0, none⟩ = some (.string ⟨#[65]⟩) := by simp
     have k1 : (w5.alloc (.cells #[.string ⟨#[65]⟩, .string ⟨#[97, 98, 99, 100, 101, 102, 103, 104, 105, 106, 107, 108, 109]⟩] 9)).cell? ⟨w5.heap.size, 1, none⟩ = some (.string ⟨#[97, 98, 99, 100, 101, 102, 103, 104, 105, 106, 107, 108, 109]⟩) := by simp
     have hc5 := HS5.out.at'.lt
     go_wp2_with fail
     refine (Cur.below c a len cap 2 _ hl (by omega) HS6.out.at').mono ?_
     rintro e w7 ⟨x, rfl, hx0, hx2, hA7, hG7⟩
     have hx2 := hx2 (by omega)
     have HS7 : Hid (LnSt c a len cap w w1.heap.size b (.slice (some ⟨g, 0, none⟩) L.length cp) L h w7) := HS6.out.grown hA7 hG7
     have l0 := hG7.cell k0 (by simp; omega)
     have l1 := hG7.cell k1 (by simp; omega)
     clear hA7 hG7 HS6 HS5 k0 k1
     rcases (show x = 0 ∨ x = 1 by omega) with rfl | rfl
     · go_wp2_with fail
       go_meet
       exact ⟨_, rfl, by decide, HS7⟩
     · go_wp2_with fail
       go_meet
       exact ⟨_, rfl, by decide, HS7⟩
 case rest =>
   obtain ⟨s9, rfl, hs9, HS9⟩ := hcut
   clear HS5
   obtain ⟨X, hX, hH, hPo⟩ := HS9.out.fin 1
   obtain ⟨c0, c1, c2, c3⟩ := cellsH HS9.out.ha
   obtain ⟨z0, z1, z2, z3⟩ := cellsH HS9.out.ze
   obtain ⟨m0, m1, m2, m3⟩ := cellsH hH
   have f0 := HS9.out.ze.f0
   have f1 := HS9.out.ze.f1
   have f2 := HS9.out.ze.f2
   have f3 := HS9.out.ze.f3
   simp only [Nat.zero_add] at f1 f2 f3
   have HX : Hid (X = _) := hX
   have HPO : Hid _ := hPo
   clear hX hPo hH HS9
   generalize w.heap.size = qb at c0 c1 c2 c3 z0 z1 z2 z3 m0 m1 m2 m3 f0 f1 f2 f3 HX hw0 ⊢
   go_wp2_with fail
   go_region
   all_goals go_wp2
   all_goals rw [← HX.out]
   all_goals refine bodyPost_ret (v := .tuple #[.slice (some ⟨g, 0, none⟩) L.length cp, .agg #[.int .i64 h.who, .int .i64 h.has, .int .i64 h.kept, .int .i64 h.last], .string s9]) (by simp [results, Tryz.f22, go_sem, m0, m1, m2, m3]) rfl ?_
   all_goals exact ⟨_, L, h, _, rfl, HPO.out, hs9⟩
set_option maxHeartbeats 800000 in
theorem drawTies (HD : DrawsRoom) (HDC : DrawsRoomC) (a : Option Addr) (len cap : Nat) (w : World) (hl : len ≤ 4096) (hc : Cur.Code w a len) :
   Calls Tryz.prog 18 #[.slice a len cap] w fun e w' => ∃ v L h s, e = .returned (.tuple #[v, .agg #[.int .i64 (h : Hd).who, .int .i64 h.has, .int .i64 h.kept, .int .i64 h.last], .string s]) ∧ DrawnH w w' v L h ∧ s.size ≤ 13 := by
 have HZ : Hid (HAt (w.alloc (.cells #[.int .i64 0, .int .i64 0, .int .i64 0, .int .i64 0] 26)) w.heap.size 0 ⟨0, 0, 0, 0⟩ ∧ Below w.heap.size w (w.alloc (.cells #[.int .i64 0, .int .i64 0, .int .i64 0, .int .i64 0] 26))) := ⟨hat_zero w _, (Below.refl _ _).alloc (Nat.le_refl _) _⟩
 have hc0 := code_below2 hc HZ.out.2
 go_enter Tryz.func18, Tryz.ntmps18
 go_wp2_with fail
 generalize w.alloc (.cells #[.int .i64 0, .int .i64 0, .int .i64 0, .int .i64 0] 26) = w0 at HZ hc0 ⊢
 have hw0 : w.heap.size < w0.heap.size := HZ.out.1.lt
 refine (drawDraft HD HDC a len cap _ hl hc0).mono ?_
 rintro e w2 ⟨v, L, h, k, rfl, hD, hk⟩
 have hz2 := hat_below HZ.out.1 hD.dr.bel
 have hb2 : Below w.heap.size w w2 := HZ.out.2.trans (hD.dr.bel.mono HZ.out.2.size)
 obtain ⟨X, hX, hH, hbX, hOX⟩ := put_hand (w1 := w0) (h := h) hz2 hb2 v L (ownK_base hD.dr.own (by omega))
 have HF : Hid (DrawnH w X v L h) := ⟨⟨hOX, hD.dr.len, hD.dr.word, hbX⟩, hD.h64⟩
 obtain ⟨z0, z1, z2, z3⟩ := cellsH hz2
 obtain ⟨m0, m1, m2, m3⟩ := cellsH hH
 have f0 := hz2.f0
 have f1 := hz2.f1
 have f2 := hz2.f2
 have f3 := hz2.f3
 simp only [Nat.zero_add] at f1 f2 f3
 have HX : Hid (X = _) := hX
 clear hX hH hbX hOX hz2 hb2 hD HZ hc0
 go_wp2
 rw [← HX.out]
 refine bodyPost_ret (v := .tuple #[v, .agg #[.int .i64 h.who, .int .i64 h.has, .int .i64 h.kept, .int .i64 h.last], .string k]) (by simp [results, Tryz.f18, go_sem, m0, m1, m2, m3]) rfl ?_
 exact ⟨v, L, h, k, rfl, HF.out, hk⟩
set_option maxHeartbeats 800000 in
theorem drawNextRound (HD : DrawsRoom) (HDC : DrawsRoomC) (a : Option Addr) (len cap : Nat) (w : World) (hl : len ≤ 4096) (hc : Cur.Code w a len) :
   Calls Tryz.prog 20 #[.slice a len cap] w fun e w' => ∃ v L h, e = .returned (.tuple #[v, .agg #[.int .i64 (h : Hd).who, .int .i64 h.has, .int .i64 h.kept, .int .i64 h.last]]) ∧ DrawnH w w' v L h := by
 have HZ : Hid (HAt (w.alloc (.cells #[.int .i64 0, .int .i64 0, .int .i64 0, .int .i64 0] 26)) w.heap.size 0 ⟨0, 0, 0, 0⟩ ∧ Below w.heap.size w (w.alloc (.cells #[.int .i64 0, .int .i64 0, .int .i64 0, .int .i64 0] 26))) := ⟨hat_zero w _, (Below.refl _ _).alloc (Nat.le_refl _) _⟩
 have hc0 := code_below2 hc HZ.out.2
 go_enter Tryz.func20, Tryz.ntmps20
 go_wp2_with fail
 generalize w.alloc (.cells #[.int .i64 0, .int .i64 0, .int .i64 0, .int .i64 0] 26) = w0 at HZ hc0 ⊢
 have hw0 : w.heap.size < w0.heap.size := HZ.out.1.lt
 refine (drawHandOk HD HDC a len cap _ hl hc0).mono ?_
 rintro e w2 ⟨v, L, h, rfl, hD⟩
 have hz2 := hat_below HZ.out.1 hD.dr.bel
 have hb2 : Below w.heap.size w w2 := HZ.out.2.trans (hD.dr.bel.mono HZ.out.2.size)
 obtain ⟨X, hX, hH, hbX, hOX⟩ := put_hand (w1 := w0) (h := h) hz2 hb2 v L (ownK_base hD.dr.own (by omega))
 have HF : Hid (DrawnH w X v L h) := ⟨⟨hOX, hD.dr.len, hD.dr.word, hbX⟩, hD.h64⟩
 obtain ⟨z0, z1, z2, z3⟩ := cellsH hz2
 obtain ⟨m0, m1, m2, m3⟩ := cellsH hH
 have f0 := hz2.f0
 have f1 := hz2.f1
 have f2 := hz2.f2
 have f3 := hz2.f3
 simp only [Nat.zero_add] at f1 f2 f3
 have HX : Hid (X = _) := hX
 clear hX hH hbX hOX hz2 hb2 hD HZ hc0
 go_wp2
 rw [← HX.out]
 refine bodyPost_ret (v := .tuple #[v, .agg #[.int .i64 h.who, .int .i64 h.has, .int .i64 h.kept, .int .i64 h.last]]) (by simp [results, Tryz.f20, go_sem, m0, m1, m2, m3]) rfl ?_
 exact ⟨v, L, h, rfl, HF.out⟩
end Rm
end Go.Proofs.YtfjmenhofllchaaGreatDoor
