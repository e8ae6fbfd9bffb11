/-
 What the program's HandOk, Keeps and Forgets answer: as the model's; the variable errNoHand holds an error of errors.New's make.
-/
import Derived.Test.YtfjmenhofllchaaGreatDoorQag14
set_option linter.unusedVariables false
namespace Go.Proofs.YtfjmenhofllchaaGreatDoor
open Go.RowKit
set_option maxRecDepth 100000
set_option linter.unusedVariables false
namespace Rm
open Kn (K okK)
open Bit (bit withB)
open Lc (at' RdK laceB WordsOk)
open Sg (bel belows closedTo orB)
set_option maxHeartbeats 1600000 in
theorem implHandOkA (ao : Option Addr) (cap : Nat) (L : List K) (h : Hd) (a : Addr) (w : World) (hla0 : ∀ V : World, Below w.heap.size w V → Calls Tryz.prog 92 #[.slice ao L.length cap] V (Lc.LacePost L V)) (hk : H64 h) (hn : NoH w a) :
   Calls Tryz.prog 13 #[.slice ao L.length cap, .agg #[.int .i64 h.who, .int .i64 h.has, .int .i64 h.kept, .int .i64 h.last]] w fun e w' => e = .returned (.bool (handOkB L h)) ∧ Below w.heap.size w w' := by
 have P0 : Hid (Below w.heap.size w (w.alloc (.cells #[.int .i64 h.who, .int .i64 h.has, .int .i64 h.kept, .int .i64 h.last] 26)) ∧ HAt (w.alloc (.cells #[.int .i64 h.who, .int .i64 h.has, .int .i64 h.kept, .int .i64 h.last] 26)) w.heap.size 0 h) := ⟨(Below.refl _ _).alloc (Nat.le_refl _) _, hat_new w h _⟩
 go_enter Tryz.func13, Tryz.ntmps13
 go_upto_region 1 with fail
 generalize w.alloc (.cells #[.int .i64 h.who, .int .i64 h.has, .int .i64 h.kept, .int .i64 h.last] 26) = V at P0 ⊢
 have HB0 : Hid (Below w.heap.size w V) := P0.out.1
 obtain ⟨a0, a1, a2, a3⟩ := cellsH P0.out.2
 have ho := ownerOfA ao cap L h a V (fun X hX => hla0 X (HB0.out.trans (hX.mono HB0.out.size))) hk (hn.below HB0.out)
 clear P0 hla0 hn
 go_wp2_with fail
 refine ho.mono ?_
 clear ho
 intro e w1 hp
 rcases hp with ⟨hl, g1, rfl, hg1, hr1, hb1⟩ | ⟨hl, rfl, hb1⟩
 all_goals
   have HT : Hid (handOkB L h = _) := hl
   have HB1 : Hid (Below w.heap.size w w1) := HB0.out.trans (hb1.mono HB0.out.size)
   clear hl hb1 HB0
   go_wp2
   go_ret
   exact ⟨by rw [HT.out]; rfl, HB1.out.alloc HB1.out.size _⟩
theorem implHandOk (g off cap : Nat) (L : List K) (h : Hd) (a : Addr) (w : World) (hlen : L.length ≤ 1099511627776) (hw : WordsOk L) (hk : H64 h) (hr : RdK w (some ⟨g, off, none⟩) L) (hn : NoH w a) :
   Calls Tryz.prog 13 #[.slice (some ⟨g, off, none⟩) L.length cap, .agg #[.int .i64 h.who, .int .i64 h.has, .int .i64 h.kept, .int .i64 h.last]] w fun e w' => e = .returned (.bool (handOkB L h)) ∧ Below w.heap.size w w' :=
 implHandOkA (some ⟨g, off, none⟩) cap L h a w (fun V hV => Lc.laceOf g off cap L V hlen hw (hr.below hV)) hk hn
end Rm
end Go.Proofs.YtfjmenhofllchaaGreatDoor
