/-
  What one act does in a room, whatever act it is: the room stays one; nothing else is changed.
-/
import Derived.Test.YtfjmenhofllchaaGreatDoorRoomN
import Derived.Test.YtfjmenhofllchaaGreatDoorRoomK
import Derived.Test.YtfjmenhofllchaaGreatDoorRoomJ
namespace Go.Proofs.YtfjmenhofllchaaGreatDoor
open Go.RowKit
set_option maxRecDepth 100000
namespace Rm

open Kn (K in3)

/-- what comes of an act in a right room -/
def actO (L : List K) (hs : Nat → Hd) (bad : Int) (a : Ac) : Out :=
  if a.kind = 5 then badOut L hs bad a
  else if (in3 a.who && (a.who != bad)) = false then ⟨false, L, hs⟩
  else if a.kind = 1 then tieOut L hs a.who.toNat a.word
  else if a.kind = 2 then learnOut L hs a.who.toNat a.knot
  else if a.kind = 3 then ⟨true, L, upd hs a.who.toNat { hs a.who.toNat with kept := (hs a.who.toNat).has }⟩
  else if a.kind = 4 then ⟨true, L, upd hs a.who.toNat { hs a.who.toNat with has := (hs a.who.toNat).kept }⟩
  else ⟨false, L, hs⟩

theorem l18Do (B p : Nat) (R : Ro) (a : Ac) (w : World) (hr : RoAt B w p R) (hwd : a.word.size ≤ 1099511627776) : Calls Tryz.prog 114 #[.pointer (some ⟨p, 0, none⟩), acV a] w (DoPost B p R (actO R.L R.hs R.bad a) w) := by
  by_cases h5 : a.kind = 5
  · exact doBad B p R a w hr h5 hwd _ (by show _ = _; unfold actO; rw [if_pos h5])
  · cases hg : goodB R a
    · exact doNot B p R a w hr h5 hg _ (by show _ = _; unfold actO; rw [if_neg h5, if_pos (show (in3 a.who && (a.who != R.bad)) = false from hg)])
    · have hn : ¬ (in3 a.who && (a.who != R.bad)) = false := by rw [show (in3 a.who && (a.who != R.bad)) = true from hg]; simp
      by_cases h1 : a.kind = 1
      · exact doTie B p R a w hr h1 hg hwd _ (by show _ = _; unfold actO; rw [if_neg h5, if_neg hn, if_pos h1])
      · by_cases h2 : a.kind = 2
        · exact doShow B p R a w hr h2 hg _ (by show _ = _; unfold actO; rw [if_neg h5, if_neg hn, if_neg h1, if_pos h2])
        · by_cases h3 : a.kind = 3
          · exact doKeep B p R a w hr h3 hg _ (by show _ = _; unfold actO; rw [if_neg h5, if_neg hn, if_neg h1, if_neg h2, if_pos h3])
          · by_cases h4 : a.kind = 4
            · exact doForget B p R a w hr h4 hg _ (by show _ = _; unfold actO; rw [if_neg h5, if_neg hn, if_neg h1, if_neg h2, if_neg h3, if_pos h4])
            · exact doElse B p R a w hr h1 h2 h3 h4 h5 hg _ (by show _ = _; unfold actO; rw [if_neg h5, if_neg hn, if_neg h1, if_neg h2, if_neg h3, if_neg h4])

end Rm
end Go.Proofs.YtfjmenhofllchaaGreatDoor
