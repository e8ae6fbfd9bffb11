/-
  What the program's own KnotOk answers, function by function: whether the hand, the round, the set and the word are right; for words of at most 2^40 bytes.
-/
import Derived.Test.YtmhcbmcfhopiiaaKnotM
namespace Go.Proofs.Ytmhcbmcfhopiiaa
open Go.RowKit
set_option maxRecDepth 100000
namespace Kn

def digB (c : UInt8) : Bool := decide (48 ≤ c.toNat) && decide (c.toNat ≤ 57)

theorem known (h : Int) (w : World) : Calls Try.prog 8 #[.int .i64 h] w fun e w' => e = .returned (.bool (in3 h)) ∧ w = w' := by
  by_cases h1 : 0 ≤ h
  · go_enter Try.func8, Try.ntmps8
    go_wp2
    go_ret
    exact ⟨Base.ret_bool (by rw [Bool.eq_iff_iff]; simp [in3, h1]; omega), rfl⟩
  · go_enter Try.func8, Try.ntmps8
    go_wp2
    go_ret
    exact ⟨Base.ret_bool (by simp [in3]; omega), rfl⟩

theorem okK_eq (h r f : Int) (s : ByteArray) : okK ⟨h, r, f, s⟩ = (in3 h && (in19 r && ((Base.okB f && both0 r f) && okW s))) := by
  unfold okK; simp only [Bool.and_assoc]

end Kn
end Go.Proofs.Ytmhcbmcfhopiiaa
