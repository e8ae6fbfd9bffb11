/-
  The model's cursor, exactly: what it answers hangs on its own cells and the code's byte alone; for codes of at most 4096 bytes.
-/
import Derived.Test.YtcbfdfddifmeiaaCur
namespace Go.Proofs.Ytcbfdfddifmeiaa
open Go.RowKit
set_option maxRecDepth 100000
namespace Cur

def stepH (h : Int) : Int := wrap64 (wrap64 (h * 6364136223846793005) + 1442695040888963407)
def mixH (h : Int) : Int := bits .and .i64 (bits .xor .i64 (h / 8589934592) (h / 35184372088832)) 255
/-- the byte that comes -/
def byteV (len : Nat) (i h z : Int) : Int := if i < (len : Int) then bits .and .i64 (mixH (stepH h) + z) 255 else mixH (stepH h)

/-- what the cursor's answer hangs on -/
structure AtX (c : Nat) (a : Option Addr) (len cap : Nat) (w : World) (i h z : Int) : Prop where
  at' : At c a len cap w
  ci : w.cell? ⟨c, 1, none⟩ = some (.int .i64 i)
  i0 : 0 ≤ i
  i1 : i ≤ (len : Int)
  ch : w.cell? ⟨c, 2, none⟩ = some (.int .i64 h)
  h0 : -9223372036854775808 ≤ h
  h1 : h ≤ 9223372036854775807
  cz : i < (len : Int) → ∃ b off, a = some ⟨b, off, none⟩ ∧ w.cell? ⟨b, off + i.toNat, none⟩ = some (.int .u8 z)
  z0 : 0 ≤ z
  z1 : z ≤ 255

theorem atX_of {c : Nat} {a : Option Addr} {len cap : Nat} {w : World} (x : At c a len cap w) : ∃ i h z, AtX c a len cap w i h z := by
  obtain ⟨i, ci, i0, i1⟩ := x.i
  obtain ⟨h, ch, h0, h1⟩ := x.h
  by_cases hlt : i < (len : Int)
  · rcases x.bytes with e | ⟨b, off, ha, _, _, hcell⟩
    · exfalso; omega
    · obtain ⟨z, cz, hz0, hz1⟩ := hcell i.toNat (by omega)
      exact ⟨i, h, z, x, ci, i0, i1, ch, h0, h1, fun _ => ⟨b, off, ha, cz⟩, hz0, hz1⟩
  · exact ⟨i, h, 0, x, ci, i0, i1, ch, h0, h1, fun e => absurd e hlt, by omega, by omega⟩

theorem AtX.drewN {c : Nat} {a : Option Addr} {len cap : Nat} {w : World} {i h z : Int} (x : AtX c a len cap w i h z) (n : Nat) : AtX c a len cap (w.drewN n) i h z := ⟨x.at'.drewN n, x.ci, x.i0, x.i1, x.ch, x.h0, x.h1, x.cz, x.z0, x.z1⟩

set_option maxHeartbeats 1600000 in
theorem byteX (c : Nat) (a : Option Addr) (len cap : Nat) (i h z : Int) (w : World) (hl : len ≤ 4096) (hx : AtX c a len cap w i h z) :
    Calls Try.prog 46 #[.pointer (some ⟨c, 0, none⟩)] w fun e w' => e = .returned (.int .i64 (byteV len i h z)) ∧ At c a len cap w' ∧ w.grownBy w' (some c) := by
  have hc := hx.at'
  have ch := hx.ch
  have ci := hx.ci
  have f2 := hc.f2
  have hh0 := hx.h0
  have hh1 := hx.h1
  have hi0 := hx.i0
  have hi1 := hx.i1
  have hb := wrap64_bd (wrap64 (h * 6364136223846793005) + 1442695040888963407)
  have HA : Hid (At c a len cap (w.setCell ⟨c, 2, none⟩ (.int .i64 (wrap64 (wrap64 (h * 6364136223846793005) + 1442695040888963407))))) := hc.setH _ hb.1 hb.2
  have HG : Hid (w.grownBy (w.setCell ⟨c, 2, none⟩ (.int .i64 (wrap64 (wrap64 (h * 6364136223846793005) + 1442695040888963407)))) (some c)) := grownBy_set (World.grownBy.refl _ _) _ _
  have HC2 : Hid ((w.setCell ⟨c, 2, none⟩ (.int .i64 (wrap64 (wrap64 (h * 6364136223846793005) + 1442695040888963407)))).cell? ⟨c, 2, none⟩ = some (.int .i64 (wrap64 (wrap64 (h * 6364136223846793005) + 1442695040888963407)))) := World.cell?_setCell_same _ _ _ ch
  have HC1 : Hid ((w.setCell ⟨c, 2, none⟩ (.int .i64 (wrap64 (wrap64 (h * 6364136223846793005) + 1442695040888963407)))).cell? ⟨c, 1, none⟩ = some (.int .i64 i)) := (World.cell?_setCell_other _ _ _ _ (by simp)).trans ci
  have HZ : Hid (i < (len : Int) → ∃ b off, a = some ⟨b, off, none⟩ ∧ (w.setCell ⟨c, 2, none⟩ (.int .i64 (wrap64 (wrap64 (h * 6364136223846793005) + 1442695040888963407)))).cell? ⟨b, off + i.toNat, none⟩ = some (.int .u8 z)) := fun hlt => by
    obtain ⟨b, off, ha, cz⟩ := hx.cz hlt
    refine ⟨b, off, ha, ?_⟩
    rcases hc.bytes with e | ⟨b', off', ha', hne, _, _⟩
    · exfalso; omega
    · rw [ha] at ha'; injection ha' with e; injection e with e1 e2; subst e1 e2
      exact (World.cell?_setCell_other _ _ _ _ (by intro e; injection e with e _; exact hne e.symm)).trans cz
  have HV : Hid (byteV len i h z = if i < (len : Int) then bits .and .i64 (mixH (stepH h) + z) 255 else mixH (stepH h)) := rfl
  have HST : Hid (stepH h = wrap64 (wrap64 (h * 6364136223846793005) + 1442695040888963407)) := rfl
  have hz0 := hx.z0
  have hz1 := hx.z1
  clear hb hx
  go_enter Try.func46, Try.ntmps46
  go_wp2_with fail
  clear ch f2 hc hh0 hh1 ci
  generalize w.setCell ⟨c, 2, none⟩ (.int .i64 (wrap64 (wrap64 (h * 6364136223846793005) + 1442695040888963407))) = w1 at HA HG HC1 HC2 HZ ⊢
  have hst := HST.out
  have hwb := wrap64_bd (wrap64 (h * 6364136223846793005) + 1442695040888963407)
  generalize wrap64 (wrap64 (h * 6364136223846793005) + 1442695040888963407) = h1 at HC2 hst hwb ⊢
  generalize wrap64 (h * 6364136223846793005) = h2
  have ci := HC1.out
  have ch := HC2.out
  have cb := HA.out.b
  have f1 := HA.out.f1
  clear HC1 HC2 HST
  have HST : Hid (stepH h = h1) := hst
  clear hst
  go_quiet (fail)
  have hx := and_bd (bits .xor .i64 (h1 / 8589934592) (h1 / 35184372088832)) 255 (by omega) (by omega)
  have HM : Hid (mixH (stepH h) = bits .and .i64 (bits .xor .i64 (h1 / 8589934592) (h1 / 35184372088832)) 255) := by show _ = _; rw [HST.out]; rfl
  go_wp2_with fail
  generalize bits .and .i64 (bits .xor .i64 (h1 / 8589934592) (h1 / 35184372088832)) 255 = x0 at hx HM ⊢
  obtain ⟨hx0, hx1⟩ := hx
  by_cases hlt : i < (len : Int)
  · obtain ⟨b, off, ha, cz⟩ := HZ.out hlt
    subst ha
    have HB : Hid (At c (some ⟨b, off, none⟩) len cap (w1.setCell ⟨c, 1, none⟩ (.int .i64 (i + 1)))) := HA.out.setI (i + 1) (by omega) (by omega)
    have HS : Hid (w.grownBy (w1.setCell ⟨c, 1, none⟩ (.int .i64 (i + 1))) (some c)) := grownBy_set HG.out _ _
    have HT : Hid (byteV len i h z = bits .and .i64 (x0 + z) 255) := by show _ = _; rw [HV.out, if_pos hlt, HM.out]
    go_quiet (fail)
    go_wp2_with fail
    go_quiet (fail)
    go_wp2
    go_ret
    exact ⟨by rw [HT.out]; rfl, HB.out.drewN _, grownBy_drewN HS.out _⟩
  · have HT : Hid (byteV len i h z = x0) := by show _ = _; rw [HV.out, if_neg hlt, HM.out]
    go_quiet (fail)
    go_wp2
    go_ret
    exact ⟨by rw [HT.out]; rfl, HA.out.drewN _, grownBy_drewN HG.out _⟩

theorem byteV_bd (len : Nat) (i h z : Int) : 0 ≤ byteV len i h z ∧ byteV len i h z ≤ 255 := by
  unfold byteV mixH
  split <;> exact and_bd _ 255 (by omega) (by omega)

set_option maxHeartbeats 800000 in
theorem belowX (c : Nat) (a : Option Addr) (len cap : Nat) (n : Int) (i h z : Int) (w : World) (hl : len ≤ 4096) (hn0 : 0 < n) (hn : n ≤ 256) (hx : AtX c a len cap w i h z) :
    Calls Try.prog 32 #[.pointer (some ⟨c, 0, none⟩), .int .i64 n] w fun e w' => e = .returned (.int .i64 (byteV len i h z % n)) ∧ At c a len cap w' ∧ w.grownBy w' (some c) := by
  have hbd := byteV_bd len i h z
  have hn0' : ¬ n ≤ 0 := by omega
  have hnz : n ≠ 0 := by omega
  go_enter Try.func32, Try.ntmps32
  go_wp2_with fail
  refine (byteX c a len cap i h z _ hl hx).mono ?_
  rintro e w1 ⟨rfl, hA, hG⟩
  go_wp2
  go_ret
  exact ⟨rfl, hA, hG⟩

/-- what is drawn is fixed ahead -/
theorem once_fixed (c : Nat) (a : Option Addr) (len cap : Nat) (n : Int) (w : World) (hl : len ≤ 4096) (hn0 : 0 < n) (hn : n ≤ 256) (hc : At c a len cap w) :
    ∃ b : Bool, ∀ k, Calls Try.prog 33 #[.pointer (some ⟨c, 0, none⟩), .int .i64 n] (w.drewN k) fun e w' => e = .returned (.bool b) ∧ At c a len cap w' ∧ (w.drewN k).grownBy w' (some c) := by
  obtain ⟨i, h, z, hx⟩ := atX_of hc
  refine ⟨byteV len i h z % n == 0, fun k => ?_⟩
  have hxk := hx.drewN k
  generalize w.drewN k = W at hxk ⊢
  go_enter Try.func33, Try.ntmps33
  go_wp2_with fail
  refine (belowX c a len cap n i h z _ hl hn0 hn hxk).mono ?_
  rintro e w1 ⟨rfl, hA, hG⟩
  go_wp2
  go_ret
  exact ⟨rfl, hA, hG⟩

end Cur
end Go.Proofs.Ytcbfdfddifmeiaa
