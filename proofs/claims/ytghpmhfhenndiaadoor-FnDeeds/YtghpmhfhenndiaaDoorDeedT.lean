/-
  The model's ShowDeed: a right deed's words, else nothing; for keys of at most 2^40 bytes.
-/
import Derived.Test.YtghpmhfhenndiaaDoorDeedS
namespace Go.Proofs.YtghpmhfhenndiaaDoor
open Go.RowKit
set_option maxRecDepth 100000
set_option linter.unusedVariables false
namespace De
open Kn (B dec)

theorem l16ShowD (d : D) (w : World) (h : okD d = true) : Calls Tryd.prog 27 #[.agg #[.int .i64 d.kind, .string d.key, .int .i64 d.val, .int .i64 d.new]] w fun e w' => e = .returned (.string (B (showD d))) ∧ Below w.heap.size w w' := by
  have o := (okD_iff d).1 h
  obtain ⟨kind, key, val, new⟩ := d
  obtain ⟨k1, k4, kb, v0, v1, n0, n1, cut, ifs⟩ := o
  dsimp only at k1 k4 kb v0 v1 n0 n1 cut ifs ⊢
  obtain ⟨v, rfl⟩ := Int.eq_ofNat_of_zero_le v0
  obtain ⟨n, rfl⟩ := Int.eq_ofNat_of_zero_le n0
  have hk : kind = 1 ∨ kind = 2 ∨ kind = 3 ∨ kind = 4 := by omega
  rcases hk with rfl | rfl | rfl | rfl
  · exact l16Show1 key v n w kb (by omega) (by omega)
  · exact l16Show2 key v n w kb (by omega) (by omega)
  · exact l16Show3 key v n w kb (by omega) (by omega)
  · exact l16Show4 key v n w kb (by omega) (by omega)

/-- the text of a deed -/
def textD (d : D) : ByteArray := if okD d then B (showD d) else ⟨#[]⟩

set_option maxHeartbeats 800000 in
theorem specShowDeed (d : D) (w : World) (hs : d.key.size ≤ 1099511627776) : Calls Tryd.prog 12 #[.agg #[.int .i64 d.kind, .string d.key, .int .i64 d.val, .int .i64 d.new]] w fun e w' => e = .returned (.string (textD d)) ∧ Below w.heap.size w w' := by
  have P0 : Hid (_) := box4 w (.int .i64 d.kind) (.string d.key) (.int .i64 d.val) (.int .i64 d.new) 25
  have HOK : Hid (∀ W : World, Calls Tryd.prog 14 #[.agg #[.int .i64 d.kind, .string d.key, .int .i64 d.val, .int .i64 d.new]] W fun e w' => e = .returned (.bool (okD d)) ∧ Below W.heap.size W w') := fun W => specDeedOk d.kind d.key d.val d.new W hs
  have HSH : Hid (okD d = true → ∀ W : World, Calls Tryd.prog 27 #[.agg #[.int .i64 d.kind, .string d.key, .int .i64 d.val, .int .i64 d.new]] W fun e w' => e = .returned (.string (B (showD d))) ∧ Below W.heap.size W w') := fun h W => l16ShowD d W h
  have HT : Hid (textD d = if okD d then B (showD d) else ⟨#[]⟩) := rfl
  clear hs
  generalize textD d = t at HT ⊢
  generalize B (showD d) = u at HSH HT
  go_enter Tryd.func12, Tryd.ntmps12
  go_upto_region 1 with fail
  generalize w.alloc (.cells #[.int .i64 d.kind, .string d.key, .int .i64 d.val, .int .i64 d.new] 25) = W0 at P0 ⊢
  obtain ⟨B0, x0, x1, x2, x3, hl⟩ := P0
  go_wp2_with fail
  refine (HOK.out W0).mono ?_
  rintro e W1 ⟨rfl, hb⟩
  have B1 := B0.trans (hb.mono B0.size)
  have y0 := (hb.cell (p := ⟨w.heap.size, 0, none⟩) hl).trans x0
  have y1 := (hb.cell (p := ⟨w.heap.size, 1, none⟩) hl).trans x1
  have y2 := (hb.cell (p := ⟨w.heap.size, 2, none⟩) hl).trans x2
  have y3 := (hb.cell (p := ⟨w.heap.size, 3, none⟩) hl).trans x3
  have HB1 : Hid (Below w.heap.size w W1) := B1
  clear hb B0 B1 x0 x1 x2 x3 HOK
  cases hok : okD d
  · have ht : t = ⟨#[]⟩ := by rw [HT.out, hok]; rfl
    subst ht
    clear HT hok HSH
    go_wp2
    go_ret
    exact ⟨rfl, HB1.out⟩
  · have ht : t = u := by rw [HT.out, hok]; rfl
    subst ht
    have hsh := HSH.out hok W1
    clear HT hok HSH
    go_wp2_with fail
    refine hsh.mono ?_
    rintro e W2 ⟨rfl, hb⟩
    have HB2 : Hid (Below w.heap.size w W2) := HB1.out.trans (hb.mono HB1.out.size)
    clear hb hsh
    go_wp2
    go_ret
    exact ⟨rfl, HB2.out⟩

end De
end Go.Proofs.YtghpmhfhenndiaaDoor
