/-
  What the program's owner answers: whether it is right, just where the model's hand is.
-/
import Derived.Test.YtapfmadnkaimeaaDoorHaA
namespace Go.Proofs.YtapfmadnkaimeaaDoor
open Go.RowKit
set_option maxRecDepth 100000
set_option linter.unusedVariables false
namespace Rm
open Kn (K okK)
open Bit (bit withB)
open Lc (at' RdK laceB WordsOk)
open Sg (bel belows closedTo orB)

/-- is it right, in the program's words? -/
def clsB (L : List K) (s : Int) : Bool := Lc.inL L.length s && closedTo (belows L L.length) s L.length
def ownOkB (L : List K) (who has kept : Int) : Bool := bits .andNot .i64 (ownI L who has) kept == 0
def rightB (L : List K) (h : Hd) : Bool := Kn.in3 h.who && (clsB L h.has && (clsB L h.kept && ((bits .andNot .i64 h.kept h.has == 0) && (ownOkB L h.who h.has h.kept && (h.last == lastTo L h.who h.kept L.length)))))

theorem cls_iff (L : List K) (s : Int) : clsB L s = true ↔ 0 ≤ s ∧ s / 2 ^ L.length = 0 ∧ closedTo (belows L L.length) s L.length = true := by
  unfold clsB Lc.inL; simp [and_assoc]
theorem right_hok (L : List K) (hlc : laceB L = true) (h : Hd) (hk : H64 h) : rightB L h = hokB L h := by
  have h60 := ((Lc.lace_iff L).1 hlc).1
  rw [Bool.eq_iff_iff]
  unfold rightB hokB
  simp only [Bool.and_eq_true, cls_iff, decide_eq_true_eq]
  constructor
  · rintro ⟨a, ⟨b0, b1, b2⟩, ⟨c0, c1, c2⟩, d, e, f⟩
    refine ⟨a, b0, c0, b1, d, ?_, b2, c2, f⟩
    have hs1 := div_lt60 b0 b1 h60
    have hs2 := div_lt60 c0 c1 h60
    have ob := own_bd L h.who h.has h60
    have e2 := (Sg.andNot_sub _ _ ob.1 (by omega) c0 (by omega)).1 e
    rw [last_neg]
    intro i hi hb hw
    have hbb := Sg.bit_andNot h.has h.kept b0 hs1 c0 hs2 i
    rw [hbb, Bool.and_eq_true] at hb
    have := e2 i (by rw [bit_own _ _ _ h60, decide_eq_true hi, hb.1, decide_eq_true hw]; rfl)
    rw [this] at hb
    exact absurd hb.2 (by simp)
  · rintro ⟨a, b0, c0, b1, d, e, b2, c2, f⟩
    have hs1 := div_lt60 b0 b1 h60
    have hs2 := and_sub c0 b0 hs1 hk.k1 d
    have d2 := (Sg.andNot_sub _ _ c0 (by omega) b0 (by omega)).1 d
    have c1 : h.kept / 2 ^ L.length = 0 := Lc.div_of_bits _ _ c0 fun i hi => by
      rw [Bool.eq_false_iff]
      intro q
      have := d2 i q
      rw [Lc.bit_hi _ _ b0 b1 i hi] at this
      exact Bool.noConfusion this
    refine ⟨a, ⟨b0, b1, b2⟩, ⟨c0, c1, c2⟩, d, ?_, f⟩
    have ob := own_bd L h.who h.has h60
    refine (Sg.andNot_sub _ _ ob.1 (by omega) c0 (by omega)).2 fun i hi => ?_
    rw [bit_own _ _ _ h60] at hi
    simp only [Bool.and_eq_true, decide_eq_true_eq] at hi
    cases hb : bit h.kept i
    · have hbb := Sg.bit_andNot h.has h.kept b0 hs1 c0 hs2 i
      rw [hi.2.1, hb] at hbb
      exact absurd hi.2.2 ((last_neg L h.who _ _).1 e i hi.1 hbb)
    · rfl

set_option maxHeartbeats 6400000 in
theorem right (g cap : Nat) (L : List K) (h : Hd) (w : World) (hlc : laceB L = true) (hk : H64 h) (hg : g < w.heap.size) (hr : RdK w (some ⟨g, 0, none⟩) L) :
    Calls Tryd.prog 88 #[.agg #[.slice (some ⟨g, 0, none⟩) L.length cap, .int .i64 h.who, .int .i64 h.has, .int .i64 h.kept, .int .i64 h.last]] w fun e w' => e = .returned (.bool (hokB L h)) ∧ Below w.heap.size w w' := by
  rw [← right_hok L hlc h hk]
  obtain ⟨hk0, hk1, hk2, hk3⟩ := hk
  obtain ⟨who, has, kept, last⟩ := h
  dsimp only at hk0 hk1 hk2 hk3 ⊢
  have h60 := ((Lc.lace_iff L).1 hlc).1
  have HD : Hid (rightB L ⟨who, has, kept, last⟩ = (Kn.in3 who && (clsB L has && (clsB L kept && ((bits .andNot .i64 kept has == 0) && (ownOkB L who has kept && (last == lastTo L who kept L.length))))))) := rfl
  have P0 : Hid (Below w.heap.size w (w.alloc (.cells #[.slice (some ⟨g, 0, none⟩) L.length cap, .int .i64 who, .int .i64 has, .int .i64 kept, .int .i64 last] 62)) ∧ OAt (w.alloc (.cells #[.slice (some ⟨g, 0, none⟩) L.length cap, .int .i64 who, .int .i64 has, .int .i64 kept, .int .i64 last] 62)) w.heap.size g cap L.length ⟨who, has, kept, last⟩) := ⟨(Below.refl _ _).alloc (Nat.le_refl _) _, oat_new w g cap L.length ⟨who, has, kept, last⟩ _⟩
  go_enter Tryd.func88, Tryd.ntmps88
  go_upto_region 1 with fail
  generalize w.alloc (.cells #[.slice (some ⟨g, 0, none⟩) L.length cap, .int .i64 who, .int .i64 has, .int .i64 kept, .int .i64 last] 62) = V at P0 ⊢
  have HB0 : Hid (Below w.heap.size w V) := P0.out.1
  have HO : Hid (OAt V w.heap.size g cap L.length ⟨who, has, kept, last⟩) := P0.out.2
  have HR : Hid (RdK V (some ⟨g, 0, none⟩) L) := hr.below P0.out.1
  have hgV : g < V.heap.size := Nat.lt_of_lt_of_le hg P0.out.1.size
  have hbV : w.heap.size < V.heap.size := P0.out.2.lt
  clear P0 hr
  generalize hbe : w.heap.size = hb at HB0 HO hbV ⊢
  have HBE : Hid (w.heap.size = hb) := hbe
  clear hbe hg
  have HKN : Hid (∀ W : World, Below V.heap.size V W → Calls Tryd.prog 105 #[.int .i64 who] W fun e w' => e = .returned (.bool (Kn.in3 who)) ∧ Below V.heap.size V w') := fun W hW => (Kn.known who W).mono fun _ _ q => ⟨q.1, by rw [← q.2]; exact hW⟩
  have HCL : Hid (∀ (W : World) (s : Int) (b : Bool), Below V.heap.size V W → (s = has ∧ b = clsB L has ∨ s = kept ∧ b = clsB L kept) → Calls Tryd.prog 111 #[.slice (some ⟨g, 0, none⟩) L.length cap, .int .i64 s] W fun e w' => e = .returned (.bool b) ∧ Below V.heap.size V w') := fun W s b hW hs => by
    rcases hs with ⟨rfl, rfl⟩ | ⟨rfl, rfl⟩
    · exact (Sg.closed g 0 cap L _ W hlc hk0 hk1 (Nat.lt_of_lt_of_le hgV hW.size) (HR.out.below hW)).mono fun _ _ q => ⟨q.1, hW.trans (q.2.mono hW.size)⟩
    · exact (Sg.closed g 0 cap L _ W hlc hk2 hk3 (Nat.lt_of_lt_of_le hgV hW.size) (HR.out.below hW)).mono fun _ _ q => ⟨q.1, hW.trans (q.2.mono hW.size)⟩
  have HOW : Hid (Base.okB has = true → ∀ W : World, Below V.heap.size V W → Calls Tryd.prog 64 #[.agg #[.slice (some ⟨g, 0, none⟩) L.length cap, .int .i64 who, .int .i64 has, .int .i64 kept, .int .i64 last], .int .i64 has] W fun e w' => e = .returned (.int .i64 (ownI L who has)) ∧ Below V.heap.size V w') := fun ho W hW => (own g cap L ⟨who, has, kept, last⟩ has W h60 ho (HR.out.below hW)).mono fun _ _ q => ⟨q.1, hW.trans (q.2.mono hW.size)⟩
  have HLO : Hid (Base.okB kept = true → ∀ W : World, Below V.heap.size V W → Calls Tryd.prog 112 #[.agg #[.slice (some ⟨g, 0, none⟩) L.length cap, .int .i64 who, .int .i64 has, .int .i64 kept, .int .i64 last]] W fun e w' => e = .returned (.int .i64 (lastTo L who kept L.length)) ∧ Below V.heap.size V w') := fun ho W hW => (lastOwn g cap L ⟨who, has, kept, last⟩ W hlc ho (HR.out.below hW)).mono fun _ _ q => ⟨q.1, hW.trans (q.2.mono hW.size)⟩
  have HCO : Hid (∀ s, clsB L s = true → Base.okB s = true) := fun s hs => by
    have q := (cls_iff L s).1 hs
    exact (Base.okB_iff s).2 ⟨q.1, div_lt60 q.1 q.2.1 h60⟩
  have HLC : Hid (laceB L = true) := hlc
  clear hlc hk0 hk1 hk2 hk3
  have HUN : Hid (ownOkB L who has kept = (bits .andNot .i64 (ownI L who has) kept == 0)) := rfl
  obtain ⟨X, _, F, HF, HG⟩ := Fam.fam V
  have HC : Hid (∀ z, OAt (F z) hb g cap L.length ⟨who, has, kept, last⟩) := fun z => HO.out.below (HF.out z)
  have d0 : ∀ z, (F z).cell? ⟨hb, 0, none⟩ = some (.slice (some ⟨g, 0, none⟩) L.length cap) := fun z => (HC.out z).c0
  have d1 : ∀ z, (F z).cell? ⟨hb, 1, none⟩ = some (.int .i64 who) := fun z => (HC.out z).c1
  have d2 : ∀ z, (F z).cell? ⟨hb, 2, none⟩ = some (.int .i64 has) := fun z => (HC.out z).c2
  have d3 : ∀ z, (F z).cell? ⟨hb, 3, none⟩ = some (.int .i64 kept) := fun z => (HC.out z).c3
  have d4 : ∀ z, (F z).cell? ⟨hb, 4, none⟩ = some (.int .i64 last) := fun z => (HC.out z).c4
  cases h0 : Kn.in3 who
  · have HT : Hid (rightB L ⟨who, has, kept, last⟩ = false) := by show _ = _; rw [HD.out]; simp [h0]
    rw [h0] at HKN
    clear HD HC HO HR HLC HUN HLO HOW HCO HCL
    clear h0
    refine Fam.region (F := F) (by kernel_rfl) (by kernel_rfl) (HG.out _ (Below.refl _ V).drew) ?_
    repeat (go_big_quiet_step (first
      | (go_at_call 105; exact (HKN.out _ (HF.out _)).mono fun _ _ q => ⟨q.1, HG.out _ q.2⟩)))
    refine wpQuiet_nil ?_
    intro w2 hw2
    obtain ⟨z, rfl⟩ := hw2
    have HB2 : Hid (Below V.heap.size V (F z)) := HF.out z
    go_wp2
    go_ret
    exact ⟨by rw [HT.out]; rfl, by rw [HBE.out]; exact HB0.out.trans (HB2.out.mono (Nat.le_of_lt hbV))⟩
  cases h1 : clsB L has
  · have HT : Hid (rightB L ⟨who, has, kept, last⟩ = false) := by show _ = _; rw [HD.out]; simp [h0, h1]
    rw [h0] at HKN
    rw [h1] at HCL
    generalize clsB L kept = x3 at HCL
    clear HD HC HO HR HLC HUN HLO HOW HCO
    clear h0 h1
    refine Fam.region (F := F) (by kernel_rfl) (by kernel_rfl) (HG.out _ (Below.refl _ V).drew) ?_
    repeat (go_big_quiet_step (first
      | (go_at_call 105; exact (HKN.out _ (HF.out _)).mono fun _ _ q => ⟨q.1, HG.out _ q.2⟩)
      | (go_at_call 111; exact (HCL.out _ _ _ (HF.out _) (by first | exact .inl ⟨rfl, rfl⟩ | exact .inr ⟨rfl, rfl⟩)).mono fun _ _ q => ⟨q.1, HG.out _ q.2⟩)))
    refine wpQuiet_nil ?_
    intro w2 hw2
    obtain ⟨z, rfl⟩ := hw2
    have HB2 : Hid (Below V.heap.size V (F z)) := HF.out z
    go_wp2
    go_ret
    exact ⟨by rw [HT.out]; rfl, by rw [HBE.out]; exact HB0.out.trans (HB2.out.mono (Nat.le_of_lt hbV))⟩
  cases h2 : clsB L kept
  · have HT : Hid (rightB L ⟨who, has, kept, last⟩ = false) := by show _ = _; rw [HD.out]; simp [h0, h1, h2]
    rw [h0] at HKN
    rw [h1, h2] at HCL
    clear HD HC HO HR HLC HUN HLO HOW HCO
    clear h0 h1 h2
    refine Fam.region (F := F) (by kernel_rfl) (by kernel_rfl) (HG.out _ (Below.refl _ V).drew) ?_
    repeat (go_big_quiet_step (first
      | (go_at_call 105; exact (HKN.out _ (HF.out _)).mono fun _ _ q => ⟨q.1, HG.out _ q.2⟩)
      | (go_at_call 111; exact (HCL.out _ _ _ (HF.out _) (by first | exact .inl ⟨rfl, rfl⟩ | exact .inr ⟨rfl, rfl⟩)).mono fun _ _ q => ⟨q.1, HG.out _ q.2⟩)))
    refine wpQuiet_nil ?_
    intro w2 hw2
    obtain ⟨z, rfl⟩ := hw2
    have HB2 : Hid (Below V.heap.size V (F z)) := HF.out z
    go_wp2
    go_ret
    exact ⟨by rw [HT.out]; rfl, by rw [HBE.out]; exact HB0.out.trans (HB2.out.mono (Nat.le_of_lt hbV))⟩
  cases h3 : (bits .andNot .i64 kept has == 0)
  · have HT : Hid (rightB L ⟨who, has, kept, last⟩ = false) := by show _ = _; rw [HD.out]; simp [h0, h1, h2, h3]
    rw [h0] at HKN
    rw [h1, h2] at HCL
    clear HD HC HO HR HLC HUN HLO HOW HCO
    clear h0 h1 h2
    refine Fam.region (F := F) (by kernel_rfl) (by kernel_rfl) (HG.out _ (Below.refl _ V).drew) ?_
    repeat (go_big_quiet_step (first
      | (go_at_call 105; exact (HKN.out _ (HF.out _)).mono fun _ _ q => ⟨q.1, HG.out _ q.2⟩)
      | (go_at_call 111; exact (HCL.out _ _ _ (HF.out _) (by first | exact .inl ⟨rfl, rfl⟩ | exact .inr ⟨rfl, rfl⟩)).mono fun _ _ q => ⟨q.1, HG.out _ q.2⟩)))
    refine wpQuiet_nil ?_
    intro w2 hw2
    obtain ⟨z, rfl⟩ := hw2
    have HB2 : Hid (Below V.heap.size V (F z)) := HF.out z
    go_wp2
    go_ret
    exact ⟨by rw [HT.out]; rfl, by rw [HBE.out]; exact HB0.out.trans (HB2.out.mono (Nat.le_of_lt hbV))⟩
  cases h4 : ownOkB L who has kept
  · have HT : Hid (rightB L ⟨who, has, kept, last⟩ = false) := by show _ = _; rw [HD.out]; simp [h0, h1, h2, h3, h4]
    rw [h0] at HKN
    rw [h1, h2] at HCL
    have HOW2 : Hid (∀ W : World, Below V.heap.size V W → Calls Tryd.prog 64 #[.agg #[.slice (some ⟨g, 0, none⟩) L.length cap, .int .i64 who, .int .i64 has, .int .i64 kept, .int .i64 last], .int .i64 has] W fun e w' => e = .returned (.int .i64 (ownI L who has)) ∧ Below V.heap.size V w') := HOW.out (HCO.out _ h1)
    rw [HUN.out] at h4
    generalize ownI L who has = ow at HOW2 h4
    clear HD HC HO HR HLC HUN HLO HOW HCO
    clear h0 h1 h2
    refine Fam.region (F := F) (by kernel_rfl) (by kernel_rfl) (HG.out _ (Below.refl _ V).drew) ?_
    repeat (go_big_quiet_step (first
      | (go_at_call 105; exact (HKN.out _ (HF.out _)).mono fun _ _ q => ⟨q.1, HG.out _ q.2⟩)
      | (go_at_call 111; exact (HCL.out _ _ _ (HF.out _) (by first | exact .inl ⟨rfl, rfl⟩ | exact .inr ⟨rfl, rfl⟩)).mono fun _ _ q => ⟨q.1, HG.out _ q.2⟩)
      | (go_at_call 64; exact (HOW2.out _ (HF.out _)).mono fun _ _ q => ⟨q.1, HG.out _ q.2⟩)))
    refine wpQuiet_nil ?_
    intro w2 hw2
    obtain ⟨z, rfl⟩ := hw2
    have HB2 : Hid (Below V.heap.size V (F z)) := HF.out z
    go_wp2
    go_ret
    exact ⟨by rw [HT.out]; rfl, by rw [HBE.out]; exact HB0.out.trans (HB2.out.mono (Nat.le_of_lt hbV))⟩
  have HT : Hid (rightB L ⟨who, has, kept, last⟩ = (last == lastTo L who kept L.length)) := by show _ = _; rw [HD.out]; simp [h0, h1, h2, h3, h4]
  rw [h0] at HKN
  rw [h1, h2] at HCL
  have HOW2 : Hid (∀ W : World, Below V.heap.size V W → Calls Tryd.prog 64 #[.agg #[.slice (some ⟨g, 0, none⟩) L.length cap, .int .i64 who, .int .i64 has, .int .i64 kept, .int .i64 last], .int .i64 has] W fun e w' => e = .returned (.int .i64 (ownI L who has)) ∧ Below V.heap.size V w') := HOW.out (HCO.out _ h1)
  have HLO2 : Hid (∀ W : World, Below V.heap.size V W → Calls Tryd.prog 112 #[.agg #[.slice (some ⟨g, 0, none⟩) L.length cap, .int .i64 who, .int .i64 has, .int .i64 kept, .int .i64 last]] W fun e w' => e = .returned (.int .i64 (lastTo L who kept L.length)) ∧ Below V.heap.size V w') := HLO.out (HCO.out _ h2)
  rw [HUN.out] at h4
  generalize ownI L who has = ow at HOW2 h4
  generalize lastTo L who kept L.length = lt at HLO2 HT
  clear HD HC HO HR HLC HUN HLO HOW HCO h0 h1 h2
  refine Fam.region (F := F) (by kernel_rfl) (by kernel_rfl) (HG.out _ (Below.refl _ V).drew) ?_
  repeat (go_big_quiet_step (first
    | (go_at_call 105; exact (HKN.out _ (HF.out _)).mono fun _ _ q => ⟨q.1, HG.out _ q.2⟩)
    | (go_at_call 111; exact (HCL.out _ _ _ (HF.out _) (by first | exact .inl ⟨rfl, rfl⟩ | exact .inr ⟨rfl, rfl⟩)).mono fun _ _ q => ⟨q.1, HG.out _ q.2⟩)
    | (go_at_call 64; exact (HOW2.out _ (HF.out _)).mono fun _ _ q => ⟨q.1, HG.out _ q.2⟩)
    | (go_at_call 112; exact (HLO2.out _ (HF.out _)).mono fun _ _ q => ⟨q.1, HG.out _ q.2⟩)))
  refine wpQuiet_nil ?_
  intro w2 hw2
  obtain ⟨z, rfl⟩ := hw2
  have HB2 : Hid (Below V.heap.size V (F z)) := HF.out z
  go_wp2
  go_ret
  exact ⟨by rw [HT.out]; rfl, by rw [HBE.out]; exact HB0.out.trans (HB2.out.mono (Nat.le_of_lt hbV))⟩

end Rm
end Go.Proofs.YtapfmadnkaimeaaDoor
