/-
 Plain: what a hand ties stands on all that it has of lesser rounds, and it is a right hand then. No program in it.
-/
import Derived.Test.YtfjmenhofllchaaGreatDoorQag12
import Derived.ChangeKeysEq
namespace Go.Proofs.YtfjmenhofllchaaGreatDoor
open Go.RowKit
set_option maxRecDepth 100000
set_option linter.unusedVariables false
namespace Rm
open Kn (K okK)
open Bit (bit withB)
open Lc (at' RdK laceB WordsOk)
open Sg (bel belows closedTo orB)
def clsB (L : List K) (s : Int) : Bool := Lc.inL L.length s && closedTo (belows L L.length) s L.length
def ownOkB (L : List K) (who has kept : Int) : Bool := bits .andNot .i64 (ownI L who has) kept == 0
def rightB (L : List K) (h : Hd) : Bool := Kn.in3 h.who && (clsB L h.has && (clsB L h.kept && ((bits .andNot .i64 h.kept h.has == 0) && (ownOkB L h.who h.has h.kept && (h.last == lastTo L h.who h.kept L.length)))))
theorem cls_iff (L : List K) (s : Int) : clsB L s = true ↔ 0 ≤ s ∧ s / 2 ^ L.length = 0 ∧ closedTo (belows L L.length) s L.length = true := by
 unfold clsB Lc.inL; simp [and_assoc]
theorem right_hok (L : List K) (hlc : laceB L = true) (h : Hd) (hk : H64 h) : rightB L h = hokB L h := by
 have h60 := ((Lc.lace_iff L).1 hlc).1
 rw [Bool.eq_iff_iff]
 unfold rightB hokB
 simp only [Bool.and_eq_true, cls_iff, decide_eq_true_eq]
 constructor
 · rintro ⟨a, ⟨b0, b1, b2⟩, ⟨c0, c1, c2⟩, d, e, f⟩
   refine ⟨a, b0, c0, b1, d, ?_, b2, c2, f⟩
   have hs1 := div_lt60 b0 b1 h60
   have hs2 := div_lt60 c0 c1 h60
   have ob := own_bd L h.who h.has h60
   have e2 := (Sg.andNot_sub _ _ ob.1 (by omega) c0 (by omega)).1 e
   rw [last_neg]
   intro i hi hb hw
   have hbb := Sg.bit_andNot h.has h.kept b0 hs1 c0 hs2 i
   rw [hbb, Bool.and_eq_true] at hb
   have := e2 i (by rw [bit_own _ _ _ h60, decide_eq_true hi, hb.1, decide_eq_true hw]; rfl)
   rw [this] at hb
   exact absurd hb.2 (by simp)
 · rintro ⟨a, b0, c0, b1, d, e, b2, c2, f⟩
   have hs1 := div_lt60 b0 b1 h60
   have hs2 := and_sub c0 b0 hs1 hk.k1 d
   have d2 := (Sg.andNot_sub _ _ c0 (by omega) b0 (by omega)).1 d
   have c1 : h.kept / 2 ^ L.length = 0 := Lc.div_of_bits _ _ c0 fun i hi => by
     rw [Bool.eq_false_iff]
     intro q
     have := d2 i q
     rw [Lc.bit_hi _ _ b0 b1 i hi] at this
     exact Bool.noConfusion this
   refine ⟨a, ⟨b0, b1, b2⟩, ⟨c0, c1, c2⟩, d, ?_, f⟩
   have ob := own_bd L h.who h.has h60
   refine (Sg.andNot_sub _ _ ob.1 (by omega) c0 (by omega)).2 fun i hi => ?_
   rw [bit_own _ _ _ h60] at hi
   simp only [Bool.and_eq_true, decide_eq_true_eq] at hi
   cases hb : bit h.kept i
   · have hbb := Sg.bit_andNot h.has h.kept b0 hs1 c0 hs2 i
     rw [hi.2.1, hb] at hbb
     exact absurd hi.2.2 ((last_neg L h.who _ _).1 e i hi.1 hbb)
   · rfl
set_option maxHeartbeats 6400000 in
theorem right (g cap : Nat) (L : List K) (h : Hd) (w : World) (hlc : laceB L = true) (hk : H64 h) (hg : g < w.heap.size) (hr : RdK w (some ⟨g, 0, none⟩) L) :
   Calls Tryz.prog 93 #[.agg #[.slice (some ⟨g, 0, none⟩) L.length cap, .int .i64 h.who, .int .i64 h.has, .int .i64 h.kept, .int .i64 h.last]] w fun e w' => e = .returned (.bool (hokB L h)) ∧ Below w.heap.size w w' := by
 rw [← right_hok L hlc h hk]
 obtain ⟨hk0, hk1, hk2, hk3⟩ := hk
 obtain ⟨who, has, kept, last⟩ := h
 dsimp only at hk0 hk1 hk2 hk3 ⊢
 have h60 := ((Lc.lace_iff L).1 hlc).1
 have HD : Hid (rightB L ⟨who, has, kept, last⟩ = (Kn.in3 who && (clsB L has && (clsB L kept && ((bits .andNot .i64 kept has == 0) && (ownOkB L who has kept && (last == lastTo L who kept L.length))))))) := rfl
 have P0 : Hid (Below w.heap.size w (w.alloc (.cells #[.slice (some ⟨g, 0, none⟩) L.length cap, .int .i64 who, .int .i64 has, .int .i64 kept, .int .i64 last] 66)) ∧ OAt (w.alloc (.cells #[.slice (some ⟨g, 0, none⟩) L.length cap, .int .i64 who, .int .i64 has, .int .i64 kept, .int .i64 last] 66)) w.heap.size g cap L.length ⟨who, has, kept, last⟩) := ⟨(Below.refl _ _).alloc (Nat.le_refl _) _, oat_new w g cap L.length ⟨who, has, kept, last⟩ _⟩
 go_enter Tryz.func93, Tryz.ntmps93
 go_upto_region 1 with fail
 generalize w.alloc (.cells #[.slice (some ⟨g, 0, none⟩) L.length cap, .int .i64 who, .int .i64 has, .int .i64 kept, .int .i64 last] 66) = V at P0 ⊢
 have HB0 : Hid (Below w.heap.size w V) := P0.out.1
 have HO : Hid (OAt V w.heap.size g cap L.length ⟨who, has, kept, last⟩) := P0.out.2
 have HR : Hid (RdK V (some ⟨g, 0, none⟩) L) := hr.below P0.out.1
 have hgV : g < V.heap.size := Nat.lt_of_lt_of_le hg P0.out.1.size
 have hbV : w.heap.size < V.heap.size := P0.out.2.lt
 clear P0 hr
 generalize hbe : w.heap.size = hb at HB0 HO hbV ⊢
 have HBE : Hid (w.heap.size = hb) := hbe
 clear hbe hg
 have HKN : Hid (∀ W : World, Below V.heap.size V W → Calls Tryz.prog 130 #[.int .i64 who] W fun e w' => e = .returned (.bool (Kn.in3 who)) ∧ Below V.heap.size V w') := fun W hW => (Kn.known who W).mono fun _ _ q => ⟨q.1, by rw [← q.2]; exact hW⟩
 have HCL : Hid (∀ (W : World) (s : Int) (b : Bool), Below V.heap.size V W → (s = has ∧ b = clsB L has ∨ s = kept ∧ b = clsB L kept) → Calls Tryz.prog 131 #[.slice (some ⟨g, 0, none⟩) L.length cap, .int .i64 s] W fun e w' => e = .returned (.bool b) ∧ Below V.heap.size V w') := fun W s b hW hs => by
   rcases hs with ⟨rfl, rfl⟩ | ⟨rfl, rfl⟩
   · exact (Sg.closed g 0 cap L _ W hlc hk0 hk1 (Nat.lt_of_lt_of_le hgV hW.size) (HR.out.below hW)).mono fun _ _ q => ⟨q.1, hW.trans (q.2.mono hW.size)⟩
   · exact (Sg.closed g 0 cap L _ W hlc hk2 hk3 (Nat.lt_of_lt_of_le hgV hW.size) (HR.out.below hW)).mono fun _ _ q => ⟨q.1, hW.trans (q.2.mono hW.size)⟩
 have HOW : Hid (Base.okB has = true → ∀ W : World, Below V.heap.size V W → Calls Tryz.prog 88 #[.agg #[.slice (some ⟨g, 0, none⟩) L.length cap, .int .i64 who, .int .i64 has, .int .i64 kept, .int .i64 last], .int .i64 has] W fun e w' => e = .returned (.int .i64 (ownI L who has)) ∧ Below V.heap.size V w') := fun ho W hW => (own g cap L ⟨who, has, kept, last⟩ has W h60 ho (HR.out.below hW)).mono fun _ _ q => ⟨q.1, hW.trans (q.2.mono hW.size)⟩
 have HLO : Hid (Base.okB kept = true → ∀ W : World, Below V.heap.size V W → Calls Tryz.prog 132 #[.agg #[.slice (some ⟨g, 0, none⟩) L.length cap, .int .i64 who, .int .i64 has, .int .i64 kept, .int .i64 last]] W fun e w' => e = .returned (.int .i64 (lastTo L who kept L.length)) ∧ Below V.heap.size V w') := fun ho W hW => (lastOwn g cap L ⟨who, has, kept, last⟩ W hlc ho (HR.out.below hW)).mono fun _ _ q => ⟨q.1, hW.trans (q.2.mono hW.size)⟩
 have HCO : Hid (∀ s, clsB L s = true → Base.okB s = true) := fun s hs => by
   have q := (cls_iff L s).1 hs
   exact (Base.okB_iff s).2 ⟨q.1, div_lt60 q.1 q.2.1 h60⟩
 have HLC : Hid (laceB L = true) := hlc
 clear hlc hk0 hk1 hk2 hk3
 have HUN : Hid (ownOkB L who has kept = (bits .andNot .i64 (ownI L who has) kept == 0)) := rfl
 obtain ⟨X, _, F, HF, HG⟩ := Fam.fam V
 have HC : Hid (∀ z, OAt (F z) hb g cap L.length ⟨who, has, kept, last⟩) := fun z => HO.out.below (HF.out z)
 have d0 : ∀ z, (F z).cell? ⟨hb, 0, none⟩ = some (.slice (some ⟨g, 0, none⟩) L.length cap) := fun z => (HC.out z).c0
 have d1 : ∀ z, (F z).cell? ⟨hb, 1, none⟩ = some (.int .i64 who) := fun z => (HC.out z).c1
 have d2 : ∀ z, (F z).cell? ⟨hb, 2, none⟩ = some (.int .i64 has) := fun z => (HC.out z).c2
 have d3 : ∀ z, (F z).cell? ⟨hb, 3, none⟩ = some (.int .i64 kept) := fun z => (HC.out z).c3
 have d4 : ∀ z, (F z).cell? ⟨hb, 4, none⟩ = some (.int .i64 last) := fun z => (HC.out z).c4
 cases h0 : Kn.in3 who
 · have HT : Hid (rightB L ⟨who, has, kept, last⟩ = false) := by show _ = _; rw [HD.out]; simp [h0]
   rw [h0] at HKN
   clear HD HC HO HR HLC HUN HLO HOW HCO HCL
   clear h0
   refine Fam.region (F := F) (by kernel_rfl) (by kernel_rfl) (HG.out _ (Below.refl _ V).drew) ?_
   repeat (go_big_quiet_step (first
     | (go_at_call 130; exact (HKN.out _ (HF.out _)).mono fun _ _ q => ⟨q.1, HG.out _ q.2⟩)))
   refine wpQuiet_nil ?_
   intro w2 hw2
   obtain ⟨z, rfl⟩ := hw2
   have HB2 : Hid (Below V.heap.size V (F z)) := HF.out z
   go_wp2
   go_ret
   exact ⟨by rw [HT.out]; rfl, by rw [HBE.out]; exact HB0.out.trans (HB2.out.mono (Nat.le_of_lt hbV))⟩
 cases h1 : clsB L has
 · have HT : Hid (rightB L ⟨who, has, kept, last⟩ = false) := by show _ = _; rw [HD.out]; simp [h0, h1]
   rw [h0] at HKN
   rw [h1] at HCL
   generalize clsB L kept = x3 at HCL
   clear HD HC HO HR HLC HUN HLO HOW HCO
   clear h0 h1
   refine Fam.region (F := F) (by kernel_rfl) (by kernel_rfl) (HG.out _ (Below.refl _ V).drew) ?_
   repeat (go_big_quiet_step (first
     | (go_at_call 130; exact (HKN.out _ (HF.out _)).mono fun _ _ q => ⟨q.1, HG.out _ q.2⟩)
     | (go_at_call 131; exact (HCL.out _ _ _ (HF.out _) (by first | exact .inl ⟨rfl, rfl⟩ | exact .inr ⟨rfl, rfl⟩)).mono fun _ _ q => ⟨q.1, HG.out _ q.2⟩)))
   refine wpQuiet_nil ?_
   intro w2 hw2
   obtain ⟨z, rfl⟩ := hw2
   have HB2 : Hid (Below V.heap.size V (F z)) := HF.out z
   go_wp2
   go_ret
   exact ⟨by rw [HT.out]; rfl, by rw [HBE.out]; exact HB0.out.trans (HB2.out.mono (Nat.le_of_lt hbV))⟩
 cases h2 : clsB L kept
 · have HT : Hid (rightB L ⟨who, has, kept, last⟩ = false) := by show _ = _; rw [HD.out]; simp [h0, h1, h2]
   rw [h0] at HKN
   rw [h1, h2] at HCL
   clear HD HC HO HR HLC HUN HLO HOW HCO
   clear h0 h1 h2
   refine Fam.region (F := F) (by kernel_rfl) (by kernel_rfl) (HG.out _ (Below.refl _ V).drew) ?_
   repeat (go_big_quiet_step (first
     | (go_at_call 130; exact (HKN.out _ (HF.out _)).mono fun _ _ q => ⟨q.1, HG.out _ q.2⟩)
     | (go_at_call 131; exact (HCL.out _ _ _ (HF.out _) (by first | exact .inl ⟨rfl, rfl⟩ | exact .inr ⟨rfl, rfl⟩)).mono fun _ _ q => ⟨q.1, HG.out _ q.2⟩)))
   refine wpQuiet_nil ?_
   intro w2 hw2
   obtain ⟨z, rfl⟩ := hw2
   have HB2 : Hid (Below V.heap.size V (F z)) := HF.out z
   go_wp2
   go_ret
   exact ⟨by rw [HT.out]; rfl, by rw [HBE.out]; exact HB0.out.trans (HB2.out.mono (Nat.le_of_lt hbV))⟩
 cases h3 : (bits .andNot .i64 kept has == 0)
 · have HT : Hid (rightB L ⟨who, has, kept, last⟩ = false) := by show _ = _; rw [HD.out]; simp [h0, h1, h2, h3]
   rw [h0] at HKN
   rw [h1, h2] at HCL
   clear HD HC HO HR HLC HUN HLO HOW HCO
   clear h0 h1 h2
   refine Fam.region (F := F) (by kernel_rfl) (by kernel_rfl) (HG.out _ (Below.refl _ V).drew) ?_
   repeat (go_big_quiet_step (first
     | (go_at_call 130; exact (HKN.out _ (HF.out _)).mono fun _ _ q => ⟨q.1, HG.out _ q.2⟩)
     | (go_at_call 131; exact (HCL.out _ _ _ (HF.out _) (by first | exact .inl ⟨rfl, rfl⟩ | exact .inr ⟨rfl, rfl⟩)).mono fun _ _ q => ⟨q.1, HG.out _ q.2⟩)))
   refine wpQuiet_nil ?_
   intro w2 hw2
   obtain ⟨z, rfl⟩ := hw2
   have HB2 : Hid (Below V.heap.size V (F z)) := HF.out z
   go_wp2
   go_ret
   exact ⟨by rw [HT.out]; rfl, by rw [HBE.out]; exact HB0.out.trans (HB2.out.mono (Nat.le_of_lt hbV))⟩
 cases h4 : ownOkB L who has kept
 · have HT : Hid (rightB L ⟨who, has, kept, last⟩ = false) := by show _ = _; rw [HD.out]; simp [h0, h1, h2, h3, h4]
   rw [h0] at HKN
   rw [h1, h2] at HCL
   have HOW2 : Hid (∀ W : World, Below V.heap.size V W → Calls Tryz.prog 88 #[.agg #[.slice (some ⟨g, 0, none⟩) L.length cap, .int .i64 who, .int .i64 has, .int .i64 kept, .int .i64 last], .int .i64 has] W fun e w' => e = .returned (.int .i64 (ownI L who has)) ∧ Below V.heap.size V w') := HOW.out (HCO.out _ h1)
   rw [HUN.out] at h4
   generalize ownI L who has = ow at HOW2 h4
   clear HD HC HO HR HLC HUN HLO HOW HCO
   clear h0 h1 h2
   refine Fam.region (F := F) (by kernel_rfl) (by kernel_rfl) (HG.out _ (Below.refl _ V).drew) ?_
   repeat (go_big_quiet_step (first
     | (go_at_call 130; exact (HKN.out _ (HF.out _)).mono fun _ _ q => ⟨q.1, HG.out _ q.2⟩)
     | (go_at_call 131; exact (HCL.out _ _ _ (HF.out _) (by first | exact .inl ⟨rfl, rfl⟩ | exact .inr ⟨rfl, rfl⟩)).mono fun _ _ q => ⟨q.1, HG.out _ q.2⟩)
     | (go_at_call 88; exact (HOW2.out _ (HF.out _)).mono fun _ _ q => ⟨q.1, HG.out _ q.2⟩)))
   refine wpQuiet_nil ?_
   intro w2 hw2
   obtain ⟨z, rfl⟩ := hw2
   have HB2 : Hid (Below V.heap.size V (F z)) := HF.out z
   go_wp2
   go_ret
   exact ⟨by rw [HT.out]; rfl, by rw [HBE.out]; exact HB0.out.trans (HB2.out.mono (Nat.le_of_lt hbV))⟩
 have HT : Hid (rightB L ⟨who, has, kept, last⟩ = (last == lastTo L who kept L.length)) := by show _ = _; rw [HD.out]; simp [h0, h1, h2, h3, h4]
 rw [h0] at HKN
 rw [h1, h2] at HCL
 have HOW2 : Hid (∀ W : World, Below V.heap.size V W → Calls Tryz.prog 88 #[.agg #[.slice (some ⟨g, 0, none⟩) L.length cap, .int .i64 who, .int .i64 has, .int .i64 kept, .int .i64 last], .int .i64 has] W fun e w' => e = .returned (.int .i64 (ownI L who has)) ∧ Below V.heap.size V w') := HOW.out (HCO.out _ h1)
 have HLO2 : Hid (∀ W : World, Below V.heap.size V W → Calls Tryz.prog 132 #[.agg #[.slice (some ⟨g, 0, none⟩) L.length cap, .int .i64 who, .int .i64 has, .int .i64 kept, .int .i64 last]] W fun e w' => e = .returned (.int .i64 (lastTo L who kept L.length)) ∧ Below V.heap.size V w') := HLO.out (HCO.out _ h2)
 rw [HUN.out] at h4
 generalize ownI L who has = ow at HOW2 h4
 generalize lastTo L who kept L.length = lt at HLO2 HT
 clear HD HC HO HR HLC HUN HLO HOW HCO h0 h1 h2
 refine Fam.region (F := F) (by kernel_rfl) (by kernel_rfl) (HG.out _ (Below.refl _ V).drew) ?_
 repeat (go_big_quiet_step (first
   | (go_at_call 130; exact (HKN.out _ (HF.out _)).mono fun _ _ q => ⟨q.1, HG.out _ q.2⟩)
   | (go_at_call 131; exact (HCL.out _ _ _ (HF.out _) (by first | exact .inl ⟨rfl, rfl⟩ | exact .inr ⟨rfl, rfl⟩)).mono fun _ _ q => ⟨q.1, HG.out _ q.2⟩)
   | (go_at_call 88; exact (HOW2.out _ (HF.out _)).mono fun _ _ q => ⟨q.1, HG.out _ q.2⟩)
   | (go_at_call 132; exact (HLO2.out _ (HF.out _)).mono fun _ _ q => ⟨q.1, HG.out _ q.2⟩)))
 refine wpQuiet_nil ?_
 intro w2 hw2
 obtain ⟨z, rfl⟩ := hw2
 have HB2 : Hid (Below V.heap.size V (F z)) := HF.out z
 go_wp2
 go_ret
 exact ⟨by rw [HT.out]; rfl, by rw [HBE.out]; exact HB0.out.trans (HB2.out.mono (Nat.le_of_lt hbV))⟩
end Rm
namespace Rm
open Kn (K okK)
open Bit (bit withB)
open Lc (at' RdK laceB WordsOk)
open Sg (bel belows closedTo orB)
theorem handedOut (x : Value) (h : Hd) (w : World) :
   Calls Tryz.prog 57 #[.agg #[x, .int .i64 h.who, .int .i64 h.has, .int .i64 h.kept, .int .i64 h.last]] w fun e w' => e = .returned (.agg #[.int .i64 h.who, .int .i64 h.has, .int .i64 h.kept, .int .i64 h.last]) ∧ Below w.heap.size w w' := by
 go_enter Tryz.func57, Tryz.ntmps57
 go_wp2
 exact bodyPost_ret (v := .agg #[.int .i64 h.who, .int .i64 h.has, .int .i64 h.kept, .int .i64 h.last]) (by simp [results, Tryz.results57, go_sem]) rfl ⟨rfl, (((Below.refl _ _).alloc (Nat.le_refl _) _).alloc (by simp) _)⟩
theorem keeps (g n cap : Nat) (h : Hd) (w : World) :
   Calls Tryz.prog 98 #[.agg #[.slice (some ⟨g, 0, none⟩) n cap, .int .i64 h.who, .int .i64 h.has, .int .i64 h.kept, .int .i64 h.last]] w fun e w' => e = .returned (.agg #[.slice (some ⟨g, 0, none⟩) n cap, .int .i64 h.who, .int .i64 h.has, .int .i64 h.has, .int .i64 h.last]) ∧ Below w.heap.size w w' := by
 go_enter Tryz.func98, Tryz.ntmps98
 go_wp2
 exact bodyPost_ret (v := .agg #[.slice (some ⟨g, 0, none⟩) n cap, .int .i64 h.who, .int .i64 h.has, .int .i64 h.has, .int .i64 h.last]) (by simp [results, Tryz.results98, go_sem]) rfl ⟨rfl, (((Below.refl _ _).alloc (Nat.le_refl _) _).alloc (by simp) _)⟩
def NoH (W : World) (a : Addr) : Prop := W.cell? ⟨0, 0, none⟩ = some (.iface 189 (.pointer (some a)))
theorem cell_lt {W : World} {p : Addr} {v : Value} (h : W.cell? p = some v) : p.block < W.heap.size := by
 rcases Nat.lt_or_ge p.block W.heap.size with q | q
 · exact q
 · simp [World.cell?, Array.getElem?_eq_none q] at h
theorem NoH.below {W V : World} {a : Addr} (h : NoH W a) (hb : Below W.heap.size W V) : NoH V a := (hb.cell (p := ⟨0, 0, none⟩) (cell_lt h)).trans h
def NoHs (W : World) : Prop := ∃ a, NoH W a
theorem NoHs.below {W V : World} (h : NoHs W) (hb : Below W.heap.size W V) : NoHs V := h.elim fun a q => ⟨a, q.below hb⟩
def OwnerPost (L : List K) (h : Hd) (a : Addr) (w : World) (e : Ending) (w' : World) : Prop :=
 (handOkB L h = true ∧ ∃ g, e = .returned (.tuple #[.agg #[.slice (some ⟨g, 0, none⟩) L.length L.length, .int .i64 h.who, .int .i64 h.has, .int .i64 h.kept, .int .i64 h.last], .nilIface]) ∧ g < w'.heap.size ∧ RdK w' (some ⟨g, 0, none⟩) L ∧ Below w.heap.size w w') ∨
 (handOkB L h = false ∧ e = .returned (.tuple #[.agg #[.slice none 0 0, .int .i64 0, .int .i64 0, .int .i64 0, .int .i64 0], .iface 189 (.pointer (some a))]) ∧ Below w.heap.size w w')
end Rm
namespace Rm
open Kn (K okK)
open Lc (at' RdK laceB)
theorem hnS : Tryz.prog.stoodInHeld 26 = false := by kernel_rfl
theorem hnF : Tryz.prog.underlying 26 = some (.struct (Tryz.prog.fieldsOf 26)) := by kernel_rfl
theorem hand_ne (a b c d : Int) (W : World) : (binOp .neq 26 (.agg #[.int .i64 a, .int .i64 b, .int .i64 c, .int .i64 d]) (.agg #[.int .i64 a, .int .i64 b, .int .i64 c, .int .i64 d])).run Tryz.prog W = .ok (.bool false) W := by
 rw [run_neq_struct, run_equalIn_agg W 9999 26 _ _ hnF hnS]
 simp only [Program.fieldsOf, Tryz.underlying26]
 simp [go_sem, Op.eqFields, Tryz.underlying2]
theorem hand_eq (a b c d : Int) (W : World) : (binOp .eql 26 (.agg #[.int .i64 a, .int .i64 b, .int .i64 c, .int .i64 d]) (.agg #[.int .i64 a, .int .i64 b, .int .i64 c, .int .i64 d])).run Tryz.prog W = .ok (.bool true) W := by
 rw [run_eql_struct, run_equalIn_agg W 9999 26 _ _ hnF hnS]
 simp only [Program.fieldsOf, Tryz.underlying26]
 simp [go_sem, Op.eqFields, Tryz.underlying2]
structure LiesN (w : World) (g : Nat) (L : List K) : Prop where
 ls : LiesS w g L
 no : NoHs w
theorem LiesN.below {w w' : World} {g : Nat} {L : List K} (h : LiesN w g L) (hb : Below w.heap.size w w') : LiesN w' g L := ⟨h.ls.below hb, h.no.below hb⟩
theorem LiesN.words {w : World} {g : Nat} {L : List K} (h : LiesN w g L) : Lc.WordsOk L := h.ls.words
theorem LiesN.rd {w : World} {g : Nat} {L : List K} (h : LiesN w g L) : RdK w (some ⟨g, 0, none⟩) L := h.ls.rd
def ImplHandOk : Prop := ∀ (g cap : Nat) (L : List K) (h : Hd) (w : World), LiesN w g L → L.length ≤ cap → H64 h → Calls Tryz.prog 13 #[.slice (some ⟨g, 0, none⟩) L.length cap, .agg #[.int .i64 h.who, .int .i64 h.has, .int .i64 h.kept, .int .i64 h.last]] w fun e w' => e = .returned (.bool (handOkB L h)) ∧ Below w.heap.size w w'
end Rm
namespace Rm
open Kn (K okK)
open Lc (at' RdK WordsOk laceB)
open Sg (belows)
def draftedB (L : List K) (h : Hd) (word : ByteArray) : Bool := handOkB L h && draftB L (belows L L.length) h.who h.has h.last word
def draftedK (L : List K) (h : Hd) (word : ByteArray) : K := if draftedB L h word then draftK L (belows L L.length) h.who h.has h.last word else ⟨0, 0, 0, ⟨#[]⟩⟩
structure DzO (w W : World) (h : Hd) : Prop where
 bel : Below w.heap.size w W
 hh : HAt W w.heap.size 0 h
 zz : Kn.Zero (w.heap.size + 1) W
theorem dzo_new (w : World) (h : Hd) (t u : TypeId) : DzO w ((w.alloc (.cells #[.int .i64 h.who, .int .i64 h.has, .int .i64 h.kept, .int .i64 h.last] t)).alloc (.cells #[.int .i64 0, .int .i64 0, .int .i64 0, .string ⟨#[]⟩] u)) h where
 bel := ((Below.refl _ _).alloc (Nat.le_refl _) _).alloc (by simp) _
 hh := hat_below (hat_new w h t) ((Below.refl _ _).alloc (Nat.le_refl _) _)
 zz := by have := Kn.zero_new (w.alloc (.cells #[.int .i64 h.who, .int .i64 h.has, .int .i64 h.kept, .int .i64 h.last] t)) u; simpa using this
theorem DzO.below {w W V : World} {h : Hd} (x : DzO w W h) (hb : Below W.heap.size W V) : DzO w V h := ⟨x.bel.trans (hb.mono x.bel.size), hat_below x.hh hb, x.zz.below hb⟩
theorem zcells {b : Nat} {w : World} (z : Kn.Zero b w) : w.cell? ⟨b, 0, none⟩ = some (.int .i64 0) ∧ w.cell? ⟨b, 1, none⟩ = some (.int .i64 0) ∧ w.cell? ⟨b, 2, none⟩ = some (.int .i64 0) ∧ w.cell? ⟨b, 3, none⟩ = some (.string ⟨#[]⟩) ∧ w.frozen? ⟨b, 0, none⟩ = false ∧ w.frozen? ⟨b, 1, none⟩ = false ∧ w.frozen? ⟨b, 2, none⟩ = false ∧ w.frozen? ⟨b, 3, none⟩ = false := ⟨z.r0, z.r1, z.r2, z.r3, z.f0, z.f1, z.f2, z.f3⟩
theorem zput {b n : Nat} {w V : World} (z : Kn.Zero b V) (hb : Below n w V) (hn : n ≤ b) (k0 k1 k2 : Int) (k3 : ByteArray) : ∃ W, W = ((((V.setCell ⟨b, 0, none⟩ (.int .i64 k0)).setCell ⟨b, 1, none⟩ (.int .i64 k1)).setCell ⟨b, 2, none⟩ (.int .i64 k2)).setCell ⟨b, 3, none⟩ (.string k3)) ∧
   W.cell? ⟨b, 0, none⟩ = some (.int .i64 k0) ∧ W.cell? ⟨b, 1, none⟩ = some (.int .i64 k1) ∧ W.cell? ⟨b, 2, none⟩ = some (.int .i64 k2) ∧ W.cell? ⟨b, 3, none⟩ = some (.string k3) ∧ Below n w W := by
 have q := z.put (.int .i64 k0) (.int .i64 k1) (.int .i64 k2) (.string k3)
 exact ⟨_, rfl, q.1, q.2.1, q.2.2.1, q.2.2.2, (((hb.setCell (p := ⟨b, 0, none⟩) hn _).setCell (p := ⟨b, 1, none⟩) hn _).setCell (p := ⟨b, 2, none⟩) hn _).setCell (p := ⟨b, 3, none⟩) hn _⟩
def dzK (L : List K) (l : List Int) (who has last : Int) (word : ByteArray) : K := if draftB L l who has last word then draftK L l who has last word else ⟨0, 0, 0, ⟨#[]⟩⟩
theorem draft_dz {L : List K} {l : List Int} {who has last : Int} {word : ByteArray} {w : World} {e : Ending} {w' : World} (h : DraftPost L l who has last word w e w') :
   e = .returned (.tuple #[.agg #[.int .i64 (dzK L l who has last word).hand, .int .i64 (dzK L l who has last word).round, .int .i64 (dzK L l who has last word).frm, .string (dzK L l who has last word).word], .bool (draftB L l who has last word)]) ∧ Below w.heap.size w w' := by
 obtain ⟨h1 | h1, hb⟩ := h
 · refine ⟨?_, hb⟩
   unfold dzK
   rw [h1.1, h1.2]; rfl
 · refine ⟨?_, hb⟩
   unfold dzK
   rw [h1.1, h1.2]; rfl
set_option maxHeartbeats 3200000 in
theorem specDraft (g off cap : Nat) (L : List K) (h : Hd) (word : ByteArray) (w : World) (hcap : L.length ≤ cap) (hw : WordsOk L) (hr : RdK w (some ⟨g, off, none⟩) L) (hk : H64 h) (hwd : word.size ≤ 1099511627776) :
   Calls Tryz.prog 27 #[.slice (some ⟨g, off, none⟩) L.length cap, .agg #[.int .i64 h.who, .int .i64 h.has, .int .i64 h.kept, .int .i64 h.last], .string word] w fun e w' => e = .returned (.tuple #[.agg #[.int .i64 (draftedK L h word).hand, .int .i64 (draftedK L h word).round, .int .i64 (draftedK L h word).frm, .string (draftedK L h word).word], .bool (draftedB L h word)]) ∧ Below w.heap.size w w' := by
 have P0 : Hid (DzO w ((w.alloc (.cells #[.int .i64 h.who, .int .i64 h.has, .int .i64 h.kept, .int .i64 h.last] 26)).alloc (.cells #[.int .i64 0, .int .i64 0, .int .i64 0, .string ⟨#[]⟩] 36)) h) := dzo_new w h _ _
 have HR : Hid (RdK w (some ⟨g, off, none⟩) L) := hr
 clear hr
 go_enter Tryz.func27, Tryz.ntmps27
 go_wp2_with fail
 generalize (w.alloc (.cells #[.int .i64 h.who, .int .i64 h.has, .int .i64 h.kept, .int .i64 h.last] 26)).alloc (.cells #[.int .i64 0, .int .i64 0, .int .i64 0, .string ⟨#[]⟩] 36) = W0 at P0 ⊢
 refine (specHandOk g off cap L h W0 hcap hw (HR.out.below P0.out.bel) hk).mono ?_
 rintro e w1 ⟨rfl, hb1⟩
 have P1 : Hid (DzO w w1 h) := P0.out.below hb1
 clear hb1 P0
 cases ho : handOkB L h
 · have HT : Hid (draftedK L h word = ⟨0, 0, 0, ⟨#[]⟩⟩ ∧ draftedB L h word = false) := by
     have q : draftedB L h word = false := by unfold draftedB; rw [ho]; rfl
     exact ⟨by unfold draftedK; rw [q]; rfl, q⟩
   obtain ⟨z0, z1, z2, z3, f0, f1, f2, f3⟩ := zcells P1.out.zz
   obtain ⟨W, hW, m0, m1, m2, m3, hB⟩ := zput P1.out.zz P1.out.bel (by omega) 0 0 0 ⟨#[]⟩
   have HW : Hid (W = _) := hW
   clear ho hW P1
   go_wp2
   rw [← HW.out]
   refine bodyPost_ret (v := .tuple #[.agg #[.int .i64 0, .int .i64 0, .int .i64 0, .string ⟨#[]⟩], .bool false]) (by simp [results, Tryz.f27, go_sem, m0, m1, m2, m3]) rfl ?_
   exact ⟨by rw [HT.out.1, HT.out.2], hB⟩
 · have hpt := ho
   unfold handOkB at hpt
   rw [Bool.and_eq_true] at hpt
   obtain ⟨hl, hok⟩ := hpt
   have hbd := hok_parts hk hl hok
   have hla := hok_last hok
   have h60 := ((Lc.lace_iff L).1 hl).1
   have HTB : Hid (draftedB L h word = draftB L (belows L L.length) h.who h.has h.last word) := by show _ = _; unfold draftedB; rw [ho]; rfl
   have HTK : Hid (draftedK L h word = dzK L (belows L L.length) h.who h.has h.last word) := by show _ = _; unfold draftedK dzK; rw [HTB.out]
   have hbl := Sg.belows_len L L.length
   have HALL : Hid (∀ X : World, DzO w X h → Calls Tryz.prog 43 #[.slice (some ⟨g, off, none⟩) L.length cap] X fun e Y => ∃ bo bc, e = .returned (.slice bo L.length bc) ∧ Lst.Rd Y bo (belows L L.length) ∧ (∀ c, bo = some ⟨c, 0, none⟩ → c < Y.heap.size) ∧ DzO w Y h) := fun X hX => by
     refine (Sg.l4All (some ⟨g, off, none⟩) cap L X h60 (Sg.frm_lace hl) (HR.out.below hX.bel)).mono ?_
     rintro e Y ⟨bo, bc, rfl, hown, hb⟩
     rw [hbl]
     exact ⟨bo, bc, rfl, Lst.own_rd hown, fun c e => by subst e; exact (World.ownsRow.lt hown c rfl).2, hX.below hb⟩
   have HDRF : Hid (∀ (X : World) (bo : Option Addr) (bc : Nat), Lst.Rd X bo (belows L L.length) → (∀ c, bo = some ⟨c, 0, none⟩ → c < X.heap.size) → DzO w X h → Calls Tryz.prog 71 #[.slice (some ⟨g, off, none⟩) L.length cap, .slice bo L.length bc, .agg #[.int .i64 h.who, .int .i64 h.has, .int .i64 h.kept, .int .i64 h.last], .string word] X fun e Y => e = .returned (.tuple #[.agg #[.int .i64 (dzK L (belows L L.length) h.who h.has h.last word).hand, .int .i64 (dzK L (belows L L.length) h.who h.has h.last word).round, .int .i64 (dzK L (belows L L.length) h.who h.has h.last word).frm, .string (dzK L (belows L L.length) h.who h.has h.last word).word], .bool (draftB L (belows L L.length) h.who h.has h.last word)]) ∧ DzO w Y h) := fun X bo bc h1 h2 hX => by
     have := l14Draft (some ⟨g, off, none⟩) cap L bo bc (belows L L.length) h.who h.has h.kept h.last word X h60 hbl (Lc.lace_hands hl) (HR.out.below hX.bel) h1 h2 hbd.1 hbd.2.1 hla hwd
     rw [hbl] at this
     refine this.mono ?_
     intro e Y q
     obtain ⟨q1, q2⟩ := draft_dz q
     exact ⟨q1, hX.below q2⟩
   generalize dzK L (belows L L.length) h.who h.has h.last word = kk at HTK HDRF
   generalize draftB L (belows L L.length) h.who h.has h.last word = db at HTB HDRF
   obtain ⟨k0, k1, k2, k3⟩ := kk
   dsimp only at HDRF
   obtain ⟨c0, c1, c2, c3⟩ := cellsH P1.out.hh
   have P1d : Hid (DzO w w1.drew h) := P1.out.below (Below.refl _ w1).drew
   clear ho hok hbl hbd hla hl P1
   go_wp2_with fail
   go_region_with (first
     | (go_at_call 43
        refine (HALL.out _ P1d.out).mono ?_
        rintro e w3 ⟨bo, bc, rfl, hrd3, hbo3, d3⟩
        have P3 : Hid (Lst.Rd w3 bo (belows L L.length) ∧ (∀ c, bo = some ⟨c, 0, none⟩ → c < w3.heap.size) ∧ DzO w w3 h) := ⟨hrd3, hbo3, d3⟩
        clear hrd3 hbo3 d3
        have e0 := (cellsH P3.out.2.2.hh).1
        have e1 := (cellsH P3.out.2.2.hh).2.1
        have e2 := (cellsH P3.out.2.2.hh).2.2.1
        have e3 := (cellsH P3.out.2.2.hh).2.2.2)
     | (go_at_call 71
        refine (HDRF.out _ _ _ P3.out.1 P3.out.2.1 P3.out.2.2).mono ?_
        rintro e w4 ⟨rfl, d4⟩
        have P4 : Hid (DzO w w4 h) := d4
        clear d4
        have z0 := (zcells P4.out.zz).1
        have z1 := (zcells P4.out.zz).2.1
        have z2 := (zcells P4.out.zz).2.2.1
        have z3 := (zcells P4.out.zz).2.2.2.1
        have f0 := (zcells P4.out.zz).2.2.2.2.1
        have f1 := (zcells P4.out.zz).2.2.2.2.2.1
        have f2 := (zcells P4.out.zz).2.2.2.2.2.2.1
        have f3 := (zcells P4.out.zz).2.2.2.2.2.2.2))
   all_goals (have HPU := zput P4.out.zz P4.out.bel (by omega) k0 k1 k2 k3)
   all_goals obtain ⟨W, hW, m0, m1, m2, m3, hB⟩ := HPU
   all_goals (have HW : Hid (W = _) := hW)
   all_goals clear hW
   all_goals go_wp2
   all_goals rw [← HW.out]
   all_goals refine bodyPost_ret (v := .tuple #[.agg #[.int .i64 k0, .int .i64 k1, .int .i64 k2, .string k3], .bool db]) (by simp [results, Tryz.f27, go_sem, m0, m1, m2, m3]) rfl ?_
   all_goals exact ⟨by rw [HTK.out, HTB.out], hB⟩
end Rm
namespace Rm
open Kn (K okK)
open Lc (at' RdK WordsOk laceB OwnK)
open Sg (belows orB)
def tiesB (L : List K) (h : Hd) (word : ByteArray) : Bool := handOkB L h && tieB L h word
def tiesL (L : List K) (h : Hd) (word : ByteArray) : List K := if handOkB L h then (if tieB L h word then L ++ [tieK L h word] else L) else []
def tiesH (L : List K) (h : Hd) (word : ByteArray) : Hd := if handOkB L h then (if tieB L h word then ⟨h.who, orB h.has (2 ^ L.length), orB h.has (2 ^ L.length), (L.length : Int)⟩ else h) else ⟨0, 0, 0, 0⟩
def TiesPost (L : List K) (h : Hd) (word : ByteArray) (w : World) (e : Ending) (w' : World) : Prop :=
 ∃ v, e = .returned (.tuple #[v, .agg #[.int .i64 (tiesH L h word).who, .int .i64 (tiesH L h word).has, .int .i64 (tiesH L h word).kept, .int .i64 (tiesH L h word).last], .bool (tiesB L h word)]) ∧ OwnK 36 w.heap.size w' v (tiesL L h word) ∧ Below w.heap.size w w'
theorem tie_one (g off cap : Nat) (L : List K) (h : Hd) (word : ByteArray) (w : World) (hcap : L.length ≤ cap) (hl : laceB L = true) (hr : RdK w (some ⟨g, off, none⟩) L) (hok : HdOk L.length h) (hwd : word.size ≤ 1099511627776) :
   Calls Tryz.prog 68 #[.slice (some ⟨g, off, none⟩) L.length cap, .agg #[.int .i64 h.who, .int .i64 h.has, .int .i64 h.kept, .int .i64 h.last], .string word] w fun e w' => ∃ xo xc, e = .returned (.tuple #[.slice (some xo) (if tieB L h word then L ++ [tieK L h word] else L).length xc, .agg #[.int .i64 (if tieB L h word then (⟨h.who, orB h.has (2 ^ L.length), orB h.has (2 ^ L.length), (L.length : Int)⟩ : Hd) else h).who, .int .i64 (if tieB L h word then (⟨h.who, orB h.has (2 ^ L.length), orB h.has (2 ^ L.length), (L.length : Int)⟩ : Hd) else h).has, .int .i64 (if tieB L h word then (⟨h.who, orB h.has (2 ^ L.length), orB h.has (2 ^ L.length), (L.length : Int)⟩ : Hd) else h).kept, .int .i64 (if tieB L h word then (⟨h.who, orB h.has (2 ^ L.length), orB h.has (2 ^ L.length), (L.length : Int)⟩ : Hd) else h).last], .bool (tieB L h word)]) ∧ xo.spot = none ∧ RdK w' (some xo) (if tieB L h word then L ++ [tieK L h word] else L) ∧ Below w.heap.size w w' := by
 refine (l14Tie (some ⟨g, off, none⟩) cap L h word w (fun e => by cases e) (fun x e => by cases e; rfl) hcap hl hr hok hwd).mono ?_
 rintro e w' ⟨h1 | h1, hb⟩
 · obtain ⟨q, rfl⟩ := h1
   rw [q]
   exact ⟨⟨g, off, none⟩, cap, rfl, rfl, hr.below hb, hb⟩
 · obtain ⟨q, v, rfl, ho⟩ := h1
   obtain ⟨g', cp', rfl, _, _, _, _, hrd, _⟩ := Lc.ownK_shape ho
   rw [q]
   exact ⟨⟨g', 0, none⟩, cp', rfl, rfl, hrd, hb⟩
set_option maxHeartbeats 3200000 in
theorem specTies (g off cap : Nat) (L : List K) (h : Hd) (word : ByteArray) (w : World) (hcap : L.length ≤ cap) (hw : WordsOk L) (hr : RdK w (some ⟨g, off, none⟩) L) (hk : H64 h) (hwd : word.size ≤ 1099511627776) :
   Calls Tryz.prog 24 #[.slice (some ⟨g, off, none⟩) L.length cap, .agg #[.int .i64 h.who, .int .i64 h.has, .int .i64 h.kept, .int .i64 h.last], .string word] w (TiesPost L h word w) := by
 have P0 : Hid (HzO w ((w.alloc (.cells #[.int .i64 h.who, .int .i64 h.has, .int .i64 h.kept, .int .i64 h.last] 26)).alloc (.cells #[.int .i64 0, .int .i64 0, .int .i64 0, .int .i64 0] 26)) h ⟨0, 0, 0, 0⟩) := hzo_new w h _
 have HR : Hid (RdK w (some ⟨g, off, none⟩) L) := hr
 clear hr
 go_enter Tryz.func24, Tryz.ntmps24
 go_wp2_with fail
 generalize (w.alloc (.cells #[.int .i64 h.who, .int .i64 h.has, .int .i64 h.kept, .int .i64 h.last] 26)).alloc (.cells #[.int .i64 0, .int .i64 0, .int .i64 0, .int .i64 0] 26) = W0 at P0 ⊢
 refine (specHandOk g off cap L h W0 hcap hw (HR.out.below P0.out.bel) hk).mono ?_
 rintro e w1 ⟨rfl, hb1⟩
 have P1 : Hid (HzO w w1 h ⟨0, 0, 0, 0⟩) := P0.out.below hb1
 clear hb1 P0
 cases ho : handOkB L h
 · have HT : Hid (tiesH L h word = ⟨0, 0, 0, 0⟩ ∧ tiesB L h word = false ∧ tiesL L h word = []) := ⟨by unfold tiesH; rw [ho]; rfl, by unfold tiesB; rw [ho]; rfl, by unfold tiesL; rw [ho]; rfl⟩
   have P2 : Hid (HzO w (w1.alloc (.cells #[] 36)) h ⟨0, 0, 0, 0⟩) := P1.out.below ((Below.refl _ _).alloc (Nat.le_refl _) _)
   have HOE : Hid (OwnK 36 (w.heap.size + 2) (w1.alloc (.cells #[] 36)) (.slice (some ⟨w1.heap.size, 0, none⟩) 0 0) []) := by
     have hz := P1.out.zz.lt
     exact ⟨⟨rfl, .inr ⟨w1.heap.size, 0, #[], rfl, by omega, (by show (w1.heap.push _)[w1.heap.size]? = _; rw [Array.getElem?_push_size]), Nat.le_refl _, Nat.zero_le _, rfl, rfl⟩⟩, by simp⟩
   obtain ⟨V, hV, m0, m1, m2, m3, hB⟩ := P2.out.put ⟨0, 0, 0, 0⟩
   have hOV := ownK_put HOE.out (p := w.heap.size + 1) (by omega) (.int .i64 0) (.int .i64 0) (.int .i64 0) (.int .i64 0)
   dsimp only at hV m0 m1 m2 m3
   rw [← hV] at hOV
   have HF : Hid (TiesPost L h word w (.returned (.tuple #[.slice (some ⟨w1.heap.size, 0, none⟩) 0 0, .agg #[.int .i64 0, .int .i64 0, .int .i64 0, .int .i64 0], .bool false])) V) := by
     refine ⟨_, by rw [HT.out.1, HT.out.2.1], ?_, hB⟩
     rw [HT.out.2.2]
     exact Lc.ownK_base hOV (by omega)
   obtain ⟨z0, z1, z2, z3⟩ := cellsH P2.out.zz
   have f0 := P2.out.zz.f0
   have f1 := P2.out.zz.f1
   have f2 := P2.out.zz.f2
   have f3 := P2.out.zz.f3
   simp only [Nat.zero_add] at f1 f2 f3
   have HV : Hid (V = _) := hV
   clear ho hV hOV HOE P2 P1 hB
   go_wp2
   rw [← HV.out]
   refine bodyPost_ret (v := .tuple #[.slice (some ⟨w1.heap.size, 0, none⟩) 0 0, .agg #[.int .i64 0, .int .i64 0, .int .i64 0, .int .i64 0], .bool false]) (by simp [results, Tryz.f24, go_sem, m0, m1, m2, m3]) rfl ?_
   exact HF.out
 · have hpt := ho
   unfold handOkB at hpt
   rw [Bool.and_eq_true] at hpt
   obtain ⟨hl, hok⟩ := hpt
   have hbd := hok_parts hk hl hok
   have hla := hok_last hok
   have h60 := ((Lc.lace_iff L).1 hl).1
   have hT := tie_one g off cap L h word w1 hcap hl (HR.out.below P1.out.bel) ⟨hbd.1, hbd.2.1, hbd.2.2.1, hbd.2.2.2, hla⟩ hwd
   have HTB : Hid (tiesB L h word = tieB L h word) := by show _ = _; unfold tiesB; rw [ho]; rfl
   have HTL : Hid (tiesL L h word = if tieB L h word then L ++ [tieK L h word] else L) := by show _ = _; unfold tiesL; rw [if_pos ho]
   have HTH : Hid (tiesH L h word = if tieB L h word then (⟨h.who, orB h.has (2 ^ L.length), orB h.has (2 ^ L.length), (L.length : Int)⟩ : Hd) else h) := by show _ = _; unfold tiesH; rw [if_pos ho]
   have hM : (if tieB L h word then L ++ [tieK L h word] else L).length ≤ 2000000 := by
     split
     · rw [List.length_append]; simp; omega
     · omega
   generalize (if tieB L h word then L ++ [tieK L h word] else L) = M at hT HTL hM
   generalize (if tieB L h word then (⟨h.who, orB h.has (2 ^ L.length), orB h.has (2 ^ L.length), (L.length : Int)⟩ : Hd) else h) = y at hT HTH
   generalize tieB L h word = tb at hT HTB
   obtain ⟨y0, y1, y2, y3⟩ := y
   dsimp only at hT
   obtain ⟨c0, c1, c2, c3⟩ := cellsH P1.out.hh
   clear ho hok hbd hla hl
   go_wp2_with fail
   refine hT.mono ?_
   rintro e w3 ⟨xo, xc, rfl, hsp, hrd3, hb3⟩
   have P3 : Hid (HzO w w3 h ⟨0, 0, 0, 0⟩) := P1.out.below hb3
   have P4 : Hid (HzO w (w3.alloc (.cells #[.int .i64 y0, .int .i64 y1, .int .i64 y2, .int .i64 y3] 26)) h ⟨0, 0, 0, 0⟩ ∧ HAt (w3.alloc (.cells #[.int .i64 y0, .int .i64 y1, .int .i64 y2, .int .i64 y3] 26)) w3.heap.size 0 ⟨y0, y1, y2, y3⟩) := ⟨P3.out.below ((Below.refl _ _).alloc (Nat.le_refl _) _), hat_new w3 ⟨y0, y1, y2, y3⟩ _⟩
   have HCP : Hid (∀ X : World, Below (w3.alloc (.cells #[.int .i64 y0, .int .i64 y1, .int .i64 y2, .int .i64 y3] 26)).heap.size (w3.alloc (.cells #[.int .i64 y0, .int .i64 y1, .int .i64 y2, .int .i64 y3] 26)) X → Calls Tryz.prog 69 #[.slice (some xo) M.length xc] X (Lc.CopyPost M X)) := fun X hX =>
     l3CopyO (some xo) xc M X (fun e => by cases e) (fun x e => by cases e; exact hsp) hM ((hrd3.below ((Below.refl _ w3).alloc (Nat.le_refl _) _)).below hX)
   clear hT hb3 hrd3 hsp P3 P1 c0 c1 c2 c3
   go_upto_region 4 with fail
   generalize w3.alloc (.cells #[.int .i64 y0, .int .i64 y1, .int .i64 y2, .int .i64 y3] 26) = w4 at P4 HCP ⊢
   generalize w3.heap.size = yb at P4 ⊢
   obtain ⟨d0, d1, d2, d3⟩ := cellsH P4.out.2
   dsimp only at d0 d1 d2 d3
   go_region_with (
     go_at_call 69
     refine (HCP.out _ (Below.refl _ w4).drew).mono ?_
     rintro e w5 ⟨v, rfl, hO5, hb5⟩
     have P5 : Hid (HzO w w5 h ⟨0, 0, 0, 0⟩ ∧ HAt w5 yb 0 ⟨y0, y1, y2, y3⟩ ∧ OwnK 36 w4.heap.size w5 v M) := ⟨(P4.out.1.below (Below.refl _ w4).drew).below hb5, hat_below (hat_drew P4.out.2) hb5, hO5⟩
     have hw4 : w.heap.size + 1 < w4.heap.size := P4.out.1.zz.lt
     obtain ⟨vg, vc, hvs⟩ : ∃ vg vc, v = .slice (some ⟨vg, 0, none⟩) M.length vc := by obtain ⟨vg, vc, e, _⟩ := Lc.ownK_shape hO5; exact ⟨vg, vc, e⟩
     subst hvs
     clear hO5 hb5
     have e0 := (cellsH P5.out.2.1).1
     have e1 := (cellsH P5.out.2.1).2.1
     have e2 := (cellsH P5.out.2.1).2.2.1
     have e3 := (cellsH P5.out.2.1).2.2.2
     dsimp only at e0 e1 e2 e3
     have z0 := (cellsH P5.out.1.zz).1
     have z1 := (cellsH P5.out.1.zz).2.1
     have z2 := (cellsH P5.out.1.zz).2.2.1
     have z3 := (cellsH P5.out.1.zz).2.2.2
     have f0 := P5.out.1.zz.f0
     have f1 := P5.out.1.zz.f1
     have f2 := P5.out.1.zz.f2
     have f3 := P5.out.1.zz.f3
     simp only [Nat.zero_add] at f1 f2 f3)
   all_goals (have HPU := P5.out.1.put ⟨y0, y1, y2, y3⟩)
   all_goals obtain ⟨V, hV, m0, m1, m2, m3, hB⟩ := HPU
   all_goals (have hOV := ownK_put P5.out.2.2 (p := w.heap.size + 1) hw4 (.int .i64 y0) (.int .i64 y1) (.int .i64 y2) (.int .i64 y3))
   all_goals dsimp only at hV m0 m1 m2 m3
   all_goals rw [← hV] at hOV
   all_goals (have HV : Hid (V = _) := hV)
   all_goals clear hV
   all_goals go_wp2
   all_goals rw [← HV.out]
   all_goals refine bodyPost_ret (v := .tuple #[.slice (some ⟨vg, 0, none⟩) M.length vc, .agg #[.int .i64 y0, .int .i64 y1, .int .i64 y2, .int .i64 y3], .bool tb]) (by simp [results, Tryz.f24, go_sem, m0, m1, m2, m3]) rfl ?_
   all_goals exact ⟨_, by rw [HTH.out, HTB.out], by rw [HTL.out]; exact Lc.ownK_base hOV (by omega), hB⟩
end Rm
end Go.Proofs.YtfjmenhofllchaaGreatDoor
namespace Go.Proofs.YtfjmenhofllchaaGreatDoor
open Go.RowKit
set_option maxRecDepth 100000
namespace Gr
open Kn (K okK)
open Bit (bit withB memTo)
open Lc (at' laceB setB handsN hasHand roundS)
open Sg (isB bel)
open Db (dblN)
open Nd (nodN nodS)
open Sl (sealN sealS nodAt)
structure Ext (L M : List K) : Prop where
 lace : laceB L = true
 lace2 : laceB M = true
 len : L.length ≤ M.length
 same : ∀ i, i < L.length → at' M i = at' L i
theorem Ext.refl {L : List K} (h : laceB L = true) : Ext L L := ⟨h, h, Nat.le_refl _, fun _ _ => rfl⟩
theorem Ext.trans {L M N : List K} (h : Ext L M) (h2 : Ext M N) : Ext L N := ⟨h.lace, h2.lace2, Nat.le_trans h.len h2.len, fun i hi => (h2.same i (Nat.lt_of_lt_of_le hi h.len)).trans (h.same i hi)⟩
theorem Ext.app {L X : List K} (h : laceB L = true) (h2 : laceB (L ++ X) = true) : Ext L (L ++ X) :=
 ⟨h, h2, by simp, fun i hi => by unfold Lc.at'; simp [List.getD, List.getElem?_append_left hi]⟩
theorem Ext.l60 {L M : List K} (h : Ext L M) : L.length ≤ 60 := ((Lc.lace_iff L).1 h.lace).1
theorem reach_to {L M : List K} (h : Ext L M) {i j : Nat} (hi : i < L.length) (hr : Sg.Reach L i j) : Sg.Reach M i j := by
 induction hr with
 | self => exact .self _
 | @step i m j hb _ ih =>
   have hm := Sg.thread_lt h.lace hi hb
   exact .step (by rw [h.same i hi]; exact hb) (ih (by omega))
theorem reach_of {L M : List K} (h : Ext L M) {i j : Nat} (hi : i < L.length) (hr : Sg.Reach M i j) : Sg.Reach L i j := by
 induction hr with
 | self => exact .self _
 | @step i m j hb _ ih =>
   rw [h.same i hi] at hb
   have hm := Sg.thread_lt h.lace hi hb
   exact .step hb (ih (by omega))
theorem bel_same {L M : List K} (h : Ext L M) {i : Nat} (hi : i < L.length) : bel M i = bel L i := by
 have h1 := Sg.bel_bd L i (by have := h.l60; omega)
 have h2 := Sg.bel_bd M i (by have := h.l60; omega)
 refine Lc.eq_of_bits _ _ h2.1 h1.1 fun j => ?_
 rw [Bool.eq_iff_iff, Sg.bel_reach h.lace i hi j, Sg.bel_reach h.lace2 i (Nat.lt_of_lt_of_le hi h.len) j]
 exact ⟨reach_of h hi, reach_to h hi⟩
end Gr
namespace Rm
open Kn (K okK)
open Bit (bit withB)
open Lc (at' laceB)
open Sg (belows bel orB)
theorem tie_parts {L : List K} {h : Hd} {word : ByteArray} (x : HandIs L h) (q : tieB L h word = true) :
   laceB (L ++ [tieK L h word]) = true ∧ L.length < 60 ∧ (tieK L h word).hand = h.who ∧ (tieK L h word).round = nextI L h.has h.last ∧ 0 ≤ nextI L h.has h.last ∧ (tieK L h word).word = word ∧ (tieK L h word).frm = Sg.tipsTo (belows L L.length) (draftS L h.has (nextI L h.has h.last)) L.length := by
 unfold tieB at q
 rw [Bool.and_eq_true] at q
 have hk : tieK L h word = draftK L (belows L L.length) h.who h.has h.last word := by unfold tieK draftZ; rw [if_pos q.1]
 have h1 := lace_snoc x.lace q.2
 have h2 : L.length < 60 := by
   have := q.2
   unfold Lc.takesB at this
   rw [Bool.and_eq_true, decide_eq_true_eq] at this
   exact this.1
 have h3 := q.1
 unfold draftB at h3
 rw [Bool.and_eq_true, decide_eq_true_eq] at h3
 refine ⟨h1, h2, ?_, ?_, h3.1, ?_, ?_⟩
 · rw [hk]; rfl
 · rw [hk]; rfl
 · rw [hk]; rfl
 · rw [hk]
   show Sg.tipsTo (belows L L.length) _ (belows L L.length).length = _
   rw [Sg.belows_len]
theorem bit_draftS (L : List K) (has r : Int) (h60 : L.length ≤ 60) (i : Nat) : bit (draftS L has r) i = (decide (i < L.length) && (bit has i && decide ((at' L i).round < r))) := Lc.bit_among _ L has L.length h60 i
theorem draft_closed {L : List K} {h : Hd} (x : HandIs L h) (r : Int) : ClosedIs L (draftS L h.has r) := by
 have h60 := ((Lc.lace_iff L).1 x.lace).1
 have hb := Lc.among_bd (fun y => decide (y.round < r)) L h.has L.length h60
 refine ⟨x.lace, hb.1, hb.2, Lc.div_of_bits _ _ hb.1 fun i hi => ?_, (Sg.closed_iff L _ L.length h60 hb.1 hb.2).2 fun i hi hbi j hj => ?_⟩
 · show bit (draftS L h.has r) i = false
   rw [bit_draftS L h.has r h60, decide_eq_false (by omega)]; rfl
 · have e1 := bit_draftS L h.has r h60 i
   rw [show bit (draftS L h.has r) i = true from hbi] at e1
   have e2 : (decide (i < L.length) && (bit h.has i && decide ((at' L i).round < r))) = true := e1.symm
   rw [Bool.and_eq_true, Bool.and_eq_true, decide_eq_true_eq, decide_eq_true_eq] at e2
   have hr := (Sg.bel_reach x.lace i hi j).1 hj
   have hji := Sg.reach_le x.lace hi hr
   have hc := x.chas i e2.2.1 j hj
   have hro : (at' L j).round < r := by
     rcases Ag.reach_round x.lace hi hr with e | e
     · rw [e]; exact e2.2.2
     · have := e2.2.2; omega
   show bit (draftS L h.has r) j = true
   rw [bit_draftS L h.has r h60, decide_eq_true (show j < L.length by omega), hc, decide_eq_true hro]; rfl
theorem tied_below {L : List K} {h : Hd} {word : ByteArray} (x : HandIs L h) (q : tieB L h word = true) (i : Nat) (hi : i < L.length) :
   bit (bel (L ++ [tieK L h word]) L.length) i = (bit h.has i && decide ((at' L i).round < (tieK L h word).round)) := by
 obtain ⟨hl2, h60, _, hr, _, _, hf⟩ := tie_parts x q
 have hE : Gr.Ext L (L ++ [tieK L h word]) := Gr.Ext.app x.lace hl2
 have hC := draft_closed x (nextI L h.has h.last)
 have hn : L.length < (L ++ [tieK L h word]).length := by simp
 have hat : at' (L ++ [tieK L h word]) L.length = tieK L h word := by unfold Lc.at'; simp
 rw [hr, Bool.eq_iff_iff, Sg.bel_reach hl2 L.length hn i]
 have hS : bit (draftS L h.has (nextI L h.has h.last)) i = (bit h.has i && decide ((at' L i).round < nextI L h.has h.last)) := by
   rw [bit_draftS L h.has _ (by omega), decide_eq_true hi]; rfl
 rw [← hS]
 constructor
 · intro hR
   cases hR with
   | self => omega
   | step hb hR =>
     rename_i m
     rw [hat, hf] at hb
     obtain ⟨hbm, _⟩ := (tips_iff hC m).1 hb
     have hm := in_len hC hbm
     have hRL := Gr.reach_of hE hm hR
     exact (Sg.closed_iff L _ L.length (by omega) hC.s0 hC.s1).1 hC.cl m hm hbm i ((Sg.bel_reach x.lace m hm i).2 hRL)
 · intro hb
   obtain ⟨m, hm1, hm2⟩ := below_tip hC (L.length - i) i i rfl hb ((Sg.bel_reach x.lace i hi i).2 (.self _))
   obtain ⟨hbm, _⟩ := (tips_iff hC m).1 hm1
   have hm := in_len hC hbm
   refine .step (m := m) (by rw [hat, hf]; exact hm1) (Gr.reach_to hE hm ((Sg.bel_reach x.lace m hm i).1 hm2))
theorem last_same {L M : List K} {who s t : Int} (n : Nat) (hL : ∀ i, i < n → at' M i = at' L i) (hs : ∀ i, i < n → (at' L i).hand = who → bit t i = bit s i) : lastTo M who t n = lastTo L who s n := by
 induction n with
 | zero => rfl
 | succ n ih =>
   have e := ih (fun i hi => hL i (by omega)) (fun i hi => hs i (by omega))
   have hb := lastTo_bd L who s n
   have hat : lastTo L who s n < 0 ∨ at' M (lastTo L who s n).toNat = at' L (lastTo L who s n).toNat := by
     by_cases h0 : lastTo L who s n < 0
     · exact .inl h0
     · exact .inr (hL _ (by omega))
   unfold lastTo
   rw [e, hL n (by omega)]
   by_cases hw : (at' L n).hand = who
   · rw [hs n (by omega) hw]
     rcases hat with h0 | h0
     · rw [decide_eq_true h0]
       simp
     · rw [h0]
   · rw [decide_eq_false hw]
     simp
def tiedH (L : List K) (h : Hd) : Hd := ⟨h.who, orB h.has (2 ^ L.length), orB h.has (2 ^ L.length), (L.length : Int)⟩
theorem tied_is {L : List K} {h : Hd} {word : ByteArray} (x : HandIs L h) (q : tieB L h word = true) : HandIs (L ++ [tieK L h word]) (tiedH L h) := by
 obtain ⟨hl2, h60, hhand, hr, hr0, _, _⟩ := tie_parts x q
 have hE : Gr.Ext L (L ++ [tieK L h word]) := Gr.Ext.app x.lace hl2
 have hp := Lc.pow60 L.length (by omega)
 have hp2 : (2 : Int) ^ L.length < 1152921504606846976 := by
   have e : (2 : Int) ^ L.length * 2 ≤ 1152921504606846976 := by
     have := Lc.pow60 (L.length + 1) (by omega)
     rw [Int.pow_succ] at this
     exact this.2
   omega
 have hob := Sg.orB_bd h.has (2 ^ L.length) x.h0 x.h1 (by omega) hp2
 have hbit : ∀ i, bit (orB h.has (2 ^ L.length)) i = (bit h.has i || decide (i = L.length)) := fun i => by
   rw [Sg.bit_orB h.has _ x.h0 (by omega) i, Sg.bit_pow]
 have hn : L.length < (L ++ [tieK L h word]).length := by simp
 have hlen : (L ++ [tieK L h word]).length = L.length + 1 := by simp
 have hat : at' (L ++ [tieK L h word]) L.length = tieK L h word := by unfold Lc.at'; simp
 have hcl : ∀ i, bit (orB h.has (2 ^ L.length)) i = true → ∀ j, bit (bel (L ++ [tieK L h word]) i) j = true → bit (orB h.has (2 ^ L.length)) j = true := fun i hi j hj => by
   rw [hbit i, Bool.or_eq_true, decide_eq_true_eq] at hi
   rw [hbit j, Bool.or_eq_true, decide_eq_true_eq]
   rcases hi with hi | hi
   · have hil := x.inn i hi
     rw [Gr.bel_same hE hil] at hj
     exact .inl (x.chas i hi j hj)
   · subst hi
     by_cases hjn : j = L.length
     · exact .inr hjn
     · have hjl := Sg.reach_le hl2 hn ((Sg.bel_reach hl2 L.length hn j).1 hj)
       rw [tied_below x q j (by omega), Bool.and_eq_true] at hj
       exact .inl hj.1
 refine ⟨hl2, x.who, hob.1, hob.2, hob.1, hob.2, fun i hi => ?_, fun _ hi => hi, fun _ hi _ => hi, hcl, hcl, ?_⟩
 · have hi' : bit (orB h.has (2 ^ L.length)) i = true := hi
   rw [hbit i, Bool.or_eq_true, decide_eq_true_eq] at hi'
   rcases hi' with e | e
   · have := x.inn i e; omega
   · omega
 · show (L.length : Int) = lastTo (L ++ [tieK L h word]) h.who (orB h.has (2 ^ L.length)) (L ++ [tieK L h word]).length
   rw [hlen]
   have e : lastTo (L ++ [tieK L h word]) h.who (orB h.has (2 ^ L.length)) L.length = h.last := by
     rw [x.last]
     refine last_same L.length (fun i hi => hE.same i hi) (fun i hi hw => ?_)
     rw [hbit i, decide_eq_false (by omega), Bool.or_false]
     cases hk : bit h.kept i
     · cases hh : bit h.has i
       · rfl
       · rw [x.own i hh hw] at hk; cases hk
     · exact x.sub i hk
   have hla := lastTo_bd L h.who h.kept L.length
   rw [← x.last] at hla
   unfold lastTo
   rw [e, hat, hbit L.length, hhand]
   have hc : (decide (h.last < 0) || decide ((at' (L ++ [tieK L h word]) h.last.toNat).round < (tieK L h word).round)) = true := by
     by_cases h0 : h.last < 0
     · rw [decide_eq_true h0]; rfl
     · have hs : at' (L ++ [tieK L h word]) h.last.toNat = at' L h.last.toNat := hE.same _ (by omega)
       rw [hs, hr]
       unfold nextI at hr0 ⊢
       split at hr0
       · omega
       · rename_i hne
         rw [if_neg hne]
         rw [decide_eq_true (show (at' L h.last.toNat).round < nextTo L h.has 19 by omega)]
         simp
   rw [hc]
   simp
end Rm
end Go.Proofs.YtfjmenhofllchaaGreatDoor
