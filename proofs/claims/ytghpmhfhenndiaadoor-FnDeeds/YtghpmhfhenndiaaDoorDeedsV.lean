/-
  FnDeeds, walked: it answers true at every code, where the tables, names and errors are as they are laid.
-/
import Derived.Test.YtghpmhfhenndiaaDoorDrawD
import Derived.Test.YtghpmhfhenndiaaDoorWdC
import Derived.Test.YtghpmhfhenndiaaDoorFam
namespace Go.Proofs.YtghpmhfhenndiaaDoor
open Go.RowKit
set_option maxRecDepth 100000
set_option linter.unusedVariables false
namespace De
open Kn (B dec)

/-- a knot lies there -/
structure Lies (w : World) (b : Nat) (h r f : Int) (s : ByteArray) : Prop where
  c0 : w.cell? ⟨b, 0, none⟩ = some (.int .i64 h)
  c1 : w.cell? ⟨b, 1, none⟩ = some (.string s)
  c2 : w.cell? ⟨b, 2, none⟩ = some (.int .i64 r)
  c3 : w.cell? ⟨b, 3, none⟩ = some (.int .i64 f)

theorem Lies.below {w w' : World} {b : Nat} {h r f : Int} {s : ByteArray} (l : Lies w b h r f s) (hb : Below w.heap.size w w') : Lies w' b h r f s := ⟨cell_keep hb l.c0, cell_keep hb l.c1, cell_keep hb l.c2, cell_keep hb l.c3⟩

theorem lies_new (w : World) (t : TypeId) (h r f : Int) (s : ByteArray) : Lies (w.alloc (.cells #[.int .i64 h, .string s, .int .i64 r, .int .i64 f] t)) w.heap.size h r f s := ⟨by simp, by simp, by simp, by simp⟩

theorem alloc_below (w : World) (o : Obj) : Below w.heap.size w (w.alloc o) := (Below.refl _ _).alloc (Nat.le_refl _) o

theorem B_eq {l : List UInt8} {s : ByteArray} (h : l = s.data.toList) : B l = s := by
  apply ByteArray.ext; rw [h]; simp [B]

theorem ok_key {d : D} (h : okD d = true) : d.key.size ≤ 3 := by
  have kb := ((okD_iff d).1 h).key
  unfold keyB at kb; simp at kb; omega

set_option maxHeartbeats 6400000 in
theorem deedsWalk (a0 : Option Addr) (len0 cap0 : Nat) (w : World) (hcode : Cur.Code w a0 len0) (t : TabQ w) :
    Calls Tryd.prog 3 #[.slice a0 len0 cap0] w fun e w' => e = .returned (.bool true) ∧ Below w.heap.size w w' := by
  by_cases hbig : 4096 < len0
  · have hb' : (4096 : Int) < (len0 : Int) := by omega
    go_enter Tryd.func3, Tryd.ntmps3
    go_wp2_with (first | (go_at_call 6; go_in) | fail)
    go_ret
    exact ⟨rfl, Below.refl _ _⟩
  · have hb' : ¬ (4096 : Int) < (len0 : Int) := by omega
    have hle0 : len0 ≤ 4096 := by omega
    clear hbig
    have HT : Hid (TabQ w) := t
    have HC : Hid (Cur.Code w a0 len0) := hcode
    clear t hcode
    go_enter Tryd.func3, Tryd.ntmps3
    go_wp2_with (first | (go_at_call 6; go_in) | fail)
    refine (drawShowDeed a0 len0 cap0 _ hle0 HC.out).mono ?_
    rintro e w1 ⟨h, s, r, f, rfl, hs, b1⟩
    have P1 : Hid (Below w.heap.size w (w1.alloc (.cells #[.int .i64 h, .string s, .int .i64 r, .int .i64 f] 25)) ∧ Lies (w1.alloc (.cells #[.int .i64 h, .string s, .int .i64 r, .int .i64 f] 25)) w1.heap.size h r f s) :=
      ⟨b1.trans ((alloc_below w1 _).mono b1.size), lies_new _ _ _ _ _ _⟩
    clear b1
    go_wp2_with fail
    generalize w1.alloc (.cells #[.int .i64 h, .string s, .int .i64 r, .int .i64 f] 25) = w2 at P1 ⊢
    obtain ⟨B2, K2⟩ := P1
    generalize w1.heap.size = kb at K2 ⊢
    refine (implShowDeed ⟨h, s, r, f⟩ _ (HT.out.below B2).p (by show s.size ≤ _; omega)).mono ?_
    rintro e w3 ⟨rfl, b3⟩
    have B3 := B2.trans (b3.mono B2.size)
    have K3 := K2.below b3
    clear b3 B2 K2
    have hSl := textD_len ⟨h, s, r, f⟩
    obtain ⟨S, hS⟩ : ∃ S, textD ⟨h, s, r, f⟩ = S := ⟨_, rfl⟩
    rw [hS] at hSl ⊢
    have HS : Hid (textD ⟨h, s, r, f⟩ = S) := hS
    clear hS
    go_wp2_with fail
    refine (drawReadDeed a0 len0 cap0 _ hle0 (code_below HC.out B3)).mono ?_
    rintro e w4 ⟨T, rfl, hT, b4⟩
    have B4 := B3.trans (b4.mono B3.size)
    have K4 := K3.below b4
    clear b4 B3 K3
    go_wp2_with fail
    refine (implReadDeed T _ (HT.out.below B4) (by omega)).mono ?_
    rintro e w5 ⟨⟨xh, xs, xr, xf⟩, xb, rfl, hR, b5⟩
    have B5 := B4.trans (b5.mono B4.size)
    have K5 := K4.below b5
    have HR : Hid (ReadsD T ⟨xh, xs, xr, xf⟩ xb) := hR
    clear b5 B4 K4 hR
    simp only
    have P5 : Hid (Below w.heap.size w (w5.alloc (.cells #[.int .i64 xh, .string xs, .int .i64 xr, .int .i64 xf] 25)) ∧ Lies (w5.alloc (.cells #[.int .i64 xh, .string xs, .int .i64 xr, .int .i64 xf] 25)) w5.heap.size xh xr xf xs ∧ Lies (w5.alloc (.cells #[.int .i64 xh, .string xs, .int .i64 xr, .int .i64 xf] 25)) kb h r f s) :=
      ⟨B5.trans ((alloc_below w5 _).mono B5.size), lies_new _ _ _ _ _ _, K5.below (alloc_below _ _)⟩
    clear B5 K5
    go_wp2_with fail
    generalize w5.alloc (.cells #[.int .i64 xh, .string xs, .int .i64 xr, .int .i64 xf] 25) = w6 at P5 ⊢
    obtain ⟨B6, X6, K6⟩ := P5
    generalize w5.heap.size = xb1 at X6 ⊢
    refine (specReadDeed T _ (by omega)).mono ?_
    rintro e w7 ⟨y, yb, rfl, hR2, b7⟩
    obtain ⟨hy, hyb⟩ := reads_unique HR.out hR2
    subst hy hyb
    have B7 := B6.trans (b7.mono B6.size)
    have K7 := K6.below b7
    have X7 := X6.below b7
    clear b7 B6 K6 X6 hR2
    simp only
    have P7 : Hid (Below w.heap.size w (w7.alloc (.cells #[.int .i64 xh, .string xs, .int .i64 xr, .int .i64 xf] 25)) ∧ Lies (w7.alloc (.cells #[.int .i64 xh, .string xs, .int .i64 xr, .int .i64 xf] 25)) w7.heap.size xh xr xf xs ∧ Lies (w7.alloc (.cells #[.int .i64 xh, .string xs, .int .i64 xr, .int .i64 xf] 25)) xb1 xh xr xf xs ∧ Lies (w7.alloc (.cells #[.int .i64 xh, .string xs, .int .i64 xr, .int .i64 xf] 25)) kb h r f s) :=
      ⟨B7.trans ((alloc_below w7 _).mono B7.size), lies_new _ _ _ _ _ _, X7.below (alloc_below _ _), K7.below (alloc_below _ _)⟩
    clear B7 K7 X7
    go_wp2_with fail
    generalize w7.alloc (.cells #[.int .i64 xh, .string xs, .int .i64 xr, .int .i64 xf] 25) = W at P7 ⊢
    obtain ⟨B8, Y8, X8, K8⟩ := P7
    generalize w7.heap.size = yb1 at Y8 ⊢
    obtain ⟨X, _, F, HF, HG⟩ := Fam.fam W
    have HK8 : Hid (Lies W kb h r f s) := K8
    have HX8 : Hid (Lies W xb1 xh xr xf xs) := X8
    have k0 : ∀ z, (F z).cell? ⟨kb, 0, none⟩ = some (.int .i64 h) := fun z => (K8.below (HF.out z)).c0
    have k1 : ∀ z, (F z).cell? ⟨kb, 1, none⟩ = some (.string s) := fun z => (K8.below (HF.out z)).c1
    have k2 : ∀ z, (F z).cell? ⟨kb, 2, none⟩ = some (.int .i64 r) := fun z => (K8.below (HF.out z)).c2
    have k3 : ∀ z, (F z).cell? ⟨kb, 3, none⟩ = some (.int .i64 f) := fun z => (K8.below (HF.out z)).c3
    have x0 : ∀ z, (F z).cell? ⟨xb1, 0, none⟩ = some (.int .i64 xh) := fun z => (X8.below (HF.out z)).c0
    have x1 : ∀ z, (F z).cell? ⟨xb1, 1, none⟩ = some (.string xs) := fun z => (X8.below (HF.out z)).c1
    have x2 : ∀ z, (F z).cell? ⟨xb1, 2, none⟩ = some (.int .i64 xr) := fun z => (X8.below (HF.out z)).c2
    have x3 : ∀ z, (F z).cell? ⟨xb1, 3, none⟩ = some (.int .i64 xf) := fun z => (X8.below (HF.out z)).c3
    have y0 : ∀ z, (F z).cell? ⟨yb1, 0, none⟩ = some (.int .i64 xh) := fun z => (Y8.below (HF.out z)).c0
    have y1 : ∀ z, (F z).cell? ⟨yb1, 1, none⟩ = some (.string xs) := fun z => (Y8.below (HF.out z)).c1
    have y2 : ∀ z, (F z).cell? ⟨yb1, 2, none⟩ = some (.int .i64 xr) := fun z => (Y8.below (HF.out z)).c2
    have y3 : ∀ z, (F z).cell? ⟨yb1, 3, none⟩ = some (.int .i64 xf) := fun z => (Y8.below (HF.out z)).c3
    clear K8 X8 Y8
    have HSH : Hid (∀ V : World, Calls Tryd.prog 12 #[.agg #[.int .i64 h, .string s, .int .i64 r, .int .i64 f]] V fun e w' => e = .returned (.string S) ∧ Below V.heap.size V w') := by
      intro V
      have := specShowDeed ⟨h, s, r, f⟩ V (by show s.size ≤ _; omega)
      rwa [HS.out] at this
    refine Fam.region (F := F) (by kernel_rfl) (by kernel_rfl) (HG.out _ (Below.refl _ W).drew) ?_
    repeat (go_big_quiet_step (first
      | (go_at_call 12; exact (HSH.out _).mono fun _ _ q => ⟨q.1, HG.out _ ((HF.out _).trans (q.2.mono (HF.out _).size))⟩)
      | (go_at_call 13; exact (implDeedOk h s r f _ (by omega)).mono fun _ _ q => ⟨q.1, HG.out _ ((HF.out _).trans (q.2.mono (HF.out _).size))⟩)
      | (go_at_call 14; exact (specDeedOk h s r f _ (by omega)).mono fun _ _ q => ⟨q.1, HG.out _ ((HF.out _).trans (q.2.mono (HF.out _).size))⟩)))
    refine wpQuiet_nil ?_
    intro w9 hw9
    obtain ⟨z, rfl⟩ := hw9
    have B9 := B8.trans ((HF.out z).mono B8.size)
    have HK9 : Hid (Lies (F z) kb h r f s) := HK8.out.below (HF.out z)
    have X9 := HX8.out.below (HF.out z)
    clear k0 k1 k2 k3 x0 x1 x2 x3 y0 y1 y2 y3 B8 HK8 HX8 HSH
    generalize F z = V at B9 HK9 X9 ⊢
    clear HF HG
    obtain ⟨x0, x1, x2, x3⟩ := X9
    cases xb
    case' false =>
      obtain ⟨rfl, rfl, rfl, rfl⟩ : xh = 0 ∧ xr = 0 ∧ xf = 0 ∧ xs = ⟨#[]⟩ := by
        rcases HR.out with ⟨q, _⟩ | ⟨_, q, _⟩
        · exact Bool.noConfusion q
        · unfold zeroD at q; injection q with q1 q2 q3 q4; exact ⟨q1, q3, q4, q2⟩
      have BE := B9
      have HKE := HK9
      clear B9 HK9
    case' true =>
      obtain ⟨hox, hsx⟩ : okD ⟨xh, xs, xr, xf⟩ = true ∧ textD ⟨xh, xs, xr, xf⟩ = T := by
        rcases HR.out with ⟨_, q1, q2⟩ | ⟨q, _⟩
        · refine ⟨q1, ?_⟩
          unfold textD; rw [q1]; exact B_eq q2
        · exact Bool.noConfusion q
      have hxw := ok_key hox
      simp only at hxw
      have HX : Hid (textD ⟨xh, xs, xr, xf⟩ = T) := hsx
      clear hox hsx
      go_wp2_with fail
      refine (implShowDeed ⟨xh, xs, xr, xf⟩ _ (HT.out.below B9).p (by show xs.size ≤ _; omega)).mono ?_
      rintro e V2 ⟨rfl, bv⟩
      rw [HX.out]
      have BE := B9.trans (bv.mono B9.size)
      have HKE : Hid (Lies V2 kb h r f s) := HK9.out.below bv
      replace x0 := cell_keep bv x0
      replace x1 := cell_keep bv x1
      replace x2 := cell_keep bv x2
      replace x3 := cell_keep bv x3
      clear B9 HK9 bv
    all_goals
      obtain ⟨k0, k1, k2, k3⟩ := HKE.out
      cases hok : okD ⟨h, s, r, f⟩
      · obtain rfl : S = ⟨#[]⟩ := by
          rw [← HS.out]; unfold textD; rw [hok]; rfl
        have HOK : Hid (okD ⟨h, s, r, f⟩ = false) := hok
        clear hok
        go_wp2_with fail
        refine (implDeedOk h s r f _ (by omega)).mono ?_
        rintro e V3 ⟨rfl, bv⟩
        have BF := BE.trans (bv.mono BE.size)
        rw [HOK.out]
        clear bv BE
        go_wp2
        go_ret
        exact ⟨rfl, BF⟩
      · have hSt : showD ⟨h, s, r, f⟩ = S.data.toList := by
          rw [← HS.out]; unfold textD; rw [hok]; simp [B]
        have HRS : Hid (ReadsD S ⟨h, s, r, f⟩ true) := .inl ⟨rfl, hok, hSt⟩
        have hne : S ≠ ⟨#[]⟩ := by
          intro e
          rw [e] at hSt
          have : (showD ⟨h, s, r, f⟩).length = 0 := by rw [hSt]; rfl
          unfold showD wordsD at this
          simp [joinW] at this
        have hne1 : (S.toList == []) = false := by
          rw [beq_eq_false_iff_ne, ByteArray.toList_eq]
          intro e
          exact hne (ByteArray.ext (by apply Array.toList_inj.1; simpa using e))
        clear hok hSt
        go_wp2_with fail
        refine (implReadDeed S _ (HT.out.below BE) (by omega)).mono ?_
        rintro e V3 ⟨kk, bb, rfl, hR3, bv⟩
        obtain ⟨hkk, hbb⟩ := reads_unique HRS.out hR3
        subst hkk hbb
        simp only
        have BF := BE.trans (bv.mono BE.size)
        have HBF : Hid (Below w.heap.size w (V3.alloc (.cells #[.int .i64 h, .string s, .int .i64 r, .int .i64 f] 25))) := BF.trans ((alloc_below V3 _).mono BF.size)
        have K3 := (HKE.out.below bv)
        have hkl : kb < V3.heap.size := block_lt_of_cell K3.c0
        obtain ⟨j0, j1, j2, j3⟩ := K3
        clear bv BE k0 k1 k2 k3 hR3 BF
        go_wp2
        go_ret
        exact ⟨rfl, HBF.out⟩

end De
end Go.Proofs.YtghpmhfhenndiaaDoor
