/-
  What the program's own ReadDeed answers: the right deed whose text it is and true, else the zero deed and false; for texts of at most 2^30 bytes, the tables, names and errors as they are laid.
-/
import Derived.Test.YtghpmhfhenndiaaDoorDeedV
import Derived.Test.YtghpmhfhenndiaaDoorWdB
import Derived.Lib.SplitLaws
namespace Go.Proofs.YtghpmhfhenndiaaDoor
open Go.RowKit
set_option maxRecDepth 100000
set_option linter.unusedVariables false
namespace De
open Kn (dec B split splitGo)

/-- the library's splitting is the plain one -/
theorem splitK_go (c : UInt8) : ∀ l : List UInt8, ∃ h t, Lib.splitK [c] 0 (Lib.count l [c]) l = h :: t ∧ ∀ cur, splitGo c cur l = (cur ++ h) :: t := by
  intro l
  induction l with
  | nil =>
    refine ⟨[], [], ?_, fun cur => by simp [splitGo]⟩
    rw [Lib.count_miss (by simp [Lib.index])]; rfl
  | cons b l ih =>
    obtain ⟨h, t, e, f⟩ := ih
    by_cases hb : b = c
    · subst hb
      have hi : Lib.index (b :: l) [b] = 0 := by rw [Lib.index]; simp [List.isPrefixOf]
      refine ⟨[], h :: t, ?_, fun cur => ?_⟩
      · rw [Lib.count_cons_eq, Nat.add_comm, Lib.splitK, hi]
        simpa using e
      · rw [splitGo, if_pos rfl, f []]; simp
    · have hc := Lib.count_cons_ne b c l hb
      have hp : ([c] : List UInt8).isPrefixOf (b :: l) = false := by simp [List.isPrefixOf, Ne.symm hb]
      have hx : Lib.index (b :: l) [c] = if Lib.index l [c] == -1 then -1 else Lib.index l [c] + 1 := by rw [Lib.index, hp]; simp
      refine ⟨b :: h, t, ?_, fun cur => ?_⟩
      · rw [hc]
        cases hk : Lib.count l [c] with
        | zero =>
          rw [hk] at e
          simp only [Lib.splitK, List.cons.injEq] at e ⊢
          obtain ⟨e1, e2⟩ := e
          exact ⟨by rw [e1]; simp, e2⟩
        | succ k =>
          have hm : ¬ Lib.index l [c] = -1 := fun q => by rw [Lib.count_miss q] at hk; omega
          have hge := Lib.index_ge l [c]
          obtain ⟨j, hj⟩ : ∃ j : Nat, Lib.index l [c] = j := ⟨(Lib.index l [c]).toNat, by omega⟩
          rw [hk, Lib.splitK, hj, if_neg (by simp)] at e
          rw [Lib.splitK, hx, hj, if_neg (by simp; omega), if_neg (by simp)]
          simp only [List.cons.injEq] at e ⊢
          obtain ⟨e1, e2⟩ := e
          have en : ((j : Int) + 1).toNat = j + 1 := by omega
          rw [en]
          refine ⟨?_, ?_⟩
          · rw [← e1]; simp
          · rw [← e2]; simp
      · rw [splitGo, if_neg hb, f (cur ++ [b])]; simp
theorem splitB_split (s : ByteArray) : (Lib.splitB ⟨#[32]⟩ 0 (Lib.countB s ⟨#[32]⟩) s).map (·.data.toList) = split 32 s.data.toList := by
  rw [Lib.splitB_data]
  obtain ⟨h, t, e, f⟩ := splitK_go 32 s.data.toList
  show Lib.splitK [32] 0 (Lib.count s.data.toList [32]) s.data.toList = _
  rw [e]; unfold Kn.split; rw [f []]; simp

/-- strings.Split at a blank -/
theorem splitW (s : ByteArray) (w : World) (t : TabQ w) (hs : s.size ≤ 1073741824) (P : List (List UInt8)) (hP : split 32 s.data.toList = P) : Calls Tryd.prog 35 #[.string s, .string ⟨#[32]⟩] w fun e w' =>
    e = .returned (.slice (some ⟨w.heap.size, 0, none⟩) P.length P.length) ∧ Below w.heap.size w w' ∧ w.heap.size < w'.heap.size ∧ ∀ j, j < P.length → w'.cell? ⟨w.heap.size, j, none⟩ = some (.string (B (P.getD j []))) := by
  obtain ⟨m, hm⟩ := t.maxl
  have hl : (Lib.splitB ⟨#[32]⟩ 0 (Lib.countB s ⟨#[32]⟩) s).length = Lib.countB s ⟨#[32]⟩ + 1 := Lib.splitB_all _ (by decide) 0 _ s rfl
  have he := splitB_split s
  rw [hP] at he
  generalize hQ : Lib.splitB ⟨#[32]⟩ 0 (Lib.countB s ⟨#[32]⟩) s = Q at hl he
  have hPl : P.length = Lib.countB s ⟨#[32]⟩ + 1 := by rw [← he, List.length_map, hl]
  have h := Tryd.strings_Split s ⟨#[32]⟩ m w (by omega) hm (by decide)
  rw [hQ, ← hPl] at h
  refine h.mono ?_
  rintro e w' ⟨rfl, rfl⟩
  refine ⟨rfl, (Below.refl _ _).alloc (Nat.le_refl _) _, by simp, fun j hj => ?_⟩
  have hjq : j < Q.length := by omega
  rw [World.cell?_alloc_new]
  have e1 : P.getD j [] = Q[j].data.toList := by
    subst he
    simp [List.getD, hjq]
  rw [e1, Kn.B_data]
  simp [hjq]

/-- the only deed that a text can be -/
theorem the_deed2 {s : ByteArray} {P : List (List UInt8)} {k v n : Int} {key : ByteArray} (hP : split 32 s.data.toList = P) (hk : kindTo (P.getD 0 []) 4 = k) (hkey : key = B (P.getD 1 [])) (hv : 2 < P.length → ∀ m : Nat, m < 1000000000 → B (P.getD 2 []) = B (dec m) → v = (m : Int)) (hv0 : ¬ 2 < P.length → v = 0) (hn : 3 < P.length → ∀ m : Nat, m < 1000000000 → B (P.getD 3 []) = B (dec m) → n = (m : Int)) (hn0 : ¬ 3 < P.length → n = 0) {d' : D} (o : okD d' = true) (q : showD d' = s.data.toList) : d' = ⟨k, key, v, n⟩ := by
  have e := pieces_of o q
  rw [hP] at e
  have o' := (okD_iff d').1 o
  have ek : k = d'.kind := by rw [← hk, e]; exact kindTo_kind ⟨o'.k1, o'.k4⟩
  have em := words_many o'
  rw [← e] at em
  have a1 := o'.k1; have a2 := o'.k4
  have b1 := o'.v0; have b2 := o'.v1; have b3 := o'.n0; have b4 := o'.n1
  have c1 := o'.cut; have c2 := o'.ifs
  obtain ⟨k', key', v', n'⟩ := d'
  dsimp only at *
  subst ek
  have e1 : key = key' := by rw [hkey, e]; exact Kn.B_data key'
  subst e1
  have ev : v' = v := by
    by_cases h2 : k = 2
    · rw [hv0 (by rw [em, h2]; decide), c1 h2]
    · have hl : 2 < P.length := by rw [em]; unfold many; rw [if_neg (by omega), if_neg h2]; split <;> omega
      have e2 : P.getD 2 [] = dec v'.toNat := by rw [e]; unfold wordsD; simp [h2]
      have := hv hl v'.toNat (by omega) (by rw [e2])
      omega
  have en : n' = n := by
    by_cases h4 : k = 4
    · have hl : 3 < P.length := by rw [em, h4]; decide
      have e2 : P.getD 3 [] = dec n'.toNat := by rw [e]; unfold wordsD; simp [h4]
      have := hn hl n'.toNat (by omega) (by rw [e2])
      omega
    · have hl : ¬ 3 < P.length := by rw [em]; unfold many; rw [if_neg (by omega)]; split <;> (try split) <;> omega
      rw [hn0 hl, c2 h4]
  rw [ev, en]
theorem many_of (k : Int) : many k = 0 ∨ many k = 2 ∨ many k = 3 ∨ many k = 4 := by
  unfold many; split; exact .inl rfl; split; exact .inr (.inl rfl); split; exact .inr (.inr (.inr rfl)); exact .inr (.inr (.inl rfl))
/-- what is taken from a text: whoever is right and has that text is it -/
def RoughD (s : ByteArray) (w : World) (e : Ending) (w' : World) : Prop := ∃ d : D, e = .returned (.agg #[.int .i64 d.kind, .string d.key, .int .i64 d.val, .int .i64 d.new]) ∧ d.key.size ≤ 1073741824 ∧ (∀ d', okD d' = true → showD d' = s.data.toList → d' = d) ∧ Below w.heap.size w w'

set_option maxHeartbeats 6400000 in
theorem roughDeed (s : ByteArray) (w : World) (t : TabQ w) (hs : s.size ≤ 1073741824) : Calls Tryd.prog 24 #[.string s] w (RoughD s w) := by
  have HZ : Hid (_) := zd_new w 25
  have HB0 : Hid (Below w.heap.size w (w.alloc (.cells #[.int .i64 0, .string ⟨#[]⟩, .int .i64 0, .int .i64 0] 25))) := (Below.refl _ _).alloc (Nat.le_refl _) _
  have HT : Hid (TabQ w) := t
  obtain ⟨P, hP⟩ : ∃ P, split 32 s.data.toList = P := ⟨_, rfl⟩
  have hp0 : 0 < P.length := by rw [← hP]; exact Kn.split_pos 32 [] _
  have hpl : P.length ≤ 1073741825 := by rw [← hP]; have := Kn.split_len 32 [] s.data.toList; unfold Kn.split; simp at this ⊢; omega
  have HE : Hid (∀ j, (B (P.getD j [])).size ≤ 1073741824) := fun j => by
    rw [Kn.B_size]
    by_cases hj : j < P.length
    · have := Kn.piece_len 32 [] s.data.toList (P.getD j []) (by
        have e : P.getD j [] = P[j] := by simp [List.getD, List.getElem?_eq_getElem hj]
        rw [e]
        have : P[j] ∈ P := List.getElem_mem hj
        rw [show Kn.splitGo 32 [] s.data.toList = P from hP]; exact this)
      have h2 : s.data.toList.length = s.size := by simp
      simp only [List.length_nil] at this; omega
    · simp [List.getD, List.getElem?_eq_none (Nat.le_of_not_lt hj)]
  have HSP : Hid (∀ W : World, TabQ W → Calls Tryd.prog 35 #[.string s, .string ⟨#[32]⟩] W fun e w' => e = .returned (.slice (some ⟨W.heap.size, 0, none⟩) P.length P.length) ∧ Below W.heap.size W w' ∧ W.heap.size < w'.heap.size ∧ ∀ j, j < P.length → w'.cell? ⟨W.heap.size, j, none⟩ = some (.string (B (P.getD j [])))) := fun W tq => splitW s W tq hs P hP
  have HP : Hid (split 32 s.data.toList = P) := hP
  obtain ⟨pc, HPC⟩ : ∃ pc : Nat → ByteArray, Hid (∀ j, B (P.getD j []) = pc j) := ⟨_, fun _ => rfl⟩
  have HE : Hid (∀ j, (pc j).size ≤ 1073741824) := fun j => by rw [← HPC.out j]; exact HE.out j
  clear hP t
  go_enter Tryd.func24, Tryd.ntmps24
  go_upto_region 1 with fail
  generalize w.alloc (.cells #[.int .i64 0, .string ⟨#[]⟩, .int .i64 0, .int .i64 0] 25) = W0 at HZ HB0 ⊢
  go_wp2_with fail
  refine (HSP.out W0 (HT.out.below HB0.out)).mono ?_
  rintro e W1 ⟨rfl, hb1, hlt, hcs⟩
  have c0 : W1.cell? ⟨W0.heap.size, 0, none⟩ = some (.string (pc 0)) := (hcs 0 hp0).trans (by rw [HPC.out 0])
  have HB1 : Hid (Below w.heap.size w W1) := HB0.out.trans (hb1.mono HB0.out.size)
  have HC : Hid (_) := hcs
  have HL : Hid (W0.heap.size < W1.heap.size) := hlt
  have HBB : Hid (Below W0.heap.size W0 W1) := hb1
  have HKC : Hid (∀ W : World, TabQ W → Calls Tryd.prog 36 #[.string (pc 0)] W fun e w' => e = .returned (.int .i64 (kindTo (P.getD 0 []) 4)) ∧ W = w') := fun W tq => by
    have := kindCalled (B (P.getD 0 [])) W tq.p
    rwa [show (B (P.getD 0 [])).data.toList = P.getD 0 [] from by simp [B], HPC.out 0] at this
  have hpi : (0 : Int) < (P.length : Int) := by omega
  clear hcs hlt hb1 HSP
  go_wp2_with fail
  refine (HKC.out _ (HT.out.below HB1.out)).mono ?_
  rintro e w' ⟨rfl, rfl⟩
  obtain ⟨k, hk⟩ : ∃ k, kindTo (P.getD 0 []) 4 = k := ⟨_, rfl⟩
  rw [hk]
  have HK : Hid (kindTo (P.getD 0 []) 4 = k) := hk
  clear HKC hk c0
  have HR : Hid (RSt w (W1.alloc (.cells #[.int .i64 k, .string ⟨#[]⟩, .int .i64 0, .int .i64 0] 25)) W0.heap.size W1.heap.size P k ⟨#[]⟩ 0 0) := by
    obtain ⟨z0, z1, z2, z3, z4, z5⟩ := HZ.out
    have hb2 : Below W0.heap.size W0 (W1.alloc (.cells #[.int .i64 k, .string ⟨#[]⟩, .int .i64 0, .int .i64 0] 25)) := HBB.out.alloc HBB.out.size _
    have hlt := HL.out
    exact ⟨HB0.out.trans (hb2.mono HB0.out.size), ⟨by omega, by simp, (hb2.cell (p := ⟨w.heap.size, 0, none⟩) z0).trans z1, (hb2.cell (p := ⟨w.heap.size, 1, none⟩) z0).trans z2, (hb2.cell (p := ⟨w.heap.size, 2, none⟩) z0).trans z3, (hb2.cell (p := ⟨w.heap.size, 3, none⟩) z0).trans z4, fun j => (hb2.frozen (p := ⟨w.heap.size, j, none⟩) z0).trans (z5 j), by simp, by simp, by simp, by simp, fun j => by simp⟩, hlt, by have := HZ.out.1; omega, fun j hj => (World.cell?_alloc_lt _ _ ⟨W0.heap.size, j, none⟩ hlt).trans (HC.out j hj)⟩
  clear HZ HB0 HB1 HC HL HBB
  go_upto_region 4 with fail
  generalize W1.alloc (.cells #[.int .i64 k, .string ⟨#[]⟩, .int .i64 0, .int .i64 0] 25) = V at HR ⊢
  generalize W0.heap.size = g at HR ⊢
  generalize W1.heap.size = x at HR ⊢
  rcases (show P.length = 4 ∨ P.length = 3 ∨ P.length = 2 ∨ (P.length ≠ 4 ∧ P.length ≠ 3 ∧ P.length ≠ 2) by omega) with hq | hq | hq | ⟨hq4, hq3, hq2⟩
  · have e4 : ((P.length : Int) == 4) = true := by simp; omega
    have e3 : ((P.length : Int) == 3) = false := by simp; omega
    have e2 : ((P.length : Int) == 2) = false := by simp; omega
    have hi3 : (3 : Int) < (P.length : Int) := by omega
    have c3 : World.cell? _ ⟨g, 3, none⟩ = some (.string (pc 3)) := (HR.out.cells 3 (by omega)).trans (by rw [HPC.out 3])
    have hsz := HE.out 3
    go_wp2_with fail
    refine (readNumber _ _ (HT.out.below HR.out.bel) (by omega)).mono ?_
    rintro e V23 ⟨x3, b3, rfl, hr1, hb1⟩
    have HR1 : Hid (RSt w V23 g x P k ⟨#[]⟩ 0 0) := HR.out.below hb1
    have HN3 : Hid (∀ m : Nat, m < 1000000000 → B (P.getD 3 []) = B (dec m) → x3 = (m : Int)) := fun m hm e => (hr1 m hm ((HPC.out 3).symm.trans e)).1
    have kk := HR1.out.two.k3
    have ff := HR1.out.two.kf 3
    have HR2 : Hid (RSt w (V23.setCell ⟨x, 3, none⟩ (.int .i64 x3)) g x P k ⟨#[]⟩ 0 x3) := HR1.out.put 3 _ (HR1.out.two.set3 x3)
    clear hr1 hb1 c3 hsz HR HR1
    go_upto_region 8 with fail
    generalize V23.setCell ⟨x, 3, none⟩ (.int .i64 x3) = V233 at HR2 ⊢
    clear kk ff hi3
    have HR := HR2
    clear HR2
    have hi2 : (2 : Int) < (P.length : Int) := by omega
    have c2 : World.cell? _ ⟨g, 2, none⟩ = some (.string (pc 2)) := (HR.out.cells 2 (by omega)).trans (by rw [HPC.out 2])
    have hsz := HE.out 2
    go_wp2_with fail
    refine (readNumber _ _ (HT.out.below HR.out.bel) (by omega)).mono ?_
    rintro e V22 ⟨x2, b2, rfl, hr1, hb1⟩
    have HR1 : Hid (RSt w V22 g x P k ⟨#[]⟩ 0 x3) := HR.out.below hb1
    have HN2 : Hid (∀ m : Nat, m < 1000000000 → B (P.getD 2 []) = B (dec m) → x2 = (m : Int)) := fun m hm e => (hr1 m hm ((HPC.out 2).symm.trans e)).1
    have kk := HR1.out.two.k2
    have ff := HR1.out.two.kf 2
    have HR2 : Hid (RSt w (V22.setCell ⟨x, 2, none⟩ (.int .i64 x2)) g x P k ⟨#[]⟩ x2 x3) := HR1.out.put 2 _ (HR1.out.two.set2 x2)
    clear hr1 hb1 c2 hsz HR HR1
    go_upto_region 9 with fail
    generalize V22.setCell ⟨x, 2, none⟩ (.int .i64 x2) = V222 at HR2 ⊢
    clear kk ff hi2
    have HR := HR2
    clear HR2
    have hi1 : (1 : Int) < (P.length : Int) := by omega
    have c1 : World.cell? _ ⟨g, 1, none⟩ = some (.string (pc 1)) := (HR.out.cells 1 (by omega)).trans (by rw [HPC.out 1])
    have kk := HR.out.two.k1
    have ff := HR.out.two.kf 1
    have HR2 : Hid (RSt w (_) g x P k (pc 1) x2 x3) := HR.out.put 1 _ (HR.out.two.set1 (pc 1))
    clear HR
    go_upto_region 10 with fail
    generalize World.setCell _ _ _ = V30 at HR2 ⊢
    clear kk ff hi1 c1
    have HR := HR2
    clear HR2
    obtain ⟨_, _, r0, r1, r2, r3, rf, k0, k1, k2, k3, _⟩ := HR.out.two
    have rf0 := rf 0
    have rf1 := rf 1
    have rf2 := rf 2
    have rf3 := rf 3
    clear rf
    have HQ : Hid (_) := put4D r0 r1 r2 r3 (.int .i64 k) (.string (pc 1)) (.int .i64 (x2)) (.int .i64 (x3))
    have HBE : Hid (_) := put4B HR.out.bel (.int .i64 k) (.string (pc 1)) (.int .i64 (x2)) (.int .i64 (x3))
    go_wp2
    obtain ⟨q0, q1, q2, q3⟩ := HQ.out
    refine bodyPost_ret (v := .agg #[.int .i64 k, .string (pc 1), .int .i64 (x2), .int .i64 (x3)]) (by simp [results, Tryd.f24, go_sem, q0, q1, q2, q3]) rfl ?_
    exact ⟨⟨k, pc 1, x2, x3⟩, rfl, HE.out 1, fun d' o q => the_deed2 HP.out HK.out (HPC.out 1).symm (fun _ => HN2.out) (fun h => absurd (by omega) h) (fun _ => HN3.out) (fun h => absurd (by omega) h) o q, HBE.out⟩
  · have e4 : ((P.length : Int) == 4) = false := by simp; omega
    have e3 : ((P.length : Int) == 3) = true := by simp; omega
    have e2 : ((P.length : Int) == 2) = false := by simp; omega
    have hi2 : (2 : Int) < (P.length : Int) := by omega
    have c2 : World.cell? _ ⟨g, 2, none⟩ = some (.string (pc 2)) := (HR.out.cells 2 (by omega)).trans (by rw [HPC.out 2])
    have hsz := HE.out 2
    go_wp2_with fail
    refine (readNumber _ _ (HT.out.below HR.out.bel) (by omega)).mono ?_
    rintro e V22 ⟨x2, b2, rfl, hr1, hb1⟩
    have HR1 : Hid (RSt w V22 g x P k ⟨#[]⟩ 0 0) := HR.out.below hb1
    have HN2 : Hid (∀ m : Nat, m < 1000000000 → B (P.getD 2 []) = B (dec m) → x2 = (m : Int)) := fun m hm e => (hr1 m hm ((HPC.out 2).symm.trans e)).1
    have kk := HR1.out.two.k2
    have ff := HR1.out.two.kf 2
    have HR2 : Hid (RSt w (V22.setCell ⟨x, 2, none⟩ (.int .i64 x2)) g x P k ⟨#[]⟩ x2 0) := HR1.out.put 2 _ (HR1.out.two.set2 x2)
    clear hr1 hb1 c2 hsz HR HR1
    go_upto_region 9 with fail
    generalize V22.setCell ⟨x, 2, none⟩ (.int .i64 x2) = V222 at HR2 ⊢
    clear kk ff hi2
    have HR := HR2
    clear HR2
    have hi1 : (1 : Int) < (P.length : Int) := by omega
    have c1 : World.cell? _ ⟨g, 1, none⟩ = some (.string (pc 1)) := (HR.out.cells 1 (by omega)).trans (by rw [HPC.out 1])
    have kk := HR.out.two.k1
    have ff := HR.out.two.kf 1
    have HR2 : Hid (RSt w (_) g x P k (pc 1) x2 0) := HR.out.put 1 _ (HR.out.two.set1 (pc 1))
    clear HR
    go_upto_region 10 with fail
    generalize World.setCell _ _ _ = V30 at HR2 ⊢
    clear kk ff hi1 c1
    have HR := HR2
    clear HR2
    obtain ⟨_, _, r0, r1, r2, r3, rf, k0, k1, k2, k3, _⟩ := HR.out.two
    have rf0 := rf 0
    have rf1 := rf 1
    have rf2 := rf 2
    have rf3 := rf 3
    clear rf
    have HQ : Hid (_) := put4D r0 r1 r2 r3 (.int .i64 k) (.string (pc 1)) (.int .i64 (x2)) (.int .i64 (0))
    have HBE : Hid (_) := put4B HR.out.bel (.int .i64 k) (.string (pc 1)) (.int .i64 (x2)) (.int .i64 (0))
    go_wp2
    obtain ⟨q0, q1, q2, q3⟩ := HQ.out
    refine bodyPost_ret (v := .agg #[.int .i64 k, .string (pc 1), .int .i64 (x2), .int .i64 (0)]) (by simp [results, Tryd.f24, go_sem, q0, q1, q2, q3]) rfl ?_
    exact ⟨⟨k, pc 1, x2, 0⟩, rfl, HE.out 1, fun d' o q => the_deed2 HP.out HK.out (HPC.out 1).symm (fun _ => HN2.out) (fun h => absurd (by omega) h) (fun h => absurd h (by omega)) (fun _ => rfl) o q, HBE.out⟩
  · have e4 : ((P.length : Int) == 4) = false := by simp; omega
    have e3 : ((P.length : Int) == 3) = false := by simp; omega
    have e2 : ((P.length : Int) == 2) = true := by simp; omega
    have hi1 : (1 : Int) < (P.length : Int) := by omega
    have c1 : World.cell? _ ⟨g, 1, none⟩ = some (.string (pc 1)) := (HR.out.cells 1 (by omega)).trans (by rw [HPC.out 1])
    have kk := HR.out.two.k1
    have ff := HR.out.two.kf 1
    have HR2 : Hid (RSt w (_) g x P k (pc 1) 0 0) := HR.out.put 1 _ (HR.out.two.set1 (pc 1))
    clear HR
    go_upto_region 10 with fail
    generalize World.setCell _ _ _ = V30 at HR2 ⊢
    clear kk ff hi1 c1
    have HR := HR2
    clear HR2
    obtain ⟨_, _, r0, r1, r2, r3, rf, k0, k1, k2, k3, _⟩ := HR.out.two
    have rf0 := rf 0
    have rf1 := rf 1
    have rf2 := rf 2
    have rf3 := rf 3
    clear rf
    have HQ : Hid (_) := put4D r0 r1 r2 r3 (.int .i64 k) (.string (pc 1)) (.int .i64 (0)) (.int .i64 (0))
    have HBE : Hid (_) := put4B HR.out.bel (.int .i64 k) (.string (pc 1)) (.int .i64 (0)) (.int .i64 (0))
    go_wp2
    obtain ⟨q0, q1, q2, q3⟩ := HQ.out
    refine bodyPost_ret (v := .agg #[.int .i64 k, .string (pc 1), .int .i64 (0), .int .i64 (0)]) (by simp [results, Tryd.f24, go_sem, q0, q1, q2, q3]) rfl ?_
    exact ⟨⟨k, pc 1, 0, 0⟩, rfl, HE.out 1, fun d' o q => the_deed2 HP.out HK.out (HPC.out 1).symm (fun h => absurd h (by omega)) (fun _ => rfl) (fun h => absurd h (by omega)) (fun _ => rfl) o q, HBE.out⟩
  · have e4 : ((P.length : Int) == 4) = false := by simp; omega
    have e3 : ((P.length : Int) == 3) = false := by simp; omega
    have e2 : ((P.length : Int) == 2) = false := by simp; omega
    have HNO : Hid (∀ d', okD d' = true → showD d' = s.data.toList → d' = ⟨k, ⟨#[]⟩, 0, 0⟩) := fun d' o q => absurd q (no_deed HP.out (by
      have b := kindTo_bd (P.getD 0 []) 4
      rcases many_of (kindTo (P.getD 0 []) 4) with h | h | h | h
      · exact .inr (by omega)
      · exact .inr (by omega)
      · exact .inr (by omega)
      · exact .inr (by omega)) d' o)
    obtain ⟨_, _, r0, r1, r2, r3, rf, k0, k1, k2, k3, _⟩ := HR.out.two
    have rf0 := rf 0
    have rf1 := rf 1
    have rf2 := rf 2
    have rf3 := rf 3
    clear rf
    have HQ : Hid (_) := put4D r0 r1 r2 r3 (.int .i64 k) (.string (⟨#[]⟩)) (.int .i64 (0)) (.int .i64 (0))
    have HBE : Hid (_) := put4B HR.out.bel (.int .i64 k) (.string (⟨#[]⟩)) (.int .i64 (0)) (.int .i64 (0))
    go_wp2
    obtain ⟨q0, q1, q2, q3⟩ := HQ.out
    refine bodyPost_ret (v := .agg #[.int .i64 k, .string (⟨#[]⟩), .int .i64 (0), .int .i64 (0)]) (by simp [results, Tryd.f24, go_sem, q0, q1, q2, q3]) rfl ?_
    exact ⟨⟨k, ⟨#[]⟩, 0, 0⟩, rfl, Nat.zero_le _, HNO.out, HBE.out⟩

set_option maxHeartbeats 6400000 in
theorem implReadDeed (s : ByteArray) (w : World) (t : TabQ w) (hs : s.size ≤ 1073741824) : Calls Tryd.prog 10 #[.string s] w (ReadPostD s w) := by
  have HZ : Hid (_) := zd_new w 25
  have HB0 : Hid (Below w.heap.size w (w.alloc (.cells #[.int .i64 0, .string ⟨#[]⟩, .int .i64 0, .int .i64 0] 25))) := (Below.refl _ _).alloc (Nat.le_refl _) _
  have HT : Hid (TabQ w) := t
  clear t
  go_enter Tryd.func10, Tryd.ntmps10
  go_upto_region 1 with fail
  generalize w.alloc (.cells #[.int .i64 0, .string ⟨#[]⟩, .int .i64 0, .int .i64 0] 25) = W0 at HZ HB0 ⊢
  go_wp2_with fail
  refine (roughDeed s W0 (HT.out.below HB0.out) hs).mono ?_
  rintro e W1 ⟨⟨k, key, v, n⟩, rfl, hks, hu, hb1⟩
  dsimp only at hks hu ⊢
  have HU : Hid (∀ d', okD d' = true → showD d' = s.data.toList → d' = ⟨k, key, v, n⟩) := hu
  have HR : Hid (Below w.heap.size w (W1.alloc (.cells #[.int .i64 k, .string key, .int .i64 v, .int .i64 n] 25)) ∧ TwoD w.heap.size W1.heap.size (W1.alloc (.cells #[.int .i64 k, .string key, .int .i64 v, .int .i64 n] 25)) k key v n) := by
    obtain ⟨z0, z1, z2, z3, z4, z5⟩ := HZ.out
    have hb2 : Below W0.heap.size W0 (W1.alloc (.cells #[.int .i64 k, .string key, .int .i64 v, .int .i64 n] 25)) := hb1.alloc hb1.size _
    have hlt := hb1.size
    exact ⟨HB0.out.trans (hb2.mono HB0.out.size), by omega, by simp, (hb2.cell (p := ⟨w.heap.size, 0, none⟩) z0).trans z1, (hb2.cell (p := ⟨w.heap.size, 1, none⟩) z0).trans z2, (hb2.cell (p := ⟨w.heap.size, 2, none⟩) z0).trans z3, (hb2.cell (p := ⟨w.heap.size, 3, none⟩) z0).trans z4, fun j => (hb2.frozen (p := ⟨w.heap.size, j, none⟩) z0).trans (z5 j), by simp, by simp, by simp, by simp, fun j => by simp⟩
  clear hu hb1 HZ HB0
  go_upto_region 2 with fail
  generalize W1.alloc (.cells #[.int .i64 k, .string key, .int .i64 v, .int .i64 n] 25) = V at HR ⊢
  generalize W1.heap.size = x at HR ⊢
  have k0 := HR.out.2.k0
  have k1 := HR.out.2.k1
  have k2 := HR.out.2.k2
  have k3 := HR.out.2.k3
  have HOK : Hid (∀ W : World, Calls Tryd.prog 13 #[.agg #[.int .i64 k, .string key, .int .i64 v, .int .i64 n]] W fun e w' => e = .returned (.bool (okD ⟨k, key, v, n⟩)) ∧ Below W.heap.size W w') := fun W => implDeedOk k key v n W (by omega)
  have HSH : Hid (∀ W : World, TabP W → Calls Tryd.prog 8 #[.agg #[.int .i64 k, .string key, .int .i64 v, .int .i64 n]] W fun e w' => e = .returned (.string (textD ⟨k, key, v, n⟩)) ∧ Below W.heap.size W w') := fun W tp => implShowDeed ⟨k, key, v, n⟩ W tp (by show key.size ≤ _; omega)
  have HTX : Hid (okD ⟨k, key, v, n⟩ = true → textD ⟨k, key, v, n⟩ = B (showD ⟨k, key, v, n⟩)) := fun h => if_pos h
  clear hks hs
  generalize textD ⟨k, key, v, n⟩ = tx at HSH HTX
  go_wp2_with fail
  refine (HOK.out V).mono ?_
  rintro e V1 ⟨rfl, hb⟩
  have HR1 : Hid (Below w.heap.size w V1 ∧ TwoD w.heap.size x V1 k key v n) := ⟨HR.out.1.trans (hb.mono HR.out.1.size), HR.out.2.below hb⟩
  clear hb k0 k1 k2 k3 HR HOK
  cases hok : okD ⟨k, key, v, n⟩
  · have HN : Hid (∀ d', okD d' = true → showD d' ≠ s.data.toList) := fun d' o q => by
      rw [HU.out d' o q, hok] at o; exact Bool.noConfusion o
    have HR := HR1
    clear hok HR1 HU HTX HSH
    obtain ⟨_, _, r0, r1, r2, r3, rf, k0, k1, k2, k3, _⟩ := HR.out.2
    have rf0 := rf 0
    have rf1 := rf 1
    have rf2 := rf 2
    have rf3 := rf 3
    clear rf
    have HQ : Hid (_) := put4D r0 r1 r2 r3 (.int .i64 0) (.string ⟨#[]⟩) (.int .i64 0) (.int .i64 0)
    have HBE : Hid (_) := put4B HR.out.1 (.int .i64 0) (.string ⟨#[]⟩) (.int .i64 0) (.int .i64 0)
    go_wp2
    obtain ⟨q0, q1, q2, q3⟩ := HQ.out
    refine bodyPost_ret (v := .tuple #[.agg #[.int .i64 0, .string ⟨#[]⟩, .int .i64 0, .int .i64 0], .bool false]) (by simp [results, Tryd.f10, go_sem, q0, q1, q2, q3]) rfl ?_
    exact ⟨⟨0, ⟨#[]⟩, 0, 0⟩, false, rfl, .inr ⟨rfl, rfl, HN.out⟩, HBE.out⟩
  · have HOKT : Hid (okD ⟨k, key, v, n⟩ = true) := hok
    obtain rfl := HTX.out hok
    have k0 := HR1.out.2.k0
    have k1 := HR1.out.2.k1
    have k2 := HR1.out.2.k2
    have k3 := HR1.out.2.k3
    clear hok HTX
    go_wp2_with fail
    refine (HSH.out V1 (HT.out.below HR1.out.1).p).mono ?_
    rintro e V2 ⟨rfl, hb⟩
    have HR : Hid (Below w.heap.size w V2 ∧ TwoD w.heap.size x V2 k key v n) := ⟨HR1.out.1.trans (hb.mono HR1.out.1.size), HR1.out.2.below hb⟩
    clear hb k0 k1 k2 k3 HR1 HSH
    by_cases heq : showD ⟨k, key, v, n⟩ = s.data.toList
    · have hsb : ((B (showD ⟨k, key, v, n⟩)).toList != s.toList) = false := by
        rw [Kn.B_list, heq, ByteArray.toList_eq]; simp
      have hsb2 : ((B (showD ⟨k, key, v, n⟩)).toList == s.toList) = true := by
        rw [Kn.B_list, heq, ByteArray.toList_eq]; simp
      have HE : Hid (showD ⟨k, key, v, n⟩ = s.data.toList) := heq
      clear heq
      generalize B (showD ⟨k, key, v, n⟩) = sd at hsb hsb2
      obtain ⟨_, _, r0, r1, r2, r3, rf, k0, k1, k2, k3, _⟩ := HR.out.2
      have rf0 := rf 0
      have rf1 := rf 1
      have rf2 := rf 2
      have rf3 := rf 3
      clear rf
      have HQ : Hid (_) := put4D r0 r1 r2 r3 (.int .i64 k) (.string key) (.int .i64 v) (.int .i64 n)
      have HBE : Hid (_) := put4B HR.out.1 (.int .i64 k) (.string key) (.int .i64 v) (.int .i64 n)
      go_wp2
      obtain ⟨q0, q1, q2, q3⟩ := HQ.out
      refine bodyPost_ret (v := .tuple #[.agg #[.int .i64 k, .string key, .int .i64 v, .int .i64 n], .bool true]) (by simp [results, Tryd.f10, go_sem, q0, q1, q2, q3]) rfl ?_
      exact ⟨⟨k, key, v, n⟩, true, rfl, .inl ⟨rfl, HOKT.out, HE.out⟩, HBE.out⟩
    · have hsb : ((B (showD ⟨k, key, v, n⟩)).toList != s.toList) = true := by
        rw [bne_iff_ne, Kn.B_list, ByteArray.toList_eq]; exact heq
      have hsb2 : ((B (showD ⟨k, key, v, n⟩)).toList == s.toList) = false := by
        rw [beq_eq_false_iff_ne, Kn.B_list, ByteArray.toList_eq]; exact heq
      have HN : Hid (∀ d', okD d' = true → showD d' ≠ s.data.toList) := fun d' o q => by
        have := HU.out d' o q
        rw [this] at q; exact heq q
      clear heq
      generalize B (showD ⟨k, key, v, n⟩) = sd at hsb hsb2
      obtain ⟨_, _, r0, r1, r2, r3, rf, k0, k1, k2, k3, _⟩ := HR.out.2
      have rf0 := rf 0
      have rf1 := rf 1
      have rf2 := rf 2
      have rf3 := rf 3
      clear rf
      have HQ : Hid (_) := put4D r0 r1 r2 r3 (.int .i64 0) (.string ⟨#[]⟩) (.int .i64 0) (.int .i64 0)
      have HBE : Hid (_) := put4B HR.out.1 (.int .i64 0) (.string ⟨#[]⟩) (.int .i64 0) (.int .i64 0)
      go_wp2
      obtain ⟨q0, q1, q2, q3⟩ := HQ.out
      refine bodyPost_ret (v := .tuple #[.agg #[.int .i64 0, .string ⟨#[]⟩, .int .i64 0, .int .i64 0], .bool false]) (by simp [results, Tryd.f10, go_sem, q0, q1, q2, q3]) rfl ?_
      exact ⟨⟨0, ⟨#[]⟩, 0, 0⟩, false, rfl, .inr ⟨rfl, rfl, HN.out⟩, HBE.out⟩

end De
end Go.Proofs.YtghpmhfhenndiaaDoor
