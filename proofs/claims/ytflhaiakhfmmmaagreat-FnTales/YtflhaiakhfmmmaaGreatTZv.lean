/-
  What the law on tales answers, where the drawing of a room keeps its word and the program's TaleOf and BeginsWith answer as they should: true at every code.
  What the model's drawings for the laws on tales hand back, where the drawing of a room keeps its word; and what the law's own along answers.
-/
import Derived.Test.YtflhaiakhfmmmaaGreatTZd
namespace Go.Proofs.YtflhaiakhfmmmaaGreat
open Go.RowKit
set_option maxRecDepth 100000
set_option linter.unusedVariables false
namespace Rm
open Kn (K okK)
open Bit (bit memTo)
open Lc (at' RdK laceB flat OwnK cellsOf)
open Cur (At)

set_option maxHeartbeats 800000 in
theorem drawTaleOf (HD : DrawsRoom) (HDC : DrawsRoomC) (a : Option Addr) (len cap : Nat) (w : World) (hl : len ≤ 4096) (hc : Cur.Code w a len) :
    Calls Tryz.prog 6 #[.slice a len cap] w fun e w' => ∃ v L ao cc C k, e = .returned (.tuple #[v, .slice ao (C : List Int).length cc, .int .i64 k]) ∧ DrawnC w w' v L ao cc C ∧ (-9223372036854775808 ≤ k ∧ k ≤ 9223372036854775807) := by
  go_enter Tryz.func6, Tryz.ntmps6
  go_wp2_with fail
  refine (drawEarlier HD HDC a len cap _ hl hc).mono ?_
  rintro e w1 ⟨v, L, ao, cc, C, k, rfl, hD, hk⟩
  go_wp2
  refine bodyPost_ret (v := .tuple #[v, .slice ao C.length cc, .int .i64 k]) (by simp [results, Tryz.f6, go_sem]) rfl ?_
  exact ⟨_, L, ao, cc, C, k, rfl, hD, hk⟩

def alongB (a b : List Int) : Bool := (List.range (min a.length b.length)).all fun i => a.getD i 0 == b.getD i 0
theorem along_no {a b : List Int} (j : Nat) (hj : j < a.length) (hk : j < b.length) (h : (a.getD j 0 == b.getD j 0) = false) : alongB a b = false := by
  unfold alongB
  rw [List.all_eq_false]
  exact ⟨j, by simp; omega, by rw [h]; decide⟩
theorem along_yes {a b : List Int} (h : ∀ j, j < a.length → j < b.length → (a.getD j 0 == b.getD j 0) = true) : alongB a b = true := by
  unfold alongB
  rw [List.all_eq_true]
  intro i hi
  have := List.mem_range.1 hi
  exact h i (by omega) (by omega)
theorem begins_along {a b : List Int} (h : Tl.beginsB a b = true) : b.length ≤ a.length ∧ alongB a b = true := by
  unfold Tl.beginsB at h
  rw [Bool.and_eq_true, decide_eq_true_eq, List.all_eq_true] at h
  exact ⟨h.1, along_yes fun j _ hj => h.2 j (by simpa using hj)⟩

set_option maxHeartbeats 1600000 in
theorem along (ao : Option Addr) (ca : Nat) (A : List Int) (bo : Option Addr) (cb : Nat) (D : List Int) (w : World) (hA : A.length ≤ 1048576) (hD : D.length ≤ 1048576) (ha : Lst.Rd w ao A) (hb : Lst.Rd w bo D) :
    Calls Tryz.prog 13 #[.slice ao A.length ca, .slice bo D.length cb] w fun e w' => e = .returned (.bool (alongB A D)) ∧ Below w.heap.size w w' := by
  go_enter Tryz.func13, Tryz.ntmps13
  go_wp2
  go_loopw [5] (fun i wr => ∃ j n : Nat, j ≤ A.length ∧ j ≤ D.length ∧ i = .int .i64 j ∧ wr = w.drewN n ∧ Hid (∀ q, q < j → (A.getD q 0 == D.getD q 0) = true)) (fun i _ => A.length - (intOf i).toNat)
  case atStart => exact ⟨0, 0, by omega, by omega, rfl, rfl, fun q hq => absurd hq (by omega)⟩
  case round =>
    obtain ⟨j, n, hj, hj2, rfl, rfl, HE⟩ := hrel
    by_cases h1 : j < A.length
    · have h1i : (j : Int) < (A.length : Int) := by omega
      by_cases h2 : j < D.length
      · have h2i : (j : Int) < (D.length : Int) := by omega
        rcases ha with ha | ⟨ga, rfl, hca⟩
        · rw [ha] at h1; simp at h1
        rcases hb with hb | ⟨gb, rfl, hcb⟩
        · rw [hb] at h2; simp at h2
        have c1 := hca j h1
        have c2 := hcb j h2
        have HN : Hid ((A.getD j 0 == D.getD j 0) = false → alongB A D = false) := along_no j h1 h2
        have HY : Hid ((A.getD j 0 == D.getD j 0) = true → ∀ q, q < j + 1 → (A.getD q 0 == D.getD q 0) = true) := fun h q hq => by
          by_cases e : q = j
          · subst e; exact h
          · exact HE.out q (by omega)
        clear hca hcb HE
        generalize A.getD j 0 = x at c1 HN HY
        generalize D.getD j 0 = y at c2 HN HY
        cases hxy : (x == y)
        · have hne : (x != y) = true := by unfold bne; rw [hxy]; rfl
          have HT : Hid (alongB A D = false) := HN.out hxy
          clear HN HY hxy
          go_wp2_with fail
          go_quiet (fail)
          go_wp2
          go_ret
          exact ⟨by rw [HT.out]; rfl, ⟨rfl, rfl, rfl, Nat.le_refl _, fun _ _ => rfl⟩⟩
        · have hne : (x != y) = false := by unfold bne; rw [hxy]; rfl
          have HT : Hid (∀ q, q < j + 1 → (A.getD q 0 == D.getD q 0) = true) := HY.out hxy
          clear HN HY hxy
          go_wp2_with fail
          go_quiet (fail)
          go_wp2
          go_roundw
          case rel => exact ⟨j + 1, _, by omega, by omega, by go_num, rfl, HT⟩
          case measure => simp [intOf]; omega
      · have h2i : ¬ (j : Int) < (D.length : Int) := by omega
        have HT : Hid (alongB A D = true) := along_yes fun q _ hq => HE.out q (by omega)
        clear HE ha hb
        go_wp2
        go_ret
        exact ⟨by rw [HT.out]; rfl, ⟨rfl, rfl, rfl, Nat.le_refl _, fun _ _ => rfl⟩⟩
    · have h1i : ¬ (j : Int) < (A.length : Int) := by omega
      have HT : Hid (alongB A D = true) := along_yes fun q hq _ => HE.out q (by omega)
      clear HE ha hb
      go_wp2
      go_ret
      exact ⟨by rw [HT.out]; rfl, ⟨rfl, rfl, rfl, Nat.le_refl _, fun _ _ => rfl⟩⟩

theorem own_cap2 {B : Nat} {w : World} {ao : Option Addr} {cap : Nat} {l : List Int} (h : Memb.Own B w ao cap l) : l.length ≤ cap := by
  obtain ⟨_, ⟨hv, hn⟩ | ⟨g, cap', cur, hv, hB, hn, _⟩⟩ := h
  · omega
  · injection hv with _ _ hv; omega
theorem rd_take2 {w : World} {fb : Nat} {l : List Int} (h : ∀ j, j < l.length → w.cell? ⟨fb, j, none⟩ = some (.int .i64 (l.getD j 0))) (i : Nat) (hi : i ≤ l.length) : Lst.Rd w (some ⟨fb, 0, none⟩) (l.take i) := by
  refine .inr ⟨fb, rfl, fun j hj => ?_⟩
  rw [List.length_take] at hj
  have := h j (by omega)
  rw [this]
  simp only [List.getD, List.getElem?_take, show j < i by omega, if_true]

def PairPost (w : World) (e : Ending) (w' : World) : Prop := ∃ ao ca A bo cb D, e = .returned (.tuple #[.slice ao (A : List Int).length ca, .slice bo (D : List Int).length cb]) ∧ Memb.Own w.heap.size w' ao ca A ∧ Memb.Own w.heap.size w' bo cb D ∧ (∀ z ∈ A, 0 ≤ z ∧ z ≤ 4) ∧ (∀ z ∈ D, 0 ≤ z ∧ z ≤ 4) ∧ A.length ≤ 5 ∧ D.length ≤ 6 ∧ Below w.heap.size w w'

theorem pair_post {w w1 wr : World} {ao : Option Addr} {ca : Nat} {A : List Int} {v : Value} {D : List Int} {B : Nat} (hs : w.heap.size ≤ w1.heap.size) (hs2 : w.heap.size ≤ B) (ha : Memb.Own w1.heap.size wr ao ca A) (hd : wr.ownsRow B 2 1 v D.length (D.map (Value.int .i64))) (za : ∀ z ∈ A, 0 ≤ z ∧ z ≤ 4) (zd : ∀ z ∈ D, 0 ≤ z ∧ z ≤ 4) (la : A.length ≤ 5) (ld : D.length ≤ 6) (hb : Below w.heap.size w wr) :
    PairPost w (.returned (.tuple #[.slice ao A.length ca, v])) wr := by
  obtain ⟨bo, cb, rfl, hown⟩ := Memb.own_shape hd
  exact ⟨ao, ca, A, bo, cb, D, rfl, Nu.own_base ha hs, Nu.own_base hown hs2, za, zd, la, ld, hb⟩

set_option maxHeartbeats 3200000 in
theorem drawBegins (a : Option Addr) (len cap : Nat) (w : World) (hl : len ≤ 4096) (hc : Cur.Code w a len) :
    Calls Tryz.prog 8 #[.slice a len cap] w (PairPost w) := by
  obtain ⟨i0, hi, hz0, hz1, hz2⟩ := info_parts Memb.info2
  go_enter Tryz.func8, Tryz.ntmps8
  go_wp2_with fail
  refine (Cur.new a len cap _ hl hc).mono ?_
  rintro e w1 ⟨rfl, hA1, hb1⟩
  have HCB : Hid (CurB w.heap.size a len w1.heap.size) := curB_of hA1
  have HA0 : Hid (At w.heap.size a len cap (w1.alloc (.cells #[] 2))) := at_belowB hA1 HCB.out ((Below.refl _ w1).alloc (Nat.le_refl _) _)
  have HE : Hid ((w1.alloc (.cells #[] 2)).ownsRow w1.heap.size 2 1 (.slice (some ⟨w1.heap.size, 0, none⟩) 0 0) 0 []) := Memb.own_empty w1
  have HB1 : Hid (Below w.heap.size w w1) := hb1
  have hs1 := hb1.size
  have hlt1 := hA1.lt
  clear hA1 hb1
  go_wp2_with fail
  refine (Cur.below _ a len cap 6 _ hl (by omega) HA0.out).mono ?_
  rintro e w2 ⟨n0, rfl, hn0, hn1, hA2, hG2⟩
  have hn2 := hn1 (by omega)
  have HS2 : Hid (CoSt w.heap.size a len cap w1 w2 (.slice (some ⟨w1.heap.size, 0, none⟩) 0 0) []) := by
    refine ⟨hA2, (Fr.alloc _ w1 _).trans (Fr.of_grown hG2) (fun _ hx _ => hx), ?_, by simp⟩
    exact own_fr (Fr.of_grown hG2) HE.out (fun g hg e => by simp [Value.ownBlock] at hg; omega)
  clear hA2 hG2 HA0 HE hn1
  go_wp2_with fail
  go_loopw [5, 6] (fun v n wr => ∃ (m : Nat) (l : List Int), n = .int .i64 m ∧ l.length + m ≤ 5 ∧ Hid (∀ z ∈ l, 0 ≤ z ∧ z ≤ 4) ∧ Hid (CoSt w.heap.size a len cap w1 wr v l)) (fun _ n _ => (intOf n).toNat)
  case atStart =>
    obtain ⟨m, rfl⟩ := Int.eq_ofNat_of_zero_le hn0
    exact ⟨m, [], rfl, by simp; omega, fun z hz => by simp at hz, HS2.out⟩
  case round =>
    obtain ⟨m, l, rfl, hlm, HZ, HS⟩ := hrel
    clear HS2
    by_cases hm : 0 < m
    · have hm' : (0 : Int) < (m : Int) := by omega
      go_wp2_with fail
      refine (Cur.below _ a len cap 5 _ hl (by omega) HS.out.at').mono ?_
      rintro e w3 ⟨x, rfl, hx0, hx1, hA3, hG3⟩
      have hx2 := hx1 (by omega)
      have hg3 : ∀ g, u5.ownBlock = some g → g ≠ w.heap.size := fun g hg e => by have := (World.ownsRow.lt HS.out.own g hg).1; omega
      have own3 : w3.ownsRow w1.heap.size 2 1 u5 l.length (l.map (Value.int .i64)) := own_fr (Fr.of_grown hG3) HS.out.own hg3
      have hW3 : w1.heap.size ≤ w3.heap.size := Nat.le_trans HS.out.fr.size hG3.size
      go_wp2_with (at_builtin; refine wpList_append_own _ rfl _ _ 25 rfl w1.heap.size 2 i0 (.int .i64 0) 1 8 Tryz.underlying25 hi hz0 hz1 hz2 rfl (by decide) u5 l.length (l.map (Value.int .i64)) (by first | rfl | simp [Act.eval]) (own3.alloc _) ⟨w3.heap.size, 0, none⟩ 1 1 [.int .i64 x] (by first | rfl | simp [Act.eval]) rfl (Sg.one_new w3 x _) (Sg.one_one x) ?c3 ?c4 ?c5 ?_)
      case c3 => unfold maxLen; omega
      case c4 => omega
      case c5 => simp; omega
      intro v' w4 hown' hgrow hnil
      have HS4 : Hid (CoSt w.heap.size a len cap w1 w4 v' (l ++ [x])) := co_step HS.out HCB.out hA3 hG3 hown' hgrow hnil
      have HZ4 : Hid (∀ z ∈ l ++ [x], 0 ≤ z ∧ z ≤ 4) := fun z hz => by
        rcases List.mem_append.1 hz with h | h
        · exact HZ.out z h
        · rw [List.mem_singleton.1 h]; omega
      clear hown' hgrow hnil own3 hA3 hG3 HS HZ
      go_wp2
      go_roundw
      case rel => exact ⟨m - 1, l ++ [x], by congr 1; omega, by simp; omega, HZ4, HS4⟩
      case measure => simp [intOf]; omega
    · obtain rfl : m = 0 := by omega
      have hn00 : ¬ (0 : Int) < ((0 : Nat) : Int) := by omega
      have hl5 : l.length ≤ 5 := by omega
      obtain ⟨g, gc, rfl, hgB, hgl⟩ := own_some HS.out.own HS.out.ne
      have HOA : Hid (Memb.Own w1.heap.size wr (some ⟨g, 0, none⟩) gc l) := HS.out.own
      have HBR : Hid (Below w.heap.size w wr) := HB1.out.trans (HS.out.fr.toBelow hs1 (fun x hx => by rw [hx]; exact Nat.le_refl _))
      have HAt : Hid (At w.heap.size a len cap wr) := HS.out.at'
      have hwl : IntKind.i64.wrap ((l.length : Int) + 1) = (l.length : Int) + 1 := by rw [IntKind.wrap_i64]; omega
      have hcapl : l.length ≤ gc := own_cap2 HOA.out
      clear HB1
      have hs1r : w1.heap.size ≤ wr.heap.size := HS.out.fr.size
      clear HS
      go_wp2_with fail
      refine (Cur.below _ a len cap ((l.length : Int) + 1) _ hl (by omega) HAt.out).mono ?_
      rintro e w5 ⟨y, rfl, hy0, hy1, hA5, hG5⟩
      have hy2 := hy1 (by omega)
      obtain ⟨q, rfl⟩ := Int.eq_ofNat_of_zero_le hy0
      have hq : q ≤ l.length := by omega
      have hqc : (q : Int) ≤ (gc : Int) := by omega
      have HO5 : Hid (Memb.Own w1.heap.size w5 (some ⟨g, 0, none⟩) gc l) := Draw.own_grown HOA.out hG5 hlt1
      have HB5 : Hid (Below w.heap.size w w5) := Draw.below_of_grown HBR.out (Nat.le_refl _) hG5
      have hg5 : g < w5.heap.size := Nat.lt_of_lt_of_le hgl hG5.size
      have hs5 : w1.heap.size ≤ w5.heap.size := Nat.le_trans hs1r hG5.size
      have hlq : (l.take q).length = q := by simp; omega
      have hcopy := l1Copy g gc (l.take q) w5 (by omega) hg5 (by
        rcases Lst.own_rd HO5.out with e | ⟨b, e, h⟩
        · exact .inl (by rw [e]; simp)
        · injection e with e; injection e with e; subst e; exact rd_take2 h q hq)
      rw [hlq] at hcopy
      have HZQ : Hid (∀ z ∈ l.take q, 0 ≤ z ∧ z ≤ 4) := fun z hz => HZ.out z (List.mem_of_mem_take hz)
      have HA5 : Hid (At w.heap.size a len cap w5) := hA5
      have HLQ : Hid ((l.take q).length = q) := hlq
      clear hG5 HOA HBR HAt hy1 hA5 hlq
      generalize l.take q = lq at hcopy HZQ HLQ
      go_wp2_with fail
      refine hcopy.mono ?_
      rintro e w6 ⟨bo, bc, rfl, hob, hb6⟩
      have HA6 : Hid (At w.heap.size a len cap w6) := HA5.out.below hb6
      have HO6 : Hid (Memb.Own w1.heap.size w6 (some ⟨g, 0, none⟩) gc l) := Lst.own_below HO5.out hb6
      have HB6 : Hid (Below w.heap.size w w6) := HB5.out.trans (hb6.mono HB5.out.size)
      have HP6 : Hid (Memb.Own w5.heap.size w6 bo bc lq) := hob
      have hs6 : w5.heap.size ≤ w6.heap.size := hb6.size
      have hq5 : lq.length ≤ 5 := by have := HLQ.out; omega
      clear hcopy hob hb6 HA5 HO5 HB5 HLQ
      go_wp2_with fail
      refine (Cur.once _ a len cap 3 _ hl (by omega) HA6.out).mono ?_
      rintro e w7 ⟨b7, rfl, hA7, hG7⟩
      have HO7 : Hid (Memb.Own w1.heap.size w7 (some ⟨g, 0, none⟩) gc l) := Draw.own_grown HO6.out hG7 hlt1
      have HP7 : Hid (Memb.Own w5.heap.size w7 bo bc lq) := Draw.own_grown HP6.out hG7 (by omega)
      have HB7 : Hid (Below w.heap.size w w7) := Draw.below_of_grown HB6.out (Nat.le_refl _) hG7
      have HA7 : Hid (At w.heap.size a len cap w7) := hA7
      have hsz7 : w5.heap.size ≤ w7.heap.size := Nat.le_trans hs6 hG7.size
      clear hA7 hG7 HO6 HP6 HB6 HA6
      cases b7
      · have HT : Hid (PairPost w (.returned (.tuple #[.slice (some ⟨g, 0, none⟩) l.length gc, .slice bo lq.length bc])) w7) := pair_post (w1 := w1) hs1 (by omega) HO7.out HP7.out HZ.out HZQ.out hl5 (by omega) HB7.out
        clear HO7 HP7 HB7 HA7 HZ HZQ
        go_wp2
        refine bodyPost_ret (v := .tuple #[.slice (some ⟨g, 0, none⟩) l.length gc, .slice bo lq.length bc]) (by simp [results, Tryz.f8, go_sem]) rfl ?_
        exact HT.out
      · go_wp2_with fail
        refine (Cur.below _ a len cap 5 _ hl (by omega) HA7.out).mono ?_
        rintro e w8 ⟨x, rfl, hx0, hx1, hA8, hG8⟩
        have hx2 := hx1 (by omega)
        have HO8 : Hid (Memb.Own w1.heap.size w8 (some ⟨g, 0, none⟩) gc l) := Draw.own_grown HO7.out hG8 hlt1
        have HP8 : Hid (Memb.Own w5.heap.size w8 bo bc lq) := Draw.own_grown HP7.out hG8 (by omega)
        have HB8 : Hid (Below w.heap.size w w8) := Draw.below_of_grown HB7.out (Nat.le_refl _) hG8
        have hW8 : w5.heap.size ≤ w8.heap.size := Nat.le_trans hsz7 hG8.size
        clear hA8 hG8 HO7 HP7 HB7 HA7 hx1
        have own8 : w8.ownsRow w5.heap.size 2 1 (.slice bo lq.length bc) lq.length (lq.map (Value.int .i64)) := HP8.out
        go_wp2_with (at_builtin; refine wpList_append_own _ rfl _ _ 25 rfl w5.heap.size 2 i0 (.int .i64 0) 1 8 Tryz.underlying25 hi hz0 hz1 hz2 rfl (by decide) (.slice bo lq.length bc) lq.length (lq.map (Value.int .i64)) (by first | rfl | simp [Act.eval]) (own8.alloc _) ⟨w8.heap.size, 0, none⟩ 1 1 [.int .i64 x] (by first | rfl | simp [Act.eval]) rfl (Sg.one_new w8 x _) (Sg.one_one x) ?c3 ?c4 ?c5 ?_)
        case c3 => unfold maxLen; omega
        case c4 => omega
        case c5 => simp; omega
        intro v' w9 hown' hgrow hnil
        have hltb := World.ownsRow.lt own8
        have hf1 : Fr (fun y => (Value.slice bo lq.length bc).ownBlock = some y) w8 w9 := (Fr.alloc _ w8 _).trans (Fr.of_own hgrow) (fun _ hx _ => hx)
        have HO9 : Hid (Memb.Own w1.heap.size w9 (some ⟨g, 0, none⟩) gc l) := own_fr hf1 HO8.out (fun q hq e => by
          have h1 := (hltb q e).1
          simp [Value.ownBlock] at hq
          omega)
        have HB9 : Hid (Below w.heap.size w w9) := HB8.out.trans (hf1.toBelow HB8.out.size (fun q hq => by have := (hltb q hq).1; omega))
        have hd9 : w9.ownsRow w5.heap.size 2 1 v' (lq ++ [x]).length ((lq ++ [x]).map (Value.int .i64)) := by simpa using hown'
        have HT : Hid (PairPost w (.returned (.tuple #[.slice (some ⟨g, 0, none⟩) l.length gc, v'])) w9) := pair_post (w1 := w1) hs1 (by omega) HO9.out hd9 HZ.out (fun z hz => by
          rcases List.mem_append.1 hz with h | h
          · exact HZQ.out z h
          · rw [List.mem_singleton.1 h]; omega) hl5 (by simp; omega) HB9.out
        clear hown' hgrow hnil own8 HO8 HP8 HB8 HO9 HB9 hd9 hf1 HZ HZQ hltb
        go_wp2
        refine bodyPost_ret (v := .tuple #[.slice (some ⟨g, 0, none⟩) l.length gc, v']) (by simp [results, Tryz.f8, go_sem]) rfl ?_
        exact HT.out

end Rm
namespace Rm
open Kn (K okK)
open Bit (bit memTo)
open Lc (at' RdK laceB)
open Sg (bel isB NumsPost)
open Tl (freshI freshL taleI taleL taleF respB beginsB)
open Ch (chainI chainL onB)

def ImplTaleOf : Prop := ∀ (g cap : Nat) (L : List K) (ao : Option Addr) (cc : Nat) (C : List Int) (k : Int) (w : World), LiesC w g L ao C → -9223372036854775808 ≤ k → k ≤ 9223372036854775807 →
    Calls Tryz.prog 7 #[.slice (some ⟨g, 0, none⟩) L.length cap, .slice ao C.length cc, .int .i64 k] w (NumsPost (taleI L C k) w)
def ImplBegins : Prop := ∀ (ao : Option Addr) (ca : Nat) (A : List Int) (bo : Option Addr) (cb : Nat) (D : List Int) (w : World), A.length ≤ ca → A.length ≤ 1048576 → D.length ≤ 1048576 → Lst.Rd w ao A → Lst.Rd w bo D → (∀ c, ao = some ⟨c, 0, none⟩ → c < w.heap.size) → (∀ c, bo = some ⟨c, 0, none⟩ → c < w.heap.size) →
    Calls Tryz.prog 11 #[.slice ao A.length ca, .slice bo D.length cb] w fun e w' => e = .returned (.bool (beginsB A D)) ∧ Below w.heap.size w w'

theorem own_cap {B : Nat} {w : World} {ao : Option Addr} {cap : Nat} {l : List Int} (h : Memb.Own B w ao cap l) : l.length ≤ cap := by
  obtain ⟨_, ⟨_, hn⟩ | ⟨g, c, cur, hv, _, _, hc, _⟩⟩ := h
  · omega
  · injection hv with _ _ hv
    omega

structure TaleIs (L : List K) (C c t : List Int) : Prop where
  clen : c.length ≤ 61
  cne : 0 < c.length
  at' : ∀ i, i < c.length → 0 ≤ c.getD i 0 ∧ c.getD i 0 < (L.length : Int)
  step : ∀ i, i < c.length → taleF L (-1) (c.take (i + 1)) = taleF L (-1) (c.take i) ++ freshI L (c.getD i 0) ((c.take i).getLastD (-1))
  last : ∀ i, i < c.length → (c.take (i + 1)).getLastD (-1) = c.getD i 0
  beg : ∀ i, i < c.length → beginsB t (taleI L C (c.getD i 0)) = true
  all : taleF L (-1) c = t
  resp : respB L t = true
  zb : ∀ z ∈ t, -9223372036854775808 ≤ z ∧ z ≤ 9223372036854775807
  wlen : ∀ i, i ≤ c.length → (taleF L (-1) (c.take i)).length ≤ 3660
theorem begins_app (a r : List Int) : beginsB (a ++ r) a = true := by
  refine Tl.begins_yes (by simp) fun j hj => ?_
  rw [beq_iff_eq]
  unfold List.getD
  rw [List.getElem?_append_left hj]
theorem take_last (c : List Int) (i : Nat) (hi : i < c.length) : (c.take (i + 1)).getLastD (-1) = c.getD i 0 := by
  have e : c.take (i + 1) = c.take i ++ [c.getD i 0] := by rw [List.take_add_one, List.getElem?_eq_getElem hi, Tl.getD_get c i hi]; rfl
  rw [e]
  generalize c.take i = a
  generalize c.getD i 0 = x
  simp
set_option maxHeartbeats 800000 in
theorem tale_cases (L : List K) (C : List Int) (k : Int) : TaleIs L C (chainI L C k) (taleI L C k) ∨ (chainI L C k = [] ∧ taleI L C k = []) := by
  cases hon : onB L C k
  · right
    unfold Ch.chainI Tl.taleI
    rw [hon]
    exact ⟨rfl, rfl⟩
  · left
    have hon' := hon
    unfold Ch.onB at hon'
    rw [Bool.and_eq_true] at hon'
    obtain ⟨hk, hC⟩ := hon'
    obtain ⟨k0, k1, hl⟩ := Sg.isB_parts hk
    have h60 := ((Lc.lace_iff L).1 hl).1
    obtain ⟨q, rfl⟩ := Int.eq_ofNat_of_zero_le k0
    have hq : q < L.length := by omega
    have e1 : chainI L C (q : Int) = chainL L C (q : Int) := by unfold Ch.chainI; rw [if_pos hon]
    have e2 : taleI L C (q : Int) = taleL L C (q : Int) := by unfold Tl.taleI; rw [if_pos hon]
    have hin : ∀ x ∈ chainL L C (q : Int), 0 ≤ x ∧ x < (L.length : Int) := fun x hx => by have := Ch.chain_in hx; omega
    have hisb : ∀ x, 0 ≤ x ∧ x < (L.length : Int) → isB L x = true := fun x hx => by
      unfold Sg.isB; rw [hl, decide_eq_true hx.1, decide_eq_true hx.2]; rfl
    have hat : ∀ i, i < (chainL L C (q : Int)).length → 0 ≤ (chainL L C (q : Int)).getD i 0 ∧ (chainL L C (q : Int)).getD i 0 < (L.length : Int) := fun i hi => hin _ (Tl.getD_mem _ i hi)
    have hcl : (chainL L C (q : Int)).length ≤ 60 := by have := Ch.chain_len L C (q : Int); omega
    have hbeg : ∀ x ∈ chainL L C (q : Int), beginsB (taleL L C (q : Int)) (taleI L C x) = true := fun x hx => by
      have hx2 := hin x hx
      have ex : taleI L C x = taleL L C x := by
        unfold Tl.taleI
        refine if_pos ?_
        unfold Ch.onB
        rw [hisb x hx2, hC]; rfl
      obtain ⟨r, hr⟩ := Tl.tale_begins hl C q hq x hx
      rw [ex, hr]
      exact begins_app _ r
    have hresp := Tl.tale_resp hl C hq
    have hz : ∀ z ∈ taleL L C (q : Int), -9223372036854775808 ≤ z ∧ z ≤ 9223372036854775807 := fun z hz => by
      obtain ⟨j, rfl, hj, _⟩ := Tl.tale_below hl C q hq z hz
      omega
    have hne := Ch.chain_ne L C q
    rw [e1, e2]
    have hall : taleF L (-1) (chainL L C (q : Int)) = taleL L C (q : Int) := rfl
    generalize taleL L C (q : Int) = t at hbeg hresp hz hall
    generalize chainL L C (q : Int) = c at hin hat hcl hbeg hne hall
    refine ⟨by omega, hne, hat, fun i hi => ?_, take_last c, fun i hi => hbeg _ (Tl.getD_mem c i hi), hall, hresp, hz, fun i hi => ?_⟩
    · have et : c.take (i + 1) = c.take i ++ [c.getD i 0] := by rw [List.take_add_one, List.getElem?_eq_getElem hi, Tl.getD_get c i hi]; rfl
      have hfe : freshI L (c.getD i 0) ((c.take i).getLastD (-1)) = freshL L (c.getD i 0) ((c.take i).getLastD (-1)) := by
        unfold Tl.freshI
        refine if_pos ?_
        rw [hisb _ (hat i hi), Bool.true_and]
        cases i with
        | zero => rfl
        | succ i => rw [take_last c i (by omega), hisb _ (hat i (by omega)), Bool.or_true]
      rw [et, Tl.taleF_snoc, hfe]
    · have := Tl.taleF_len L (c.take i) (-1)
      rw [List.length_take] at this
      have h2 : min i c.length ≤ 61 := by omega
      have h3 : 60 * min i c.length ≤ 60 * 61 := Nat.mul_le_mul_left 60 h2
      omega

structure TvO (w wx : World) (B g : Nat) (L : List K) (ao : Option Addr) (C : List Int) (fo : Option Addr) (fc : Nat) (t : List Int) : Prop where
  lies : LiesC wx g L ao C
  own : Memb.Own B wx fo fc t
  bel : Below w.heap.size w wx
theorem TvO.below {w wx w' : World} {B g : Nat} {L : List K} {ao : Option Addr} {C : List Int} {fo : Option Addr} {fc : Nat} {t : List Int} (h : TvO w wx B g L ao C fo fc t) (hb : Below wx.heap.size wx w') : TvO w w' B g L ao C fo fc t :=
  ⟨h.lies.below hb, Lst.own_below h.own hb, h.bel.trans (hb.mono h.bel.size)⟩
theorem TvO.drewN {w wx : World} {B g : Nat} {L : List K} {ao : Option Addr} {C : List Int} {fo : Option Addr} {fc : Nat} {t : List Int} (h : TvO w wx B g L ao C fo fc t) (n : Nat) : TvO w (wx.drewN n) B g L ao C fo fc t := h.below (Db.below_drewN (Below.refl _ wx) n)

structure AdO (wx : World) (B : Nat) (ao : Option Addr) (ca : Nat) (A : List Int) (bo : Option Addr) (cb : Nat) (D : List Int) : Prop where
  a : Memb.Own B wx ao ca A
  d : Memb.Own B wx bo cb D
theorem AdO.below {wx w' : World} {B : Nat} {ao : Option Addr} {ca : Nat} {A : List Int} {bo : Option Addr} {cb : Nat} {D : List Int} (h : AdO wx B ao ca A bo cb D) (hb : Below wx.heap.size wx w') : AdO w' B ao ca A bo cb D := ⟨Lst.own_below h.a hb, Lst.own_below h.d hb⟩

theorem new_cells2 {w6 : World} {fb : Nat} {fl : List Int} (h : ∀ j, j < fl.length → w6.cell? ⟨fb, j, none⟩ = some (.int .i64 (fl.getD j 0))) : ∀ (j : Nat) u, (fl.map (Value.int .i64))[j]? = some u → w6.cell? ((⟨fb, 0, none⟩ : Addr).add j) = some u := fun j u hu => by
  rw [List.getElem?_map] at hu
  rcases hj : fl[j]? with _ | y
  · rw [hj] at hu; simp at hu
  · rw [hj] at hu
    simp at hu
    subst hu
    have hjl : j < fl.length := (List.getElem?_eq_some_iff.1 hj).1
    have := h j hjl
    rw [show fl.getD j 0 = y by simp [List.getD, hj]] at this
    rw [show (⟨fb, 0, none⟩ : Addr).add j = ⟨fb, j, none⟩ by simp [Addr.add]; intro e; exact e.symm]
    exact this
theorem ones_int (fl : List Int) : ∀ u ∈ fl.map (Value.int .i64), u.oneCell' = true := fun u hu => by
  obtain ⟨y, _, rfl⟩ := List.mem_map.1 hu; rfl
theorem own_split {B : Nat} {w : World} {fo : Option Addr} {fc : Nat} {fl : List Int} (h : Memb.Own B w fo fc fl) : (fo = none ∧ fl = [] ∧ fc = 0) ∨ ∃ fb, fo = some ⟨fb, 0, none⟩ ∧ fb < w.heap.size ∧ ∀ j, j < fl.length → w.cell? ⟨fb, j, none⟩ = some (.int .i64 (fl.getD j 0)) := by
  have hrd := Lst.own_rd h
  have hlt := World.ownsRow.lt h
  obtain ⟨_, ⟨hq, hq2⟩ | ⟨fb, fcap, cur, hq, _⟩⟩ := h
  · injection hq with q1 _ q3
    exact .inl ⟨q1, List.eq_nil_of_length_eq_zero hq2, q3⟩
  · injection hq with q1 _ _
    subst q1
    refine .inr ⟨fb, rfl, (hlt fb rfl).2, fun j hj => ?_⟩
    rcases hrd with e | ⟨g5, e, hc5⟩
    · rw [e] at hj; simp at hj
    · injection e with e; injection e with e; subst e; exact hc5 j hj

structure WtO (w4 wx : World) (og oc : Nat) (l : List Int) : Prop where
  bel : Below w4.heap.size w4 wx
  own : wx.ownsRow w4.heap.size 2 1 (.slice (some ⟨og, 0, none⟩) l.length oc) l.length (l.map (Value.int .i64))
theorem WtO.below {w4 wx w' : World} {og oc : Nat} {l : List Int} (h : WtO w4 wx og oc l) (hb : Below wx.heap.size wx w') : WtO w4 w' og oc l := ⟨h.bel.trans (hb.mono h.bel.size), own_fr (Fr.of_below hb (fun _ => False)) h.own (fun _ _ q => q)⟩
theorem WtO.app {w4 w6 w7 : World} {og oc : Nat} {l fl : List Int} {v' : Value} (h : WtO w4 w6 og oc l) (ho : w7.ownsRow w4.heap.size 2 1 v' (l.length + fl.length) (l.map (Value.int .i64) ++ fl.map (Value.int .i64))) (hg : w6.grownBy w7 (some og)) (hn : ¬ v' = .slice none 0 0) : ∃ g2 c2, v' = .slice (some ⟨g2, 0, none⟩) (l.length + fl.length) c2 ∧ WtO w4 w7 g2 c2 (l ++ fl) := by
  obtain ⟨g2, c2, rfl, _, _⟩ := own_some ho hn
  have hlt := (World.ownsRow.lt h.own og rfl).1
  refine ⟨g2, c2, rfl, h.bel.trans ((Fr.of_grown hg).toBelow h.bel.size (fun x e => by omega)), ?_⟩
  rw [List.length_append, List.map_append]
  exact ho

set_option maxHeartbeats 6400000 in
theorem talesWalk (HI1 : ImplTaleOf) (HI2 : ImplBegins) (HD : DrawsRoom) (HDC : DrawsRoomC) (a0 : Option Addr) (len0 cap0 : Nat) (w : World) (hcode : Cur.Code w a0 len0) :
    Calls Tryz.prog 3 #[.slice a0 len0 cap0] w fun e w' => e = .returned (.bool true) ∧ Below w.heap.size w w' := by
  obtain ⟨i0, hi, hz0, hz1, hz2⟩ := info_parts Memb.info2
  by_cases hbig : 4096 < len0
  · have hb' : (4096 : Int) < (len0 : Int) := by omega
    go_enter Tryz.func3, Tryz.ntmps3
    go_wp2
    go_ret
    exact ⟨rfl, Below.refl _ _⟩
  · have hb' : ¬ (4096 : Int) < (len0 : Int) := by omega
    have hle0 : len0 ≤ 4096 := by omega
    have HDD : Hid DrawsRoom := HD
    have HDX : Hid DrawsRoomC := HDC
    have H1 : Hid ImplTaleOf := HI1
    have H2 : Hid ImplBegins := HI2
    have HCode : Hid (Cur.Code w a0 len0) := hcode
    clear hbig HD HDC hcode HI1 HI2
    go_enter Tryz.func3, Tryz.ntmps3
    go_wp2_with (first | (go_at_call 5; go_in) | fail)
    refine (drawTaleOf HDD.out HDX.out a0 len0 cap0 _ hle0 HCode.out).mono ?_
    rintro e w1 ⟨v, L, ao, cc, C, k, rfl, hD1, hk0⟩
    obtain ⟨g, cp, rfl, hcp, hL1⟩ := drawn_liesC hD1
    have HB1 : Hid (Below w.heap.size w w1) := hD1.dr.bel
    clear hD1
    go_wp2_with fail
    refine (H1.out g cp L ao cc C k _ hL1 hk0.1 hk0.2).mono ?_
    rintro e w2 ⟨fo, fc, rfl, hof, hb2⟩
    have HS2 : Hid (TvO w w2 w1.heap.size g L ao C fo fc (taleI L C k)) := ⟨hL1.below hb2, hof, HB1.out.trans (hb2.mono HB1.out.size)⟩
    clear hL1 hb2 hof HB1
    go_wp2_with fail
    refine (drawBegins a0 len0 cap0 _ hle0 (code_below2 HCode.out HS2.out.bel)).mono ?_
    rintro e w3 ⟨xo, xc, A, yo, yc, D, rfl, hxA, hyD, _, _, hA5, hD6, hb3⟩
    have HS3 : Hid (TvO w w3 w1.heap.size g L ao C fo fc (taleI L C k)) := HS2.out.below hb3
    have HM3 : Hid (AdO w3 w2.heap.size xo xc A yo yc D) := ⟨hxA, hyD⟩
    clear HS2 hxA hyD hb3 HCode
    have hsA := Tl.specTaleOf g 0 cp L ao cc C k w3 hcp HS3.out.lies.l.words HS3.out.lies.lt HS3.out.lies.l.rd (by have := HS3.out.lies.c.len; omega) HS3.out.lies.c.rd HS3.out.lies.c.at'
    have HBI : Hid (∀ (W : World), AdO W w2.heap.size xo xc A yo yc D → Calls Tryz.prog 11 #[.slice xo A.length xc, .slice yo D.length yc] W fun e w' => e = .returned (.bool (beginsB A D)) ∧ Below W.heap.size W w') := fun W h => H2.out xo xc A yo yc D W (own_cap h.a) (by omega) (by omega) (Lst.own_rd h.a) (Lst.own_rd h.d) (own_at h.a) (own_at h.d)
    have HBS : Hid (∀ (W : World), AdO W w2.heap.size xo xc A yo yc D → Calls Tryz.prog 12 #[.slice xo A.length xc, .slice yo D.length yc] W fun e w' => e = .returned (.bool (beginsB A D)) ∧ Below W.heap.size W w') := fun W h => (Tl.specBegins xo xc A yo yc D W (by omega) (by omega) (Lst.own_rd h.a) (Lst.own_rd h.d)).mono fun _ _ h => ⟨h.1, h.2⟩
    have HAL : Hid (∀ (W : World), AdO W w2.heap.size xo xc A yo yc D → Calls Tryz.prog 13 #[.slice xo A.length xc, .slice yo D.length yc] W fun e w' => e = .returned (.bool (alongB A D)) ∧ Below W.heap.size W w') := fun W h => along xo xc A yo yc D W (by omega) (by omega) (Lst.own_rd h.a) (Lst.own_rd h.d)
    have HBA : Hid (beginsB A D = true → D.length ≤ A.length ∧ alongB A D = true) := begins_along
    have HCH : Hid (∀ (W : World), LiesC W g L ao C → Calls Tryz.prog 14 #[.slice (some ⟨g, 0, none⟩) L.length cp, .slice ao C.length cc, .int .i64 k] W (NumsPost (chainI L C k) W)) := fun W h => Ch.specChainOf g 0 cp L ao cc C k W hcp h.l.words h.lt h.l.rd (by have := h.c.len; omega) h.c.rd h.c.at'
    have HCS : Hid (TaleIs L C (chainI L C k) (taleI L C k) ∨ (chainI L C k = [] ∧ taleI L C k = [])) := tale_cases L C k
    have hlen := Tl.taleI_len L C k
    have hclen := Ch.chainI_len (L := L) (C := C) (k := k)
    generalize beginsB A D = bb at HBI HBS HBA
    generalize alongB A D = ab at HAL HBA
    generalize taleI L C k = tl at HS3 hsA HCS hlen ⊢
    generalize chainI L C k = cl at HCH HCS hclen
    go_upto_region 6 with fail
    go_cut [63] (fun bv wx => bv = .bool false ∧ Hid (TvO w wx w1.heap.size g L ao C fo fc tl))
    case first =>
      as_aux_lemma =>
        go_wp2_with fail
        refine hsA.mono ?_
        rintro e w5 ⟨so, sc, rfl, hos, hb5⟩
        have HS5 : Hid (TvO w w5 w1.heap.size g L ao C fo fc tl) := HS3.out.below hb5
        have HM5 : Hid (AdO w5 w2.heap.size xo xc A yo yc D) := HM3.out.below hb5
        have hlk := Lst.alike tl fo so fc sc w5 (by omega) (Lst.own_rd HS5.out.own) (Lst.own_rd hos)
        clear HS3 HM3 hb5 hos hsA
        go_wp2_with fail
        refine hlk.mono ?_
        rintro e w6 ⟨rfl, n6, rfl⟩
        have HS6 : Hid (TvO w (w5.drewN n6) w1.heap.size g L ao C fo fc tl) := HS5.out.drewN n6
        have HM6 : Hid (AdO (w5.drewN n6) w2.heap.size xo xc A yo yc D) := HM5.out.below (Db.below_drewN (Below.refl _ w5) n6)
        clear hlk HS5 HM5
        generalize w5.drewN n6 = V6 at HS6 HM6 ⊢
        go_wp2_with fail
        refine (HBI.out V6 HM6.out).mono ?_
        rintro e w7 ⟨rfl, hb7⟩
        have HS7 : Hid (TvO w w7 w1.heap.size g L ao C fo fc tl) := HS6.out.below hb7
        have HM7 : Hid (AdO w7 w2.heap.size xo xc A yo yc D) := HM6.out.below hb7
        clear HS6 HM6 hb7
        go_wp2_with fail
        refine (HBS.out w7 HM7.out).mono ?_
        rintro e w8 ⟨rfl, hb8⟩
        have HS8 : Hid (TvO w w8 w1.heap.size g L ao C fo fc tl) := HS7.out.below hb8
        have HM8 : Hid (AdO w8 w2.heap.size xo xc A yo yc D) := HM7.out.below hb8
        clear HS7 HM7 hb8
        cases bb
        · go_wp2_with fail
          refine (HBI.out w8 HM8.out).mono ?_
          rintro e w9 ⟨rfl, hb9⟩
          have HS9 : Hid (TvO w w9 w1.heap.size g L ao C fo fc tl) := HS8.out.below hb9
          clear HS8 HM8 hb9
          go_wp2_with fail
          go_meet
          exact ⟨rfl, HS9⟩
        · obtain ⟨hda, rfl⟩ := HBA.out rfl
          have hda2 : decide (A.length < D.length) = false := decide_eq_false (by omega)
          go_wp2_with fail
          refine (HBI.out w8 HM8.out).mono ?_
          rintro e w9 ⟨rfl, hb9⟩
          have HS9 : Hid (TvO w w9 w1.heap.size g L ao C fo fc tl) := HS8.out.below hb9
          have HM9 : Hid (AdO w9 w2.heap.size xo xc A yo yc D) := HM8.out.below hb9
          clear HS8 HM8 hb9
          go_wp2_with fail
          refine (HAL.out w9 HM9.out).mono ?_
          rintro e w10 ⟨rfl, hb10⟩
          have HS10 : Hid (TvO w w10 w1.heap.size g L ao C fo fc tl) := HS9.out.below hb10
          clear HS9 HM9 hb10
          go_wp2_with fail
          go_meet
          exact ⟨by first | rfl | rw [hda2], HS10⟩
    case rest =>
      clear HS3 HM3 HBI HBS HAL HBA hsA
      obtain ⟨rfl, HS8⟩ := hcut
      go_wp2_with fail
      refine (HCH.out _ HS8.out.lies).mono ?_
      rintro e w4 ⟨ho, hc, rfl, hoc, hb9⟩
      have HS4 : Hid (TvO w w4 w1.heap.size g L ao C fo fc tl) := HS8.out.below hb9
      obtain ⟨BQ, HC4⟩ : ∃ BQ, Hid (Memb.Own BQ w4 ho hc cl) := ⟨_, hoc⟩
      clear HS8 hb9 HCH hoc
      rcases HCS.out with hT | ⟨rfl, rfl⟩
      · have HT : Hid (TaleIs L C cl tl) := hT
        have hc0 := hT.cne
        have hc0i : ((cl.length : Int) == 0) = false := by rw [Bool.eq_false_iff]; intro h; rw [beq_iff_eq] at h; omega
        have HX : Hid (∀ W, Below w4.heap.size w4 W → TvO w W w1.heap.size g L ao C fo fc tl ∧ Memb.Own BQ W ho hc cl) := fun W h => ⟨HS4.out.below h, Lst.own_below HC4.out h⟩
        obtain ⟨cb, hho⟩ : ∃ cb, ho = some ⟨cb, 0, none⟩ := by
          rcases own_split HC4.out with ⟨_, e, _⟩ | ⟨cb, e, _⟩
          · rw [e] at hc0; simp at hc0
          · exact ⟨cb, e⟩
        subst hho
        have HCC : Hid (∀ W, Below w4.heap.size w4 W → ∀ j, j < cl.length → W.cell? ⟨cb, j, none⟩ = some (.int .i64 (cl.getD j 0))) := fun W h j hj => by
          rcases own_split (HX.out W h).2 with ⟨_, e, _⟩ | ⟨cb', e, _, hcell⟩
          · rw [e] at hj; simp at hj
          · injection e with e; injection e with e; subst e; exact hcell j hj
        have HFR : Hid (∀ (W : World) (x y : Int), LiesC W g L ao C → Calls Tryz.prog 15 #[.slice (some ⟨g, 0, none⟩) L.length cp, .int .i64 x, .int .i64 y] W (NumsPost (freshI L x y) W)) := fun W x y h => Tl.specFreshOf g 0 cp L x y W hcp h.l.words h.l.rd
        have HTI : Hid (∀ (W : World) (x : Int), LiesC W g L ao C → 0 ≤ x → x < (L.length : Int) → Calls Tryz.prog 7 #[.slice (some ⟨g, 0, none⟩) L.length cp, .slice ao C.length cc, .int .i64 x] W (NumsPost (taleI L C x) W)) := fun W x h h0 h1 => H1.out g cp L ao cc C x W h (by omega) (by have := h.l.len; omega)
        have HE0 : Hid (WtO w4 (w4.alloc (.cells #[] 2)) w4.heap.size 0 []) := ⟨(Below.refl _ w4).alloc (Nat.le_refl _) _, Memb.own_empty w4⟩
        clear HCS hT HS4 HC4
        go_wp2_with fail
        go_loopw [10, 11, 12] (fun wv ev iv wx => ∃ i og oc : Nat, i ≤ cl.length ∧ iv = .int .i64 i ∧ ev = .int .i64 ((cl.take i).getLastD (-1)) ∧ wv = .slice (some ⟨og, 0, none⟩) (taleF L (-1) (cl.take i)).length oc ∧ Hid (WtO w4 wx og oc (taleF L (-1) (cl.take i)))) (fun _ _ iv _ => cl.length - (intOf iv).toNat)
        case atStart => exact ⟨0, w4.heap.size, 0, by omega, rfl, rfl, rfl, HE0⟩
        case round =>
          obtain ⟨i, og, oc, hi', rfl, rfl, rfl, HW⟩ := hrel
          clear HE0
          by_cases hlt : i < cl.length
          · have hlti : (i : Int) < (cl.length : Int) := by omega
            have hat := HT.out.at' i hlt
            have HST : Hid (taleF L (-1) (cl.take (i + 1)) = taleF L (-1) (cl.take i) ++ freshI L (cl.getD i 0) ((cl.take i).getLastD (-1))) := HT.out.step i hlt
            have HLA : Hid ((cl.take (i + 1)).getLastD (-1) = cl.getD i 0) := HT.out.last i hlt
            have HBE : Hid (beginsB tl (taleI L C (cl.getD i 0)) = true) := HT.out.beg i hlt
            have hl1 := HT.out.wlen i hi'
            have hl2 := HT.out.wlen (i + 1) (by omega)
            have HCI : Hid (∀ W, Below w4.heap.size w4 W → W.cell? ⟨cb, i, none⟩ = some (.int .i64 (cl.getD i 0))) := fun W h => HCC.out W h i hlt
            have hfl := Tl.freshI_len L (cl.getD i 0) ((cl.take i).getLastD (-1))
            have hti := Tl.taleI_len L C (cl.getD i 0)
            generalize hnx : taleF L (-1) (cl.take (i + 1)) = nx at HST hl2
            have HNX : Hid (taleF L (-1) (cl.take (i + 1)) = nx) := hnx
            generalize taleF L (-1) (cl.take i) = pv at HST hl1 HW ⊢
            generalize hel : (cl.take i).getLastD (-1) = el at HST hfl
            generalize cl.getD i 0 = ci at HST HLA HBE HCI hat hfl hti
            have ci0 := HCI.out wr HW.out.bel
            have hfr := HFR.out wr ci el (HX.out wr HW.out.bel).1.lies
            generalize freshI L ci el = fl at HST hfr hfl
            clear hnx hel HCC
            go_upto_region 16 with fail
            go_cut [10] (fun wv wx => ∃ og oc : Nat, wv = .slice (some ⟨og, 0, none⟩) nx.length oc ∧ Hid (WtO w4 wx og oc nx))
            case first =>
              as_aux_lemma =>
                go_wp2_with fail
                refine hfr.mono ?_
                rintro en w6 ⟨qo, qc, rfl, hof, hb6⟩
                have HW6 : Hid (WtO w4 w6 og oc pv) := HW.out.below hb6
                have hsz6 := HW6.out.bel.size
                have HNL : Hid (nx.length = pv.length + fl.length) := by show _ = _; rw [HST.out]; simp
                rcases own_split hof with ⟨rfl, rfl, rfl⟩ | ⟨fb, rfl, hfb6, hfcell⟩
                · obtain rfl : nx = pv := by rw [HST.out, List.append_nil]
                  clear hof hb6 HST HW
                  go_wp2_with (first | (at_builtin; refine wpList_append_own_none rfl _ _ 25 rfl w4.heap.size 2 i0 1 Tryz.underlying25 hi (.slice (some ⟨og, 0, none⟩) nx.length oc) nx.length (nx.map (Value.int .i64)) (by first | rfl | simp [Act.eval]) HW6.out.own (by first | rfl | simp [Act.eval]) ?_) | fail)
                  go_wp2_with fail
                  go_meet
                  exact ⟨og, oc, rfl, HW6⟩
                · have HNEW : Hid (∀ (j : Nat) u, (fl.map (Value.int .i64))[j]? = some u → w6.cell? ((⟨fb, 0, none⟩ : Addr).add j) = some u) := new_cells2 hfcell
                  have HONE : Hid (∀ u ∈ fl.map (Value.int .i64), u.oneCell' = true) := ones_int fl
                  clear hof hfcell hb6 HW
                  go_wp2_with (first | (at_builtin; refine wpList_append_own _ rfl _ _ 25 rfl w4.heap.size 2 i0 (.int .i64 0) 1 8 Tryz.underlying25 hi hz0 hz1 hz2 rfl (by decide) (.slice (some ⟨og, 0, none⟩) pv.length oc) pv.length (pv.map (Value.int .i64)) (by first | rfl | simp [Act.eval]) HW6.out.own ⟨fb, 0, none⟩ fl.length qc (fl.map (Value.int .i64)) (by first | rfl | simp [Act.eval]) (by simp) HNEW.out HONE.out ?c3 ?c4 ?c5 ?_) | fail)
                  case c3 => unfold maxLen; omega
                  case c4 => omega
                  case c5 => exact hsz6
                  intro v' w7 hown' hgrow hnil
                  obtain ⟨g2, c2, rfl, hW7⟩ := HW6.out.app hown' hgrow (by first | exact hnil | exact fun e => by have := hnil.1 e; simp at this)
                  have HW7 : Hid (WtO w4 w7 g2 c2 nx) := by show WtO _ _ _ _ _; rw [HST.out]; exact hW7
                  clear hown' hgrow hnil HW6 HNEW HONE hW7 HST
                  go_wp2_with fail
                  go_meet
                  exact ⟨g2, c2, by rw [HNL.out], HW7⟩
            case rest =>
              clear HW hfr HST ci0
              obtain ⟨og2, oc2, rfl, HW7⟩ := hcut
              have ci7 := HCI.out _ HW7.out.bel
              have hcb7 := own_at (HX.out _ HW7.out.bel).2 cb rfl
              have htl := HTI.out _ ci (HX.out _ HW7.out.bel).1.lies hat.1 hat.2
              generalize taleI L C ci = ti at HBE htl hti
              go_wp2_with fail
              refine htl.mono ?_
              rintro en w8 ⟨po, pc, rfl, hop, hb8⟩
              have HW8 : Hid (WtO w4 w8 og2 oc2 nx) := HW7.out.below hb8
              have hbg := H2.out fo fc tl po pc ti w8 (own_cap (HX.out w8 HW8.out.bel).1.own) (by omega) (by omega) (Lst.own_rd (HX.out w8 HW8.out.bel).1.own) (Lst.own_rd hop) (own_at (HX.out w8 HW8.out.bel).1.own) (own_at hop)
              rw [HBE.out] at hbg
              clear htl hop hb8 HW7 ci7 HBE
              go_wp2_with fail
              refine hbg.mono ?_
              rintro en w9 ⟨rfl, hb9⟩
              have HW9 : Hid (WtO w4 w9 og2 oc2 nx) := HW8.out.below hb9
              clear hbg hb9 HW8
              go_wp2
              go_roundw
              case rel => exact ⟨i + 1, og2, oc2, by omega, by go_num, by rw [HLA.out], by rw [HNX.out], by rw [HNX.out]; exact HW9⟩
              case measure => simp [intOf]; omega
          · obtain rfl : i = cl.length := by omega
            have hlti : ¬ (cl.length : Int) < (cl.length : Int) := by omega
            have HALL : Hid (taleF L (-1) (cl.take cl.length) = tl) := by rw [List.take_length]; exact HT.out.all
            rw [HALL.out] at HW ⊢
            have hlk := Lst.alike tl fo (some ⟨og, 0, none⟩) fc oc wr (by omega) (Lst.own_rd (HX.out wr HW.out.bel).1.own) (Lst.own_rd HW.out.own)
            generalize (cl.take cl.length).getLastD (-1) = el
            clear HALL
            go_wp2_with fail
            refine hlk.mono ?_
            rintro e w10 ⟨rfl, n10, rfl⟩
            have HB10 : Hid (Below w4.heap.size w4 (wr.drewN n10)) := Db.below_drewN HW.out.bel n10
            have hO := (HX.out _ HB10.out).1
            have hrs := Tl.specRespects g 0 cp L fo fc tl (wr.drewN n10) hcp hO.lies.l.words hO.lies.lt hO.lies.l.rd (by omega) HT.out.zb (Lst.own_rd hO.own) (own_at hO.own)
            rw [HT.out.resp] at hrs
            have HBE : Hid (Below w.heap.size w (wr.drewN n10)) := hO.bel
            clear hlk HW hO
            generalize wr.drewN n10 = V at hrs HBE HB10 ⊢
            go_wp2_with fail
            refine hrs.mono ?_
            rintro e w11 ⟨rfl, hb11⟩
            have HBF : Hid (Below w.heap.size w w11) := HBE.out.trans (hb11.mono HBE.out.size)
            clear hrs hb11 HBE HB10
            go_wp2
            go_ret
            exact ⟨rfl, HBF.out⟩
      · clear HCS
        go_wp2
        go_ret
        exact ⟨rfl, HS4.out.bel⟩

end Rm
end Go.Proofs.YtflhaiakhfmmmaaGreat
