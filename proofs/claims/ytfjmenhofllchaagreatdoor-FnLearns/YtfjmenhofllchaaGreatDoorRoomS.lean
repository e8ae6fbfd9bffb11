/-
  The model's drawing of a new room: it hands back a new room in memory of its own, and changes the cursor alone.
-/
import Derived.Test.YtfjmenhofllchaaGreatDoorRoomR
import Derived.Test.YtfjmenhofllchaaGreatDoorCur
import Derived.Test.YtfjmenhofllchaaGreatDoorDrawK
namespace Go.Proofs.YtfjmenhofllchaaGreatDoor
open Go.RowKit
set_option maxRecDepth 100000
namespace Rm
open Kn (K okK in3)
open Lc (at' RdK laceB takesB flat OwnK CellsK cellsOf)
open Cur (At)

/-- the cursor and its code lie below B -/
def CurB (c : Nat) (a : Option Addr) (len B : Nat) : Prop := c < B ∧ (len = 0 ∨ ∀ x, a = some x → x.block < B)
theorem curB_of {c : Nat} {a : Option Addr} {len cap : Nat} {w : World} (h : At c a len cap w) : CurB c a len w.heap.size := by
  refine ⟨h.lt, ?_⟩
  rcases h.bytes with h0 | ⟨b, off, ha, _, hb, _⟩
  · exact .inl h0
  · exact .inr fun x hx => by rw [ha] at hx; injection hx with hx; subst hx; exact hb
theorem CurB.mono {c : Nat} {a : Option Addr} {len B B' : Nat} (h : CurB c a len B) (hb : B ≤ B') : CurB c a len B' := ⟨by have := h.1; omega, h.2.imp id fun k x hx => by have := k x hx; omega⟩

theorem at_belowB {c : Nat} {a : Option Addr} {len cap B : Nat} {w w' : World} (h : At c a len cap w) (hB : CurB c a len B) (hb : Below B w w') : At c a len cap w' where
  lt := Nat.lt_of_lt_of_le h.lt hb.size
  b := (hb.cell (p := ⟨c, 0, none⟩) hB.1).trans h.b
  i := by obtain ⟨i, h1, h2⟩ := h.i; exact ⟨i, (hb.cell (p := ⟨c, 1, none⟩) hB.1).trans h1, h2⟩
  h := by obtain ⟨i, h1, h2⟩ := h.h; exact ⟨i, (hb.cell (p := ⟨c, 2, none⟩) hB.1).trans h1, h2⟩
  f1 := (hb.frozen (p := ⟨c, 1, none⟩) hB.1).trans h.f1
  f2 := (hb.frozen (p := ⟨c, 2, none⟩) hB.1).trans h.f2
  bytes := by
    rcases h.bytes with h0 | ⟨b, off, ha, hne, hlt, hc⟩
    · exact .inl h0
    · rcases hB.2 with h0 | hB2
      · exact .inl h0
      · refine .inr ⟨b, off, ha, hne, Nat.lt_of_lt_of_le hlt hb.size, fun j hj => ?_⟩
        obtain ⟨z, h1, h2⟩ := hc j hj
        exact ⟨z, (hb.cell (p := ⟨b, off + j, none⟩) (show b < B from hB2 _ ha)).trans h1, h2⟩

/-- a step that draws: the cursor alone -/
abbrev FrC (c : Nat) (w w' : World) : Prop := Fr (fun x => x = c) w w'

theorem coins_of (l : List Int) (h : ∀ x ∈ l, 0 ≤ x ∧ x ≤ 3) (hl : l.length ≤ 6) : coinsB l = true := by
  unfold coinsB coinsTo
  rw [Bool.and_eq_true, decide_eq_true_eq, List.all_eq_true]
  refine ⟨fun i hi => ?_, hl⟩
  have hi' : i < l.length := by simpa using hi
  have := h (l.getD i 0) (by simp [List.getD, List.getElem?_eq_getElem hi'])
  exact (in3_iff _).2 this

/-- the coins drawn so far -/
structure CnSt (c : Nat) (a : Option Addr) (len cap : Nat) (W wr : World) (v : Value) (l : List Int) : Prop where
  at' : At c a len cap wr
  fr : FrC c W wr
  own : wr.ownsRow W.heap.size 2 1 v l.length (l.map (Value.int .i64))
  ne : v ≠ .slice none 0 0
  inn : ∀ x ∈ l, 0 ≤ x ∧ x ≤ 3

theorem cn_step {c : Nat} {a : Option Addr} {len cap : Nat} {W wr w1 w2 : World} {v v' : Value} {l : List Int} {x : Int} {o : Obj} (s : CnSt c a len cap W wr v l) (hcb : CurB c a len W.heap.size) (hA : At c a len cap w1) (hG : wr.grownBy w1 (some c)) (hx : 0 ≤ x ∧ x ≤ 3) (ho : w2.ownsRow W.heap.size 2 1 v' (l.length + 1) (l.map (Value.int .i64) ++ [.int .i64 x])) (hg : (w1.alloc o).grownBy w2 v.ownBlock) (hn : ¬ v' = .slice none 0 0) :
    CnSt c a len cap W w2 v' (l ++ [x]) := by
  have hlt := World.ownsRow.lt s.own
  have hf1 : Fr (fun y => v.ownBlock = some y) w1 w2 := (Fr.alloc _ w1 o).trans (Fr.of_own hg) (fun _ hx _ => hx)
  have hW1 : W.heap.size ≤ w1.heap.size := Nat.le_trans s.fr.size hG.size
  refine ⟨at_belowB hA hcb (hf1.toBelow hW1 (fun y hy => (hlt y hy).1)), ?_, ?_, hn, ?_⟩
  · exact (s.fr.trans (Fr.of_grown hG) (fun _ hx _ => hx)).trans hf1 (fun y hy hl => by have := (hlt y hy).1; omega)
  · simpa using ho
  · intro y hy
    rw [List.mem_append] at hy
    rcases hy with hy | hy
    · exact s.inn y hy
    · simp at hy; subst hy; exact hx

theorem own_some {w : World} {B : Nat} {t : TypeId} {size n : Nat} {v : Value} {xs : List Value} (h : w.ownsRow B t size v n xs) (hv : v ≠ .slice none 0 0) : ∃ g cap, v = .slice (some ⟨g, 0, none⟩) n cap ∧ B ≤ g ∧ g < w.heap.size := by
  have hlt := World.ownsRow.lt h
  obtain ⟨_, ⟨hn, _⟩ | ⟨g, cap, cur, rfl, hB, _⟩⟩ := h
  · exact absurd hn hv
  · exact ⟨g, cap, rfl, hB, (hlt g rfl).2⟩

/-- how the drawing of a new room ends -/
def NewCPost (c : Nat) (a : Option Addr) (len cap : Nat) (w : World) (e : Ending) (w' : World) : Prop := ∃ R, e = .returned (roV R) ∧ NewR w.heap.size w' R ∧ At c a len cap w' ∧ FrC c w w'

theorem newR_fr {S : Nat → Prop} {B : Nat} {w w' : World} {R : Ro} (x : NewR B w R) (hf : Fr S w w') (h1 : ¬ S R.gh) (h2 : ∀ g, R.cv.ownBlock = some g → ¬ S g) : NewR B w' R :=
  ⟨parts_fr x.parts hf h1 (fun g hg => by rw [x.lv] at hg; simp [Value.ownBlock] at hg), x.L, x.lv, coinsAt_fr x.coins hf h2, x.cB, x.cg⟩

theorem parts_base {B B' : Nat} {w : World} {R : Ro} (x : Parts B w R) (h : B' ≤ B) : Parts B' w R :=
  ⟨by
    obtain ⟨h1, h2⟩ := x.own
    refine ⟨h1, ?_⟩
    rcases h2 with h2 | ⟨g, cap', cur, hv, hB, rest⟩
    · exact .inl h2
    · exact .inr ⟨g, cap', cur, hv, by omega, rest⟩, x.lace, x.hands, x.hok, Nat.le_trans h x.gB, x.cap, x.ne⟩
theorem newR_base {B B' : Nat} {w : World} {R : Ro} (x : NewR B w R) (h : B' ≤ B) : NewR B' w R := ⟨parts_base x.parts h, x.L, x.lv, x.coins, fun g hg => Nat.le_trans h (x.cB g hg), x.cg⟩

set_option maxHeartbeats 3200000 in
theorem l18New (c : Nat) (a : Option Addr) (len cap : Nat) (w : World) (hl : len ≤ 4096) (hc : At c a len cap w) :
    Calls Tryz.prog 112 #[.pointer (some ⟨c, 0, none⟩)] w (NewCPost c a len cap w) := by
  obtain ⟨i0, hi, hz0, hz1, hz2⟩ := info_parts Memb.info2
  have hcb := curB_of hc
  have P0 : Hid (Below w.heap.size w (w.alloc (.cells #[.slice none 0 0, .slice none 0 0, .slice none 0 0, .int .i64 0] 107)) ∧ Q4 (w.alloc (.cells #[.slice none 0 0, .slice none 0 0, .slice none 0 0, .int .i64 0] 107)) w.heap.size (.slice none 0 0) (.slice none 0 0) (.slice none 0 0) (.int .i64 0)) := ⟨(Below.refl _ _).alloc (Nat.le_refl _) _, q4_new _ _ _ _ _ _⟩
  go_enter Tryz.func112, Tryz.ntmps112
  go_upto_region 1 with fail
  generalize w.alloc (.cells #[.slice none 0 0, .slice none 0 0, .slice none 0 0, .int .i64 0] 107) = W0 at P0 ⊢
  have hcb0 : CurB c a len W0.heap.size := hcb.mono P0.out.1.size
  have HA0 : Hid (At c a len cap (W0.alloc (.cells #[] 2))) := at_belowB hc hcb (P0.out.1.alloc P0.out.1.size _)
  have HE : Hid ((W0.alloc (.cells #[] 2)).ownsRow W0.heap.size 2 1 (.slice (some ⟨W0.heap.size, 0, none⟩) 0 0) 0 []) := Memb.own_empty W0
  go_wp2_with fail
  refine (Cur.below c a len cap 4 _ hl (by omega) HA0.out).mono ?_
  rintro e w1 ⟨n0, rfl, hn0, hn1, hA1, hG1⟩
  have hn2 := hn1 (by omega)
  have HS1 : Hid (CnSt c a len cap W0 w1 (.slice (some ⟨W0.heap.size, 0, none⟩) 0 0) []) := by
    refine ⟨hA1, (Fr.alloc _ W0 _).trans (Fr.of_grown hG1) (fun _ hx _ => hx), ?_, by simp, fun _ h => by cases h⟩
    exact own_fr (Fr.of_grown hG1) HE.out (fun g hg e => by simp [Value.ownBlock] at hg; have := hcb0.1; omega)
  clear hA1 hG1 HA0 HE hn1
  go_wp2_with fail
  go_loopw [3, 4] (fun v n wr => ∃ (m : Nat) (l : List Int), n = .int .i64 m ∧ l.length + m ≤ 3 ∧ Hid (CnSt c a len cap W0 wr v l)) (fun _ n _ => (intOf n).toNat)
  case atStart =>
    obtain ⟨m, rfl⟩ := Int.eq_ofNat_of_zero_le hn0
    exact ⟨m, [], rfl, by simp; omega, HS1.out⟩
  case round =>
    obtain ⟨m, l, rfl, hlm, HS⟩ := hrel
    by_cases hm : 0 < m
    · have hm' : (0 : Int) < (m : Int) := by omega
      go_wp2_with fail
      refine (Cur.below c a len cap 4 _ hl (by omega) HS.out.at').mono ?_
      rintro e w2 ⟨x, rfl, hx0, hx1, hA2, hG2⟩
      have hx2 := hx1 (by omega)
      have hg3 : ∀ g, u3.ownBlock = some g → g ≠ c := fun g hg e => by have := (World.ownsRow.lt HS.out.own g hg).1; have := hcb0.1; omega
      have own2 : w2.ownsRow W0.heap.size 2 1 u3 l.length (l.map (Value.int .i64)) := own_fr (Fr.of_grown hG2) HS.out.own hg3
      have hW2 : W0.heap.size ≤ w2.heap.size := Nat.le_trans HS.out.fr.size hG2.size
      go_wp2_with (at_builtin; refine wpList_append_own _ rfl _ _ 51 rfl W0.heap.size 2 i0 (.int .i64 0) 1 8 Tryz.underlying51 hi hz0 hz1 hz2 rfl (by decide) u3 l.length (l.map (Value.int .i64)) (by first | rfl | simp [Act.eval]) (own2.alloc _) ⟨w2.heap.size, 0, none⟩ 1 1 [.int .i64 x] (by first | rfl | simp [Act.eval]) rfl (Sg.one_new w2 x _) (Sg.one_one x) ?c3 ?c4 ?c5 ?_)
      case c3 => unfold maxLen; omega
      case c4 => omega
      case c5 => simp; omega
      intro v' w3 hown' hgrow hnil
      have HS3 : Hid (CnSt c a len cap W0 w3 v' (l ++ [x])) := cn_step HS.out hcb0 hA2 hG2 ⟨hx0, by omega⟩ hown' hgrow hnil
      clear hown' hgrow hnil own2 hA2 hG2 HS
      go_wp2
      go_roundw
      case rel => exact ⟨m - 1, l ++ [x], by congr 1; omega, by simp; omega, HS3⟩
      case measure => simp [intOf]; omega
    · obtain rfl : m = 0 := by omega
      have hn00 : ¬ (0 : Int) < ((0 : Nat) : Int) := by omega
      go_wp2_with fail
      refine (Cur.below c a len cap 5 _ hl (by omega) HS.out.at').mono ?_
      rintro e w2 ⟨x, rfl, hx0, hx1, hA2, hG2⟩
      have hx2 := hx1 (by omega)
      obtain ⟨g, gc, hv, hWg, _⟩ := own_some HS.out.own HS.out.ne
      have hgc : g ≠ c := by have := hcb0.1; omega
      have hlt0 : w.heap.size < W0.heap.size := P0.out.2.lt
      have HS' := HS.out
      rw [hv] at HS'
      have own2 : Memb.Own W0.heap.size w2 (some ⟨g, 0, none⟩) gc l := own_fr (Fr.of_grown hG2) HS'.own (fun y hy e => by simp [Value.ownBlock] at hy; omega)
      have hrd2 := Lst.own_rd own2
      have hg2 := (World.ownsRow.lt own2 g rfl).2
      have hl6 : l.length ≤ 6 := by omega
      have hcoins := coins_of l HS'.inn hl6
      have HF2 : Hid (FrC c W0 w2) := HS'.fr.trans (Fr.of_grown hG2) (fun _ hx _ => hx)
      have HA2 : Hid (At c a len cap w2) := hA2
      clear hA2 hG2 HS HS' own2 hx1
      subst hv
      have hwr : IntKind.i64.wrap (x - 1) = x - 1 := by rw [IntKind.wrap_i64]; omega
      go_wp2_with fail
      refine (newRoom g gc l (x - 1) w2 hcoins hl6 hg2 hrd2 (by omega) (by omega)).mono ?_
      rintro e w3 ⟨R, rfl, hR, hbad, hb3⟩
      have HQ3 : Hid (Q4 w3 w.heap.size (.slice none 0 0) (.slice none 0 0) (.slice none 0 0) (.int .i64 0)) := q4_below (q4_fr P0.out.2 HF2.out (by have := hcb.1; omega)) hb3
      obtain ⟨co, cc, lc, hcv, _⟩ := hR.coins
      have HV : Hid (roV R = .agg #[.slice none 0 0, .slice co lc.length cc, .slice (some ⟨R.gh, 0, none⟩) 4 R.hc, .int .i64 R.bad]) := by show _ = _; unfold roV; rw [hR.lv, hcv]
      clear hbad
      have HN4 : Hid (Q4 (w3.alloc (.cells #[.slice none 0 0, .slice co lc.length cc, .slice (some ⟨R.gh, 0, none⟩) 4 R.hc, .int .i64 R.bad] 107)) w3.heap.size (.slice none 0 0) (.slice co lc.length cc) (.slice (some ⟨R.gh, 0, none⟩) 4 R.hc) (.int .i64 R.bad) ∧ Below w3.heap.size w3 (w3.alloc (.cells #[.slice none 0 0, .slice co lc.length cc, .slice (some ⟨R.gh, 0, none⟩) 4 R.hc, .int .i64 R.bad] 107))) := ⟨q4_new _ _ _ _ _ _, (Below.refl _ _).alloc (Nat.le_refl _) _⟩
      rw [HV.out]
      go_upto_region 7 with fail
      generalize w3.alloc (.cells #[.slice none 0 0, .slice co lc.length cc, .slice (some ⟨R.gh, 0, none⟩) 4 R.hc, .int .i64 R.bad] 107) = W4 at HN4 ⊢
      have HBF : Hid (NewR w.heap.size (qset W4 w.heap.size (.slice none 0 0) (.slice co lc.length cc) (.slice (some ⟨R.gh, 0, none⟩) 4 R.hc) (.int .i64 R.bad)) R ∧ At c a len cap (qset W4 w.heap.size (.slice none 0 0) (.slice co lc.length cc) (.slice (some ⟨R.gh, 0, none⟩) 4 R.hc) (.int .i64 R.bad)) ∧ FrC c w (qset W4 w.heap.size (.slice none 0 0) (.slice co lc.length cc) (.slice (some ⟨R.gh, 0, none⟩) 4 R.hc) (.int .i64 R.bad))) := by
        have hw2 : w.heap.size < w2.heap.size := Nat.lt_of_lt_of_le hlt0 HF2.out.size
        have hq := qset_fr W4 w.heap.size (.slice none 0 0) (.slice co lc.length cc) (.slice (some ⟨R.gh, 0, none⟩) 4 R.hc) (.int .i64 R.bad)
        have hf34 : Fr (fun x => x = w.heap.size) w3 _ := (Fr.of_below HN4.out.2 _).trans hq (fun _ hx _ => hx)
        have hf24 : Fr (fun x => x = w.heap.size) w2 _ := (Fr.of_below hb3 _).trans hf34 (fun _ hx _ => hx)
        have hW0w : FrC c w W0 := Fr.of_below P0.out.1 _
        refine ⟨newR_base (newR_fr hR hf34 (fun e => by have := hR.parts.gB; omega) (fun g hg e => by have := hR.cB g hg; omega)) (Nat.le_of_lt hw2), ?_, ?_⟩
        · exact at_belowB HA2.out hcb (hf24.toBelow (Nat.le_of_lt hw2) (fun x hx => by omega))
        · exact (hW0w.trans HF2.out (fun _ hx _ => hx)).trans hf24 (fun x hx hl => by omega)
      have hQ4 := q4_below HQ3.out HN4.out.2
      have HQP : Hid _ := q4_put hQ4 (.slice none 0 0) (.slice co lc.length cc) (.slice (some ⟨R.gh, 0, none⟩) 4 R.hc) (.int .i64 R.bad)
      obtain ⟨_, r0, r1, r2, r3, f0, f1, f2, f3⟩ := hQ4
      obtain ⟨_, s0, s1, s2, s3, _, _, _, _⟩ := HN4.out.1
      clear hR hcv hb3 hrd2 hcoins
      go_wp2
      obtain ⟨_, y0, y1, y2, y3, _, _, _, _⟩ := HQP.out
      unfold qset at y0 y1 y2 y3
      exact bodyPost_ret (v := .agg #[.slice none 0 0, .slice co lc.length cc, .slice (some ⟨R.gh, 0, none⟩) 4 R.hc, .int .i64 R.bad]) (by simp [results, Tryz.results112, go_sem, y0, y1, y2, y3]) rfl ⟨R, by rw [HV.out], HBF.out⟩

end Rm
end Go.Proofs.YtfjmenhofllchaaGreatDoor
