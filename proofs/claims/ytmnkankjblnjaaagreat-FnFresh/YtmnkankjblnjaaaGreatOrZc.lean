/-
  What the program's own Ordered, FreshOf and Respects answer, in the words of TaleS and RespS; for lists of knots whose words have at most 2^40 bytes.
  What the program lays out hand by hand: those of a set that each hand tied; for laces of at most 60 knots, their hands 0 to 3.
  What the program's own Doubled and DoublesOf answer, in the words of DoubM; for lists of knots whose words have at most 2^40 bytes.
  What the program's only and askSetAndKnot answer, whatever function they are handed: in plain words.
  What the program's own Nods and Nodders answer, in the words of NodM; for lists of knots whose words have at most 2^40 bytes.
  What the program's compare answers: by rounds, then by hands, then by numbers.
  Plain mathematics: what is put in order by rounds, then by hands, then by numbers is the model's order. No program in it.
  What the program's compare answers of two knots of a lace.
  What the program's picked, its generic row's sorted and a lace's ordered answer: the members in order.
  What the program's own Ordered, FreshOf and Respects answer, in the words of TaleS and RespS; for lists of knots whose words have at most 2^40 bytes.
  What the program's own Ordered, FreshOf and Respects answer, in the words of TaleS and RespS; for lists of knots whose words have at most 2^40 bytes.
-/
import Derived.Test.YtmnkankjblnjaaaGreatLaceB
import Derived.Test.YtmnkankjblnjaaaGreatDoubS
import Derived.Test.YtmnkankjblnjaaaGreatOrZa
import Derived.Test.YtmnkankjblnjaaaGreatFam
import Derived.ChangeKeysEq
import Derived.Test.YtmnkankjblnjaaaGreatZS
import Derived.Test.YtmnkankjblnjaaaGreatLaceR
import Derived.Test.YtmnkankjblnjaaaGreatLaceM
import Derived.Deep.RegionHeld3
import Derived.Test.YtmnkankjblnjaaaGreatRoomC
import Derived.Test.YtmnkankjblnjaaaGreatOrZb
namespace Go.Proofs.YtmnkankjblnjaaaGreat
open Go.RowKit
set_option maxRecDepth 100000
namespace Nd
open Kn (K okK)
open Bit (bit withB)
open Lc (at' RdK amongI HandsOk)
open Db (RowI)

/-- those of a set, of the first n, that a hand tied -/
def hf (L : List K) (s h : Int) (n : Nat) : Int := amongI (fun k => decide (k.hand = h)) L s n

theorem hf_step (L : List K) (s h : Int) (n : Nat) : hf L s h (n + 1) = if bit s n && decide ((at' L n).hand = h) then withB (hf L s h n) n else hf L s h n := rfl
theorem hf_bd (L : List K) (s h : Int) (n : Nat) (hn : n ≤ 60) : 0 ≤ hf L s h n ∧ hf L s h n < 1152921504606846976 := Lc.among_bd _ L s n hn
theorem hf_miss (L : List K) (s : Int) (n : Nat) (hb : bit s n = false) : (fun h : Nat => hf L s h (n + 1)) = fun h : Nat => hf L s h n := by
  funext h; rw [hf_step, hb]; simp
theorem hf_hit (L : List K) (s : Int) (n m : Nat) (hb : bit s n = true) (hm : (at' L n).hand = (m : Int)) : (fun h : Nat => if h = m then withB (hf L s m n) n else hf L s h n) = fun h : Nat => hf L s h (n + 1) := by
  funext h; rw [hf_step, hb, hm]
  by_cases e : h = m
  · subst e; simp
  · have : ¬ ((m : Int) = (h : Int)) := by omega
    rw [if_neg e, decide_eq_false this]; simp

theorem rowI_alloc {w : World} {g n : Nat} {D : Nat → Int} (h : RowI w g n D) (o : Obj) : RowI (w.alloc o) g n D where
  lt := by have := h.lt; simp; omega
  rd := fun i hi => by rw [World.cell?_alloc_lt _ _ _ h.lt]; exact h.rd i hi
  fr := fun i hi => by rw [World.frozen?_alloc_past _ _ _ h.lt]; exact h.fr i hi
theorem rowI_other {w : World} {g n : Nat} {D : Nat → Int} (h : RowI w g n D) (c i : Nat) (hc : g ≠ c) (v : Value) : RowI (w.setCell ⟨c, i, none⟩ v) g n D where
  lt := by simpa using h.lt
  rd := fun j hj => (World.cell?_of_block (w := w) (Below.heap_setCell w ⟨c, i, none⟩ v g hc)).trans (h.rd j hj)
  fr := fun j hj => by rw [World.frozen?_setCell]; exact h.fr j hj

theorem rowI_four (w : World) (t : TypeId) : RowI (w.alloc (.cells #[.int .i64 0, .int .i64 0, .int .i64 0, .int .i64 0] t)) w.heap.size 4 (fun _ => 0) where
  lt := by simp
  rd := fun i hi => by
    match i, hi with
    | 0, _ => simp
    | 1, _ => simp
    | 2, _ => simp
    | 3, _ => simp
  fr := fun i hi => by
    match i, hi with
    | 0, _ => simp
    | 1, _ => simp
    | 2, _ => simp
    | 3, _ => simp

set_option maxHeartbeats 1600000 in
theorem handfulsOf (g off cap : Nat) (L : List K) (s : Int) (w : World) (hL : L.length ≤ 60) (hs : Base.okB s = true) (hh : HandsOk L) (hr : RdK w (some ⟨g, off, none⟩) L) :
    Calls Tryz.prog 104 #[.slice (some ⟨g, off, none⟩) L.length cap, .int .i64 s] w fun e w' =>
      e = .returned (.agg #[.int .i64 (hf L s 0 L.length), .int .i64 (hf L s 1 L.length), .int .i64 (hf L s 2 L.length), .int .i64 (hf L s 3 L.length)]) ∧ Below w.heap.size w w' := by
  have HO : Hid (Base.okB s = true) := hs
  have P0 : Hid (RowI ((w.alloc (.cells #[.int .i64 0, .int .i64 0, .int .i64 0, .int .i64 0] 120)).alloc (.cells #[.int .i64 0, .int .i64 0, .int .i64 0, .int .i64 0] 120)) w.heap.size 4 (fun _ => 0) ∧
      RowI ((w.alloc (.cells #[.int .i64 0, .int .i64 0, .int .i64 0, .int .i64 0] 120)).alloc (.cells #[.int .i64 0, .int .i64 0, .int .i64 0, .int .i64 0] 120)) (w.heap.size + 1) 4 (fun _ => 0) ∧
      Below w.heap.size w ((w.alloc (.cells #[.int .i64 0, .int .i64 0, .int .i64 0, .int .i64 0] 120)).alloc (.cells #[.int .i64 0, .int .i64 0, .int .i64 0, .int .i64 0] 120))) :=
    ⟨rowI_alloc (rowI_four w _) _, by have := rowI_four (w.alloc (.cells #[.int .i64 0, .int .i64 0, .int .i64 0, .int .i64 0] 120)) 120; simpa using this, ((Below.refl _ w).alloc (Nat.le_refl _) _).alloc (by simp) _⟩
  clear hs
  go_enter Tryz.func104, Tryz.ntmps104
  go_wp2
  go_loopw [10] (fun i wr => ∃ j : Nat, j ≤ L.length ∧ i = .int .i64 j ∧ Hid (RowI wr w.heap.size 4 (fun _ => 0)) ∧ Hid (RowI wr (w.heap.size + 1) 4 (fun h => hf L s h j)) ∧ Hid (Below w.heap.size w wr)) (fun i _ => L.length - (intOf i).toNat)
  case atStart => exact ⟨0, by omega, rfl, P0.out.1, P0.out.2.1, P0.out.2.2⟩
  case round =>
    obtain ⟨j, hj, rfl, HR, HF, HB⟩ := hrel
    clear P0
    by_cases hlt : j < L.length
    · obtain ⟨hg, hc⟩ := hr.on j hlt
      obtain ⟨c0, c1, c2, c3⟩ := hc.below HB.out hg
      have hin : Base.inB (j : Int) = true := (Base.inB_iff _).2 ⟨by omega, by omega⟩
      have hk := hh _ (Lc.at_mem L j hlt)
      cases hb : bit s j
      · have HH : Hid ((Base.okB s && (Base.inB (j : Int) && bit s j)) = false) := by show _ = _; simp [hb]
        have HD : Hid ((fun h : Nat => hf L s h (j + 1)) = fun h : Nat => hf L s h j) := hf_miss L s j hb
        clear hb hin hk
        go_wp2_with (go_at_call 44; refine (Base.has _ _ _).mono ?_; rintro e w' ⟨rfl, rfl⟩; rw [Int.toNat_natCast, HH.out])
        go_roundw
        case rel => exact ⟨j + 1, by omega, by go_num, rowI_alloc HR.out _, by show RowI _ _ _ _; rw [HD.out]; exact rowI_alloc HF.out _, HB.out.alloc HB.out.size _⟩
        case measure => simp [intOf]; omega
      · have HH : Hid ((Base.okB s && (Base.inB (j : Int) && bit s j)) = true) := by show _ = _; simp [hb, hin, HO.out]
        obtain ⟨m, hm⟩ := Int.eq_ofNat_of_zero_le hk.1
        have hm4 : m < 4 := by omega
        have HD : Hid ((fun h : Nat => if h = m then withB (hf L s m j) j else hf L s h j) = fun h : Nat => hf L s h (j + 1)) := hf_hit L s j m hb hm
        have hbd := hf_bd L s m j (by omega)
        have HW : Hid (Base.withI (hf L s m j) (j : Int) = withB (hf L s m j) j) := by
          show _ = _
          unfold Base.withI
          rw [(Base.okB_iff _).2 hbd, hin]; simp
        have HR1 : Hid (RowI (wr.alloc (.cells #[.int .i64 m, .int .i64 (at' L j).round, .int .i64 (at' L j).frm, .string (at' L j).word] 70)) w.heap.size 4 (fun _ => 0)) := rowI_alloc HR.out _
        have HF1 : Hid (RowI (wr.alloc (.cells #[.int .i64 m, .int .i64 (at' L j).round, .int .i64 (at' L j).frm, .string (at' L j).word] 70)) (w.heap.size + 1) 4 (fun h => hf L s h j)) := rowI_alloc HF.out _
        have HB1 : Hid (Below w.heap.size w (wr.alloc (.cells #[.int .i64 m, .int .i64 (at' L j).round, .int .i64 (at' L j).frm, .string (at' L j).word] 70))) := HB.out.alloc HB.out.size _
        have HK1 : Hid ((wr.alloc (.cells #[.int .i64 m, .int .i64 (at' L j).round, .int .i64 (at' L j).frm, .string (at' L j).word] 70)).cell? ⟨wr.heap.size, 0, none⟩ = some (.int .i64 m)) := by show _ = _; simp
        rw [hm] at c0
        clear hb hin hk hbd hm HR HF
        go_wp2_with (first | (go_at_call 44; refine (Base.has _ _ _).mono ?_; rintro e w' ⟨rfl, rfl⟩; rw [Int.toNat_natCast, HH.out]) | fail)
        clear HH c0 c1 c2 c3 hc
        generalize wr.alloc (.cells #[.int .i64 m, .int .i64 (at' L j).round, .int .i64 (at' L j).frm, .string (at' L j).word] 70) = V at HR1 HF1 HB1 HK1 ⊢
        generalize wr.heap.size = kb at HK1 ⊢
        have d0 := HK1.out
        have e1 := HF1.out.rd m hm4
        have f1 := HF1.out.fr m hm4
        have hmi : (m : Int) < 4 := by omega
        have HR2 : Hid (RowI (V.setCell ⟨w.heap.size + 1, m, none⟩ (.int .i64 (withB (hf L s m j) j))) w.heap.size 4 (fun _ => 0)) := rowI_other HR1.out _ _ (by omega) _
        have HF2 : Hid (RowI (V.setCell ⟨w.heap.size + 1, m, none⟩ (.int .i64 (withB (hf L s m j) j))) (w.heap.size + 1) 4 (fun h => hf L s h (j + 1))) := by
          show RowI _ _ _ _
          rw [← HD.out]; exact HF1.out.put m hm4 _
        have HB2 : Hid (Below w.heap.size w (V.setCell ⟨w.heap.size + 1, m, none⟩ (.int .i64 (withB (hf L s m j) j)))) := HB1.out.setCell (p := ⟨w.heap.size + 1, m, none⟩) (by simp) _
        clear HR1 HF1 HB1 HK1 HD
        generalize hf L s m j = x at e1 HW HR2 HF2 HB2
        go_region_with (go_at_call 82; refine (Base.withM _ _ _).mono ?_; rintro e w' ⟨rfl, rfl⟩; rw [HW.out])
        all_goals
          go_wp2
          go_roundw
          case rel => exact ⟨j + 1, by omega, by go_num, HR2.out.drew, HF2.out.drew, HB2.out.drew⟩
          case measure => simp [intOf]; omega
    · obtain rfl : j = L.length := by omega
      have r0 := HR.out.rd 0 (by omega)
      have r1 := HR.out.rd 1 (by omega)
      have r2 := HR.out.rd 2 (by omega)
      have r3 := HR.out.rd 3 (by omega)
      have q0 := HR.out.fr 0 (by omega)
      have q1 := HR.out.fr 1 (by omega)
      have q2 := HR.out.fr 2 (by omega)
      have q3 := HR.out.fr 3 (by omega)
      have f0 := HF.out.rd 0 (by omega)
      have f1 := HF.out.rd 1 (by omega)
      have f2 := HF.out.rd 2 (by omega)
      have f3 := HF.out.rd 3 (by omega)
      have HP4 : Hid (∀ x0 x1 x2 x3 : Int, ∃ W4, W4 = ((((wr.setCell ⟨w.heap.size, 0, none⟩ (.int .i64 x0)).setCell ⟨w.heap.size, 1, none⟩ (.int .i64 x1)).setCell ⟨w.heap.size, 2, none⟩ (.int .i64 x2)).setCell ⟨w.heap.size, 3, none⟩ (.int .i64 x3)) ∧
          W4.cell? ⟨w.heap.size, 0, none⟩ = some (.int .i64 x0) ∧ W4.cell? ⟨w.heap.size, 1, none⟩ = some (.int .i64 x1) ∧ W4.cell? ⟨w.heap.size, 2, none⟩ = some (.int .i64 x2) ∧ W4.cell? ⟨w.heap.size, 3, none⟩ = some (.int .i64 x3) ∧ Below w.heap.size w W4) := fun x0 x1 x2 x3 => by
        have h1 := (((HR.out.put 0 (by omega) x0).put 1 (by omega) x1).put 2 (by omega) x2).put 3 (by omega) x3
        refine ⟨_, rfl, h1.rd 0 (by omega), h1.rd 1 (by omega), h1.rd 2 (by omega), h1.rd 3 (by omega), ?_⟩
        exact (((HB.out.setCell (p := ⟨w.heap.size, 0, none⟩) (Nat.le_refl _) _).setCell (p := ⟨w.heap.size, 1, none⟩) (Nat.le_refl _) _).setCell (p := ⟨w.heap.size, 2, none⟩) (Nat.le_refl _) _).setCell (p := ⟨w.heap.size, 3, none⟩) (Nat.le_refl _) _
      go_wp2
      obtain ⟨W4, hW4, k0, k1, k2, k3, hB4⟩ := HP4.out (hf L s 0 L.length) (hf L s 1 L.length) (hf L s 2 L.length) (hf L s 3 L.length)
      rw [← hW4]
      refine bodyPost_ret (v := .agg #[.int .i64 (hf L s 0 L.length), .int .i64 (hf L s 1 L.length), .int .i64 (hf L s 2 L.length), .int .i64 (hf L s 3 L.length)]) (by simp [results, Tryz.f104, go_sem, k0, k1, k2, k3]) rfl ?_
      exact ⟨rfl, hB4⟩

end Nd
end Go.Proofs.YtmnkankjblnjaaaGreat

namespace Go.Proofs.YtmnkankjblnjaaaGreat
open Go.RowKit
set_option maxRecDepth 100000
namespace Db
open Kn (K okK)
open Bit (bit withB)
open Lc (at' RdK WordsOk laceB setB)
open Sg (isB bel belows seesB)

theorem eqSight (x y : Bool) (W : World) : (binOp .eql 159 (.agg #[.bool x, .bool y]) (.agg #[.bool false, .bool false])).run Tryz.prog W = .ok (.bool (!x && !y)) W := by
  cases x <;> cases y <;> kernel_rfl

theorem twoNew (W : World) (t : TypeId) : ((W.alloc (.cells #[.bool false, .bool false] t)).cell? ⟨W.heap.size, 0, none⟩ = some (.bool false) ∧ (W.alloc (.cells #[.bool false, .bool false] t)).cell? ⟨W.heap.size, 1, none⟩ = some (.bool false)) ∧
    (W.alloc (.cells #[.bool false, .bool false] t)).frozen? ⟨W.heap.size, 0, none⟩ = false ∧ (W.alloc (.cells #[.bool false, .bool false] t)).frozen? ⟨W.heap.size, 1, none⟩ = false := ⟨⟨by simp, by simp⟩, by simp, by simp⟩

set_option maxHeartbeats 800000 in
theorem between (g off cap : Nat) (L : List K) (a b : Int) (w : World) (hlc : laceB L = true) (hg : g < w.heap.size) (hr : RdK w (some ⟨g, off, none⟩) L) :
    Calls Tryz.prog 138 #[.slice (some ⟨g, off, none⟩) L.length cap, .int .i64 a, .int .i64 b] w fun e w' => e = .returned (.agg #[.bool (seesB L a b), .bool (seesB L b a)]) ∧ Below w.heap.size w w' := by
  have hB0 : Below w.heap.size w (w.alloc (.cells #[.bool false, .bool false] 159)) := (Below.refl _ w).alloc (Nat.le_refl _) _
  have hg0 : g < (w.alloc (.cells #[.bool false, .bool false] 159)).heap.size := by simp; omega
  have hr0 := hr.below hB0
  obtain ⟨⟨c0, c1⟩, f0, f1⟩ := twoNew w 159
  have hs0 : w.heap.size < (w.alloc (.cells #[.bool false, .bool false] 159)).heap.size := by simp
  go_enter Tryz.func138, Tryz.ntmps138
  go_wp2_with fail
  generalize w.alloc (.cells #[.bool false, .bool false] 159) = W0 at hB0 hg0 hr0 c0 c1 f0 f1 hs0 ⊢
  refine (Sg.sees g off cap L a b _ hlc hg0 hr0).mono ?_
  rintro e w1 ⟨rfl, hb1⟩
  have hr1 := hr0.below hb1
  have hg1 : g < w1.heap.size := Nat.lt_of_lt_of_le hg0 hb1.size
  go_wp2_with fail
  refine (Sg.sees g off cap L b a _ hlc hg1 hr1).mono ?_
  rintro e w2 ⟨rfl, hb2⟩
  have hb : Below W0.heap.size W0 w2 := hb1.trans (hb2.mono hb1.size)
  have d0 := (hb.cell (p := ⟨w.heap.size, 0, none⟩) hs0).trans c0
  have d1 := (hb.cell (p := ⟨w.heap.size, 1, none⟩) hs0).trans c1
  have e0 := (hb.frozen (p := ⟨w.heap.size, 0, none⟩) hs0).trans f0
  have e1 := (hb.frozen (p := ⟨w.heap.size, 1, none⟩) hs0).trans f1
  have HB : Hid (Below w.heap.size w w2) := hB0.trans (hb.mono (Nat.le_of_lt hs0))
  clear hB0 hg0 hr0 c0 c1 f0 f1 hb1 hr1 hg1 hb2 hb
  generalize hx : seesB L a b = x
  generalize hy : seesB L b a = y
  have HX : Hid (seesB L a b = x ∧ seesB L b a = y) := ⟨hx, hy⟩
  clear hx hy
  go_wp2
  have k0 : ((w2.setCell ⟨w.heap.size, 0, none⟩ (.bool x)).setCell ⟨w.heap.size, 1, none⟩ (.bool y)).cell? ⟨w.heap.size, 0, none⟩ = some (.bool x) :=
    (World.cell?_setCell_other _ _ _ _ (by intro q; injection q with _ q; omega)).trans (World.cell?_setCell_same' _ _ _ (by rw [d0]; rfl))
  have k1 : ((w2.setCell ⟨w.heap.size, 0, none⟩ (.bool x)).setCell ⟨w.heap.size, 1, none⟩ (.bool y)).cell? ⟨w.heap.size, 1, none⟩ = some (.bool y) :=
    World.cell?_setCell_same' _ _ _ (by rw [World.cell?_setCell_other _ _ _ _ (by intro q; injection q with _ q; omega), d1]; rfl)
  refine bodyPost_ret (v := .agg #[.bool x, .bool y]) (by simp [results, Tryz.f138, go_sem, k0, k1]) rfl ?_
  exact ⟨by rw [HX.out.1, HX.out.2], (HB.out.setCell (p := ⟨w.heap.size, 0, none⟩) (Nat.le_refl _) _).setCell (p := ⟨w.heap.size, 1, none⟩) (Nat.le_refl _) _⟩

/-- what the program's doubled asks -/
theorem dbl_sees {L : List K} {a b : Int} (ha : isB L a = true) (hb : isB L b = true) : doubledB L a b = (decide ((at' L a.toNat).hand = (at' L b.toNat).hand) && (!seesB L a b && !seesB L b a)) := by
  unfold doubledB dblN seesB
  rw [ha, hb]; simp

theorem isB_lace {L : List K} (hl : laceB L = true) (k : Int) : isB L k = (decide (0 ≤ k) && decide (k < (L.length : Int))) := by unfold isB; rw [hl]; simp

set_option maxHeartbeats 3200000 in
theorem doubled (g off cap : Nat) (L : List K) (a b : Int) (w : World) (hlc : laceB L = true) (hg : g < w.heap.size) (hr : RdK w (some ⟨g, off, none⟩) L) :
    Calls Tryz.prog 125 #[.slice (some ⟨g, off, none⟩) L.length cap, .int .i64 a, .int .i64 b] w fun e w' => e = .returned (.bool (doubledB L a b)) ∧ Below w.heap.size w w' := by
  have h60 := ((Lc.lace_iff L).1 hlc).1
  have HA : Hid ((Base.okB (2 ^ L.length - 1) && (Base.inB a && bit (2 ^ L.length - 1) a.toNat)) = isB L a) := by show _ = _; rw [isB_lace hlc]; exact Sg.all_has h60 a
  have HC : Hid ((Base.okB (2 ^ L.length - 1) && (Base.inB b && bit (2 ^ L.length - 1) b.toNat)) = isB L b) := by show _ = _; rw [isB_lace hlc]; exact Sg.all_has h60 b
  cases ha : isB L a
  · have HT : Hid (doubledB L a b = false) := by show _ = _; unfold doubledB; rw [ha]; rfl
    have HAF : Hid ((Base.okB (2 ^ L.length - 1) && (Base.inB a && bit (2 ^ L.length - 1) a.toNat)) = false) := HA.out.trans ha
    clear ha HA HC
    go_enter Tryz.func125, Tryz.ntmps125
    go_wp2_with (first | (go_at_call 43; refine (Lc.all _ _ _ _ h60).mono ?_; rintro e w' ⟨rfl, rfl⟩) | (go_at_call 44; refine (Base.has _ _ _).mono ?_; rintro e w' ⟨rfl, rfl⟩; rw [HAF.out]))
    go_quiet (fail)
    go_wp2
    go_ret
    exact ⟨by rw [HT.out]; rfl, Sg.below_drewN (Below.refl _ _) _⟩
  · have HAT : Hid ((Base.okB (2 ^ L.length - 1) && (Base.inB a && bit (2 ^ L.length - 1) a.toNat)) = true) := HA.out.trans ha
    cases hb : isB L b
    · have HT : Hid (doubledB L a b = false) := by show _ = _; unfold doubledB; rw [hb]; simp
      have HCF : Hid ((Base.okB (2 ^ L.length - 1) && (Base.inB b && bit (2 ^ L.length - 1) b.toNat)) = false) := HC.out.trans hb
      clear ha hb HA HC
      go_enter Tryz.func125, Tryz.ntmps125
      go_wp2_with (first | (go_at_call 43; refine (Lc.all _ _ _ _ h60).mono ?_; rintro e w' ⟨rfl, rfl⟩) | (go_at_call 44; refine (Base.has _ _ _).mono ?_; rintro e w' ⟨rfl, rfl⟩; first | rw [HAT.out] | rw [HCF.out]))
      go_quiet (fail)
      go_wp2
      go_ret
      exact ⟨by rw [HT.out]; rfl, Sg.below_drewN (Below.refl _ _) _⟩
    · have HCT : Hid ((Base.okB (2 ^ L.length - 1) && (Base.inB b && bit (2 ^ L.length - 1) b.toNat)) = true) := HC.out.trans hb
      have HT0 : Hid (doubledB L a b = (decide ((at' L a.toNat).hand = (at' L b.toNat).hand) && (!seesB L a b && !seesB L b a))) := dbl_sees ha hb
      obtain ⟨p0, p1, _⟩ := Sg.isB_parts ha
      obtain ⟨q0, q1, _⟩ := Sg.isB_parts hb
      clear ha hb HA HC
      obtain ⟨p, rfl⟩ := Int.eq_ofNat_of_zero_le p0
      obtain ⟨q, rfl⟩ := Int.eq_ofNat_of_zero_le q0
      have hp : p < L.length := by omega
      have hq : q < L.length := by omega
      rw [Int.toNat_natCast, Int.toNat_natCast] at HT0
      rw [Int.toNat_natCast] at HAT HCT
      obtain ⟨_, a0, _, _, _⟩ := hr.on p hp
      obtain ⟨_, b0, _, _, _⟩ := hr.on q hq
      by_cases hh : (at' L p).hand = (at' L q).hand
      · have hh1 : ((at' L p).hand == (at' L q).hand) = true := by simpa using hh
        have HT1 : Hid (doubledB L (p : Int) (q : Int) = (!seesB L (p : Int) (q : Int) && !seesB L (q : Int) (p : Int))) := by show _ = _; rw [HT0.out]; simp [hh]
        have HBW : Hid (∀ W : World, g < W.heap.size → RdK W (some ⟨g, off, none⟩) L → Calls Tryz.prog 138 #[.slice (some ⟨g, off, none⟩) L.length cap, .int .i64 (p : Int), .int .i64 (q : Int)] W fun e w' => e = .returned (.agg #[.bool (seesB L (p : Int) (q : Int)), .bool (seesB L (q : Int) (p : Int))]) ∧ Below W.heap.size W w') := fun W h1 h2 => between g off cap L p q W hlc h1 h2
        have heq := eqSight (seesB L (p : Int) (q : Int)) (seesB L (q : Int) (p : Int))
        generalize seesB L (p : Int) (q : Int) = x at HT1 HBW heq
        generalize seesB L (q : Int) (p : Int) = y at HT1 HBW heq
        clear hh HT0
        have HR : Hid (RdK w (some ⟨g, off, none⟩) L) := hr
        clear hr
        go_enter Tryz.func125, Tryz.ntmps125
        go_wp2_with (first | (go_at_call 43; refine (Lc.all _ _ _ _ h60).mono ?_; rintro e w' ⟨rfl, rfl⟩) | (go_at_call 44; refine (Base.has _ _ _).mono ?_; rintro e w' ⟨rfl, rfl⟩; rw [Int.toNat_natCast]; first | rw [HAT.out] | rw [HCT.out]))
        obtain ⟨X, _, F, HF, HG⟩ := Fam.fam w
        have hc1 : ∀ z, (F z).cell? ⟨g, off + p * 4, none⟩ = some (.int .i64 (at' L p).hand) := fun z => ((HF.out z).cell (p := ⟨g, off + p * 4, none⟩) hg).trans a0
        have hc2 : ∀ z, (F z).cell? ⟨g, off + q * 4, none⟩ = some (.int .i64 (at' L q).hand) := fun z => ((HF.out z).cell (p := ⟨g, off + q * 4, none⟩) hg).trans b0
        clear a0 b0
        refine Fam.region (F := F) (by kernel_rfl) (by kernel_rfl) (HG.out _ (Below.refl _ w).drew) ?_
        repeat (go_big_quiet_step (first
          | (go_at_call 138; exact (HBW.out _ (Nat.lt_of_lt_of_le hg (HF.out _).size) (HR.out.below (HF.out _))).mono fun _ _ h => ⟨h.1, HG.out _ ((HF.out _).trans (h.2.mono (HF.out _).size))⟩)))
        refine wpQuiet_nil ?_
        intro w2 hw2
        obtain ⟨z, rfl⟩ := hw2
        have HB2 : Hid (Below w.heap.size w (F z)) := HF.out z
        go_wp2
        go_ret
        exact ⟨by rw [HT1.out]; rfl, HB2.out⟩
      · have hh1 : ((at' L p).hand == (at' L q).hand) = false := by simpa using hh
        have HT1 : Hid (doubledB L (p : Int) (q : Int) = false) := by show _ = _; rw [HT0.out]; simp [hh]
        clear hh HT0
        go_enter Tryz.func125, Tryz.ntmps125
        go_wp2_with (first | (go_at_call 43; refine (Lc.all _ _ _ _ h60).mono ?_; rintro e w' ⟨rfl, rfl⟩) | (go_at_call 44; refine (Base.has _ _ _).mono ?_; rintro e w' ⟨rfl, rfl⟩; rw [Int.toNat_natCast]; first | rw [HAT.out] | rw [HCT.out]))
        go_quiet (fail)
        go_wp2
        go_ret
        exact ⟨by rw [HT1.out]; rfl, Sg.below_drewN (Below.refl _ _) _⟩

/-- those found so far -/
theorem dbl_step {L : List K} {a : Int} (ha : isB L a = true) (n : Nat) (hn : n < L.length) (hl : laceB L = true) : dblS L a.toNat (n + 1) = if doubledB L a (n : Int) then withB (dblS L a.toNat n) n else dblS L a.toNat n := by
  have hb : isB L (n : Int) = true := by rw [isB_lace hl]; simp; omega
  unfold doubledB
  rw [ha, hb, Bool.true_and, Bool.true_and, Int.toNat_natCast]; rfl

set_option maxHeartbeats 1600000 in
theorem doubles (g off cap : Nat) (L : List K) (a : Int) (w : World) (hlc : laceB L = true) (ha : isB L a = true) (hg : g < w.heap.size) (hr : RdK w (some ⟨g, off, none⟩) L) :
    Calls Tryz.prog 103 #[.slice (some ⟨g, off, none⟩) L.length cap, .int .i64 a] w fun e w' => e = .returned (.int .i64 (dblS L a.toNat L.length)) ∧ Below w.heap.size w w' := by
  have h60 := ((Lc.lace_iff L).1 hlc).1
  go_enter Tryz.func103, Tryz.ntmps103
  go_wp2
  go_loopw [5, 9] (fun o i wr => ∃ j : Nat, j ≤ L.length ∧ i = .int .i64 j ∧ o = .int .i64 (dblS L a.toNat j) ∧ Hid (Below w.heap.size w wr)) (fun _ i _ => L.length - (intOf i).toNat)
  case atStart => exact ⟨0, by omega, rfl, rfl, Below.refl _ _⟩
  case round =>
    obtain ⟨j, hj, rfl, rfl, HB⟩ := hrel
    by_cases hlt : j < L.length
    · have HS : Hid (dblS L a.toNat (j + 1) = if doubledB L a (j : Int) then withB (dblS L a.toNat j) j else dblS L a.toNat j) := dbl_step ha j hlt hlc
      have hbd := dblS_bd L a.toNat j (by omega)
      have HW : Hid (Base.withI (dblS L a.toNat j) (j : Int) = withB (dblS L a.toNat j) j) := by
        show _ = _
        unfold Base.withI
        rw [(Base.okB_iff _).2 hbd, (Base.inB_iff _).2 ⟨by omega, by omega⟩]; simp
      have hg1 : g < wr.heap.size := Nat.lt_of_lt_of_le hg HB.out.size
      have hcall := doubled g off cap L a (j : Int) wr hlc hg1 (hr.below HB.out)
      clear hbd
      generalize dblS L a.toNat j = x at HS HW ⊢
      go_wp2_with fail
      refine hcall.mono ?_
      rintro e w1 ⟨rfl, hb1⟩
      have HB1 : Hid (Below w.heap.size w w1) := HB.out.trans (hb1.mono HB.out.size)
      clear hcall hb1 HB hg1
      cases hd : doubledB L a (j : Int)
      · have HD : Hid (dblS L a.toNat (j + 1) = x) := by show _ = _; rw [HS.out, hd]; rfl
        clear hd HS HW
        go_wp2
        go_roundw
        case rel => exact ⟨j + 1, by omega, by go_num, by rw [HD.out], HB1⟩
        case measure => simp [intOf]; omega
      · have HD : Hid (dblS L a.toNat (j + 1) = withB x j) := by show _ = _; rw [HS.out, hd]; rfl
        clear hd HS
        go_wp2_with (go_at_call 82; refine (Base.withM _ _ _).mono ?_; rintro e w' ⟨rfl, rfl⟩; rw [HW.out])
        go_roundw
        case rel => exact ⟨j + 1, by omega, by go_num, by rw [HD.out], HB1⟩
        case measure => simp [intOf]; omega
    · obtain rfl : j = L.length := by omega
      go_wp2
      go_ret
      exact ⟨rfl, HB.out⟩

end Db
end Go.Proofs.YtmnkankjblnjaaaGreat

namespace Go.Proofs.YtmnkankjblnjaaaGreat
open Go.RowKit
set_option maxRecDepth 100000
namespace Ak
open Kn (K okK)
open Bit (bit withB memTo)
open Lc (at' RdK WordsOk laceB setB)
open Sg (isB bel)

/-- those of a list that are wanted, as a set -/
def onlyF (P : Int → Bool) (l : List Int) : Int := l.foldl (fun x a => if P a then withB x a.toNat else x) 0

theorem onlyF_snoc (P : Int → Bool) (l : List Int) (a : Int) : onlyF P (l ++ [a]) = if P a then withB (onlyF P l) a.toNat else onlyF P l := by
  unfold onlyF; rw [List.foldl_append]; rfl

theorem onlyF_bits (P : Int → Bool) (l : List Int) (hl : ∀ a ∈ l, 0 ≤ a ∧ a < 60) : (0 ≤ onlyF P l ∧ onlyF P l < 1152921504606846976) ∧ ∀ j : Nat, bit (onlyF P l) j = true ↔ ((j : Int) ∈ l ∧ P (j : Int) = true) := by
  suffices H : ∀ (l : List Int) (x : Int), (∀ a ∈ l, 0 ≤ a ∧ a < 60) → (0 ≤ x ∧ x < 1152921504606846976) →
      (0 ≤ l.foldl (fun x a => if P a then withB x a.toNat else x) x ∧ l.foldl (fun x a => if P a then withB x a.toNat else x) x < 1152921504606846976) ∧
      ∀ j : Nat, bit (l.foldl (fun x a => if P a then withB x a.toNat else x) x) j = true ↔ (bit x j = true ∨ ((j : Int) ∈ l ∧ P (j : Int) = true)) by
    have := H l 0 hl ⟨Int.le_refl 0, by decide⟩
    refine ⟨this.1, fun j => ?_⟩
    rw [show onlyF P l = l.foldl (fun x a => if P a then withB x a.toNat else x) 0 from rfl, this.2 j, Lc.bit_zero]
    simp
  intro l
  induction l with
  | nil => intro x _ hx; exact ⟨hx, fun j => by simp⟩
  | cons a l ih =>
    intro x hl hx
    have ha := hl a (by simp)
    obtain ⟨p, rfl⟩ := Int.eq_ofNat_of_zero_le ha.1
    simp only [List.foldl_cons]
    cases hn : P (p : Int)
    · rw [if_neg (by simp)]
      have := ih x (fun a h => hl a (by simp [h])) hx
      refine ⟨this.1, fun j => ?_⟩
      rw [this.2 j]
      constructor
      · rintro (h | ⟨h1, h2⟩)
        · exact .inl h
        · exact .inr ⟨by simp [h1], h2⟩
      · rintro (h | ⟨h1, h2⟩)
        · exact .inl h
        · rcases List.mem_cons.1 h1 with e | e
          · rw [e, hn] at h2; exact Bool.noConfusion h2
          · exact .inr ⟨e, h2⟩
    · rw [if_pos rfl, Int.toNat_natCast]
      have := ih (withB x p) (fun a h => hl a (by simp [h])) (Bit.withB_bd x hx.1 hx.2 p (by omega))
      refine ⟨this.1, fun j => ?_⟩
      rw [this.2 j, Bit.bit_withB x hx.1]
      constructor
      · rintro (h | ⟨h1, h2⟩)
        · rw [Bool.or_eq_true, decide_eq_true_eq] at h
          rcases h with h | h
          · subst h; exact .inr ⟨by simp, hn⟩
          · exact .inl h
        · exact .inr ⟨by simp [h1], h2⟩
      · rintro (h | ⟨h1, h2⟩)
        · exact .inl (by rw [h]; simp)
        · rcases List.mem_cons.1 h1 with e | e
          · exact .inl (by rw [Bool.or_eq_true, decide_eq_true_eq]; exact .inl (by omega))
          · exact .inr ⟨e, h2⟩

theorem mem_memI {s : Int} {x : Int} (h : x ∈ Memb.memI s) : 0 ≤ x ∧ x < 60 := by
  unfold Memb.memI at h
  split at h
  · obtain ⟨j, hj, rfl, _⟩ := (Bit.mem_memTo s 60 x).1 h
    omega
  · exact absurd h (by simp)

theorem mem_bit {s : Int} (q0 : 0 ≤ s) (q1 : s < 1152921504606846976) (j : Nat) : (j : Int) ∈ Memb.memI s ↔ bit s j = true := by
  unfold Memb.memI
  rw [(Base.okB_iff s).2 ⟨q0, q1⟩, if_pos rfl, Bit.mem_memTo]
  constructor
  · rintro ⟨i, _, e, h⟩
    obtain rfl : j = i := by omega
    exact h
  · intro h
    refine ⟨j, ?_, rfl, h⟩
    apply Classical.byContradiction
    intro hn
    rw [Lc.bit_hi s 60 q0 (by omega) j (by omega)] at h
    exact Bool.noConfusion h

theorem bit_all {n : Nat} (hn : n ≤ 60) (k : Nat) : bit (2 ^ n - 1) k = decide (k < n) := by
  have hp := Lc.pow60 n hn
  have e : ((2 : Int) ^ n - 1) = ((2 ^ n - 1 : Nat) : Int) := by rw [Int.ofNat_sub Nat.one_le_two_pow]; simp
  rw [Bit.bit_testBit _ (by omega), e, Int.toNat_natCast, Nat.testBit_two_pow_sub_one]

set_option maxHeartbeats 1600000 in
theorem only (fid : Nat) (eg : ∀ args w, (callFunc fid args).run Tryz.prog w = .ok (.enter fid args) w) (c1 c2 : Value) (P : Int → Bool) (s : Int) (w : World)
    (HC : ∀ (W : World) (a : Int), Below w.heap.size w W → 0 ≤ a → a < 60 → Calls Tryz.prog fid #[.int .i64 a, c1, c2] W fun e w' => e = .returned (.bool (P a)) ∧ Below W.heap.size W w') :
    Calls Tryz.prog 68 #[.int .i64 s, .func (.func fid) #[] #[c1, c2]] w fun e w' => e = .returned (.int .i64 (onlyF P (Memb.memI s))) ∧ Below w.heap.size w w' := by
  have HCC : Hid (∀ (W : World) (a : Int), Below w.heap.size w W → 0 ≤ a → a < 60 → Calls Tryz.prog fid #[.int .i64 a, c1, c2] W fun e w' => e = .returned (.bool (P a)) ∧ Below W.heap.size W w') := HC
  clear HC
  go_enter Tryz.func68, Tryz.ntmps68
  go_wp2_with fail
  refine (Memb.picked s _).mono ?_
  rintro e w2 ⟨ao, ca, rfl, hown, hb2⟩
  have hrd := Lst.own_rd hown
  have HBO : Hid (∀ c, ao = some ⟨c, 0, none⟩ → c < w2.heap.size) := fun c e => by subst e; exact (World.ownsRow.lt hown c rfl).2
  have hle : (Memb.memI s).length ≤ 60 := by unfold Memb.memI; split; exact Bit.memTo_le s 60; simp
  have HI : Hid (∀ i ∈ Memb.memI s, 0 ≤ i ∧ i < 60) := fun i h => mem_memI h
  have HB2 : Hid (Below w.heap.size w w2) := hb2
  clear hown hb2
  generalize hml : Memb.memI s = l at hrd hle HI ⊢
  have HML : Hid (Memb.memI s = l) := hml
  clear hml
  go_wp2
  go_loopw [5, 12] (fun o i wr => ∃ j : Nat, j ≤ l.length ∧ i = .int .i64 j ∧ o = .int .i64 (onlyF P (l.take j)) ∧ Hid (Below w2.heap.size w2 wr)) (fun _ i _ => l.length - (intOf i).toNat)
  case atStart => exact ⟨0, by omega, rfl, rfl, Below.refl _ _⟩
  case round =>
    obtain ⟨j, hj, rfl, rfl, HB⟩ := hrel
    by_cases hlt : j < l.length
    · rcases hrd with hrd | ⟨bb, rfl, hcell⟩
      · rw [hrd] at hlt; simp at hlt
      have hbb := HBO.out bb rfl
      have cj := (HB.out.cell (p := ⟨bb, j, none⟩) hbb).trans (hcell j hlt)
      have hx := HI.out (l.getD j 0) (by simp [List.getD, List.getElem?_eq_getElem hlt])
      have hF := (onlyF_bits P (l.take j) (fun a h => HI.out a (List.mem_of_mem_take h))).1
      have HS : Hid (onlyF P (l.take (j + 1)) = if P (l.getD j 0) then withB (onlyF P (l.take j)) (l.getD j 0).toNat else onlyF P (l.take j)) := by
        show _ = _
        rw [Lc.take_snocI l j hlt, onlyF_snoc]
      generalize l.getD j 0 = x at cj hx HS
      generalize onlyF P (l.take j) = fo at hF HS ⊢
      have hcall := HCC.out wr x (HB2.out.trans (HB.out.mono HB2.out.size)) hx.1 hx.2
      clear hcell
      have HW : Hid (Base.withI fo x = withB fo x.toNat) := by
        show _ = _
        unfold Base.withI
        rw [(Base.okB_iff _).2 hF, (Base.inB_iff _).2 hx]; simp
      generalize hpx : P x = px at hcall
      have HPX : Hid (P x = px) := hpx
      clear hpx
      go_wp2_with fail
      refine hcall.mono ?_
      rintro e w3 ⟨rfl, hb3⟩
      have HB3 : Hid (Below w2.heap.size w2 w3) := HB.out.trans (hb3.mono HB.out.size)
      clear hcall hb3 HB cj
      cases px
      · have HD : Hid (onlyF P (l.take (j + 1)) = fo) := by show _ = _; rw [HS.out, HPX.out]; rfl
        clear HPX HS
        go_wp2
        go_roundw
        case rel => exact ⟨j + 1, by omega, by go_num, by rw [HD.out], HB3⟩
        case measure => simp [intOf]; omega
      · have HD : Hid (onlyF P (l.take (j + 1)) = withB fo x.toNat) := by show _ = _; rw [HS.out, HPX.out]; rfl
        clear HPX HS
        go_wp2_with (go_at_call 82; refine (Base.withM _ _ _).mono ?_; rintro e w' ⟨rfl, rfl⟩; rw [HW.out])
        go_roundw
        case rel => exact ⟨j + 1, by omega, by go_num, by rw [HD.out], HB3⟩
        case measure => simp [intOf]; omega
    · obtain rfl : j = l.length := by omega
      have e : l.take l.length = l := List.take_length
      rw [e]
      have HBE : Hid (Below w.heap.size w wr) := HB2.out.trans (HB.out.mono HB2.out.size)
      clear HB HB2
      go_wp2
      go_ret
      exact ⟨by rw [HML.out]; rfl, HBE.out⟩

theorem two_box (w : World) (k : Int) (f : Value) (t u : TypeId) : Below w.heap.size w ((w.alloc (.cells #[.int .i64 k] t)).alloc (.cells #[f] u)) ∧ ((w.alloc (.cells #[.int .i64 k] t)).alloc (.cells #[f] u)).cell? ⟨w.heap.size, 0, none⟩ = some (.int .i64 k) ∧ ((w.alloc (.cells #[.int .i64 k] t)).alloc (.cells #[f] u)).cell? ⟨w.heap.size + 1, 0, none⟩ = some f ∧ w.heap.size + 1 < ((w.alloc (.cells #[.int .i64 k] t)).alloc (.cells #[f] u)).heap.size := by
  have c1 := Sg.boxNew (w.alloc (.cells #[.int .i64 k] t)) f u
  simp only [World.size_alloc] at c1
  exact ⟨((Below.refl _ _).alloc (Nat.le_refl _) _).alloc (by simp) _, Sg.boxCell _ (Sg.boxNew w (.int .i64 k) t).1, c1.1, by simp⟩

/-- the answer, or the one fixed answer -/
def askI (L : List K) (s k A : Int) : Int := if setB L s && isB L k then A else -1

end Ak
end Go.Proofs.YtmnkankjblnjaaaGreat

namespace Go.Proofs.YtmnkankjblnjaaaGreat
open Go.RowKit
set_option maxRecDepth 100000
namespace Nd
open Kn (K okK)
open Bit (bit withB memTo)
open Lc (at' RdK WordsOk laceB setB amongI HandsOk)
open Sg (isB bel belows seesB metI)
open Db (dblN dblS doubledB)

theorem infoSet : (Tryz.prog.info? 47).map (fun i => (i.zero, i.size, i.bytes)) = some (some (.int .i64 0), 1, 8) := by kernel_rfl

/-- two rows of four hands are compared -/
theorem eqHand (a0 a1 a2 a3 b0 b1 b2 b3 : Int) (W : World) : (binOp .eql 120 (.agg #[.int .i64 a0, .int .i64 a1, .int .i64 a2, .int .i64 a3]) (.agg #[.int .i64 b0, .int .i64 b1, .int .i64 b2, .int .i64 b3])).run Tryz.prog W = .ok (.bool (a0 == b0 && (a1 == b1 && (a2 == b2 && a3 == b3)))) W := by
  obtain ⟨i0, hi, hz0, hz1, hz2⟩ := info_parts infoSet
  rw [run_eql_struct, run_equalIn_array W 9999 _ _ (by kernel_rfl : Tryz.prog.underlying 120 = some (.array 4 47)) hi]
  rw [show List.range 4 = [0, 1, 2, 3] from rfl, show Tryz.prog.cellsOf 47 = 1 from by kernel_rfl]
  have hu : Tryz.prog.underlying 47 = some (.int .i64) := by kernel_rfl
  have hp : ∀ (xs : Array Value) (i : Nat) (v : Value), xs[i]? = some v → (part 47 xs i).run Tryz.prog W = .ok v W := fun xs i v h => by
    simp [part, isAgg, run_underlying hu, h]
  have he : ∀ x y : Int, (Op.equalIn 9999 47 (.int .i64 x) (.int .i64 y)).run Tryz.prog W = .ok (x == y) W := fun x y => run_equalIn_int W 9998 47 .i64 .i64 x y hu
  simp only [Op.eqItems, Sem.run_bind, Nat.mul_one]
  rw [hp #[.int .i64 a0, .int .i64 a1, .int .i64 a2, .int .i64 a3] 0 (.int .i64 a0) rfl, Result.andThen_ok, hp #[.int .i64 b0, .int .i64 b1, .int .i64 b2, .int .i64 b3] 0 (.int .i64 b0) rfl, Result.andThen_ok, he, Result.andThen_ok]
  by_cases h0 : a0 = b0
  · rw [show (a0 == b0) = true from by simpa using h0]
    simp only [Bool.not_true, Bool.false_eq_true, if_false, Sem.run_bind, Bool.true_and]
    rw [hp #[.int .i64 a0, .int .i64 a1, .int .i64 a2, .int .i64 a3] 1 (.int .i64 a1) rfl, Result.andThen_ok, hp #[.int .i64 b0, .int .i64 b1, .int .i64 b2, .int .i64 b3] 1 (.int .i64 b1) rfl, Result.andThen_ok, he, Result.andThen_ok]
    by_cases h1 : a1 = b1
    · rw [show (a1 == b1) = true from by simpa using h1]
      simp only [Bool.not_true, Bool.false_eq_true, if_false, Sem.run_bind, Bool.true_and]
      rw [hp #[.int .i64 a0, .int .i64 a1, .int .i64 a2, .int .i64 a3] 2 (.int .i64 a2) rfl, Result.andThen_ok, hp #[.int .i64 b0, .int .i64 b1, .int .i64 b2, .int .i64 b3] 2 (.int .i64 b2) rfl, Result.andThen_ok, he, Result.andThen_ok]
      by_cases h2 : a2 = b2
      · rw [show (a2 == b2) = true from by simpa using h2]
        simp only [Bool.not_true, Bool.false_eq_true, if_false, Sem.run_bind, Bool.true_and]
        rw [hp #[.int .i64 a0, .int .i64 a1, .int .i64 a2, .int .i64 a3] 3 (.int .i64 a3) rfl, Result.andThen_ok, hp #[.int .i64 b0, .int .i64 b1, .int .i64 b2, .int .i64 b3] 3 (.int .i64 b3) rfl, Result.andThen_ok, he, Result.andThen_ok]
        cases (a3 == b3) <;> simp
      · rw [show (a2 == b2) = false from by simpa using h2]; simp
    · rw [show (a1 == b1) = false from by simpa using h1]; simp
  · rw [show (a0 == b0) = false from by simpa using h0]; simp

/-- without all that is in d no hand has less: then nothing of it is in x -/
theorem hands_same {L : List K} (hl : laceB L = true) (x d : Int) (h0 : 0 ≤ x) (h1 : x < 1152921504606846976) (hx : ∀ i, bit x i = true → i < L.length) (h2 : 0 ≤ d) (h3 : d < 1152921504606846976) :
    (hf L x 0 L.length == hf L (bits .andNot .i64 x d) 0 L.length && (hf L x 1 L.length == hf L (bits .andNot .i64 x d) 1 L.length && (hf L x 2 L.length == hf L (bits .andNot .i64 x d) 2 L.length && hf L x 3 L.length == hf L (bits .andNot .i64 x d) 3 L.length))) = (bits .and .i64 x d == 0) := by
  have h60 := ((Lc.lace_iff L).1 hl).1
  have hz := Lc.and_zero_iff x d h0 (by omega) h2 (by omega)
  rw [Bool.eq_iff_iff]
  simp only [Bool.and_eq_true, beq_iff_eq]
  constructor
  · rintro ⟨e0, e1, e2, e3⟩
    apply Classical.byContradiction
    intro hne
    obtain ⟨i, hi, hd⟩ := hz.1 hne
    have hil := hx i hi
    have hh := Lc.lace_hands hl _ (Lc.at_mem L i hil)
    have key : ∀ h : Int, (at' L i).hand = h → hf L x h L.length = hf L (bits .andNot .i64 x d) h L.length → False := fun h hm e => by
      have q1 : bit (hf L x h L.length) i = true := by
        unfold hf
        rw [Lc.bit_among _ _ _ _ h60, decide_eq_true hil, hi]; simp [hm]
      rw [e] at q1
      unfold hf at q1
      rw [Lc.bit_among _ _ _ _ h60, Sg.bit_andNot x d h0 h1 h2 h3, hd] at q1
      simp at q1
    have hc : (at' L i).hand = 0 ∨ (at' L i).hand = 1 ∨ (at' L i).hand = 2 ∨ (at' L i).hand = 3 := by omega
    rcases hc with h | h | h | h
    · exact key 0 h e0
    · exact key 1 h e1
    · exact key 2 h e2
    · exact key 3 h e3
  · intro he
    have hb := Sg.andNot_bd' x d h0 h1
    have : bits .andNot .i64 x d = x := Lc.eq_of_bits _ _ hb.1 h0 fun i => by
      rw [Sg.bit_andNot x d h0 h1 h2 h3]
      cases hxi : bit x i
      · rfl
      · cases hdi : bit d i
        · rfl
        · exact absurd he (hz.2 ⟨i, hxi, hdi⟩)
    rw [this]
    exact ⟨rfl, rfl, rfl, rfl⟩

/-- all that speaks against b -/
def agI (L : List K) (b : Int) : Int := if isB L b then dblS L b.toNat L.length else 0

theorem ag_bd {L : List K} (h60 : L.length ≤ 60) (b : Int) : 0 ≤ agI L b ∧ agI L b < 1152921504606846976 := by
  unfold agI
  split
  · exact Db.dblS_bd L _ _ h60
  · exact ⟨Int.le_refl 0, by decide⟩

/-- what a nod asks -/
theorem nods_sees {L : List K} {a b : Int} (hs : seesB L a b = true) : nodsB L a b = (bits .and .i64 (metI L a) (agI L b) == 0) := by
  unfold Sg.seesB at hs
  simp only [Bool.and_eq_true] at hs
  obtain ⟨ha, hb, hbit⟩ := hs
  obtain ⟨a0, a1, _⟩ := Sg.isB_parts ha
  unfold nodsB nodN agI Sg.metI
  rw [ha, hb, hbit, if_pos ⟨a0, a1⟩]
  rfl
theorem nods_blind {L : List K} {a b : Int} (hs : seesB L a b = false) : nodsB L a b = false := by
  unfold Sg.seesB at hs
  unfold nodsB nodN
  cases ha : isB L a
  · rfl
  · cases hb : isB L b
    · rfl
    · rw [ha, hb] at hs
      simp only [Bool.true_and] at hs
      rw [hs]; rfl

theorem met_bd {L : List K} (h60 : L.length ≤ 60) (a : Int) : 0 ≤ metI L a ∧ metI L a < 1152921504606846976 := by
  unfold Sg.metI
  split
  · exact Sg.bel_bd L _ (by omega)
  · exact ⟨Int.le_refl 0, by decide⟩
theorem met_in {L : List K} (hl : laceB L = true) (a : Int) (i : Nat) (h : bit (metI L a) i = true) : i < L.length := by
  unfold Sg.metI at h
  split at h
  · rename_i hc
    apply Classical.byContradiction
    intro hn
    rw [Db.bel_hi hl (by omega : a.toNat < L.length) (by omega)] at h
    exact Bool.noConfusion h
  · rw [Lc.bit_zero] at h; exact Bool.noConfusion h

/-- those of a list that nod to b, as a set -/
def nodF (L : List K) (b : Int) (l : List Int) : Int := l.foldl (fun x a => if nodsB L a b then withB x a.toNat else x) 0

theorem nodF_snoc (L : List K) (b : Int) (l : List Int) (a : Int) : nodF L b (l ++ [a]) = if nodsB L a b then withB (nodF L b l) a.toNat else nodF L b l := by
  unfold nodF; rw [List.foldl_append]; rfl

theorem nodF_bits (L : List K) (b : Int) (l : List Int) (hl : ∀ a ∈ l, 0 ≤ a ∧ a < 60) : (0 ≤ nodF L b l ∧ nodF L b l < 1152921504606846976) ∧ ∀ j : Nat, bit (nodF L b l) j = true ↔ ((j : Int) ∈ l ∧ nodsB L (j : Int) b = true) := by
  suffices H : ∀ (l : List Int) (x : Int), (∀ a ∈ l, 0 ≤ a ∧ a < 60) → (0 ≤ x ∧ x < 1152921504606846976) →
      (0 ≤ l.foldl (fun x a => if nodsB L a b then withB x a.toNat else x) x ∧ l.foldl (fun x a => if nodsB L a b then withB x a.toNat else x) x < 1152921504606846976) ∧
      ∀ j : Nat, bit (l.foldl (fun x a => if nodsB L a b then withB x a.toNat else x) x) j = true ↔ (bit x j = true ∨ ((j : Int) ∈ l ∧ nodsB L (j : Int) b = true)) by
    have := H l 0 hl ⟨Int.le_refl 0, by decide⟩
    refine ⟨this.1, fun j => ?_⟩
    rw [show nodF L b l = l.foldl (fun x a => if nodsB L a b then withB x a.toNat else x) 0 from rfl, this.2 j, Lc.bit_zero]
    simp
  intro l
  induction l with
  | nil => intro x _ hx; exact ⟨hx, fun j => by simp⟩
  | cons a l ih =>
    intro x hl hx
    have ha := hl a (by simp)
    obtain ⟨p, rfl⟩ := Int.eq_ofNat_of_zero_le ha.1
    simp only [List.foldl_cons]
    cases hn : nodsB L (p : Int) b
    · rw [if_neg (by simp)]
      have := ih x (fun a h => hl a (by simp [h])) hx
      refine ⟨this.1, fun j => ?_⟩
      rw [this.2 j]
      constructor
      · rintro (h | ⟨h1, h2⟩)
        · exact .inl h
        · exact .inr ⟨by simp [h1], h2⟩
      · rintro (h | ⟨h1, h2⟩)
        · exact .inl h
        · rcases List.mem_cons.1 h1 with e | e
          · rw [e, hn] at h2; exact Bool.noConfusion h2
          · exact .inr ⟨e, h2⟩
    · rw [if_pos rfl, Int.toNat_natCast]
      have := ih (withB x p) (fun a h => hl a (by simp [h])) (Bit.withB_bd x hx.1 hx.2 p (by omega))
      refine ⟨this.1, fun j => ?_⟩
      rw [this.2 j, Bit.bit_withB x hx.1]
      constructor
      · rintro (h | ⟨h1, h2⟩)
        · rw [Bool.or_eq_true, decide_eq_true_eq] at h
          rcases h with h | h
          · subst h; exact .inr ⟨by simp, hn⟩
          · exact .inl h
        · exact .inr ⟨by simp [h1], h2⟩
      · rintro (h | ⟨h1, h2⟩)
        · exact .inl (by rw [h]; simp)
        · rcases List.mem_cons.1 h1 with e | e
          · exact .inl (by rw [Bool.or_eq_true, decide_eq_true_eq]; exact .inl (by omega))
          · exact .inr ⟨e, h2⟩

theorem mem_memI {s : Int} {x : Int} (h : x ∈ Memb.memI s) : 0 ≤ x ∧ x < 60 := by
  unfold Memb.memI at h
  split at h
  · obtain ⟨j, hj, rfl, _⟩ := (Bit.mem_memTo s 60 x).1 h
    omega
  · exact absurd h (by simp)

theorem bit_and (a b : Int) (h1 : 0 ≤ a) (h2 : a < 9223372036854775808) (h3 : 0 ≤ b) (h4 : b < 9223372036854775808) (i : Nat) : bit (bits .and .i64 a b) i = (bit a i && bit b i) := by
  rw [Lc.i64_and a b h1 h2 h3 h4, Bit.bit_testBit _ (by omega), Int.toNat_natCast, Nat.testBit_and, ← Bit.bit_testBit _ h1, ← Bit.bit_testBit _ h3]

/-- of a set of the lace: the document's Nodders -/
theorem nodF_set {L : List K} {s b : Int} (hs : setB L s = true) (hb : isB L b = true) : nodF L b (Memb.memI s) = noddersI L s b := by
  obtain ⟨hl, q0, q1, qd, _, _⟩ := Lc.setB_parts hs
  have h60 := ((Lc.lace_iff L).1 hl).1
  have hF := nodF_bits L b (Memb.memI s) (fun a h => mem_memI h)
  have hN := nodS_bd L b.toNat L.length h60
  unfold noddersI
  rw [hs, hb]
  simp only [Bool.and_self, if_true]
  refine Lc.eq_of_bits _ _ hF.1.1 (by rw [Lc.i64_and s _ q0 (by omega) hN.1 (by omega)]; omega) fun j => ?_
  rw [Bool.eq_iff_iff, hF.2 j, bit_and s _ q0 (by omega) hN.1 (by omega), bit_nodS L b.toNat L.length h60, Bool.and_eq_true, Bool.and_eq_true, decide_eq_true_eq]
  have hj : (j : Int) ∈ Memb.memI s ↔ bit s j = true := by
    unfold Memb.memI
    rw [(Base.okB_iff s).2 ⟨q0, q1⟩, if_pos rfl]
    rw [Bit.mem_memTo]
    constructor
    · rintro ⟨i, _, e, h⟩
      obtain rfl : j = i := by omega
      exact h
    · intro h
      refine ⟨j, ?_, rfl, h⟩
      apply Classical.byContradiction
      intro hn
      rw [Lc.bit_hi s L.length q0 qd j (by omega)] at h
      exact Bool.noConfusion h
  rw [hj]
  constructor
  · rintro ⟨h1, h2⟩
    unfold nodsB at h2
    rw [Bool.and_eq_true, Bool.and_eq_true] at h2
    obtain ⟨_, p1, _⟩ := Sg.isB_parts h2.1
    exact ⟨h1, by omega, by have := h2.2.2; rwa [Int.toNat_natCast] at this⟩
  · rintro ⟨h1, h2, h3⟩
    refine ⟨h1, ?_⟩
    unfold nodsB
    rw [hb, Int.toNat_natCast, h3, Db.isB_lace hl]
    simp; omega

/-- of one alone: the document's Nods -/
theorem nodF_one (L : List K) (h60 : L.length ≤ 60) (a b : Int) : (Base.okB (nodF L b (Memb.memI (Sg.oneI a))) && (Base.inB a && bit (nodF L b (Memb.memI (Sg.oneI a))) a.toNat)) = nodsB L a b := by
  have hF := nodF_bits L b (Memb.memI (Sg.oneI a)) (fun a h => mem_memI h)
  rw [(Base.okB_iff _).2 hF.1, Bool.true_and]
  by_cases h : 0 ≤ a ∧ a < 60
  · rw [(Base.inB_iff a).2 h, Bool.true_and]
    obtain ⟨p, rfl⟩ := Int.eq_ofNat_of_zero_le h.1
    rw [Int.toNat_natCast, Bool.eq_iff_iff, hF.2 p]
    refine ⟨fun q => q.2, fun q => ⟨?_, q⟩⟩
    unfold Memb.memI
    rw [(Base.okB_iff _).2 (Sg.oneI_bd _), if_pos rfl]
    exact (Bit.mem_memTo _ _ _).2 ⟨p, by omega, rfl, (Sg.bit_oneI _ p).2 ⟨rfl, by omega⟩⟩
  · have : Base.inB a = false := by
      cases hb : Base.inB a
      · rfl
      · exact absurd ((Base.inB_iff a).1 hb) h
    rw [this, Bool.false_and]
    symm
    rw [Bool.eq_false_iff]
    intro hn
    unfold nodsB at hn
    rw [Bool.and_eq_true] at hn
    obtain ⟨a0, a1, _⟩ := Sg.isB_parts hn.1
    exact h ⟨a0, by omega⟩

theorem not_dbl {L : List K} {a : Int} (ha : isB L a = false) (b : Int) : doubledB L a b = false := by unfold Db.doubledB; rw [ha]; rfl

set_option maxHeartbeats 1600000 in
theorem doublesAny (g off cap : Nat) (L : List K) (a : Int) (w : World) (hlc : laceB L = true) (hg : g < w.heap.size) (hr : RdK w (some ⟨g, off, none⟩) L) :
    Calls Tryz.prog 103 #[.slice (some ⟨g, off, none⟩) L.length cap, .int .i64 a] w fun e w' => e = .returned (.int .i64 (agI L a)) ∧ Below w.heap.size w w' := by
  cases ha : isB L a
  · have HT : Hid (agI L a = 0) := by show _ = _; unfold agI; rw [ha]; rfl
    have h60 := ((Lc.lace_iff L).1 hlc).1
    rw [HT.out]
    go_enter Tryz.func103, Tryz.ntmps103
    go_wp2
    go_loopw [5, 9] (fun o i wr => ∃ j : Nat, j ≤ L.length ∧ i = .int .i64 j ∧ o = .int .i64 0 ∧ Hid (Below w.heap.size w wr)) (fun _ i _ => L.length - (intOf i).toNat)
    case atStart => exact ⟨0, by omega, rfl, rfl, Below.refl _ _⟩
    case round =>
      obtain ⟨j, hj, rfl, rfl, HB⟩ := hrel
      by_cases hlt : j < L.length
      · have hg1 : g < wr.heap.size := Nat.lt_of_lt_of_le hg HB.out.size
        have hcall := Db.doubled g off cap L a (j : Int) wr hlc hg1 (hr.below HB.out)
        rw [not_dbl ha] at hcall
        go_wp2_with fail
        refine hcall.mono ?_
        rintro e w1 ⟨rfl, hb1⟩
        have HB1 : Hid (Below w.heap.size w w1) := HB.out.trans (hb1.mono HB.out.size)
        clear hcall hb1 HB hg1
        go_wp2
        go_roundw
        case rel => exact ⟨j + 1, by omega, by go_num, rfl, HB1⟩
        case measure => simp [intOf]; omega
      · obtain rfl : j = L.length := by omega
        go_wp2
        go_ret
        exact ⟨rfl, HB.out⟩
  · have HT : Hid (agI L a = dblS L a.toNat L.length) := by show _ = _; unfold agI; rw [ha]; rfl
    rw [HT.out]
    exact Db.doubles g off cap L a w hlc ha hg hr

set_option maxHeartbeats 1600000 in
theorem nodders (g off cap : Nat) (L : List K) (s b : Int) (w : World) (hlc : laceB L = true) (hg : g < w.heap.size) (hr : RdK w (some ⟨g, off, none⟩) L) :
    Calls Tryz.prog 85 #[.slice (some ⟨g, off, none⟩) L.length cap, .int .i64 s, .int .i64 b] w fun e w' => e = .returned (.int .i64 (nodF L b (Memb.memI s))) ∧ Below w.heap.size w w' := by
  have HLC : Hid (laceB L = true) := hlc
  have h60 := ((Lc.lace_iff L).1 hlc).1
  have hag := ag_bd h60 b
  clear hlc
  go_enter Tryz.func85, Tryz.ntmps85
  go_wp2_with fail
  refine (doublesAny g off cap L b _ HLC.out hg hr).mono ?_
  rintro e w1 ⟨rfl, hb1⟩
  generalize hag' : agI L b = ag at hag ⊢
  have HAG : Hid (agI L b = ag) := hag'
  clear hag'
  go_wp2_with fail
  refine (Memb.picked s _).mono ?_
  rintro e w2 ⟨ao, ca, rfl, hown, hb2⟩
  have hrd := Lst.own_rd hown
  have HBO : Hid (∀ c, ao = some ⟨c, 0, none⟩ → c < w2.heap.size) := fun c e => by subst e; exact (World.ownsRow.lt hown c rfl).2
  have hle : (Memb.memI s).length ≤ 60 := by unfold Memb.memI; split; exact Bit.memTo_le s 60; simp
  have HI : Hid (∀ i ∈ Memb.memI s, 0 ≤ i ∧ i < 60) := fun i h => mem_memI h
  have HB2 : Hid (Below w.heap.size w w2) := hb1.trans (hb2.mono hb1.size)
  clear hown hb1 hb2
  generalize hml : Memb.memI s = l at hrd hle HI ⊢
  have HML : Hid (Memb.memI s = l) := hml
  clear hml
  have hg2 : g < w2.heap.size := Nat.lt_of_lt_of_le hg HB2.out.size
  have HR2 : Hid (RdK w2 (some ⟨g, off, none⟩) L) := hr.below HB2.out
  have HH : Hid (HandsOk L) := Lc.lace_hands HLC.out
  go_wp2
  go_loopw [8, 19] (fun o i wr => ∃ j : Nat, j ≤ l.length ∧ i = .int .i64 j ∧ o = .int .i64 (nodF L b (l.take j)) ∧ Hid (Below w2.heap.size w2 wr)) (fun _ i _ => l.length - (intOf i).toNat)
  case atStart => exact ⟨0, by omega, rfl, rfl, Below.refl _ _⟩
  case round =>
    obtain ⟨j, hj, rfl, rfl, HB⟩ := hrel
    by_cases hlt : j < l.length
    · rcases hrd with hrd | ⟨bb, rfl, hcell⟩
      · rw [hrd] at hlt; simp at hlt
      have hbb := HBO.out bb rfl
      have cj := (HB.out.cell (p := ⟨bb, j, none⟩) hbb).trans (hcell j hlt)
      have hx := HI.out (l.getD j 0) (by simp [List.getD, List.getElem?_eq_getElem hlt])
      have hF := (nodF_bits L b (l.take j) (fun a h => HI.out a (List.mem_of_mem_take h))).1
      have HS : Hid (nodF L b (l.take (j + 1)) = if nodsB L (l.getD j 0) b then withB (nodF L b (l.take j)) (l.getD j 0).toNat else nodF L b (l.take j)) := by
        show _ = _
        rw [Lc.take_snocI l j hlt, nodF_snoc]
      generalize l.getD j 0 = x at cj hx HS
      generalize nodF L b (l.take j) = fo at hF HS ⊢
      have HT : Hid ((Base.okB (metI L x) && (Base.inB b && bit (metI L x) b.toNat)) = seesB L x b) := Sg.met_sees HLC.out x b
      have hmb := met_bd h60 x
      have hok : Base.okB (metI L x) = true := (Base.okB_iff _).2 hmb
      have hok2 : Base.okB (bits .andNot .i64 (metI L x) ag) = true := (Base.okB_iff _).2 (Sg.andNot_bd' _ _ hmb.1 hmb.2)
      have HSM : Hid (_) := hands_same HLC.out (metI L x) ag hmb.1 hmb.2 (met_in HLC.out x) hag.1 hag.2
      have hgr : g < wr.heap.size := Nat.lt_of_lt_of_le hg2 HB.out.size
      have HHF : Hid (∀ (W : World) (y : Int), Below w2.heap.size w2 W → Base.okB y = true → Calls Tryz.prog 104 #[.slice (some ⟨g, off, none⟩) L.length cap, .int .i64 y] W fun e w' => e = .returned (.agg #[.int .i64 (hf L y 0 L.length), .int .i64 (hf L y 1 L.length), .int .i64 (hf L y 2 L.length), .int .i64 (hf L y 3 L.length)]) ∧ Below w2.heap.size w2 w') := fun W y hW hy => by
        refine (handfulsOf g off cap L y W h60 hy HH.out (HR2.out.below hW)).mono ?_
        rintro e w' ⟨h1, h2⟩
        exact ⟨h1, hW.trans (h2.mono hW.size)⟩
      have hcall := Sg.below g off cap L x wr HLC.out hgr (HR2.out.below HB.out)
      clear hcell hgr hmb
      go_wp2_with fail
      refine hcall.mono ?_
      rintro e w3 ⟨rfl, hb3⟩
      have HB3 : Hid (Below w2.heap.size w2 w3) := HB.out.trans (hb3.mono HB.out.size)
      clear hcall hb3 HB cj
      cases hs : seesB L x b
      · have HD : Hid (nodF L b (l.take (j + 1)) = fo) := by show _ = _; rw [HS.out, nods_blind hs]; rfl
        have HT2 : Hid ((Base.okB (metI L x) && (Base.inB b && bit (metI L x) b.toNat)) = false) := HT.out.trans hs
        clear hs HT HS HSM hok hok2
        generalize metI L x = sn at HT2 ⊢
        go_wp2_with (go_at_call 44; refine (Base.has _ _ _).mono ?_; rintro e w' ⟨rfl, rfl⟩; rw [HT2.out])
        go_roundw
        case rel => exact ⟨j + 1, by omega, by go_num, by rw [HD.out], HB3⟩
        case measure => simp [intOf]; omega
      · have HN : Hid (nodsB L x b = (bits .and .i64 (metI L x) ag == 0)) := by show _ = _; rw [nods_sees hs, HAG.out]
        have HT2 : Hid ((Base.okB (metI L x) && (Base.inB b && bit (metI L x) b.toNat)) = true) := HT.out.trans hs
        clear hs HT
        generalize metI L x = sn at HT2 HN HSM hok hok2 ⊢
        generalize hy : bits .andNot .i64 sn ag = yy at HSM hok2
        have HY : Hid (bits .andNot .i64 sn ag = yy) := hy
        clear hy
        have hE := eqHand (hf L sn 0 L.length) (hf L sn 1 L.length) (hf L sn 2 L.length) (hf L sn 3 L.length) (hf L yy 0 L.length) (hf L yy 1 L.length) (hf L yy 2 L.length) (hf L yy 3 L.length)
        rw [HSM.out] at hE
        have HC1 : Hid (∀ W : World, Below w2.heap.size w2 W → Calls Tryz.prog 104 #[.slice (some ⟨g, off, none⟩) L.length cap, .int .i64 sn] W fun e w' => e = .returned (.agg #[.int .i64 (hf L sn 0 L.length), .int .i64 (hf L sn 1 L.length), .int .i64 (hf L sn 2 L.length), .int .i64 (hf L sn 3 L.length)]) ∧ Below w2.heap.size w2 w') := fun W hW => HHF.out W sn hW hok
        have HC2 : Hid (∀ W : World, Below w2.heap.size w2 W → Calls Tryz.prog 104 #[.slice (some ⟨g, off, none⟩) L.length cap, .int .i64 yy] W fun e w' => e = .returned (.agg #[.int .i64 (hf L yy 0 L.length), .int .i64 (hf L yy 1 L.length), .int .i64 (hf L yy 2 L.length), .int .i64 (hf L yy 3 L.length)]) ∧ Below w2.heap.size w2 w') := fun W hW => HHF.out W yy hW hok2
        clear HHF hok hok2 HSM
        generalize hf L sn 0 L.length = a0 at hE HC1
        generalize hf L sn 1 L.length = a1 at hE HC1
        generalize hf L sn 2 L.length = a2 at hE HC1
        generalize hf L sn 3 L.length = a3 at hE HC1
        generalize hf L yy 0 L.length = b0 at hE HC2
        generalize hf L yy 1 L.length = b1 at hE HC2
        generalize hf L yy 2 L.length = b2 at hE HC2
        generalize hf L yy 3 L.length = b3 at hE HC2
        have HW : Hid (Base.withI fo x = withB fo x.toNat) := by
          show _ = _
          unfold Base.withI
          rw [(Base.okB_iff _).2 hF, (Base.inB_iff _).2 hx]; simp
        go_wp2_with (first | (go_at_call 44; refine (Base.has _ _ _).mono ?_; rintro e w' ⟨rfl, rfl⟩; rw [HT2.out]) | fail)
        refine (HC1.out _ HB3.out).mono ?_
        rintro e w4 ⟨rfl, hb4⟩
        have HB4 : Hid (Below w2.heap.size w2 w4) := hb4
        clear hb4 HB3 HC1 HT2
        go_wp2_with fail
        rw [HY.out]
        refine (HC2.out _ HB4.out).mono ?_
        rintro e w5 ⟨rfl, hb5⟩
        have HB5 : Hid (Below w2.heap.size w2 w5) := hb5
        clear hb5 HB4 HC2
        cases hz : (bits .and .i64 sn ag == 0)
        · have HD : Hid (nodF L b (l.take (j + 1)) = fo) := by show _ = _; rw [HS.out, HN.out, hz]; rfl
          rw [hz] at hE
          clear hz HN HS
          go_wp2
          go_roundw
          case rel => exact ⟨j + 1, by omega, by go_num, by rw [HD.out], HB5⟩
          case measure => simp [intOf]; omega
        · have HD : Hid (nodF L b (l.take (j + 1)) = withB fo x.toNat) := by show _ = _; rw [HS.out, HN.out, hz]; rfl
          rw [hz] at hE
          clear hz HN HS
          go_wp2_with (go_at_call 82; refine (Base.withM _ _ _).mono ?_; rintro e w' ⟨rfl, rfl⟩; rw [HW.out])
          go_roundw
          case rel => exact ⟨j + 1, by omega, by go_num, by rw [HD.out], HB5⟩
          case measure => simp [intOf]; omega
    · obtain rfl : j = l.length := by omega
      have e : l.take l.length = l := List.take_length
      rw [e]
      have HBE : Hid (Below w.heap.size w wr) := HB2.out.trans (HB.out.mono HB2.out.size)
      clear HB HB2
      go_wp2
      go_ret
      exact ⟨by rw [HML.out]; rfl, HBE.out⟩

set_option maxHeartbeats 400000 in
theorem nods (g off cap : Nat) (L : List K) (a b : Int) (w : World) (hlc : laceB L = true) (hg : g < w.heap.size) (hr : RdK w (some ⟨g, off, none⟩) L) :
    Calls Tryz.prog 70 #[.slice (some ⟨g, off, none⟩) L.length cap, .int .i64 a, .int .i64 b] w fun e w' => e = .returned (.bool (nodsB L a b)) ∧ Below w.heap.size w w' := by
  have h60 := ((Lc.lace_iff L).1 hlc).1
  have HT : Hid ((Base.okB (nodF L b (Memb.memI (Sg.oneI a))) && (Base.inB a && bit (nodF L b (Memb.memI (Sg.oneI a))) a.toNat)) = nodsB L a b) := nodF_one L h60 a b
  go_enter Tryz.func70, Tryz.ntmps70
  go_wp2_with (first | (go_at_call 82; refine (Base.withM _ _ _).mono ?_; rintro e w' ⟨rfl, rfl⟩; rw [Sg.with_one]) | fail)
  refine (nodders g off cap L (Sg.oneI a) b _ hlc hg hr).mono ?_
  rintro e w1 ⟨rfl, hb1⟩
  generalize nodF L b (Memb.memI (Sg.oneI a)) = y at HT ⊢
  go_wp2_with (go_at_call 44; refine (Base.has _ _ _).mono ?_; rintro e w' ⟨rfl, rfl⟩; rw [HT.out])
  go_ret
  exact ⟨rfl, hb1⟩

end Nd
end Go.Proofs.YtmnkankjblnjaaaGreat

namespace Go.Proofs.YtmnkankjblnjaaaGreat
open Go.RowKit
set_option maxRecDepth 100000
set_option linter.unusedVariables false
namespace So
open Kn (K okK)
open Lc (at' RdK)

/-- which of two numbers comes first -/
def cmI (x y : Int) : Int := if x < y then -1 else if y < x then 1 else 0
theorem cmI_neg (x y : Int) : cmI x y < 0 ↔ x < y := by
  unfold cmI
  by_cases h1 : x < y
  · simp [h1]
  · by_cases h2 : y < x
    · simp [h1, h2]
    · simp [h1, h2]
theorem cmI_zero (x y : Int) : cmI x y = 0 ↔ x = y := by
  unfold cmI
  by_cases h1 : x < y
  · rw [if_pos h1]; omega
  · by_cases h2 : y < x
    · rw [if_neg h1, if_pos h2]; omega
    · rw [if_neg h1, if_neg h2]; omega
theorem isNaN (x : Int) (w : World) : Calls Tryz.prog 96 #[.int .i64 x] w fun e w' => e = .returned (.bool false) ∧ w = w' := by
  go_enter Tryz.func96, Tryz.ntmps96
  go_wp2
  go_ret
  exact ⟨by simp, rfl⟩
theorem isNaNH (x : Int) (w : World) : Calls Tryz.prog 97 #[.int .i64 x] w fun e w' => e = .returned (.bool false) ∧ w = w' := by
  go_enter Tryz.func97, Tryz.ntmps97
  go_wp2
  go_ret
  exact ⟨by simp, rfl⟩

set_option maxHeartbeats 1600000 in
theorem compareI (x y : Int) (w : World) : Calls Tryz.prog 76 #[.int .i64 x, .int .i64 y] w fun e w' => e = .returned (.int .i64 (cmI x y)) ∧ w = w' := by
  go_enter Tryz.func76, Tryz.ntmps76
  by_cases h1 : x < y
  · have HE : Hid (cmI x y = -1) := by show _ = _; unfold cmI; rw [if_pos h1]
    go_wp2_with (first | (go_at_call 96; refine (isNaN _ _).mono ?_; rintro e w' ⟨rfl, rfl⟩))
    go_ret
    exact ⟨by rw [HE.out]; rfl, rfl⟩
  · by_cases h2 : y < x
    · have HE : Hid (cmI x y = 1) := by show _ = _; unfold cmI; rw [if_neg h1, if_pos h2]
      go_wp2_with (first | (go_at_call 96; refine (isNaN _ _).mono ?_; rintro e w' ⟨rfl, rfl⟩))
      go_ret
      exact ⟨by rw [HE.out]; rfl, rfl⟩
    · have HE : Hid (cmI x y = 0) := by show _ = _; unfold cmI; rw [if_neg h1, if_neg h2]
      go_wp2_with (first | (go_at_call 96; refine (isNaN _ _).mono ?_; rintro e w' ⟨rfl, rfl⟩))
      go_ret
      exact ⟨by rw [HE.out]; rfl, rfl⟩
set_option maxHeartbeats 1600000 in
theorem compareH (x y : Int) (w : World) : Calls Tryz.prog 77 #[.int .i64 x, .int .i64 y] w fun e w' => e = .returned (.int .i64 (cmI x y)) ∧ w = w' := by
  go_enter Tryz.func77, Tryz.ntmps77
  by_cases h1 : x < y
  · have HE : Hid (cmI x y = -1) := by show _ = _; unfold cmI; rw [if_pos h1]
    go_wp2_with (first | (go_at_call 97; refine (isNaNH _ _).mono ?_; rintro e w' ⟨rfl, rfl⟩))
    go_ret
    exact ⟨by rw [HE.out]; rfl, rfl⟩
  · by_cases h2 : y < x
    · have HE : Hid (cmI x y = 1) := by show _ = _; unfold cmI; rw [if_neg h1, if_pos h2]
      go_wp2_with (first | (go_at_call 97; refine (isNaNH _ _).mono ?_; rintro e w' ⟨rfl, rfl⟩))
      go_ret
      exact ⟨by rw [HE.out]; rfl, rfl⟩
    · have HE : Hid (cmI x y = 0) := by show _ = _; unfold cmI; rw [if_neg h1, if_neg h2]
      go_wp2_with (first | (go_at_call 97; refine (isNaNH _ _).mono ?_; rintro e w' ⟨rfl, rfl⟩))
      go_ret
      exact ⟨by rw [HE.out]; rfl, rfl⟩

/-- the first of three that isn't zero -/
def or3 (x y z : Int) : Int := if x ≠ 0 then x else if y ≠ 0 then y else z
set_option maxHeartbeats 1600000 in
theorem orC (vb cap : Nat) (x y z : Int) (w : World) (hx : w.cell? ⟨vb, 0, none⟩ = some (.int .i64 x)) (hy : w.cell? ⟨vb, 1, none⟩ = some (.int .i64 y)) (hz : w.cell? ⟨vb, 2, none⟩ = some (.int .i64 z)) :
    Calls Tryz.prog 75 #[.slice (some ⟨vb, 0, none⟩) 3 cap] w fun e w' => e = .returned (.int .i64 (or3 x y z)) ∧ w = w' := by
  obtain ⟨f, hf⟩ : ∃ f : Nat → Int, f = fun i => if i = 0 then x else if i = 1 then y else z := ⟨_, rfl⟩
  have HC : Hid (∀ i, i < 3 → w.cell? ⟨vb, i, none⟩ = some (.int .i64 (f i))) := fun i hi => by
    rcases (show i = 0 ∨ i = 1 ∨ i = 2 by omega) with e | e | e <;> subst e <;> simp [hf, hx, hy, hz]
  have HO : Hid (∀ i, i ≤ 3 → (∀ j, j < i → f j = 0) → (∀ k, i = k → k < 3 → f k ≠ 0 → or3 x y z = f k) ∧ (i = 3 → or3 x y z = 0)) := fun i hi h0 => by
    have a0 : 0 < i → x = 0 := fun q => by have := h0 0 q; simpa [hf] using this
    have a1 : 1 < i → y = 0 := fun q => by have := h0 1 q; simpa [hf] using this
    have a2 : 2 < i → z = 0 := fun q => by have := h0 2 q; simpa [hf] using this
    refine ⟨fun k e hk hne => ?_, fun e => ?_⟩
    · subst e
      rcases (show i = 0 ∨ i = 1 ∨ i = 2 by omega) with e | e | e <;> subst e <;> simp [hf] at hne ⊢ <;> unfold or3
      · simp [hne]
      · simp [a0 (by omega), hne]
      · simp [a0 (by omega), a1 (by omega)]
    · subst e
      unfold or3; simp [a0 (by omega), a1 (by omega), a2 (by omega)]
  clear hf hx hy hz
  generalize or3 x y z = r at HO
  go_enter Tryz.func75, Tryz.ntmps75
  go_wp2
  go_loop [8] (fun iv => ∃ i : Nat, i ≤ 3 ∧ iv = .int .i64 i ∧ Hid (∀ j, j < i → f j = 0)) (fun iv => 3 - (intOf iv).toNat)
  case atStart => exact ⟨0, by omega, rfl, fun j hj => absurd hj (by omega)⟩
  case round =>
    obtain ⟨i, hi, rfl, HZ⟩ := hrel
    by_cases h3 : i < 3
    · have h3' : (i : Int) < 3 := by omega
      have ci := HC.out i h3
      have HR : Hid (f i ≠ 0 → r = f i) := fun hne => (HO.out i hi HZ.out).1 i rfl h3 hne
      have HZ2 : Hid (f i = 0 → ∀ j, j < i + 1 → f j = 0) := fun h0 j hj => by
        by_cases e : j = i
        · subst e; exact h0
        · exact HZ.out j (by omega)
      generalize f i = v at ci HR HZ2
      by_cases hv : v = 0
      · subst hv
        have HZ3 : Hid (∀ j, j < i + 1 → f j = 0) := HZ2.out rfl
        clear HZ HZ2 HR
        go_wp2
        go_round
        case rel => exact ⟨i + 1, by omega, by go_num, HZ3⟩
        case measure => simp [intOf]; omega
      · have HE : Hid (r = v) := HR.out hv
        clear HZ HZ2 HR
        go_wp2
        go_ret
        exact ⟨by rw [HE.out]; rfl, rfl⟩
    · obtain rfl : i = 3 := by omega
      have HE : Hid (r = 0) := (HO.out 3 hi HZ.out).2 rfl
      clear HZ
      rw [show ((3 : Nat) : Int) = 3 from rfl]
      go_wp2
      go_ret
      exact ⟨by rw [HE.out]; rfl, rfl⟩

/-- by rounds, then by hands, then by numbers -/
def cfL (L : List K) (x y : Int) : Int := or3 (cmI (at' L x.toNat).round (at' L y.toNat).round) (cmI (at' L x.toNat).hand (at' L y.toNat).hand) (cmI x y)
end So
end Go.Proofs.YtmnkankjblnjaaaGreat

namespace Go.Proofs.YtmnkankjblnjaaaGreat
open Go.RowKit
set_option maxRecDepth 100000
set_option linter.unusedVariables false
namespace So
open Kn (K okK)
open Bit (bit withB memTo)
open Lc (at')
open Tl (gtB insR insB ordL)

theorem cfL_neg (L : List K) (x y : Int) : cfL L x y < 0 ↔ ((at' L x.toNat).round < (at' L y.toNat).round ∨ ((at' L x.toNat).round = (at' L y.toNat).round ∧ ((at' L x.toNat).hand < (at' L y.toNat).hand ∨ ((at' L x.toNat).hand = (at' L y.toNat).hand ∧ x < y)))) := by
  unfold cfL or3
  have a1 := cmI_neg (at' L x.toNat).round (at' L y.toNat).round
  have a2 := cmI_zero (at' L x.toNat).round (at' L y.toNat).round
  have b1 := cmI_neg (at' L x.toNat).hand (at' L y.toNat).hand
  have b2 := cmI_zero (at' L x.toNat).hand (at' L y.toNat).hand
  have c1 := cmI_neg x y
  generalize cmI (at' L x.toNat).round (at' L y.toNat).round = p at a1 a2
  generalize cmI (at' L x.toNat).hand (at' L y.toNat).hand = q at b1 b2
  generalize cmI x y = r at c1
  by_cases h1 : p = 0
  · rw [if_neg (by simp [h1])]
    have e1 := a2.1 h1
    by_cases h2 : q = 0
    · rw [if_neg (by simp [h2])]
      have e2 := b2.1 h2
      rw [c1, e1, e2]; omega
    · rw [if_pos h2, b1, e1]
      have e2 : ¬ (at' L x.toNat).hand = (at' L y.toNat).hand := fun e => h2 (b2.2 e)
      omega
  · rw [if_pos h1, a1]
    have e1 : ¬ (at' L x.toNat).round = (at' L y.toNat).round := fun e => h1 (a2.2 e)
    omega
theorem ord_cf (L : List K) (S : Int → Prop) : Ord (cfL L) S where
  tr := fun x y z _ _ _ h1 h2 => by rw [cfL_neg] at h1 h2 ⊢; omega
  tot := fun x y _ _ hne h => by rw [cfL_neg] at h ⊢; omega
  irr := fun x _ h => by rw [cfL_neg] at h; omega

/-- read from its end: what stands ahead comes ahead -/
def FallsC (L : List K) : List Int → Prop
  | [] => True
  | y :: r => (∀ z ∈ r, cfL L z y < 0) ∧ FallsC L r
theorem insR_fallsC (L : List K) (x : Int) : ∀ l : List Int, (∀ z ∈ l, z < x) → FallsC L l → FallsC L (insR L x l) := by
  intro l
  induction l with
  | nil => intro _ _; exact ⟨fun z hz => by simp at hz, trivial⟩
  | cons y r ih =>
    rintro hx ⟨h1, h2⟩
    unfold insR
    cases hg : gtB L y x
    · rw [if_neg (by simp)]
      have hyx : cfL L y x < 0 := by
        have := hx y (by simp)
        rw [cfL_neg]
        unfold gtB at hg
        rw [Bool.eq_false_iff] at hg
        simp only [ne_eq, Bool.or_eq_true, Bool.and_eq_true, decide_eq_true_eq] at hg
        omega
      refine ⟨fun z hz => ?_, h1, h2⟩
      rcases List.mem_cons.1 hz with e | e
      · subst e; exact hyx
      · exact (ord_cf L (fun _ => True)).tr z y x trivial trivial trivial (h1 z e) hyx
    · rw [if_pos rfl]
      refine ⟨fun z hz => ?_, ih (fun z hz => hx z (by simp [hz])) h2⟩
      rcases (Tl.insR_mem L x r z).1 hz with e | e
      · subst e
        rw [cfL_neg]
        unfold gtB at hg
        simp only [Bool.or_eq_true, Bool.and_eq_true, decide_eq_true_eq] at hg
        omega
      · exact h1 z e
theorem fold_fallsC (L : List K) : ∀ (m out : List Int), m.Pairwise (· < ·) → (∀ z ∈ out, ∀ x ∈ m, z < x) → FallsC L out.reverse → FallsC L (m.foldl (insB L) out).reverse := by
  intro m
  induction m with
  | nil => intro out _ _ h; exact h
  | cons x m ih =>
    intro out hp ho h
    rw [List.foldl_cons]
    have hp' := List.pairwise_cons.1 hp
    refine ih _ hp'.2 ?_ ?_
    · intro z hz y hy
      rcases List.mem_cons.1 ((Tl.insB_perm L out x).mem_iff.1 hz) with e | e
      · subst e; exact hp'.1 y hy
      · exact ho z e y (by simp [hy])
    · unfold insB
      rw [List.reverse_reverse]
      exact insR_fallsC L x _ (fun z hz => ho z (List.mem_reverse.1 hz) x (by simp)) h
theorem fallsC_up (L : List K) : ∀ l : List Int, FallsC L l → Up (cfL L) 0 l.reverse.length l.reverse := by
  intro l h p q _ hpq hq
  have H : ∀ r : List Int, FallsC L r → ∀ i j, i < j → j < r.length → cfL L (r.getD j 0) (r.getD i 0) < 0 := by
    intro r
    induction r with
    | nil => intro _ i j _ hj; simp at hj
    | cons y r ih =>
      rintro ⟨h1, h2⟩ i j hij hj
      cases i with
      | zero =>
        obtain ⟨k, rfl⟩ : ∃ k, j = k + 1 := ⟨j - 1, by omega⟩
        have hk : k < r.length := by simpa using hj
        have : (y :: r).getD (k + 1) 0 = r[k] := by simp [List.getD, hk]
        rw [this]
        exact h1 _ (List.getElem_mem hk)
      | succ i =>
        obtain ⟨k, rfl⟩ : ∃ k, j = k + 1 := ⟨j - 1, by omega⟩
        have := ih h2 i k (by omega) (by simpa using hj)
        simpa [List.getD] using this
  rw [List.length_reverse] at hq
  have := H l h (l.length - 1 - q) (l.length - 1 - p) (by omega) (by omega)
  have e1 : l.getD (l.length - 1 - p) 0 = l.reverse.getD p 0 := by
    simp only [List.getD, List.getElem?_reverse (show p < l.length by omega)]
  have e2 : l.getD (l.length - 1 - q) 0 = l.reverse.getD q 0 := by
    simp only [List.getD, List.getElem?_reverse (show q < l.length by omega)]
  rw [e1, e2] at this
  exact this
theorem ord_up (L : List K) {m : List Int} (hm : m.Pairwise (· < ·)) : Up (cfL L) 0 (ordL L m).length (ordL L m) := by
  have h := fallsC_up L (ordL L m).reverse (by unfold ordL; exact fold_fallsC L m [] hm (fun z hz => by simp at hz) trivial)
  rwa [List.reverse_reverse] at h
theorem memTo_rises (s : Int) : ∀ n, (memTo s n).Pairwise (· < ·) := by
  intro n
  induction n with
  | zero => exact List.Pairwise.nil
  | succ n ih =>
    unfold memTo
    split
    · rw [List.pairwise_append]
      refine ⟨ih, List.pairwise_singleton _ _, fun x hx y hy => ?_⟩
      obtain ⟨j, hj, rfl, _⟩ := (Bit.mem_memTo s n x).1 hx
      simp at hy; subst hy; omega
    · rw [List.append_nil]; exact ih
theorem memI_rises (s : Int) : (Memb.memI s).Pairwise (· < ·) := by
  unfold Memb.memI
  split
  · exact memTo_rises s 60
  · exact List.Pairwise.nil
/-- a row in order that has the same numbers is the model's order -/
theorem is_ord (L : List K) {m r : List Int} (hm : m.Pairwise (· < ·)) (hp : r.Perm m) (hu : Up (cfL L) 0 r.length r) : r = ordL L m := by
  have hnd : m.Nodup := hm.imp (fun h => by omega)
  exact up_unique (ord_cf L (fun _ => True)) (ordL L m) r ⟨fun _ _ => trivial, Tl.ord_nodup L hnd⟩ (hp.trans (Tl.ord_perm L m).symm) (ord_up L hm) hu

end So
end Go.Proofs.YtmnkankjblnjaaaGreat

namespace Go.Proofs.YtmnkankjblnjaaaGreat
open Go.RowKit
set_option maxRecDepth 100000
set_option linter.unusedVariables false
namespace So
open Kn (K okK)
open Lc (at' RdK)

theorem orNew (W : World) (vb : Nat) (h : W.heap.size = vb) (x y z : Int) : Calls Tryz.prog 75 #[.slice (some ⟨vb, 0, none⟩) 3 3] (W.alloc (.cells #[.int .i64 x, .int .i64 y, .int .i64 z] 3)) fun e w' => e = .returned (.int .i64 (or3 x y z)) ∧ W.alloc (.cells #[.int .i64 x, .int .i64 y, .int .i64 z] 3) = w' := by
  subst h
  exact orC _ _ x y z _ (by simp) (by simp) (by simp)

set_option maxHeartbeats 6400000 in
theorem compare (g off cap : Nat) (L : List K) (x y : Nat) (w : World) (hlen : L.length ≤ 60) (hx : x < L.length) (hy : y < L.length) (hr : RdK w (some ⟨g, off, none⟩) L) :
    Calls Tryz.prog 55 #[.slice (some ⟨g, off, none⟩) L.length cap, .int .i64 (x : Int), .int .i64 (y : Int)] w fun e w' => e = .returned (.int .i64 (cfL L x y)) ∧ Below w.heap.size w w' := by
  obtain ⟨g1, off1, e1, hg, cx⟩ := hr.at x hx
  obtain ⟨g2, off2, e2, _, cy⟩ := hr.at y hy
  injection e1 with e1; injection e1 with e1 e1'; subst e1; subst e1'
  injection e2 with e2; injection e2 with e2 e2'; subst e2; subst e2'
  have x0 := cx.c0
  have x1 := cx.c1
  have y0 := cy.c0
  have y1 := cy.c1
  have HR : Hid (cfL L x y = or3 (cmI (at' L x).round (at' L y).round) (cmI (at' L x).hand (at' L y).hand) (cmI x y)) := by show _ = _; unfold cfL; rw [Int.toNat_natCast, Int.toNat_natCast]
  have hxl : (x : Int) < (L.length : Int) := by omega
  have hyl : (y : Int) < (L.length : Int) := by omega
  clear cx cy hr
  generalize (at' L x).hand = hx0 at x0 HR
  generalize (at' L x).round = rx0 at x1 HR
  generalize (at' L y).hand = hy0 at y0 HR
  generalize (at' L y).round = ry0 at y1 HR
  have HB : Hid (∀ o : Obj, Below w.heap.size w (w.drew.alloc o)) := fun o => (Below.refl _ w).drew.alloc (Nat.le_refl _) _
  go_enter Tryz.func55, Tryz.ntmps55
  go_wp2_with fail
  go_region_held3 (fun X => X.cell? ⟨g, off + x * 4, none⟩ = some (.int .i64 hx0) ∧ X.cell? ⟨g, off + x * 4 + 1, none⟩ = some (.int .i64 rx0) ∧ X.cell? ⟨g, off + y * 4, none⟩ = some (.int .i64 hy0) ∧ X.cell? ⟨g, off + y * 4 + 1, none⟩ = some (.int .i64 ry0)) (first
      | exact ⟨x0, x1, y0, y1⟩
      | go_keep) (first
      | (go_at_call 76
         refine (compareI _ _ _).mono ?_
         rintro e V0 ⟨rfl, rfl⟩)
      | (go_at_call 77
         refine (compareH _ _ _).mono ?_
         rintro e V0 ⟨rfl, rfl⟩)
      | (go_at_call 75
         refine (orNew w.drew _ rfl _ _ _).mono ?_
         rintro e V0 ⟨rfl, rfl⟩))
  all_goals (go_wp2)
  all_goals go_ret
  all_goals exact ⟨by rw [HR.out]; rfl, HB.out _⟩

end So
end Go.Proofs.YtmnkankjblnjaaaGreat

namespace Go.Proofs.YtmnkankjblnjaaaGreat
open Go.RowKit
set_option maxRecDepth 100000
set_option linter.unusedVariables false
namespace So
open Kn (K okK)
open Bit (bit withB memTo)
open Lc (at' RdK laceB)
open Memb (memK memI)

theorem row_some {B : Nat} {w : World} {v : Value} {l : List Int} (h : w.ownsRow B 2 1 v l.length (l.map (Value.int .i64))) (hn : ¬ v = .slice none 0 0) : ∃ g cap, v = .slice (some ⟨g, 0, none⟩) l.length cap ∧ Memb.Own B w (some ⟨g, 0, none⟩) cap l := by
  have h' := h
  obtain ⟨_, ⟨hv, _⟩ | ⟨g, cap, cur, hv, _⟩⟩ := h'
  · exact absurd hv hn
  · refine ⟨g, cap, hv, ?_⟩
    unfold Memb.Own; rw [← hv]; exact h

set_option maxHeartbeats 1600000 in
/-- picked answers a row that is there -/
theorem pickedN (s : Int) (w : World) : Calls Tryz.prog 53 #[.func (.func 44) #[.int .i64 s] #[]] w fun e w' =>
    ∃ g cap, e = .returned (.slice (some ⟨g, 0, none⟩) (memI s).length cap) ∧ Memb.Own w.heap.size w' (some ⟨g, 0, none⟩) cap (memI s) ∧ Below w.heap.size w w' := by
  obtain ⟨i0, hi, hz0, hz1, hz2⟩ := info_parts Memb.info2
  go_enter Tryz.func53, Tryz.ntmps53
  go_wp2
  go_loopw [3, 6] (fun v i wr => ∃ k : Nat, k ≤ 60 ∧ i = .int .i64 k ∧ wr.ownsRow w.heap.size 2 1 v (memK s k).length ((memK s k).map (Value.int .i64)) ∧ Below w.heap.size w wr ∧ w.heap.size ≤ wr.heap.size ∧ Hid (¬ v = .slice none 0 0))
    (fun _ i _ => 60 - (intOf i).toNat)
  case atStart => exact ⟨0, by omega, rfl, by have := Memb.own_empty w; simpa [memK, Bit.memTo] using this, (Below.refl _ _).alloc (Nat.le_refl _) _, by simp, show ¬ _ = _ by simp⟩
  case round =>
    obtain ⟨k, hk, rfl, hown, hnx, hB, HNN⟩ := hrel
    have hle := Memb.memK_le s k
    by_cases hlt : k < 60
    · cases hb : (Base.okB s && (Base.inB (k : Int) && Bit.bit s k))
      · have HM : Hid (memK s (k + 1) = memK s k) := Memb.memK_miss s k hlt hb
        have HB : Hid ((Base.okB s && (Base.inB (k : Int) && Bit.bit s k)) = false) := hb
        clear hb
        go_wp2_with (go_at_call 44; refine (Base.has _ _ _).mono ?_; rintro e w' ⟨rfl, rfl⟩; rw [Int.toNat_natCast, HB.out])
        go_roundw
        case rel => exact ⟨k + 1, by omega, by go_num, by rw [HM.out]; exact hown, hnx, hB, HNN⟩
        case measure => simp [intOf]; omega
      · have HM : Hid (memK s (k + 1) = memK s k ++ [(k : Int)]) := Memb.memK_hit s k hb
        have HB : Hid ((Base.okB s && (Base.inB (k : Int) && Bit.bit s k)) = true) := hb
        clear hb
        go_wp2_with (first | (go_at_call 44; refine (Base.has _ _ _).mono ?_; rintro e w' ⟨rfl, rfl⟩; rw [Int.toNat_natCast, HB.out]) | (at_builtin; refine wpList_append_own _ rfl _ _ 27 rfl w.heap.size 2 i0 (.int .i64 0) 1 8 Tryz.underlying27 hi hz0 hz1 hz2 rfl (by decide) _ _ _ rfl (hown.alloc _) ⟨wr.heap.size, 0, none⟩ 1 1 [.int .i64 (k : Int)] rfl rfl ?c1 ?c2 ?c3 ?c4 ?c5 ?_))
        case c1 =>
          intro j u hj
          match j, hj with
          | 0, hj => simp at hj; subst hj; simp [Addr.add]
        case c2 => intro u hu; simp at hu; subst hu; rfl
        case c3 => unfold maxLen; omega
        case c4 => omega
        case c5 => simp; omega
        intro v' w1 hown' hgrow hnil
        have R := Memb.rel_put HM.out hB hown hnx hown' hgrow
        have HN2 : Hid (¬ v' = .slice none 0 0) := hnil
        clear hown' hgrow hown hnil HNN
        go_wp2
        go_roundw
        case rel => exact ⟨k + 1, by omega, by go_num, R.1, R.2.1, R.2.2, HN2⟩
        case measure => simp [intOf]; omega
    · obtain rfl : k = 60 := by omega
      have hown2 : wr.ownsRow w.heap.size 2 1 u3 (memI s).length ((memI s).map (Value.int .i64)) := hown
      obtain ⟨g, cap, hv, ho⟩ := row_some hown2 HNN.out
      have HV : Hid (u3 = .slice (some ⟨g, 0, none⟩) (memI s).length cap) := hv
      clear hv hown hown2 HNN
      go_wp2
      go_ret
      exact ⟨g, cap, by rw [← HV.out]; rfl, ho, hnx⟩

theorem eqlNil (a : Addr) (n c : Nat) (w : World) : (binOp .eql 72 (.slice (some a) n c) (.slice none 0 0)).run Tryz.prog w = .ok (.bool false) w := by kernel_rfl

set_option maxHeartbeats 1600000 in
theorem clone (g cap : Nat) (l : List Int) (w : World) (hl : l.length ≤ 1048576) (hlt : g < w.heap.size) (hrd : Lst.Rd w (some ⟨g, 0, none⟩) l) : Calls Tryz.prog 73 #[.slice (some ⟨g, 0, none⟩) l.length cap] w fun e w' =>
    ∃ g' cap', e = .returned (.slice (some ⟨g', 0, none⟩) l.length cap') ∧ Memb.Own w.heap.size w' (some ⟨g', 0, none⟩) cap' l ∧ Below w.heap.size w w' := by
  obtain ⟨i0, hi, hz0, hz1, hz2⟩ := info_parts Memb.info2
  have hrd0 : Lst.Rd (w.alloc (.cells #[] 2)) (some ⟨g, 0, none⟩) l := by
    rcases hrd with h | ⟨b, hb, hc⟩
    · exact .inl h
    · injection hb with hb
      injection hb with hb
      subst hb
      exact .inr ⟨g, rfl, fun j hj => (World.cell?_alloc_lt w _ ⟨g, j, none⟩ hlt).trans (hc j hj)⟩
  have heq := eqlNil ⟨g, 0, none⟩ l.length cap
  go_enter Tryz.func73, Tryz.ntmps73
  go_wp2_with (at_builtin; refine wpList_append_own _ rfl _ _ 72 rfl w.heap.size 2 i0 (.int .i64 0) 1 8 Tryz.underlying72 hi hz0 hz1 hz2 rfl (by decide) _ 0 [] rfl (Memb.own_empty w) ⟨g, 0, none⟩ l.length cap (l.map (Value.int .i64)) rfl (by simp) (Rm.rd_nums hrd0 rfl) (Rm.nums_one l) ?c3 ?c4 ?c5 ?_)
  case c3 => unfold maxLen; omega
  case c4 => omega
  case c5 => simp
  intro v' w5 hown' hgrow hnil
  have HR : Hid (w5.ownsRow w.heap.size 2 1 v' l.length (l.map (Value.int .i64)) ∧ Below w.heap.size w w5) :=
    ⟨by simpa using hown', ((Below.refl w.heap.size w).alloc (Nat.le_refl _) _).grown hgrow (by simp) (fun i hi => by simp [Value.ownBlock] at hi; omega)⟩
  obtain ⟨g', ca, hv, ho⟩ := row_some HR.out.1 (by first | exact hnil | (intro e; have := (hnil.1 e).1; simp at this))
  clear hown' hgrow hi hz0 hz1 hz2 hnil
  subst hv
  go_wp2
  go_ret
  exact ⟨g', ca, rfl, ho, HR.out.2⟩

set_option maxHeartbeats 1600000 in
theorem sorted (g cap : Nat) (lv : Value) (cf : Int → Int → Int) (S : Int → Prop) (l : List Int) (w : World) (hl : l.length ≤ 1048576) (hlt : g < w.heap.size) (hrd : Lst.Rd w (some ⟨g, 0, none⟩) l) (ho : Ord cf S) (hg : Good S l)
    (hc : ∀ (W : World) (x y : Int), Below w.heap.size w W → S x → S y → Calls Tryz.prog 55 #[lv, .int .i64 x, .int .i64 y] W fun e w' => e = .returned (.int .i64 (cf x y)) ∧ Below W.heap.size W w') :
    Calls Tryz.prog 54 #[.slice (some ⟨g, 0, none⟩) l.length cap, .func (.func 55) #[lv] #[]] w fun e w' =>
      ∃ (g' cap' : Nat) (m : List Int), e = .returned (.slice (some ⟨g', 0, none⟩) m.length cap') ∧ Memb.Own w.heap.size w' (some ⟨g', 0, none⟩) cap' m ∧ m.Perm l ∧ Up cf 0 m.length m ∧ Below w.heap.size w w' := by
  have HK : Hid (∀ (w1 : World) (g' cap' : Nat), Memb.Own w.heap.size w1 (some ⟨g', 0, none⟩) cap' l → Below w.heap.size w w1 → Calls Tryz.prog 74 #[.slice (some ⟨g', 0, none⟩) l.length cap', .func (.func 55) #[lv] #[]] w1 fun e w' => e = .returned (.tuple #[]) ∧ ∃ m : List Int, m.length = l.length ∧ Memb.Own w.heap.size w' (some ⟨g', 0, none⟩) cap' m ∧ m.Perm l ∧ Up cf 0 m.length m ∧ Below w.heap.size w w') := fun w1 g' cap' hO hB => by
    have hgg := World.ownsRow.lt hO g' rfl
    refine (sortFunc w.heap.size g' cap' lv cf S l w1 ⟨fun W x y hW hx hy => hc W x y (hB.grown hW hB.size (fun k hk => by injection hk with hk; omega)) hx hy, ho⟩ hO hg hl).mono ?_
    rintro e w2 ⟨he, m, hm, hu⟩
    exact ⟨he, m, hm.len, hm.row.own, hm.mix.perm, by rw [hm.len]; exact hu, hB.grown hm.row.gr hB.size (fun k hk => by injection hk with hk; omega)⟩
  have hcl := clone g cap l w hl hlt hrd
  clear hc hrd ho hg
  go_enter Tryz.func54, Tryz.ntmps54
  go_wp2_with fail
  refine hcl.mono ?_
  rintro e w1 ⟨g', cap', rfl, hO, hB⟩
  have hcall := HK.out w1 g' cap' hO hB
  clear hcl HK hO hB
  go_wp2_with fail
  refine hcall.mono ?_
  rintro e w2 ⟨rfl, m, hlen, hO, hp, hu, hB⟩
  have HM : Hid (m.length = l.length ∧ Memb.Own w.heap.size w2 (some ⟨g', 0, none⟩) cap' m ∧ m.Perm l ∧ Up cf 0 m.length m ∧ Below w.heap.size w w2) := ⟨hlen, hO, hp, hu, hB⟩
  clear hlen hO hp hu hB hcall
  go_wp2
  go_ret
  exact ⟨g', cap', m, by rw [HM.out.1]; rfl, HM.out.2⟩

set_option maxHeartbeats 1600000 in
/-- a lace's ordered answers the model's order -/
theorem ordered (g off cap : Nat) (L : List K) (s : Int) (w : World) (hl : laceB L = true) (hg : g < w.heap.size) (hr : RdK w (some ⟨g, off, none⟩) L) (hin : ∀ x ∈ memI s, 0 ≤ x ∧ x < (L.length : Int)) :
    Calls Tryz.prog 26 #[.slice (some ⟨g, off, none⟩) L.length cap, .int .i64 s] w (Sg.NumsPost (Tl.ordL L (memI s)) w) := by
  have h60 := ((Lc.lace_iff L).1 hl).1
  have hle : (memI s).length ≤ 60 := by unfold Memb.memI; split; exact Bit.memTo_le s 60; simp
  have HR : Hid (memI s = memI s ∧ (memI s).Pairwise (· < ·)) := ⟨rfl, memI_rises s⟩
  have HS : Hid (∀ (w1 : World) (g' cap' : Nat), Memb.Own w.heap.size w1 (some ⟨g', 0, none⟩) cap' (memI s) → Below w.heap.size w w1 → Calls Tryz.prog 54 #[.slice (some ⟨g', 0, none⟩) (memI s).length cap', .func (.func 55) #[.slice (some ⟨g, off, none⟩) L.length cap] #[]] w1 fun e w' => ∃ (g2 cap2 : Nat), e = .returned (.slice (some ⟨g2, 0, none⟩) (Tl.ordL L (memI s)).length cap2) ∧ Memb.Own w.heap.size w' (some ⟨g2, 0, none⟩) cap2 (Tl.ordL L (memI s)) ∧ Below w.heap.size w w') := fun w1 g' cap' hO hB => by
    have hgg := World.ownsRow.lt hO g' rfl
    refine (sorted g' cap' (.slice (some ⟨g, off, none⟩) L.length cap) (cfL L) (fun x => 0 ≤ x ∧ x < (L.length : Int)) (memI s) w1 (by omega) hgg.2 (Lst.own_rd hO) (ord_cf L _) ⟨hin, (memI_rises s).imp (fun h => by omega)⟩ (fun W x y hW hx hy => ?_)).mono ?_
    · obtain ⟨p, rfl⟩ := Int.eq_ofNat_of_zero_le hx.1
      obtain ⟨q, rfl⟩ := Int.eq_ofNat_of_zero_le hy.1
      exact compare g off cap L p q W h60 (by omega) (by omega) (hr.below (hB.trans (hW.mono hB.size)))
    · rintro e w2 ⟨g2, cap2, m, he, hO2, hp, hu, hB2⟩
      obtain rfl := is_ord L (memI_rises s) hp hu
      refine ⟨g2, cap2, he, ?_, hB.trans (hB2.mono hB.size)⟩
      obtain ⟨h1, ⟨h2, h3⟩ | ⟨g3, c3, cur, e3, hB3, hrest⟩⟩ := hO2
      · exact ⟨h1, .inl ⟨h2, h3⟩⟩
      · exact ⟨h1, .inr ⟨g3, c3, cur, e3, Nat.le_trans hB.size hB3, hrest⟩⟩
  have hpk := pickedN s w
  clear hr hin hl
  generalize Tl.ordL L (memI s) = r at HS
  clear HR
  generalize memI s = m at HS hpk hle
  go_enter Tryz.func26, Tryz.ntmps26
  go_wp2_with fail
  refine hpk.mono ?_
  rintro e w1 ⟨g', cap', rfl, hO, hB⟩
  have hcall := HS.out w1 g' cap' hO hB
  clear hO hB hpk HS
  go_wp2_with fail
  refine hcall.mono ?_
  rintro e w2 ⟨g2, cap2, rfl, hO, hB⟩
  have HM : Hid (Memb.Own w.heap.size w2 (some ⟨g2, 0, none⟩) cap2 r ∧ Below w.heap.size w w2) := ⟨hO, hB⟩
  clear hO hB hcall
  go_wp2
  go_ret
  exact ⟨some ⟨g2, 0, none⟩, cap2, rfl, HM.out.1, HM.out.2⟩

end So
end Go.Proofs.YtmnkankjblnjaaaGreat

namespace Go.Proofs.YtmnkankjblnjaaaGreat
open Go.RowKit
set_option maxRecDepth 100000
set_option linter.unusedVariables false
namespace So
open Kn (K okK)
open Bit (bit withB memTo)
open Lc (at' RdK WordsOk laceB setB)
open Sg (isB bel metI)
open Nd (nodsB)
open Ak (onlyF)
open Memb (memI)

theorem fresh1 (bl ba g off cap : Nat) (L : List K) (a b : Int) (w : World) (hlc : laceB L = true) (hg : g < w.heap.size) (hr : RdK w (some ⟨g, off, none⟩) L)
    (hbl : bl < w.heap.size) (hba : ba < w.heap.size) (cl : w.cell? ⟨bl, 0, none⟩ = some (.slice (some ⟨g, off, none⟩) L.length cap)) (ca : w.cell? ⟨ba, 0, none⟩ = some (.int .i64 a)) :
    Calls Tryz.prog 69 #[.int .i64 b, .pointer (some ⟨bl, 0, none⟩), .pointer (some ⟨ba, 0, none⟩)] w fun e w' => e = .returned (.bool (nodsB L a b)) ∧ Below w.heap.size w w' := by
  have hcall := Nd.nods g off cap L a b w hlc hg hr
  clear hlc
  go_enter Tryz.func69, Tryz.ntmps69
  go_wp2_with fail
  refine hcall.mono ?_
  rintro e w2 ⟨rfl, hb2⟩
  clear hcall
  go_wp2
  go_ret
  exact ⟨rfl, hb2⟩

theorem box2 (w : World) (v : Value) (a : Int) (t u : TypeId) : Below w.heap.size w ((w.alloc (.cells #[v] t)).alloc (.cells #[.int .i64 a] u)) ∧ ((w.alloc (.cells #[v] t)).alloc (.cells #[.int .i64 a] u)).cell? ⟨w.heap.size, 0, none⟩ = some v ∧ ((w.alloc (.cells #[v] t)).alloc (.cells #[.int .i64 a] u)).cell? ⟨w.heap.size + 1, 0, none⟩ = some (.int .i64 a) ∧ w.heap.size + 1 < ((w.alloc (.cells #[v] t)).alloc (.cells #[.int .i64 a] u)).heap.size := by
  have c1 := Sg.boxNew (w.alloc (.cells #[v] t)) (.int .i64 a) u
  simp only [World.size_alloc] at c1
  exact ⟨((Below.refl _ _).alloc (Nat.le_refl _) _).alloc (by simp) _, Sg.boxCell _ (Sg.boxNew w v t).1, c1.1, by simp⟩

/-- those that are left and that k nods to: what is fresh -/
theorem only_fresh {L : List K} (hl : laceB L = true) {k : Nat} (hk : k < L.length) {e : Int} (he0 : -1 ≤ e) (he : e < (L.length : Int)) : onlyF (fun b => nodsB L (k : Int) b) (memI (bits .andNot .i64 (metI L (k : Int)) (metI L e))) = Tl.frS L k e L.length := by
  have h60 := ((Lc.lace_iff L).1 hl).1
  have hmk : metI L (k : Int) = bel L k := by unfold Sg.metI; rw [if_pos ⟨by omega, by omega⟩, Int.toNat_natCast]
  have hme : (0 ≤ metI L e ∧ metI L e < 1152921504606846976) ∧ ∀ j, bit (metI L e) j = (decide (0 ≤ e) && bit (bel L e.toNat) j) := by
    unfold Sg.metI
    by_cases h0 : 0 ≤ e
    · rw [if_pos ⟨h0, he⟩]
      exact ⟨Sg.bel_bd L e.toNat (by omega), fun j => by rw [decide_eq_true h0, Bool.true_and]⟩
    · rw [if_neg (by omega)]
      exact ⟨⟨by omega, by omega⟩, fun j => by rw [Lc.bit_zero, decide_eq_false h0, Bool.false_and]⟩
  have h1 := Sg.bel_bd L k (by omega)
  have hbd := Sg.andNot_bd' (bel L k) (metI L e) h1.1 h1.2
  rw [hmk]
  have ho := Ak.onlyF_bits (fun b => nodsB L (k : Int) b) (memI (bits .andNot .i64 (bel L k) (metI L e))) (fun a h => Ak.mem_memI h)
  refine Lc.eq_of_bits _ _ ho.1.1 (Tl.frS_bd L k e _ h60).1 fun j => ?_
  rw [Bool.eq_iff_iff, ho.2 j, Ak.mem_bit hbd.1 hbd.2, Sg.bit_andNot _ _ h1.1 h1.2 hme.1.1 hme.1.2, hme.2 j, Tl.bit_frS L k e _ h60]
  unfold Tl.fresN Nd.nodsB
  have hik : isB L (k : Int) = true := by unfold Sg.isB; rw [hl]; simp; omega
  rw [hik, Int.toNat_natCast, Int.toNat_natCast]
  simp only [Bool.and_eq_true, Bool.true_and, decide_eq_true_eq]
  constructor
  · rintro ⟨⟨a1, a2⟩, a3, a4⟩
    have hj : j < L.length := by have := Ag.sees_le hl hk a1; omega
    exact ⟨hj, a1, a2, a4⟩
  · rintro ⟨a0, a1, a2, a3⟩
    refine ⟨⟨a1, a2⟩, ?_, a3⟩
    unfold Sg.isB; rw [hl]; simp; omega
theorem memI_of {s : Int} (h0 : 0 ≤ s) (h1 : s < 1152921504606846976) : memI s = memTo s 60 := by
  unfold Memb.memI; rw [(Base.okB_iff s).2 ⟨h0, h1⟩, if_pos rfl]
theorem memI_in {L : List K} (h60 : L.length ≤ 60) {s : Int} (hin : ∀ i, bit s i = true → i < L.length) : ∀ x ∈ memI s, 0 ≤ x ∧ x < (L.length : Int) := fun x hx => by
  unfold Memb.memI at hx
  split at hx
  · obtain ⟨j, _, rfl, hb⟩ := (Bit.mem_memTo s 60 x).1 hx
    have := hin j hb
    omega
  · simp at hx

set_option maxHeartbeats 6400000 in
theorem fresh (g off cap : Nat) (L : List K) (k : Nat) (e : Int) (w : World) (hl : laceB L = true) (hk : k < L.length) (he0 : -1 ≤ e) (he : e < (L.length : Int)) (hg : g < w.heap.size) (hr : RdK w (some ⟨g, off, none⟩) L) :
    Calls Tryz.prog 45 #[.slice (some ⟨g, off, none⟩) L.length cap, .int .i64 (k : Int), .int .i64 e] w (Sg.NumsPost (Tl.freshL L (k : Int) e) w) := by
  have h60 := ((Lc.lace_iff L).1 hl).1
  have HLC : Hid (laceB L = true) := hl
  have HFR : Hid (onlyF (fun b => nodsB L (k : Int) b) (memI (bits .andNot .i64 (metI L (k : Int)) (metI L e))) = Tl.frS L k e L.length) := only_fresh hl hk he0 he
  have HFL : Hid (Tl.freshL L (k : Int) e = Tl.ordL L (memI (Tl.frS L k e L.length))) := by
    show _ = _
    unfold Tl.freshL
    have := Tl.frS_bd L k e L.length h60
    rw [Int.toNat_natCast, memI_of this.1 this.2]
  have HIN : Hid (∀ x ∈ memI (Tl.frS L k e L.length), 0 ≤ x ∧ x < (L.length : Int)) := memI_in h60 (Tl.frS_in h60 k e)
  have P0 : Hid (_) := box2 w (.slice (some ⟨g, off, none⟩) L.length cap) (k : Int) 43 2
  clear hl
  go_enter Tryz.func45, Tryz.ntmps45
  go_wp2_with fail
  generalize (w.alloc (.cells #[.slice (some ⟨g, off, none⟩) L.length cap] 43)).alloc (.cells #[.int .i64 (k : Int)] 2) = w0 at P0 ⊢
  obtain ⟨B0, C0, D0, S0⟩ := P0
  generalize hb : w.heap.size = bl at *
  have hbl : bl < w0.heap.size := by omega
  have hg0 : g < w0.heap.size := by omega
  have HR0 : Hid (RdK w0 (some ⟨g, off, none⟩) L) := hr.below (hb ▸ B0)
  have HBE : Hid (∀ (W : World) (x : Int), Below w0.heap.size w0 W → Calls Tryz.prog 62 #[.slice (some ⟨g, off, none⟩) L.length cap, .int .i64 x] W fun e w' => e = .returned (.int .i64 (metI L x)) ∧ Below W.heap.size W w') := fun W x hW => Sg.below g off cap L x W HLC.out (Nat.lt_of_lt_of_le hg0 hW.size) (HR0.out.below hW)
  clear hr
  obtain ⟨X, _, F, HF, HG⟩ := Fam.fam w0
  have hc0 : ∀ z, (F z).cell? ⟨bl, 0, none⟩ = some (.slice (some ⟨g, off, none⟩) L.length cap) := fun z => ((HF.out z).cell (p := ⟨bl, 0, none⟩) hbl).trans C0
  have hd0 : ∀ z, (F z).cell? ⟨bl + 1, 0, none⟩ = some (.int .i64 (k : Int)) := fun z => ((HF.out z).cell (p := ⟨bl + 1, 0, none⟩) S0).trans D0
  refine Fam.region (F := F) (by kernel_rfl) (by kernel_rfl) (HG.out _ (Below.refl _ w0).drew) ?_
  repeat (go_big_quiet_step (first
    | (go_at_call 62; exact (HBE.out _ _ (HF.out _)).mono fun _ _ h => ⟨h.1, HG.out _ ((HF.out _).trans (h.2.mono (HF.out _).size))⟩)))
  refine wpQuiet_nil ?_
  intro w2 hw2
  obtain ⟨z, rfl⟩ := hw2
  have BV : Below w0.heap.size w0 (F z) := HF.out z
  have cV := hc0 z
  have dV := hd0 z
  clear hc0 hd0 HG HF HBE C0 D0
  generalize F z = V at BV cV dV ⊢
  have hblV : bl < V.heap.size := Nat.lt_of_lt_of_le hbl BV.size
  have hbaV : bl + 1 < V.heap.size := Nat.lt_of_lt_of_le S0 BV.size
  have hgV : g < V.heap.size := Nat.lt_of_lt_of_le hg0 BV.size
  have HRV : Hid (RdK V (some ⟨g, off, none⟩) L) := HR0.out.below BV
  have HBV : Hid (Below bl w V) := B0.trans (BV.mono (by omega))
  have HON : Hid (∀ W : World, Below V.heap.size V W → Calls Tryz.prog 68 #[.int .i64 (bits .andNot .i64 (metI L (k : Int)) (metI L e)), .func (.func 69) #[] #[.pointer (some ⟨bl, 0, none⟩), .pointer (some ⟨bl + 1, 0, none⟩)]] W fun en w' => en = .returned (.int .i64 (Tl.frS L k e L.length)) ∧ Below W.heap.size W w') := fun W hW => by
    have := Ak.only 69 (enters_of Tryz.func69 (by kernel_rfl) rfl) (.pointer (some ⟨bl, 0, none⟩)) (.pointer (some ⟨bl + 1, 0, none⟩)) (fun b => nodsB L (k : Int) b) (bits .andNot .i64 (metI L (k : Int)) (metI L e)) W (fun U b hU _ _ =>
      have hVU : Below V.heap.size V U := hW.trans (hU.mono hW.size)
      fresh1 bl (bl + 1) g off cap L (k : Int) b U HLC.out (Nat.lt_of_lt_of_le hgV hVU.size) (HRV.out.below hVU) (Nat.lt_of_lt_of_le hblV hVU.size) (Nat.lt_of_lt_of_le hbaV hVU.size) ((hVU.cell (p := ⟨bl, 0, none⟩) hblV).trans cV) ((hVU.cell (p := ⟨bl + 1, 0, none⟩) hbaV).trans dV))
    rw [HFR.out] at this
    exact this
  have HOR : Hid (∀ W : World, Below V.heap.size V W → Calls Tryz.prog 26 #[.slice (some ⟨g, off, none⟩) L.length cap, .int .i64 (Tl.frS L k e L.length)] W (Sg.NumsPost (Tl.freshL L (k : Int) e) W)) := fun W hW => by
    have := ordered g off cap L (Tl.frS L k e L.length) W HLC.out (Nat.lt_of_lt_of_le hgV hW.size) (HRV.out.below hW) HIN.out
    rw [← HFL.out] at this
    exact this
  have HSV : Hid (∀ W : World, Below V.heap.size V W → W.cell? ⟨bl, 0, none⟩ = some (.slice (some ⟨g, off, none⟩) L.length cap)) := fun W hW => (hW.cell (p := ⟨bl, 0, none⟩) hblV).trans cV
  have HEND : Hid (∀ (W U : World) (ao : Option Addr) (ca : Nat), Below V.heap.size V W → Memb.Own W.heap.size U ao ca (Tl.freshL L (k : Int) e) → Below W.heap.size W U → Memb.Own bl U ao ca (Tl.freshL L (k : Int) e) ∧ Below bl w U) := fun W U ao ca hW hO hB => by
    have hsz : bl ≤ W.heap.size := Nat.le_trans (Nat.le_of_lt hblV) hW.size
    refine ⟨?_, HBV.out.trans ((hW.mono (Nat.le_of_lt hblV)).trans (hB.mono hsz))⟩
    obtain ⟨h1, ⟨h2, h3⟩ | ⟨g3, c3, cur, e3, hB3, hrest⟩⟩ := hO
    · exact ⟨h1, .inl ⟨h2, h3⟩⟩
    · exact ⟨h1, .inr ⟨g3, c3, cur, e3, Nat.le_trans hsz hB3, hrest⟩⟩
  clear HFR HFL HIN HR0 HRV HBV B0 BV dV S0
  generalize hrr : Tl.freshL L (k : Int) e = r at HOR HEND
  have HRR : Hid (Tl.freshL L (k : Int) e = r) := hrr
  clear hrr
  generalize Tl.frS L k e L.length = fr at HON HOR
  generalize bits .andNot .i64 (metI L (k : Int)) (metI L e) = lf at HON ⊢
  clear hk he0 he h60 hg hbl hg0 hblV hbaV hgV HLC
  go_wp2_with fail
  go_region_with (first
      | (go_at_call 68
         refine (HON.out _ (Below.refl _ _).drew).mono ?_
         rintro e V1 ⟨rfl, b1⟩
         have B1 : Below V.heap.size V V1 := (Below.refl _ V).drew.trans (b1.mono (Nat.le_refl _))
         have c1 := HSV.out _ B1)
      | (go_at_call 26
         refine (HOR.out _ B1).mono ?_
         rintro e V2 ⟨ao, ca, rfl, hO, b2⟩
         have B2 : Hid (_) := HEND.out _ _ _ _ B1 hO b2
         clear hO b2))
  all_goals (go_wp2)
  all_goals go_ret
  all_goals rw [HRR.out]
  all_goals refine ⟨ao, ca, rfl, ?_, ?_⟩
  all_goals rw [hb]
  all_goals first | exact B2.out.1 | exact B2.out.2

end So
end Go.Proofs.YtmnkankjblnjaaaGreat

namespace Go.Proofs.YtmnkankjblnjaaaGreat
open Go.RowKit
set_option maxRecDepth 100000
set_option linter.unusedVariables false
namespace So
open Kn (K okK)
open Bit (bit withB memTo)
open Lc (at' RdK WordsOk laceB setB)
open Sg (isB bel metI orB)
open Memb (memI)
open Tl (inR okAt respB unB)

/-- all that is below those of a list -/
def seenU (L : List K) (l : List Int) : Int := l.foldl (fun x a => orB x (bel L a.toNat)) 0
theorem seenU_snoc (L : List K) (l : List Int) (a : Int) : seenU L (l ++ [a]) = orB (seenU L l) (bel L a.toNat) := by
  unfold seenU; rw [List.foldl_append]; rfl
theorem orB_bd (a b : Int) (h0 : 0 ≤ a) (h1 : a < 1152921504606846976) (h2 : 0 ≤ b) (h3 : b < 1152921504606846976) : 0 ≤ orB a b ∧ orB a b < 1152921504606846976 := by
  unfold Sg.orB
  have := Nat.or_lt_two_pow (x := a.toNat) (y := b.toNat) (n := 60) (by omega) (by omega)
  omega
theorem seenU_bits (L : List K) (h60 : L.length ≤ 60) (l : List Int) (hl : ∀ a ∈ l, 0 ≤ a ∧ a < (L.length : Int)) : (0 ≤ seenU L l ∧ seenU L l < 1152921504606846976) ∧ ∀ j : Nat, bit (seenU L l) j = true ↔ ∃ a ∈ l, bit (bel L a.toNat) j = true := by
  suffices H : ∀ (l : List Int) (x : Int), (∀ a ∈ l, 0 ≤ a ∧ a < (L.length : Int)) → (0 ≤ x ∧ x < 1152921504606846976) →
      (0 ≤ l.foldl (fun x a => orB x (bel L a.toNat)) x ∧ l.foldl (fun x a => orB x (bel L a.toNat)) x < 1152921504606846976) ∧
      ∀ j : Nat, bit (l.foldl (fun x a => orB x (bel L a.toNat)) x) j = true ↔ (bit x j = true ∨ ∃ a ∈ l, bit (bel L a.toNat) j = true) by
    have := H l 0 hl ⟨Int.le_refl 0, by decide⟩
    refine ⟨this.1, fun j => ?_⟩
    rw [show seenU L l = l.foldl (fun x a => orB x (bel L a.toNat)) 0 from rfl, this.2 j, Lc.bit_zero]
    simp
  intro l
  induction l with
  | nil => intro x _ hx; exact ⟨hx, fun j => by simp⟩
  | cons a l ih =>
    intro x hl hx
    have ha := hl a (by simp)
    have hb := Sg.bel_bd L a.toNat (by omega)
    simp only [List.foldl_cons]
    have := ih (orB x (bel L a.toNat)) (fun a h => hl a (by simp [h])) (orB_bd _ _ hx.1 hx.2 hb.1 hb.2)
    refine ⟨this.1, fun j => ?_⟩
    rw [this.2 j, Sg.bit_orB _ _ hx.1 hb.1, Bool.or_eq_true]
    constructor
    · rintro ((h | h) | ⟨b, h1, h2⟩)
      · exact .inl h
      · exact .inr ⟨a, by simp, h⟩
      · exact .inr ⟨b, by simp [h1], h2⟩
    · rintro (h | ⟨b, h1, h2⟩)
      · exact .inl (.inl h)
      · rcases List.mem_cons.1 h1 with e | e
        · subst e; exact .inl (.inr h2)
        · exact .inr ⟨b, e, h2⟩
/-- what the program asks of the i-th -/
def goOk (L : List K) (C : List Int) (i : Nat) : Bool := inR L (C.getD i 0) && !bit (seenU L (C.take i)) (C.getD i 0).toNat
theorem take_at {C : List Int} {p i : Nat} (hp : p < i) (hi : i ≤ C.length) : C.getD p 0 ∈ C.take i := by
  rw [List.mem_iff_getElem?]
  refine ⟨p, ?_⟩
  rw [List.getElem?_take_of_lt hp, List.getElem?_eq_getElem (by omega)]
  simp [List.getD, List.getElem?_eq_getElem (show p < C.length by omega)]
theorem mem_at {C : List Int} {i : Nat} {a : Int} (h : a ∈ C.take i) (hi : i ≤ C.length) : ∃ p, p < i ∧ C.getD p 0 = a := by
  obtain ⟨p, hp, e⟩ := List.getElem_of_mem h
  rw [List.length_take] at hp
  refine ⟨p, by omega, ?_⟩
  rw [← e, List.getElem_take]
  simp [List.getD, List.getElem?_eq_getElem (show p < C.length by omega)]
theorem take_ins {L : List K} {C : List Int} {i : Nat} (hi : i ≤ C.length) (h : ∀ q, q < i → inR L (C.getD q 0) = true) : ∀ a ∈ C.take i, 0 ≤ a ∧ a < (L.length : Int) := fun a ha => by
  obtain ⟨p, hp, e⟩ := mem_at ha hi
  have := (Tl.inR_iff L _).1 (h p hp)
  rw [e] at this; exact this
theorem go_resp {L : List K} (hl : laceB L = true) {C : List Int} (h : ∀ i, i < C.length → goOk L C i = true) : respB L C = true := by
  have h60 := ((Lc.lace_iff L).1 hl).1
  have hin : ∀ i, i < C.length → inR L (C.getD i 0) = true := fun i hi => by have := h i hi; unfold goOk at this; rw [Bool.and_eq_true] at this; exact this.1
  have hno : ∀ p i, p < i → i < C.length → bit (bel L (C.getD p 0).toNat) (C.getD i 0).toNat = true → False := fun p i hp hi hb => by
    have := h i hi
    unfold goOk at this
    rw [Bool.and_eq_true, Bool.not_eq_true'] at this
    have hs := (seenU_bits L h60 (C.take i) (take_ins (by omega) (fun q hq => hin q (by omega)))).2 (C.getD i 0).toNat
    rw [hs.2 ⟨_, take_at hp (by omega), hb⟩] at this
    exact Bool.noConfusion this.2
  refine Tl.resp_yes hl fun i hi => ?_
  have hii := hin i hi
  unfold Tl.okAt
  rw [hii, Bool.true_and, Bool.and_eq_true, Bool.not_eq_true']
  refine ⟨?_, ?_⟩
  · rw [Bool.eq_false_iff]
    intro hc
    obtain ⟨p, hp, e⟩ := mem_at (List.elem_iff.1 hc) (by omega)
    have hr := (Tl.inR_iff L _).1 hii
    refine hno p i hp hi ?_
    rw [e]
    exact Db.bel_self hl (by omega)
  · unfold Tl.unB
    rw [List.all_eq_true]
    intro q hq
    rw [List.mem_range] at hq
    by_cases hqi : q ≤ i
    · rw [decide_eq_true hqi]; rfl
    · rw [decide_eq_false hqi, Bool.false_or, Bool.not_eq_true', Bool.eq_false_iff]
      intro hb
      rw [Bool.and_eq_true] at hb
      exact hno i q (by omega) hq hb.2
theorem go_no {L : List K} (hl : laceB L = true) {C : List Int} {i : Nat} (hi : i < C.length) (hb : ∀ q, q < i → goOk L C q = true) (h : goOk L C i = false) : respB L C = false := by
  have h60 := ((Lc.lace_iff L).1 hl).1
  rw [Bool.eq_false_iff]
  intro hr
  unfold Tl.respB at hr
  rw [Bool.and_eq_true, List.all_eq_true] at hr
  have hok := fun q (hq : q < C.length) => hr.2 q (by simpa using hq)
  have hin : ∀ q, q < C.length → inR L (C.getD q 0) = true := fun q hq => Tl.ok_in (hok q hq)
  unfold goOk at h
  rw [hin i hi, Bool.true_and, Bool.not_eq_false'] at h
  obtain ⟨a, ha, hba⟩ := ((seenU_bits L h60 (C.take i) (take_ins (by omega) (fun q hq => hin q (by omega)))).2 _).1 h
  obtain ⟨p, hp, e⟩ := mem_at ha (by omega)
  have hp' := hok p (by omega)
  unfold Tl.okAt at hp'
  rw [Bool.and_eq_true, Bool.and_eq_true] at hp'
  have := Tl.un_no (L := L) (C := C) (x := C.getD p 0) hp hi (by rw [hin i hi, Bool.true_and, e]; exact hba)
  rw [this] at hp'
  exact Bool.noConfusion hp'.2.2

set_option maxHeartbeats 3200000 in
theorem respects (g off cap : Nat) (L : List K) (ao : Option Addr) (cc : Nat) (C : List Int) (w : World) (hl : laceB L = true) (hg : g < w.heap.size) (hr : RdK w (some ⟨g, off, none⟩) L) (hC : C.length ≤ 1048576) (hrd : Lst.Rd w ao C) (hao : ∀ c, ao = some ⟨c, 0, none⟩ → c < w.heap.size) :
    Calls Tryz.prog 35 #[.slice (some ⟨g, off, none⟩) L.length cap, .slice ao C.length cc] w fun e w' => e = .returned (.bool (respB L C)) ∧ Below w.heap.size w w' := by
  have h60 := ((Lc.lace_iff L).1 hl).1
  have HLC : Hid (laceB L = true) := hl
  have HRD : Hid (∀ W : World, Below w.heap.size w W → ∀ j, j < C.length → ∃ g', ao = some ⟨g', 0, none⟩ ∧ W.cell? ⟨g', j, none⟩ = some (.int .i64 (C.getD j 0))) := fun W hW j hj => by
    rcases hrd with h | ⟨g', e, hc⟩
    · rw [h] at hj; simp at hj
    · exact ⟨g', e, (hW.cell (p := ⟨g', j, none⟩) (hao g' e)).trans (hc j hj)⟩
  have HBE : Hid (∀ (W : World) (x : Int), Below w.heap.size w W → Calls Tryz.prog 62 #[.slice (some ⟨g, off, none⟩) L.length cap, .int .i64 x] W fun e w' => e = .returned (.int .i64 (metI L x)) ∧ Below W.heap.size W w') := fun W x hW => Sg.below g off cap L x W HLC.out (Nat.lt_of_lt_of_le hg hW.size) (hr.below hW)
  clear hrd hao hr hl
  go_enter Tryz.func35, Tryz.ntmps35
  go_wp2
  go_loopw [5, 10] (fun sv iv wr => ∃ i : Nat, i ≤ C.length ∧ iv = .int .i64 i ∧ sv = .int .i64 (seenU L (C.take i)) ∧ Hid (∀ q, q < i → goOk L C q = true) ∧ Hid (Below w.heap.size w wr)) (fun _ iv _ => C.length - (intOf iv).toNat)
  case atStart => exact ⟨0, by omega, rfl, rfl, fun q hq => absurd hq (by omega), Below.refl _ _⟩
  case round =>
    obtain ⟨i, hi, rfl, rfl, HOK, HB⟩ := hrel
    by_cases hil : i < C.length
    · have hii : (i : Int) < (C.length : Int) := by omega
      obtain ⟨g', rfl, ci⟩ := HRD.out wr HB.out i hil
      have hsb := (seenU_bits L h60 (C.take i) (take_ins (by omega) (fun q hq => by have := HOK.out q hq; unfold goOk at this; rw [Bool.and_eq_true] at this; exact this.1))).1
      have HGO : Hid (goOk L C i = (inR L (C.getD i 0) && !bit (seenU L (C.take i)) (C.getD i 0).toNat)) := rfl
      have HSN : Hid (seenU L (C.take (i + 1)) = orB (seenU L (C.take i)) (bel L (C.getD i 0).toNat)) := by
        show _ = _
        rw [Lc.take_snocI C i hil, seenU_snoc]
      have HNO : Hid (goOk L C i = false → respB L C = false) := fun h => go_no HLC.out hil HOK.out h
      have HYES : Hid (goOk L C i = true → ∀ q, q < i + 1 → goOk L C q = true) := fun h q hq => by
        by_cases e : q = i
        · subst e; exact h
        · exact HOK.out q (by omega)
      generalize C.getD i 0 = x at ci HGO HSN
      generalize seenU L (C.take i) = sf at hsb HGO HSN ⊢
      have HA : Hid ((Base.okB (2 ^ L.length - 1) && (Base.inB x && bit (2 ^ L.length - 1) x.toNat)) = inR L x) := Sg.all_has h60 x
      have HALL : Hid (∀ W : World, Calls Tryz.prog 43 #[.slice (some ⟨g, off, none⟩) L.length cap] W fun e w' => e = .returned (.int .i64 (2 ^ L.length - 1)) ∧ W = w') := fun W => Lc.all _ _ _ W h60
      cases hin : inR L x
      · have HT : Hid (respB L C = false) := HNO.out (by rw [HGO.out, hin]; rfl)
        have HAF : Hid ((Base.okB (2 ^ L.length - 1) && (Base.inB x && bit (2 ^ L.length - 1) x.toNat)) = false) := HA.out.trans hin
        clear HGO HSN HNO HYES HA hin HOK hsb
        generalize (2 : Int) ^ L.length - 1 = al at HAF HALL
        go_wp2_with (first | (go_at_call 43; refine (HALL.out _).mono ?_; rintro e w' ⟨rfl, rfl⟩) | (go_at_call 44; refine (Base.has _ _ _).mono ?_; rintro e w' ⟨rfl, rfl⟩; rw [HAF.out]))
        go_ret
        exact ⟨by rw [HT.out]; rfl, HB.out⟩
      · have hx := (Tl.inR_iff L x).1 hin
        have HAF : Hid ((Base.okB (2 ^ L.length - 1) && (Base.inB x && bit (2 ^ L.length - 1) x.toNat)) = true) := HA.out.trans hin
        have HS : Hid ((Base.okB sf && (Base.inB x && bit sf x.toNat)) = bit sf x.toNat) := by
          show _ = _
          rw [(Base.okB_iff sf).2 hsb, (Base.inB_iff x).2 (by omega)]; rfl
        have hne : ¬ (2 : Int) ^ L.length - 1 = sf ∨ True := .inr trivial
        cases hbs : bit sf x.toNat
        · have HSF : Hid ((Base.okB sf && (Base.inB x && bit sf x.toNat)) = false) := HS.out.trans hbs
          have HYS : Hid (∀ q, q < i + 1 → goOk L C q = true) := HYES.out (by rw [HGO.out, hin, hbs]; rfl)
          have hbb := Sg.bel_bd L x.toNat (by omega)
          have HME : Hid (metI L x = bel L x.toNat) := by show _ = _; unfold Sg.metI; rw [if_pos hx]
          have HORB : Hid (bits .or .i64 sf (bel L x.toNat) = seenU L (C.take (i + 1))) := by
            show _ = _
            rw [HSN.out, Bit.i64_or sf _ hsb.1 (by omega) hbb.1 (by omega)]; rfl
          have hcall := HBE.out wr x HB.out
          rw [HME.out] at hcall
          clear HGO HSN HNO HYES HA hin HOK HS hbs HME hne
          generalize bel L x.toNat = bx at hcall HORB hbb
          generalize (2 : Int) ^ L.length - 1 = al at HAF HALL
          go_wp2_with (first | (go_at_call 43; refine (HALL.out _).mono ?_; rintro e w' ⟨rfl, rfl⟩) | (go_at_call 44; refine (Base.has _ _ _).mono ?_; rintro e w' ⟨rfl, rfl⟩; first | rw [HAF.out] | rw [HSF.out]) | (go_at_call 62; refine hcall.mono ?_; rintro e w2 ⟨rfl, hb2⟩))
          rw [HORB.out]
          have HB2 : Hid (Below w.heap.size w w2) := HB.out.trans (hb2.mono HB.out.size)
          clear hb2 hcall HB
          go_roundw
          case rel => exact ⟨i + 1, by omega, by go_num, rfl, HYS, HB2⟩
          case measure => simp [intOf]; omega
        · have HSF : Hid ((Base.okB sf && (Base.inB x && bit sf x.toNat)) = true) := HS.out.trans hbs
          have HT : Hid (respB L C = false) := HNO.out (by rw [HGO.out, hin, hbs]; rfl)
          clear HGO HSN HNO HYES HA hin HOK HS hbs hne
          generalize (2 : Int) ^ L.length - 1 = al at HAF HALL
          go_wp2_with (first | (go_at_call 43; refine (HALL.out _).mono ?_; rintro e w' ⟨rfl, rfl⟩) | (go_at_call 44; refine (Base.has _ _ _).mono ?_; rintro e w' ⟨rfl, rfl⟩; first | rw [HAF.out] | rw [HSF.out]))
          go_ret
          exact ⟨by rw [HT.out]; rfl, HB.out⟩
    · obtain rfl : i = C.length := by omega
      have HT : Hid (respB L C = true) := go_resp HLC.out HOK.out
      clear HOK
      go_wp2
      go_ret
      exact ⟨by rw [HT.out]; rfl, HB.out⟩

end So
end Go.Proofs.YtmnkankjblnjaaaGreat

namespace Go.Proofs.YtmnkankjblnjaaaGreat
open Go.RowKit
set_option maxRecDepth 100000
set_option linter.unusedVariables false
namespace So
open Kn (K okK)
open Bit (bit withB memTo)
open Lc (at' RdK WordsOk laceB setB)
open Sg (isB bel metI)
open Memb (memI)

set_option maxHeartbeats 3200000 in
theorem implOrdered (g off cap : Nat) (L : List K) (s : Int) (w : World) (hlen : L.length ≤ 1099511627776) (hw : WordsOk L) (h0 : -9223372036854775808 ≤ s) (h1 : s ≤ 9223372036854775807) (hr : RdK w (some ⟨g, off, none⟩) L) :
    Calls Tryz.prog 7 #[.slice (some ⟨g, off, none⟩) L.length cap, .int .i64 s] w (Sg.NumsPost (Tl.orderedI L s) w) := by
  have hlf := Lc.laceOf g off cap L w hlen hw hr
  clear hr hw hlen
  go_enter Tryz.func7, Tryz.ntmps7
  go_wp2_with fail
  refine hlf.mono ?_
  rintro e w1 (⟨hl, g', rfl, hg', hrg, hb1⟩ | ⟨hl, rfl, hb1⟩)
  · have h60 := ((Lc.lace_iff L).1 hl).1
    have HS : Hid (setB L s = Lc.inL L.length s) := by show _ = _; rw [Lc.setB_eq, hl]; rfl
    cases hin : Lc.inL L.length s
    · have HT : Hid (Tl.orderedI L s = []) := by show _ = _; unfold Tl.orderedI; rw [HS.out, hin]; rfl
      have HHO : Hid (∀ W : World, Calls Tryz.prog 25 #[.slice (some ⟨g', 0, none⟩) L.length L.length, .int .i64 s] W fun e w' => e = .returned (.bool false) ∧ W = w') := fun W => by
        have := Lc.holds (some ⟨g', 0, none⟩) L.length L.length s W h60 h0 h1
        rwa [hin] at this
      have HP : Hid _ := Ch.nums_nil hb1
      clear hin HS hl hlf hb1 hrg hg'
      go_wp2_with (first | (go_at_call 25; refine (HHO.out _).mono ?_; rintro e w' ⟨rfl, rfl⟩))
      go_ret
      rw [HT.out]
      exact ⟨_, 0, rfl, HP.out.1, HP.out.2⟩
    · have his : setB L s = true := HS.out.trans hin
      obtain ⟨_, q0, q1, qd, _, _⟩ := Lc.setB_parts his
      have HT : Hid (Tl.orderedI L s = Tl.ordL L (memI s)) := by show _ = _; unfold Tl.orderedI; rw [his, if_pos rfl, memI_of q0 q1]
      have HHO : Hid (∀ W : World, Calls Tryz.prog 25 #[.slice (some ⟨g', 0, none⟩) L.length L.length, .int .i64 s] W fun e w' => e = .returned (.bool true) ∧ W = w') := fun W => by
        have := Lc.holds (some ⟨g', 0, none⟩) L.length L.length s W h60 h0 h1
        rwa [hin] at this
      have hcall := ordered g' 0 L.length L s w1 hl hg' hrg (memI_in h60 fun i hi => by
        apply Classical.byContradiction
        intro hn
        rw [Lc.bit_hi s L.length q0 qd i (by omega)] at hi
        exact Bool.noConfusion hi)
      clear hin HS hl hlf hrg hg' his qd
      generalize Tl.ordL L (memI s) = r at HT hcall
      go_wp2_with (first | (go_at_call 25; refine (HHO.out _).mono ?_; rintro e w' ⟨rfl, rfl⟩))
      refine hcall.mono ?_
      rintro e w2 ⟨ro, rc, rfl, hown, hb2⟩
      have HP : Hid (Memb.Own w.heap.size w2 ro rc r ∧ Below w.heap.size w w2) := ⟨Ch.own_base hown hb1.size, hb1.trans (hb2.mono hb1.size)⟩
      clear hcall hown hb2 hb1 HHO
      go_wp2
      go_ret
      rw [HT.out]
      exact ⟨ro, rc, rfl, HP.out.1, HP.out.2⟩
  · have HT : Hid (Tl.orderedI L s = []) := by show _ = _; unfold Tl.orderedI; rw [Lc.setB_eq, hl]; rfl
    have HP : Hid _ := Ch.nums_nil hb1
    clear hl hlf hb1
    go_wp2
    go_ret
    rw [HT.out]
    exact ⟨_, 0, rfl, HP.out.1, HP.out.2⟩

set_option maxHeartbeats 3200000 in
theorem implRespects (g off cap : Nat) (L : List K) (ao : Option Addr) (cc : Nat) (C : List Int) (w : World) (hlen : L.length ≤ 1099511627776) (hw : WordsOk L) (hr : RdK w (some ⟨g, off, none⟩) L) (hC : C.length ≤ 1048576) (hrd : Lst.Rd w ao C) (hao : ∀ c, ao = some ⟨c, 0, none⟩ → c < w.heap.size) :
    Calls Tryz.prog 11 #[.slice (some ⟨g, off, none⟩) L.length cap, .slice ao C.length cc] w fun e w' => e = .returned (.bool (Tl.respB L C)) ∧ Below w.heap.size w w' := by
  have hlf := Lc.laceOf g off cap L w hlen hw hr
  clear hr hw hlen
  have HRD : Hid (∀ W : World, Below w.heap.size w W → Lst.Rd W ao C) := fun W hW => by
    rcases hrd with h | ⟨g', e, hc⟩
    · exact .inl h
    · exact .inr ⟨g', e, fun j hj => (hW.cell (p := ⟨g', j, none⟩) (hao g' e)).trans (hc j hj)⟩
  have HAO : Hid (∀ c, ao = some ⟨c, 0, none⟩ → c < w.heap.size) := hao
  clear hrd hao
  go_enter Tryz.func11, Tryz.ntmps11
  go_wp2_with fail
  refine hlf.mono ?_
  rintro e w1 (⟨hl, g', rfl, hg', hrg, hb1⟩ | ⟨hl, rfl, hb1⟩)
  · have hcall := respects g' 0 L.length L ao cc C w1 hl hg' hrg hC (HRD.out _ hb1) (fun c e => Nat.lt_of_lt_of_le (HAO.out c e) hb1.size)
    clear hl hlf hrg hg' HRD HAO
    go_wp2_with fail
    refine hcall.mono ?_
    rintro e w2 ⟨rfl, hb2⟩
    have HP : Hid (Below w.heap.size w w2) := hb1.trans (hb2.mono hb1.size)
    clear hcall hb2 hb1
    go_wp2
    go_ret
    exact ⟨rfl, HP.out⟩
  · have HT : Hid (Tl.respB L C = false) := by show _ = _; unfold Tl.respB; rw [hl]; rfl
    clear hl hlf HRD HAO
    go_wp2
    go_ret
    exact ⟨by rw [HT.out]; rfl, hb1⟩

set_option maxHeartbeats 3200000 in
theorem implFreshOf (g off cap : Nat) (L : List K) (k e : Int) (w : World) (hlen : L.length ≤ 1099511627776) (hw : WordsOk L) (hr : RdK w (some ⟨g, off, none⟩) L) :
    Calls Tryz.prog 16 #[.slice (some ⟨g, off, none⟩) L.length cap, .int .i64 k, .int .i64 e] w (Sg.NumsPost (Tl.freshI L k e) w) := by
  have hlf := Lc.laceOf g off cap L w hlen hw hr
  clear hr hw hlen
  go_enter Tryz.func16, Tryz.ntmps16
  go_wp2_with fail
  refine hlf.mono ?_
  rintro en w1 (⟨hl, g', rfl, hg', hrg, hb1⟩ | ⟨hl, rfl, hb1⟩)
  · have h60 := ((Lc.lace_iff L).1 hl).1
    have HA : Hid (∀ x : Int, (Base.okB (2 ^ L.length - 1) && (Base.inB x && bit (2 ^ L.length - 1) x.toNat)) = isB L x) := fun x => by rw [Db.isB_lace hl]; exact Sg.all_has h60 x
    have HALL : Hid (∀ W : World, Calls Tryz.prog 43 #[.slice (some ⟨g', 0, none⟩) L.length L.length] W fun e w' => e = .returned (.int .i64 (2 ^ L.length - 1)) ∧ W = w') := fun W => Lc.all _ _ _ W h60
    have HHAS : Hid (∀ (x : Int) (W : World), Calls Tryz.prog 44 #[.int .i64 (2 ^ L.length - 1), .int .i64 x] W fun e w' => e = .returned (.bool (isB L x)) ∧ W = w') := fun x W => by
      have := Base.has (2 ^ L.length - 1) x W
      rwa [HA.out x] at this
    clear HA
    generalize (2 : Int) ^ L.length - 1 = al at HALL HHAS
    have HNIL : Hid (Tl.freshI L k e = [] → Tl.freshI L k e = []) := fun h => h
    by_cases hik : isB L k = true
    · by_cases he : e = -1
      · subst he
        have hkk := hik
        unfold Sg.isB at hkk
        simp only [Bool.and_eq_true, decide_eq_true_eq] at hkk
        obtain ⟨p, rfl⟩ := Int.eq_ofNat_of_zero_le hkk.1
        have HT : Hid (Tl.freshI L (p : Int) (-1) = Tl.freshL L (p : Int) (-1)) := by show _ = _; unfold Tl.freshI; rw [hik]; rfl
        have hcall := fresh g' 0 L.length L p (-1) w1 hl (by omega) (by omega) (by omega) hg' hrg
        have HK : Hid (∀ W : World, Calls Tryz.prog 44 #[.int .i64 al, .int .i64 (p : Int)] W fun e w' => e = .returned (.bool true) ∧ W = w') := fun W => by have := HHAS.out (p : Int) W; rwa [hik] at this
        clear hl hlf hrg hg' hik HHAS HNIL hkk
        generalize Tl.freshL L (p : Int) (-1) = r at HT hcall
        go_wp2_with (first | (go_at_call 43; refine (HALL.out _).mono ?_; rintro e w' ⟨rfl, rfl⟩) | (go_at_call 44; refine (HK.out _).mono ?_; rintro e w' ⟨rfl, rfl⟩))
        refine hcall.mono ?_
        rintro en w2 ⟨ro, rc, rfl, hown, hb2⟩
        have HP : Hid (Memb.Own w.heap.size w2 ro rc r ∧ Below w.heap.size w w2) := ⟨Ch.own_base hown hb1.size, hb1.trans (hb2.mono hb1.size)⟩
        clear hcall hown hb2 hb1
        go_wp2
        go_ret
        rw [HT.out]
        exact ⟨ro, rc, rfl, HP.out.1, HP.out.2⟩
      · by_cases hie : isB L e = true
        · have hkk := hik
          unfold Sg.isB at hkk
          simp only [Bool.and_eq_true, decide_eq_true_eq] at hkk
          obtain ⟨p, rfl⟩ := Int.eq_ofNat_of_zero_le hkk.1
          have hee := hie
          unfold Sg.isB at hee
          simp only [Bool.and_eq_true, decide_eq_true_eq] at hee
          have HT : Hid (Tl.freshI L (p : Int) e = Tl.freshL L (p : Int) e) := by show _ = _; unfold Tl.freshI; rw [hik, hie]; simp
          have hcall := fresh g' 0 L.length L p e w1 hl (by omega) (by omega) (by omega) hg' hrg
          have HHA : Hid (∀ (W : World) (x : Int), (x = (p : Int) ∨ x = e) → Calls Tryz.prog 44 #[.int .i64 al, .int .i64 x] W fun e w' => e = .returned (.bool true) ∧ W = w') := fun W x hx => by
            have := HHAS.out x W
            rcases hx with rfl | rfl
            · rwa [hik] at this
            · rwa [hie] at this
          have he' : (e != -1) = true := by simpa using he
          clear hl hlf hrg hg' hik hie HHAS HNIL hkk
          generalize Tl.freshL L (p : Int) e = r at HT hcall
          go_wp2_with (first | (go_at_call 43; refine (HALL.out _).mono ?_; rintro e w' ⟨rfl, rfl⟩) | (go_at_call 44; refine (HHA.out _ _ (by first | exact .inl rfl | exact .inr rfl)).mono ?_; rintro e w' ⟨rfl, rfl⟩))
          refine hcall.mono ?_
          rintro en w2 ⟨ro, rc, rfl, hown, hb2⟩
          have HP : Hid (Memb.Own w.heap.size w2 ro rc r ∧ Below w.heap.size w w2) := ⟨Ch.own_base hown hb1.size, hb1.trans (hb2.mono hb1.size)⟩
          clear hcall hown hb2 hb1
          go_wp2
          go_ret
          rw [HT.out]
          exact ⟨ro, rc, rfl, HP.out.1, HP.out.2⟩
        · have hie' : isB L e = false := by simpa using hie
          have HT : Hid (Tl.freshI L k e = []) := by show _ = _; unfold Tl.freshI; rw [hik, hie', decide_eq_false he]; rfl
          have hne : isB L k ≠ isB L e := by rw [hik, hie']; simp
          have HHA : Hid (∀ (W : World) (x : Int) (b : Bool), ((x = k ∧ b = true) ∨ (x = e ∧ b = false)) → Calls Tryz.prog 44 #[.int .i64 al, .int .i64 x] W fun e w' => e = .returned (.bool b) ∧ W = w') := fun W x b hx => by
            have := HHAS.out x W
            rcases hx with ⟨rfl, rfl⟩ | ⟨rfl, rfl⟩
            · rwa [hik] at this
            · rwa [hie'] at this
          have he' : (e != -1) = true := by simpa using he
          have HP : Hid _ := Ch.nums_nil hb1
          clear hl hlf hrg hg' hik hie hie' HHAS HNIL hne hb1
          go_wp2_with (first | (go_at_call 43; refine (HALL.out _).mono ?_; rintro e w' ⟨rfl, rfl⟩) | (go_at_call 44; refine (HHA.out _ _ _ (by first | exact .inl ⟨rfl, rfl⟩ | exact .inr ⟨rfl, rfl⟩)).mono ?_; rintro e w' ⟨rfl, rfl⟩))
          go_ret
          rw [HT.out]
          exact ⟨_, 0, rfl, HP.out.1, HP.out.2⟩
    · have hik' : isB L k = false := by simpa using hik
      have HT : Hid (Tl.freshI L k e = []) := by show _ = _; unfold Tl.freshI; rw [hik']; rfl
      have HK : Hid (∀ W : World, Calls Tryz.prog 44 #[.int .i64 al, .int .i64 k] W fun e w' => e = .returned (.bool false) ∧ W = w') := fun W => by have := HHAS.out k W; rwa [hik'] at this
      have HP : Hid _ := Ch.nums_nil hb1
      clear hl hlf hrg hg' hik hik' HHAS HNIL hb1
      go_wp2_with (first | (go_at_call 43; refine (HALL.out _).mono ?_; rintro e w' ⟨rfl, rfl⟩) | (go_at_call 44; refine (HK.out _).mono ?_; rintro e w' ⟨rfl, rfl⟩))
      go_ret
      rw [HT.out]
      exact ⟨_, 0, rfl, HP.out.1, HP.out.2⟩
  · have HT : Hid (Tl.freshI L k e = []) := by show _ = _; unfold Tl.freshI Sg.isB; rw [hl]; simp
    have HP : Hid _ := Ch.nums_nil hb1
    clear hl hlf hb1
    go_wp2
    go_ret
    rw [HT.out]
    exact ⟨_, 0, rfl, HP.out.1, HP.out.2⟩

end So
end Go.Proofs.YtmnkankjblnjaaaGreat
