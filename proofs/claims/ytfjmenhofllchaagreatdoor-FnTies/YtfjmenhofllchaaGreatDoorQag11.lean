/-
 What the program's own HandsOf and AtRound answer, in the words of LaceM; for lists of at most 2^40 knots whose words have at most 2^40 bytes.
-/
import Derived.Test.YtfjmenhofllchaaGreatDoorQag10
namespace Go.Proofs.YtfjmenhofllchaaGreatDoor
open Go.RowKit
set_option maxRecDepth 100000
set_option linter.unusedVariables false
namespace Rm
open Kn (K okK)
open Bit (bit withB)
open Lc (at' RdK laceB WordsOk)
open Sg (bel belows closedTo orB)
def nextRI (L : List K) (h : Hd) : Int := if handOkB L h then nextI L h.has h.last else -1
theorem hok_last {L : List K} {h : Hd} (x : hokB L h = true) : h.last < (L.length : Int) := by
 unfold hokB at x
 simp only [Bool.and_eq_true, beq_iff_eq] at x
 have := lastTo_bd L h.who h.kept L.length
 rw [← x.2.2.2.2.2.2.2.2] at this
 exact this.2
set_option maxHeartbeats 1600000 in
theorem specNextRound (g off cap : Nat) (L : List K) (h : Hd) (w : World) (hcap : L.length ≤ cap) (hw : WordsOk L) (hr : RdK w (some ⟨g, off, none⟩) L) (hk : H64 h) :
   Calls Tryz.prog 26 #[.slice (some ⟨g, off, none⟩) L.length cap, .agg #[.int .i64 h.who, .int .i64 h.has, .int .i64 h.kept, .int .i64 h.last]] w fun e w' => e = .returned (.int .i64 (nextRI L h)) ∧ Below w.heap.size w w' := by
 have P0 : Hid (Below w.heap.size w (w.alloc (.cells #[.int .i64 h.who, .int .i64 h.has, .int .i64 h.kept, .int .i64 h.last] 26)) ∧ HAt (w.alloc (.cells #[.int .i64 h.who, .int .i64 h.has, .int .i64 h.kept, .int .i64 h.last] 26)) w.heap.size 0 h) := ⟨(Below.refl _ _).alloc (Nat.le_refl _) _, hat_new w h _⟩
 have HR : Hid (RdK w (some ⟨g, off, none⟩) L) := hr
 clear hr
 go_enter Tryz.func26, Tryz.ntmps26
 go_upto_region 1 with fail
 generalize w.alloc (.cells #[.int .i64 h.who, .int .i64 h.has, .int .i64 h.kept, .int .i64 h.last] 26) = V at P0 ⊢
 obtain ⟨a0, a1, a2, a3⟩ := cellsH P0.out.2
 have hho := specHandOk g off cap L h V hcap hw (HR.out.below P0.out.1) hk
 go_wp2_with fail
 refine hho.mono ?_
 rintro e w1 ⟨rfl, hb1⟩
 have P1 : Hid (Below w.heap.size w w1 ∧ HAt w1 w.heap.size 0 h) := ⟨P0.out.1.trans (hb1.mono P0.out.1.size), hat_below P0.out.2 hb1⟩
 clear P0 hho hb1 a0 a1 a2 a3
 cases ho : handOkB L h
 · have HT : Hid (nextRI L h = -1) := by show _ = _; unfold nextRI; rw [ho]; rfl
   clear ho
   go_wp2
   go_ret
   exact ⟨by rw [HT.out]; rfl, P1.out.1⟩
 · have hpt := ho
   unfold handOkB at hpt
   rw [Bool.and_eq_true] at hpt
   obtain ⟨hl, hok⟩ := hpt
   have hbd := hok_parts hk hl hok
   have h60 := ((Lc.lace_iff L).1 hl).1
   have HT : Hid (nextRI L h = nextI L h.has h.last) := by show _ = _; unfold nextRI; rw [if_pos ho]
   have hnx := l14Next (some ⟨g, off, none⟩) cap L h.who h.has h.kept h.last w1 h60 (Lc.lace_hands hl) (HR.out.below P1.out.1) hbd.1 hbd.2.1 (hok_last hok)
   obtain ⟨a0, a1, a2, a3⟩ := cellsH P1.out.2
   generalize nextI L h.has h.last = nr at HT hnx
   clear ho hok
   go_wp2_with fail
   refine hnx.mono ?_
   rintro e w2 ⟨rfl, hb2⟩
   have B2 : Below w.heap.size w w2 := P1.out.1.trans (hb2.mono P1.out.1.size)
   clear hnx hb2
   go_wp2
   go_ret
   exact ⟨by rw [HT.out]; rfl, B2⟩
end Rm
namespace Rm
open Kn (K okK)
open Lc (at' RdK laceB flat OwnK cellsOf)
open Cur (At)
theorem hat_put4d {W : World} {b : Nat} {z : Hd} (x : HAt W b 0 z) (y : Hd) : HAt ((((W.setCell ⟨b, 0, none⟩ (.int .i64 y.who)).setCell ⟨b, 1, none⟩ (.int .i64 y.has)).setCell ⟨b, 2, none⟩ (.int .i64 y.kept)).setCell ⟨b, 3, none⟩ (.int .i64 y.last)) b 0 y := by
 have q := hput x (.int .i64 y.who) (.int .i64 y.has) (.int .i64 y.kept) (.int .i64 y.last)
 have f1 := x.f1
 have f2 := x.f2
 have f3 := x.f3
 exact ⟨by simpa using x.lt, q.1, by simpa using q.2.1, by simpa using q.2.2.1, by simpa using q.2.2.2, by simpa using x.f0, by simpa using f1, by simpa using f2, by simpa using f3⟩
theorem hat_grown {w w' : World} {c b o : Nat} {h : Hd} (x : HAt w b o h) (hg : w.grownBy w' (some c)) (hb : b ≠ c) : HAt w' b o h := by
 have e := hg.block b x.lt (by simp; omega)
 exact ⟨Nat.lt_of_lt_of_le x.lt hg.size, (World.cell?_of_block (a := ⟨b, o, none⟩) e).trans x.c0, (World.cell?_of_block (a := ⟨b, o + 1, none⟩) e).trans x.c1, (World.cell?_of_block (a := ⟨b, o + 2, none⟩) e).trans x.c2, (World.cell?_of_block (a := ⟨b, o + 3, none⟩) e).trans x.c3,
   (World.frozen?_of_block (a := ⟨b, o, none⟩) e).trans x.f0, (World.frozen?_of_block (a := ⟨b, o + 1, none⟩) e).trans x.f1, (World.frozen?_of_block (a := ⟨b, o + 2, none⟩) e).trans x.f2, (World.frozen?_of_block (a := ⟨b, o + 3, none⟩) e).trans x.f3⟩
structure HlSt (c : Nat) (a : Option Addr) (len cap : Nat) (w wr : World) (v : Value) (L : List K) (b : Nat) (h : Hd) : Prop where
 at' : At c a len cap wr
 gr : w.grownBy wr (some c)
 lo : OwnK 36 (b + 1) wr v L
 l61 : L.length ≤ 61
 wd : ∀ k ∈ L, k.word.size ≤ 13
 ha : HAt wr b 0 h
 ze : HAt wr w.heap.size 0 ⟨0, 0, 0, 0⟩
 bw : w.heap.size < b
 h64 : H64 h
theorem HlSt.grown {c : Nat} {a : Option Addr} {len cap : Nat} {w wr w1 : World} {v : Value} {L : List K} {b : Nat} {h : Hd} (s : HlSt c a len cap w wr v L b h) (hc : c < w.heap.size) (hA : At c a len cap w1) (hG : wr.grownBy w1 (some c)) : HlSt c a len cap w w1 v L b h :=
 ⟨hA, Cur.grownBy_trans s.gr hG, ownK_grown s.lo hG (by have := s.bw; omega), s.l61, s.wd, hat_grown s.ha hG (by have := s.bw; omega), hat_grown s.ze hG (by omega), s.bw, s.h64⟩
theorem HlSt.below {c : Nat} {a : Option Addr} {len cap : Nat} {w wr w1 : World} {v : Value} {L : List K} {b : Nat} {h : Hd} (s : HlSt c a len cap w wr v L b h) (hb : Below wr.heap.size wr w1) : HlSt c a len cap w w1 v L b h :=
 ⟨s.at'.below hb, Cur.grownBy_trans s.gr ⟨hb.os, hb.tape, hb.output, hb.size, fun i hi _ => hb.block i hi⟩, Lc.ownK_below s.lo hb, s.l61, s.wd, hat_below s.ha hb, hat_below s.ze hb, s.bw, s.h64⟩
theorem HlSt.store {c : Nat} {a : Option Addr} {len cap : Nat} {w wr : World} {v : Value} {L : List K} {b : Nat} {h h' : Hd} (s : HlSt c a len cap w wr v L b h) (hc : c < w.heap.size) (hcb : len = 0 ∨ ∃ b off, a = some ⟨b, off, none⟩ ∧ b < w.heap.size) (j : Nat) (u : Value) (hh : HAt (wr.setCell ⟨b, j, none⟩ u) b 0 h') (h64 : H64 h') : HlSt c a len cap w (wr.setCell ⟨b, j, none⟩ u) v L b h' where
 at' := Kn.At.put s.at' (by have := s.bw; omega) hcb (by have := s.bw; omega) j u
 gr := by
   refine ⟨s.gr.os, s.gr.tape, s.gr.output, by simpa using s.gr.size, fun k hk hne => ?_⟩
   rw [Below.heap_setCell wr ⟨b, j, none⟩ u k (by have := s.bw; simp; omega)]
   exact s.gr.block k hk hne
 lo := by
   obtain ⟨h1, h2⟩ := s.lo
   refine ⟨?_, h2⟩
   obtain ⟨q1, q2⟩ := h1
   refine ⟨q1, ?_⟩
   rcases q2 with q2 | ⟨g, cp, cur, e, hB, hg, rest⟩
   · exact .inl q2
   · exact .inr ⟨g, cp, cur, e, hB, (Below.heap_setCell wr ⟨b, j, none⟩ u g (by simp; omega)).trans hg, rest⟩
 l61 := s.l61
 wd := s.wd
 ha := hh
 ze := hat_other s.ze (by have := s.bw; omega) u
 bw := s.bw
 h64 := h64
def HlPost (c : Nat) (a : Option Addr) (len cap : Nat) (w : World) (e : Ending) (w' : World) : Prop := ∃ v L h, e = .returned (.tuple #[v, .agg #[.int .i64 (h : Hd).who, .int .i64 h.has, .int .i64 h.kept, .int .i64 h.last]]) ∧ At c a len cap w' ∧ w.grownBy w' (some c) ∧ OwnK 36 w.heap.size w' v L ∧ L.length ≤ 61 ∧ (∀ k ∈ L, k.word.size ≤ 13) ∧ H64 h
structure RgPre (c : Nat) (a : Option Addr) (len cap : Nat) (w : World) (R : Ro) (rb B : Nat) (X : World) : Prop where
 at' : At c a len cap X
 gr : w.grownBy X (some c)
 ze : HAt X w.heap.size 0 ⟨0, 0, 0, 0⟩
 own : X.ownsRow B 36 4 R.lv R.L.length (flat R.L)
 c0 : X.cell? ⟨rb, 0, none⟩ = some R.lv
 c2 : X.cell? ⟨rb, 2, none⟩ = some (.slice (some ⟨R.gh, 0, none⟩) 4 R.hc)
 ha : ∀ i, i < 4 → HAt X R.gh (i * 4) (R.hs i)
 rl : rb < X.heap.size
theorem RgPre.grown {c : Nat} {a : Option Addr} {len cap : Nat} {w : World} {R : Ro} {rb B : Nat} {X Y : World} (s : RgPre c a len cap w R rb B X) (hc : c < w.heap.size) (hB : w.heap.size ≤ B) (hrb : w.heap.size ≤ rb) (hgh : w.heap.size ≤ R.gh) (hA : At c a len cap Y) (hG : X.grownBy Y (some c)) : RgPre c a len cap w R rb B Y where
 at' := hA
 gr := Cur.grownBy_trans s.gr hG
 ze := hat_grown s.ze hG (by omega)
 own := s.own.kept hG (by
   by_cases h : R.lv.ownBlock = none
   · exact .inl h
   · refine .inr (fun e => ?_)
     have := (World.ownsRow.lt s.own c e).1
     omega)
 c0 := hG.cell s.c0 (by simp; omega)
 c2 := hG.cell s.c2 (by simp; omega)
 ha := fun i hi => hat_grown (s.ha i hi) hG (by omega)
 rl := Nat.lt_of_lt_of_le s.rl hG.size
theorem RgPre.below {c : Nat} {a : Option Addr} {len cap : Nat} {w : World} {R : Ro} {rb B : Nat} {X Y : World} (s : RgPre c a len cap w R rb B X) (hb : Below X.heap.size X Y) : RgPre c a len cap w R rb B Y where
 at' := s.at'.below hb
 gr := Cur.grownBy_trans s.gr ⟨hb.os, hb.tape, hb.output, hb.size, fun i hi _ => hb.block i hi⟩
 ze := hat_below s.ze hb
 own := Fm.row_below s.own hb
 c0 := (hb.cell (p := ⟨rb, 0, none⟩) s.rl).trans s.c0
 c2 := (hb.cell (p := ⟨rb, 2, none⟩) s.rl).trans s.c2
 ha := fun i hi => hat_below (s.ha i hi) hb
 rl := Nat.lt_of_lt_of_le s.rl hb.size
def RgS (R : Ro) (rb : Nat) (X : World) : Prop := X.cell? ⟨rb, 2, none⟩ = some (.slice (some ⟨R.gh, 0, none⟩) 4 R.hc) ∧ ∀ i, i < 4 → X.cell? ⟨R.gh, i * 4, none⟩ = some (.int .i64 (R.hs i).who) ∧ X.cell? ⟨R.gh, i * 4 + 1, none⟩ = some (.int .i64 (R.hs i).has) ∧ X.cell? ⟨R.gh, i * 4 + 2, none⟩ = some (.int .i64 (R.hs i).kept) ∧ X.cell? ⟨R.gh, i * 4 + 3, none⟩ = some (.int .i64 (R.hs i).last)
theorem RgPre.s {c : Nat} {a : Option Addr} {len cap : Nat} {w : World} {R : Ro} {rb B : Nat} {X : World} (x : RgPre c a len cap w R rb B X) : RgS R rb X := ⟨x.c2, fun i hi => ⟨(x.ha i hi).c0, (x.ha i hi).c1, (x.ha i hi).c2, (x.ha i hi).c3⟩⟩
def RgSt (c : Nat) (a : Option Addr) (len cap : Nat) (w : World) (R : Ro) (rb B : Nat) (W : World) (b : Nat) (h : Hd) : Prop := RgPre c a len cap w R rb B W ∧ HAt W b 0 h ∧ w.heap.size < b ∧ b ≠ rb ∧ H64 h
theorem rg_late {c : Nat} {a : Option Addr} {len cap : Nat} {w : World} {R : Ro} {rb B : Nat} {Y : World} (s : RgPre c a len cap w R rb B Y) (h : Hd) (h64 : H64 h) (t : TypeId) : RgSt c a len cap w R rb B (Y.alloc (.cells #[.int .i64 h.who, .int .i64 h.has, .int .i64 h.kept, .int .i64 h.last] t)) Y.heap.size h :=
 ⟨s.below ((Below.refl _ _).alloc (Nat.le_refl _) _), hat_new Y h t, s.ze.lt, by have := s.rl; omega, h64⟩
theorem rg_early {c : Nat} {a : Option Addr} {len cap : Nat} {w : World} {R : Ro} {rb B : Nat} {Y : World} {b : Nat} (s : RgPre c a len cap w R rb B Y) (hcb : len = 0 ∨ ∃ b off, a = some ⟨b, off, none⟩ ∧ b < w.heap.size) (hc : c < w.heap.size) (hz : HAt Y b 0 ⟨0, 0, 0, 0⟩) (hw : w.heap.size < b) (hrb : b ≠ rb) (hgh : b ≠ R.gh) (hrow : R.lv.ownBlock ≠ some b) (h : Hd) (h64 : H64 h) :
   RgSt c a len cap w R rb B ((((Y.setCell ⟨b, 0, none⟩ (.int .i64 h.who)).setCell ⟨b, 1, none⟩ (.int .i64 h.has)).setCell ⟨b, 2, none⟩ (.int .i64 h.kept)).setCell ⟨b, 3, none⟩ (.int .i64 h.last)) b h := by
 have one : ∀ (X : World) (j : Nat) (u : Value), RgPre c a len cap w R rb B X → RgPre c a len cap w R rb B (X.setCell ⟨b, j, none⟩ u) := fun X j u x => {
   at' := Kn.At.put x.at' (by omega) hcb (by omega) j u
   gr := ⟨x.gr.os, x.gr.tape, x.gr.output, by simpa using x.gr.size, fun k hk hne => by rw [Below.heap_setCell X ⟨b, j, none⟩ u k (by simp; omega)]; exact x.gr.block k hk hne⟩
   ze := hat_other x.ze (by omega) u
   own := by
     obtain ⟨q1, q2⟩ := x.own
     refine ⟨q1, ?_⟩
     rcases q2 with q2 | ⟨g, cp, cur, e, hB, hg, rest⟩
     · exact .inl q2
     · refine .inr ⟨g, cp, cur, e, hB, (Below.heap_setCell X ⟨b, j, none⟩ u g ?_).trans hg, rest⟩
       intro eg
       simp only at eg
       exact hrow (by rw [e, ← eg]; rfl)
   c0 := (World.cell?_of_block (a := ⟨rb, 0, none⟩) (Below.heap_setCell X ⟨b, j, none⟩ u rb (Ne.symm hrb))).trans x.c0
   c2 := (World.cell?_of_block (a := ⟨rb, 2, none⟩) (Below.heap_setCell X ⟨b, j, none⟩ u rb (Ne.symm hrb))).trans x.c2
   ha := fun i hi => hat_other (x.ha i hi) (Ne.symm hgh) u
   rl := by simpa using x.rl }
 exact ⟨one _ _ _ (one _ _ _ (one _ _ _ (one _ _ _ s))), hat_put4d hz h, hw, hrb, h64⟩
theorem HlSt.fin {c : Nat} {a : Option Addr} {len cap : Nat} {w wr : World} {v : Value} {L : List K} {b : Nat} {h : Hd} (s : HlSt c a len cap w wr v L b h) (hc : c < w.heap.size) (hcb : len = 0 ∨ ∃ b off, a = some ⟨b, off, none⟩ ∧ b < w.heap.size) (d : Nat) :
   ∃ W, W = ((((wr.setCell ⟨w.heap.size, 0, none⟩ (.int .i64 h.who)).setCell ⟨w.heap.size, 1, none⟩ (.int .i64 h.has)).setCell ⟨w.heap.size, 2, none⟩ (.int .i64 h.kept)).setCell ⟨w.heap.size, 3, none⟩ (.int .i64 h.last)) ∧ HAt W w.heap.size 0 h ∧ HlPost c a len cap w (.returned (.tuple #[v, .agg #[.int .i64 h.who, .int .i64 h.has, .int .i64 h.kept, .int .i64 h.last]])) (W.drewN d) := by
 refine ⟨_, rfl, hat_put4d s.ze h, v, L, h, rfl, ?_, ?_, ?_, s.l61, s.wd, s.h64⟩
 · have := Kn.At.put (Kn.At.put (Kn.At.put (Kn.At.put s.at' (kb := w.heap.size) (by omega) hcb (Nat.le_refl _) 0 (.int .i64 h.who)) (by omega) hcb (Nat.le_refl _) 1 (.int .i64 h.has)) (by omega) hcb (Nat.le_refl _) 2 (.int .i64 h.kept)) (by omega) hcb (Nat.le_refl _) 3 (.int .i64 h.last)
   exact this.below ⟨rfl, rfl, rfl, Nat.le_refl _, fun _ _ => rfl⟩
 · refine ⟨s.gr.os, s.gr.tape, s.gr.output, by simpa using s.gr.size, fun k hk hne => ?_⟩
   show ((((wr.setCell ⟨w.heap.size, 0, none⟩ (.int .i64 h.who)).setCell ⟨w.heap.size, 1, none⟩ (.int .i64 h.has)).setCell ⟨w.heap.size, 2, none⟩ (.int .i64 h.kept)).setCell ⟨w.heap.size, 3, none⟩ (.int .i64 h.last)).heap[k]? = _
   have q : k ≠ w.heap.size := by omega
   rw [Below.heap_setCell _ ⟨w.heap.size, 3, none⟩ _ k q, Below.heap_setCell _ ⟨w.heap.size, 2, none⟩ _ k q, Below.heap_setCell _ ⟨w.heap.size, 1, none⟩ _ k q, Below.heap_setCell _ ⟨w.heap.size, 0, none⟩ _ k q]
   exact s.gr.block k hk hne
 · obtain ⟨h1, h2⟩ := s.lo
   refine ⟨?_, h2⟩
   obtain ⟨q1, q2⟩ := h1
   refine ⟨q1, ?_⟩
   rcases q2 with q2 | ⟨g, cp, cur, e, hB, hg, rest⟩
   · exact .inl q2
   · have hbw := s.bw
     refine .inr ⟨g, cp, cur, e, by omega, ?_, rest⟩
     show ((((wr.setCell ⟨w.heap.size, 0, none⟩ (.int .i64 h.who)).setCell ⟨w.heap.size, 1, none⟩ (.int .i64 h.has)).setCell ⟨w.heap.size, 2, none⟩ (.int .i64 h.kept)).setCell ⟨w.heap.size, 3, none⟩ (.int .i64 h.last)).heap[g]? = _
     have q : g ≠ w.heap.size := by omega
     rw [Below.heap_setCell _ ⟨w.heap.size, 3, none⟩ _ g q, Below.heap_setCell _ ⟨w.heap.size, 2, none⟩ _ g q, Below.heap_setCell _ ⟨w.heap.size, 1, none⟩ _ g q, Below.heap_setCell _ ⟨w.heap.size, 0, none⟩ _ g q]
     exact hg
theorem hat_zero (w : World) (t : TypeId) : HAt (w.alloc (.cells #[.int .i64 0, .int .i64 0, .int .i64 0, .int .i64 0] t)) w.heap.size 0 ⟨0, 0, 0, 0⟩ := hat_new w ⟨0, 0, 0, 0⟩ t
set_option maxHeartbeats 6400000 in
theorem l13Draw (HD : DrawsRoom) (HDC : DrawsRoomC) (c : Nat) (a : Option Addr) (len cap : Nat) (w : World) (hl : len ≤ 4096) (hc : At c a len cap w) :
   Calls Tryz.prog 36 #[.pointer (some ⟨c, 0, none⟩)] w (HlPost c a len cap w) := by
 have hcw : c < w.heap.size := hc.lt
 have HDD : Hid DrawsRoom := HD
 have HDX : Hid DrawsRoomC := HDC
 have HZ0 : Hid (HAt (w.alloc (.cells #[.int .i64 0, .int .i64 0, .int .i64 0, .int .i64 0] 26)) w.heap.size 0 ⟨0, 0, 0, 0⟩ ∧ At c a len cap (w.alloc (.cells #[.int .i64 0, .int .i64 0, .int .i64 0, .int .i64 0] 26)) ∧ w.grownBy (w.alloc (.cells #[.int .i64 0, .int .i64 0, .int .i64 0, .int .i64 0] 26)) (some c)) :=
   ⟨hat_zero w _, hc.below ((Below.refl _ _).alloc (Nat.le_refl _) _), World.grownBy_alloc _ _ _⟩
 clear HD HDC
 go_enter Tryz.func36, Tryz.ntmps36
 go_wp2_with fail
 generalize hw0 : w.alloc (.cells #[.int .i64 0, .int .i64 0, .int .i64 0, .int .i64 0] 26) = w0 at HZ0 ⊢
 refine (HDX.out c a len cap _ hl HZ0.out.2.1).mono ?_
 rintro e w1 ⟨R, rfl, hP, hA1, hF1, ⟨hCo1, _⟩, hCB1⟩
 obtain ⟨ro, cp, hlv, ho, hz, _, hrd, _⟩ := own_lace hP.own
 have h60 := ((Lc.lace_iff R.L).1 hP.lace).1
 have HWD : Hid (∀ k ∈ R.L, k.word.size ≤ 13) := word_lace hP.lace
 obtain ⟨co, n, cc, hcv⟩ : ∃ co n cc, R.cv = .slice co n cc := by obtain ⟨co, cc, l, e, _⟩ := hCo1; exact ⟨co, l.length, cc, e⟩
 have HV : Hid (roV R = .agg #[.slice ro R.L.length cp, .slice co n cc, .slice (some ⟨R.gh, 0, none⟩) 4 R.hc, .int .i64 R.bad]) := by show _ = _; unfold roV; rw [hlv, hcv]
 rw [HV.out]
 have hs0 : w0.heap.size = w.heap.size + 1 := by rw [← hw0]; simp
 have HG1 : Hid (w.grownBy w1 (some c)) := Cur.grownBy_trans HZ0.out.2.2 hF1.grown
 have HZ1 : Hid (HAt w1 w.heap.size 0 ⟨0, 0, 0, 0⟩) := hat_grown HZ0.out.1 hF1.grown (by omega)
 have HP2 : Hid (Q4 (w1.alloc (.cells #[.slice ro R.L.length cp, .slice co n cc, .slice (some ⟨R.gh, 0, none⟩) 4 R.hc, .int .i64 R.bad] 107)) w1.heap.size (.slice ro R.L.length cp) (.slice co n cc) (.slice (some ⟨R.gh, 0, none⟩) 4 R.hc) (.int .i64 R.bad) ∧ Below w1.heap.size w1 (w1.alloc (.cells #[.slice ro R.L.length cp, .slice co n cc, .slice (some ⟨R.gh, 0, none⟩) 4 R.hc, .int .i64 R.bad] 107))) := ⟨q4_new _ _ _ _ _ _, (Below.refl _ _).alloc (Nat.le_refl _) _⟩
 go_upto_region 2 with fail
 generalize w1.alloc (.cells #[.slice ro R.L.length cp, .slice co n cc, .slice (some ⟨R.gh, 0, none⟩) 4 R.hc, .int .i64 R.bad] 107) = V at HP2 ⊢
 have hbV : Below w1.heap.size w1 V := HP2.out.2
 have hrl : w1.heap.size < V.heap.size := HP2.out.1.lt
 have HPV : Hid (RgPre c a len cap w R w1.heap.size w0.heap.size V) := ⟨hA1.below hbV, Cur.grownBy_trans HG1.out ⟨hbV.os, hbV.tape, hbV.output, hbV.size, fun i hi _ => hbV.block i hi⟩, hat_below HZ1.out hbV, Fm.row_below hP.own hbV, by rw [hlv]; exact HP2.out.1.c0, HP2.out.1.c2, fun i hi => hat_below (hP.hands i hi) hbV, hrl⟩
 have HOK : Hid (∀ i, i < 4 → H64 (R.hs i)) := fun i hi => by
   have q := hP.hok i hi
   have := q.h0
   have := q.h1
   have := q.k0
   have := q.k1
   exact ⟨by omega, by omega, by omega, by omega⟩
 have hghB : w.heap.size ≤ R.gh := by have := hP.gB; omega
 have hrbB : w.heap.size ≤ w1.heap.size := HG1.out.size
 have HCB : Hid (len = 0 ∨ ∃ b off, a = some ⟨b, off, none⟩ ∧ b < w.heap.size) := by
   rcases hc.bytes with h0 | ⟨b, off, ha, _, hb, _⟩
   · exact .inl h0
   · exact .inr ⟨b, off, ha, hb⟩
 have HFAR : Hid (V.heap.size ≠ w1.heap.size ∧ V.heap.size ≠ R.gh ∧ R.lv.ownBlock ≠ some V.heap.size ∧ w.heap.size < V.heap.size) := by
   refine ⟨by omega, by have := (HPV.out.ha 0 (by omega)).lt; omega, fun e => ?_, HPV.out.ze.lt⟩
   have := (World.ownsRow.lt HPV.out.own _ e).2
   omega
 have hlv0 : R.lv = .slice ro R.L.length cp := hlv
 generalize w1.heap.size = rb at HPV hrl hrbB HFAR ⊢
 clear hP hlv hA1 hF1 hCo1 hCB1 ho hz hrd HV HP2 HG1 hbV hcv HZ0 HZ1
 have HCALL : Hid (∀ X : World, RgPre c a len cap w R rb w0.heap.size X → Calls Tryz.prog 63 #[.pointer (some ⟨c, 0, none⟩), .int .i64 4] X fun e Y => ∃ x : Nat, e = .returned (.int .i64 (x : Int)) ∧ x < 4 ∧ RgPre c a len cap w R rb w0.heap.size Y ∧ X.grownBy Y (some c)) := fun X hX => by
   refine (Cur.below c a len cap 4 X hl (by omega) hX.at').mono ?_
   rintro e Y ⟨x, rfl, hx0, hx1, hAY, hGY⟩
   obtain ⟨p, rfl⟩ := Int.eq_ofNat_of_zero_le hx0
   exact ⟨p, rfl, by have := hx1 (by omega); omega, hX.grown hcw (by omega) hrbB hghB hAY hGY, hGY⟩
 have HVd : Hid (RgPre c a len cap w R rb w0.heap.size V.drew) := HPV.out.below (Below.refl _ V).drew
 have HVe : Hid (RgPre c a len cap w R rb w0.heap.size (V.drew.alloc (.cells #[.int .i64 0, .int .i64 0, .int .i64 0, .int .i64 0] 26)) ∧ HAt (V.drew.alloc (.cells #[.int .i64 0, .int .i64 0, .int .i64 0, .int .i64 0] 26)) V.heap.size 0 ⟨0, 0, 0, 0⟩) := ⟨HPV.out.below ((Below.refl _ V).drew.alloc (Nat.le_refl _) _), hat_zero V.drew _⟩
 have HVf : Hid (RgPre c a len cap w R rb w0.heap.size (V.alloc (.cells #[.int .i64 0, .int .i64 0, .int .i64 0, .int .i64 0] 26)).drew ∧ HAt (V.alloc (.cells #[.int .i64 0, .int .i64 0, .int .i64 0, .int .i64 0] 26)).drew V.heap.size 0 ⟨0, 0, 0, 0⟩) := ⟨HPV.out.below ((Below.refl _ V).alloc (Nat.le_refl _) _).drew, hat_drew (hat_zero V _)⟩
 have HAL : Hid (∀ Y : World, RgPre c a len cap w R rb w0.heap.size Y → RgPre c a len cap w R rb w0.heap.size (Y.alloc (.cells #[.int .i64 0, .int .i64 0, .int .i64 0, .int .i64 0] 26))) := fun Y h => h.below ((Below.refl _ Y).alloc (Nat.le_refl _) _)
 have HLA : Hid (∀ (Y : World) (x : Nat), RgPre c a len cap w R rb w0.heap.size Y → x < 4 → RgSt c a len cap w R rb w0.heap.size (Y.alloc (.cells #[.int .i64 (R.hs x).who, .int .i64 (R.hs x).has, .int .i64 (R.hs x).kept, .int .i64 (R.hs x).last] 26)) Y.heap.size (R.hs x)) := fun Y x pY hx => rg_late pY (R.hs x) (HOK.out x hx) _
 have HEA : Hid (∀ (Y : World) (x : Nat), RgPre c a len cap w R rb w0.heap.size Y → x < 4 → HAt Y V.heap.size 0 ⟨0, 0, 0, 0⟩ → RgSt c a len cap w R rb w0.heap.size ((((Y.setCell ⟨V.heap.size, 0, none⟩ (.int .i64 (R.hs x).who)).setCell ⟨V.heap.size, 1, none⟩ (.int .i64 (R.hs x).has)).setCell ⟨V.heap.size, 2, none⟩ (.int .i64 (R.hs x).kept)).setCell ⟨V.heap.size, 3, none⟩ (.int .i64 (R.hs x).last)) V.heap.size (R.hs x)) := fun Y x pY hx gz =>
   rg_early pY HCB.out hcw gz HFAR.out.2.2.2 HFAR.out.1 HFAR.out.2.1 HFAR.out.2.2.1 (R.hs x) (HOK.out x hx)
 go_cut [5] from 9 to 14 (fun p wx => ∃ b h, p = .pointer (some ⟨b, 0, none⟩) ∧ Hid (RgSt c a len cap w R rb w0.heap.size wx b h))
 case first =>
   go_region_held3 (fun X => X.cell? ⟨rb, 2, none⟩ = some (.slice (some ⟨R.gh, 0, none⟩) 4 R.hc) ∧ ∀ i, i < 4 → X.cell? ⟨R.gh, i * 4, none⟩ = some (.int .i64 (R.hs i).who) ∧ X.cell? ⟨R.gh, i * 4 + 1, none⟩ = some (.int .i64 (R.hs i).has) ∧ X.cell? ⟨R.gh, i * 4 + 2, none⟩ = some (.int .i64 (R.hs i).kept) ∧ X.cell? ⟨R.gh, i * 4 + 3, none⟩ = some (.int .i64 (R.hs i).last)) (first
       | exact HVd.out.s
       | exact HVe.out.1.s
       | exact HVf.out.1.s
       | exact PY.out.s
       | exact (HAL.out _ PY.out).s
       | exact (HLA.out _ _ PY.out hx4).1.s
       | exact (HEA.out _ _ PY.out hx4 GZ).1.s
       | go_keep) (first
       | (go_at_call 63
          (first
            | (refine (HCALL.out _ HVd.out).mono ?_; rintro e Y ⟨x, rfl, hx4, pY, gY⟩)
            | (refine (HCALL.out _ HVe.out.1).mono ?_; rintro e Y ⟨x, rfl, hx4, pY, gY⟩)
            | (refine (HCALL.out _ HVf.out.1).mono ?_; rintro e Y ⟨x, rfl, hx4, pY, gY⟩))
          have PY : Hid (RgPre c a len cap w R rb w0.heap.size Y) := pY
          have hx4i : (x : Int) < 4 := Int.ofNat_lt.2 hx4
          have z0 := (PY.out.ha x hx4).c0
          have z1 := (PY.out.ha x hx4).c1
          have z2 := (PY.out.ha x hx4).c2
          have z3 := (PY.out.ha x hx4).c3
          have y0 := ((HAL.out _ PY.out).ha x hx4).c0
          have y1 := ((HAL.out _ PY.out).ha x hx4).c1
          have y2 := ((HAL.out _ PY.out).ha x hx4).c2
          have y3 := ((HAL.out _ PY.out).ha x hx4).c3
          (first | (have GZ := hat_grown HVe.out.2 gY (by have := HFAR.out.2.2.2; omega)) | (have GZ := hat_grown HVf.out.2 gY (by have := HFAR.out.2.2.2; omega)) | skip)
          (first | (have g0 := GZ.c0; have g1 := GZ.c1; have g2 := GZ.c2; have g3 := GZ.c3; have f0 := GZ.f0; have f1 := GZ.f1; have f2 := GZ.f2; have f3 := GZ.f3; simp only [Nat.zero_add] at g1 g2 g3 f1 f2 f3) | skip)
          clear pY))
   all_goals go_wp2_with fail
   all_goals go_meet
   all_goals (first | exact ⟨_, _, rfl, HLA.out _ _ PY.out hx4⟩ | exact ⟨_, _, rfl, HEA.out _ _ PY.out hx4 GZ⟩)
 case rest =>
   obtain ⟨b, h, rfl, HR⟩ := hcut
   clear HVd HVe HVf HAL HLA HEA HCALL HPV
   have hle := hlv0
   obtain ⟨ro2, cp2, hlv2, ho2, hz2, _, hrd2, _⟩ := own_lace HR.out.1.own
   obtain ⟨hq1, hq2⟩ : ro2 = ro ∧ cp2 = cp := by
     rw [hlv0] at hlv2
     injection hlv2 with e1 _ e3
     exact ⟨e1.symm, e3.symm⟩
   subst hq1 hq2
   have c0 := HR.out.1.c0
   rw [hlv0] at c0
   have hcopy := l3CopyO ro2 cp2 R.L _ ho2 hz2 (by omega) hrd2
   have HRL : Hid (R.lv = .slice ro2 R.L.length cp2) := hlv0
   clear hlv2 ho2 hz2 hrd2 hle hlv0
   go_wp2_with fail
   refine hcopy.mono ?_
   rintro e w2 ⟨v, rfl, hO2, hb2⟩
   have HS2 : Hid (HlSt c a len cap w w2 v R.L b h) := ⟨HR.out.1.at'.below hb2, Cur.grownBy_trans HR.out.1.gr ⟨hb2.os, hb2.tape, hb2.output, hb2.size, fun i hi _ => hb2.block i hi⟩, ownK_base hO2 HR.out.2.1.lt, by omega, HWD.out, hat_below HR.out.2.1 hb2, hat_below HR.out.1.ze hb2, HR.out.2.2.1, HR.out.2.2.2.2⟩
   generalize R.L = L0 at HS2 HWD
   clear hcopy hO2 hb2 HR c0 HWD HRL HOK HFAR h60
   go_wp2_with fail
   refine (Cur.once c a len cap 10 _ hl (by omega) HS2.out.at').mono ?_
   rintro e w4 ⟨b4, rfl, hA4, hG4⟩
   have HS4 : Hid (HlSt c a len cap w w4 v L0 b h) := HS2.out.grown hcw hA4 hG4
   clear hA4 hG4 HS2
   go_upto_if 19 with fail
   go_cut [6] from 20 to 49 (fun lv wx => ∃ v L h, lv = v ∧ Hid (HlSt c a len cap w wx v L b h))
   case first =>
     cases b4
     · go_wp2_with fail
       go_meet
       exact ⟨v, L0, h, rfl, HS4⟩
     · go_wp2_with fail
       refine (Cur.below c a len cap 5 _ hl (by omega) HS4.out.at').mono ?_
       rintro e w5 ⟨x, rfl, hx0, hx5, hA5, hG5⟩
       have hx5 := hx5 (by omega)
       have HS5 : Hid (HlSt c a len cap w w5 v L0 b h) := HS4.out.grown hcw hA5 hG5
       clear hA5 hG5 HS4
       obtain ⟨g, cp3, rfl, hcp3, _, hgB, _, hrd3, _⟩ := Lc.ownK_shape HS5.out.lo
       have HWW : Hid (Lc.WordsOk L0) := fun k hk => by have := HS5.out.wd k hk; omega
       rcases (show x = 0 ∨ x = 1 ∨ x = 2 ∨ x = 3 ∨ x = 4 by omega) with hx00 | hx1 | hx2 | hx3 | hx4
       · subst hx00
         clear hx0 hx5
         go_wp2_with fail
         refine (l1From c a len cap (-1) 4 _ hl (by omega) (by omega) (by omega) HS5.out.at').mono ?_
         rintro e w7 ⟨y, rfl, hy, hA7, hG7⟩
         have HS6 : Hid (HlSt c a len cap w w7 (.slice (some ⟨g, 0, none⟩) L0.length cp3) L0 b h) := HS5.out.grown hcw hA7 hG7
         have HS7 : Hid (HlSt c a len cap w (w7.setCell ⟨b, 0, none⟩ (.int .i64 y)) (.slice (some ⟨g, 0, none⟩) L0.length cp3) L0 b { h with who := y }) := HS6.out.store hcw HCB.out 0 (.int .i64 y) (hat_who HS6.out.ha y) ⟨HS6.out.h64.h0, HS6.out.h64.h1, HS6.out.h64.k0, HS6.out.h64.k1⟩
         have d0 := HS6.out.ha.c0
         have f0 := HS6.out.ha.f0
         clear HS5 HS6 hA7 hG7
         go_wp2_with fail
         go_meet
         exact ⟨_, L0, _, rfl, HS7⟩
       · subst hx1
         clear hx0 hx5
         have hset := l4DrawSet c a len cap g cp3 L0 w5 hl HS5.out.at' (by have := HS5.out.bw; omega) HS5.out.l61 hcp3 HWW.out hrd3
         go_wp2_with fail
         refine (hset).mono ?_
         rintro e w7 ⟨y, rfl, hy, hA7, hG7⟩
         have HS6 : Hid (HlSt c a len cap w w7 (.slice (some ⟨g, 0, none⟩) L0.length cp3) L0 b h) := HS5.out.grown hcw hA7 hG7
         have HS7 : Hid (HlSt c a len cap w (w7.setCell ⟨b, 1, none⟩ (.int .i64 y)) (.slice (some ⟨g, 0, none⟩) L0.length cp3) L0 b { h with has := y }) := HS6.out.store hcw HCB.out 1 (.int .i64 y) (hat_has HS6.out.ha y) ⟨hy.1, hy.2, HS6.out.h64.k0, HS6.out.h64.k1⟩
         have d0 := HS6.out.ha.c1
         have f0 := HS6.out.ha.f1
         simp only [Nat.zero_add] at d0 f0
         clear HS5 HS6 hA7 hG7
         go_wp2_with fail
         go_meet
         exact ⟨_, L0, _, rfl, HS7⟩
       · subst hx2
         clear hx0 hx5
         have hset := l4DrawSet c a len cap g cp3 L0 w5 hl HS5.out.at' (by have := HS5.out.bw; omega) HS5.out.l61 hcp3 HWW.out hrd3
         go_wp2_with fail
         refine (hset).mono ?_
         rintro e w7 ⟨y, rfl, hy, hA7, hG7⟩
         have HS6 : Hid (HlSt c a len cap w w7 (.slice (some ⟨g, 0, none⟩) L0.length cp3) L0 b h) := HS5.out.grown hcw hA7 hG7
         have HS7 : Hid (HlSt c a len cap w (w7.setCell ⟨b, 2, none⟩ (.int .i64 y)) (.slice (some ⟨g, 0, none⟩) L0.length cp3) L0 b { h with kept := y }) := HS6.out.store hcw HCB.out 2 (.int .i64 y) (hat_kept HS6.out.ha y) ⟨HS6.out.h64.h0, HS6.out.h64.h1, hy.1, hy.2⟩
         have d0 := HS6.out.ha.c2
         have f0 := HS6.out.ha.f2
         simp only [Nat.zero_add] at d0 f0
         clear HS5 HS6 hA7 hG7
         go_wp2_with fail
         go_meet
         exact ⟨_, L0, _, rfl, HS7⟩
       · subst hx3
         clear hx0 hx5
         go_wp2_with fail
         refine (l3DrawAt c a len cap L0.length _ hl HS5.out.l61 HS5.out.at').mono ?_
         rintro e w7 ⟨y, rfl, hy, hA7, hG7⟩
         have HS6 : Hid (HlSt c a len cap w w7 (.slice (some ⟨g, 0, none⟩) L0.length cp3) L0 b h) := HS5.out.grown hcw hA7 hG7
         have HS7 : Hid (HlSt c a len cap w (w7.setCell ⟨b, 3, none⟩ (.int .i64 y)) (.slice (some ⟨g, 0, none⟩) L0.length cp3) L0 b { h with last := y }) := HS6.out.store hcw HCB.out 3 (.int .i64 y) (hat_last HS6.out.ha y) ⟨HS6.out.h64.h0, HS6.out.h64.h1, HS6.out.h64.k0, HS6.out.h64.k1⟩
         have d0 := HS6.out.ha.c3
         have f0 := HS6.out.ha.f3
         simp only [Nat.zero_add] at d0 f0
         clear HS5 HS6 hA7 hG7
         go_wp2_with fail
         go_meet
         exact ⟨_, L0, _, rfl, HS7⟩
       · subst hx4
         clear hx0 hx5
         go_wp2_with fail
         refine (l3DrawAny HDD.out c a len cap _ hl HS5.out.at').mono ?_
         rintro e w8 ⟨v8, L8, rfl, hO8, h61, hwd8, hA8, hG8⟩
         have HS8 : Hid (HlSt c a len cap w w8 v8 L8 b h) := ⟨hA8, Cur.grownBy_trans HS5.out.gr hG8, ownK_base hO8 HS5.out.ha.lt, h61, hwd8, hat_grown HS5.out.ha hG8 (by have := HS5.out.bw; omega), hat_grown HS5.out.ze hG8 (by omega), HS5.out.bw, HS5.out.h64⟩
         clear hO8 hA8 hG8 hwd8 HS5
         go_wp2_with fail
         go_meet
         exact ⟨v8, L8, h, rfl, HS8⟩
   case rest =>
     obtain ⟨v9, L9, h9, rfl, HS9⟩ := hcut
     clear HS4
     obtain ⟨W, hW, hH, hPo⟩ := HS9.out.fin hcw HCB.out 1
     obtain ⟨c0, c1, c2, c3⟩ := cellsH HS9.out.ha
     obtain ⟨z0, z1, z2, z3⟩ := cellsH HS9.out.ze
     obtain ⟨m0, m1, m2, m3⟩ := cellsH hH
     have f0 := HS9.out.ze.f0
     have f1 := HS9.out.ze.f1
     have f2 := HS9.out.ze.f2
     have f3 := HS9.out.ze.f3
     simp only [Nat.zero_add] at f1 f2 f3
     have HW : Hid (W = _) := hW
     have HPO : Hid _ := hPo
     clear hW hPo hH HS9 HDD HDX
     generalize w.heap.size = qb at c0 c1 c2 c3 z0 z1 z2 z3 m0 m1 m2 m3 f0 f1 f2 f3 HW ⊢
     go_wp2_with fail
     go_region
     all_goals go_wp2
     all_goals rw [← HW.out]
     all_goals refine bodyPost_ret (v := .tuple #[u6, .agg #[.int .i64 h9.who, .int .i64 h9.has, .int .i64 h9.kept, .int .i64 h9.last]]) (by simp [results, Tryz.f36, go_sem, m0, m1, m2, m3]) rfl ?_
     all_goals exact HPO.out
end Rm
end Go.Proofs.YtfjmenhofllchaaGreatDoor
namespace Go.Proofs.YtfjmenhofllchaaGreatDoor
open Go.RowKit
set_option maxRecDepth 100000
namespace Sg
open Kn (K okK)
open Bit (bit withB)
open Lc (at')
structure Inv (L : List K) (s : Int) (m : Nat) (r : Int) : Prop where
 lo : 0 ≤ r
 hi : r < 1152921504606846976
 start : ∀ j, bit s j = true → bit r j = true
 sound : ∀ j, bit r j = true → bit s j = true ∨ ∃ i, i < L.length ∧ bit s i = true ∧ Reach L i j
 done : ∀ i, m ≤ i → i < L.length → bit r i = true → ∀ j, bit (at' L i).frm j = true → bit r j = true
theorem inv_start (L : List K) (s : Int) (h0 : 0 ≤ s) (h1 : s < 1152921504606846976) : Inv L s L.length s :=
 ⟨h0, h1, fun _ h => h, fun _ h => .inl h, fun i h1 h2 => by omega⟩
theorem inv_skip {L : List K} {s r : Int} {m : Nat} (h : Inv L s (m + 1) r) (hb : bit r m = false) : Inv L s m r :=
 ⟨h.lo, h.hi, h.start, h.sound, fun i hi hl hr j hj => by
   by_cases e : i = m
   · subst e; rw [hb] at hr; exact Bool.noConfusion hr
   · exact h.done i (by omega) hl hr j hj⟩
theorem inv_take {L : List K} (hl : Lc.laceB L = true) {s r : Int} {m : Nat} (hm : m < L.length) (h : Inv L s (m + 1) r) (hb : bit r m = true) : Inv L s m (orB r (at' L m).frm) := by
 have hf := frm_lace hl _ (Lc.at_mem L m hm)
 have hbd := orB_bd r (at' L m).frm h.lo h.hi hf.1 hf.2
 refine ⟨hbd.1, hbd.2, ?_, ?_, ?_⟩
 · intro j hj; rw [bit_orB _ _ h.lo hf.1, h.start j hj]; rfl
 · intro j hj
   rw [bit_orB _ _ h.lo hf.1, Bool.or_eq_true] at hj
   rcases hj with hj | hj
   · exact h.sound j hj
   · rcases h.sound m hb with hs | ⟨i, hi, hs, hr⟩
     · exact .inr ⟨m, hm, hs, .step hj (.self _)⟩
     · exact .inr ⟨i, hi, hs, hr.trans (.step hj (.self _))⟩
 · intro i hi hil hr j hj
   rw [bit_orB _ _ h.lo hf.1, Bool.or_eq_true] at hr ⊢
   by_cases e : i = m
   · subst e; exact .inr hj
   · rcases hr with hr | hr
     · exact .inl (h.done i (by omega) hil hr j hj)
     · have := thread_lt hl hm hr; omega
theorem inv_reach {L : List K} (hl : Lc.laceB L = true) {s r : Int} (h : Inv L s 0 r) {i j : Nat} (hi : i < L.length) (hb : bit r i = true) (hr : Reach L i j) : bit r j = true := by
 induction hr with
 | self => exact hb
 | step hm _ ih => exact ih (Nat.lt_trans (thread_lt hl hi hm) hi) (h.done _ (Nat.zero_le _) hi hb _ hm)
structure Met (L : List K) (m : Nat) (r f : Int) : Prop where
 lo : 0 ≤ f
 hi : f < 1152921504606846976
 has : ∀ j, bit f j = true ↔ m ≤ j ∧ j < L.length ∧ bit r j = true
theorem met_start (L : List K) (s : Int) : Met L L.length s 0 := ⟨by omega, by omega, fun j => by rw [Lc.bit_zero]; simp; omega⟩
theorem met_skip {L : List K} {r f : Int} {m : Nat} (h : Met L (m + 1) r f) (hb : bit r m = false) : Met L m r f :=
 ⟨h.lo, h.hi, fun j => by
   rw [h.has j]
   constructor
   · rintro ⟨a, b, c⟩; exact ⟨by omega, b, c⟩
   · rintro ⟨a, b, c⟩
     refine ⟨?_, b, c⟩
     apply Classical.byContradiction
     intro hn
     obtain rfl : j = m := by omega
     rw [hb] at c; exact Bool.noConfusion c⟩
theorem met_take {L : List K} (hl : Lc.laceB L = true) {s r f : Int} {m : Nat} (hm : m < L.length) (hi : Inv L s (m + 1) r) (h : Met L (m + 1) r f) (hb : bit r m = true) : Met L m (orB r (at' L m).frm) (withB f m) := by
 have h60 := ((Lc.lace_iff L).1 hl).1
 have hf := frm_lace hl _ (Lc.at_mem L m hm)
 have hbd := Bit.withB_bd f h.lo h.hi m (by omega)
 refine ⟨hbd.1, hbd.2, fun j => ?_⟩
 rw [Bit.bit_withB f h.lo, bit_orB _ _ hi.lo hf.1]
 simp only [Bool.or_eq_true, decide_eq_true_eq]
 rw [h.has j]
 constructor
 · rintro (rfl | ⟨a, b, c⟩)
   · exact ⟨Nat.le_refl _, hm, .inl hb⟩
   · exact ⟨by omega, b, .inl c⟩
 · rintro ⟨a, b, c | c⟩
   · by_cases e : j = m
     · exact .inl e
     · exact .inr ⟨by omega, b, c⟩
   · have := thread_lt hl hm c; omega
def oneI (k : Int) : Int := if 0 ≤ k ∧ k < 60 then 2 ^ k.toNat else 0
theorem oneI_bd (k : Int) : 0 ≤ oneI k ∧ oneI k < 1152921504606846976 := by
 unfold oneI
 split
 · rename_i h; have := Base.pow_bd k.toNat (by omega); exact ⟨by omega, this.2⟩
 · omega
theorem bit_oneI (k : Int) (j : Nat) : bit (oneI k) j = true ↔ k = (j : Int) ∧ j < 60 := by
 unfold oneI
 split
 · rename_i h; rw [bit_pow]; simp; omega
 · rw [Lc.bit_zero]; simp; omega
def metI (L : List K) (k : Int) : Int := if 0 ≤ k ∧ k < (L.length : Int) then bel L k.toNat else 0
theorem met_end {L : List K} (hl : Lc.laceB L = true) {k r f : Int} (hi : Inv L (oneI k) 0 r) (h : Met L 0 r f) : f = metI L k := by
 have h60 := ((Lc.lace_iff L).1 hl).1
 unfold metI
 split
 · rename_i hk
   obtain ⟨p, rfl⟩ := Int.eq_ofNat_of_zero_le hk.1
   rw [Int.toNat_natCast]
   have hp : p < L.length := by omega
   have hbd := bel_bd L p (by omega)
   refine Lc.eq_of_bits _ _ h.lo hbd.1 fun j => ?_
   rw [Bool.eq_iff_iff, h.has j, bel_reach hl p hp j]
   constructor
   · rintro ⟨_, _, c⟩
     rcases hi.sound j c with hs | ⟨i, _, hs, hr⟩
     · have := ((bit_oneI _ _).1 hs).1
       obtain rfl : p = j := by omega
       exact .self _
     · have := ((bit_oneI _ _).1 hs).1
       obtain rfl : p = i := by omega
       exact hr
   · intro hr
     have := reach_le hl hp hr
     refine ⟨Nat.zero_le _, by omega, ?_⟩
     exact inv_reach hl hi hp (hi.start p ((bit_oneI _ _).2 ⟨rfl, by omega⟩)) hr
 · rename_i hk
   refine Lc.eq_of_bits _ _ h.lo (Int.le_refl _) fun j => ?_
   rw [Lc.bit_zero, Bool.eq_false_iff]
   intro hj
   obtain ⟨_, hjl, c⟩ := (h.has j).1 hj
   rcases hi.sound j c with hs | ⟨i, hil, hs, _⟩
   · have := ((bit_oneI _ _).1 hs).1; omega
   · have := ((bit_oneI _ _).1 hs).1; omega
/-! ### closed -/
def Kept (L : List K) (s : Int) (m : Nat) (r : Int) : Prop := ∀ j, m ≤ j → j < L.length → bit r j = true → bit s j = true
theorem kept_start (L : List K) (s r : Int) : Kept L s L.length r := fun j h1 h2 => by omega
theorem kept_skip {L : List K} {s r : Int} {m : Nat} (h : Kept L s (m + 1) r) (hb : bit r m = false) : Kept L s m r := fun j h1 h2 h3 => by
 by_cases e : j = m
 · subst e; rw [hb] at h3; exact Bool.noConfusion h3
 · exact h j (by omega) h2 h3
theorem kept_take {L : List K} (hl : Lc.laceB L = true) {s r : Int} {m : Nat} (hm : m < L.length) (hi : Inv L s (m + 1) r) (h : Kept L s (m + 1) r) (hs : bit s m = true) : Kept L s m (orB r (at' L m).frm) := fun j h1 h2 h3 => by
 have hf := frm_lace hl _ (Lc.at_mem L m hm)
 by_cases e : j = m
 · subst e; exact hs
 · rw [bit_orB _ _ hi.lo hf.1, Bool.or_eq_true] at h3
   rcases h3 with h3 | h3
   · exact h j (by omega) h2 h3
   · have := thread_lt hl hm h3; omega
theorem reach_in {L : List K} (hl : Lc.laceB L = true) {s : Int} (h : ∀ i, i < L.length → bit s i = true → ∀ m, bit (at' L i).frm m = true → bit s m = true) {i j : Nat} (hi : i < L.length) (hb : bit s i = true) (hr : Reach L i j) : bit s j = true := by
 induction hr with
 | self => exact hb
 | step hm _ ih => exact ih (Nat.lt_trans (thread_lt hl hi hm) hi) (h _ hi hb _ hm)
theorem closed_end {L : List K} (hl : Lc.laceB L = true) {s r : Int} (h0 : 0 ≤ s) (h1 : s < 1152921504606846976) (hi : Inv L s 0 r) (h : Kept L s 0 r) : closedTo (belows L L.length) s L.length = true := by
 rw [closed_threads hl s h0 h1]
 intro i hil hb m hm
 have := thread_lt hl hil hm
 exact h m (Nat.zero_le _) (by omega) (hi.done i (Nat.zero_le _) hil (hi.start i hb) m hm)
theorem closed_not {L : List K} (hl : Lc.laceB L = true) {s r : Int} (h0 : 0 ≤ s) (h1 : s < 1152921504606846976) {m j : Nat} (hi : Inv L s m r) (hr : bit r j = true) (hs : bit s j = false) : closedTo (belows L L.length) s L.length = false := by
 rw [Bool.eq_false_iff]
 intro hc
 rw [closed_threads hl s h0 h1] at hc
 rcases hi.sound j hr with h | ⟨i, hil, hb, hre⟩
 · rw [hs] at h; exact Bool.noConfusion h
 · have := reach_in hl hc hil hb hre
   rw [hs] at this; exact Bool.noConfusion this
/-! ### tips -/
theorem bit_andNot (a s : Int) (h0 : 0 ≤ a) (h1 : a < 1152921504606846976) (h2 : 0 ≤ s) (h3 : s < 1152921504606846976) (i : Nat) : bit (bits .andNot .i64 a s) i = (bit a i && !bit s i) := by
 obtain ⟨A, rfl⟩ := Int.eq_ofNat_of_zero_le h0
 obtain ⟨S, rfl⟩ := Int.eq_ofNat_of_zero_le h2
 have hA : (BitVec.ofInt 64 (A : Int)).toNat = A := ofInt_u64 A (by omega)
 have hS : (BitVec.ofInt 64 (S : Int)).toNat = S := ofInt_u64 S (by omega)
 have hx : (BitVec.ofInt 64 (A : Int) &&& ~~~ BitVec.ofInt 64 (S : Int)).toNat ≤ A := by
   rw [BitVec.toNat_and, hA]; exact Nat.and_le_left
 have e : bits .andNot .i64 (A : Int) (S : Int) = ((BitVec.ofInt 64 (A : Int) &&& ~~~ BitVec.ofInt 64 (S : Int)).toNat : Int) := by
   show IntKind.i64.wrap ((BitVec.ofInt 64 (A : Int) &&& ~~~ BitVec.ofInt 64 (S : Int)).toNat : Int) = _
   rw [IntKind.wrap_i64]; omega
 have hn : (0 : Int) ≤ ((BitVec.ofInt 64 (A : Int) &&& ~~~ BitVec.ofInt 64 (S : Int)).toNat : Int) := by omega
 rw [e, Bit.bit_testBit _ hn, Int.toNat_natCast, Bit.bit_testBit _ h0, Bit.bit_testBit _ h2, Int.toNat_natCast, Int.toNat_natCast]
 by_cases h64 : i < 64
 · show (BitVec.ofInt 64 (A : Int) &&& ~~~ BitVec.ofInt 64 (S : Int)).getLsbD i = _
   rw [BitVec.getLsbD_and, BitVec.getLsbD_not, BitVec.getLsbD, hA, BitVec.getLsbD, hS]
   simp [h64]
 · have ha : A.testBit i = false := Nat.testBit_lt_two_pow (Nat.lt_of_lt_of_le (show A < 2 ^ 64 by omega) (Nat.pow_le_pow_right (by decide) (by omega)))
   have hb : (BitVec.ofInt 64 (A : Int) &&& ~~~ BitVec.ofInt 64 (S : Int)).toNat.testBit i = false := Nat.testBit_lt_two_pow (Nat.lt_of_lt_of_le (show _ < 2 ^ 64 by omega) (Nat.pow_le_pow_right (by decide) (by omega)))
   rw [ha, hb]; rfl
theorem andNot_bd' (a s : Int) (h0 : 0 ≤ a) (h1 : a < 1152921504606846976) : 0 ≤ bits .andNot .i64 a s ∧ bits .andNot .i64 a s < 1152921504606846976 := by
 obtain ⟨A, rfl⟩ := Int.eq_ofNat_of_zero_le h0
 have hA : (BitVec.ofInt 64 (A : Int)).toNat = A := ofInt_u64 A (by omega)
 have hx : (BitVec.ofInt 64 (A : Int) &&& ~~~ BitVec.ofInt 64 s).toNat ≤ A := by
   rw [BitVec.toNat_and, hA]; exact Nat.and_le_left
 have e : bits .andNot .i64 (A : Int) s = ((BitVec.ofInt 64 (A : Int) &&& ~~~ BitVec.ofInt 64 s).toNat : Int) := by
   show IntKind.i64.wrap ((BitVec.ofInt 64 (A : Int) &&& ~~~ BitVec.ofInt 64 s).toNat : Int) = _
   rw [IntKind.wrap_i64]; omega
 rw [e]; omega
theorem tipsTo_bd (l : List Int) (s : Int) (n : Nat) (h0 : 0 ≤ s) (h1 : s < 1152921504606846976) : 0 ≤ tipsTo l s n ∧ tipsTo l s n < 1152921504606846976 := by
 induction n with
 | zero => exact ⟨h0, h1⟩
 | succ n ih =>
   unfold tipsTo
   split
   · exact andNot_bd' _ _ ih.1 ih.2
   · exact ih
theorem bit_tips (L : List K) (s : Int) (n N : Nat) (hn : n ≤ N) (hN : N ≤ 60) (h0 : 0 ≤ s) (h1 : s < 1152921504606846976) (j : Nat) : bit (tipsTo (belows L N) s n) j = true ↔ bit s j = true ∧ ∀ i, i < n → bit s i = true → j ≠ i → bit (bel L i) j = false := by
 induction n with
 | zero => unfold tipsTo; simp
 | succ n ih =>
   have ih := ih (by omega)
   have hbd := tipsTo_bd (belows L N) s n h0 h1
   have hb := bel_bd L n (by omega)
   have hp := Base.pow_bd n (by omega)
   have hg := belows_get L N n (by omega)
   unfold tipsTo
   cases hs : bit s n
   · simp only [Bool.false_eq_true, if_false]
     rw [ih]
     constructor
     · rintro ⟨a, b⟩
       refine ⟨a, fun i hi hb' hj => ?_⟩
       by_cases e : i = n
       · subst e; rw [hs] at hb'; exact Bool.noConfusion hb'
       · exact b i (by omega) hb' hj
     · rintro ⟨a, b⟩; exact ⟨a, fun i hi hb' hj => b i (by omega) hb' hj⟩
   · simp only [if_true]
     have hq := andNot_bd' (bel L n) (2 ^ n) hb.1 hb.2
     rw [hg, bit_andNot _ _ hbd.1 hbd.2 hq.1 hq.2, bit_andNot _ _ hb.1 hb.2 (by omega) hp.2, bit_pow, Bool.and_eq_true, ih]
     constructor
     · rintro ⟨⟨a, b⟩, c⟩
       refine ⟨a, fun i hi hb' hj => ?_⟩
       by_cases e : i = n
       · subst e
         rw [decide_eq_false hj] at c
         simpa using c
       · exact b i (by omega) hb' hj
     · rintro ⟨a, b⟩
       refine ⟨⟨a, fun i hi hb' hj => b i (by omega) hb' hj⟩, ?_⟩
       by_cases e : j = n
       · rw [decide_eq_true e]; simp
       · rw [b n (by omega) hs e]; rfl
structure Unseen (L : List K) (s : Int) (m : Nat) (r u : Int) : Prop where
 lo : 0 ≤ u
 hi : u < 1152921504606846976
 has : ∀ j, bit u j = true ↔ bit s j = true ∧ ∀ i, m ≤ i → i < L.length → bit r i = true → bit (at' L i).frm j = false
theorem unseen_start (L : List K) (s r : Int) (h0 : 0 ≤ s) (h1 : s < 1152921504606846976) : Unseen L s L.length r s := ⟨h0, h1, fun j => ⟨fun h => ⟨h, fun i h1 h2 => by omega⟩, fun h => h.1⟩⟩
theorem unseen_skip {L : List K} {s r u : Int} {m : Nat} (h : Unseen L s (m + 1) r u) (hb : bit r m = false) : Unseen L s m r u :=
 ⟨h.lo, h.hi, fun j => by
   rw [h.has j]
   constructor
   · rintro ⟨a, b⟩
     refine ⟨a, fun i h1 h2 h3 => ?_⟩
     by_cases e : i = m
     · subst e; rw [hb] at h3; exact Bool.noConfusion h3
     · exact b i (by omega) h2 h3
   · rintro ⟨a, b⟩; exact ⟨a, fun i h1 h2 h3 => b i (by omega) h2 h3⟩⟩
theorem unseen_take {L : List K} (hl : Lc.laceB L = true) {s r u : Int} {m : Nat} (hm : m < L.length) (hi : Inv L s (m + 1) r) (h : Unseen L s (m + 1) r u) (hb : bit r m = true) : Unseen L s m (orB r (at' L m).frm) (bits .andNot .i64 u (at' L m).frm) := by
 have hf := frm_lace hl _ (Lc.at_mem L m hm)
 have hbd := andNot_bd' u (at' L m).frm h.lo h.hi
 refine ⟨hbd.1, hbd.2, fun j => ?_⟩
 rw [bit_andNot _ _ h.lo h.hi hf.1 hf.2, Bool.and_eq_true, h.has j]
 constructor
 · rintro ⟨⟨a, b⟩, c⟩
   refine ⟨a, fun i h1 h2 h3 => ?_⟩
   rw [bit_orB _ _ hi.lo hf.1, Bool.or_eq_true] at h3
   by_cases e : i = m
   · subst e; simpa using c
   · rcases h3 with h3 | h3
     · exact b i (by omega) h2 h3
     · have := thread_lt hl hm h3; omega
 · rintro ⟨a, b⟩
   refine ⟨⟨a, fun i h1 h2 h3 => b i (by omega) h2 (by rw [bit_orB _ _ hi.lo hf.1, h3]; rfl)⟩, ?_⟩
   rw [b m (Nat.le_refl _) hm (by rw [bit_orB _ _ hi.lo hf.1, hb]; rfl)]; rfl
theorem reach_last {L : List K} {i j : Nat} (h : Reach L i j) : j = i ∨ ∃ p, Reach L i p ∧ bit (at' L p).frm j = true := by
 induction h with
 | self => exact .inl rfl
 | @step i m j hb hr ih =>
   rcases ih with rfl | ⟨p, hp, hq⟩
   · exact .inr ⟨i, .self _, hb⟩
   · exact .inr ⟨p, .step hb hp, hq⟩
theorem tips_end {L : List K} (hl : Lc.laceB L = true) {s r u : Int} (h0 : 0 ≤ s) (h1 : s < 1152921504606846976) (hc : closedTo (belows L L.length) s L.length = true) (hi : Inv L s 0 r) (h : Unseen L s 0 r u) : u = tipsTo (belows L L.length) s L.length := by
 have h60 := ((Lc.lace_iff L).1 hl).1
 have hbd := tipsTo_bd (belows L L.length) s L.length h0 h1
 rw [closed_threads hl s h0 h1] at hc
 refine Lc.eq_of_bits _ _ h.lo hbd.1 fun j => ?_
 rw [Bool.eq_iff_iff, h.has j, bit_tips L s L.length L.length (Nat.le_refl _) h60 h0 h1 j]
 constructor
 · rintro ⟨a, b⟩
   refine ⟨a, fun i hil hs hj => ?_⟩
   rw [Bool.eq_false_iff]
   intro hbe
   rcases reach_last ((bel_reach hl i hil j).1 hbe) with e | ⟨p, hp, hq⟩
   · exact hj e
   · have hpl := reach_le hl hil hp
     have := b p (Nat.zero_le _) (by omega) (hi.start p (reach_in hl hc hil hs hp))
     rw [this] at hq; exact Bool.noConfusion hq
 · rintro ⟨a, b⟩
   refine ⟨a, fun i _ hil hr => ?_⟩
   rw [Bool.eq_false_iff]
   intro hbf
   have hs : bit s i = true := by
     rcases hi.sound i hr with h | ⟨i', hil', hs', hre⟩
     · exact h
     · exact reach_in hl hc hil' hs' hre
   have hlt := thread_lt hl hil hbf
   have := b i hil hs (by omega)
   rw [(bel_reach hl i hil j).2 (.step hbf (.self _))] at this
   exact Bool.noConfusion this
/-! ### what the walk meets, in its order -/
def visF (L : List K) : (m : Nat) → m ≤ L.length → Int → List (Fin L.length)
 | 0, _, _ => []
 | m + 1, h, r => if bit r m then ⟨m, h⟩ :: visF L m (Nat.le_of_succ_le h) (orB r (at' L m).frm) else visF L m (Nat.le_of_succ_le h) r
def vis (L : List K) (s : Int) : List (Fin L.length) := visF L L.length (Nat.le_refl _) s
theorem visF_yes (L : List K) (m : Nat) (h : m + 1 ≤ L.length) (r : Int) (hb : bit r m = true) : visF L (m + 1) h r = ⟨m, h⟩ :: visF L m (Nat.le_of_succ_le h) (orB r (at' L m).frm) := by
 show (if bit r m then _ else _) = _
 rw [hb]; rfl
theorem visF_no (L : List K) (m : Nat) (h : m + 1 ≤ L.length) (r : Int) (hb : bit r m = false) : visF L (m + 1) h r = visF L m (Nat.le_of_succ_le h) r := by
 show (if bit r m then _ else _) = _
 rw [hb]; rfl
theorem visF_len (L : List K) (m : Nat) (h : m ≤ L.length) (r : Int) : (visF L m h r).length ≤ m := by
 induction m generalizing r with
 | zero => exact Nat.le_refl _
 | succ m ih =>
   cases hb : bit r m
   · rw [visF_no L m h r hb]; have := ih (Nat.le_of_succ_le h) r; omega
   · rw [visF_yes L m h r hb]; have := ih (Nat.le_of_succ_le h) (orB r (at' L m).frm); simp; omega
theorem vis_len (L : List K) (s : Int) : (vis L s).length ≤ L.length := visF_len L _ _ s
def gath {n : Nat} (f : Int) (xs : List (Fin n)) : Int := xs.foldl (fun f x => withB f x.val) f
theorem gath_snoc {n : Nat} (f : Int) (xs : List (Fin n)) (x : Fin n) : gath f (xs ++ [x]) = withB (gath f xs) x.val := by simp [gath]
theorem gath_bd {n : Nat} (hn : n ≤ 60) (xs : List (Fin n)) : 0 ≤ gath 0 xs ∧ gath 0 xs < 1152921504606846976 := by
 have : ∀ (xs : List (Fin n)) (f : Int), 0 ≤ f → f < 1152921504606846976 → 0 ≤ gath f xs ∧ gath f xs < 1152921504606846976 := by
   intro xs
   induction xs with
   | nil => intro f h0 h1; exact ⟨h0, h1⟩
   | cons x xs ih =>
     intro f h0 h1
     have hx := x.isLt
     have hb := Bit.withB_bd f h0 h1 x.val (by omega)
     exact ih _ hb.1 hb.2
 exact this xs 0 (by omega) (by omega)
theorem gath_vis {L : List K} (hl : Lc.laceB L = true) (k : Int) : gath 0 (vis L (oneI k)) = metI L k := by
 have h60 := ((Lc.lace_iff L).1 hl).1
 have : ∀ (m : Nat) (h : m ≤ L.length) (r f : Int), Inv L (oneI k) m r → Met L m r f → gath f (visF L m h r) = metI L k := by
   intro m
   induction m with
   | zero => intro h r f hi hm; exact met_end hl hi hm
   | succ m ih =>
     intro h r f hi hm
     cases hb : bit r m
     · rw [visF_no L m h r hb]; exact ih _ r f (inv_skip hi hb) (met_skip hm hb)
     · rw [visF_yes L m h r hb]; exact ih _ _ _ (inv_take hl h hi hb) (met_take hl h hi hm hb)
 exact this L.length (Nat.le_refl _) (oneI k) 0 (inv_start L _ (oneI_bd k).1 (oneI_bd k).2) (met_start L _)
theorem vis_closed {L : List K} (hl : Lc.laceB L = true) (s : Int) (h0 : 0 ≤ s) (h1 : s < 1152921504606846976) : (∀ x ∈ vis L s, bit s x.val = true) ↔ closedTo (belows L L.length) s L.length = true := by
 have : ∀ (m : Nat) (h : m ≤ L.length) (r : Int), Inv L s m r → Kept L s m r → ((∀ x ∈ visF L m h r, bit s x.val = true) ↔ closedTo (belows L L.length) s L.length = true) := by
   intro m
   induction m with
   | zero => intro h r hi hk; exact ⟨fun _ => closed_end hl h0 h1 hi hk, fun _ x hx => by cases hx⟩
   | succ m ih =>
     intro h r hi hk
     cases hb : bit r m
     · rw [visF_no L m h r hb]; exact ih _ r (inv_skip hi hb) (kept_skip hk hb)
     · rw [visF_yes L m h r hb]
       cases hs : bit s m
       · constructor
         · intro hx
           have := hx ⟨m, h⟩ (List.mem_cons_self ..)
           rw [hs] at this; exact Bool.noConfusion this
         · intro hc
           rw [closed_not hl h0 h1 hi hb hs] at hc; exact Bool.noConfusion hc
       · have := ih (Nat.le_of_succ_le h) _ (inv_take hl h hi hb) (kept_take hl h hi hk hs)
         rw [← this]
         constructor
         · intro hx x hm; exact hx x (List.mem_cons_of_mem _ hm)
         · intro hx x hm
           rcases List.mem_cons.1 hm with rfl | hm
           · exact hs
           · exact hx x hm
 exact this L.length (Nat.le_refl _) s (inv_start L _ h0 h1) (kept_start L s s)
def strike (L : List K) (u : Int) (xs : List (Fin L.length)) : Int := xs.foldl (fun u x => bits .andNot .i64 u (at' L x.val).frm) u
theorem strike_snoc (L : List K) (u : Int) (xs : List (Fin L.length)) (x : Fin L.length) : strike L u (xs ++ [x]) = bits .andNot .i64 (strike L u xs) (at' L x.val).frm := by simp [strike]
theorem strike_vis {L : List K} (hl : Lc.laceB L = true) (s : Int) (h0 : 0 ≤ s) (h1 : s < 1152921504606846976) (hc : closedTo (belows L L.length) s L.length = true) : strike L s (vis L s) = tipsTo (belows L L.length) s L.length := by
 have : ∀ (m : Nat) (h : m ≤ L.length) (r u : Int), Inv L s m r → Unseen L s m r u → strike L u (visF L m h r) = tipsTo (belows L L.length) s L.length := by
   intro m
   induction m with
   | zero => intro h r u hi hu; exact tips_end hl h0 h1 hc hi hu
   | succ m ih =>
     intro h r u hi hu
     cases hb : bit r m
     · rw [visF_no L m h r hb]; exact ih _ r u (inv_skip hi hb) (unseen_skip hu hb)
     · rw [visF_yes L m h r hb]; exact ih _ _ _ (inv_take hl h hi hb) (unseen_take hl h hi hu hb)
 exact this L.length (Nat.le_refl _) s s (inv_start L _ h0 h1) (unseen_start L s s h0 h1)
end Sg
end Go.Proofs.YtfjmenhofllchaaGreatDoor
namespace Go.Proofs.YtfjmenhofllchaaGreatDoor
open Go.RowKit
set_option maxRecDepth 100000
namespace Lc
open Kn (K okK)
open Bit (bit withB)
theorem pow60 (n : Nat) (hn : n ≤ 60) : (1 : Int) ≤ 2 ^ n ∧ (2 : Int) ^ n ≤ 1152921504606846976 := by
 have hp : 1 ≤ 2 ^ n := Nat.one_le_two_pow
 have hq : 2 ^ n ≤ 2 ^ 60 := Nat.pow_le_pow_right (by decide) hn
 have hpc : ((2 ^ n : Nat) : Int) = (2 : Int) ^ n := by simp
 omega
theorem wrap60 (n : Nat) (hn : n ≤ 60) : IntKind.i64.wrap (2 ^ n) = 2 ^ n := by
 have := pow60 n hn
 rw [IntKind.wrap_i64]; omega
def inL (n : Nat) (s : Int) : Bool := decide (0 ≤ s) && decide (s / 2 ^ n = 0)
set_option maxHeartbeats 400000 in
theorem all (a : Option Addr) (cap n : Nat) (w : World) (hn : n ≤ 60) : Calls Tryz.prog 85 #[.slice a n cap] w fun e w' => e = .returned (.int .i64 (2 ^ n - 1)) ∧ w = w' := by
 have h1 := wrap60 n hn
 have h2 := pow60 n hn
 go_enter Tryz.func85, Tryz.ntmps85
 go_wp2
 go_ret
 exact ⟨rfl, rfl⟩
set_option maxHeartbeats 400000 in
theorem holds (a : Option Addr) (cap n : Nat) (s : Int) (w : World) (hn : n ≤ 60) (h0 : -9223372036854775808 ≤ s) (h1 : s ≤ 9223372036854775807) : Calls Tryz.prog 146 #[.slice a n cap, .int .i64 s] w fun e w' => e = .returned (.bool (inL n s)) ∧ w = w' := by
 have HA : Hid ((bits .andNot .i64 s (2 ^ n - 1) == 0) = inL n s) := andNot_zero s n hn h0 h1
 go_enter Tryz.func146, Tryz.ntmps146
 go_wp2_with fail
 refine (all _ _ _ _ hn).mono ?_
 rintro e w1 ⟨rfl, rfl⟩
 go_wp2
 go_ret
 exact ⟨by rw [← HA.out]; rfl, rfl⟩
theorem setB_eq (L : List K) (s : Int) : setB L s = (laceB L && inL L.length s) := rfl
end Lc
end Go.Proofs.YtfjmenhofllchaaGreatDoor
