/-
 The model's drawing of a new room: it hands back a new room in memory of its own, and changes the cursor alone.
-/
import Derived.Test.YtbkeldfbllhlbaaGreatqzg8
set_option linter.unusedVariables false
set_option maxRecDepth 100000
set_option maxHeartbeats 6400000
namespace Go.Proofs.YtbkeldfbllhlbaaGreat
open Go.RowKit
namespace Rm
open Kn (K okK in3)
open Lc (at' RdK laceB takesB flat OwnK CellsK cellsOf)
theorem own_slice{w:World}{B:Nat}{t:TypeId}{size n:Nat}{v:Value}{xs:List Value}(h:w.ownsRow B t size v (n+1) xs):∃g cap,v=.slice (some ⟨g,0,none⟩) (n+1) cap∧B≤g∧g<w.heap.size∧n+1≤cap:=by
 have hlt:=World.ownsRow.lt h;obtain⟨_,⟨_,hn⟩ | ⟨g,cap,cur,rfl,hB,_,hc,_⟩⟩:=h
 ·omega
 ·exact⟨g,cap,rfl,hB,(hlt g rfl).2,hc⟩
structure Q4(w:World)(p:Nat)(v0 v1 v2 v3:Value):Prop where
 lt:p<w.heap.size
 c0:w.cell? ⟨p,0,none⟩=some v0
 c1:w.cell? ⟨p,1,none⟩=some v1
 c2:w.cell? ⟨p,2,none⟩=some v2
 c3:w.cell? ⟨p,3,none⟩=some v3
 f0:w.frozen? ⟨p,0,none⟩=false
 f1:w.frozen? ⟨p,1,none⟩=false
 f2:w.frozen? ⟨p,2,none⟩=false
 f3:w.frozen? ⟨p,3,none⟩=false
theorem q4_fr{S:Nat→Prop}{w w':World}{p:Nat}{v0 v1 v2 v3:Value}(x:Q4 w p v0 v1 v2 v3)(hf:Fr S w w')(hn:¬ S p):Q4 w' p v0 v1 v2 v3 where
 lt:=Nat.lt_of_lt_of_le x.lt hf.size
 c0:=(hf.cell (p:=⟨p,0,none⟩) x.lt hn).trans x.c0
 c1:=(hf.cell (p:=⟨p,1,none⟩) x.lt hn).trans x.c1
 c2:=(hf.cell (p:=⟨p,2,none⟩) x.lt hn).trans x.c2
 c3:=(hf.cell (p:=⟨p,3,none⟩) x.lt hn).trans x.c3
 f0:=(hf.frozen (p:=⟨p,0,none⟩) x.lt hn).trans x.f0
 f1:=(hf.frozen (p:=⟨p,1,none⟩) x.lt hn).trans x.f1
 f2:=(hf.frozen (p:=⟨p,2,none⟩) x.lt hn).trans x.f2
 f3:=(hf.frozen (p:=⟨p,3,none⟩) x.lt hn).trans x.f3
theorem q4_below{w w':World}{p:Nat}{v0 v1 v2 v3:Value}(x:Q4 w p v0 v1 v2 v3)(hb:Below w.heap.size w w'):Q4 w' p v0 v1 v2 v3:=q4_fr (S:=fun _=>False) x (Fr.of_below hb _) (fun h=>h)
theorem q4_new(w:World)(v0 v1 v2 v3:Value)(t:TypeId):Q4 (w.alloc (.cells #[v0,v1,v2,v3] t)) w.heap.size v0 v1 v2 v3:=⟨by simp,by simp,by simp,by simp,by simp,by simp,by simp,by simp,by simp⟩
theorem q4_set2{w:World}{p:Nat}{v0 v1 v2 v3:Value}(x:Q4 w p v0 v1 v2 v3)(u:Value):Q4 (w.setCell ⟨p,2,none⟩ u) p v0 v1 u v3:=
 ⟨by simpa using x.lt,(World.cell?_setCell_other _ _ _ _ (by simp)).trans x.c0,(World.cell?_setCell_other _ _ _ _ (by simp)).trans x.c1,World.cell?_setCell_same _ _ _ x.c2,(World.cell?_setCell_other _ _ _ _ (by simp)).trans x.c3,by simpa using x.f0,by simpa using x.f1,by simpa using x.f2,by simpa using x.f3⟩
def qset(w:World)(p:Nat)(u0 u1 u2 u3:Value):World:=(((w.setCell ⟨p,0,none⟩ u0).setCell ⟨p,1,none⟩ u1).setCell ⟨p,2,none⟩ u2).setCell ⟨p,3,none⟩ u3
theorem q4_put{w:World}{p:Nat}{v0 v1 v2 v3:Value}(x:Q4 w p v0 v1 v2 v3)(u0 u1 u2 u3:Value):Q4 (qset w p u0 u1 u2 u3) p u0 u1 u2 u3:=by
 have e:∀{W:World} {j:Nat} {u:Value},(W.setCell ⟨p,j,none⟩ u).heap.size=W.heap.size:=by intro W j u;simp
 refine⟨by unfold qset;simpa using x.lt,?_,?_,?_,?_,by unfold qset;simpa using x.f0,by unfold qset;simpa using x.f1,by unfold qset;simpa using x.f2,by unfold qset;simpa using x.f3⟩
 ·unfold qset;rw [World.cell?_setCell_other _ _ _ _ (by simp),World.cell?_setCell_other _ _ _ _ (by simp),World.cell?_setCell_other _ _ _ _ (by simp)];exact World.cell?_setCell_same _ _ _ x.c0
 ·unfold qset;rw [World.cell?_setCell_other _ _ _ _ (by simp),World.cell?_setCell_other _ _ _ _ (by simp)];exact World.cell?_setCell_same _ _ _ ((World.cell?_setCell_other _ _ _ _ (by simp)).trans x.c1)
 ·unfold qset;rw [World.cell?_setCell_other _ _ _ _ (by simp)];exact World.cell?_setCell_same _ _ _ ((World.cell?_setCell_other _ _ _ _ (by simp)).trans ((World.cell?_setCell_other _ _ _ _ (by simp)).trans x.c2))
 ·unfold qset;exact World.cell?_setCell_same _ _ _ ((World.cell?_setCell_other _ _ _ _ (by simp)).trans ((World.cell?_setCell_other _ _ _ _ (by simp)).trans ((World.cell?_setCell_other _ _ _ _ (by simp)).trans x.c3)))
theorem qset_fr(w:World)(p:Nat)(u0 u1 u2 u3:Value):Fr (fun x=>x=p) w (qset w p u0 u1 u2 u3):=
 (((Fr.set w ⟨p,0,none⟩ _).trans (Fr.set _ ⟨p,1,none⟩ _) (fun _ hx _=>hx)).trans (Fr.set _ ⟨p,2,none⟩ _) (fun _ hx _=>hx)).trans (Fr.set _ ⟨p,3,none⟩ _) (fun _ hx _=>hx)
structure NwSt(W wr:World)(pr:Nat)(cv:Value)(bad:Int)(j:Nat)(v:Value):Prop where
 fr:Fr (fun x=>x=pr) W wr
 q:Q4 wr pr (.slice none 0 0) cv v (.int .i64 bad)
 own:wr.ownsRow W.heap.size 186 4 v j (flatH newH j)
theorem nw_step{W wr w1:World}{pr:Nat}{cv:Value}{bad:Int}{j:Nat}{v v':Value}{o:Obj}(x:NwSt W wr pr cv bad j v)(hp:pr<W.heap.size)(ho:w1.ownsRow W.heap.size 186 4 v' (j+1) (flatH newH j++hcells (newH j)))(hg:(wr.alloc o).grownBy w1 v.ownBlock):NwSt W (w1.setCell ⟨pr,2,none⟩ v') pr cv bad (j+1) v'∧w1.cell? ⟨pr,2,none⟩=some v∧w1.frozen? ⟨pr,2,none⟩=false:=by
 have hlt:=World.ownsRow.lt x.own;have hlt':=World.ownsRow.lt ho;have hf1:Fr (fun y=>v.ownBlock=some y) wr w1:=(Fr.alloc _ wr o).trans (Fr.of_own hg) (fun _ hx _=>hx);have hnp:¬ v.ownBlock=some pr:=fun e=>by have:=(hlt pr e).1;omega
 have hf:Fr (fun y=>y=pr) W w1:=x.fr.trans hf1 (fun y hy hl=>by have:=(hlt y hy).1;omega);have q1:=q4_fr x.q hf1 hnp;refine⟨⟨hf.trans (Fr.set w1 ⟨pr,2,none⟩ v') (fun _ hx _=>hx),q4_set2 q1 v',?_⟩,q1.c2,q1.f2⟩;rw [flatH_succ];exact own_fr (Fr.set w1 ⟨pr,2,none⟩ v') ho (fun y hy e=>by have e':y=pr:=e;have:=(hlt' y hy).1;omega)
theorem coinsAt_fr{S:Nat→Prop}{w w':World}{v:Value}(h:CoinsAt w v)(hf:Fr S w w')(hn:∀g,v.ownBlock=some g→¬ S g):CoinsAt w' v:=by
 obtain⟨ao,cap,l,hv,h1,h2,h3,hrd⟩:=h;refine⟨ao,cap,l,hv,h1,fun x hx=>?_,h3,?_⟩
 ·obtain⟨g,rfl,hg⟩:=h2 x hx;exact⟨g,rfl,Nat.lt_of_lt_of_le hg hf.size⟩
 ·rcases hrd with h | ⟨g,hg,hc⟩
  ·exact .inl h
  ·obtain⟨g',e,hlt⟩:=h2 _ hg;injection e with e;subst e;exact .inr ⟨g,hg,fun j hj=>(hf.cell (p:=⟨g,j,none⟩) hlt (hn g (by rw [hv,hg];rfl))).trans (hc j hj)⟩
theorem new_fin{w wr w5:World}{cv:Value}{gh hc:Nat}{bad:Int}(hB:Below w.heap.size w wr)(hb:Below wr.heap.size wr w5)(hh:∀i,i<4→HAt wr gh (i*4) (newH i))(hco:CoinsAt wr cv)(hc4:4≤hc)(hg:w.heap.size<gh)(hcg:∀g,cv.ownBlock=some g→w.heap.size<g)(hcgh:cv.ownBlock≠some gh) :
  NewPost bad w (.returned (.tuple #[.agg #[.slice none 0 0,cv,.slice (some ⟨gh,0,none⟩) 4 hc,.int .i64 bad],.bool true])) (qset w5 w.heap.size (.slice none 0 0) cv (.slice (some ⟨gh,0,none⟩) 4 hc) (.int .i64 bad)):=by
 have hB5:=hB.trans (hb.mono hB.size);have hq:=qset_fr w5 w.heap.size (.slice none 0 0) cv (.slice (some ⟨gh,0,none⟩) 4 hc) (.int .i64 bad);have hco5:=coinsAt_below hco hb;refine⟨⟨[],.slice none 0 0,cv,gh,hc,newH,bad⟩,rfl,⟨⟨World.ownsRow_nil _ _ _ _,rfl,fun i hi=>hat_fr (hat_below (hh i hi) hb) hq (fun e=>by have e':gh=w.heap.size:=e;omega),fun i hi=>⟨by simp [newH],by simp [newH],by simp [newH],by simp [newH],by simp [newH]⟩,Nat.le_of_lt hg,hc4,by simp [Value.ownBlock]⟩,rfl,rfl,?_,fun g hg'=>Nat.le_of_lt (hcg g hg'),hcgh⟩,rfl,hB5.trans (hq.toBelow hB5.size (fun x hx=>by omega))⟩;exact coinsAt_fr hco5 hq (fun g hg' e=>by have:=hcg g hg';omega)
theorem newRoom(g cap:Nat)(l:List Int)(bad:Int)(w:World)(hl:coinsB l=true)(hl6:l.length≤6)(hg:g<w.heap.size)(hrd:Lst.Rd w (some ⟨g,0,none⟩) l)(hb0:-1≤bad)(hb1:bad≤3) :
  Calls Tryz.prog 155 #[.slice (some ⟨g,0,none⟩) l.length cap,.int .i64 bad] w (NewPost bad w):=by
 obtain⟨i0,hi,hz0,hz1,hz2⟩:=info_parts infoH;have P0:Hid (Below w.heap.size w (w.alloc (.cells #[.slice none 0 0,.slice none 0 0,.slice none 0 0,.int .i64 0] 137))∧Q4 (w.alloc (.cells #[.slice none 0 0,.slice none 0 0,.slice none 0 0,.int .i64 0] 137)) w.heap.size (.slice none 0 0) (.slice none 0 0) (.slice none 0 0) (.int .i64 0)):=⟨(Below.refl _ _).alloc (Nat.le_refl _) _,q4_new _ _ _ _ _ _⟩
 go_enter Tryz.func155,Tryz.ntmps155
 go_wp2_with fail
 generalize w.alloc (.cells #[.slice none 0 0,.slice none 0 0,.slice none 0 0,.int .i64 0] 137)=W0 at P0 ⊢;have hg0:g<W0.heap.size:=Nat.lt_of_lt_of_le hg P0.out.1.size;have hrd0:Lst.Rd W0 (some ⟨g,0,none⟩) l:=by
  rcases hrd with h | ⟨g',hg',hc⟩
  ·exact .inl h
  ·injection hg' with e;injection e with e;subst e;exact .inr ⟨g,rfl,fun j hj=>(P0.out.1.cell (p:=⟨g,j,none⟩) hg).trans (hc j hj)⟩
 refine(l1Copy g cap l W0 (by omega) hg0 hrd0).mono ?_;rintro e w1 ⟨co,cc,rfl,hown,hb1'⟩;have HN:Hid (NwSt (w1.alloc (.cells #[.slice none 0 0,.slice co l.length cc,.slice none 0 0,.int .i64 bad] 137)) (w1.alloc (.cells #[.slice none 0 0,.slice co l.length cc,.slice none 0 0,.int .i64 bad] 137)) w1.heap.size (.slice co l.length cc) bad 0 (.slice none 0 0)):=⟨Fr.refl _ _,q4_new _ _ _ _ _ _,World.ownsRow_nil _ _ _ _⟩
 have HP2:Hid (Below w.heap.size w (w1.alloc (.cells #[.slice none 0 0,.slice co l.length cc,.slice none 0 0,.int .i64 bad] 137))∧Q4 (w1.alloc (.cells #[.slice none 0 0,.slice co l.length cc,.slice none 0 0,.int .i64 bad] 137)) w.heap.size (.slice none 0 0) (.slice none 0 0) (.slice none 0 0) (.int .i64 0)∧Memb.Own W0.heap.size (w1.alloc (.cells #[.slice none 0 0,.slice co l.length cc,.slice none 0 0,.int .i64 bad] 137)) co cc l∧(∀x,(Value.slice co l.length cc).ownBlock=some x→x<w1.heap.size)∧w1.heap.size<(w1.alloc (.cells #[.slice none 0 0,.slice co l.length cc,.slice none 0 0,.int .i64 bad] 137)).heap.size∧w.heap.size<w1.heap.size):=by
  have hB1:=P0.out.1.trans (hb1'.mono P0.out.1.size);exact⟨hB1.alloc hB1.size _,q4_below (q4_below P0.out.2 hb1') ((Below.refl _ _).alloc (Nat.le_refl _) _),hown.alloc _,fun x hx=>(World.ownsRow.lt hown x hx).2,by simp,Nat.lt_of_lt_of_le P0.out.2.lt hb1'.size⟩
 have hW0:w.heap.size<W0.heap.size:=P0.out.2.lt;clear hown hb1' hrd0 hg0 P0 hrd hg;go_wp2_with fail
 generalize w1.alloc (.cells #[.slice none 0 0,.slice co l.length cc,.slice none 0 0,.int .i64 bad] 137)=W2 at HN HP2 ⊢;generalize w1.heap.size=pr at HN HP2 ⊢;have hpr:pr<W2.heap.size:=HP2.out.2.2.2.2.1;go_loopw [7] (fun i wr=>∃(j:Nat) (v:Value),j≤4∧i=.int .i64 j∧Hid (NwSt W2 wr pr (.slice co l.length cc) bad j v)) (fun i _=>4-(intOf i).toNat)
 case atStart=>exact⟨0,_,by omega,rfl,HN.out⟩
 case round=>
  obtain⟨j,v,hj,rfl,HS⟩:=hrel;by_cases hj4:j<4
  ·have hj4':(j:Int)<4:=by omega
   have c2:=HS.out.q.c2;have own:=HS.out.own;have hszr:W2.heap.size≤wr.heap.size:=HS.out.fr.size;go_wp2_with (at_builtin;refine wpList_append_own _ rfl _ _ 135 rfl W2.heap.size 186 i0 (.agg #[.int .i64 0,.int .i64 0,.int .i64 0,.int .i64 0]) 4 32 Tryz.underlying135 hi hz0 hz1 hz2 rfl (by decide) v j (flatH newH j) (by first | rfl | simp [Act.eval]) (own.alloc _) ⟨wr.heap.size,0,none⟩ 1 1 (hcells (newH j)) (by first | rfl | simp [Act.eval]) rfl (new_hcells wr (newH j) _) (hcells_one _) ?c3 ?c4 ?c5 ?_)
   case c3=>unfold maxLen;omega
   case c4=>omega
   case c5=>simp;omega
   intro v' w3 hown' hgrow _;obtain⟨HS2,d2,e2⟩:=nw_step HS.out hpr hown' hgrow;obtain⟨g',cap',rfl,_,_,_⟩:=own_slice hown';have HS2':Hid _:=HS2;clear HS2 hown' hgrow own c2;go_wp2;go_roundw
   case rel=>exact⟨j+1,_,by omega,by go_num,HS2'⟩
   case measure=>simp [intOf];omega
  ·obtain rfl:j=4:=by omega
   have h44:¬ ((4:Nat):Int)<4:=by omega
   obtain⟨gh,hc,rfl,hBg,hgl,hcap⟩:=own_slice HS.out.own;obtain⟨_,c0,c1,c2,c3,_,_,_,_⟩:=HS.out.q;have HH:Hid (∀i,i<4→HAt wr gh (i*4) (newH i)):=fun i hi=>own_hands HS.out.own i hi
   have hcon:Memb.Own W0.heap.size wr co cc l:=own_fr HS.out.fr HP2.out.2.2.1 (fun x hx e=>by have:=HP2.out.2.2.2.1 x hx;omega);have hrdc:=Lst.own_rd hcon;have hcog:∀g,co=some ⟨g,0,none⟩→g<wr.heap.size:=fun g hg=>(World.ownsRow.lt hcon g (by rw [hg];rfl)).2
   have hcgg:∀g,(Value.slice co l.length cc).ownBlock=some g→w.heap.size<g:=fun g hg=>by have:=(World.ownsRow.lt hcon g hg).1;omega
   have HBw:Hid (Below w.heap.size w wr):=HP2.out.1.trans (HS.out.fr.toBelow HP2.out.1.size (fun x hx=>by subst hx;have:=HP2.out.2.2.2.2.2;omega));have HRB:Hid (Q4 wr w.heap.size (.slice none 0 0) (.slice none 0 0) (.slice none 0 0) (.int .i64 0)):=q4_fr HP2.out.2.1 HS.out.fr (by have:=HP2.out.2.2.2.2.2;omega);have HCO:Hid (CoinsAt wr (.slice co l.length cc)):=own_coins hcon hl6;have hprr:pr<wr.heap.size:=Nat.lt_of_lt_of_le hpr HS.out.fr.size;have hwg:w.heap.size<gh:=by have h1:=HP2.out.2.2.2.2.1;have h2:=HP2.out.2.2.2.2.2;omega
   have hcgh:(Value.slice co l.length cc).ownBlock≠some gh:=fun e=>by have h1:=HP2.out.2.2.2.1 gh e;have h2:=HP2.out.2.2.2.2.1;omega
   clear HS HP2 HN hcon;go_wp2_with fail
   refine(roomOkNew co cc l gh hc bad wr hl hl6 hrdc hcog HH.out hb0 hb1).mono ?_;rintro e w5 ⟨rfl,hb5⟩;have d0:=(hb5.cell (p:=⟨pr,0,none⟩) hprr).trans c0;have d1:=(hb5.cell (p:=⟨pr,1,none⟩) hprr).trans c1;have d2:=(hb5.cell (p:=⟨pr,2,none⟩) hprr).trans c2;have d3:=(hb5.cell (p:=⟨pr,3,none⟩) hprr).trans c3;have hQ5:=q4_below HRB.out hb5;have HP:=q4_put hQ5 (.slice none 0 0) (.slice co l.length cc) (.slice (some ⟨gh,0,none⟩) 4 hc) (.int .i64 bad);have HE:Hid (NewPost bad w (.returned (.tuple #[.agg #[.slice none 0 0,.slice co l.length cc,.slice (some ⟨gh,0,none⟩) 4 hc,.int .i64 bad],.bool true])) (qset w5 w.heap.size (.slice none 0 0) (.slice co l.length cc) (.slice (some ⟨gh,0,none⟩) 4 hc) (.int .i64 bad))):=new_fin HBw.out hb5 HH.out HCO.out (by omega) hwg hcgg hcgh;have HPP:Hid _:=HP;obtain⟨_,r0,r1,r2,r3,f0,f1,f2,f3⟩:=hQ5;clear c0 c1 c2 c3 HP;go_wp2;obtain⟨_,y0,y1,y2,y3,_,_,_,_⟩:=HPP.out;unfold qset at y0 y1 y2 y3;exact bodyPost_ret (v:=.tuple #[.agg #[.slice none 0 0,.slice co l.length cc,.slice (some ⟨gh,0,none⟩) 4 hc,.int .i64 bad],.bool true]) (by simp [results,Tryz.results155,go_sem,y0,y1,y2,y3]) rfl HE.out
end Rm
namespace Draw
open Cur (At)
theorem bits_bd(op:BinOp)(x y:Int):-9223372036854775808≤bits op .i64 x y∧bits op .i64 x y≤9223372036854775807:=by
 unfold bits;simp only [IntKind.wrap,IntKind.bits,IntKind.signed];simp;omega
theorem kept_cell{w w1:World}{c g j:Nat}{v:Value}(hG:w.grownBy w1 (some c))(hg:g≠c)(h:w.cell? ⟨g,j,none⟩=some v):w1.cell? ⟨g,j,none⟩=some v:=
 hG.cell h (by simpa using hg)
theorem at_alloc{c:Nat}{a:Option Addr}{len cap:Nat}{w:World}(h:At c a len cap w)(o:Obj):At c a len cap (w.alloc o):=h.below ((Below.refl _ _).alloc (Nat.le_refl _) _)
theorem lit_int{w w2:World}{c:Nat}{t:TypeId}{l:List Int}(hc:c<w.heap.size)(hG:(w.alloc (.cells (l.map (Value.int .i64)).toArray t)).grownBy w2 (some c))(j:Nat)(hj:j<l.length)
  (hl:∀x∈l,-9223372036854775808≤x∧x≤9223372036854775807):∃v:Int,w2.cell? ⟨w.heap.size,j,none⟩=some (.int .i64 v)∧-9223372036854775808≤v∧v≤9223372036854775807:=by
 refine⟨l[j],kept_cell hG (by omega) ?_,hl _ (List.getElem_mem hj)⟩;rw [World.cell?_alloc_new];simp [hj]
theorem drawSet(c:Nat)(a:Option Addr)(len cap:Nat)(w:World)(hl:len≤4096)(hc:At c a len cap w) :
  Calls Tryz.prog 85 #[.pointer (some ⟨c,0,none⟩)] w fun e w'=>∃s:Int,e=.returned (.int .i64 s)∧(-9223372036854775808≤s∧s≤9223372036854775807)∧At c a len cap w'∧w.grownBy w' (some c):=by
 go_enter Tryz.func85,Tryz.ntmps85
 go_wp2_with fail
 refine(Cur.once c a len cap 8 _ hl (by omega) hc).mono ?_;rintro e w1 ⟨b,rfl,hA,hG⟩
 cases b
 ·go_wp2_with fail
  refine(Cur.below c a len cap 6 _ hl (by omega) hA).mono ?_;rintro e w2 ⟨n,rfl,hn0,hn1,hA2,hG2⟩;have hn2:=hn1 (by omega);clear hn1;have G2:=Cur.grownBy_trans hG hG2;go_wp2_with fail
  go_loopw [3,4] (fun v i wr=>∃s n:Int,v=.int .i64 s∧i=.int .i64 n∧0≤n∧n≤6∧-9223372036854775808≤s∧s≤9223372036854775807∧At c a len cap wr∧w.grownBy wr (some c)) (fun _ i _=>(intOf i).toNat)
  case atStart=>exact⟨0,n,rfl,rfl,hn0,by omega,by omega,by omega,hA2,G2⟩
  case round=>
   clear hA2 G2 hG hG2 hA hc hn0 hn2;obtain⟨s,n,rfl,rfl,hn0,hn6,hs0,hs1,hA,hG⟩:=hrel;by_cases hp:0<n
   ·go_wp2_with fail
    refine(Cur.below c a len cap 60 _ hl (by omega) hA).mono ?_;rintro e w3 ⟨x,rfl,hx0,hx1,hA3,hG3⟩;have hx2:=hx1 (by omega);clear hx1;have hb:=bits_bd .or s (2 ^ x.toNat);have hw:=Base.wrap_pow x.toNat (by omega);go_wp2;go_roundw
    case rel=>exact⟨_,n-1,rfl,rfl,by omega,by omega,hb.1,hb.2,hA3,Cur.grownBy_trans hG hG3⟩
    case measure=>simp [intOf];omega
   ·go_wp2;go_ret;exact⟨s,rfl,⟨hs0,hs1⟩,hA,hG⟩
 ·go_wp2_with fail
  refine(Cur.below c a len cap 4 _ hl (by omega) (at_alloc hA _)).mono ?_;rintro e w2 ⟨x,rfl,hx0,hx1,hA2,hG2⟩;have hx2:=hx1 (by omega);clear hx1;obtain⟨v,hv,hv0,hv1⟩:=lit_int (l:=[-1,1152921504606846975,1152921504606846976,4611686018427387904]) hA.lt hG2 x.toNat (by simp;omega) (by simp);have G2:w.grownBy w2 (some c):=Cur.grownBy_trans (Cur.grownBy_trans hG (World.grownBy_alloc _ _ _)) hG2;clear hG hG2;go_wp2;go_ret;exact⟨v,rfl,⟨hv0,hv1⟩,hA2,G2⟩
theorem below_of_grown{w w1 w2:World}{c:Nat}(h:Below w.heap.size w w1)(hc:w.heap.size≤c)(hg:w1.grownBy w2 (some c)):Below w.heap.size w w2:=
 h.grown hg h.size (fun k hk=>by simp at hk;omega)
theorem own_grown{B c:Nat}{w w':World}{ao:Option Addr}{cap:Nat}{l:List Int}(h:Memb.Own B w ao cap l)(hg:w.grownBy w' (some c))(hc:c<B):Memb.Own B w' ao cap l:=by
 unfold Memb.Own at *;refine World.ownsRow.kept h hg ?_;by_cases hb:(Value.slice ao l.length cap).ownBlock=none
 ·exact .inl hb
 ·refine .inr (fun e=>?_);have:=(World.ownsRow.lt h c e).1;omega
end Draw
namespace Kn
theorem zput4{w:World}{b:Nat}(r0:w.cell? ⟨b,0,none⟩=some (.int .i64 0))(r1:w.cell? ⟨b,1,none⟩=some (.int .i64 0))(r2:w.cell? ⟨b,2,none⟩=some (.int .i64 0))(r3:w.cell? ⟨b,3,none⟩=some (.string ⟨#[]⟩))(v0 v1 v2 v3:Value) :
  ((((w.setCell ⟨b,0,none⟩ v0).setCell ⟨b,1,none⟩ v1).setCell ⟨b,2,none⟩ v2).setCell ⟨b,3,none⟩ v3).cell? ⟨b,0,none⟩=some v0 ∧
  ((((w.setCell ⟨b,0,none⟩ v0).setCell ⟨b,1,none⟩ v1).setCell ⟨b,2,none⟩ v2).setCell ⟨b,3,none⟩ v3).cell? ⟨b,1,none⟩=some v1 ∧
  ((((w.setCell ⟨b,0,none⟩ v0).setCell ⟨b,1,none⟩ v1).setCell ⟨b,2,none⟩ v2).setCell ⟨b,3,none⟩ v3).cell? ⟨b,2,none⟩=some v2 ∧
  ((((w.setCell ⟨b,0,none⟩ v0).setCell ⟨b,1,none⟩ v1).setCell ⟨b,2,none⟩ v2).setCell ⟨b,3,none⟩ v3).cell? ⟨b,3,none⟩=some v3:=by
 refine⟨?_,?_,?_,?_⟩
 ·rw [World.cell?_setCell_other _ _ _ _ (by simp),World.cell?_setCell_other _ _ _ _ (by simp),World.cell?_setCell_other _ _ _ _ (by simp)];exact World.cell?_setCell_same _ _ _ r0
 ·rw [World.cell?_setCell_other _ _ _ _ (by simp),World.cell?_setCell_other _ _ _ _ (by simp)];exact World.cell?_setCell_same _ _ _ ((World.cell?_setCell_other _ _ _ _ (by simp)).trans r1)
 ·rw [World.cell?_setCell_other _ _ _ _ (by simp)];exact World.cell?_setCell_same _ _ _ ((World.cell?_setCell_other _ _ _ _ (by simp)).trans ((World.cell?_setCell_other _ _ _ _ (by simp)).trans r2))
 ·exact World.cell?_setCell_same _ _ _ ((World.cell?_setCell_other _ _ _ _ (by simp)).trans ((World.cell?_setCell_other _ _ _ _ (by simp)).trans ((World.cell?_setCell_other _ _ _ _ (by simp)).trans r3)))
structure Zero(b:Nat)(w:World):Prop where
 lt:b<w.heap.size
 r0:w.cell? ⟨b,0,none⟩=some (.int .i64 0)
 r1:w.cell? ⟨b,1,none⟩=some (.int .i64 0)
 r2:w.cell? ⟨b,2,none⟩=some (.int .i64 0)
 r3:w.cell? ⟨b,3,none⟩=some (.string ⟨#[]⟩)
 f0:w.frozen? ⟨b,0,none⟩=false
 f1:w.frozen? ⟨b,1,none⟩=false
 f2:w.frozen? ⟨b,2,none⟩=false
 f3:w.frozen? ⟨b,3,none⟩=false
theorem Zero.below{b:Nat}{w w':World}(z:Zero b w)(hb:Below w.heap.size w w'):Zero b w' where
 lt:=Nat.lt_of_lt_of_le z.lt hb.size
 r0:=(hb.cell (p:=⟨b,0,none⟩) z.lt).trans z.r0
 r1:=(hb.cell (p:=⟨b,1,none⟩) z.lt).trans z.r1
 r2:=(hb.cell (p:=⟨b,2,none⟩) z.lt).trans z.r2
 r3:=(hb.cell (p:=⟨b,3,none⟩) z.lt).trans z.r3
 f0:=(hb.frozen (p:=⟨b,0,none⟩) z.lt).trans z.f0
 f1:=(hb.frozen (p:=⟨b,1,none⟩) z.lt).trans z.f1
 f2:=(hb.frozen (p:=⟨b,2,none⟩) z.lt).trans z.f2
 f3:=(hb.frozen (p:=⟨b,3,none⟩) z.lt).trans z.f3
theorem zero_new(w:World)(ty:TypeId):Zero w.heap.size (w.alloc (.cells #[.int .i64 0,.int .i64 0,.int .i64 0,.string ⟨#[]⟩] ty)):=⟨by simp,by simp,by simp,by simp,by simp,by simp,by simp,by simp,by simp⟩
theorem Zero.put{b:Nat}{w:World}(z:Zero b w)(v0 v1 v2 v3:Value) :
  ((((w.setCell ⟨b,0,none⟩ v0).setCell ⟨b,1,none⟩ v1).setCell ⟨b,2,none⟩ v2).setCell ⟨b,3,none⟩ v3).cell? ⟨b,0,none⟩=some v0 ∧
  ((((w.setCell ⟨b,0,none⟩ v0).setCell ⟨b,1,none⟩ v1).setCell ⟨b,2,none⟩ v2).setCell ⟨b,3,none⟩ v3).cell? ⟨b,1,none⟩=some v1 ∧
  ((((w.setCell ⟨b,0,none⟩ v0).setCell ⟨b,1,none⟩ v1).setCell ⟨b,2,none⟩ v2).setCell ⟨b,3,none⟩ v3).cell? ⟨b,2,none⟩=some v2 ∧
  ((((w.setCell ⟨b,0,none⟩ v0).setCell ⟨b,1,none⟩ v1).setCell ⟨b,2,none⟩ v2).setCell ⟨b,3,none⟩ v3).cell? ⟨b,3,none⟩=some v3:=zput4 z.r0 z.r1 z.r2 z.r3 v0 v1 v2 v3
end Kn
namespace Kn
open Cur (At)
theorem lit_str{w w2:World}{c:Nat}{t:TypeId}{l:List ByteArray}(hc:c<w.heap.size)(hG:(w.alloc (.cells (l.map Value.string).toArray t)).grownBy w2 (some c))(j:Nat)(hj:j<l.length)(n:Nat)
  (hl:∀x∈l,x.size≤n):∃v:ByteArray,w2.cell? ⟨w.heap.size,j,none⟩=some (.string v)∧v.size≤n:=by
 refine⟨l[j],Draw.kept_cell hG (by omega) ?_,hl _ (List.getElem_mem hj)⟩;rw [World.cell?_alloc_new];simp [hj]
theorem drawWord(c:Nat)(a:Option Addr)(len cap:Nat)(w:World)(hl:len≤4096)(hc:At c a len cap w) :
  Calls Tryz.prog 128 #[.pointer (some ⟨c,0,none⟩)] w fun e w'=>∃s:ByteArray,e=.returned (.string s)∧s.size≤13∧At c a len cap w'∧w.grownBy w' (some c):=by
 go_enter Tryz.func128,Tryz.ntmps128
 go_wp2_with fail
 refine(Cur.below c a len cap 10 _ hl (by omega) (Draw.at_alloc hc _)).mono ?_;rintro e w2 ⟨x,rfl,hx0,hx1,hA2,hG2⟩;have hx2:=hx1 (by omega);clear hx1;obtain⟨v,hv,hvs⟩:=lit_str (l:=[⟨#[]⟩,⟨#[]⟩,⟨#[112,117,116,32,97,32,53]⟩,⟨#[97,100,100,32,97,32,51]⟩,⟨#[99,117,116,32,97]⟩,⟨#[112,117,116,32,98,32,55]⟩,⟨#[105,102,32,97,32,53,32,57]⟩,⟨#[97,100,100,32,98,32,57,57]⟩,⟨#[119,104,97,116]⟩,⟨#[32,120]⟩]) hc.lt hG2 x.toNat (by simp;omega) 13 (by decide);have G2:w.grownBy w2 (some c):=Cur.grownBy_trans (World.grownBy_alloc _ _ _) hG2;clear hG2;go_wp2;go_ret;exact⟨v,rfl,hvs,hA2,G2⟩
structure St(c b0 kb:Nat)(a:Option Addr)(len cap:Nat)(w0 w:World)(h r f:Int)(s:ByteArray):Prop where
 at':At c a len cap w
 z:Zero b0 w
 k0:w.cell? ⟨kb,0,none⟩=some (.int .i64 h)
 k1:w.cell? ⟨kb,1,none⟩=some (.int .i64 r)
 k2:w.cell? ⟨kb,2,none⟩=some (.int .i64 f)
 k3:w.cell? ⟨kb,3,none⟩=some (.string s)
 f0:w.frozen? ⟨kb,0,none⟩=false
 f1:w.frozen? ⟨kb,1,none⟩=false
 f2:w.frozen? ⟨kb,2,none⟩=false
 f3:w.frozen? ⟨kb,3,none⟩=false
 lt:kb<w.heap.size
 n1:b0≠c
 n2:kb≠c
 n3:kb≠b0
 l1:w0.heap.size≤b0
 l2:w0.heap.size≤kb
 cb:len=0∨∃b off,a=some ⟨b,off,none⟩∧b<w0.heap.size
 g:w0.grownBy w (some c)
theorem Zero.grown{c b:Nat}{w w':World}(z:Zero b w)(hg:w.grownBy w' (some c))(hn:b≠c):Zero b w' where
 lt:=Nat.lt_of_lt_of_le z.lt hg.size
 r0:=Draw.kept_cell hg hn z.r0
 r1:=Draw.kept_cell hg hn z.r1
 r2:=Draw.kept_cell hg hn z.r2
 r3:=Draw.kept_cell hg hn z.r3
 f0:=(hg.frozen_far ⟨b,0,none⟩ z.lt (by simpa using hn)).trans z.f0
 f1:=(hg.frozen_far ⟨b,1,none⟩ z.lt (by simpa using hn)).trans z.f1
 f2:=(hg.frozen_far ⟨b,2,none⟩ z.lt (by simpa using hn)).trans z.f2
 f3:=(hg.frozen_far ⟨b,3,none⟩ z.lt (by simpa using hn)).trans z.f3
theorem St.grown{c b0 kb:Nat}{a:Option Addr}{len cap:Nat}{w0 w w':World}{h r f:Int}{s:ByteArray}(t:St c b0 kb a len cap w0 w h r f s)(hg:w.grownBy w' (some c))(hA:At c a len cap w'):St c b0 kb a len cap w0 w' h r f s where
 at':=hA
 z:=t.z.grown hg t.n1
 k0:=Draw.kept_cell hg t.n2 t.k0
 k1:=Draw.kept_cell hg t.n2 t.k1
 k2:=Draw.kept_cell hg t.n2 t.k2
 k3:=Draw.kept_cell hg t.n2 t.k3
 f0:=(hg.frozen_far ⟨kb,0,none⟩ t.lt (by simpa using t.n2)).trans t.f0
 f1:=(hg.frozen_far ⟨kb,1,none⟩ t.lt (by simpa using t.n2)).trans t.f1
 f2:=(hg.frozen_far ⟨kb,2,none⟩ t.lt (by simpa using t.n2)).trans t.f2
 f3:=(hg.frozen_far ⟨kb,3,none⟩ t.lt (by simpa using t.n2)).trans t.f3
 lt:=Nat.lt_of_lt_of_le t.lt hg.size
 n1:=t.n1
 n2:=t.n2
 n3:=t.n3
 l1:=t.l1
 l2:=t.l2
 cb:=t.cb
 g:=Cur.grownBy_trans t.g hg
theorem grown_put{c kb:Nat}{w0 w:World}(h:w0.grownBy w (some c))(hk:w0.heap.size≤kb)(j:Nat)(v:Value):w0.grownBy (w.setCell ⟨kb,j,none⟩ v) (some c) where
 os:=h.os
 tape:=h.tape
 output:=h.output
 size:=by simpa using h.size
 block:=fun i hi hne=>(heap_setCell_other w ⟨kb,j,none⟩ i v (fun e=>by have:kb=i:=e.symm;omega)).trans (h.block i hi hne)
theorem At.put{c kb:Nat}{a:Option Addr}{len cap:Nat}{w:World}(h:At c a len cap w)(hn:kb≠c){n0:Nat}(hb:len=0∨∃b off,a=some ⟨b,off,none⟩∧b<n0)(hk:n0≤kb)(j:Nat)(v:Value):At c a len cap (w.setCell ⟨kb,j,none⟩ v) where
 lt:=by simpa using h.lt
 b:=(World.cell?_setCell_other _ _ _ _ (by intro e;injection e with e _;exact hn e)).trans h.b
 i:=by obtain⟨i,hi,hh⟩:=h.i;exact⟨i,(World.cell?_setCell_other _ _ _ _ (by intro e;injection e with e _;exact hn e)).trans hi,hh⟩
 h:=by obtain⟨i,hi,hh⟩:=h.h;exact⟨i,(World.cell?_setCell_other _ _ _ _ (by intro e;injection e with e _;exact hn e)).trans hi,hh⟩
 f1:=by simpa using h.f1
 f2:=by simpa using h.f2
 bytes:=by
  rcases h.bytes with h0 | ⟨b,off,ha,hne,hlt,hcell⟩
  ·exact .inl h0
  ·rcases hb with h0 | ⟨b',off',ha',hlt'⟩
   ·exact .inl h0
   ·have eb:b=b':=by rw [ha] at ha';injection ha' with e;injection e
    refine .inr ⟨b,off,ha,hne,by simpa using hlt,fun i hi=>?_⟩;obtain⟨z,hz,hz'⟩:=hcell i hi;exact⟨z,(World.cell?_setCell_other _ _ _ _ (by intro e;injection e with e _;omega)).trans hz,hz'⟩
theorem Zero.put'{b kb:Nat}{w:World}(z:Zero b w)(hn:kb≠b)(j:Nat)(v:Value):Zero b (w.setCell ⟨kb,j,none⟩ v) where
 lt:=by simpa using z.lt
 r0:=(World.cell?_setCell_other _ _ _ _ (by intro e;injection e with e _;exact hn e)).trans z.r0
 r1:=(World.cell?_setCell_other _ _ _ _ (by intro e;injection e with e _;exact hn e)).trans z.r1
 r2:=(World.cell?_setCell_other _ _ _ _ (by intro e;injection e with e _;exact hn e)).trans z.r2
 r3:=(World.cell?_setCell_other _ _ _ _ (by intro e;injection e with e _;exact hn e)).trans z.r3
 f0:=by simpa using z.f0
 f1:=by simpa using z.f1
 f2:=by simpa using z.f2
 f3:=by simpa using z.f3
theorem St.set0{c b0 kb:Nat}{a:Option Addr}{len cap:Nat}{w0 w:World}{h r f:Int}{s:ByteArray}(t:St c b0 kb a len cap w0 w h r f s)(x:Int):St c b0 kb a len cap w0 (w.setCell ⟨kb,0,none⟩ (.int .i64 x)) x r f s where
 at':=At.put t.at' t.n2 t.cb t.l2 0 _
 z:=t.z.put' t.n3 0 _
 k0:=World.cell?_setCell_same _ _ _ t.k0
 k1:=(World.cell?_setCell_other _ _ _ _ (by simp)).trans t.k1
 k2:=(World.cell?_setCell_other _ _ _ _ (by simp)).trans t.k2
 k3:=(World.cell?_setCell_other _ _ _ _ (by simp)).trans t.k3
 f0:=by simpa using t.f0
 f1:=by simpa using t.f1
 f2:=by simpa using t.f2
 f3:=by simpa using t.f3
 lt:=by simpa using t.lt
 n1:=t.n1
 n2:=t.n2
 n3:=t.n3
 l1:=t.l1
 l2:=t.l2
 cb:=t.cb
 g:=grown_put t.g t.l2 0 _
theorem St.set1{c b0 kb:Nat}{a:Option Addr}{len cap:Nat}{w0 w:World}{h r f:Int}{s:ByteArray}(t:St c b0 kb a len cap w0 w h r f s)(x:Int):St c b0 kb a len cap w0 (w.setCell ⟨kb,1,none⟩ (.int .i64 x)) h x f s where
 at':=At.put t.at' t.n2 t.cb t.l2 1 _
 z:=t.z.put' t.n3 1 _
 k0:=(World.cell?_setCell_other _ _ _ _ (by simp)).trans t.k0
 k1:=World.cell?_setCell_same _ _ _ t.k1
 k2:=(World.cell?_setCell_other _ _ _ _ (by simp)).trans t.k2
 k3:=(World.cell?_setCell_other _ _ _ _ (by simp)).trans t.k3
 f0:=by simpa using t.f0
 f1:=by simpa using t.f1
 f2:=by simpa using t.f2
 f3:=by simpa using t.f3
 lt:=by simpa using t.lt
 n1:=t.n1
 n2:=t.n2
 n3:=t.n3
 l1:=t.l1
 l2:=t.l2
 cb:=t.cb
 g:=grown_put t.g t.l2 1 _
theorem St.set2{c b0 kb:Nat}{a:Option Addr}{len cap:Nat}{w0 w:World}{h r f:Int}{s:ByteArray}(t:St c b0 kb a len cap w0 w h r f s)(x:Int):St c b0 kb a len cap w0 (w.setCell ⟨kb,2,none⟩ (.int .i64 x)) h r x s where
 at':=At.put t.at' t.n2 t.cb t.l2 2 _
 z:=t.z.put' t.n3 2 _
 k0:=(World.cell?_setCell_other _ _ _ _ (by simp)).trans t.k0
 k1:=(World.cell?_setCell_other _ _ _ _ (by simp)).trans t.k1
 k2:=World.cell?_setCell_same _ _ _ t.k2
 k3:=(World.cell?_setCell_other _ _ _ _ (by simp)).trans t.k3
 f0:=by simpa using t.f0
 f1:=by simpa using t.f1
 f2:=by simpa using t.f2
 f3:=by simpa using t.f3
 lt:=by simpa using t.lt
 n1:=t.n1
 n2:=t.n2
 n3:=t.n3
 l1:=t.l1
 l2:=t.l2
 cb:=t.cb
 g:=grown_put t.g t.l2 2 _
theorem St.set3{c b0 kb:Nat}{a:Option Addr}{len cap:Nat}{w0 w:World}{h r f:Int}{s:ByteArray}(t:St c b0 kb a len cap w0 w h r f s)(x:ByteArray):St c b0 kb a len cap w0 (w.setCell ⟨kb,3,none⟩ (.string x)) h r f x where
 at':=At.put t.at' t.n2 t.cb t.l2 3 _
 z:=t.z.put' t.n3 3 _
 k0:=(World.cell?_setCell_other _ _ _ _ (by simp)).trans t.k0
 k1:=(World.cell?_setCell_other _ _ _ _ (by simp)).trans t.k1
 k2:=(World.cell?_setCell_other _ _ _ _ (by simp)).trans t.k2
 k3:=World.cell?_setCell_same _ _ _ t.k3
 f0:=by simpa using t.f0
 f1:=by simpa using t.f1
 f2:=by simpa using t.f2
 f3:=by simpa using t.f3
 lt:=by simpa using t.lt
 n1:=t.n1
 n2:=t.n2
 n3:=t.n3
 l1:=t.l1
 l2:=t.l2
 cb:=t.cb
 g:=grown_put t.g t.l2 3 _
theorem code_lt{c:Nat}{a:Option Addr}{len cap:Nat}{w:World}(h:At c a len cap w):len=0∨∃b off,a=some ⟨b,off,none⟩∧b<w.heap.size:=by
 rcases h.bytes with h0 | ⟨b,off,ha,_,hlt,_⟩
 ·exact .inl h0
 ·exact .inr ⟨b,off,ha,hlt⟩
theorem St.final{c b0 kb:Nat}{a:Option Addr}{len cap:Nat}{w0 w:World}{h r f:Int}{s:ByteArray}(t:St c b0 kb a len cap w0 w h r f s)(v0 v1 v2 v3:Value) :
  At c a len cap ((((w.setCell ⟨b0,0,none⟩ v0).setCell ⟨b0,1,none⟩ v1).setCell ⟨b0,2,none⟩ v2).setCell ⟨b0,3,none⟩ v3)∧w0.grownBy ((((w.setCell ⟨b0,0,none⟩ v0).setCell ⟨b0,1,none⟩ v1).setCell ⟨b0,2,none⟩ v2).setCell ⟨b0,3,none⟩ v3) (some c):=
 ⟨At.put (At.put (At.put (At.put t.at' t.n1 t.cb t.l1 _ _) t.n1 t.cb t.l1 _ _) t.n1 t.cb t.l1 _ _) t.n1 t.cb t.l1 _ _,grown_put (grown_put (grown_put (grown_put t.g t.l1 _ _) t.l1 _ _) t.l1 _ _) t.l1 _ _⟩
def DrawPost(c:Nat)(a:Option Addr)(len cap:Nat)(w:World)(e:Ending)(w':World):Prop:=∃(h r f:Int) (s:ByteArray),e=.returned (.agg #[.int .i64 h,.int .i64 r,.int .i64 f,.string s])∧s.size≤13∧At c a len cap w'∧w.grownBy w' (some c)
theorem draw(c:Nat)(a:Option Addr)(len cap:Nat)(w:World)(hl:len≤4096)(hc:At c a len cap w) :
  Calls Tryz.prog 101 #[.pointer (some ⟨c,0,none⟩)] w (DrawPost c a len cap w):=by
 have hclt:=hc.lt;have hcode:=code_lt hc;have G0:w.grownBy (w.alloc (.cells #[.int .i64 0,.int .i64 0,.int .i64 0,.string ⟨#[]⟩] 38)) (some c):=World.grownBy_alloc _ _ _;have P0:Hid (w.grownBy (w.alloc (.cells #[.int .i64 0,.int .i64 0,.int .i64 0,.string ⟨#[]⟩] 38)) (some c)∧Zero w.heap.size (w.alloc (.cells #[.int .i64 0,.int .i64 0,.int .i64 0,.string ⟨#[]⟩] 38))∧At c a len cap (w.alloc (.cells #[.int .i64 0,.int .i64 0,.int .i64 0,.string ⟨#[]⟩] 38))):=⟨G0,zero_new w _,Draw.at_alloc hc _⟩
 clear G0;go_enter Tryz.func101,Tryz.ntmps101
 go_wp2_with fail
 generalize w.alloc (.cells #[.int .i64 0,.int .i64 0,.int .i64 0,.string ⟨#[]⟩] 38)=w0 at P0 ⊢;obtain⟨G0,Z0,A0⟩:=P0;refine(Cur.below c a len cap 4 _ hl (by omega) A0).mono ?_;rintro e w1 ⟨h,rfl,hh0,hh1,A1,g1⟩;have G1:=Cur.grownBy_trans G0 g1;have Z1:=Z0.grown g1 (by omega);clear g1 A0 Z0 G0;go_wp2_with fail
 refine(Cur.below c a len cap 4 _ hl (by omega) A1).mono ?_;rintro e w2 ⟨r,rfl,hr0,hr1,A2,g2⟩;have G2:=Cur.grownBy_trans G1 g2;have Z2:=Z1.grown g2 (by omega);clear g2 A1 Z1 G1;go_wp2_with fail
 refine(drawWord c a len cap _ hl A2).mono ?_;rintro e w3 ⟨s,rfl,hs,A3,g3⟩;have G3:=Cur.grownBy_trans G2 g3;have Z3:=Z2.grown g3 (by omega);clear g3 A2 Z2 G2;have S3:Hid (St c w.heap.size w3.heap.size a len cap w (w3.alloc (.cells #[.int .i64 h,.int .i64 r,.int .i64 0,.string s] 38)) h r 0 s):=
  { at':=Draw.at_alloc A3 _,z:=Z3.grown (World.grownBy_alloc _ _ (some c)) (by omega),k0:=by simp,k1:=by simp,k2:=by simp,k3:=by simp,f0:=by simp,f1:=by simp,f2:=by simp,f3:=by simp,lt:=by simp,n1:=by omega,n2:=by have:=A3.lt;omega,n3:=by have:=Z3.lt;omega,l1:=Nat.le_refl _,l2:=G3.size,cb:=hcode,g:=Cur.grownBy_trans G3 (World.grownBy_alloc _ _ _) }
 clear A3 Z3 G3;by_cases hp:0<r
 case' pos=>
  go_wp2_with fail
  generalize w3.alloc (.cells #[.int .i64 h,.int .i64 r,.int .i64 0,.string s] 38)=w4 at S3 ⊢;have S4:=S3.out;clear S3;generalize w3.heap.size=kb at S4 ⊢;refine(Cur.below c a len cap 12 _ hl (by omega) S4.at').mono ?_;rintro e w5 ⟨x,rfl,hx0,hx1,A5,g5⟩;have S5:=S4.grown g5 A5;have hx2:=hx1 (by omega);clear S4 A5 g5 hx1;go_wp2_with fail
  refine(Base.l1Bit x _ hx0 (by omega)).mono ?_;rintro e w5' ⟨rfl,rfl⟩;go_wp2_with fail
  refine(Cur.below c a len cap 12 _ hl (by omega) S5.at').mono ?_;rintro e w6 ⟨x',rfl,hx0',hx1',A6,g6⟩;have S6:=S5.grown g6 A6;have hx2':=hx1' (by omega);clear S5 A6 g6 hx1';go_wp2_with fail
  refine(Base.l1Bit x' _ hx0' (by omega)).mono ?_;rintro e w6' ⟨rfl,rfl⟩;go_wp2_with fail
  refine(Cur.below c a len cap 60 _ hl (by omega) S6.at').mono ?_;rintro e w6a ⟨x'',rfl,hx0'',hx1'',A6a,g6a⟩;have S6a:=S6.grown g6a A6a;have hx2'':=hx1'' (by omega);clear S6 A6a g6a hx1'';go_wp2_with fail
  refine(Base.l1Bit x'' _ hx0'' (by omega)).mono ?_;rintro e w6b ⟨rfl,rfl⟩;have kf:=S6a.f2;have kk:=S6a.k2;have S:=S6a.set2 (bits .or .i64 (bits .or .i64 (2 ^ x.toNat) (2 ^ x'.toNat)) (2 ^ x''.toNat));clear S6a;go_wp2_with fail
  generalize bits .or .i64 (bits .or .i64 (2 ^ x.toNat) (2 ^ x'.toNat)) (2 ^ x''.toNat)=f4 at S ⊢;clear kf kk;generalize w6a.setCell ⟨kb,2,none⟩ (.int .i64 f4)=w4 at S ⊢
 case' neg=>
  go_wp2_with fail
  generalize w3.alloc (.cells #[.int .i64 h,.int .i64 r,.int .i64 0,.string s] 38)=w4 at S3 ⊢;generalize w3.heap.size=kb at S3 ⊢;obtain⟨f4,S⟩:∃f4,St c w.heap.size kb a len cap w w4 h r f4 s:=⟨0,S3.out⟩
  clear S3
 all_goals
  have A7':=S.at';refine(Cur.once c a len cap 8 _ hl (by omega) A7').mono ?_;clear A7';rintro e w7 ⟨b,rfl,A7,g7⟩;have S7:=S.grown g7 A7;clear S A7 g7
  cases b
  ·have k0:=S7.k0;have k1:=S7.k1;have k2:=S7.k2;have k3:=S7.k3;have zf0:=S7.z.f0;have zf1:=S7.z.f1;have zf2:=S7.z.f2;have zf3:=S7.z.f3;have zr0:=S7.z.r0;have zr1:=S7.z.r1;have zr2:=S7.z.r2;have zr3:=S7.z.r3;have HQ:Hid _:=S7.z.put (.int .i64 h) (.int .i64 r) (.int .i64 f4) (.string s);have HF:Hid _:=S7.final (.int .i64 h) (.int .i64 r) (.int .i64 f4) (.string s);clear S7;go_wp2;obtain⟨q0,q1,q2,q3⟩:=HQ.out;exact bodyPost_ret (v:=.agg #[.int .i64 h,.int .i64 r,.int .i64 f4,.string s]) (by simp [results,Tryz.results101,go_sem,q0,q1,q2,q3]) rfl ⟨h,r,f4,s,rfl,hs,HF.out.1,HF.out.2⟩
  ·go_wp2_with fail
   refine(Cur.below c a len cap 4 _ hl (by omega) S7.at').mono ?_;rintro e w8 ⟨y,rfl,hy0,hy1,A8,g8⟩;have S8:=S7.grown g8 A8;have hy2:=hy1 (by omega);clear S7 A8 g8 hy1;rcases(show y=0∨y=1∨y=2∨y=3 by omega) with rfl | rfl | rfl | rfl
   ·go_wp2_with fail
    have A8':=Draw.at_alloc S8.at' (.cells #[.int .i64 (-1),.int .i64 4] 2);refine(Cur.below c a len cap 2 _ hl (by omega) A8').mono ?_;rintro e w9 ⟨x,rfl,hx0,hx1,A9,g9⟩;have hx2:=hx1 (by omega);obtain⟨v,hv,hv0,hv1⟩:=Draw.lit_int (l:=[-1,4]) S8.at'.lt g9 x.toNat (by simp;omega) (by simp);have S9:=(S8.grown (World.grownBy_alloc _ _ (some c)) A8').grown g9 A9;clear S8 A8' A9 g9 hx1;have kf:=S9.f0;have kk:=S9.k0;have S10:=S9.set0 v;clear S9;have k0:=S10.k0;have k1:=S10.k1;have k2:=S10.k2;have k3:=S10.k3;have zf0:=S10.z.f0;have zf1:=S10.z.f1;have zf2:=S10.z.f2;have zf3:=S10.z.f3;have zr0:=S10.z.r0;have zr1:=S10.z.r1;have zr2:=S10.z.r2;have zr3:=S10.z.r3;have HQ:Hid _:=S10.z.put (.int .i64 v) (.int .i64 r) (.int .i64 f4) (.string s);have HF:Hid _:=S10.final (.int .i64 v) (.int .i64 r) (.int .i64 f4) (.string s);clear S10;go_wp2;obtain⟨q0,q1,q2,q3⟩:=HQ.out;exact bodyPost_ret (v:=.agg #[.int .i64 v,.int .i64 r,.int .i64 f4,.string s]) (by simp [results,Tryz.results101,go_sem,q0,q1,q2,q3]) rfl ⟨v,r,f4,s,rfl,hs,HF.out.1,HF.out.2⟩
   ·go_wp2_with fail
    have A8':=Draw.at_alloc S8.at' (.cells #[.int .i64 (-1),.int .i64 0,.int .i64 19,.int .i64 20] 2);refine(Cur.below c a len cap 4 _ hl (by omega) A8').mono ?_;rintro e w9 ⟨x,rfl,hx0,hx1,A9,g9⟩;have hx2:=hx1 (by omega);obtain⟨v,hv,hv0,hv1⟩:=Draw.lit_int (l:=[-1,0,19,20]) S8.at'.lt g9 x.toNat (by simp;omega) (by simp);have S9:=(S8.grown (World.grownBy_alloc _ _ (some c)) A8').grown g9 A9;clear S8 A8' A9 g9 hx1;have kf:=S9.f1;have kk:=S9.k1;have S10:=S9.set1 v;clear S9;have k0:=S10.k0;have k1:=S10.k1;have k2:=S10.k2;have k3:=S10.k3;have zf0:=S10.z.f0;have zf1:=S10.z.f1;have zf2:=S10.z.f2;have zf3:=S10.z.f3;have zr0:=S10.z.r0;have zr1:=S10.z.r1;have zr2:=S10.z.r2;have zr3:=S10.z.r3;have HQ:Hid _:=S10.z.put (.int .i64 h) (.int .i64 v) (.int .i64 f4) (.string s);have HF:Hid _:=S10.final (.int .i64 h) (.int .i64 v) (.int .i64 f4) (.string s);clear S10;go_wp2;obtain⟨q0,q1,q2,q3⟩:=HQ.out;exact bodyPost_ret (v:=.agg #[.int .i64 h,.int .i64 v,.int .i64 f4,.string s]) (by simp [results,Tryz.results101,go_sem,q0,q1,q2,q3]) rfl ⟨h,v,f4,s,rfl,hs,HF.out.1,HF.out.2⟩
   ·go_wp2_with fail
    refine(Draw.drawSet c a len cap _ hl S8.at').mono ?_;rintro e w9 ⟨v,rfl,_,A9,g9⟩;have S9:=S8.grown g9 A9;clear S8 A9 g9;have kf:=S9.f2;have kk:=S9.k2;have S10:=S9.set2 v;clear S9;have k0:=S10.k0;have k1:=S10.k1;have k2:=S10.k2;have k3:=S10.k3;have zf0:=S10.z.f0;have zf1:=S10.z.f1;have zf2:=S10.z.f2;have zf3:=S10.z.f3;have zr0:=S10.z.r0;have zr1:=S10.z.r1;have zr2:=S10.z.r2;have zr3:=S10.z.r3;have HQ:Hid _:=S10.z.put (.int .i64 h) (.int .i64 r) (.int .i64 v) (.string s);have HF:Hid _:=S10.final (.int .i64 h) (.int .i64 r) (.int .i64 v) (.string s);clear S10;go_wp2;obtain⟨q0,q1,q2,q3⟩:=HQ.out;exact bodyPost_ret (v:=.agg #[.int .i64 h,.int .i64 r,.int .i64 v,.string s]) (by simp [results,Tryz.results101,go_sem,q0,q1,q2,q3]) rfl ⟨h,r,v,s,rfl,hs,HF.out.1,HF.out.2⟩
   ·go_wp2_with fail
    have A8':=Draw.at_alloc S8.at' (.cells #[.string ⟨#[65]⟩,.string ⟨#[97,98,99,100,101,102,103,104,105,106,107,108]⟩,.string ⟨#[97,98,99,100,101,102,103,104,105,106,107,108,109]⟩,.string ⟨#[97,58]⟩] 9);refine(Cur.below c a len cap 4 _ hl (by omega) A8').mono ?_;rintro e w9 ⟨x,rfl,hx0,hx1,A9,g9⟩;have hx2:=hx1 (by omega);obtain⟨v,hv,hvs⟩:=lit_str (l:=[⟨#[65]⟩,⟨#[97,98,99,100,101,102,103,104,105,106,107,108]⟩,⟨#[97,98,99,100,101,102,103,104,105,106,107,108,109]⟩,⟨#[97,58]⟩]) S8.at'.lt g9 x.toNat (by simp;omega) 13 (by decide);have S9:=(S8.grown (World.grownBy_alloc _ _ (some c)) A8').grown g9 A9;clear S8 A8' A9 g9 hx1;have kf:=S9.f3;have kk:=S9.k3;have S10:=S9.set3 v;clear S9;have k0:=S10.k0;have k1:=S10.k1;have k2:=S10.k2;have k3:=S10.k3;have zf0:=S10.z.f0;have zf1:=S10.z.f1;have zf2:=S10.z.f2;have zf3:=S10.z.f3;have zr0:=S10.z.r0;have zr1:=S10.z.r1;have zr2:=S10.z.r2;have zr3:=S10.z.r3;have HQ:Hid _:=S10.z.put (.int .i64 h) (.int .i64 r) (.int .i64 f4) (.string v);have HF:Hid _:=S10.final (.int .i64 h) (.int .i64 r) (.int .i64 f4) (.string v);clear S10;go_wp2;obtain⟨q0,q1,q2,q3⟩:=HQ.out;exact bodyPost_ret (v:=.agg #[.int .i64 h,.int .i64 r,.int .i64 f4,.string v]) (by simp [results,Tryz.results101,go_sem,q0,q1,q2,q3]) rfl ⟨h,r,f4,v,rfl,hvs,HF.out.1,HF.out.2⟩
end Kn
namespace Rm
open Kn (K okK in3)
open Lc (at' RdK laceB takesB flat OwnK CellsK cellsOf)
open Cur (At)
def CurB(c:Nat)(a:Option Addr)(len B:Nat):Prop:=c<B∧(len=0∨∀x,a=some x→x.block<B)
theorem curB_of{c:Nat}{a:Option Addr}{len cap:Nat}{w:World}(h:At c a len cap w):CurB c a len w.heap.size:=by
 refine⟨h.lt,?_⟩;rcases h.bytes with h0 | ⟨b,off,ha,_,hb,_⟩
 ·exact .inl h0
 ·exact .inr fun x hx=>by rw [ha] at hx;injection hx with hx;subst hx;exact hb
theorem CurB.mono{c:Nat}{a:Option Addr}{len B B':Nat}(h:CurB c a len B)(hb:B≤B'):CurB c a len B':=⟨by have:=h.1;omega,h.2.imp id fun k x hx=>by have:=k x hx;omega⟩
theorem at_belowB{c:Nat}{a:Option Addr}{len cap B:Nat}{w w':World}(h:At c a len cap w)(hB:CurB c a len B)(hb:Below B w w'):At c a len cap w' where
 lt:=Nat.lt_of_lt_of_le h.lt hb.size
 b:=(hb.cell (p:=⟨c,0,none⟩) hB.1).trans h.b
 i:=by obtain⟨i,h1,h2⟩:=h.i;exact⟨i,(hb.cell (p:=⟨c,1,none⟩) hB.1).trans h1,h2⟩
 h:=by obtain⟨i,h1,h2⟩:=h.h;exact⟨i,(hb.cell (p:=⟨c,2,none⟩) hB.1).trans h1,h2⟩
 f1:=(hb.frozen (p:=⟨c,1,none⟩) hB.1).trans h.f1
 f2:=(hb.frozen (p:=⟨c,2,none⟩) hB.1).trans h.f2
 bytes:=by
  rcases h.bytes with h0 | ⟨b,off,ha,hne,hlt,hc⟩
  ·exact .inl h0
  ·rcases hB.2 with h0 | hB2
   ·exact .inl h0
   ·refine .inr ⟨b,off,ha,hne,Nat.lt_of_lt_of_le hlt hb.size,fun j hj=>?_⟩;obtain⟨z,h1,h2⟩:=hc j hj;exact⟨z,(hb.cell (p:=⟨b,off+j,none⟩) (show b<B from hB2 _ ha)).trans h1,h2⟩
abbrev FrC(c:Nat)(w w':World):Prop:=Fr (fun x=>x=c) w w'
theorem coins_of(l:List Int)(h:∀x∈l,0≤x∧x≤3)(hl:l.length≤6):coinsB l=true:=by
 unfold coinsB coinsTo;rw [Bool.and_eq_true,decide_eq_true_eq,List.all_eq_true];refine⟨fun i hi=>?_,hl⟩;have hi':i<l.length:=by simpa using hi
 have:=h (l.getD i 0) (by simp [List.getD,List.getElem?_eq_getElem hi']);exact(in3_iff _).2 this
structure CnSt(c:Nat)(a:Option Addr)(len cap:Nat)(W wr:World)(v:Value)(l:List Int):Prop where
 at':At c a len cap wr
 fr:FrC c W wr
 own:wr.ownsRow W.heap.size 2 1 v l.length (l.map (Value.int .i64))
 ne:v≠.slice none 0 0
 inn:∀x∈l,0≤x∧x≤3
theorem cn_step{c:Nat}{a:Option Addr}{len cap:Nat}{W wr w1 w2:World}{v v':Value}{l:List Int}{x:Int}{o:Obj}(s:CnSt c a len cap W wr v l)(hcb:CurB c a len W.heap.size)(hA:At c a len cap w1)(hG:wr.grownBy w1 (some c))(hx:0≤x∧x≤3)(ho:w2.ownsRow W.heap.size 2 1 v' (l.length+1) (l.map (Value.int .i64)++[.int .i64 x]))(hg:(w1.alloc o).grownBy w2 v.ownBlock)(hn:¬ v'=.slice none 0 0) :
  CnSt c a len cap W w2 v' (l++[x]):=by
 have hlt:=World.ownsRow.lt s.own;have hf1:Fr (fun y=>v.ownBlock=some y) w1 w2:=(Fr.alloc _ w1 o).trans (Fr.of_own hg) (fun _ hx _=>hx);have hW1:W.heap.size≤w1.heap.size:=Nat.le_trans s.fr.size hG.size;refine⟨at_belowB hA hcb (hf1.toBelow hW1 (fun y hy=>(hlt y hy).1)),?_,?_,hn,?_⟩
 ·exact(s.fr.trans (Fr.of_grown hG) (fun _ hx _=>hx)).trans hf1 (fun y hy hl=>by have:=(hlt y hy).1;omega)
 ·simpa using ho
 ·intro y hy;rw [List.mem_append] at hy;rcases hy with hy | hy
  ·exact s.inn y hy
  ·simp at hy;subst hy;exact hx
theorem own_some{w:World}{B:Nat}{t:TypeId}{size n:Nat}{v:Value}{xs:List Value}(h:w.ownsRow B t size v n xs)(hv:v≠.slice none 0 0):∃g cap,v=.slice (some ⟨g,0,none⟩) n cap∧B≤g∧g<w.heap.size:=by
 have hlt:=World.ownsRow.lt h;obtain⟨_,⟨hn,_⟩ | ⟨g,cap,cur,rfl,hB,_⟩⟩:=h
 ·exact absurd hn hv
 ·exact⟨g,cap,rfl,hB,(hlt g rfl).2⟩
def NewCPost(c:Nat)(a:Option Addr)(len cap:Nat)(w:World)(e:Ending)(w':World):Prop:=∃R,e=.returned (roV R)∧NewR w.heap.size w' R∧At c a len cap w'∧FrC c w w'
theorem newR_fr{S:Nat→Prop}{B:Nat}{w w':World}{R:Ro}(x:NewR B w R)(hf:Fr S w w')(h1:¬ S R.gh)(h2:∀g,R.cv.ownBlock=some g→¬ S g):NewR B w' R:=
 ⟨parts_fr x.parts hf h1 (fun g hg=>by rw [x.lv] at hg;simp [Value.ownBlock] at hg),x.L,x.lv,coinsAt_fr x.coins hf h2,x.cB,x.cg⟩
theorem parts_base{B B':Nat}{w:World}{R:Ro}(x:Parts B w R)(h:B'≤B):Parts B' w R:=
 ⟨by
   obtain⟨h1,h2⟩:=x.own;refine⟨h1,?_⟩;rcases h2 with h2 | ⟨g,cap',cur,hv,hB,rest⟩
   · exact .inl h2
   · exact .inr ⟨g,cap',cur,hv,by omega,rest⟩,x.lace,x.hands,x.hok,Nat.le_trans h x.gB,x.cap,x.ne⟩
theorem newR_base{B B':Nat}{w:World}{R:Ro}(x:NewR B w R)(h:B'≤B):NewR B' w R:=⟨parts_base x.parts h,x.L,x.lv,x.coins,fun g hg=>Nat.le_trans h (x.cB g hg),x.cg⟩
theorem l18New(c:Nat)(a:Option Addr)(len cap:Nat)(w:World)(hl:len≤4096)(hc:At c a len cap w) :
  Calls Tryz.prog 138 #[.pointer (some ⟨c,0,none⟩)] w (NewCPost c a len cap w):=by
 obtain⟨i0,hi,hz0,hz1,hz2⟩:=info_parts Memb.info2;have hcb:=curB_of hc;have P0:Hid (Below w.heap.size w (w.alloc (.cells #[.slice none 0 0,.slice none 0 0,.slice none 0 0,.int .i64 0] 137))∧Q4 (w.alloc (.cells #[.slice none 0 0,.slice none 0 0,.slice none 0 0,.int .i64 0] 137)) w.heap.size (.slice none 0 0) (.slice none 0 0) (.slice none 0 0) (.int .i64 0)):=⟨(Below.refl _ _).alloc (Nat.le_refl _) _,q4_new _ _ _ _ _ _⟩
 go_enter Tryz.func138,Tryz.ntmps138
 go_upto_region 1 with fail
 generalize w.alloc (.cells #[.slice none 0 0,.slice none 0 0,.slice none 0 0,.int .i64 0] 137)=W0 at P0 ⊢;have hcb0:CurB c a len W0.heap.size:=hcb.mono P0.out.1.size;have HA0:Hid (At c a len cap (W0.alloc (.cells #[] 2))):=at_belowB hc hcb (P0.out.1.alloc P0.out.1.size _);have HE:Hid ((W0.alloc (.cells #[] 2)).ownsRow W0.heap.size 2 1 (.slice (some ⟨W0.heap.size,0,none⟩) 0 0) 0 []):=Memb.own_empty W0;go_wp2_with fail
 refine(Cur.below c a len cap 4 _ hl (by omega) HA0.out).mono ?_;rintro e w1 ⟨n0,rfl,hn0,hn1,hA1,hG1⟩;have hn2:=hn1 (by omega);have HS1:Hid (CnSt c a len cap W0 w1 (.slice (some ⟨W0.heap.size,0,none⟩) 0 0) []):=by
  refine⟨hA1,(Fr.alloc _ W0 _).trans (Fr.of_grown hG1) (fun _ hx _=>hx),?_,by simp,fun _ h=>by cases h⟩;exact own_fr (Fr.of_grown hG1) HE.out (fun g hg e=>by simp [Value.ownBlock] at hg;have:=hcb0.1;omega)
 clear hA1 hG1 HA0 HE hn1;go_wp2_with fail
 go_loopw [3,4] (fun v n wr=>∃(m:Nat) (l:List Int),n=.int .i64 m∧l.length+m≤3∧Hid (CnSt c a len cap W0 wr v l)) (fun _ n _=>(intOf n).toNat)
 case atStart=>
  obtain⟨m,rfl⟩:=Int.eq_ofNat_of_zero_le hn0;exact⟨m,[],rfl,by simp;omega,HS1.out⟩
 case round=>
  obtain⟨m,l,rfl,hlm,HS⟩:=hrel;by_cases hm:0<m
  ·have hm':(0:Int)<(m:Int):=by omega
   go_wp2_with fail
   refine(Cur.below c a len cap 4 _ hl (by omega) HS.out.at').mono ?_;rintro e w2 ⟨x,rfl,hx0,hx1,hA2,hG2⟩;have hx2:=hx1 (by omega);have hg3:∀g,u3.ownBlock=some g→g≠c:=fun g hg e=>by have:=(World.ownsRow.lt HS.out.own g hg).1;have:=hcb0.1;omega
   have own2:w2.ownsRow W0.heap.size 2 1 u3 l.length (l.map (Value.int .i64)):=own_fr (Fr.of_grown hG2) HS.out.own hg3;have hW2:W0.heap.size≤w2.heap.size:=Nat.le_trans HS.out.fr.size hG2.size;go_wp2_with (at_builtin;refine wpList_append_own _ rfl _ _ 25 rfl W0.heap.size 2 i0 (.int .i64 0) 1 8 Tryz.underlying25 hi hz0 hz1 hz2 rfl (by decide) u3 l.length (l.map (Value.int .i64)) (by first | rfl | simp [Act.eval]) (own2.alloc _) ⟨w2.heap.size,0,none⟩ 1 1 [.int .i64 x] (by first | rfl | simp [Act.eval]) rfl (Sg.one_new w2 x _) (Sg.one_one x) ?c3 ?c4 ?c5 ?_)
   case c3=>unfold maxLen;omega
   case c4=>omega
   case c5=>simp;omega
   intro v' w3 hown' hgrow hnil;have HS3:Hid (CnSt c a len cap W0 w3 v' (l++[x])):=cn_step HS.out hcb0 hA2 hG2 ⟨hx0,by omega⟩ hown' hgrow hnil;clear hown' hgrow hnil own2 hA2 hG2 HS;go_wp2;go_roundw
   case rel=>exact⟨m-1,l++[x],by congr 1;omega,by simp;omega,HS3⟩
   case measure=>simp [intOf];omega
  ·obtain rfl:m=0:=by omega
   have hn00:¬ (0:Int)<((0:Nat):Int):=by omega
   go_wp2_with fail
   refine(Cur.below c a len cap 5 _ hl (by omega) HS.out.at').mono ?_;rintro e w2 ⟨x,rfl,hx0,hx1,hA2,hG2⟩;have hx2:=hx1 (by omega);obtain⟨g,gc,hv,hWg,_⟩:=own_some HS.out.own HS.out.ne;have hgc:g≠c:=by have:=hcb0.1;omega
   have hlt0:w.heap.size<W0.heap.size:=P0.out.2.lt;have HS':=HS.out;rw [hv] at HS';have own2:Memb.Own W0.heap.size w2 (some ⟨g,0,none⟩) gc l:=own_fr (Fr.of_grown hG2) HS'.own (fun y hy e=>by simp [Value.ownBlock] at hy;omega);have hrd2:=Lst.own_rd own2;have hg2:=(World.ownsRow.lt own2 g rfl).2;have hl6:l.length≤6:=by omega
   have hcoins:=coins_of l HS'.inn hl6;have HF2:Hid (FrC c W0 w2):=HS'.fr.trans (Fr.of_grown hG2) (fun _ hx _=>hx);have HA2:Hid (At c a len cap w2):=hA2;clear hA2 hG2 HS HS' own2 hx1;subst hv;have hwr:IntKind.i64.wrap (x-1)=x-1:=by rw [IntKind.wrap_i64];omega
   go_wp2_with fail
   refine(newRoom g gc l (x-1) w2 hcoins hl6 hg2 hrd2 (by omega) (by omega)).mono ?_;rintro e w3 ⟨R,rfl,hR,hbad,hb3⟩;have HQ3:Hid (Q4 w3 w.heap.size (.slice none 0 0) (.slice none 0 0) (.slice none 0 0) (.int .i64 0)):=q4_below (q4_fr P0.out.2 HF2.out (by have:=hcb.1;omega)) hb3;obtain⟨co,cc,lc,hcv,_⟩:=hR.coins;have HV:Hid (roV R=.agg #[.slice none 0 0,.slice co lc.length cc,.slice (some ⟨R.gh,0,none⟩) 4 R.hc,.int .i64 R.bad]):=by show _=_;unfold roV;rw [hR.lv,hcv]
   clear hbad;have HN4:Hid (Q4 (w3.alloc (.cells #[.slice none 0 0,.slice co lc.length cc,.slice (some ⟨R.gh,0,none⟩) 4 R.hc,.int .i64 R.bad] 137)) w3.heap.size (.slice none 0 0) (.slice co lc.length cc) (.slice (some ⟨R.gh,0,none⟩) 4 R.hc) (.int .i64 R.bad)∧Below w3.heap.size w3 (w3.alloc (.cells #[.slice none 0 0,.slice co lc.length cc,.slice (some ⟨R.gh,0,none⟩) 4 R.hc,.int .i64 R.bad] 137))):=⟨q4_new _ _ _ _ _ _,(Below.refl _ _).alloc (Nat.le_refl _) _⟩
   rw [HV.out];go_upto_region 7 with fail
   generalize w3.alloc (.cells #[.slice none 0 0,.slice co lc.length cc,.slice (some ⟨R.gh,0,none⟩) 4 R.hc,.int .i64 R.bad] 137)=W4 at HN4 ⊢;have HBF:Hid (NewR w.heap.size (qset W4 w.heap.size (.slice none 0 0) (.slice co lc.length cc) (.slice (some ⟨R.gh,0,none⟩) 4 R.hc) (.int .i64 R.bad)) R∧At c a len cap (qset W4 w.heap.size (.slice none 0 0) (.slice co lc.length cc) (.slice (some ⟨R.gh,0,none⟩) 4 R.hc) (.int .i64 R.bad))∧FrC c w (qset W4 w.heap.size (.slice none 0 0) (.slice co lc.length cc) (.slice (some ⟨R.gh,0,none⟩) 4 R.hc) (.int .i64 R.bad))):=by
    have hw2:w.heap.size<w2.heap.size:=Nat.lt_of_lt_of_le hlt0 HF2.out.size;have hq:=qset_fr W4 w.heap.size (.slice none 0 0) (.slice co lc.length cc) (.slice (some ⟨R.gh,0,none⟩) 4 R.hc) (.int .i64 R.bad);have hf34:Fr (fun x=>x=w.heap.size) w3 _:=(Fr.of_below HN4.out.2 _).trans hq (fun _ hx _=>hx);have hf24:Fr (fun x=>x=w.heap.size) w2 _:=(Fr.of_below hb3 _).trans hf34 (fun _ hx _=>hx);have hW0w:FrC c w W0:=Fr.of_below P0.out.1 _;refine⟨newR_base (newR_fr hR hf34 (fun e=>by have:=hR.parts.gB;omega) (fun g hg e=>by have:=hR.cB g hg;omega)) (Nat.le_of_lt hw2),?_,?_⟩
    ·exact at_belowB HA2.out hcb (hf24.toBelow (Nat.le_of_lt hw2) (fun x hx=>by omega))
    ·exact(hW0w.trans HF2.out (fun _ hx _=>hx)).trans hf24 (fun x hx hl=>by omega)
   have hQ4:=q4_below HQ3.out HN4.out.2;have HQP:Hid _:=q4_put hQ4 (.slice none 0 0) (.slice co lc.length cc) (.slice (some ⟨R.gh,0,none⟩) 4 R.hc) (.int .i64 R.bad);obtain⟨_,r0,r1,r2,r3,f0,f1,f2,f3⟩:=hQ4;obtain⟨_,s0,s1,s2,s3,_,_,_,_⟩:=HN4.out.1;clear hR hcv hb3 hrd2 hcoins;go_wp2;obtain⟨_,y0,y1,y2,y3,_,_,_,_⟩:=HQP.out;unfold qset at y0 y1 y2 y3;exact bodyPost_ret (v:=.agg #[.slice none 0 0,.slice co lc.length cc,.slice (some ⟨R.gh,0,none⟩) 4 R.hc,.int .i64 R.bad]) (by simp [results,Tryz.results138,go_sem,y0,y1,y2,y3]) rfl ⟨R,by rw [HV.out],HBF.out⟩
end Rm
end Go.Proofs.YtbkeldfbllhlbaaGreat
