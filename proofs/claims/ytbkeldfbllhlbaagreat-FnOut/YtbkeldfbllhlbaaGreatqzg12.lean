/-
 What the model's drawings of a set and of a number hand back: a number; they change the cursor alone. And the drawings of the laws on laces, where the drawing of a room keeps its word.
-/
import Derived.Test.YtbkeldfbllhlbaaGreatqzg11
set_option linter.unusedVariables false
set_option maxRecDepth 100000
set_option maxHeartbeats 6400000
namespace Go.Proofs.YtbkeldfbllhlbaaGreat
open Go.RowKit
namespace Rm
open Kn (K okK in3)
open Sg (orB belows)
open Lc (at' RdK laceB takesB flat OwnK CellsK cellsOf)
theorem own_base{w:World}{b b':Nat}{t:TypeId}{size n:Nat}{v:Value}{xs:List Value}(h:w.ownsRow b t size v n xs)(hb:b'≤b):w.ownsRow b' t size v n xs:=by
 obtain⟨h1,h2⟩:=h;refine⟨h1,?_⟩;rcases h2 with h2 | ⟨g,cap',cur,hv,hB,rest⟩
 ·exact .inl h2
 ·exact .inr ⟨g,cap',cur,hv,by omega,rest⟩
def set4(V:World)(g o:Nat)(h:Hd):World:=(((V.setCell ⟨g,o,none⟩ (.int .i64 h.who)).setCell ⟨g,o+1,none⟩ (.int .i64 h.has)).setCell ⟨g,o+2,none⟩ (.int .i64 h.kept)).setCell ⟨g,o+3,none⟩ (.int .i64 h.last)
theorem hat_who{w:World}{g o:Nat}{h:Hd}(x:HAt w g o h)(y:Int):HAt (w.setCell ⟨g,o,none⟩ (.int .i64 y)) g o { h with who:=y }:=
 ⟨by simpa using x.lt,World.cell?_setCell_same _ _ _ x.c0,(World.cell?_setCell_other _ _ _ _ (by simp)).trans x.c1,(World.cell?_setCell_other _ _ _ _ (by simp)).trans x.c2,(World.cell?_setCell_other _ _ _ _ (by simp)).trans x.c3,by simpa using x.f0,by simpa using x.f1,by simpa using x.f2,by simpa using x.f3⟩
theorem set4_at{V:World}{g o:Nat}{h0 h:Hd}(x:HAt V g o h0):HAt (set4 V g o h) g o h:=hat_last (hat_kept (hat_has (hat_who x h.who) h.has) h.kept) h.last
theorem set4_far{V:World}{g o o':Nat}{h0 h:Hd}(x:HAt V g o h0)(hn:o+4≤o'∨o'+4≤o):HAt (set4 V g o' h) g o h0:=
 hat_far (hat_far (hat_far (hat_far (j:=0) x (by omega) hn _) (j:=1) (by omega) hn _) (j:=2) (by omega) hn _) (j:=3) (by omega) hn _
theorem set4_fr(V:World)(g o:Nat)(h:Hd):Fr (fun x=>x=g) V (set4 V g o h):=
 (((Fr.set V ⟨g,o,none⟩ _).trans (Fr.set _ ⟨g,o+1,none⟩ _) (fun _ hx _=>hx)).trans (Fr.set _ ⟨g,o+2,none⟩ _) (fun _ hx _=>hx)).trans (Fr.set _ ⟨g,o+3,none⟩ _) (fun _ hx _=>hx)
theorem roat_lace{B p:Nat}{R:Ro}{w V:World}(L':List K)(v:Value)(hr:RoAt B w p R)(hb:Below w.heap.size w V)(ho:V.ownsRow w.heap.size 38 4 v L'.length (flat L'))(hl:laceB L'=true)(hlen:R.L.length≤L'.length) :
  RoAt B (V.setCell ⟨p,0,none⟩ v) p (putL R L' v):=by
 have hBw:B≤w.heap.size:=Nat.le_trans hr.pB (Nat.le_of_lt hr.lt);have hgl:R.gh<w.heap.size:=(hr.parts.hands 0 (by omega)).lt;have hlt:=World.ownsRow.lt ho;have hvp:v.ownBlock≠some p:=fun e=>by have:=(hlt p e).1;have:=hr.lt;omega
 have hvg:v.ownBlock≠some R.gh:=fun e=>by have:=(hlt R.gh e).1;omega
 have hs:=Fr.set V ⟨p,0,none⟩ v;have hpl:p<V.heap.size:=Nat.lt_of_lt_of_le hr.lt hb.size;have hcell:∀j,V.cell? ⟨p,j,none⟩=w.cell? ⟨p,j,none⟩:=fun j=>hb.cell (p:=⟨p,j,none⟩) hr.lt
 refine⟨by simpa using hpl,hr.pB,World.cell?_setCell_same _ _ _ ((hcell 0).trans hr.c0),(World.cell?_setCell_other _ _ _ _ (by simp)).trans ((hcell 1).trans hr.c1),(World.cell?_setCell_other _ _ _ _ (by simp)).trans ((hcell 2).trans hr.c2),(World.cell?_setCell_other _ _ _ _ (by simp)).trans ((hcell 3).trans hr.c3),?_,⟨?_,hl,fun j hj=>?_,fun j hj=>(hr.parts.hok j hj).mono hlen,hr.parts.gB,hr.parts.cap,hvg⟩,hr.n1,hvp⟩
 ·rw [World.frozen?_setCell];exact(hb.frozen (p:=⟨p,0,none⟩) hr.lt).trans hr.f0
 ·exact own_base (own_fr hs ho (fun g hg e=>hvp (by have e':g=p:=e;rw [← e'];exact hg))) hBw
 ·exact hat_fr (hat_below (hr.parts.hands j hj) hb) hs (fun e=>hr.n1 e.symm)
theorem tie_fin{B p:Nat}{R:Ro}{w V:World}{v:Value}{L':List K}{h:Hd}{i:Nat}{x:Out}(hxo:x=⟨true,L',upd R.hs i h⟩)(hi:i<4)(hr:RoAt B w p R)(hb:Below w.heap.size w V)(ho:V.ownsRow w.heap.size 38 4 v L'.length (flat L'))(hl:laceB L'=true)(hlen:R.L.length≤L'.length)(hok:HdOk L'.length h) :
   DoPost B p R x w (.returned (.bool true)) (set4 (V.setCell ⟨p,0,none⟩ v) R.gh (i*4) h):=by
 have hro:=roat_lace L' v hr hb ho hl hlen;have hlt:=World.ownsRow.lt ho;have hf1:Fr (roS p R) w (V.setCell ⟨p,0,none⟩ v):=(Fr.of_below hb _).trans (Fr.set V ⟨p,0,none⟩ v) (fun x hx _=>.inl hx);have hf2:=set4_fr (V.setCell ⟨p,0,none⟩ v) R.gh (i*4) h;obtain ⟨R', he, hro', h1, h2, hf3, h3⟩ := do_hand (R := putL R L' v) true i h hxo hok hro hf2 (fun j hj=>by
   show HAt _ R.gh (j*4) (if j=i then h else R.hs j);have hx:HAt (V.setCell ⟨p,0,none⟩ v) R.gh (j*4) (R.hs j):=hro.parts.hands j hj;split
   · rename_i e;subst e;exact set4_at hx
   · exact set4_far hx (by omega))
 refine⟨R',he,hro',h1,h2,hf1.trans hf2 (fun x hx _=>.inr (.inl hx)),fun g hg=>?_⟩;rcases h3 g hg with h | h
 · exact .inr (hlt g h).1
 · have:=hf1.size;exact .inr (by omega)
structure TRes(R:Ro)(x:Out)(i:Nat)(w wx:World)(v:Value)(hb:Nat)(h:Hd)(b:Bool):Prop where
 bel:Below w.heap.size w wx
 hh:HAt wx hb 0 h
 gt:w.heap.size≤hb
 no:b=false→x=⟨false,R.L,R.hs⟩
 res:b=true→∃L',wx.ownsRow w.heap.size 38 4 v L'.length (flat L')∧laceB L'=true∧R.L.length≤L'.length∧HdOk L'.length h∧x=⟨true,L',upd R.hs i h⟩
def tieOut(L:List K)(hs:Nat→Hd)(i:Nat)(word:ByteArray):Out:=if tieB L (hs i) word then ⟨true,L++[tieK L (hs i) word],upd hs i ⟨(hs i).who,orB (hs i).has (2 ^ L.length),orB (hs i).has (2 ^ L.length),(L.length:Int)⟩⟩ else ⟨false,L,hs⟩
def TieForm(R:Ro)(x:Out)(i:Nat)(X:World)(e:Ending)(w':World):Prop:=
 ∃(v:Value) (h:Hd) (b:Bool),e=.returned (.tuple #[v,.agg #[.int .i64 h.who,.int .i64 h.has,.int .i64 h.kept,.int .i64 h.last],.bool b])∧Below X.heap.size X w'∧(b=false→x=⟨false,R.L,R.hs⟩)∧(b=true→∃L',OwnK 38 X.heap.size w' v L'∧laceB L'=true∧R.L.length≤L'.length∧HdOk L'.length h∧x=⟨true,L',upd R.hs i h⟩)
theorem tie_form{ao:Option Addr}{cap:Nat}{R:Ro}{x:Out}{i:Nat}{word:ByteArray}{X w':World}{e:Ending}(hx:x=tieOut R.L R.hs i word)(hl:laceB R.L=true)(hok:HdOk R.L.length (R.hs i))(hp:TiePost ao cap R.L (R.hs i) word X e w'):TieForm R x i X e w':=by
 obtain⟨⟨hn,he⟩ | ⟨ht,v,he,ho⟩,hb⟩:=hp
 ·exact⟨_,R.hs i,false,he,hb,fun _=>by rw [hx];unfold tieOut;rw [hn];rfl,fun e=>by cases e⟩
 ·have hx':=hx;unfold tieOut at hx';rw [if_pos ht] at hx';unfold tieB at ht;rw [Bool.and_eq_true] at ht;have hc:(decide (R.L.length<60)&&Lc.canB R.L (tieK R.L (R.hs i) word))=true:=ht.2;rw [Bool.and_eq_true,decide_eq_true_eq] at hc;have hp:=Base.pow_bd R.L.length hc.1;have hor:=Sg.orB_bd (R.hs i).has (2 ^ R.L.length) hok.h0 hok.h1 (by omega) hp.2;exact⟨v,⟨(R.hs i).who,orB (R.hs i).has (2 ^ R.L.length),orB (R.hs i).has (2 ^ R.L.length),(R.L.length:Int)⟩,true,he,hb,(fun e=>by cases e),fun _=>⟨_,ho,lace_snoc hl ht.2,by simp,⟨hor.1,hor.2,hor.1,hor.2,by simp;omega⟩,hx'⟩⟩
theorem tresA{R:Ro}{x:Out}{i:Nat}{w W X V:World}{v:Value}{h:Hd}{b:Bool}(hw:Below w.heap.size w W)(hX:Below W.heap.size W X)(hV:Below X.heap.size X V)(hno:b=false→x=⟨false,R.L,R.hs⟩)(hr:b=true→∃L',OwnK 38 X.heap.size V v L'∧laceB L'=true∧R.L.length≤L'.length∧HdOk L'.length h∧x=⟨true,L',upd R.hs i h⟩)(t:TypeId) :
  TRes R x i w (V.alloc (.cells #[.int .i64 h.who,.int .i64 h.has,.int .i64 h.kept,.int .i64 h.last] t)) v V.heap.size h b:=by
 have hB:=(hw.trans (hX.mono hw.size)).trans (hV.mono (Nat.le_trans hw.size hX.size));refine⟨hB.alloc hB.size _,hat_new V h t,hB.size,hno,fun e=>?_⟩;obtain⟨L',ho,h1,h2,h3,h4⟩:=hr e;exact⟨L',own_base (ho.1.alloc _) (Nat.le_trans hw.size hX.size),h1,h2,h3,h4⟩
theorem tresB{R:Ro}{x:Out}{i:Nat}{w W X V:World}{v:Value}{h h0:Hd}{b:Bool}{g:Nat}(hw:Below w.heap.size w W)(hX:Below W.heap.size W X)(hV:Below X.heap.size X V)(hg:w.heap.size≤g)(hgx:g<X.heap.size)(hz:HAt V g 0 h0)(hno:b=false→x=⟨false,R.L,R.hs⟩)(hr:b=true→∃L',OwnK 38 X.heap.size V v L'∧laceB L'=true∧R.L.length≤L'.length∧HdOk L'.length h∧x=⟨true,L',upd R.hs i h⟩) :
  TRes R x i w (set4 V g 0 h) v g h b:=by
 have hB:=(hw.trans (hX.mono hw.size)).trans (hV.mono (Nat.le_trans hw.size hX.size));have hf:=set4_fr V g 0 h;refine⟨hB.trans (hf.toBelow hB.size (fun x hx=>by subst hx;exact hg)),set4_at hz,hg,hno,fun e=>?_⟩;obtain⟨L',ho,h1,h2,h3,h4⟩:=hr e;exact⟨L',own_base (own_fr hf ho.1 (fun y hy e=>by have:=(World.ownsRow.lt ho.1 y hy).1;omega)) (Nat.le_trans hw.size hX.size),h1,h2,h3,h4⟩
theorem kA'{W V:World}(h:Below W.drew.heap.size W.drew V):Below W.heap.size W V:=⟨h.os,h.tape,h.output,h.size,h.block⟩
theorem kB'{W V:World}{o:Obj}(h:Below (W.drew.alloc o).heap.size (W.drew.alloc o) V):Below W.heap.size W V:=kA' (((Below.refl _ W.drew).alloc (Nat.le_refl _) o).trans (h.mono (by simp)))
theorem kC'{W V:World}{o:Obj}(h:Below (W.alloc o).drew.heap.size (W.alloc o).drew V):Below W.heap.size W V:=((Below.refl _ W).alloc (Nat.le_refl _) o).trans ((kA' h).mono (by simp))
theorem keepH{W V:World}{t:TypeId}(h:Below (W.drew.alloc (.cells #[.int .i64 0,.int .i64 0,.int .i64 0,.int .i64 0] t)).heap.size (W.drew.alloc (.cells #[.int .i64 0,.int .i64 0,.int .i64 0,.int .i64 0] t)) V):HAt V W.heap.size 0 ⟨0,0,0,0⟩:=hat_below (hat_new W.drew ⟨0,0,0,0⟩ t) h
theorem keepH'{W V:World}{t:TypeId}(h:Below (W.alloc (.cells #[.int .i64 0,.int .i64 0,.int .i64 0,.int .i64 0] t)).drew.heap.size (W.alloc (.cells #[.int .i64 0,.int .i64 0,.int .i64 0,.int .i64 0] t)).drew V):HAt V W.heap.size 0 ⟨0,0,0,0⟩:=hat_below (hat_drew (hat_new W ⟨0,0,0,0⟩ t)) h
theorem doTie(B p:Nat)(R:Ro)(a:Ac)(w:World)(hr:RoAt B w p R)(hk:a.kind=1)(hg:goodB R a=true)(hwd:a.word.size≤1099511627776)(x:Out)(HX:Hid (x=tieOut R.L R.hs a.who.toNat a.word)):Calls Tryz.prog 140 #[.pointer (some ⟨p,0,none⟩),acV a] w (DoPost B p R x w):=by
 obtain⟨kind,who,knot,round,frm,word⟩:=a;obtain rfl:kind=1:=hk;have P0:Hid (DoBeg B p R ⟨1,who,knot,round,frm,word⟩ w (w.alloc (acO ⟨1,who,knot,round,frm,word⟩))):=dobeg _ hr;have HR:Hid (RoAt B w p R):=hr;unfold goodB at hg;rw [Bool.and_eq_true] at hg;have hcall:=in3_call who true hg.1;have hw3:=(in3_iff who).1 hg.1;have hq1:(who != R.bad)=true:=hg.2;clear hr hg;obtain⟨i,rfl⟩:=Int.eq_ofNat_of_zero_le hw3.1;simp only [Int.toNat_natCast] at HX;have hi:i<4:=by omega
 have hi4:(i:Int)<4:=by omega
 go_enter Tryz.func140,Tryz.ntmps140
 go_wp2_with fail
 generalize w.alloc (acO ⟨1,(i:Int),knot,round,frm,word⟩)=W at P0 ⊢;obtain⟨hB,hro,hlt,a0,a1,a2,a3,a4,a5⟩:=P0.out;have c2:=hro.c2;have c3:=hro.c3;have hcap:=hro.parts.cap;obtain⟨_,x0,x1,x2,x3,f0,f1,f2,f3⟩:=hro.parts.hands i hi;have HB:Hid (Below w.heap.size w W):=hB;have HH:Hid (HAt W R.gh (i*4) (R.hs i)):=hro.parts.hands i hi;have HOK:Hid (HdOk R.L.length (R.hs i)):=hro.parts.hok i hi;clear hro hB;go_quiet (first | (go_at_call 44;exact(hcall _).mono fun _ _ h=>⟨h.1,_,h.2⟩))
 go_wp2_with fail
 go_quiet (fail)
 go_upto_region 14 with fail
 generalize hN:W.drewN _=W1;have P1:Hid (DoBeg B p R ⟨1,(i:Int),knot,round,frm,word⟩ w W1):=hN ▸ dobeg_drewN P0.out _;clear hN P0 a0 a1 a2 a3 a4 a5 c2 c3 x0 x1 x2 x3 f0 f1 f2 f3 HB HH hcall hlt;have hpl:=P1.out.ro.lt;have hlt:=P1.out.lt;have a5:=P1.out.a5;obtain⟨hgl,x0,x1,x2,x3,_,_,_,_⟩:=P1.out.ro.parts.hands i hi;obtain⟨ao,cap,hlv,ho,hz,hcp,hrd,_⟩:=own_lace P1.out.ro.parts.own;have c0:=P1.out.ro.c0;rw [hlv] at c0;have HCT:Hid (∀X:World,Below W1.heap.size W1 X→Calls Tryz.prog 160 #[.slice ao R.L.length cap,.agg #[.int .i64 (R.hs i).who,.int .i64 (R.hs i).has,.int .i64 (R.hs i).kept,.int .i64 (R.hs i).last],.string word] X (TieForm R x i X)):=fun X hX=>
   (l14Tie ao cap R.L (R.hs i) word X ho hz hcp P1.out.ro.parts.lace (hrd.below hX) HOK.out hwd).mono fun _ _ y=>tie_form HX.out P1.out.ro.parts.lace HOK.out y
 clear hrd ho hz hcp hcap hwd hlv;go_cut [8,9,10] (fun lv' hp is wx=>∃(hb:Nat) (h:Hd) (b:Bool),hp=.pointer (some ⟨hb,0,none⟩)∧is=.bool b∧Hid (TRes R x i w wx lv' hb h b))
 case first=>
   have HSB:Hid (∀X:World,Below W1.heap.size W1 X→X.cell? ⟨p,0,none⟩=some (.slice ao R.L.length cap)∧X.cell? ⟨R.gh,i*4,none⟩=some (.int .i64 (R.hs i).who)∧X.cell? ⟨R.gh,i*4+1,none⟩=some (.int .i64 (R.hs i).has)∧X.cell? ⟨R.gh,i*4+2,none⟩=some (.int .i64 (R.hs i).kept)∧X.cell? ⟨R.gh,i*4+3,none⟩=some (.int .i64 (R.hs i).last)∧X.cell? ⟨w.heap.size,5,none⟩=some (.string word)):=fun X hX=>
     ⟨(hX.cell (p:=⟨p,0,none⟩) hpl).trans c0,(hX.cell (p:=⟨R.gh,i*4,none⟩) hgl).trans x0,(hX.cell (p:=⟨R.gh,i*4+1,none⟩) hgl).trans x1,(hX.cell (p:=⟨R.gh,i*4+2,none⟩) hgl).trans x2,(hX.cell (p:=⟨R.gh,i*4+3,none⟩) hgl).trans x3,(hX.cell (p:=⟨w.heap.size,5,none⟩) hlt).trans a5⟩
   go_region_held3 (fun X => X.cell? ⟨p, 0, none⟩ = some (.slice ao R.L.length cap) ∧ X.cell? ⟨R.gh, i * 4, none⟩ = some (.int .i64 (R.hs i).who) ∧ X.cell? ⟨R.gh, i * 4 + 1, none⟩ = some (.int .i64 (R.hs i).has) ∧ X.cell? ⟨R.gh, i * 4 + 2, none⟩ = some (.int .i64 (R.hs i).kept) ∧ X.cell? ⟨R.gh, i * 4 + 3, none⟩ = some (.int .i64 (R.hs i).last) ∧ X.cell? ⟨w.heap.size, 5, none⟩ = some (.string word)) (first
     | exact HSB.out _ (B1.alloc B1.size _)
     | exact HSB.out _ B1
     | exact HSB.out _ ((((B1.setCell (p:=⟨W1.heap.size,0,none⟩) (Nat.le_refl _) _).setCell (p:=⟨W1.heap.size,1,none⟩) (Nat.le_refl _) _).setCell (p:=⟨W1.heap.size,2,none⟩) (Nat.le_refl _) _).setCell (p:=⟨W1.heap.size,3,none⟩) (Nat.le_refl _) _)
     | exact HSB.out _ (Below.refl _ _).drew
     | exact HSB.out _ ((Below.refl _ _).alloc (Nat.le_refl _) _).drew
     | exact HSB.out _ ((Below.refl _ _).drew.alloc (Nat.le_refl _) _)
     | go_keep) (first
     | (go_at_call 160
        refine(HCT.out _ (by first | exact(Below.refl _ _).drew | exact((Below.refl _ _).alloc (Nat.le_refl _) _).drew | exact(Below.refl _ _).drew.alloc (Nat.le_refl _) _)).mono ?_;rintro e V1 ⟨v,h,b,rfl,b1,hno,hres⟩
        (first | have HZ:=keepH b1 | have HZ:=keepH' b1 | skip)
        (first | (have z0:=HZ.c0;have z1:=HZ.c1;have z2:=HZ.c2;have z3:=HZ.c3;have g0:=HZ.f0;have g1:=HZ.f1;have g2:=HZ.f2;have g3:=HZ.f3;simp only [Nat.zero_add] at z1 z2 z3 g1 g2 g3) | skip)
        (first | have B1:Below W1.heap.size W1 V1:=kC' b1 | have B1:Below W1.heap.size W1 V1:=kB' b1 | have B1:Below W1.heap.size W1 V1:=kA' b1)))
   all_goals (go_wp2_with fail)
   all_goals go_meet
   all_goals
     first
       | exact⟨_,h,b,rfl,rfl,tresA P1.out.bel (Below.refl _ _).drew b1 hno hres _⟩
       | exact⟨_,h,b,rfl,rfl,tresB (X:=(W1.alloc _).drew) P1.out.bel ((Below.refl _ _).alloc (Nat.le_refl _) _).drew b1 P1.out.bel.size (by simp) HZ hno hres⟩
       | exact⟨_,h,b,rfl,rfl,tresB (X:=W1.drew.alloc _) P1.out.bel ((Below.refl _ _).drew.alloc (Nat.le_refl _) _) b1 P1.out.bel.size (by simp) HZ hno hres⟩
 case rest=>
   obtain⟨hb,h,b,rfl,rfl,HT⟩:=hcut;generalize u8=v at HT ⊢;clear HCT c0 x0 x1 x2 x3 a5 hpl hlt hgl P1
   cases b
   · go_wp2;go_ret;exact do_same false (HT.out.no rfl) HR.out HT.out.bel
   · obtain⟨L',hown,hl',hlen,hok,hxx⟩:=HT.out.res rfl;obtain⟨ao',cap',hv,_⟩:=own_lace hown;subst hv;have HF:Hid (DoPost B p R x w (.returned (.bool true)) (set4 (wc.setCell ⟨p,0,none⟩ (.slice ao' L'.length cap')) R.gh (i*4) h)):=tie_fin hxx hi HR.out HT.out.bel hown hl' hlen hok;have hRO:=roat_below HR.out HT.out.bel;have hRO1:=roat_lace L' _ HR.out HT.out.bel hown hl' hlen;have hne:hb≠p:=fun e=>by have:=HT.out.gt;have:=HR.out.lt;omega
     have HA:Hid (HAt (wc.setCell ⟨p,0,none⟩ (.slice ao' L'.length cap')) hb 0 h):=hat_other HT.out.hh hne _;have HB1:Hid (HAt (wc.setCell ⟨p,0,none⟩ (.slice ao' L'.length cap')) R.gh (i*4) (R.hs i)):=hRO1.parts.hands i hi;have c0:=hRO.c0;have f0:=hRO.f0;clear hRO hRO1 hown hl' hlen hok hxx HT HOK;go_upto_region 18 with fail
     generalize wc.setCell ⟨p,0,none⟩ (.slice ao' L'.length cap')=W2 at HF HA HB1 ⊢;clear c0 f0;obtain⟨_,y0,y1,y2,y3,_,_,_,_⟩:=HA.out;obtain⟨_,x0,x1,x2,x3,g0,g1,g2,g3⟩:=HB1.out;simp only [Nat.zero_add] at y1 y2 y3;go_wp2;go_ret;exact HF.out
end Rm
namespace Rm
open Kn (K okK in3)
open Sg (orB belows)
open Lc (at' RdK laceB takesB flat OwnK CellsK cellsOf)
theorem keepN{W V:World}{n:Nat}(h:Below (W.drewN n).drew.heap.size (W.drewN n).drew V):Below W.heap.size W V:=⟨h.os,h.tape,h.output,h.size,h.block⟩
def learnOut(L:List K)(hs:Nat→Hd)(i:Nat)(k:Int):Out:=if learnB L (belows L L.length) (hs i).who (hs i).has k true then ⟨true,L,upd hs i { hs i with has:=orB (hs i).has ((belows L L.length).getD k.toNat 0) }⟩ else ⟨false,L,hs⟩
def learnOutL(l:List Int)(al:Bool)(L:List K)(hs:Nat→Hd)(i:Nat)(k:Int):Out:=if learnB L l (hs i).who (hs i).has k al then ⟨true,L,upd hs i { hs i with has:=orB (hs i).has (l.getD k.toNat 0) }⟩ else ⟨false,L,hs⟩
theorem learn_do{B p:Nat}{R:Ro}{x:Out}{w Y w':World}{e:Ending}{l:List Int}{k:Int}{al:Bool}{i:Nat}(hi:i<4)(hr:RoAt B w p R)(hb:Below w.heap.size w Y)(hin:Sg.Within l)(hx:x=learnOutL l al R.L R.hs i k)(hp:LearnPost R.L l (R.hs i).who (R.hs i).has k al R.gh (i*4) Y e w'):DoPost B p R x w e w':=by
 obtain⟨he,d,hw⟩:=hp;have hok:=hr.parts.hok i hi
 cases hl:learnB R.L l (R.hs i).who (R.hs i).has k al
 ·rw [hl] at he hw;subst he;refine do_same false (hx.trans (by unfold learnOutL;rw [hl];rfl)) hr ?_;rw [hw];exact⟨hb.os,hb.tape,hb.output,hb.size,hb.block⟩
 ·rw [hl] at he hw;subst he;have hg:=Sg.within_get hin k.toNat;have ho:=Sg.orB_bd (R.hs i).has (l.getD k.toNat 0) hok.h0 hok.h1 hg.1 hg.2;have hD:=do_put true i { R.hs i with has:=orB (R.hs i).has (l.getD k.toNat 0) } (hx.trans (by unfold learnOutL;rw [hl];rfl)) ⟨ho.1,ho.2,hok.k0,hok.k1,hok.la⟩ hr hb 1 (by omega) _ (hat_has (hat_below (hr.parts.hands i hi) hb) _);obtain⟨R',he',hro,h1,h2,hf,h3⟩:=hD;rw [hw];refine⟨R',he',?_,h1,h2,⟨hf.os,hf.tape,hf.output,hf.size,hf.block⟩,h3⟩;exact roat_fr (S:=fun _=>False) hro ⟨rfl,rfl,rfl,Nat.le_refl _,fun _ _ _=>rfl⟩ (fun _ _ h=>h)
theorem doShow(B p:Nat)(R:Ro)(a:Ac)(w:World)(hr:RoAt B w p R)(hk:a.kind=2)(hg:goodB R a=true)(x:Out)(HX:Hid (x=learnOut R.L R.hs a.who.toNat a.knot)):Calls Tryz.prog 140 #[.pointer (some ⟨p,0,none⟩),acV a] w (DoPost B p R x w):=by
 obtain⟨kind,who,knot,round,frm,word⟩:=a;obtain rfl:kind=2:=hk;have P0:Hid (DoBeg B p R ⟨2,who,knot,round,frm,word⟩ w (w.alloc (acO ⟨2,who,knot,round,frm,word⟩))):=dobeg _ hr;have HR:Hid (RoAt B w p R):=hr;unfold goodB at hg;rw [Bool.and_eq_true] at hg;have hcall:=in3_call who true hg.1;have hw3:=(in3_iff who).1 hg.1;have hq1:(who != R.bad)=true:=hg.2;clear hr hg;obtain⟨i,rfl⟩:=Int.eq_ofNat_of_zero_le hw3.1;simp only [Int.toNat_natCast] at HX;have hi:i<4:=by omega
 have hi4:(i:Int)<4:=by omega
 go_enter Tryz.func140,Tryz.ntmps140
 go_wp2_with fail
 generalize w.alloc (acO ⟨2,(i:Int),knot,round,frm,word⟩)=W at P0 ⊢;obtain⟨hB,hro,hlt,a0,a1,a2,a3,a4,a5⟩:=P0.out;have c2:=hro.c2;have c3:=hro.c3;have hcap:=hro.parts.cap;obtain⟨_,x0,x1,x2,x3,f0,f1,f2,f3⟩:=hro.parts.hands i hi;have HB:Hid (Below w.heap.size w W):=hB;have HH:Hid (HAt W R.gh (i*4) (R.hs i)):=hro.parts.hands i hi;have HOK:Hid (HdOk R.L.length (R.hs i)):=hro.parts.hok i hi;clear hro hB P0;go_quiet (first | (go_at_call 44;exact(hcall _).mono fun _ _ h=>⟨h.1,_,h.2⟩))
 go_wp2_with fail
 go_quiet (fail)
 go_wp2_with fail
 have HRO:Hid (RoAt B W p R):=roat_below HR.out HB.out;have hpl:=HRO.out.lt;obtain⟨ao,cap,hlv,_,_,_,hrd,_⟩:=own_lace HRO.out.parts.own;have HRD:Hid (RdK W ao R.L):=hrd;have c0:=HRO.out.c0;rw [hlv] at c0;have h60:=((Lc.lace_iff R.L).1 HRO.out.parts.lace).1;have hf:=Sg.frm_lace HRO.out.parts.lace;have HCA:Hid (∀V:World,RdK V ao R.L→Calls Tryz.prog 48 #[.slice ao R.L.length cap] V (Sg.NumsPost (belows R.L R.L.length) V)):=fun V hV=>Sg.l4All ao cap R.L V h60 hf hV
 have HCL:Hid (∀(V:World) (bo:Option Addr) (bc Bn:Nat),Below W.heap.size W V→Memb.Own Bn V bo bc (belows R.L R.L.length)→Calls Tryz.prog 161 #[.slice ao R.L.length cap,.slice bo (belows R.L R.L.length).length bc,.pointer (some ⟨R.gh,i*4,none⟩),.int .i64 knot,.bool true] V (DoPost B p R x w)):=by
   intro V bo bc Bn hV hown;have hbV:=HB.out.trans (hV.mono HB.out.size);have hin:=Sg.belows_in R.L R.L.length h60;exact(l13Learn ao cap R.L bo bc (belows R.L R.L.length) R.gh (i*4) (R.hs i).who (R.hs i).has (R.hs i).kept (R.hs i).last knot true V h60 (Sg.belows_len _ _) hin (HRD.out.below hV) (Lst.own_rd hown) (hat_below HH.out hV) HOK.out.h0 HOK.out.h1).mono fun _ _ y=>learn_do hi HR.out hbV hin HX.out y
 generalize belows R.L R.L.length=l at HCA HCL;clear hlv hrd HOK HH HRO x0 x1 x2 x3 f0 f1 f2 f3 hcap;go_region_with (first
   | (go_at_call 48;refine(HCA.out _ (by first | exact HRD.out | exact(HRD.out.drewN _).drew | exact HRD.out.drew)).mono ?_;rintro e V1 ⟨bo,bc,rfl,hown,b1⟩;have B1:Below W.heap.size W V1:=keepN b1;have d0:=(B1.cell (p:=⟨p,0,none⟩) hpl).trans c0;have d2:=(B1.cell (p:=⟨w.heap.size,2,none⟩) hlt).trans a2;have HO:Hid _:=hown;clear hown b1)
   | (go_at_call 161;refine(HCL.out _ bo bc _ B1 HO.out).mono ?_;rintro e V2 ⟨R',rfl,HP⟩;have HP2:Hid (DoPost B p R x w (.returned (.bool x.done)) V2):=⟨R',rfl,HP⟩;clear HP))
 all_goals
   go_wp2;go_ret;exact HP2.out
end Rm
namespace Rm
open Kn (K in3)
def actO(L:List K)(hs:Nat→Hd)(bad:Int)(a:Ac):Out:=
 if a.kind=5 then badOut L hs bad a
 else if (in3 a.who&&(a.who != bad))=false then ⟨false,L,hs⟩
 else if a.kind=1 then tieOut L hs a.who.toNat a.word
 else if a.kind=2 then learnOut L hs a.who.toNat a.knot
 else if a.kind=3 then ⟨true,L,upd hs a.who.toNat { hs a.who.toNat with kept:=(hs a.who.toNat).has }⟩
 else if a.kind=4 then ⟨true,L,upd hs a.who.toNat { hs a.who.toNat with has:=(hs a.who.toNat).kept }⟩
 else ⟨false,L,hs⟩
theorem l18Do(B p:Nat)(R:Ro)(a:Ac)(w:World)(hr:RoAt B w p R)(hwd:a.word.size≤1099511627776):Calls Tryz.prog 140 #[.pointer (some ⟨p,0,none⟩),acV a] w (DoPost B p R (actO R.L R.hs R.bad a) w):=by
 by_cases h5:a.kind=5
 ·exact doBad B p R a w hr h5 hwd _ (by show _=_;unfold actO;rw [if_pos h5])
 ·cases hg:goodB R a
  ·exact doNot B p R a w hr h5 hg _ (by show _=_;unfold actO;rw [if_neg h5,if_pos (show(in3 a.who&&(a.who != R.bad))=false from hg)])
  ·have hn:¬ (in3 a.who&&(a.who != R.bad))=false:=by rw [show(in3 a.who&&(a.who != R.bad))=true from hg];simp
   by_cases h1:a.kind=1
   ·exact doTie B p R a w hr h1 hg hwd _ (by show _=_;unfold actO;rw [if_neg h5,if_neg hn,if_pos h1])
   ·by_cases h2:a.kind=2
    ·exact doShow B p R a w hr h2 hg _ (by show _=_;unfold actO;rw [if_neg h5,if_neg hn,if_neg h1,if_pos h2])
    ·by_cases h3:a.kind=3
     ·exact doKeep B p R a w hr h3 hg _ (by show _=_;unfold actO;rw [if_neg h5,if_neg hn,if_neg h1,if_neg h2,if_pos h3])
     ·by_cases h4:a.kind=4
      ·exact doForget B p R a w hr h4 hg _ (by show _=_;unfold actO;rw [if_neg h5,if_neg hn,if_neg h1,if_neg h2,if_neg h3,if_pos h4])
      ·exact doElse B p R a w hr h1 h2 h3 h4 h5 hg _ (by show _=_;unfold actO;rw [if_neg h5,if_neg hn,if_neg h1,if_neg h2,if_neg h3,if_neg h4])
end Rm
namespace Rm
open Kn (K okK in3)
open Lc (at' RdK laceB takesB flat OwnK CellsK cellsOf)
open Cur (At)
def acells(a:Ac):List Value:=[.int .i64 a.kind,.int .i64 a.who,.int .i64 a.knot,.int .i64 a.round,.int .i64 a.frm,.string a.word]
def flatA(As:List Ac):List Value:=As.flatMap acells
theorem flatA_snoc(As:List Ac)(a:Ac):flatA (As++[a])=flatA As++acells a:=by unfold flatA;simp
theorem flatA_app(As Bs:List Ac):flatA (As++Bs)=flatA As++flatA Bs:=by unfold flatA;simp
theorem flatA_len(As:List Ac):(flatA As).length=As.length*6:=by
 induction As with
 | nil=>rfl
 | cons a As ih=>
  have:flatA (a :: As)=acells a++flatA As:=rfl;rw [this,List.length_append,ih];simp [acells];omega
theorem acells_one(a:Ac):∀u∈acells a,u.oneCell'=true:=by
 intro u hu;simp [acells] at hu;rcases hu with rfl | rfl | rfl | rfl | rfl | rfl <;> rfl
theorem flatA_one(As:List Ac):∀u∈flatA As,u.oneCell'=true:=by
 intro u hu;unfold flatA at hu;rw [List.mem_flatMap] at hu;obtain⟨a,_,ha⟩:=hu;exact acells_one a u ha
theorem flatA_at(As:List Ac)(i c:Nat)(hi:i<As.length)(hc:c<6):(flatA As)[i*6+c]? = (acells (As.getD i zeroA))[c]?:=by
 induction As generalizing i with
 | nil=>simp at hi
 | cons a As ih=>
  have e:flatA (a :: As)=acells a++flatA As:=rfl;have hl:(acells a).length=6:=rfl;rw [e]
  cases i with
  | zero=>rw [List.getElem?_append_left (by omega)];simp
  | succ i=>
   rw [List.getElem?_append_right (by omega),hl,show(i+1)*6+c-6=i*6+c by omega,ih i (by simpa using hi)];simp
def Short(As:List Ac):Prop:=∀x∈As,x.word.size≤13
structure ActsAt(B:Nat)(w:World)(v:Value)(As:List Ac):Prop where
 own:w.ownsRow B 166 6 v As.length (flatA As)
 ne:v≠.slice none 0 0
 sh:Short As
theorem acts_shape{B:Nat}{w:World}{v:Value}{As:List Ac}(h:ActsAt B w v As):∃g cap,v=.slice (some ⟨g,0,none⟩) As.length cap∧B≤g∧g<w.heap.size:=own_some h.own h.ne
theorem acts_cell{B g cap:Nat}{w:World}{As:List Ac}(h:w.ownsRow B 166 6 (.slice (some ⟨g,0,none⟩) As.length cap) As.length (flatA As))(i:Nat)(hi:i<As.length) :
  w.cell? ⟨g,i*6,none⟩=some (.int .i64 (As.getD i zeroA).kind)∧w.cell? ⟨g,i*6+1,none⟩=some (.int .i64 (As.getD i zeroA).who)∧w.cell? ⟨g,i*6+2,none⟩=some (.int .i64 (As.getD i zeroA).knot)∧w.cell? ⟨g,i*6+3,none⟩=some (.int .i64 (As.getD i zeroA).round)∧w.cell? ⟨g,i*6+4,none⟩=some (.int .i64 (As.getD i zeroA).frm)∧w.cell? ⟨g,i*6+5,none⟩=some (.string (As.getD i zeroA).word):=by
 have hc:∀c,c<6→w.cell? ⟨g,i*6+c,none⟩=(acells (As.getD i zeroA))[c]?:=fun c hc=>by
  rw [World.ownsRow.cellAt h (i*6+c) (by omega)];exact flatA_at As i c hi hc
 exact⟨hc 0 (by omega),hc 1 (by omega),hc 2 (by omega),hc 3 (by omega),hc 4 (by omega),hc 5 (by omega)⟩
theorem short_at{As:List Ac}(h:Short As)(i:Nat):(As.getD i zeroA).word.size≤13:=by
 by_cases hi:i<As.length
 ·exact h _ (by simp [List.getD,List.getElem?_eq_getElem hi])
 ·simp [List.getD,List.getElem?_eq_none (Nat.le_of_not_lt hi)];decide
def ActsPost(c:Nat)(a:Option Addr)(len cap:Nat)(w:World)(e:Ending)(w':World):Prop:=∃v As,e=.returned v∧ActsAt w.heap.size w' v As∧As.length≤1048576∧At c a len cap w'∧FrC c w w'
def DrawPost(c:Nat)(a:Option Addr)(len cap:Nat)(w:World)(e:Ending)(w':World):Prop:=∃R,e=.returned (roV R)∧Parts w.heap.size w' R∧At c a len cap w'∧FrC c w w'
structure PlSt(c:Nat)(a:Option Addr)(len cap:Nat)(w wr:World)(pr:Nat)(g:Nat)(v:Value)(As:List Ac)(R:Ro):Prop where
 at':At c a len cap wr
 fr:FrC c w wr
 ro:RoAt (w.heap.size+1) wr pr R
 acts:wr.ownsRow w.heap.size 166 6 v As.length (flatA As)
 gv:v.ownBlock=some g
 n1:g≠pr
 n2:g≠R.gh
 n3:R.lv.ownBlock≠some g
 res:Q4 wr w.heap.size (.slice none 0 0) (.slice none 0 0) (.slice none 0 0) (.int .i64 0)
 gB:w.heap.size<g
 sv:(∃co n cc,R.cv=.slice co n cc)
theorem pl_step{c:Nat}{a:Option Addr}{len cap:Nat}{w wr w1:World}{pr g:Nat}{v:Value}{As:List Ac}{R:Ro}{xo:Out}{e:Ending}(s:PlSt c a len cap w wr pr g v As R)(hcb:CurB c a len w.heap.size)(hd:DoPost (w.heap.size+1) pr R xo wr e w1) :
  ∃(b:Bool) (R':Ro),e=.returned (.bool b)∧At c a len cap w1∧FrC c w w1∧RoAt (w.heap.size+1) w1 pr R'∧w1.ownsRow w.heap.size 166 6 v As.length (flatA As)∧g≠R'.gh∧R'.lv.ownBlock≠some g∧R'.cv=R.cv∧Q4 w1 w.heap.size (.slice none 0 0) (.slice none 0 0) (.slice none 0 0) (.int .i64 0):=by
 obtain⟨R',rfl,hro,hgh,hbad,hf,hlv⟩:=hd;have hS:∀x,roS pr R x→w.heap.size+1≤x:=fun x hx=>by
  rcases hx with rfl | rfl | h
  ·exact s.ro.pB
  ·exact s.ro.parts.gB
  ·exact(World.ownsRow.lt s.ro.parts.own x h).1
 have hlt:=World.ownsRow.lt s.acts g s.gv;refine⟨xo.done,R',rfl,at_belowB s.at' hcb (hf.toBelow s.fr.size (fun x hx=>by have:=hS x hx;omega)),s.fr.trans hf (fun x hx hl=>by have:=hS x hx;omega),hro,own_fr hf s.acts (fun y hy hn=>?_),by rw [hgh];exact s.n2,fun e=>?_,hbad.2.1,q4_fr s.res hf (fun hn=>by have:=hS _ hn;omega)⟩
 ·have:y=g:=by have:=s.gv;rw [hy] at this;injection this
  subst this;rcases hn with h | h | h
  ·exact s.n1 h
  ·exact s.n2 h
  ·exact s.n3 h
 ·rcases hlv g e with h | h
  ·exact s.n3 h
  ·omega
end Rm
namespace Rm
open Kn (K okK)
open Lc (at' RdK laceB flat OwnK cellsOf)
open Cur (At)
def DrawsRoom:Prop:=∀(c:Nat) (a:Option Addr) (len cap:Nat) (w:World),len≤4096→At c a len cap w→Calls Tryz.prog 113 #[.pointer (some ⟨c,0,none⟩)] w (DrawPost c a len cap w)
def ListPost(m:Nat)(c:Nat)(a:Option Addr)(len cap:Nat)(w:World)(e:Ending)(w':World):Prop:=∃v L,e=.returned v∧OwnK 38 w.heap.size w' v L∧L.length≤m∧(∀k∈L,k.word.size≤13)∧At c a len cap w'∧w.grownBy w' (some c)
def NumPost(c:Nat)(a:Option Addr)(len cap:Nat)(w:World)(e:Ending)(w':World):Prop:=∃x:Int,e=.returned (.int .i64 x)∧(-9223372036854775808≤x∧x≤9223372036854775807)∧At c a len cap w'∧w.grownBy w' (some c)
theorem word_lace{L:List K}(h:laceB L=true):∀k∈L,k.word.size≤13:=by
 intro k hk;obtain⟨i,hi,rfl⟩:=List.mem_iff_getElem.1 hk;have:=Lc.can_ok (Lc.lace_upTo h i hi);rw [Lc.at_get L i hi] at this;simp only [okK,Bool.and_eq_true] at this;have h5:=this.2.2.2.2;simp only [Kn.okW,Bool.and_eq_true,decide_eq_true_eq] at h5;omega
theorem ownK_base{t:TypeId}{B B':Nat}{w:World}{v:Value}{L:List K}(h:OwnK t B w v L)(hB:B'≤B):OwnK t B' w v L:=by
 obtain⟨⟨h1,h2 | ⟨g,cp,cur,e,hg,r⟩⟩,hv⟩:=h
 ·exact⟨⟨h1,.inl h2⟩,hv⟩
 ·exact⟨⟨h1,.inr ⟨g,cp,cur,e,Nat.le_trans hB hg,r⟩⟩,hv⟩
theorem ownK_grown{t:TypeId}{B c:Nat}{w w':World}{v:Value}{L:List K}(h:OwnK t B w v L)(hg:w.grownBy w' (some c))(hc:c<B):OwnK t B w' v L:=
 ⟨own_fr (Fr.of_grown hg) h.1 (fun g e=>by have:=(World.ownsRow.lt h.1 g e).1;omega),h.2⟩
theorem lace_field(ao:Option Addr)(n cp:Nat)(v1 v2 v3:Value)(W:World):(Instr.field 137 (.agg #[.slice ao n cp,v1,v2,v3]) 0).run Tryz.prog W=.ok (.slice ao n cp) W:=by kernel_rfl
theorem l3Draw(HD:DrawsRoom)(c:Nat)(a:Option Addr)(len cap:Nat)(w:World)(hl:len≤4096)(hc:At c a len cap w) :
  Calls Tryz.prog 99 #[.pointer (some ⟨c,0,none⟩)] w (ListPost 60 c a len cap w):=by
 have hcw:c<w.heap.size:=hc.lt;have HDD:Hid DrawsRoom:=HD;clear HD;go_enter Tryz.func99,Tryz.ntmps99
 go_wp2_with fail
 refine(HDD.out c a len cap _ hl hc).mono ?_;rintro e w1 ⟨R,rfl,hP,hA1,hF1⟩;obtain⟨ao,cp,hlv,ho,hz,_,hrd,_⟩:=own_lace hP.own;have h60:=((Lc.lace_iff R.L).1 hP.lace).1;have hwd:=word_lace hP.lace;have HWD:Hid (∀k∈R.L,k.word.size≤13):=hwd;have HV:Hid (roV R=.agg #[.slice ao R.L.length cp,R.cv,.slice (some ⟨R.gh,0,none⟩) 4 R.hc,.int .i64 R.bad]):=by show _=_;unfold roV;rw [hlv]
 rw [HV.out];have hfl:=lace_field ao R.L.length cp R.cv (.slice (some ⟨R.gh,0,none⟩) 4 R.hc) (.int .i64 R.bad);clear hwd hlv hP;go_wp2_with fail
 refine(l3CopyO ao cp R.L _ ho hz (by omega) hrd).mono ?_;rintro e w2 ⟨v,rfl,hO,hb2⟩;have HR:Hid (OwnK 38 w.heap.size w2 v R.L∧At c a len cap w2∧w.grownBy w2 (some c)):=⟨ownK_base hO hF1.size,hA1.below hb2,(hF1.trans (Fr.of_below hb2 (fun x=>x=c)) (fun _ h _=>h)).grown⟩
 clear hO hb2 hA1 hF1 hrd;go_wp2;go_ret;exact⟨v,R.L,rfl,HR.out.1,h60,HWD.out,HR.out.2.1,HR.out.2.2⟩
theorem l1From(c:Nat)(a:Option Addr)(len cap:Nat)(lo hi:Int)(w:World)(hl:len≤4096)(h0:-10≤lo)(h1:lo≤hi)(h2:hi≤100)(hc:At c a len cap w) :
  Calls Tryz.prog 100 #[.pointer (some ⟨c,0,none⟩),.int .i64 lo,.int .i64 hi] w (NumPost c a len cap w):=by
 have hw1:IntKind.i64.wrap (hi-lo)=hi-lo:=by rw [IntKind.wrap_i64];omega
 have hw2:IntKind.i64.wrap (hi-lo+1)=hi-lo+1:=by rw [IntKind.wrap_i64];omega
 go_enter Tryz.func100,Tryz.ntmps100
 go_wp2_with fail
 refine(Cur.below c a len cap _ _ hl (by omega) hc).mono ?_;rintro e w1 ⟨x,rfl,hx0,hx1,hA1,hG1⟩;have hx2:=hx1 (by omega);go_wp2;go_ret;exact⟨_,rfl,by omega,hA1,hG1⟩
end Rm
namespace Rm
open Kn (K okK)
open Lc (at' RdK laceB flat OwnK cellsOf)
open Cur (At)
theorem flat_set(L:List K)(j c:Nat)(hj:j<L.length)(hc:c<4)(k':K)(v:Value)(h:cellsOf k'=(cellsOf (at' L j)).set c v):(flat L).set (j*4+c) v=flat (L.set j k'):=by
 induction L generalizing j with
 | nil=>simp at hj
 | cons k L ih=>
  have hk4:(cellsOf k).length=4:=rfl
  cases j with
  | zero=>
   show(cellsOf k++flat L).set (0*4+c) v=cellsOf k'++flat L;rw [List.set_append_left _ _ (by rw [hk4];omega),h];simp [at']
  | succ j=>
   show(cellsOf k++flat L).set ((j+1)*4+c) v=cellsOf k++flat (L.set j k');rw [List.set_append_right _ _ (by rw [hk4];omega),hk4,show(j+1)*4+c-4=j*4+c by omega,ih j (by simpa using hj) (by simpa [at'] using h)]
theorem grown_far{w w5 w6:World}{c g:Nat}(h:w.grownBy w5 (some c))(h2:w5.grownBy w6 (some g))(hg:w.heap.size≤g):w.grownBy w6 (some c):=
 ((Fr.of_grown h).trans (Fr.of_grown h2) (fun x hx hl=>by omega)).grown
theorem list_put{m c:Nat}{a:Option Addr}{len cap:Nat}{w w5:World}{g cp:Nat}{L:List K}{j f:Nat}{u:Value}{k':K}(hc:At c a len cap w)(hO:OwnK 38 w.heap.size w5 (.slice (some ⟨g,0,none⟩) L.length cp) L)(hm:L.length≤m)(hwd:∀k∈L,k.word.size≤13)
  (hA:At c a len cap w5) (hG:w.grownBy w5 (some c)) (hj:j<L.length) (hf:f<4) (hk:cellsOf k'=(cellsOf (at' L j)).set f u) (hw:k'.word.size≤13) :
  ListPost m c a len cap w (.returned (.slice (some ⟨g,0,none⟩) L.length cp)) (w5.setCell ⟨g,j*4+f,none⟩ u):=by
 have hgB:=(World.ownsRow.lt hO.1 g rfl).1;have hs:=World.ownsRow.stored hO.1 (j*4+f) u;rw [flat_set L j f hj hf k' u hk] at hs;have hl:(L.set j k').length=L.length:=by simp
 refine⟨_,L.set j k',rfl,⟨by rw [hl];exact hs.1,by simp⟩,by rw [hl];exact hm,fun k hkm=>?_,?_,grown_far hG hs.2 hgB⟩
 ·rcases List.mem_or_eq_of_mem_set hkm with h | h
  ·exact hwd k h
  ·rw [h];exact hw
 ·exact at_belowB hA (curB_of hc) ((Below.refl w.heap.size w5).grown hs.2 hG.size (fun x e=>by cases e;exact hgB))
theorem l3DrawAny(HD:DrawsRoom)(c:Nat)(a:Option Addr)(len cap:Nat)(w:World)(hl:len≤4096)(hc:At c a len cap w) :
  Calls Tryz.prog 68 #[.pointer (some ⟨c,0,none⟩)] w (ListPost 61 c a len cap w):=by
 obtain⟨i0,hi,hz0,hz1,hz2⟩:=info_parts Lc.infoKn;have hcw:c<w.heap.size:=hc.lt;have HDD:Hid DrawsRoom:=HD;clear HD;go_enter Tryz.func68,Tryz.ntmps68
 go_wp2_with fail
 refine(l3Draw HDD.out c a len cap _ hl hc).mono ?_;rintro e w1 ⟨v,L,rfl,hO,h60,hwd,hA1,hG1⟩;obtain⟨g,cp,rfl,hcap,_,hbg,_,_,_⟩:=Lc.ownK_shape hO;have HWD:Hid (∀k∈L,k.word.size≤13):=hwd;have HO:Hid (OwnK 38 w.heap.size w1 (.slice (some ⟨g,0,none⟩) L.length cp) L):=hO;clear hO hwd;by_cases hz:L.length=0
 ·obtain rfl:L=[]:=List.eq_nil_of_length_eq_zero hz;go_wp2;go_ret;exact⟨_,[],rfl,HO.out,by simp,HWD.out,hA1,hG1⟩
 ·have hz':(0:Int)<(L.length:Int):=by omega
  go_wp2_with fail
  refine(Cur.once c a len cap 10 _ hl (by omega) hA1).mono ?_;rintro e w2 ⟨b,rfl,hA2,hG2⟩;have HO2:Hid (OwnK 38 w.heap.size w2 (.slice (some ⟨g,0,none⟩) L.length cp) L):=ownK_grown HO.out hG2 hcw;have G2:=Cur.grownBy_trans hG1 hG2;clear HO hG1 hG2 hA1
  cases b
  ·go_wp2;go_ret;exact⟨_,L,rfl,HO2.out,by omega,HWD.out,hA2,G2⟩
  ·go_wp2_with fail
   refine(Cur.below c a len cap (L.length:Int) _ hl (by omega) hA2).mono ?_;rintro e w3 ⟨x,rfl,hx0,hx1,hA3,hG3⟩;have hx2:=hx1 hz';obtain⟨j,rfl⟩:=Int.eq_ofNat_of_zero_le hx0;have hj:j<L.length:=by omega
   have HO3:Hid (OwnK 38 w.heap.size w3 (.slice (some ⟨g,0,none⟩) L.length cp) L):=ownK_grown HO2.out hG3 hcw;have G3:=Cur.grownBy_trans G2 hG3;clear HO2 hG3 hA2 G2 hx1;go_wp2_with fail
   refine(Cur.below c a len cap 4 _ hl (by omega) hA3).mono ?_;rintro e w4 ⟨t,rfl,ht0,ht1,hA4,hG4⟩;have ht2:=ht1 (by omega);have HO4:Hid (OwnK 38 w.heap.size w4 (.slice (some ⟨g,0,none⟩) L.length cp) L):=ownK_grown HO3.out hG4 hcw;have HG4:Hid (w.grownBy w4 (some c)):=Cur.grownBy_trans G3 hG4;have HC:Hid (At c a len cap w):=hc;clear HO3 hG4 hA3 G3 ht1 hc;have htc:t=0∨t=1∨t=2∨t=3:=by omega
   rcases htc with rfl | rfl | rfl | rfl
   ·go_wp2_with fail
    refine(l1From c a len cap (-1) 4 _ hl (by omega) (by omega) (by omega) hA4).mono ?_;rintro e w5 ⟨y,rfl,_,hA5,hG5⟩;have hO5:=ownK_grown HO4.out hG5 hcw;obtain⟨_,_,e5,_,_,_,_,hrd5,hfz5⟩:=Lc.ownK_shape hO5;simp only [Value.slice.injEq,Option.some.injEq,Addr.mk.injEq,and_true,true_and] at e5;obtain⟨rfl,rfl⟩:=e5;have HF:Hid (ListPost 61 c a len cap w (.returned (.slice (some ⟨g,0,none⟩) L.length cp)) (w5.setCell ⟨g,j*4,none⟩ (.int .i64 y))):=list_put (f:=0) (k':=⟨y,(at' L j).round,(at' L j).frm,(at' L j).word⟩) HC.out hO5 (by omega) HWD.out hA5 (Cur.grownBy_trans HG4.out hG5) hj (by omega) rfl (HWD.out (at' L j) (Lc.at_mem L j hj));obtain⟨_,c0,c1,c2,_⟩:=hrd5.on j hj;rw [Nat.zero_add] at c0 c1 c2;have f5:=hfz5 (j*4) (by omega);clear hO5 hrd5 hfz5 HO4 HG4 hA5 hG5;go_wp2;go_ret;exact HF.out
   ·go_wp2_with fail
    refine(Cur.below c a len cap 5 _ hl (by omega) hA4).mono ?_;rintro e w5 ⟨y,rfl,_,_,hA5,hG5⟩;have hO5:=ownK_grown HO4.out hG5 hcw;obtain⟨_,_,e5,_,_,_,_,hrd5,hfz5⟩:=Lc.ownK_shape hO5;simp only [Value.slice.injEq,Option.some.injEq,Addr.mk.injEq,and_true,true_and] at e5;obtain⟨rfl,rfl⟩:=e5;have HF:Hid (ListPost 61 c a len cap w (.returned (.slice (some ⟨g,0,none⟩) L.length cp)) (w5.setCell ⟨g,j*4+1,none⟩ (.int .i64 y))):=list_put (f:=1) (k':=⟨(at' L j).hand,y,(at' L j).frm,(at' L j).word⟩) HC.out hO5 (by omega) HWD.out hA5 (Cur.grownBy_trans HG4.out hG5) hj (by omega) rfl (HWD.out (at' L j) (Lc.at_mem L j hj));obtain⟨_,c0,c1,c2,_⟩:=hrd5.on j hj;rw [Nat.zero_add] at c0 c1 c2;have f5:=hfz5 (j*4+1) (by omega);clear hO5 hrd5 hfz5 HO4 HG4 hA5 hG5;go_wp2;go_ret;exact HF.out
   ·go_wp2_with fail
    refine(Draw.drawSet c a len cap _ hl hA4).mono ?_;rintro e w5 ⟨y,rfl,_,hA5,hG5⟩;have hO5:=ownK_grown HO4.out hG5 hcw;obtain⟨_,_,e5,_,_,_,_,hrd5,hfz5⟩:=Lc.ownK_shape hO5;simp only [Value.slice.injEq,Option.some.injEq,Addr.mk.injEq,and_true,true_and] at e5;obtain⟨rfl,rfl⟩:=e5;have HF:Hid (ListPost 61 c a len cap w (.returned (.slice (some ⟨g,0,none⟩) L.length cp)) (w5.setCell ⟨g,j*4+2,none⟩ (.int .i64 y))):=list_put (f:=2) (k':=⟨(at' L j).hand,(at' L j).round,y,(at' L j).word⟩) HC.out hO5 (by omega) HWD.out hA5 (Cur.grownBy_trans HG4.out hG5) hj (by omega) rfl (HWD.out (at' L j) (Lc.at_mem L j hj));obtain⟨_,c0,c1,c2,_⟩:=hrd5.on j hj;rw [Nat.zero_add] at c0 c1 c2;have f5:=hfz5 (j*4+2) (by omega);clear hO5 hrd5 hfz5 HO4 HG4 hA5 hG5;go_wp2;go_ret;exact HF.out
   ·go_wp2_with fail
    refine(Kn.draw c a len cap _ hl hA4).mono ?_;rintro e w5 ⟨h,r,f,s,rfl,hs13,hA5,hG5⟩;have HO5:Hid (OwnK 38 w.heap.size w5 (.slice (some ⟨g,0,none⟩) L.length cp) L):=ownK_grown HO4.out hG5 hcw;have HG5:Hid (w.grownBy w5 (some c)):=Cur.grownBy_trans HG4.out hG5;clear HO4 HG4 hG5;go_wp2_with (at_builtin;refine wpList_append_own _ rfl _ _ 24 rfl w.heap.size 38 i0 (.agg #[.int .i64 0,.int .i64 0,.int .i64 0,.string ⟨#[]⟩]) 4 40 Tryz.underlying24 hi hz0 hz1 hz2 rfl (by decide) _ _ _ rfl (HO5.out.1.alloc _) ⟨w5.heap.size,0,none⟩ 1 1 (cellsOf ⟨h,r,f,s⟩) rfl rfl ?c1 ?c2 ?c3 ?c4 ?c5 ?_)
    case c1=>exact Lc.new_cells w5 ⟨h,r,f,s⟩ _
    case c2=>intro u hu;simp [cellsOf] at hu;rcases hu with rfl | rfl | rfl | rfl <;> rfl
    case c3=>unfold maxLen;omega
    case c4=>omega
    case c5=>have:=HG5.out.size;simp;omega
    intro v' w6 hown' hgrow hnil;have HF:Hid (ListPost 61 c a len cap w (.returned v') w6):=by
     have hg6:w5.grownBy w6 (some g):=(World.grownBy_alloc w5 _ _).trans hgrow;refine⟨v',L++[⟨h,r,f,s⟩],rfl,⟨?_,?_⟩,by simp;omega,?_,?_,grown_far HG5.out hg6 hbg⟩
     ·rw [List.length_append,Lc.flat_snoc];exact hown'
     ·intro e;simp [e] at hnil
     ·intro k hk;rcases List.mem_append.1 hk with hk | hk
      ·exact HWD.out k hk
      ·simp at hk;subst hk;exact hs13
     ·exact at_belowB hA5 (curB_of HC.out) ((Below.refl w.heap.size w5).grown hg6 HG5.out.size (fun x e=>by cases e;exact hbg))
    clear hown' hgrow hnil;go_wp2;go_ret;exact HF.out
end Rm
namespace Rm
open Kn (K okK)
open Lc (at' RdK laceB flat OwnK cellsOf)
open Cur (At)
theorem wrap_bd(x:Int):-9223372036854775808≤IntKind.i64.wrap x∧IntKind.i64.wrap x≤9223372036854775807:=by rw [IntKind.wrap_i64];omega
theorem l1BitAny(i:Nat)(w:World)(h:i≤62):Calls Tryz.prog 82 #[.int .i64 (i:Int)] w fun e w'=>∃x:Int,e=.returned (.int .i64 x)∧w=w':=by
 go_enter Tryz.func82,Tryz.ntmps82
 go_wp2;go_ret;exact⟨_,rfl,rfl⟩
theorem l3DrawSet(c:Nat)(a:Option Addr)(len cap n:Nat)(w:World)(hl:len≤4096)(hn:n≤61)(hc:At c a len cap w) :
  Calls Tryz.prog 86 #[.pointer (some ⟨c,0,none⟩),.int .i64 (n:Int)] w (NumPost c a len cap w):=by
 go_enter Tryz.func86,Tryz.ntmps86
 go_wp2_with fail
 refine(Cur.once c a len cap 8 _ hl (by omega) hc).mono ?_;rintro e w1 ⟨b,rfl,hA1,hG1⟩
 cases b
 ·go_wp2;go_loopw [5,6] (fun s i wr=>∃(k:Nat) (x:Int),k≤n∧i=.int .i64 (k:Int)∧s=.int .i64 x∧Hid (-9223372036854775808≤x∧x≤9223372036854775807)∧Hid (At c a len cap wr)∧Hid (w.grownBy wr (some c))) (fun _ i _=>n-(intOf i).toNat)
  case atStart=>exact⟨0,0,by omega,rfl,rfl,⟨by omega,by omega⟩,hA1,hG1⟩
  case round=>
   obtain⟨k,x,hk,rfl,rfl,HX,HA,HG⟩:=hrel;by_cases hlt:k<n
   ·have hki:(k:Int)<(n:Int):=by omega
    go_wp2_with fail
    refine(Cur.once c a len cap 3 _ hl (by omega) HA.out).mono ?_;rintro e w2 ⟨b,rfl,hA2,hG2⟩;have HA2:Hid (At c a len cap w2):=hA2;have HG2:Hid (w.grownBy w2 (some c)):=Cur.grownBy_trans HG.out hG2;clear hA2 hG2 HA HG
    cases b
    ·go_wp2_with fail
     refine(l1BitAny k _ (by omega)).mono ?_;rintro e w3 ⟨y,rfl,rfl⟩;go_wp2;go_roundw
     case rel=>exact⟨k+1,_,by omega,by go_num,rfl,Draw.bits_bd _ _ _,HA2,HG2⟩
     case measure=>simp [intOf];omega
    ·go_wp2;go_roundw
     case rel=>exact⟨k+1,x,by omega,by go_num,rfl,HX,HA2,HG2⟩
     case measure=>simp [intOf];omega
   ·obtain rfl:k=n:=by omega
    go_wp2;go_ret;exact⟨x,rfl,HX.out,HA.out,HG.out⟩
 ·go_wp2_with fail
  refine(Draw.drawSet c a len cap _ hl hA1).mono ?_;rintro e w2 ⟨y,rfl,hy,hA2,hG2⟩;have G2:=Cur.grownBy_trans hG1 hG2;go_wp2;go_ret;exact⟨y,rfl,hy,hA2,G2⟩
theorem new_four(W:World)(x:Int)(t:TypeId)(j:Nat)(hj:j<4):∃y:Int,(W.alloc (.cells #[.int .i64 (-1),.int .i64 x,.int .i64 60,.int .i64 0] t)).cell? ⟨W.heap.size,j,none⟩=some (.int .i64 y)∧(y=-1∨y=x∨y=60∨y=0):=by
 match j,hj with
 | 0,_=>exact⟨-1,by simp,.inl rfl⟩
 | 1,_=>exact⟨x,by simp,.inr (.inl rfl)⟩
 | 2,_=>exact⟨60,by simp,.inr (.inr (.inl rfl))⟩
 | 3,_=>exact⟨0,by simp,.inr (.inr (.inr rfl))⟩
theorem l3DrawAt(c:Nat)(a:Option Addr)(len cap n:Nat)(w:World)(hl:len≤4096)(hn:n≤61)(hc:At c a len cap w) :
  Calls Tryz.prog 72 #[.pointer (some ⟨c,0,none⟩),.int .i64 (n:Int)] w (NumPost c a len cap w):=by
 have hcw:c<w.heap.size:=hc.lt;have HT:Hid (∀W:World,At c a len cap W→w.grownBy W (some c)→∀w',At c a len cap w'→(W.alloc (.cells #[.int .i64 (-1),.int .i64 (n:Int),.int .i64 60,.int .i64 0] 2)).grownBy w' (some c)→∀j,j<4→∃y:Int,w'.cell? ⟨W.heap.size,j,none⟩=some (.int .i64 y)∧(-9223372036854775808≤y∧y≤9223372036854775807)∧w.grownBy w' (some c)):=by
  intro W hA hG w' hA' hG' j hj;obtain⟨y,hy,hyc⟩:=new_four W (n:Int) 2 j hj;refine⟨y,((Fr.of_grown hG').cell (p:=⟨W.heap.size,j,none⟩) (by simp) (by have:=hA.lt;simp;omega)).trans hy,by omega,Cur.grownBy_trans hG ((World.grownBy_alloc W _ _).trans hG')⟩
 have HGR:Hid (w.grownBy w (some c)):=⟨rfl,rfl,rfl,Nat.le_refl _,fun _ _ _=>rfl⟩
 go_enter Tryz.func72,Tryz.ntmps72
 by_cases hz:n=0
 ·subst hz;have hAl:=Draw.at_alloc hc (.cells #[.int .i64 (-1),.int .i64 ((0:Nat):Int),.int .i64 60,.int .i64 0] 2);simp only [Int.ofNat_zero] at hAl HT;go_wp2_with fail
  refine(Cur.below c a len cap 4 _ hl (by omega) hAl).mono ?_;rintro e w1 ⟨x,rfl,hx0,hx1,hA1,hG1⟩;have hx2:=hx1 (by omega);obtain⟨j,rfl⟩:=Int.eq_ofNat_of_zero_le hx0;obtain⟨y,hy,hyb,hG⟩:=HT.out w hc HGR.out w1 hA1 hG1 j (by omega);have hj4:(j:Int)<4:=by omega
  clear hG1 hx1 HT;go_wp2;go_ret;exact⟨y,rfl,hyb,hA1,hG⟩
 ·have hz':(0:Int)<(n:Int):=by omega
  go_wp2_with fail
  refine(Cur.once c a len cap 10 _ hl (by omega) hc).mono ?_;rintro e w1 ⟨b,rfl,hA1,hG1⟩
  cases b
  ·go_wp2_with fail
   refine(Cur.below c a len cap (n:Int) _ hl (by omega) hA1).mono ?_;rintro e w2 ⟨x,rfl,hx0,hx1,hA2,hG2⟩;have hx2:=hx1 hz';have G2:=Cur.grownBy_trans hG1 hG2;go_wp2;go_ret;exact⟨x,rfl,by omega,hA2,G2⟩
  ·have hAl:=Draw.at_alloc hA1 (.cells #[.int .i64 (-1),.int .i64 (n:Int),.int .i64 60,.int .i64 0] 2);go_wp2_with fail
   refine(Cur.below c a len cap 4 _ hl (by omega) hAl).mono ?_;rintro e w2 ⟨x,rfl,hx0,hx1,hA2,hG2⟩;have hx2:=hx1 (by omega);obtain⟨j,rfl⟩:=Int.eq_ofNat_of_zero_le hx0;obtain⟨y,hy,hyb,hG⟩:=HT.out w1 hA1 hG1 w2 hA2 hG2 j (by omega);have hj4:(j:Int)<4:=by omega
   clear hG2 hx1 HT hAl hG1;go_wp2;go_ret;exact⟨y,rfl,hyb,hA2,hG⟩
structure Drawn(B:Nat)(w w':World)(v:Value)(L:List K):Prop where
 own:OwnK 38 B w' v L
 len:L.length≤61
 word:∀k∈L,k.word.size≤13
 bel:Below w.heap.size w w'
end Rm
end Go.Proofs.YtbkeldfbllhlbaaGreat
