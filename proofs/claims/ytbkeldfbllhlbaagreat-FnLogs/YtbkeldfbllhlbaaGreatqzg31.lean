/-
 The law's likeLog over two logs that hold the same: true.
 The model's drawing of a list, coins and a log, and the drawings of the laws on logs.
-/
import Derived.Test.YtbkeldfbllhlbaaGreatqzg30
import Derived.Test.YtbkeldfbllhlbaaGreatqzg14
set_option linter.unusedVariables false
set_option maxRecDepth 100000
set_option maxHeartbeats 12800000
namespace Go.Proofs.YtbkeldfbllhlbaaGreat
open Go.RowKit
namespace Lg
open Kn (K okK)
open Lc (at' RdK WordsOk laceB OwnK)
open Sg (closedB NumsPost)
open Tl (outL beginsB)
open Rm (Fr FrC DrawsRoom DrawsRoomC LcSt)
def LgPost(c:Nat)(a:Option Addr)(len cap:Nat)(w:World)(e:Ending)(w':World):Prop:=∃v L ao cc C so sc S qo tc T f,e=.returned (.tuple #[v,.slice ao (C:List Int).length cc,.agg #[.slice so (S:List Int).length sc,.slice qo (T:List (List Int)).length tc]])∧LcSt c a len cap w w' v L ao cc C∧LLies w' so sc S qo tc T f∧∀b,b≤w.heap.size→FarL b so qo T f
theorem first_round{c:Nat}{a:Option Addr}{len cap:Nat}{w W0 w1:World}{g cp:Nat}{L:List K}{ao:Option Addr}{cc:Nat}{C:List Int}(hcw:c<w.heap.size)(p1:Below w.heap.size w W0)(p2:W0.cell? ⟨w.heap.size,0,none⟩=some (.slice none 0 0))(p3:W0.cell? ⟨w.heap.size,1,none⟩=some (.slice none 0 0))(z0:W0.heap.size=w.heap.size+1)(p5:∀j,W0.frozen? ⟨w.heap.size,j,none⟩=false)(hS1:LcSt c a len cap W0 w1 (.slice (some ⟨g,0,none⟩) L.length cp) L ao cc C) :
  LgSt c a len cap w (w1.alloc (.cells #[.slice none 0 0,.slice none 0 0] 43)) w1.heap.size (.slice (some ⟨g,0,none⟩) L.length cp) L ao cc C none 0 [] none 0 [] (fun _=>(none,0)):=by
 have hb:Below w1.heap.size w1 (w1.alloc (.cells #[.slice none 0 0,.slice none 0 0] 43)):=(Below.refl _ _).alloc (Nat.le_refl _) _;have hg:=hS1.gr;have hf:=Fr.of_grown hg;have hne:¬ w.heap.size=c:=by omega
 have hlt:w.heap.size<W0.heap.size:=by omega
 have hs1:=hg.size;have lo:=Lc.ownK_below hS1.lo hb;have co:=Lst.own_below hS1.co hb;rw [z0] at lo co;refine⟨hS1.at'.below hb,((Fr.of_below p1 _).trans hf (fun _ hx _=>hx)).trans (Fr.of_below hb (fun _=>False)) (fun _ hx _=>hx.elim),?_,?_,?_,?_,by simp;omega,lo,hS1.l61,hS1.wd,co,hS1.c7,x_new (B:=w.heap.size+1) (a:=none) (c:=0) (S:=[]) (vo:=none) (vc:=0) (T:=[]) (f:=fun _=>(none,0)) (by omega) (nil_own _ _) (nil_ll _ _ _) (fun i hi=>by simp at hi),fun g e=>⟨by simp,fun i hi=>absurd hi (by simp)⟩,by simp,rfl,fun i hi=>by simp at hi,fun i hi=>by simp at hi⟩
 ·exact(hb.cell (p:=⟨w.heap.size,0,none⟩) (show w.heap.size<w1.heap.size by omega)).trans ((hf.cell (p:=⟨w.heap.size,0,none⟩) hlt hne).trans p2)
 ·exact(hb.cell (p:=⟨w.heap.size,1,none⟩) (show w.heap.size<w1.heap.size by omega)).trans ((hf.cell (p:=⟨w.heap.size,1,none⟩) hlt hne).trans p3)
 ·exact(hb.frozen (p:=⟨w.heap.size,0,none⟩) (show w.heap.size<w1.heap.size by omega)).trans ((hf.frozen (p:=⟨w.heap.size,0,none⟩) hlt hne).trans (p5 0))
 ·exact(hb.frozen (p:=⟨w.heap.size,1,none⟩) (show w.heap.size<w1.heap.size by omega)).trans ((hf.frozen (p:=⟨w.heap.size,1,none⟩) hlt hne).trans (p5 1))
theorem l15Draw(HD:DrawsRoom)(HDC:DrawsRoomC)(c:Nat)(a:Option Addr)(len cap:Nat)(w:World)(hl:len≤4096)(hc:Cur.At c a len cap w) :
   Calls Tryz.prog 52 #[.pointer (some ⟨c,0,none⟩)] w (LgPost c a len cap w):=by
 have hcb:=Rm.curB_of hc;have hcw:c<w.heap.size:=hc.lt;have HDD:Hid DrawsRoom:=HD;have HDX:Hid DrawsRoomC:=HDC;clear HD HDC;have P0:Hid (Below w.heap.size w (w.alloc (.cells #[.slice none 0 0,.slice none 0 0] 43))∧(w.alloc (.cells #[.slice none 0 0,.slice none 0 0] 43)).cell? ⟨w.heap.size,0,none⟩=some (.slice none 0 0)∧(w.alloc (.cells #[.slice none 0 0,.slice none 0 0] 43)).cell? ⟨w.heap.size,1,none⟩=some (.slice none 0 0)∧(w.alloc (.cells #[.slice none 0 0,.slice none 0 0] 43)).heap.size=w.heap.size+1∧(∀j,(w.alloc (.cells #[.slice none 0 0,.slice none 0 0] 43)).frozen? ⟨w.heap.size,j,none⟩=false)):=⟨(Below.refl _ _).alloc (Nat.le_refl _) _,by simp,by simp,by simp,fun j=>by simp⟩
 obtain⟨i0,hi,hz0,hz1,hz2⟩:=info_parts Memb.info2;go_enter Tryz.func52,Tryz.ntmps52
 go_upto_region 1 with fail
 generalize w.alloc (.cells #[.slice none 0 0,.slice none 0 0] 43)=W0 at P0 ⊢;have hA0:Cur.At c a len cap W0:=Rm.at_belowB hc hcb P0.out.1;go_wp2_with fail
 refine(Rm.l9Draw HDD.out HDX.out c a len cap W0 hl hA0).mono ?_;rintro e w1 ⟨v,L,ao,cc,C,rfl,hS1⟩;obtain⟨g,cp,rfl,hcp,_,hgB,_,hrd1,_⟩:=Lc.ownK_shape hS1.lo;have HS1:Hid (_):=first_round hcw P0.out.1 P0.out.2.1 P0.out.2.2.1 P0.out.2.2.2.1 P0.out.2.2.2.2 hS1;have hgc:g≠c:=by have:=P0.out.2.2.2.1;omega
 have h61:=hS1.l61;have hc7:=hS1.c7;have HWW:Hid (WordsOk L):=fun k hk=>by have:=hS1.wd k hk;omega
 go_upto_region 3 with fail
 generalize w1.alloc (.cells #[.slice none 0 0,.slice none 0 0] 43)=W2 at HS1 ⊢;generalize w1.heap.size=gb at HS1 ⊢;clear hS1 hrd1 P0 hA0 hgB HDD HDX hc;have HLG:Hid (∀(z:Int) (W:World) (so:Option Addr) (sc:Nat) (S:List Int) (vo:Option Addr) (vc:Nat) (T:List (List Int)) (f:At),LgSt c a len cap w W gb (.slice (some ⟨g,0,none⟩) L.length cp) L ao cc C so sc S vo vc T f→Calls Tryz.prog 23 #[.slice (some ⟨g,0,none⟩) L.length cp,.slice ao C.length cc,.agg #[.slice so S.length sc,.slice vo T.length vc],.int .i64 z] W (LoggedPost L C S T z W)):=fun z W so sc S vo vc T f s=>by
   obtain⟨hgl,hrd⟩:=Rm.ownK_at s.lo;obtain⟨k1,k2,k3⟩:=own_log s.x.own s.x.ll;exact specLogged g 0 cp L ao cc C so vo sc vc S T f z W hcp HWW.out hgl hrd (by omega) (Lst.own_rd s.co) (own_ltA s.co) k1 k2 k3 (by have:=s.s40;omega) (by have:=s.s40;have:=s.ts;omega) (fun i hi=>by have:=s.row i hi;omega)
 go_wp2_with fail
 refine(Cur.below c a len cap 4 _ hl (by omega) HS1.out.at').mono ?_;rintro e w3 ⟨n0,rfl,hn0,hn1,hA3,hG3⟩;have HS3:Hid (_):=HS1.out.cur hcw hA3 hG3;have hn4:=hn1 (by omega);obtain⟨n,rfl⟩:=Int.eq_ofNat_of_zero_le hn0;clear hA3 hG3 HS1 hn1;go_wp2;go_loopw [8,9,10] (fun sv nv xv wr=>∃(k:Nat) (s:Int) (so:Option Addr) (sc:Nat) (S:List Int) (vo:Option Addr) (vc:Nat) (T:List (List Int)) (f:At),k≤3∧nv=.int .i64 (k:Int)∧sv=.int .i64 s∧Hid (-9223372036854775808≤s∧s≤9223372036854775807)∧Hid (LgSt c a len cap w wr gb (.slice (some ⟨g,0,none⟩) L.length cp) L ao cc C so sc S vo vc T f)) (fun _ nv _ _=>(intOf nv).toNat)
 case atStart=>exact⟨n,0,none,0,[],none,0,[],fun _=>(none,0),by omega,rfl,rfl,⟨by omega,by omega⟩,HS3⟩
 case round=>
   obtain⟨k,s,so,sc,S,vo,vc,T,f,hk,rfl,rfl,HSB,HS⟩:=hrel;by_cases hk0:0<k
   · have hki:(0:Int)<(k:Int):=by omega
     have hw1:IntKind.i64.wrap ((k:Int)-1)=(k:Int)-1:=by rw [IntKind.wrap_i64];omega
     have HKE:Hid (((k-1:Nat):Int)=(k:Int)-1):=by show _=_;omega
     obtain⟨hgl,hrd⟩:=Rm.ownK_at HS.out.lo;go_wp2_with fail
     refine(Rm.l4DrawSet c a len cap g cp L _ hl HS.out.at' hgc h61 hcp HWW.out hrd).mono ?_;rintro e w4 ⟨x,rfl,hx,hA4,hG4⟩;have HS4:Hid (_):=HS.out.cur hcw hA4 hG4;clear hA4 hG4 HS hgl hrd;obtain⟨hgl,hrd⟩:=Rm.ownK_at HS4.out.lo;go_wp2_with fail
     refine(Sg.specClosed g 0 cp L x _ hcp HWW.out hrd).mono ?_;rintro e w5 ⟨rfl,b5⟩;have HS5:Hid (_):=HS4.out.below b5;clear b5 HS4 hgl hrd
     cases hcl:closedB L x
     · go_wp2;go_roundw
       case rel=>exact⟨k-1,s,so,sc,S,vo,vc,T,f,by omega,by rw [HKE.out],rfl,HSB,HS5⟩
       case measure=>simp [intOf];omega
     · have x0:=HS5.out.x.x0;have x1:=HS5.out.x.x1;clear hcl;go_wp2_with fail
       refine(HLG.out _ _ _ _ _ _ _ _ _ HS5.out).mono ?_;rintro e w6 ⟨so',sc',vo',vc',f',rfl,hO,hLL,hap,hb6⟩;obtain⟨q1,q2,q3⟩:=logged_bd (s:=bits .or .i64 s x) (L:=L) (C:=C) HS5.out.s40 HS5.out.ts HS5.out.row;have HS7:Hid (_):=HS5.out.log hcb hb6 hO hLL hap q1 q2 q3 (seen_bd HS5.out.sb);have HS6:=HS5.out.below hb6;have y0:=HS6.x.x0;have y1:=HS6.x.x1;have y2:=HS6.x.f0;have y3:=HS6.x.f1;have hbd:=Draw.bits_bd .or s x;clear hO hLL hap hb6 q1 q2 q3 HS5 HS6 x0 x1 HLG;generalize seenL L C S T (bits .or .i64 s x)=S' at HS7 ⊢;generalize toldL L C S T (bits .or .i64 s x)=T' at HS7 ⊢;go_wp2;go_roundw
       case rel=>exact⟨k-1,_,so',sc',S',vo',vc',T',f',by omega,by rw [HKE.out],rfl,hbd,HS7⟩
       case measure=>simp [intOf];omega
   · obtain rfl:k=0:=by omega
     have x0:=HS.out.x.x0;clear HLG;by_cases hS:S.length=0
     · have hSi:¬ (0:Int)<(S.length:Int):=by omega
       have HZ:Hid (_):=lg_z HS.out;clear HS hS;have z0:=HZ.out.b0;have z1:=HZ.out.b1;have z2:=HZ.out.r0;have z7:=HZ.out.r1;have z3:=HZ.out.g0;have z4:=HZ.out.g1;have HF:Hid (_):=z_fin HZ.out hcb hcw;obtain⟨⟨z5,z6⟩,_⟩:=HF.out;go_upto_region 19 with fail
       go_region
       all_goals go_wp2
       all_goals
         obtain⟨f1,f2,f3,f4,f5⟩:=HF.out.2 _ rfl;refine bodyPost_ret (v:=.tuple #[.slice (some ⟨g,0,none⟩) L.length cp,.slice ao C.length cc,.agg #[.slice so S.length sc,.slice vo T.length vc]]) (by simp [results,Tryz.f52,go_sem,f1,f2]) rfl ?_;exact⟨_,L,ao,cc,C,so,sc,S,vo,vc,T,f,rfl,f3.below (Below.refl _ _).drew,f4.below (Below.refl _ _).drew,f5⟩
     · have hSi:(0:Int)<(S.length:Int):=by omega
       go_wp2_with fail
       refine(Cur.once c a len cap 8 _ hl (by omega) HS.out.at').mono ?_;rintro e w4 ⟨b,rfl,hA4,hG4⟩;have HS4:Hid (_):=HS.out.cur hcw hA4 hG4;clear hA4 hG4 HS x0;go_upto_if 47 with fail
       go_cut [48] from 49 to 73 (fun xv wx=>∃(so:Option Addr) (sc:Nat) (S:List Int) (vo:Option Addr) (vc:Nat) (T:List (List Int)) (f:At),Hid (LgZ c a len cap w wx gb (.slice (some ⟨g,0,none⟩) L.length cp) L ao cc C so sc S vo vc T f))
       case first=>
         cases b
         · have HZ:Hid (_):=lg_z HS4.out;go_wp2;go_meet;exact⟨_,_,_,_,_,_,_,HZ⟩
         · go_wp2_with fail
           refine(Cur.below c a len cap 3 _ hl (by omega) HS4.out.at').mono ?_;rintro e w5 ⟨x,rfl,hx0,hx1,hA5,hG5⟩;have HS5:Hid (_):=HS4.out.cur hcw hA5 hG5;have hx3:=hx1 (by omega);clear hA5 hG5 HS4 hx1;by_cases e0:x=0
           · subst e0;obtain⟨sb,_,hso,_⟩:=z_seen HS5.out hcb (by omega) 0 (by omega);subst hso;have HZS:Hid (∀(y:Int) (V:World),(-9223372036854775808≤y∧y≤9223372036854775807)→Cur.At c a len cap V→w5.grownBy V (some c)→V.cell? ⟨gb,0,none⟩=some (.slice (some ⟨sb,0,none⟩) S.length sc)∧(∃u,V.cell? ⟨sb,0,none⟩=some u)∧V.frozen? ⟨sb,0,none⟩=false∧(V.setCell ⟨sb,0,none⟩ (.int .i64 y)).cell? ⟨gb,0,none⟩=some (.slice (some ⟨sb,0,none⟩) S.length sc)∧∃S',Hid (LgZ c a len cap w (V.setCell ⟨sb,0,none⟩ (.int .i64 y)) gb (.slice (some ⟨g,0,none⟩) L.length cp) L ao cc C (some ⟨sb,0,none⟩) sc S' vo vc T f)):=fun y V hyb hA hG=>by
               have s6:=HS5.out.cur hcw hA hG;obtain⟨sb',S',e,h1,h2,h3,h4⟩:=z_seen s6 hcb (by omega) y hyb;injection e with e;injection e with e;subst e;have hb0:=h4.b0;rw [h3] at hb0;exact⟨s6.x.x0,h1,h2,hb0,S',h4⟩
             have x0:=HS5.out.x.x0;have HA5:Hid (Cur.At c a len cap w5):=HS5.out.at';clear HS5;go_wp2_with fail
             go_region_held3 (fun V => V.cell? ⟨gb, 0, none⟩ = some (.slice (some ⟨sb, 0, none⟩) S.length sc)) (first
               | exact (HZS.out _ _ Y6 A6 G6).2.2.2.1 | exact (HZS.out 0 _ (by omega) A6 G6).1 | exact x0 | go_keep) (first
               | (go_at_call 85
                  refine(Draw.drawSet c a len cap _ hl (by first | exact HA5.out | exact HA5.out.drewN 1)).mono ?_;rintro e V6 ⟨y,rfl,Y6,A6,g6⟩;have G6:w5.grownBy V6 (some c):=⟨g6.os,g6.tape,g6.output,g6.size,g6.block⟩
                  obtain⟨_,⟨u6,d6⟩,m6,_,S6,HZ6⟩:=HZS.out y V6 Y6 A6 G6))
             all_goals go_wp2
             all_goals go_meet
             all_goals exact⟨_,_,_,_,_,_,_,HZ6⟩
           · by_cases e1:x=1
             · subst e1;obtain⟨tb,hvo,htl,htB,htc,htf⟩:=told_blk HS5.out (by have:=HS5.out.ts;omega);subst hvo;have hT:0<T.length:=by have:=HS5.out.ts;omega
               have hTi:(0:Int)<(T.length:Int):=by omega
               have t0:=htc 0 hT;have tf0:=htf 0;have x1:=HS5.out.x.x1;have hgl:=HS5.out.x.lt;have hr0:=HS5.out.row 0 hT;have HTD:Hid (∀(X V3:World) (o:Obj) (v3:Value),LgSt c a len cap w X gb (.slice (some ⟨g,0,none⟩) L.length cp) L ao cc C so sc S (some ⟨tb,0,none⟩) vc T f→V3.ownsRow (w.heap.size+1) 2 1 v3 ((T.getD 0 []).length+1) ((T.getD 0 []).map (Value.int .i64)++[.int .i64 0])→(X.alloc o).grownBy V3 (Value.slice (f 0).1 (T.getD 0 []).length (f 0).2).ownBlock→V3.cell? ⟨gb,1,none⟩=some (.slice (some ⟨tb,0,none⟩) T.length vc)∧(∃u,V3.cell? ⟨tb,0,none⟩=some u)∧V3.frozen? ⟨tb,0,none⟩=false∧∃T' f',Hid (LgZ c a len cap w (V3.setCell ⟨tb,0,none⟩ v3) gb (.slice (some ⟨g,0,none⟩) L.length cp) L ao cc C so sc S (some ⟨tb,0,none⟩) vc T' f')):=fun X V3 o v3 s h3 hg=>by
                 obtain⟨h1,h2,h3',T',f',_,h4⟩:=z_told s hcb hT h3 hg;exact⟨h1,h2,h3',T',f',h4⟩
               have HOW:Hid (∀X:World,LgSt c a len cap w X gb (.slice (some ⟨g,0,none⟩) L.length cp) L ao cc C so sc S (some ⟨tb,0,none⟩) vc T f→X.ownsRow (w.heap.size+1) 2 1 (.slice (f 0).1 (T.getD 0 []).length (f 0).2) (T.getD 0 []).length ((T.getD 0 []).map (Value.int .i64))):=fun X s=>s.x.ll.each 0 hT
               have HK5:Hid (LgSt c a len cap w w5 gb (.slice (some ⟨g,0,none⟩) L.length cp) L ao cc C so sc S (some ⟨tb,0,none⟩) vc T f):=HS5.out;have HD5:Hid (∀m,LgSt c a len cap w (w5.drewN m) gb (.slice (some ⟨g,0,none⟩) L.length cp) L ao cc C so sc S (some ⟨tb,0,none⟩) vc T f):=fun m=>HS5.out.below (Nu.below_drewN (Below.refl _ _) m)
               have hsz:w.heap.size+1≤w5.heap.size:=HS5.out.rl;clear HS5 htc htf;generalize f 0=p0 at t0 HTD HOW;obtain⟨pa,pc⟩:=p0;dsimp only at t0 HTD HOW;generalize (T.getD 0 []).map (Value.int .i64)=xs0 at HTD HOW;generalize (T.getD 0 []).length=n0 at t0 HTD HOW hr0;go_wp2_with fail
               go_region_law (first
                 | (refine step_own_at rfl (.tmp 64) (.tmp 65) 25 rfl (w.heap.size+1) 2 i0 (.int .i64 0) 1 8 Tryz.underlying25 hi hz0 hz1 hz2 rfl (by decide) (.slice pa n0 pc) n0 xs0 (by simp [Act.eval]) (World.ownsRow.alloc (by first | exact HOW.out _ (HD5.out 0) | exact HOW.out _ (HD5.out 1)) _) ⟨w5.heap.size,0,none⟩ 1 1 [.int .i64 0] (by simp [Act.eval]) rfl (Sg.one_new _ 0 _) (Sg.one_one 0) (by unfold maxLen;omega) (by omega) (by simp;omega) ?_
                    intro v3 V3 h3 hg3 _;obtain⟨g3,c3,rfl⟩:=snoc_shape h3;obtain⟨d1,⟨u3,d3⟩,m3,T3,f3,HZ3⟩:=HTD.out w5 V3 (.cells #[.int .i64 0] 2) _ HK5.out h3 (by first | exact hg3 | exact⟨hg3.os,hg3.tape,hg3.output,hg3.size,hg3.block⟩)))
               all_goals go_wp2
               all_goals go_meet
               all_goals exact⟨_,_,_,_,_,_,_,HZ3⟩
             · obtain rfl:x=2:=by omega
               obtain⟨tb,hvo,htl,htB,htc,htf⟩:=told_blk HS5.out (by have:=HS5.out.ts;omega);subst hvo;have hT:0<T.length:=by have:=HS5.out.ts;omega
               have hTi:(1:Int)≤(T.length:Int):=by omega
               have x1:=HS5.out.x.x1;have m1:=HS5.out.x.f1;have hcp5:T.length≤vc:=row_cap HS5.out.x.ll.row;have HZ1:Hid (_):=z_cut HS5.out hcb hT (T.length-1) (vc-1) 1 rfl (.inl rfl);have HZ0:Hid (vc=1→_):=fun h=>z_cut HS5.out hcb hT (T.length-1) 0 0 rfl (.inr (by omega))
               clear HS5 htc htf;go_wp2
               · go_meet;obtain⟨T6,f6,e6,h6⟩:=HZ0.out (by assumption);exact⟨so,sc,S,_,_,T6,f6,h6⟩
               · go_meet;obtain⟨T6,f6,e6,h6⟩:=HZ1.out;exact⟨so,sc,S,_,_,T6,f6,h6⟩
       case rest=>
         obtain⟨so,sc,S,vo,vc,T,f,HZ⟩:=hcut;clear HS4;have z0:=HZ.out.b0;have z1:=HZ.out.b1;have z2:=HZ.out.r0;have z7:=HZ.out.r1;have z3:=HZ.out.g0;have z4:=HZ.out.g1;have HF:Hid (_):=z_fin HZ.out hcb hcw;obtain⟨⟨z5,z6⟩,_⟩:=HF.out;go_upto_region 19 with fail
         go_region
         all_goals go_wp2
         all_goals
           obtain⟨f1,f2,f3,f4,f5⟩:=HF.out.2 _ rfl;refine bodyPost_ret (v:=.tuple #[.slice (some ⟨g,0,none⟩) L.length cp,.slice ao C.length cc,.agg #[.slice so S.length sc,.slice vo T.length vc]]) (by simp [results,Tryz.f52,go_sem,f1,f2]) rfl ?_;exact⟨_,L,ao,cc,C,so,sc,S,vo,vc,T,f,rfl,f3.below (Below.refl _ _).drew,f4.below (Below.refl _ _).drew,f5⟩
structure DrawnG(w w':World)(v:Value)(L:List K)(ao:Option Addr)(cc:Nat)(C:List Int)(so:Option Addr)(sc:Nat)(S:List Int)(qo:Option Addr)(tc:Nat)(T:List (List Int))(f:At):Prop where
 dc:Rm.DrawnC w w' v L ao cc C
 lg:LLies w' so sc S qo tc T f
structure DrawnB(w W:World)(c:Nat)(v:Value)(L:List K)(ao:Option Addr)(cc:Nat)(C:List Int)(so:Option Addr)(sc:Nat)(S:List Int)(qo:Option Addr)(tc:Nat)(T:List (List Int))(f:At):Prop where
 r0:W.cell? ⟨w.heap.size,0,none⟩=some (.slice none 0 0)
 r1:W.cell? ⟨w.heap.size,1,none⟩=some (.slice none 0 0)
 g0:W.frozen? ⟨w.heap.size,0,none⟩=false
 g1:W.frozen? ⟨w.heap.size,1,none⟩=false
 rl:w.heap.size<W.heap.size
 bel:Below w.heap.size w W
 wc:w.heap.size<c
 lo:OwnK 38 (c+1) W v L
 l61:L.length≤61
 wd:∀k∈L,k.word.size≤13
 co:Memb.Own (c+1) W ao cc C
 c7:C.length≤7
 lg:LLies W so sc S qo tc T f
 far:∀b,b≤c→FarL b so qo T f
section
variable {w W:World} {c:Nat} {v:Value} {L:List K} {ao:Option Addr} {cc:Nat} {C:List Int} {so:Option Addr} {sc:Nat} {S:List Int} {qo:Option Addr} {tc:Nat} {T:List (List Int)} {f:At}
theorem DrawnB.below{W':World}(s:DrawnB w W c v L ao cc C so sc S qo tc T f)(hb:Below W.heap.size W W'):DrawnB w W' c v L ao cc C so sc S qo tc T f:=
 ⟨(hb.cell (p:=⟨w.heap.size,0,none⟩) s.rl).trans s.r0,(hb.cell (p:=⟨w.heap.size,1,none⟩) s.rl).trans s.r1,(hb.frozen (p:=⟨w.heap.size,0,none⟩) s.rl).trans s.g0,(hb.frozen (p:=⟨w.heap.size,1,none⟩) s.rl).trans s.g1,Nat.lt_of_lt_of_le s.rl hb.size,s.bel.trans (hb.mono s.bel.size),s.wc,Lc.ownK_below s.lo hb,s.l61,s.wd,Lst.own_below s.co hb,s.c7,s.lg.below hb,s.far⟩
theorem DrawnB.cur{W':World}(s:DrawnB w W c v L ao cc C so sc S qo tc T f)(hg:W.grownBy W' (some c)):DrawnB w W' c v L ao cc C so sc S qo tc T f:=by
 have hf:=Fr.of_grown hg;have hwc:=s.wc;have hne:¬ w.heap.size=c:=by omega
 exact⟨(hf.cell (p:=⟨w.heap.size,0,none⟩) s.rl hne).trans s.r0,(hf.cell (p:=⟨w.heap.size,1,none⟩) s.rl hne).trans s.r1,(hf.frozen (p:=⟨w.heap.size,0,none⟩) s.rl hne).trans s.g0,(hf.frozen (p:=⟨w.heap.size,1,none⟩) s.rl hne).trans s.g1,Nat.lt_of_lt_of_le s.rl hg.size,s.bel.trans (hf.toBelow s.bel.size (fun y hy=>by have e:y=c:=hy;omega)),hwc,Rm.ownK_grown s.lo hg (by omega),s.l61,s.wd,Draw.own_grown s.co hg (by omega),s.c7,lies_fr s.lg (s.far c (Nat.le_refl _)) hf,s.far⟩
theorem b_fin(s:DrawnB w W c v L ao cc C so sc S qo tc T f) :
  ((W.setCell ⟨w.heap.size,0,none⟩ (.slice so S.length sc)).cell? ⟨w.heap.size,1,none⟩=some (.slice none 0 0)∧(W.setCell ⟨w.heap.size,0,none⟩ (.slice so S.length sc)).frozen? ⟨w.heap.size,1,none⟩=false) ∧
  ∀V,V=(W.setCell ⟨w.heap.size,0,none⟩ (.slice so S.length sc)).setCell ⟨w.heap.size,1,none⟩ (.slice qo T.length tc) →
   V.cell? ⟨w.heap.size,0,none⟩=some (.slice so S.length sc)∧V.cell? ⟨w.heap.size,1,none⟩=some (.slice qo T.length tc)∧DrawnG w V v L ao cc C so sc S qo tc T f:=by
 have x1':(W.setCell ⟨w.heap.size,0,none⟩ (.slice so S.length sc)).cell? ⟨w.heap.size,1,none⟩=some (.slice none 0 0):=(World.cell?_setCell_other _ _ _ _ (by simp)).trans s.r1;refine⟨⟨x1',by simpa using s.g1⟩,?_⟩;rintro V rfl;have hf:=(Fr.set W ⟨w.heap.size,0,none⟩ (.slice so S.length sc)).trans (Fr.set (W.setCell ⟨w.heap.size,0,none⟩ (.slice so S.length sc)) ⟨w.heap.size,1,none⟩ (.slice qo T.length tc)) (fun _ h _=>h);have hwc:=s.wc;refine⟨(World.cell?_setCell_other _ _ _ _ (by simp)).trans (World.cell?_setCell_same _ _ _ s.r0),World.cell?_setCell_same _ _ _ x1',⟨⟨⟨Rm.ownK_base (B:=c+1) ⟨Rm.own_fr hf s.lo.1 (fun y hy e=>by have e':y=w.heap.size:=e;have:=(World.ownsRow.lt s.lo.1 y hy).1;omega),s.lo.2⟩ (by omega),s.l61,s.wd,s.bel.trans (hf.toBelow (Nat.le_of_lt s.rl) (fun y hy=>by have e:y=w.heap.size:=hy;omega))⟩,Ch.own_base (own_frA s.co hf (fun g e q=>by have e':g=w.heap.size:=q;have:=(World.ownsRow.lt s.co g (by rw [e];rfl)).1;omega)) (by omega),s.c7⟩,lies_fr s.lg (s.far w.heap.size (Nat.le_of_lt hwc)) hf⟩⟩
theorem b_of{a:Option Addr}{len cap:Nat}{W0 w1:World}(p1:Below w.heap.size w W0)(p2:W0.cell? ⟨w.heap.size,0,none⟩=some (.slice none 0 0))(p3:W0.cell? ⟨w.heap.size,1,none⟩=some (.slice none 0 0))(z0:W0.heap.size=w.heap.size+1)(p5:∀j,W0.frozen? ⟨w.heap.size,j,none⟩=false)(hb:Below W0.heap.size W0 w1)(s:LcSt W0.heap.size a len cap w1 W v L ao cc C)(hlg:LLies W so sc S qo tc T f)(hcl:W0.heap.size<w1.heap.size)(hfar:∀b,b≤w1.heap.size→FarL b so qo T f):DrawnB w W W0.heap.size v L ao cc C so sc S qo tc T f:=by
 have hf:=Fr.of_grown s.gr;have h1:w.heap.size<W0.heap.size:=by omega
 have h2:=hb.size;have hne:¬ w.heap.size=W0.heap.size:=by omega
 have hlt:w.heap.size<w1.heap.size:=by omega
 have hs:=s.gr.size;refine⟨(hf.cell (p:=⟨w.heap.size,0,none⟩) hlt hne).trans ((hb.cell (p:=⟨w.heap.size,0,none⟩) h1).trans p2),(hf.cell (p:=⟨w.heap.size,1,none⟩) hlt hne).trans ((hb.cell (p:=⟨w.heap.size,1,none⟩) h1).trans p3),(hf.frozen (p:=⟨w.heap.size,0,none⟩) hlt hne).trans ((hb.frozen (p:=⟨w.heap.size,0,none⟩) h1).trans (p5 0)),(hf.frozen (p:=⟨w.heap.size,1,none⟩) hlt hne).trans ((hb.frozen (p:=⟨w.heap.size,1,none⟩) h1).trans (p5 1)),by omega,?_,h1,Rm.ownK_base s.lo (by omega),s.l61,s.wd,Ch.own_base s.co (by omega),s.c7,hlg,fun b hb'=>hfar b (by omega)⟩;exact(p1.trans (hb.mono p1.size)).trans (hf.toBelow (by omega) (fun y hy=>by have e:y=W0.heap.size:=hy;omega))
end
theorem drawLogOk(HD:DrawsRoom)(HDC:DrawsRoomC)(a:Option Addr)(len cap:Nat)(w:World)(hl:len≤4096)(hc:Cur.Code w a len) :
  Calls Tryz.prog 21 #[.slice a len cap] w fun e w'=>∃v L ao cc C so sc S qo tc T f,e=.returned (.tuple #[v,.slice ao (C:List Int).length cc,.agg #[.slice so (S:List Int).length sc,.slice qo (T:List (List Int)).length tc]])∧DrawnG w w' v L ao cc C so sc S qo tc T f:=by
 have HDD:Hid DrawsRoom:=HD;have HDX:Hid DrawsRoomC:=HDC;have P0:Hid (Below w.heap.size w (w.alloc (.cells #[.slice none 0 0,.slice none 0 0] 43))∧(w.alloc (.cells #[.slice none 0 0,.slice none 0 0] 43)).cell? ⟨w.heap.size,0,none⟩=some (.slice none 0 0)∧(w.alloc (.cells #[.slice none 0 0,.slice none 0 0] 43)).cell? ⟨w.heap.size,1,none⟩=some (.slice none 0 0)∧(w.alloc (.cells #[.slice none 0 0,.slice none 0 0] 43)).heap.size=w.heap.size+1∧(∀j,(w.alloc (.cells #[.slice none 0 0,.slice none 0 0] 43)).frozen? ⟨w.heap.size,j,none⟩=false)):=⟨(Below.refl _ _).alloc (Nat.le_refl _) _,by simp,by simp,by simp,fun j=>by simp⟩
 have hc0:Hid (Cur.Code (w.alloc (.cells #[.slice none 0 0,.slice none 0 0] 43)) a len):=Rm.code_below2 hc P0.out.1;clear HD HDC;go_enter Tryz.func21,Tryz.ntmps21
 go_upto_region 1 with fail
 generalize w.alloc (.cells #[.slice none 0 0,.slice none 0 0] 43)=W0 at P0 hc0 ⊢;go_wp2_with fail
 refine(Cur.new a len cap _ hl hc0.out).mono ?_;rintro e w1 ⟨rfl,hA1,hb1⟩;have HB1:Hid (Below W0.heap.size W0 w1):=hb1;go_wp2_with fail
 refine(l15Draw HDD.out HDX.out _ a len cap _ hl hA1).mono ?_;rintro e w2 ⟨v,L,ao,cc,C,so,sc,S,qo,tc,T,f,rfl,hS2,hL2,hF2⟩;have HB2:Hid (DrawnB w w2 W0.heap.size v L ao cc C so sc S qo tc T f):=b_of P0.out.1 P0.out.2.1 P0.out.2.2.1 P0.out.2.2.2.1 P0.out.2.2.2.2 HB1.out hS2 hL2 hA1.lt hF2;have HA2:Hid (Cur.At W0.heap.size a len cap w2):=hS2.at';clear hb1 hA1 hS2 hL2 hF2 P0 HB1 hc0 HDD HDX;have z2:=HB2.out.r0;have z7:=HB2.out.r1;have z3:=HB2.out.g0;have z4:=HB2.out.g1;have HF:Hid (_):=b_fin HB2.out;obtain⟨⟨z5,z6⟩,_⟩:=HF.out;clear HB2 HA2;go_wp2;obtain⟨f1,f2,f3⟩:=HF.out.2 _ rfl;refine bodyPost_ret (v:=.tuple #[v,.slice ao C.length cc,.agg #[.slice so S.length sc,.slice qo T.length tc]]) (by simp [results,Tryz.f21,go_sem,f1,f2]) rfl ?_;exact⟨v,L,ao,cc,C,so,sc,S,qo,tc,T,f,rfl,f3⟩
theorem drawLastTold(HD:DrawsRoom)(HDC:DrawsRoomC)(a:Option Addr)(len cap:Nat)(w:World)(hl:len≤4096)(hc:Cur.Code w a len) :
  Calls Tryz.prog 22 #[.slice a len cap] w fun e w'=>∃v L ao cc C so sc S qo tc T f,e=.returned (.agg #[.slice so (S:List Int).length sc,.slice qo (T:List (List Int)).length tc])∧DrawnG w w' v L ao cc C so sc S qo tc T f:=by
 have HDD:Hid DrawsRoom:=HD;have HDX:Hid DrawsRoomC:=HDC;have P0:Hid (Below w.heap.size w (w.alloc (.cells #[.slice none 0 0,.slice none 0 0] 43))∧(w.alloc (.cells #[.slice none 0 0,.slice none 0 0] 43)).cell? ⟨w.heap.size,0,none⟩=some (.slice none 0 0)∧(w.alloc (.cells #[.slice none 0 0,.slice none 0 0] 43)).cell? ⟨w.heap.size,1,none⟩=some (.slice none 0 0)∧(w.alloc (.cells #[.slice none 0 0,.slice none 0 0] 43)).heap.size=w.heap.size+1∧(∀j,(w.alloc (.cells #[.slice none 0 0,.slice none 0 0] 43)).frozen? ⟨w.heap.size,j,none⟩=false)):=⟨(Below.refl _ _).alloc (Nat.le_refl _) _,by simp,by simp,by simp,fun j=>by simp⟩
 have hc0:Hid (Cur.Code (w.alloc (.cells #[.slice none 0 0,.slice none 0 0] 43)) a len):=Rm.code_below2 hc P0.out.1;clear HD HDC;go_enter Tryz.func22,Tryz.ntmps22
 go_upto_region 1 with fail
 generalize w.alloc (.cells #[.slice none 0 0,.slice none 0 0] 43)=W0 at P0 hc0 ⊢;go_wp2_with fail
 refine(Cur.new a len cap _ hl hc0.out).mono ?_;rintro e w1 ⟨rfl,hA1,hb1⟩;have HB1:Hid (Below W0.heap.size W0 w1):=hb1;go_wp2_with fail
 refine(l15Draw HDD.out HDX.out _ a len cap _ hl hA1).mono ?_;rintro e w2 ⟨v,L,ao,cc,C,so,sc,S,qo,tc,T,f,rfl,hS2,hL2,hF2⟩;have HB2:Hid (DrawnB w w2 W0.heap.size v L ao cc C so sc S qo tc T f):=b_of P0.out.1 P0.out.2.1 P0.out.2.2.1 P0.out.2.2.2.1 P0.out.2.2.2.2 HB1.out hS2 hL2 hA1.lt hF2;have HA2:Hid (Cur.At W0.heap.size a len cap w2):=hS2.at';clear hb1 hA1 hS2 hL2 hF2 P0 HB1 hc0 HDD HDX;have HB3:Hid (DrawnB w (w2.alloc (.cells #[.slice so S.length sc,.slice qo T.length tc] 43)) W0.heap.size v L ao cc C so sc S qo tc T f∧(w2.alloc (.cells #[.slice so S.length sc,.slice qo T.length tc] 43)).cell? ⟨w2.heap.size,0,none⟩=some (.slice so S.length sc)∧(w2.alloc (.cells #[.slice so S.length sc,.slice qo T.length tc] 43)).cell? ⟨w2.heap.size,1,none⟩=some (.slice qo T.length tc)∧w2.heap.size<(w2.alloc (.cells #[.slice so S.length sc,.slice qo T.length tc] 43)).heap.size∧Cur.At W0.heap.size a len cap (w2.alloc (.cells #[.slice so S.length sc,.slice qo T.length tc] 43))∧w2.heap.size≠W0.heap.size):=
  ⟨HB2.out.below ((Below.refl _ _).alloc (Nat.le_refl _) _),by simp,by simp,by simp,Draw.at_alloc HA2.out _,by have:=HA2.out.lt;omega⟩
 clear HB2 HA2;go_upto_region 3 with fail
 generalize w2.alloc (.cells #[.slice so S.length sc,.slice qo T.length tc] 43)=W3 at HB3 ⊢;generalize w2.heap.size=qb at HB3 ⊢;have HB:Hid (_):=HB3.out.1;have y0:=HB3.out.2.1;have y1:=HB3.out.2.2.1;have z2:=HB.out.r0;have z7:=HB.out.r1;have z3:=HB.out.g0;have z4:=HB.out.g1;have HF:Hid (_):=b_fin HB.out;obtain⟨⟨z5,z6⟩,_⟩:=HF.out;clear HB HB3;go_wp2;obtain⟨f1,f2,f3⟩:=HF.out.2 _ rfl;refine bodyPost_ret (v:=.agg #[.slice so S.length sc,.slice qo T.length tc]) (by simp [results,Tryz.f22,go_sem,f1,f2]) rfl ?_;exact⟨v,L,ao,cc,C,so,sc,S,qo,tc,T,f,rfl,f3⟩
theorem drawLogged(HD:DrawsRoom)(HDC:DrawsRoomC)(a:Option Addr)(len cap:Nat)(w:World)(hl:len≤4096)(hc:Cur.Code w a len) :
  Calls Tryz.prog 19 #[.slice a len cap] w fun e w'=>∃v L ao cc C so sc S qo tc T f s,e=.returned (.tuple #[v,.slice ao (C:List Int).length cc,.agg #[.slice so (S:List Int).length sc,.slice qo (T:List (List Int)).length tc],.int .i64 s])∧DrawnG w w' v L ao cc C so sc S qo tc T f∧(-9223372036854775808≤s∧s≤9223372036854775807):=by
 have HDD:Hid DrawsRoom:=HD;have HDX:Hid DrawsRoomC:=HDC;have P0:Hid (Below w.heap.size w (w.alloc (.cells #[.slice none 0 0,.slice none 0 0] 43))∧(w.alloc (.cells #[.slice none 0 0,.slice none 0 0] 43)).cell? ⟨w.heap.size,0,none⟩=some (.slice none 0 0)∧(w.alloc (.cells #[.slice none 0 0,.slice none 0 0] 43)).cell? ⟨w.heap.size,1,none⟩=some (.slice none 0 0)∧(w.alloc (.cells #[.slice none 0 0,.slice none 0 0] 43)).heap.size=w.heap.size+1∧(∀j,(w.alloc (.cells #[.slice none 0 0,.slice none 0 0] 43)).frozen? ⟨w.heap.size,j,none⟩=false)):=⟨(Below.refl _ _).alloc (Nat.le_refl _) _,by simp,by simp,by simp,fun j=>by simp⟩
 have hc0:Hid (Cur.Code (w.alloc (.cells #[.slice none 0 0,.slice none 0 0] 43)) a len):=Rm.code_below2 hc P0.out.1;clear HD HDC;go_enter Tryz.func19,Tryz.ntmps19
 go_upto_region 1 with fail
 generalize w.alloc (.cells #[.slice none 0 0,.slice none 0 0] 43)=W0 at P0 hc0 ⊢;go_wp2_with fail
 refine(Cur.new a len cap _ hl hc0.out).mono ?_;rintro e w1 ⟨rfl,hA1,hb1⟩;have HB1:Hid (Below W0.heap.size W0 w1):=hb1;go_wp2_with fail
 refine(l15Draw HDD.out HDX.out _ a len cap _ hl hA1).mono ?_;rintro e w2 ⟨v,L,ao,cc,C,so,sc,S,qo,tc,T,f,rfl,hS2,hL2,hF2⟩;have HB2:Hid (DrawnB w w2 W0.heap.size v L ao cc C so sc S qo tc T f):=b_of P0.out.1 P0.out.2.1 P0.out.2.2.1 P0.out.2.2.2.1 P0.out.2.2.2.2 HB1.out hS2 hL2 hA1.lt hF2;have HA2:Hid (Cur.At W0.heap.size a len cap w2):=hS2.at';clear hb1 hA1 hS2 hL2 hF2 P0 HB1 hc0 HDD HDX;have HB3:Hid (DrawnB w (w2.alloc (.cells #[.slice so S.length sc,.slice qo T.length tc] 43)) W0.heap.size v L ao cc C so sc S qo tc T f∧(w2.alloc (.cells #[.slice so S.length sc,.slice qo T.length tc] 43)).cell? ⟨w2.heap.size,0,none⟩=some (.slice so S.length sc)∧(w2.alloc (.cells #[.slice so S.length sc,.slice qo T.length tc] 43)).cell? ⟨w2.heap.size,1,none⟩=some (.slice qo T.length tc)∧w2.heap.size<(w2.alloc (.cells #[.slice so S.length sc,.slice qo T.length tc] 43)).heap.size∧Cur.At W0.heap.size a len cap (w2.alloc (.cells #[.slice so S.length sc,.slice qo T.length tc] 43))∧w2.heap.size≠W0.heap.size):=
  ⟨HB2.out.below ((Below.refl _ _).alloc (Nat.le_refl _) _),by simp,by simp,by simp,Draw.at_alloc HA2.out _,by have:=HA2.out.lt;omega⟩
 clear HB2 HA2;go_upto_region 3 with fail
 generalize w2.alloc (.cells #[.slice so S.length sc,.slice qo T.length tc] 43)=W3 at HB3 ⊢;generalize w2.heap.size=qb at HB3 ⊢;have HB:Hid (_):=HB3.out.1;have hqc:=HB3.out.2.2.2.2.2;have hql:=HB3.out.2.2.2.1;obtain⟨g,cp,rfl,hcp,_,hgB,_,hrd,_⟩:=Lc.ownK_shape HB.out.lo;have hgc:g≠W0.heap.size:=by omega
 have HWW:Hid (WordsOk L):=fun k hk=>by have:=HB.out.wd k hk;omega
 go_wp2_with fail
 refine(Rm.l4DrawSet W0.heap.size a len cap g cp L W3 hl HB3.out.2.2.2.2.1 hgc HB.out.l61 hcp HWW.out hrd).mono ?_;rintro e w4 ⟨s,rfl,hs,hA4,hG4⟩;have HB4:Hid (_):=HB.out.cur hG4;have y0:=Draw.kept_cell hG4 hqc HB3.out.2.1;have y1:=Draw.kept_cell hG4 hqc HB3.out.2.2.1;have hF4:=Fr.of_grown hG4;clear hA4 hG4 HB HB3 hrd hF4;have HSB:Hid (-9223372036854775808≤s∧s≤9223372036854775807):=hs;by_cases hS:S.length=0
 ·have hSi:¬ (0:Int)<(S.length:Int):=by omega
  clear hS;have z2:=HB4.out.r0;have z7:=HB4.out.r1;have z3:=HB4.out.g0;have z4:=HB4.out.g1;have HF:Hid (_):=b_fin HB4.out;obtain⟨⟨z5,z6⟩,_⟩:=HF.out;clear HB4;go_upto_region 7 with fail
  go_region
  all_goals go_wp2
  all_goals
   obtain⟨f1,f2,f3⟩:=HF.out.2 _ rfl;refine bodyPost_ret (v:=.tuple #[.slice (some ⟨g,0,none⟩) L.length cp,.slice ao C.length cc,.agg #[.slice so S.length sc,.slice qo T.length tc],.int .i64 s]) (by simp [results,Tryz.f19,go_sem,f1,f2]) rfl ?_;exact⟨_,L,ao,cc,C,so,sc,S,qo,tc,T,f,_,rfl,⟨⟨⟨Lc.ownK_below f3.dc.dr.own (Below.refl _ _).drew,f3.dc.dr.len,f3.dc.dr.word,f3.dc.dr.bel.drew⟩,Lst.own_below f3.dc.co (Below.refl _ _).drew,f3.dc.c7⟩,f3.lg.below (Below.refl _ _).drew⟩,HSB.out⟩
 ·have hSi:(0:Int)<(S.length:Int):=by omega
  have hSl:=HB4.out.lg.s41;have hw1:IntKind.i64.wrap ((S.length:Int)-1)=(S.length:Int)-1:=by rw [IntKind.wrap_i64];omega
  by_cases hs0:0≤s
  ·obtain⟨sb,hso,hsc⟩:∃sb,so=some ⟨sb,0,none⟩∧w4.cell? ⟨sb,S.length-1,none⟩=some (.int .i64 (S.getD (S.length-1) 0)):=by
    rcases HB4.out.lg.rd.seen with e | ⟨sb,e,k⟩
    ·rw [e] at hS;simp at hS
    ·exact⟨sb,e,k (S.length-1) (by omega)⟩
   subst hso;generalize S.getD (S.length-1) 0=y at hsc;have hix:((S.length:Int)-1).toNat=S.length-1:=by omega
   clear hS;have z2:=HB4.out.r0;have z7:=HB4.out.r1;have z3:=HB4.out.g0;have z4:=HB4.out.g1;have HF:Hid (_):=b_fin HB4.out;obtain⟨⟨z5,z6⟩,_⟩:=HF.out;clear HB4;go_upto_region 7 with fail
   go_region
   all_goals go_wp2
   all_goals
    obtain⟨f1,f2,f3⟩:=HF.out.2 _ rfl;refine bodyPost_ret (v:=.tuple #[.slice (some ⟨g,0,none⟩) L.length cp,.slice ao C.length cc,.agg #[.slice (some ⟨sb,0,none⟩) S.length sc,.slice qo T.length tc],.int .i64 (bits .or .i64 s y)]) (by simp [results,Tryz.f19,go_sem,f1,f2]) rfl ?_;exact⟨_,L,ao,cc,C,(some ⟨sb,0,none⟩),sc,S,qo,tc,T,f,_,rfl,⟨⟨⟨Lc.ownK_below f3.dc.dr.own (Below.refl _ _).drew,f3.dc.dr.len,f3.dc.dr.word,f3.dc.dr.bel.drew⟩,Lst.own_below f3.dc.co (Below.refl _ _).drew,f3.dc.c7⟩,f3.lg.below (Below.refl _ _).drew⟩,Draw.bits_bd _ _ _⟩
  ·have hsn:s<0:=by omega
   clear hS;have z2:=HB4.out.r0;have z7:=HB4.out.r1;have z3:=HB4.out.g0;have z4:=HB4.out.g1;have HF:Hid (_):=b_fin HB4.out;obtain⟨⟨z5,z6⟩,_⟩:=HF.out;clear HB4;go_upto_region 7 with fail
   go_region
   all_goals go_wp2
   all_goals
    obtain⟨f1,f2,f3⟩:=HF.out.2 _ rfl;refine bodyPost_ret (v:=.tuple #[.slice (some ⟨g,0,none⟩) L.length cp,.slice ao C.length cc,.agg #[.slice so S.length sc,.slice qo T.length tc],.int .i64 s]) (by simp [results,Tryz.f19,go_sem,f1,f2]) rfl ?_;exact⟨_,L,ao,cc,C,so,sc,S,qo,tc,T,f,_,rfl,⟨⟨⟨Lc.ownK_below f3.dc.dr.own (Below.refl _ _).drew,f3.dc.dr.len,f3.dc.dr.word,f3.dc.dr.bel.drew⟩,Lst.own_below f3.dc.co (Below.refl _ _).drew,f3.dc.c7⟩,f3.lg.below (Below.refl _ _).drew⟩,HSB.out⟩
end Lg
namespace Lg
theorem likeB(l:List Int)(a b:Option Addr)(ca cb:Nat)(w:World)(hn:l.length≤1048576)(ha:Lst.Rd w a l)(hb:Lst.Rd w b l) :
  Calls Tryz.prog 10 #[.slice a l.length ca,.slice b l.length cb] w fun e w'=>e=.returned (.bool true)∧Below w.heap.size w w':=
 (Lst.alike l a b ca cb w hn ha hb).mono fun e w' q=>by
  obtain⟨e1,n,e2⟩:=q;exact⟨e1,by rw [e2];exact Nu.below_drewN (Below.refl _ _) n⟩
theorem boxesL(w:World)(x y u v:Value)(t:TypeId):Below w.heap.size w ((w.alloc (.cells #[x,y] t)).alloc (.cells #[u,v] t))∧((w.alloc (.cells #[x,y] t)).alloc (.cells #[u,v] t)).cell? ⟨w.heap.size,0,none⟩=some x∧((w.alloc (.cells #[x,y] t)).alloc (.cells #[u,v] t)).cell? ⟨w.heap.size,1,none⟩=some y∧((w.alloc (.cells #[x,y] t)).alloc (.cells #[u,v] t)).cell? ⟨w.heap.size+1,0,none⟩=some u∧((w.alloc (.cells #[x,y] t)).alloc (.cells #[u,v] t)).cell? ⟨w.heap.size+1,1,none⟩=some v∧w.heap.size+1<((w.alloc (.cells #[x,y] t)).alloc (.cells #[u,v] t)).heap.size:=by
 have e:(w.alloc (.cells #[x,y] t)).heap.size=w.heap.size+1:=by simp
 refine⟨((Below.refl _ _).alloc (Nat.le_refl _) _).alloc (by simp) _,?_,?_,?_,?_,by simp⟩
 ·rw [World.cell?_alloc_lt _ _ _ (by simp)];simp
 ·rw [World.cell?_alloc_lt _ _ _ (by simp)];simp
 ·rw [← e];simp
 ·rw [← e];simp
theorem likeLog(S:List Int)(T:List (List Int))(so1 so2 qo1 qo2:Option Addr)(sc1 sc2 tc1 tc2:Nat)(f1 f2:At)(w:World)(hS:S.length≤1048576)(hT:T.length≤1048576)(hTT:∀i,i<T.length→(T.getD i []).length≤1048576)(h1:RdL w so1 qo1 S T f1)(h2:RdL w so2 qo2 S T f2) :
   Calls Tryz.prog 24 #[.agg #[.slice so1 S.length sc1,.slice qo1 T.length tc1],.agg #[.slice so2 S.length sc2,.slice qo2 T.length tc2]] w fun e w'=>e=.returned (.bool true)∧Below w.heap.size w w':=by
 have P0:Hid (_):=boxesL w (.slice so1 S.length sc1) (.slice qo1 T.length tc1) (.slice so2 S.length sc2) (.slice qo2 T.length tc2) 43;have H1:Hid (RdL w so1 qo1 S T f1):=h1;have H2:Hid (RdL w so2 qo2 S T f2):=h2;have HTT:Hid (∀i,i<T.length→(T.getD i []).length≤1048576):=hTT;have HQ:Hid (∀W:World,Below w.heap.size w W→Calls Tryz.prog 10 #[.slice so1 S.length sc1,.slice so2 S.length sc2] W fun e w'=>e=.returned (.bool true)∧Below W.heap.size W w'):=fun W hW=>likeB _ _ _ _ _ _ hS (h1.below hW).seen (h2.below hW).seen
 clear h1 h2 hTT;go_enter Tryz.func24,Tryz.ntmps24
 go_upto_region 1 with fail
 generalize (w.alloc (.cells #[.slice so1 S.length sc1,.slice qo1 T.length tc1] 43)).alloc (.cells #[.slice so2 S.length sc2,.slice qo2 T.length tc2] 43)=W0 at P0 ⊢;obtain⟨B0,x0,x1,y0,y1,hl⟩:=P0;go_wp2_with fail
 refine(HQ.out W0 B0).mono ?_;rintro e W1 ⟨rfl,hb1⟩;have HB1:Hid (Below w.heap.size w W1):=B0.trans (hb1.mono B0.size);have z1:=(hb1.cell (p:=⟨w.heap.size,1,none⟩) (show w.heap.size<W0.heap.size by omega)).trans x1;have z2:=(hb1.cell (p:=⟨w.heap.size+1,1,none⟩) hl).trans y1;have HZ:Hid (∀X:World,Below W1.heap.size W1 X→X.cell? ⟨w.heap.size,1,none⟩=some (.slice qo1 T.length tc1)∧X.cell? ⟨w.heap.size+1,1,none⟩=some (.slice qo2 T.length tc2)):=fun X hX=>⟨(hX.cell (p:=⟨w.heap.size,1,none⟩) (show w.heap.size<W1.heap.size by have:=hb1.size;omega)).trans z1,(hX.cell (p:=⟨w.heap.size+1,1,none⟩) (show w.heap.size+1<W1.heap.size by have:=hb1.size;omega)).trans z2⟩
 have HBR:Hid (Below W1.heap.size W1 W1):=Below.refl _ _;clear x0 x1 y0 y1 hb1 B0 hl HQ;go_wp2;go_loopw [5] (fun iv wr=>∃i:Nat,i≤T.length∧iv=.int .i64 i∧Hid (Below W1.heap.size W1 wr)) (fun iv _=>T.length-(intOf iv).toNat)
 case atStart=>exact⟨0,by omega,rfl,HBR⟩
 case round=>
   obtain⟨i,hi,rfl,HB⟩:=hrel;obtain⟨r1,r2⟩:=HZ.out wr HB.out;by_cases hil:i<T.length
   · have hii:(i:Int)<(T.length:Int):=by omega
     obtain⟨tb1,o1,rfl⟩:=told_at H1.out (by omega);obtain⟨tb2,o2,rfl⟩:=told_at H2.out (by omega);go_upto_region 6 with fail
     obtain⟨X,_,F,HF,HG⟩:=Fam.fam wr;have HBF:Hid (∀z,Below W1.heap.size W1 (F z)):=fun z=>HB.out.trans ((HF.out z).mono HB.out.size)
     have HBW:Hid (∀z,Below w.heap.size w (F z)):=fun z=>HB1.out.trans ((HBF.out z).mono HB1.out.size)
     have hb1:∀z,(F z).cell? ⟨w.heap.size,1,none⟩=some (.slice (some ⟨tb1,o1,none⟩) T.length tc1):=fun z=>(HZ.out _ (HBF.out z)).1
     have hb2:∀z,(F z).cell? ⟨w.heap.size+1,1,none⟩=some (.slice (some ⟨tb2,o2,none⟩) T.length tc2):=fun z=>(HZ.out _ (HBF.out z)).2
     have hc1:∀z,(F z).cell? ⟨tb1,o1+i,none⟩=some (.slice (f1 i).1 (T.getD i []).length (f1 i).2):=fun z=>told_cell (H1.out.below (HBW.out z)) i hil
     have hc2:∀z,(F z).cell? ⟨tb2,o2+i,none⟩=some (.slice (f2 i).1 (T.getD i []).length (f2 i).2):=fun z=>told_cell (H2.out.below (HBW.out z)) i hil
     have HQ:Hid (∀z,Calls Tryz.prog 10 #[.slice (f1 i).1 (T.getD i []).length (f1 i).2,.slice (f2 i).1 (T.getD i []).length (f2 i).2] (F z) fun e w'=>e=.returned (.bool true)∧Below (F z).heap.size (F z) w'):=fun z=>likeB _ _ _ _ _ _ (HTT.out i hil) ((H1.out.below (HBW.out z)).row i hil) ((H2.out.below (HBW.out z)).row i hil)
     clear HB r1 r2;generalize (T.getD i []).length=n at hc1 hc2 HQ;generalize (f1 i).1=a1 at hc1 HQ;generalize (f1 i).2=b1 at hc1 HQ;generalize (f2 i).1=a2 at hc2 HQ;generalize (f2 i).2=b2 at hc2 HQ;refine Fam.region (F:=F) (by kernel_rfl) (by kernel_rfl) (HG.out _ (Below.refl _ wr).drew) ?_
     repeat (go_big_quiet_step (first
       | (go_at_call 10;exact(HQ.out _).mono fun _ _ h=>⟨h.1,HG.out _ ((HF.out _).trans (h.2.mono (HF.out _).size))⟩)))
     refine wpQuiet_nil ?_;intro w2 hw2;obtain⟨z,rfl⟩:=hw2;have HB2:Hid (Below W1.heap.size W1 (F z)):=HBF.out z;go_wp2;go_roundw
     case rel=>exact⟨i+1,by omega,by go_num,HB2⟩
     case measure=>simp [intOf];omega
   · obtain rfl:i=T.length:=by omega
     have HE:Hid (Below w.heap.size w wr):=HB1.out.trans (HB.out.mono HB1.out.size);go_wp2;go_ret;exact⟨rfl,HE.out⟩
end Lg
end Go.Proofs.YtbkeldfbllhlbaaGreat
