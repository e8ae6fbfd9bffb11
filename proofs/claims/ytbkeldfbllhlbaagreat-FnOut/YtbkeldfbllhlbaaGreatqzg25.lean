/-
 The model's drawing of acts: where the drawing of one act and of the bad hand's keep their word, it hands back a list of acts in memory of its own; it changes the cursor alone.
 The model's drawing of a round: where the drawing of the bad hand's act keeps its word, it hands back a list of acts in memory of its own; it changes the cursor and the room alone.
-/
import Derived.Test.YtbkeldfbllhlbaaGreatqzg13
set_option linter.unusedVariables false
set_option maxRecDepth 100000
set_option maxHeartbeats 6400000
namespace Go.Proofs.YtbkeldfbllhlbaaGreat
open Go.RowKit
namespace Rm
open Kn (K okK in3)
open Lc (at' RdK laceB takesB flat OwnK CellsK cellsOf)
open Cur (At)
def DrawsBad:Prop:=∀(c:Nat) (a:Option Addr) (len cap:Nat) (ao:Option Addr) (cp:Nat) (L:List K) (co:Option Addr) (nc cc:Nat) (go:Option Addr) (nh hc:Nat) (bad:Int) (w:World),len≤4096→At c a len cap w→laceB L=true→RdK w ao L→(∀x,ao=some x→¬ x.block=c)→Calls Tryz.prog 177 #[.pointer (some ⟨c,0,none⟩),.agg #[.slice ao L.length cp,.slice co nc cc,.slice go nh hc,.int .i64 bad]] w (AcPost c a len cap w)
theorem infoA:(Tryz.prog.info? 166).map (fun i=>(i.zero,i.size,i.bytes))=some (some (.agg #[.int .i64 0,.int .i64 0,.int .i64 0,.int .i64 0,.int .i64 0,.string ⟨#[]⟩]),6,56):=by kernel_rfl
theorem new_acells(W:World)(x:Ac)(t:TypeId):∀(j:Nat) u,(acells x)[j]? = some u→(W.alloc (.cells #[.int .i64 x.kind,.int .i64 x.who,.int .i64 x.knot,.int .i64 x.round,.int .i64 x.frm,.string x.word] t)).cell? ((⟨W.heap.size,0,none⟩:Addr).add j)=some u:=by
 intro q u hq;match q,hq with
 | 0,hq=>simp [acells] at hq;subst hq;simp [Addr.add]
 | 1,hq=>simp [acells] at hq;subst hq;simp [Addr.add]
 | 2,hq=>simp [acells] at hq;subst hq;simp [Addr.add]
 | 3,hq=>simp [acells] at hq;subst hq;simp [Addr.add]
 | 4,hq=>simp [acells] at hq;subst hq;simp [Addr.add]
 | 5,hq=>simp [acells] at hq;subst hq;simp [Addr.add]
theorem own_nilA(w:World)(t:TypeId):(w.alloc (.cells #[] t)).ownsRow w.heap.size t 6 (.slice (some ⟨w.heap.size,0,none⟩) 0 0) 0 []:=by
 refine⟨rfl,.inr ⟨w.heap.size,0,#[],rfl,Nat.le_refl _,?_,Nat.le_refl _,by unfold maxLen;omega,rfl,rfl⟩⟩;show(w.heap.push _)[w.heap.size]? = _;rw [Array.getElem?_push_size]
structure RuSt(c:Nat)(a:Option Addr)(len cap:Nat)(w wr:World)(v:Value)(As:List Ac):Prop where
 at':At c a len cap wr
 fr:FrC c w wr
 acts:ActsAt w.heap.size wr v As
theorem ru_cur{c:Nat}{a:Option Addr}{len cap:Nat}{w wr w1:World}{v:Value}{As:List Ac}(s:RuSt c a len cap w wr v As)(hc:c<w.heap.size)(hA:At c a len cap w1)(hG:Fr (fun y=>y=c) wr w1):RuSt c a len cap w w1 v As:=
 ⟨hA,s.fr.trans hG (fun _ hx _=>hx),⟨own_fr hG s.acts.own (fun g hg e=>by have:=(World.ownsRow.lt s.acts.own g hg).1;omega),s.acts.ne,s.acts.sh⟩⟩
theorem ru_app{c:Nat}{a:Option Addr}{len cap:Nat}{w w1 w2:World}{v v':Value}{As:List Ac}{x:Ac}{o:Obj}(s:RuSt c a len cap w w1 v As)(hcb:CurB c a len w.heap.size)(hx:x.word.size≤13)(ho:w2.ownsRow w.heap.size 166 6 v' (As.length+1) (flatA As++acells x))(hg:(w1.alloc o).grownBy w2 v.ownBlock)(hn:¬ v'=.slice none 0 0):RuSt c a len cap w w2 v' (As++[x]):=by
 have hlt:=World.ownsRow.lt s.acts.own;have hf1:Fr (fun y=>v.ownBlock=some y) w1 w2:=(Fr.alloc _ w1 o).trans (Fr.of_own hg) (fun _ hx _=>hx);refine⟨at_belowB s.at' hcb (hf1.toBelow s.fr.size (fun y hy=>(hlt y hy).1)),s.fr.trans hf1 (fun y hy hl=>by have:=(hlt y hy).1;omega),⟨?_,hn,?_⟩⟩
 ·rw [flatA_snoc,List.length_append];exact ho
 ·intro y hy;rw [List.mem_append] at hy;rcases hy with hy | hy
  ·exact s.acts.sh y hy
  ·simp at hy;subst hy;exact hx
def RoundPost(c:Nat)(a:Option Addr)(len cap:Nat)(B p:Nat)(R:Ro)(w:World)(e:Ending)(w':World):Prop:=
 ∃v As R',e=.returned v∧ActsAt w.heap.size w' v As∧As.length≤300∧RoAt B w' p R'∧R'.gh=R.gh∧R'.cv=R.cv∧At c a len cap w'∧Fr (fun x=>x=c∨roS p R x) w w'∧∀g,R'.lv.ownBlock=some g→R.lv.ownBlock=some g∨w.heap.size≤g
structure RpSt(c:Nat)(a:Option Addr)(len cap:Nat)(B p:Nat)(R:Ro)(w wr:World)(g:Nat)(v:Value)(As:List Ac)(R':Ro):Prop where
 at':At c a len cap wr
 fr:Fr (fun x=>x=c∨roS p R x) w wr
 ro:RoAt B wr p R'
 gh:R'.gh=R.gh
 cv:R'.cv=R.cv
 acts:ActsAt w.heap.size wr v As
 gv:v.ownBlock=some g
 n3:R'.lv.ownBlock≠some g
 lvs:∀y,R'.lv.ownBlock=some y→R.lv.ownBlock=some y∨w.heap.size≤y
theorem rp_step{c:Nat}{a:Option Addr}{len cap:Nat}{B p:Nat}{R:Ro}{w wr w1:World}{g:Nat}{v:Value}{As:List Ac}{R':Ro}{xo:Out}{e:Ending}(s:RpSt c a len cap B p R w wr g v As R')(hcb:CurB c a len B)(hr:RoAt B w p R)(hd:DoPost B p R' xo wr e w1) :
  ∃(b:Bool) (R2:Ro),e=.returned (.bool b)∧RpSt c a len cap B p R w w1 g v As R2:=by
 obtain⟨R2,rfl,hro,hgh,hbad,hf,hlv⟩:=hd;have hBw:B≤w.heap.size:=Nat.le_trans hr.pB (Nat.le_of_lt hr.lt);have hgl:R.gh<w.heap.size:=(hr.parts.hands 0 (by omega)).lt;have hlt:=World.ownsRow.lt s.acts.own g s.gv;have hS:∀x,roS p R' x→B≤x:=fun x hx=>by
  rcases hx with rfl | rfl | h
  ·exact s.ro.pB
  ·exact s.ro.parts.gB
  ·exact(World.ownsRow.lt s.ro.parts.own x h).1
 refine⟨xo.done,R2,rfl,⟨at_belowB s.at' hcb (hf.toBelow (Nat.le_trans hBw s.fr.size) hS),s.fr.trans hf (fun x hx hl=>?_),hro,hgh.trans s.gh,hbad.2.1.trans s.cv,⟨own_fr hf s.acts.own (fun y hy hn=>?_),s.acts.ne,s.acts.sh⟩,s.gv,fun e=>?_,fun y hy=>?_⟩⟩
 ·rcases hx with h | h | h
  ·exact .inr (.inl h)
  ·exact .inr (.inr (.inl (h.trans s.gh)))
  ·rcases s.lvs x h with h' | h'
   ·exact .inr (.inr (.inr h'))
   ·omega
 ·have e:y=g:=by have:=s.gv;rw [hy] at this;injection this
  subst e;rcases hn with h | h | h
  ·have:=hr.lt;omega
  ·rw [s.gh] at h;omega
  ·exact s.n3 h
 ·rcases hlv g e with h | h
  ·exact s.n3 h
  ·omega
 ·rcases hlv y hy with h | h
  ·exact s.lvs y h
  ·have:=s.fr.size;exact .inr (by omega)
theorem l18DrawRound'(HB:DrawsBad)(c:Nat)(a:Option Addr)(len cap:Nat)(B p:Nat)(R:Ro)(w:World)(hl:len≤4096)(hc:At c a len cap w)(hcb:CurB c a len B)(hr:RoAt B w p R)(hcv:∃co n cc,R.cv=.slice co n cc) :
   Calls Tryz.prog 157 #[.pointer (some ⟨c,0,none⟩),.pointer (some ⟨p,0,none⟩)] w (RoundPost c a len cap B p R w):=by
 have hBw:B≤w.heap.size:=Nat.le_trans hr.pB (Nat.le_of_lt hr.lt);have hcw:CurB c a len w.heap.size:=hcb.mono hBw;obtain⟨i0,hi,hz0,hz1,hz2⟩:=info_parts infoA;obtain⟨co,nc,cc,hcv⟩:=hcv;have h60:=((Lc.lace_iff R.L).1 hr.parts.lace).1;have HRO : Hid (∀ X : World, FrC c w X → RoAt B X p R) := fun X hX => roat_fr hr hX (fun g hg e=>by
   have hcB:=hcb.1;rcases hg with h | h | h
   · have:=hr.pB;omega
   · have:=hr.parts.gB;omega
   · have:=(World.ownsRow.lt hr.parts.own g h).1;omega)
 have HBB:Hid DrawsBad:=HB;have HRR:Hid (RoAt B w p R):=hr;have HS0:Hid (RuSt c a len cap w (w.alloc (.cells #[] 166)) (.slice (some ⟨w.heap.size,0,none⟩) 0 0) []):=⟨at_belowB hc hcw ((Below.refl _ _).alloc (Nat.le_refl _) _),Fr.alloc _ _ _,⟨own_nilA w _,by simp,fun _ h=>by cases h⟩⟩
 clear HB hc;go_enter Tryz.func157,Tryz.ntmps157
 go_upto_region 2 with fail
 generalize w.alloc (.cells #[] 166)=W0 at HS0 ⊢;go_wp2_with fail
 go_loopw [5,6] (fun v h wr=>∃(k:Nat) (As:List Ac),k≤4∧h=.int .i64 k∧As.length≤60*k∧Hid (RuSt c a len cap w wr v As)) (fun _ h _=>4-(intOf h).toNat)
 case atStart=>exact⟨0,[],by omega,rfl,by simp,HS0.out⟩
 case round=>
   obtain⟨k,As,hk,rfl,hAl,HS⟩:=hrel;by_cases hk4:k<4
   · have hki:(k:Int)<4:=by omega
     go_wp2_with fail
     go_loopw [5,7] (fun v i w1=>∃(j:Nat) (As:List Ac),j≤R.L.length∧i=.int .i64 j∧As.length≤60*k+j∧Hid (RuSt c a len cap w w1 v As)) (fun _ i _=>R.L.length-(intOf i).toNat)
     case atStart=>exact⟨0,As,by omega,rfl,by omega,HS.out⟩
     case round=>
       obtain⟨j,As1,hj,rfl,hAl1,HS1⟩:=hrel;have hro:=HRO.out _ HS1.out.fr;obtain⟨ao,cp,hlv,_,_,_,hrd,_⟩:=own_lace hro.parts.own;have c0:=hro.c0;rw [hlv] at c0;by_cases hjl:j<R.L.length
       · have hji:(j:Int)<(R.L.length:Int):=by omega
         have c2:=hro.c2;have x1:=(hro.parts.hands k hk4).c1;have hh:=hro.parts.hok k hk4;have h0:=hh.h0;have h1:=hh.h1;clear hro hrd hlv hh
         cases hb:Bit.bit (R.hs k).has j
         · have HBb:Hid (Bit.bit (R.hs k).has j=false):=hb;clear hb;go_wp2_with (go_at_call 45;refine(Base.l1Has _ _ _ h0 h1 (by omega) (by omega)).mono ?_;rintro e w' ⟨rfl,rfl⟩;rw [Int.toNat_natCast,HBb.out])
           refine(Cur.once c a len cap 30 _ hl (by omega) HS1.out.at').mono ?_;rintro e w2 ⟨b,rfl,hA2,hG2⟩;have HS2:Hid (RuSt c a len cap w w2 u5 As1):=ru_cur HS1.out hcw.1 hA2 (Fr.of_grown hG2);clear hA2 hG2 HS1
           cases b
           · skip;go_wp2_with (at_builtin;refine wpList_append_own _ rfl _ _ 161 rfl w.heap.size 166 i0 (.agg #[.int .i64 0,.int .i64 0,.int .i64 0,.int .i64 0,.int .i64 0,.string ⟨#[]⟩]) 6 56 Tryz.underlying161 hi hz0 hz1 hz2 rfl (by decide) u5 As1.length (flatA As1) (by first | rfl | simp [Act.eval]) (HS2.out.acts.own.alloc _) ⟨w2.heap.size,0,none⟩ 1 1 (acells ⟨2,(k:Int),(j:Int),0,0,⟨#[]⟩⟩) (by first | rfl | simp [Act.eval]) rfl (new_acells w2 ⟨2,(k:Int),(j:Int),0,0,⟨#[]⟩⟩ _) (acells_one _) ?c3 ?c4 ?c5 ?_)
             case c3=>unfold maxLen;omega
             case c4=>omega
             case c5=>have:=HS2.out.fr.size;simp;omega
             intro v' wn hown' hgrow hnil;have HN:Hid (RuSt c a len cap w wn v' (As1++[⟨2,(k:Int),(j:Int),0,0,⟨#[]⟩⟩])):=ru_app HS2.out hcw (by show(ByteArray.mk #[]).size≤13;decide) hown' hgrow hnil;clear hown' hgrow hnil;go_wp2;go_roundw
             case rel=>exact⟨j+1,_,by omega,by go_num,by simp;omega,HN⟩
             case measure=>simp [intOf];omega
           · go_wp2;go_roundw
             case rel=>exact⟨j+1,As1,by omega,by go_num,by omega,HS2⟩
             case measure=>simp [intOf];omega
         · have HBb:Hid (Bit.bit (R.hs k).has j=true):=hb;clear hb;go_wp2_with (go_at_call 45;refine(Base.l1Has _ _ _ h0 h1 (by omega) (by omega)).mono ?_;rintro e w' ⟨rfl,rfl⟩;rw [Int.toNat_natCast,HBb.out])
           go_roundw
           case rel=>exact⟨j+1,As1,by omega,by go_num,by omega,HS1⟩
           case measure=>simp [intOf];omega
       · obtain rfl:j=R.L.length:=by omega
         have hjj:¬ (R.L.length:Int)<(R.L.length:Int):=by omega
         clear hro hrd hlv;go_wp2;go_roundw
         case rel=>exact⟨k+1,As1,by omega,by go_num,by omega,HS1⟩
         case measure=>simp [intOf];omega
   · obtain rfl:k=4:=by omega
     have hk44:¬ ((4:Nat):Int)<4:=by omega
     have hro:=HRO.out _ HS.out.fr;have c3:=hro.c3;by_cases hbad:0≤R.bad
     · go_wp2_with fail
       refine(Cur.once c a len cap 3 _ hl (by omega) HS.out.at').mono ?_;rintro e w1 ⟨b,rfl,hA1,hG1⟩;have HSa:Hid (RuSt c a len cap w w1 u5 As):=ru_cur HS.out hcw.1 hA1 (Fr.of_grown hG1);clear hA1 hG1 HS hro c3
       cases b
       · have hro1:=HRO.out _ HSa.out.fr;obtain⟨ao,cp,hlv,ho,hz,_,hrd,hlt⟩:=own_lace hro1.parts.own;have c0:=hro1.c0;have c1:=hro1.c1;have c2:=hro1.c2;have c3:=hro1.c3;rw [hlv] at c0;rw [hcv] at c1;have hnc:∀x,ao=some x→¬ x.block=c:=fun x hx e=>by
           have h1:=(hlt x.block (by rw [hlv,hx];rfl)).1;have h2:=hcb.1;omega
         go_wp2_with fail
         refine(HBB.out c a len cap ao cp R.L co nc cc (some ⟨R.gh,0,none⟩) 4 R.hc R.bad _ hl HSa.out.at' hro1.parts.lace hrd hnc).mono ?_;rintro e w2 ⟨x,rfl,hx13,hA2,hF2⟩;have HSb:Hid (RuSt c a len cap w w2 u5 As):=ru_cur HSa.out hcw.1 hA2 hF2;clear hA2 hF2 HSa hro1 hrd c0 c1 c2 c3 hlt;go_wp2_with (at_builtin;refine wpList_append_own _ rfl _ _ 161 rfl w.heap.size 166 i0 (.agg #[.int .i64 0,.int .i64 0,.int .i64 0,.int .i64 0,.int .i64 0,.string ⟨#[]⟩]) 6 56 Tryz.underlying161 hi hz0 hz1 hz2 rfl (by decide) u5 As.length (flatA As) (by first | rfl | simp [Act.eval]) (HSb.out.acts.own.alloc _) ⟨w2.heap.size,0,none⟩ 1 1 (acells x) (by first | rfl | simp [Act.eval]) rfl (new_acells w2 x _) (acells_one _) ?c3 ?c4 ?c5 ?_)
         case c3=>unfold maxLen;omega
         case c4=>omega
         case c5=>have:=HSb.out.fr.size;simp;omega
         intro v' wn hown' hgrow hnil;have HN:Hid (RuSt c a len cap w wn v' (As++[x])):=ru_app HSb.out hcw hx13 hown' hgrow hnil;clear hown' hgrow hnil;go_wp2_with fail
         go_loopw [5,8] (fun v h w3=>∃(q:Nat) (As:List Ac),q≤4∧h=.int .i64 q∧As.length≤241+q∧Hid (RuSt c a len cap w w3 v As)) (fun _ h _=>4-(intOf h).toNat)
         case atStart=>exact⟨0,_,by omega,rfl,by first | omega | (simp;omega),HN.out⟩
         case round=>
           obtain⟨q,As3,hq,rfl,hAl3,HS3⟩:=hrel;by_cases hq4:q<4
           · have hqi:(q:Int)<4:=by omega
             go_wp2_with fail
             refine(Cur.once c a len cap 12 _ hl (by omega) HS3.out.at').mono ?_;rintro e w4 ⟨b,rfl,hA4,hG4⟩;have HS4:Hid (RuSt c a len cap w w4 u5 As3):=ru_cur HS3.out hcw.1 hA4 (Fr.of_grown hG4);clear hA4 hG4 HS3
             cases b
             · go_wp2_with fail
               refine(Kn.drawWord c a len cap _ hl HS4.out.at').mono ?_;rintro e w5 ⟨s,rfl,hs13,hA5,hG5⟩;have HS5:Hid (RuSt c a len cap w w5 u5 As3):=ru_cur HS4.out hcw.1 hA5 (Fr.of_grown hG5);clear hA5 hG5 HS4;go_wp2_with (at_builtin;refine wpList_append_own _ rfl _ _ 161 rfl w.heap.size 166 i0 (.agg #[.int .i64 0,.int .i64 0,.int .i64 0,.int .i64 0,.int .i64 0,.string ⟨#[]⟩]) 6 56 Tryz.underlying161 hi hz0 hz1 hz2 rfl (by decide) u5 As3.length (flatA As3) (by first | rfl | simp [Act.eval]) (HS5.out.acts.own.alloc _) ⟨w5.heap.size,0,none⟩ 1 1 (acells ⟨1,(q:Int),0,0,0,s⟩) (by first | rfl | simp [Act.eval]) rfl (new_acells w5 ⟨1,(q:Int),0,0,0,s⟩ _) (acells_one _) ?c3 ?c4 ?c5 ?_)
               case c3=>unfold maxLen;omega
               case c4=>omega
               case c5=>have:=HS5.out.fr.size;simp;omega
               intro v' wn hown' hgrow hnil;have HN:Hid (RuSt c a len cap w wn v' (As3++[⟨1,(q:Int),0,0,0,s⟩])):=ru_app HS5.out hcw hs13 hown' hgrow hnil;clear hown' hgrow hnil;go_wp2;go_roundw
               case rel=>exact⟨q+1,_,by omega,by go_num,by simp;omega,HN⟩
               case measure=>simp [intOf];omega
             · go_wp2;go_roundw
               case rel=>exact⟨q+1,As3,by omega,by go_num,by omega,HS4⟩
               case measure=>simp [intOf];omega
           · obtain rfl:q=4:=by omega
             have hq44:¬ ((4:Nat):Int)<4:=by omega
             obtain⟨g,gc,hv,hWg,hgl⟩:=acts_shape HS3.out.acts;generalize u5=vv at HS3 hv ⊢;subst hv;have HP0:Hid (RpSt c a len cap B p R w wr g (.slice (some ⟨g,0,none⟩) As3.length gc) As3 R):=⟨HS3.out.at',HS3.out.fr.mono (fun x hx _=>.inl hx),HRO.out _ HS3.out.fr,rfl,rfl,HS3.out.acts,rfl,fun e=>by have:=(World.ownsRow.lt HRR.out.parts.own g e).2;omega,fun y hy=>.inl hy⟩
             have HSH:Hid (Short As3):=HS3.out.acts.sh;clear HS3;go_wp2_with fail
             go_loopw [9] (fun i w6=>∃(j:Nat) (R':Ro),j≤As3.length∧i=.int .i64 j∧Hid (RpSt c a len cap B p R w w6 g (.slice (some ⟨g,0,none⟩) As3.length gc) As3 R')) (fun i _=>As3.length-(intOf i).toNat)
             case atStart=>exact⟨0,R,by omega,rfl,HP0.out⟩
             case round=>
               obtain⟨j,R',hj,rfl,HP⟩:=hrel;by_cases hjl:j<As3.length
               · have hji:(j:Int)<(As3.length:Int):=by omega
                 obtain⟨e0,e1,e2,e3,e4,e5⟩:=acts_cell HP.out.acts.own j hjl;have hsh:=short_at HSH.out j;generalize As3.getD j zeroA=x at e0 e1 e2 e3 e4 e5 hsh;go_wp2_with fail
                 refine(l18Do B p R' x _ HP.out.ro (by omega)).mono ?_;intro e w7 hd;obtain⟨b,R2,rfl,h1⟩:=rp_step HP.out hcb HRR.out hd;have HP7:Hid (RpSt c a len cap B p R w w7 g (.slice (some ⟨g,0,none⟩) As3.length gc) As3 R2):=h1;clear hd h1 HP;go_wp2;go_roundw
                 case rel=>exact⟨j+1,R2,by omega,by go_num,HP7⟩
                 case measure=>simp [intOf];omega
               · obtain rfl:j=As3.length:=by omega
                 have hjj:¬ (As3.length:Int)<(As3.length:Int):=by omega
                 go_wp2;go_ret;exact⟨_,As3,R',rfl,HP.out.acts,by omega,HP.out.ro,HP.out.gh,HP.out.cv,HP.out.at',HP.out.fr,HP.out.lvs⟩
       · skip;go_wp2_with fail
         go_loopw [5,8] (fun v h w3=>∃(q:Nat) (As:List Ac),q≤4∧h=.int .i64 q∧As.length≤241+q∧Hid (RuSt c a len cap w w3 v As)) (fun _ h _=>4-(intOf h).toNat)
         case atStart=>exact⟨0,_,by omega,rfl,by first | omega | (simp;omega),HSa.out⟩
         case round=>
           obtain⟨q,As3,hq,rfl,hAl3,HS3⟩:=hrel;by_cases hq4:q<4
           · have hqi:(q:Int)<4:=by omega
             go_wp2_with fail
             refine(Cur.once c a len cap 12 _ hl (by omega) HS3.out.at').mono ?_;rintro e w4 ⟨b,rfl,hA4,hG4⟩;have HS4:Hid (RuSt c a len cap w w4 u5 As3):=ru_cur HS3.out hcw.1 hA4 (Fr.of_grown hG4);clear hA4 hG4 HS3
             cases b
             · go_wp2_with fail
               refine(Kn.drawWord c a len cap _ hl HS4.out.at').mono ?_;rintro e w5 ⟨s,rfl,hs13,hA5,hG5⟩;have HS5:Hid (RuSt c a len cap w w5 u5 As3):=ru_cur HS4.out hcw.1 hA5 (Fr.of_grown hG5);clear hA5 hG5 HS4;go_wp2_with (at_builtin;refine wpList_append_own _ rfl _ _ 161 rfl w.heap.size 166 i0 (.agg #[.int .i64 0,.int .i64 0,.int .i64 0,.int .i64 0,.int .i64 0,.string ⟨#[]⟩]) 6 56 Tryz.underlying161 hi hz0 hz1 hz2 rfl (by decide) u5 As3.length (flatA As3) (by first | rfl | simp [Act.eval]) (HS5.out.acts.own.alloc _) ⟨w5.heap.size,0,none⟩ 1 1 (acells ⟨1,(q:Int),0,0,0,s⟩) (by first | rfl | simp [Act.eval]) rfl (new_acells w5 ⟨1,(q:Int),0,0,0,s⟩ _) (acells_one _) ?c3 ?c4 ?c5 ?_)
               case c3=>unfold maxLen;omega
               case c4=>omega
               case c5=>have:=HS5.out.fr.size;simp;omega
               intro v' wn hown' hgrow hnil;have HN:Hid (RuSt c a len cap w wn v' (As3++[⟨1,(q:Int),0,0,0,s⟩])):=ru_app HS5.out hcw hs13 hown' hgrow hnil;clear hown' hgrow hnil;go_wp2;go_roundw
               case rel=>exact⟨q+1,_,by omega,by go_num,by simp;omega,HN⟩
               case measure=>simp [intOf];omega
             · go_wp2;go_roundw
               case rel=>exact⟨q+1,As3,by omega,by go_num,by omega,HS4⟩
               case measure=>simp [intOf];omega
           · obtain rfl:q=4:=by omega
             have hq44:¬ ((4:Nat):Int)<4:=by omega
             obtain⟨g,gc,hv,hWg,hgl⟩:=acts_shape HS3.out.acts;generalize u5=vv at HS3 hv ⊢;subst hv;have HP0:Hid (RpSt c a len cap B p R w wr g (.slice (some ⟨g,0,none⟩) As3.length gc) As3 R):=⟨HS3.out.at',HS3.out.fr.mono (fun x hx _=>.inl hx),HRO.out _ HS3.out.fr,rfl,rfl,HS3.out.acts,rfl,fun e=>by have:=(World.ownsRow.lt HRR.out.parts.own g e).2;omega,fun y hy=>.inl hy⟩
             have HSH:Hid (Short As3):=HS3.out.acts.sh;clear HS3;go_wp2_with fail
             go_loopw [9] (fun i w6=>∃(j:Nat) (R':Ro),j≤As3.length∧i=.int .i64 j∧Hid (RpSt c a len cap B p R w w6 g (.slice (some ⟨g,0,none⟩) As3.length gc) As3 R')) (fun i _=>As3.length-(intOf i).toNat)
             case atStart=>exact⟨0,R,by omega,rfl,HP0.out⟩
             case round=>
               obtain⟨j,R',hj,rfl,HP⟩:=hrel;by_cases hjl:j<As3.length
               · have hji:(j:Int)<(As3.length:Int):=by omega
                 obtain⟨e0,e1,e2,e3,e4,e5⟩:=acts_cell HP.out.acts.own j hjl;have hsh:=short_at HSH.out j;generalize As3.getD j zeroA=x at e0 e1 e2 e3 e4 e5 hsh;go_wp2_with fail
                 refine(l18Do B p R' x _ HP.out.ro (by omega)).mono ?_;intro e w7 hd;obtain⟨b,R2,rfl,h1⟩:=rp_step HP.out hcb HRR.out hd;have HP7:Hid (RpSt c a len cap B p R w w7 g (.slice (some ⟨g,0,none⟩) As3.length gc) As3 R2):=h1;clear hd h1 HP;go_wp2;go_roundw
                 case rel=>exact⟨j+1,R2,by omega,by go_num,HP7⟩
                 case measure=>simp [intOf];omega
               · obtain rfl:j=As3.length:=by omega
                 have hjj:¬ (As3.length:Int)<(As3.length:Int):=by omega
                 go_wp2;go_ret;exact⟨_,As3,R',rfl,HP.out.acts,by omega,HP.out.ro,HP.out.gh,HP.out.cv,HP.out.at',HP.out.fr,HP.out.lvs⟩
     · have hbad':¬ 0≤R.bad:=hbad;clear hro;go_wp2_with fail
       go_loopw [5,8] (fun v h w3=>∃(q:Nat) (As:List Ac),q≤4∧h=.int .i64 q∧As.length≤241+q∧Hid (RuSt c a len cap w w3 v As)) (fun _ h _=>4-(intOf h).toNat)
       case atStart=>exact⟨0,_,by omega,rfl,by first | omega | (simp;omega),HS.out⟩
       case round=>
         obtain⟨q,As3,hq,rfl,hAl3,HS3⟩:=hrel;by_cases hq4:q<4
         · have hqi:(q:Int)<4:=by omega
           go_wp2_with fail
           refine(Cur.once c a len cap 12 _ hl (by omega) HS3.out.at').mono ?_;rintro e w4 ⟨b,rfl,hA4,hG4⟩;have HS4:Hid (RuSt c a len cap w w4 u5 As3):=ru_cur HS3.out hcw.1 hA4 (Fr.of_grown hG4);clear hA4 hG4 HS3
           cases b
           · go_wp2_with fail
             refine(Kn.drawWord c a len cap _ hl HS4.out.at').mono ?_;rintro e w5 ⟨s,rfl,hs13,hA5,hG5⟩;have HS5:Hid (RuSt c a len cap w w5 u5 As3):=ru_cur HS4.out hcw.1 hA5 (Fr.of_grown hG5);clear hA5 hG5 HS4;go_wp2_with (at_builtin;refine wpList_append_own _ rfl _ _ 161 rfl w.heap.size 166 i0 (.agg #[.int .i64 0,.int .i64 0,.int .i64 0,.int .i64 0,.int .i64 0,.string ⟨#[]⟩]) 6 56 Tryz.underlying161 hi hz0 hz1 hz2 rfl (by decide) u5 As3.length (flatA As3) (by first | rfl | simp [Act.eval]) (HS5.out.acts.own.alloc _) ⟨w5.heap.size,0,none⟩ 1 1 (acells ⟨1,(q:Int),0,0,0,s⟩) (by first | rfl | simp [Act.eval]) rfl (new_acells w5 ⟨1,(q:Int),0,0,0,s⟩ _) (acells_one _) ?c3 ?c4 ?c5 ?_)
             case c3=>unfold maxLen;omega
             case c4=>omega
             case c5=>have:=HS5.out.fr.size;simp;omega
             intro v' wn hown' hgrow hnil;have HN:Hid (RuSt c a len cap w wn v' (As3++[⟨1,(q:Int),0,0,0,s⟩])):=ru_app HS5.out hcw hs13 hown' hgrow hnil;clear hown' hgrow hnil;go_wp2;go_roundw
             case rel=>exact⟨q+1,_,by omega,by go_num,by simp;omega,HN⟩
             case measure=>simp [intOf];omega
           · go_wp2;go_roundw
             case rel=>exact⟨q+1,As3,by omega,by go_num,by omega,HS4⟩
             case measure=>simp [intOf];omega
         · obtain rfl:q=4:=by omega
           have hq44:¬ ((4:Nat):Int)<4:=by omega
           obtain⟨g,gc,hv,hWg,hgl⟩:=acts_shape HS3.out.acts;generalize u5=vv at HS3 hv ⊢;subst hv;have HP0:Hid (RpSt c a len cap B p R w wr g (.slice (some ⟨g,0,none⟩) As3.length gc) As3 R):=⟨HS3.out.at',HS3.out.fr.mono (fun x hx _=>.inl hx),HRO.out _ HS3.out.fr,rfl,rfl,HS3.out.acts,rfl,fun e=>by have:=(World.ownsRow.lt HRR.out.parts.own g e).2;omega,fun y hy=>.inl hy⟩
           have HSH:Hid (Short As3):=HS3.out.acts.sh;clear HS3;go_wp2_with fail
           go_loopw [9] (fun i w6=>∃(j:Nat) (R':Ro),j≤As3.length∧i=.int .i64 j∧Hid (RpSt c a len cap B p R w w6 g (.slice (some ⟨g,0,none⟩) As3.length gc) As3 R')) (fun i _=>As3.length-(intOf i).toNat)
           case atStart=>exact⟨0,R,by omega,rfl,HP0.out⟩
           case round=>
             obtain⟨j,R',hj,rfl,HP⟩:=hrel;by_cases hjl:j<As3.length
             · have hji:(j:Int)<(As3.length:Int):=by omega
               obtain⟨e0,e1,e2,e3,e4,e5⟩:=acts_cell HP.out.acts.own j hjl;have hsh:=short_at HSH.out j;generalize As3.getD j zeroA=x at e0 e1 e2 e3 e4 e5 hsh;go_wp2_with fail
               refine(l18Do B p R' x _ HP.out.ro (by omega)).mono ?_;intro e w7 hd;obtain⟨b,R2,rfl,h1⟩:=rp_step HP.out hcb HRR.out hd;have HP7:Hid (RpSt c a len cap B p R w w7 g (.slice (some ⟨g,0,none⟩) As3.length gc) As3 R2):=h1;clear hd h1 HP;go_wp2;go_roundw
               case rel=>exact⟨j+1,R2,by omega,by go_num,HP7⟩
               case measure=>simp [intOf];omega
             · obtain rfl:j=As3.length:=by omega
               have hjj:¬ (As3.length:Int)<(As3.length:Int):=by omega
               go_wp2;go_ret;exact⟨_,As3,R',rfl,HP.out.acts,by omega,HP.out.ro,HP.out.gh,HP.out.cv,HP.out.at',HP.out.fr,HP.out.lvs⟩
end Rm
namespace Rm
open Kn (K okK in3)
open Lc (at' RdK laceB takesB flat OwnK CellsK cellsOf)
open Cur (At)
def DrawsAct:Prop:=∀(c:Nat) (a:Option Addr) (len cap:Nat) (B:Nat) (R:Ro) (w:World),len≤4096→At c a len cap w→CurB c a len B→Parts B w R→(∃co n cc,R.cv=.slice co n cc)→Calls Tryz.prog 158 #[.pointer (some ⟨c,0,none⟩),roV R] w (AcPost c a len cap w)
structure DaSt(c:Nat)(a:Option Addr)(len cap:Nat)(w wr:World)(v:Value)(As:List Ac)(R:Ro):Prop where
 at':At c a len cap wr
 fr:FrC c w wr
 ro:RoAt w.heap.size wr w.heap.size R
 acts:ActsAt w.heap.size wr v As
 nn:∀g,v.ownBlock=some g→¬ roS w.heap.size R g
 sv:∃co n cc,R.cv=.slice co n cc
theorem da_cur{c:Nat}{a:Option Addr}{len cap:Nat}{w wr w1:World}{v:Value}{As:List Ac}{R:Ro}(s:DaSt c a len cap w wr v As R)(hc:c<w.heap.size)(hA:At c a len cap w1)(hG:Fr (fun y=>y=c) wr w1):DaSt c a len cap w w1 v As R:=by
 have hne:∀g,roS w.heap.size R g→¬ g=c:=fun g hg e=>by
  rcases hg with h | h | h
  ·omega
  ·have:=s.ro.parts.gB;omega
  ·have:=(World.ownsRow.lt s.ro.parts.own g h).1;omega
 exact⟨hA,s.fr.trans hG (fun _ hx _=>hx),roat_fr s.ro hG hne,⟨own_fr hG s.acts.own (fun g hg e=>by have:=(World.ownsRow.lt s.acts.own g hg).1;omega),s.acts.ne,s.acts.sh⟩,s.nn,s.sv⟩
theorem da_below{c:Nat}{a:Option Addr}{len cap:Nat}{w wr w1:World}{v:Value}{As:List Ac}{R:Ro}(s:DaSt c a len cap w wr v As R)(hcb:CurB c a len w.heap.size)(hb:Below wr.heap.size wr w1):DaSt c a len cap w w1 v As R:=
 ⟨at_belowB s.at' hcb (hb.mono s.fr.size),s.fr.trans (Fr.of_below hb (fun _=>False)) (fun _ hx _=>hx.elim),roat_below s.ro hb,⟨own_below s.acts.own hb,s.acts.ne,s.acts.sh⟩,s.nn,s.sv⟩
theorem da_app{c:Nat}{a:Option Addr}{len cap:Nat}{w w1 w2:World}{v v':Value}{As Bs:List Ac}{R:Ro}(s:DaSt c a len cap w w1 v As R)(hcb:CurB c a len w.heap.size)(hx:Short Bs)(ho:w2.ownsRow w.heap.size 166 6 v' (As.length+Bs.length) (flatA As++flatA Bs))(hg:w1.grownBy w2 v.ownBlock)(hn:¬ v'=.slice none 0 0)(hat:v'.ownBlock=v.ownBlock∨v'.ownBlock=some w1.heap.size):DaSt c a len cap w w2 v' (As++Bs) R:=by
 have hlt:=World.ownsRow.lt s.acts.own;have hf1:Fr (fun y=>v.ownBlock=some y) w1 w2:=Fr.of_own hg;have hro:∀g,roS w.heap.size R g→g<w1.heap.size:=fun g hg=>by
  rcases hg with h | h | h
  ·subst h;exact s.ro.lt
  ·subst h;exact(s.ro.parts.hands 0 (by omega)).lt
  ·exact(World.ownsRow.lt s.ro.parts.own g h).2
 refine⟨at_belowB s.at' hcb (hf1.toBelow s.fr.size (fun y hy=>(hlt y hy).1)),s.fr.trans hf1 (fun y hy hl=>by have:=(hlt y hy).1;omega),roat_fr s.ro hf1 (fun g hg e=>s.nn g e hg),⟨?_,hn,?_⟩,fun g hg hs=>?_,s.sv⟩
 ·rw [flatA_app,List.length_append];exact ho
 ·intro y hy;rw [List.mem_append] at hy;exact hy.elim (s.acts.sh y) (hx y)
 ·rcases hat with h | h
  ·exact s.nn g (h ▸ hg) hs
  ·rw [h] at hg;injection hg with hg;have:=hro g hs;omega
theorem da_do{c:Nat}{a:Option Addr}{len cap:Nat}{w wr w1:World}{v:Value}{As:List Ac}{R:Ro}{xo:Out}{e:Ending}(s:DaSt c a len cap w wr v As R)(hcb:CurB c a len w.heap.size)(hd:DoPost w.heap.size w.heap.size R xo wr e w1) :
  ∃(b:Bool) (R2:Ro),e=.returned (.bool b)∧DaSt c a len cap w w1 v As R2:=by
 obtain⟨R2,rfl,hro,hgh,hbad,hf,hlv⟩:=hd;have hS:∀x,roS w.heap.size R x→w.heap.size≤x:=fun x hx=>by
  rcases hx with h | h | h
  ·omega
  ·have:=s.ro.parts.gB;omega
  ·exact(World.ownsRow.lt s.ro.parts.own x h).1
 have hlt:=World.ownsRow.lt s.acts.own;refine⟨xo.done,R2,rfl,⟨at_belowB s.at' hcb (hf.toBelow s.fr.size hS),s.fr.trans hf (fun x hx hl=>by have:=hS x hx;omega),hro,⟨own_fr hf s.acts.own (fun g hg=>s.nn g hg),s.acts.ne,s.acts.sh⟩,fun g hg hs=>?_,by rw [hbad.2.1];exact s.sv⟩⟩;rcases hs with h | h | h
 ·exact s.nn g hg (.inl h)
 ·exact s.nn g hg (.inr (.inl (h.trans hgh)))
 ·rcases hlv g h with h' | h'
  ·exact s.nn g hg (.inr (.inr h'))
  ·have:=(hlt g hg).2;omega
theorem da_round{c:Nat}{a:Option Addr}{len cap:Nat}{w wr w1:World}{v:Value}{As:List Ac}{R R2:Ro}(s:DaSt c a len cap w wr v As R)(hc:c<w.heap.size)(hA:At c a len cap w1)(hro:RoAt w.heap.size w1 w.heap.size R2)(hgh:R2.gh=R.gh)(hcv:R2.cv=R.cv)(hf:Fr (fun x=>x=c∨roS w.heap.size R x) wr w1)(hlv:∀g,R2.lv.ownBlock=some g→R.lv.ownBlock=some g∨wr.heap.size≤g):DaSt c a len cap w w1 v As R2:=by
 have hS:∀x,roS w.heap.size R x→w.heap.size≤x:=fun x hx=>by
  rcases hx with h | h | h
  ·omega
  ·have:=s.ro.parts.gB;omega
  ·exact(World.ownsRow.lt s.ro.parts.own x h).1
 have hlt:=World.ownsRow.lt s.acts.own;refine⟨hA,s.fr.trans hf (fun x hx hl=>hx.elim id (fun h=>by have:=hS x h;omega)),hro,⟨own_fr hf s.acts.own (fun g hg hs=>hs.elim (fun e=>by have:=(hlt g hg).1;omega) (s.nn g hg)),s.acts.ne,s.acts.sh⟩,fun g hg hs=>?_,by rw [hcv];exact s.sv⟩;rcases hs with h | h | h
 ·exact s.nn g hg (.inl h)
 ·exact s.nn g hg (.inr (.inl (h.trans hgh)))
 ·rcases hlv g h with h' | h'
  ·exact s.nn g hg (.inr (.inr h'))
  ·have:=(hlt g hg).2;omega
theorem rd_acts{B g cap:Nat}{w:World}{As:List Ac}(h:w.ownsRow B 166 6 (.slice (some ⟨g,0,none⟩) As.length cap) As.length (flatA As)):∀(j:Nat) u,(flatA As)[j]? = some u→w.cell? ((⟨g,0,none⟩:Addr).add j)=some u:=World.ownsRow.cells h rfl
theorem l18DrawActs'(HB:DrawsBad)(HT:DrawsAct):DrawsActs:=by
 intro c a len cap B R most w hl hm0 hmost hc hR hcB;have hcw:=curB_of hc;obtain⟨i0,hi,hz0,hz1,hz2⟩:=info_parts infoA;have HBB:Hid DrawsBad:=HB;have HTT:Hid DrawsAct:=HT;obtain⟨co,cc,lc,hcv,_⟩:=hR.coins;have HV:Hid (roV R=.agg #[.slice none 0 0,.slice co lc.length cc,.slice (some ⟨R.gh,0,none⟩) 4 R.hc,.int .i64 R.bad]):=by show _=_;unfold roV;rw [hR.lv,hcv]
 have P0:Hid (Below w.heap.size w ((w.alloc (.cells #[.slice none 0 0,.slice co lc.length cc,.slice (some ⟨R.gh,0,none⟩) 4 R.hc,.int .i64 R.bad] 137)).alloc (.cells #[] 166))∧Q4 ((w.alloc (.cells #[.slice none 0 0,.slice co lc.length cc,.slice (some ⟨R.gh,0,none⟩) 4 R.hc,.int .i64 R.bad] 137)).alloc (.cells #[] 166)) w.heap.size (.slice none 0 0) (.slice co lc.length cc) (.slice (some ⟨R.gh,0,none⟩) 4 R.hc) (.int .i64 R.bad)∧((w.alloc (.cells #[.slice none 0 0,.slice co lc.length cc,.slice (some ⟨R.gh,0,none⟩) 4 R.hc,.int .i64 R.bad] 137)).alloc (.cells #[] 166)).ownsRow (w.heap.size+1) 166 6 (.slice (some ⟨w.heap.size+1,0,none⟩) 0 0) 0 []):=by
  refine⟨((Below.refl _ w).alloc (Nat.le_refl _) _).alloc (by simp) _,q4_below (q4_new w _ _ _ _ _) ((Below.refl _ _).alloc (Nat.le_refl _) _),?_⟩;have:=own_nilA (w.alloc (.cells #[.slice none 0 0,.slice co lc.length cc,.slice (some ⟨R.gh,0,none⟩) 4 R.hc,.int .i64 R.bad] 137)) 166;rw [World.size_alloc] at this;exact this
 rw [HV.out];clear HB HT;go_enter Tryz.func139,Tryz.ntmps139
 go_upto_region 2 with fail
 generalize (w.alloc (.cells #[.slice none 0 0,.slice co lc.length cc,.slice (some ⟨R.gh,0,none⟩) 4 R.hc,.int .i64 R.bad] 137)).alloc (.cells #[] 166)=W at P0 ⊢;have hRW:NewR B W R:=newR_fr hR (Fr.of_below P0.out.1 (fun _=>False)) (fun h=>h) (fun _ _ h=>h);obtain⟨hbl,s0,s1,s2,s3,f0,f1,f2,f3⟩:=P0.out.2.1;have hcall:=l18Copy B R W hRW.parts hRW.coins;rw [HV.out] at hcall;go_wp2_with fail
 refine hcall.mono ?_;rintro e w1 ⟨R2,rfl,hp2,hbad2,⟨co2,n2,cc2,hcv2⟩,⟨ao2,na2,ca2,hlv2⟩,hb1⟩;clear hbad2;have HV2:Hid (roV R2=.agg #[.slice ao2 na2 ca2,.slice co2 n2 cc2,.slice (some ⟨R2.gh,0,none⟩) 4 R2.hc,.int .i64 R2.bad]):=by show _=_;unfold roV;rw [hlv2,hcv2]
 have hQ1:=q4_below P0.out.2.1 hb1;have HS1:Hid (DaSt c a len cap w (qset w1 w.heap.size (.slice ao2 na2 ca2) (.slice co2 n2 cc2) (.slice (some ⟨R2.gh,0,none⟩) 4 R2.hc) (.int .i64 R2.bad)) (.slice (some ⟨w.heap.size+1,0,none⟩) 0 0) [] R2):=by
  have hq:=qset_fr w1 w.heap.size (.slice ao2 na2 ca2) (.slice co2 n2 cc2) (.slice (some ⟨R2.gh,0,none⟩) 4 R2.hc) (.int .i64 R2.bad);have qq:=q4_put hQ1 (.slice ao2 na2 ca2) (.slice co2 n2 cc2) (.slice (some ⟨R2.gh,0,none⟩) 4 R2.hc) (.int .i64 R2.bad);have hBw:=P0.out.1.trans (hb1.mono P0.out.1.size);have hgB:=hp2.gB;have hWl:w.heap.size+1<W.heap.size:=(World.ownsRow.lt P0.out.2.2 _ rfl).2;have hlo:∀y,R2.lv.ownBlock=some y→W.heap.size≤y:=fun y hy=>(World.ownsRow.lt hp2.own y hy).1
  have hpq:=parts_base (parts_fr hp2 hq (fun e=>by have e':R2.gh=w.heap.size:=e;omega) (fun y hy e=>by have:=hlo y hy;omega)) (show w.heap.size≤W.heap.size by omega);refine⟨at_belowB hc hcw (hBw.trans (hq.toBelow hBw.size (fun x hx=>by omega))),(Fr.of_below hBw (fun x=>x=c)).trans hq (fun x hx hl=>by omega),⟨qq.lt,Nat.le_refl _,by rw [hlv2];exact qq.c0,by rw [hcv2];exact qq.c1,qq.c2,qq.c3,qq.f0,hpq,by omega,fun e=>by have:=hlo _ e;omega⟩,⟨own_baseT (own_fr hq (own_below P0.out.2.2 hb1) (fun y hy e=>by simp [Value.ownBlock] at hy;omega)) (Nat.le_succ _),by simp,fun _ h=>by cases h⟩,fun y hy hs=>?_,⟨co2,n2,cc2,hcv2⟩⟩;simp [Value.ownBlock] at hy;rcases hs with h | h | h
  ·omega
  ·omega
  ·have:=hlo y h;omega
 rw [HV2.out];obtain⟨_,t0,t1,t2,t3,k0,k1,k2,k3⟩:=hQ1;go_upto_region 3 with fail
 have HS1':DaSt c a len cap w ((((w1.setCell ⟨w.heap.size,0,none⟩ (.slice ao2 na2 ca2)).setCell ⟨w.heap.size,1,none⟩ (.slice co2 n2 cc2)).setCell ⟨w.heap.size,2,none⟩ (.slice (some ⟨R2.gh,0,none⟩) 4 R2.hc)).setCell ⟨w.heap.size,3,none⟩ (.int .i64 R2.bad)) (.slice (some ⟨w.heap.size+1,0,none⟩) 0 0) [] R2:=HS1.out;have HS2:Hid _:=HS1';clear HS1 HS1' hcall hp2 hcv2 hlv2 hb1 HV2 HV t0 t1 t2 t3 k0 k1 k2 k3 s0 s1 s2 s3 f0 f1 f2 f3 hRW hR P0 hcv hbl;generalize (((w1.setCell ⟨w.heap.size,0,none⟩ (.slice ao2 na2 ca2)).setCell ⟨w.heap.size,1,none⟩ (.slice co2 n2 cc2)).setCell ⟨w.heap.size,2,none⟩ (.slice (some ⟨R2.gh,0,none⟩) 4 R2.hc)).setCell ⟨w.heap.size,3,none⟩ (.int .i64 R2.bad)=W2 at HS2 ⊢;go_wp2_with fail
 refine(Cur.below c a len cap most _ hl (by omega) HS2.out.at').mono ?_;rintro e w2 ⟨x,rfl,hx0,hx1,hA2,hG2⟩;have hx2:=hx1 hm0;have HS3:Hid (DaSt c a len cap w w2 (.slice (some ⟨w.heap.size+1,0,none⟩) 0 0) [] R2):=da_cur HS2.out hcw.1 hA2 (Fr.of_grown hG2);clear hA2 hG2 hx1 HS2;go_wp2_with fail
 go_loopw [7,8] (fun v n wr=>∃(m:Nat) (As:List Ac) (R':Ro),n=.int .i64 m∧m≤60∧As.length≤301*(60-m)∧Hid (DaSt c a len cap w wr v As R')) (fun _ n _=>(intOf n).toNat)
 case atStart=>
  obtain⟨m,rfl⟩:=Int.eq_ofNat_of_zero_le hx0;exact⟨m,[],R2,rfl,by omega,by simp,HS3.out⟩
 case round=>
  obtain⟨m,As,R',rfl,hm60,hAl,HS⟩:=hrel;by_cases hm:0<m
  ·have hmi:(0:Int)<(m:Int):=by omega
   go_wp2_with fail
   refine(Cur.once c a len cap 6 _ hl (by omega) HS.out.at').mono ?_;rintro e w3 ⟨b,rfl,hA3,hG3⟩;have HS4:Hid (DaSt c a len cap w w3 u7 As R'):=da_cur HS.out hcw.1 hA3 (Fr.of_grown hG3);clear hA3 hG3 HS HS3
   cases b
   ·obtain⟨co',n',cc',hcv'⟩:=HS4.out.sv;obtain⟨ao',cap',hlv',_⟩:=own_lace HS4.out.ro.parts.own;have HVR:Hid (roV R'=.agg #[.slice ao' R'.L.length cap',.slice co' n' cc',.slice (some ⟨R'.gh,0,none⟩) 4 R'.hc,.int .i64 R'.bad]):=by show _=_;unfold roV;rw [hlv',hcv']
    have t0:=HS4.out.ro.c0;have t1:=HS4.out.ro.c1;have t2:=HS4.out.ro.c2;have t3:=HS4.out.ro.c3;rw [hlv'] at t0;rw [hcv'] at t1;have hcall:=HTT.out c a len cap w.heap.size R' w3 hl HS4.out.at' hcw HS4.out.ro.parts HS4.out.sv;rw [HVR.out] at hcall;clear hlv' hcv' HVR;go_wp2_with fail
    refine hcall.mono ?_;rintro e w4 ⟨y,rfl,hy13,hA4,hF4⟩;have HS5:Hid (DaSt c a len cap w w4 u7 As R'):=da_cur HS4.out hcw.1 hA4 hF4;have HS6:Hid (DaSt c a len cap w (w4.alloc (acO y)) u7 As R'∧Q6 (w4.alloc (acO y)) w4.heap.size y):=⟨da_below HS5.out hcw ((Below.refl _ _).alloc (Nat.le_refl _) _),q6_new w4 y _⟩
    clear hcall hA4 hF4 HS4 t0 t1 t2 t3;go_upto_region 9 with fail
    have hroS:∀g,roS w.heap.size R' g→g<w4.heap.size:=fun g hg=>by
     rcases hg with h | h | h
     ·subst h;exact HS5.out.ro.lt
     ·subst h;exact(HS5.out.ro.parts.hands 0 (by omega)).lt
     ·exact(World.ownsRow.lt HS5.out.ro.parts.own g h).2
    generalize w4.alloc (acO y)=W4 at HS6 ⊢;generalize w4.heap.size=ab at HS6 hroS ⊢;clear HS5;obtain⟨_,b0,b1,b2,b3,b4,b5,_,_,_,_,_,_⟩:=HS6.out.2;go_wp2_with fail
    refine(l18Do w.heap.size w.heap.size R' y _ HS6.out.1.ro (by omega)).mono ?_;intro e w5 hd;have hq5:Q6 w5 ab y:=by
     obtain⟨_,_,_,_,_,hf,_⟩:=hd;exact q6_fr HS6.out.2 hf (fun h=>by have:=hroS ab h;omega)
    obtain⟨b',R3,rfl,h5⟩:=da_do HS6.out.1 hcw hd;have HS7:Hid (DaSt c a len cap w w5 u7 As R3):=h5;have HS8:Hid (DaSt c a len cap w (w5.alloc (acO y)) u7 As R3):=da_below h5 hcw ((Below.refl _ _).alloc (Nat.le_refl _) _);clear hd h5 b0 b1 b2 b3 b4 b5 HS6;obtain⟨_,b0,b1,b2,b3,b4,b5,_,_,_,_,_,_⟩:=hq5;go_wp2_with (at_builtin;refine wpList_append_own_at _ rfl _ _ 161 rfl w.heap.size 166 i0 (.agg #[.int .i64 0,.int .i64 0,.int .i64 0,.int .i64 0,.int .i64 0,.string ⟨#[]⟩]) 6 56 Tryz.underlying161 hi hz0 hz1 hz2 rfl (by decide) u7 As.length (flatA As) (by first | rfl | simp [Act.eval]) HS8.out.acts.own ⟨w5.heap.size,0,none⟩ 1 1 (acells y) (by first | rfl | simp [Act.eval]) rfl (new_acells w5 y _) (acells_one _) ?c3 ?c4 ?c5 ?_)
    case c3=>unfold maxLen;omega
    case c4=>omega
    case c5=>exact HS8.out.fr.size
    intro v' w6 hown' hgrow hnil hat;have HS9:Hid (DaSt c a len cap w w6 v' (As++[y]) R3):=da_app HS8.out hcw (fun z hz=>by simp at hz;subst hz;exact hy13) (by simpa [flatA] using hown') hgrow (by first | exact hnil | exact fun e=>HS8.out.acts.ne (hnil.1 e).1) (by simpa using hat);clear hown' hgrow hnil hat HS8 HS7;go_wp2;go_roundw
    case rel=>exact⟨m-1,As++[y],R3,by congr 1;omega,by omega,by simp;omega,HS9⟩
    case measure=>simp [intOf];omega
   ·go_wp2_with fail
    refine(l18DrawRound' HBB.out c a len cap w.heap.size w.heap.size R' _ hl HS4.out.at' hcw HS4.out.ro HS4.out.sv).mono ?_;rintro e w4 ⟨v2,As2,R3,rfl,hA2s,hlen2,hro3,hgh3,hcv3,hA3,hF3,hlv3⟩;have HS5:Hid (DaSt c a len cap w w4 u7 As R3):=da_round HS4.out hcw.1 hA3 hro3 hgh3 hcv3 hF3 hlv3;obtain⟨g2,c2,hv2,_,_⟩:=acts_shape hA2s;subst hv2;have own2:=hA2s.own;have HSH:Hid (Short As2):=hA2s.sh;clear hA2s hro3 hgh3 hcv3 hA3 hF3 hlv3 HS4;go_wp2_with (at_builtin;refine wpList_append_own_at _ rfl _ _ 161 rfl w.heap.size 166 i0 (.agg #[.int .i64 0,.int .i64 0,.int .i64 0,.int .i64 0,.int .i64 0,.string ⟨#[]⟩]) 6 56 Tryz.underlying161 hi hz0 hz1 hz2 rfl (by decide) u7 As.length (flatA As) (by first | rfl | simp [Act.eval]) HS5.out.acts.own ⟨g2,0,none⟩ As2.length c2 (flatA As2) (by first | rfl | simp [Act.eval]) (flatA_len As2) (rd_acts own2) (flatA_one As2) ?c3 ?c4 ?c5 ?_)
    case c3=>unfold maxLen;omega
    case c4=>omega
    case c5=>exact HS5.out.fr.size
    intro v' w6 hown' hgrow hnil hat;have HS9:Hid (DaSt c a len cap w w6 v' (As++As2) R3):=da_app HS5.out hcw HSH.out hown' hgrow (by first | exact hnil | exact fun e=>HS5.out.acts.ne (hnil.1 e).1) hat;clear hown' hgrow hnil hat own2 HS5;go_wp2;go_roundw
    case rel=>exact⟨m-1,As++As2,R3,by congr 1;omega,by omega,by simp;omega,HS9⟩
    case measure=>simp [intOf];omega
  ·obtain rfl:m=0:=by omega
   have hm00:¬ (0:Int)<((0:Nat):Int):=by omega
   go_wp2;go_ret;exact⟨_,As,rfl,HS.out.acts,by omega,HS.out.at',HS.out.fr⟩
end Rm
end Go.Proofs.YtbkeldfbllhlbaaGreat
