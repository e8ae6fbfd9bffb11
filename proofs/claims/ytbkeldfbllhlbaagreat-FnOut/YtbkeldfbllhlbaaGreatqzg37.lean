/-
 What the model answers for WordsOf: the words of these knots that are not empty, in order; and the law's likeTexts of two lists of texts that are alike.
-/
import Derived.Test.YtbkeldfbllhlbaaGreatqzg23
set_option linter.unusedVariables false
set_option maxRecDepth 100000
set_option maxHeartbeats 3200000
namespace Go.Proofs.YtbkeldfbllhlbaaGreat
open Go.RowKit
section
namespace Ch
open Kn (K okK)
open Bit (bit)
open Lc (at' laceB)
open Sg (isB bel)
open Sl (sealN sealsB)
theorem earlier_cases(L:List K)(C:List Int)(k:Nat):(earlierN L C k=-1∧∀x,x<k→earN L C k x=false)∨∃e:Nat,earlierN L C k=(e:Int)∧e<k∧earN L C k e=true∧∀x,x<k→earN L C k x=true→(at' L x).round≤(at' L e).round:=by
 rcases ear_spec L C k k with h | ⟨e,h1,h2,h3,h4⟩
 ·exact .inl h
 ·exact .inr ⟨e,h1,h2,h3,fun x hx hc=>(h4 x hx hc).1⟩
end Ch
namespace Rm
open Kn (K okK)
open Bit (bit memTo)
open Lc (at' RdK laceB flat OwnK cellsOf)
open Cur (At)
theorem DrawnC.below{w w1 w':World}{v:Value}{L:List K}{ao:Option Addr}{cc:Nat}{C:List Int}(h:DrawnC w w1 v L ao cc C)(hb:Below w1.heap.size w1 w'):DrawnC w w' v L ao cc C:=
 ⟨⟨Lc.ownK_below h.dr.own hb,h.dr.len,h.dr.word,h.dr.bel.trans (hb.mono h.dr.bel.size)⟩,Lst.own_below h.co hb,h.c7⟩
end Rm
end
section
namespace Tl
open Kn (K okK)
open Bit (bit withB memTo)
open Lc (at' laceB setB)
open Sg (isB bel seesB)
open Db (dblN doubledB)
open Nd (nodN nodsB)
open Ch (chainL earlierN earN leadK)
theorem getD_mem(l:List Int)(i:Nat)(h:i<l.length):l.getD i 0∈l:=by
 unfold List.getD;rw [List.getElem?_eq_getElem h];exact List.getElem_mem h
theorem getD_get(l:List Int)(i:Nat)(h:i<l.length):l.getD i 0=l[i]:=by
 unfold List.getD;rw [List.getElem?_eq_getElem h];rfl
/-! ### what respects -/
theorem chain_lastD(L:List K)(C:List Int)(e:Int)(he:-1≤e):(chainL L C e).getLastD (-1)=e:=by
 by_cases h:e<0
 ·obtain rfl:e=-1:=by omega
  rw [Ch.chain_neg L C (by omega)];rfl
 ·obtain⟨q,rfl⟩:=Int.eq_ofNat_of_zero_le (by omega:0≤e);rw [Ch.chain_step];simp
theorem earlier_ge(L:List K)(C:List Int)(k:Nat):-1≤earlierN L C k:=by
 rcases Ch.earlier_cases L C k with⟨h,_⟩ | ⟨e,h,_⟩ <;> rw [h] <;> omega
theorem tale_step(L:List K)(C:List Int)(k:Nat):taleL L C (k:Int)=taleL L C (earlierN L C k)++freshL L (k:Int) (earlierN L C k):=by
 unfold taleL;rw [Ch.chain_step,taleF_snoc,chain_lastD L C _ (earlier_ge L C k)]
theorem tale_neg(L:List K)(C:List Int){k:Int}(h:k<0):taleL L C k=[]:=by unfold taleL;rw [Ch.chain_neg L C h];rfl
theorem tale_below{L:List K}(hl:laceB L=true)(C:List Int):∀k,k<L.length→∀x∈taleL L C (k:Int),∃j:Nat,x=(j:Int)∧j<L.length∧bit (bel L k) j=true:=by
 have h60:=((Lc.lace_iff L).1 hl).1;intro k;induction k using Nat.strongRecOn with
 | _ k ih=>
  intro hk x hx;rw [tale_step,List.mem_append] at hx;rcases hx with hx | hx
  ·rcases Ch.earlier_cases L C k with⟨h,_⟩ | ⟨e,h,hek,hec,_⟩
   ·rw [h,tale_neg L C (by omega)] at hx;simp at hx
   ·rw [h] at hx;obtain⟨j,rfl,hj,hb⟩:=ih e hek (by omega) x hx;refine⟨j,rfl,hj,?_⟩;unfold Ch.earN at hec;rw [Bool.and_eq_true] at hec;exact Ag.sees_trans hl hk hec.1 hb
  ·obtain⟨j,rfl,hj,hf⟩:=(mem_fresh h60 _ _ _).1 hx;rw [Int.toNat_natCast] at hf;unfold fresN at hf;rw [Bool.and_eq_true] at hf;exact⟨j,rfl,hj,hf.1⟩
theorem tale_self{L:List K}(hl:laceB L=true)(C:List Int){k:Nat}(hk:k<L.length):(taleL L C (k:Int)).contains (k:Int)=nodN L k k:=by
 have h60:=((Lc.lace_iff L).1 hl).1;rw [Bool.eq_iff_iff,List.contains_iff_mem,tale_step,List.mem_append];have hm:=mem_fresh h60 (k:Int) (earlierN L C k) (k:Int);rw [Int.toNat_natCast] at hm;constructor
 ·rintro(h | h)
  ·rcases Ch.earlier_cases L C k with⟨q,_⟩ | ⟨e,q,hek,_⟩
   ·rw [q,tale_neg L C (by omega)] at h;simp at h
   ·rw [q] at h;obtain⟨j,ej,hj,hb⟩:=tale_below hl C e (by omega) _ h;have:=Ag.sees_le hl (by omega:e<L.length) hb;omega
  ·obtain⟨j,ej,_,hf⟩:=hm.1 h;obtain rfl:k=j:=by omega
   unfold fresN at hf;simp only [Bool.and_eq_true] at hf;exact hf.2.2
 ·intro hn;right
  refine hm.2 ⟨k,rfl,hk,?_⟩;unfold fresN;rw [Db.bel_self hl hk,hn];rcases Ch.earlier_cases L C k with⟨q,_⟩ | ⟨e,q,hek,_⟩
  ·rw [q];rfl
  ·rw [q,Int.toNat_natCast,Db.bel_hi hl (by omega:e<L.length) hek];simp
end Tl
end
section
namespace Rm
open Kn (K okK)
open Bit (bit memTo)
open Lc (at' RdK laceB flat OwnK cellsOf)
open Cur (At)
structure LoSt(c:Nat)(a:Option Addr)(len cap:Nat)(w wr:World)(v:Value)(L:List K)(o:Value)(X:List Int):Prop where
 at':At c a len cap wr
 gr:w.grownBy wr (some c)
 lo:OwnK 38 w.heap.size wr v L
 ow:wr.ownsRow w.heap.size 2 1 o X.length (X.map (Value.int .i64))
 zb:∀z∈X,-9223372036854775808≤z∧z≤9223372036854775807
 x61:X.length≤61
theorem LoSt.grown{c:Nat}{a:Option Addr}{len cap:Nat}{w wr w1:World}{v:Value}{L:List K}{o:Value}{X:List Int}(s:LoSt c a len cap w wr v L o X)(hc:c<w.heap.size)(hA:At c a len cap w1)(hG:wr.grownBy w1 (some c)):LoSt c a len cap w w1 v L o X:=
 ⟨hA,Cur.grownBy_trans s.gr hG,ownK_grown s.lo hG hc,own_fr (Fr.of_grown hG) s.ow (fun g hg e=>by have:=(World.ownsRow.lt s.ow g hg).1;omega),s.zb,s.x61⟩
theorem orderedI_in{L:List K}{s:Int}:∀z∈Tl.orderedI L s,-9223372036854775808≤z∧z≤9223372036854775807:=fun z hz=>by
 unfold Tl.orderedI at hz;split at hz
 ·obtain⟨j,hj,rfl,_⟩:=(Bit.mem_memTo s 60 z).1 ((Tl.mem_ord L _ _).1 hz);omega
 ·simp at hz
theorem LoSt.put{c:Nat}{a:Option Addr}{len cap:Nat}{w wr:World}{v:Value}{L:List K}{g oc:Nat}{X:List Int}(s:LoSt c a len cap w wr v L (.slice (some ⟨g,0,none⟩) X.length oc) X)(hcb:CurB c a len w.heap.size)(j:Nat)(y:Int)(hy:-9223372036854775808≤y∧y≤9223372036854775807) :
  LoSt c a len cap w (wr.setCell ⟨g,j,none⟩ (.int .i64 y)) v L (.slice (some ⟨g,0,none⟩) (X.set j y).length oc) (X.set j y):=by
 have hgB:=(World.ownsRow.lt s.ow g rfl).1;have hl:(X.set j y).length=X.length:=by simp
 have hfr:Fr (fun x=>x=g) wr (wr.setCell ⟨g,j,none⟩ (.int .i64 y)):=Fr.set wr ⟨g,j,none⟩ _;refine⟨at_belowB s.at' hcb (hfr.toBelow s.gr.size (fun x e=>by omega)),?_,⟨own_fr hfr s.lo.1 (fun q hq e=>?_),s.lo.2⟩,by rw [hl];exact Tl.own_put s.ow j y,fun z hz=>?_,by rw [hl];exact s.x61⟩
 ·exact((Fr.of_grown s.gr).trans hfr (fun x hx hl=>by omega)).grown
 ·subst e;exact own_ne s.lo.1 s.ow (by decide) hq rfl
 ·rcases List.mem_or_eq_of_mem_set hz with h | h
  ·exact s.zb z h
  ·rw [h];exact hy
theorem LoSt.app{c:Nat}{a:Option Addr}{len cap:Nat}{w w1 w2:World}{v o v':Value}{L:List K}{X:List Int}{x:Int}{ob:Obj}(s:LoSt c a len cap w w1 v L o X)(hcb:CurB c a len w.heap.size)(ho:w2.ownsRow w.heap.size 2 1 v' (X.length+1) (X.map (Value.int .i64)++[.int .i64 x]))(hg:(w1.alloc ob).grownBy w2 o.ownBlock) :
  At c a len cap w2∧w.grownBy w2 (some c)∧OwnK 38 w.heap.size w2 v L∧w2.ownsRow w.heap.size 2 1 v' (X++[x]).length ((X++[x]).map (Value.int .i64)):=by
 have hlt:=World.ownsRow.lt s.ow;have hf1:Fr (fun y=>o.ownBlock=some y) w1 w2:=(Fr.alloc _ w1 ob).trans (Fr.of_own hg) (fun _ hx _=>hx);refine⟨at_belowB s.at' hcb (hf1.toBelow s.gr.size (fun y hy=>(hlt y hy).1)),?_,⟨own_fr hf1 s.lo.1 (fun q hq e=>own_ne s.lo.1 s.ow (by decide) hq e),s.lo.2⟩,by simpa using ho⟩;exact((Fr.of_grown s.gr).trans hf1 (fun y hy hl=>by have:=(hlt y hy).1;omega)).grown
def TwoPost(w:World)(e:Ending)(w':World):Prop:=∃v L ao cc X,e=.returned (.tuple #[v,.slice ao (X:List Int).length cc])∧Drawn w.heap.size w w' v L∧Memb.Own w.heap.size w' ao cc X∧(∀z∈X,-9223372036854775808≤z∧z≤9223372036854775807)∧X.length≤62
theorem two_post{c:Nat}{a:Option Addr}{len cap:Nat}{w w1 wr:World}{v o:Value}{L:List K}{X:List Int}(hs:w.heap.size≤w1.heap.size)(hb:Below w.heap.size w wr)(hl:L.length≤61)(hw:∀k∈L,k.word.size≤13)(lo:OwnK 38 w1.heap.size wr v L)(ow:wr.ownsRow w1.heap.size 2 1 o X.length (X.map (Value.int .i64)))(hz:∀z∈X,-9223372036854775808≤z∧z≤9223372036854775807)(hx:X.length≤62) :
  TwoPost w (.returned (.tuple #[v,o])) wr:=by
 obtain⟨ao,cc,rfl,hown⟩:=Memb.own_shape ow;exact⟨v,L,ao,cc,X,rfl,⟨ownK_base lo hs,hl,hw,hb⟩,Nu.own_base hown hs,hz,hx⟩
theorem drawRespects(HD:DrawsRoom)(a:Option Addr)(len cap:Nat)(w:World)(hl:len≤4096)(hc:Cur.Code w a len) :
   Calls Tryz.prog 34 #[.slice a len cap] w (TwoPost w):=by
 obtain⟨i0,hi,hz0,hz1,hz2⟩:=info_parts Memb.info2;have HDD:Hid DrawsRoom:=HD;clear HD;go_enter Tryz.func34,Tryz.ntmps34
 go_wp2_with fail
 refine(Cur.new a len cap _ hl hc).mono ?_;rintro e w1 ⟨rfl,hA1,hb1⟩;have HCB:Hid (CurB w.heap.size a len w1.heap.size):=curB_of hA1;go_wp2_with fail
 refine(l3DrawAny HDD.out _ a len cap _ hl hA1).mono ?_;rintro e w2 ⟨v,L,rfl,hO,h61,hwd,hA2,hG2⟩;obtain⟨g,cp,rfl,hcp,_,hgB,_,hrd,_⟩:=Lc.ownK_shape hO;have hB2:=Draw.below_of_grown hb1 (Nat.le_refl _) hG2;have hs1:=hb1.size;have hlt1:=hA1.lt;have HWD:Hid (∀k∈L,k.word.size≤13):=hwd;have hne:g≠w.heap.size:=by omega
 have hww:Lc.WordsOk L:=fun k hk=>by have:=hwd k hk;omega
 have HWW:Hid (Lc.WordsOk L):=hww;have hset:=l4DrawSet w.heap.size a len cap g cp L w2 hl hA2 hne h61 hcp hww hrd;have HO:Hid (OwnK 38 w1.heap.size w2 (.slice (some ⟨g,0,none⟩) L.length cp) L):=hO;have HG2:Hid (w1.grownBy w2 (some w.heap.size)):=hG2;clear hO hwd hG2 hb1 hA1 hww hrd;go_wp2_with fail
 refine hset.mono ?_;rintro e w3 ⟨s,rfl,hs,hA3,hG3⟩;have hO3:=ownK_grown HO.out hG3 hlt1;have hB3:=Draw.below_of_grown hB2 (Nat.le_refl _) hG3;have HG3:Hid (w1.grownBy w3 (some w.heap.size)):=Cur.grownBy_trans HG2.out hG3;have hrd3:RdK w3 (some ⟨g,0,none⟩) L:=by
   obtain⟨g',cp',hge,_,_,_,_,h,_⟩:=Lc.ownK_shape hO3;injection hge with hge;injection hge with hge;injection hge with hge;subst hge;exact h
 have hord:=Tl.specOrdered g 0 cp L s w3 hcp HWW.out hrd3;clear HO hB2 hG3 hA2 hset HG2 hrd3;have hlen:=Tl.orderedI_len L s;have hzb:=orderedI_in (L:=L) (s:=s);generalize Tl.orderedI L s=X at hord hlen hzb;go_wp2_with fail
 refine hord.mono ?_;rintro e w4 ⟨ao,ac,rfl,hown,hb4⟩;have HS4:Hid (LoSt w.heap.size a len cap w1 w4 (.slice (some ⟨g,0,none⟩) L.length cp) L (.slice ao X.length ac) X):=
   ⟨hA3.below hb4,Cur.grownBy_trans HG3.out ⟨hb4.os,hb4.tape,hb4.output,hb4.size,fun i hi _=>hb4.block i hi⟩,Lc.ownK_below hO3 hb4,Nu.own_base hown HG3.out.size,hzb,by omega⟩
 have HB4:Hid (Below w.heap.size w w4):=hB3.trans (hb4.mono hB3.size);clear hord hown hb4 hA3 hO3 hB3 HG3 hzb;go_upto_region 5 with fail
 go_cut [26] (fun bv wx=>∃b:Bool,bv=.bool b∧(b=true→1<X.length)∧Hid (LoSt w.heap.size a len cap w1 wx (.slice (some ⟨g,0,none⟩) L.length cp) L (.slice ao X.length ac) X)∧Hid (Below w.heap.size w wx))
 case first=>
   by_cases h1:1<X.length
   · have h1':(1:Int)<(X.length:Int):=by omega
     go_wp2_with fail
     refine(Cur.once _ a len cap 2 _ hl (by omega) HS4.out.at').mono ?_;rintro e w5 ⟨b,rfl,hA5,hG5⟩;have HS5:Hid (LoSt w.heap.size a len cap w1 w5 (.slice (some ⟨g,0,none⟩) L.length cp) L (.slice ao X.length ac) X):=HS4.out.grown hlt1 hA5 hG5;have HB5:Hid (Below w.heap.size w w5):=Draw.below_of_grown HB4.out (Nat.le_refl _) hG5;clear hA5 hG5 HS4 HB4;go_wp2_with fail
     go_meet;exact⟨b,rfl,fun _=>h1,HS5,HB5⟩
   · have h1':¬ (1:Int)<(X.length:Int):=by omega
     go_wp2_with fail
     go_meet;exact⟨false,rfl,fun h=>Bool.noConfusion h,HS4,HB4⟩
 case rest=>
   clear HS4 HB4;obtain⟨b,rfl,hb1,HS5,HB5⟩:=hcut;go_upto_if 26 with fail
   go_cut [6] (fun o wx=>∃X:List Int,Hid (LoSt w.heap.size a len cap w1 wx (.slice (some ⟨g,0,none⟩) L.length cp) L o X)∧Hid (Below w.heap.size w wx))
   case first=>
     cases b
     · go_wp2_with fail
       go_meet;exact⟨X,HS5,HB5⟩
     · have h1:=hb1 rfl;obtain⟨og,rfl⟩:∃og,ao=some ⟨og,0,none⟩:=by
         rcases Lst.own_rd HS5.out.ow with e | ⟨b,e,_⟩
         · rw [e] at h1;simp at h1
         · exact⟨b,e⟩
       go_wp2_with fail
       refine(Cur.below _ a len cap (X.length:Int) _ hl (by omega) HS5.out.at').mono ?_;rintro e w6 ⟨x,rfl,hx0,hx1,hA6,hG6⟩;have hx2:=hx1 (by omega);have HS6:Hid (LoSt w.heap.size a len cap w1 w6 (.slice (some ⟨g,0,none⟩) L.length cp) L (.slice (some ⟨og,0,none⟩) X.length ac) X):=HS5.out.grown hlt1 hA6 hG6;have HB6:Hid (Below w.heap.size w w6):=Draw.below_of_grown HB5.out (Nat.le_refl _) hG6;clear hA6 hG6 HS5 HB5 hx1;obtain⟨q,rfl⟩:=Int.eq_ofNat_of_zero_le hx0;have hq:q<X.length:=by omega
       have hrow:∀j,j<X.length→w6.cell? ⟨og,j,none⟩=some (.int .i64 (X.getD j 0)):=by
         rcases Lst.own_rd HS6.out.ow with e | ⟨b,e,h⟩
         · rw [e] at h1;simp at h1
         · injection e with e;injection e with e;subst e;exact h
       have c0:=hrow 0 (by omega);have cq:=hrow q hq;have f0:=Tl.own_frozen HS6.out.ow 0;have fq:=Tl.own_frozen HS6.out.ow q;have cq2:(w6.setCell ⟨og,0,none⟩ (.int .i64 (X.getD q 0))).cell? ⟨og,q,none⟩=some (.int .i64 (X.getD q 0)):=by
         by_cases h:q=0
         · rw [h];exact World.cell?_setCell_same' _ _ _ (by rw [c0];rfl)
         · exact(World.cell?_setCell_other w6 ⟨og,0,none⟩ ⟨og,q,none⟩ _ (fun e=>h (by injection e with _ e2 _;omega))).trans cq
       have hy:=HS6.out.zb (X.getD q 0) (Tl.getD_mem X q hq);have hy0:=HS6.out.zb (X.getD 0 0) (Tl.getD_mem X 0 (by omega));have HS7:Hid (LoSt w.heap.size a len cap w1 (w6.setCell ⟨og,0,none⟩ (.int .i64 (X.getD q 0))) (.slice (some ⟨g,0,none⟩) L.length cp) L (.slice (some ⟨og,0,none⟩) (X.set 0 (X.getD q 0)).length ac) (X.set 0 (X.getD q 0))):=HS6.out.put HCB.out 0 _ hy;have HS8:Hid (LoSt w.heap.size a len cap w1 ((w6.setCell ⟨og,0,none⟩ (.int .i64 (X.getD q 0))).setCell ⟨og,q,none⟩ (.int .i64 (X.getD 0 0))) (.slice (some ⟨g,0,none⟩) L.length cp) L (.slice (some ⟨og,0,none⟩) ((X.set 0 (X.getD q 0)).set q (X.getD 0 0)).length ac) ((X.set 0 (X.getD q 0)).set q (X.getD 0 0))):=HS7.out.put HCB.out q _ hy0;have HB8:Hid (Below w.heap.size w ((w6.setCell ⟨og,0,none⟩ (.int .i64 (X.getD q 0))).setCell ⟨og,q,none⟩ (.int .i64 (X.getD 0 0)))):=by
         have hgB:=(World.ownsRow.lt HS6.out.ow og rfl).1;exact(HB6.out.setCell (p:=⟨og,0,none⟩) (show w.heap.size≤og by omega) _).setCell (p:=⟨og,q,none⟩) (show w.heap.size≤og by omega) _
       have hqi:(q:Int)<(X.length:Int):=by omega
       have h0i:(0:Int)<(X.length:Int):=by omega
       have hll:((X.set 0 (X.getD q 0)).set q (X.getD 0 0)).length=X.length:=by simp
       rw [hll] at HS8;clear HS6 HS7 HB6 hrow hy hy0 hll;generalize (X.set 0 (X.getD q 0)).set q (X.getD 0 0)=X2 at HS8;generalize X.getD q 0=yq at cq cq2 HS8 HB8;generalize X.getD 0 0=y0 at c0 HS8 HB8;go_wp2_with fail
       go_meet;exact⟨X2,HS8,HB8⟩
   case rest=>
     clear HS5 HB5 hb1;obtain⟨X2,HS6,HB6⟩:=hcut;have hx61:=HS6.out.x61;go_wp2_with fail
     refine(Cur.once _ a len cap 10 _ hl (by omega) HS6.out.at').mono ?_;rintro e w7 ⟨b7,rfl,hA7,hG7⟩;have HS7:Hid (LoSt w.heap.size a len cap w1 w7 (.slice (some ⟨g,0,none⟩) L.length cp) L u6 X2):=HS6.out.grown hlt1 hA7 hG7;have HB7:Hid (Below w.heap.size w w7):=Draw.below_of_grown HB6.out (Nat.le_refl _) hG7;clear hA7 hG7 HS6 HB6
     cases b7
     · have HT:Hid (TwoPost w (.returned (.tuple #[.slice (some ⟨g,0,none⟩) L.length cp,u6])) w7):=two_post (c:=w.heap.size) (a:=a) (len:=len) (cap:=cap) hs1 HB7.out h61 HWD.out HS7.out.lo HS7.out.ow HS7.out.zb (by omega);clear HS7 HB7;go_wp2;refine bodyPost_ret (v:=.tuple #[.slice (some ⟨g,0,none⟩) L.length cp,u6]) (by simp [results,Tryz.f34,go_sem]) rfl ?_;exact HT.out
     · go_wp2_with fail
       refine(l3DrawAt _ a len cap L.length _ hl h61 HS7.out.at').mono ?_;rintro e w8 ⟨y,rfl,hy,hA8,hG8⟩;have HS8:Hid (LoSt w.heap.size a len cap w1 w8 (.slice (some ⟨g,0,none⟩) L.length cp) L u6 X2):=HS7.out.grown hlt1 hA8 hG8;have HB8:Hid (Below w.heap.size w w8):=Draw.below_of_grown HB7.out (Nat.le_refl _) hG8;clear hA8 hG8 HS7 HB7;have own8:=HS8.out.ow;have hW8:=HS8.out.gr.size;go_wp2_with (at_builtin;refine wpList_append_own _ rfl _ _ 25 rfl w1.heap.size 2 i0 (.int .i64 0) 1 8 Tryz.underlying25 hi hz0 hz1 hz2 rfl (by decide) u6 X2.length (X2.map (Value.int .i64)) (by first | rfl | simp [Act.eval]) (own8.alloc _) ⟨w8.heap.size,0,none⟩ 1 1 [.int .i64 y] (by first | rfl | simp [Act.eval]) rfl (Sg.one_new w8 y _) (Sg.one_one y) ?c3 ?c4 ?c5 ?_)
       case c3=>unfold maxLen;omega
       case c4=>omega
       case c5=>simp;omega
       intro v' w9 hown' hgrow hnil;have HA:=HS8.out.app HCB.out hown' hgrow;have HB9:Hid (Below w.heap.size w w9):=by
         have hlt:=World.ownsRow.lt HS8.out.ow;have hf1:Fr (fun y=>u6.ownBlock=some y) w8 w9:=(Fr.alloc _ w8 _).trans (Fr.of_own hgrow) (fun _ hx _=>hx);exact HB8.out.trans (hf1.toBelow HB8.out.size (fun q hq=>by have:=(hlt q hq).1;omega))
       have HT : Hid (TwoPost w (.returned (.tuple #[.slice (some ⟨g, 0, none⟩) L.length cp, v'])) w9) := two_post (c := w.heap.size) (a := a) (len := len) (cap := cap) hs1 HB9.out h61 HWD.out HA.2.2.1 HA.2.2.2 (fun z hz=>by
         rcases List.mem_append.1 hz with h | h
         · exact HS8.out.zb z h
         · rw [List.mem_singleton.1 h];exact hy) (by simp;omega)
       clear hown' hgrow hnil own8 HS8 HB8 HA HB9;go_wp2;refine bodyPost_ret (v:=.tuple #[.slice (some ⟨g,0,none⟩) L.length cp,v']) (by simp [results,Tryz.f34,go_sem]) rfl ?_;exact HT.out
end Rm
end
section
namespace Rm
open Kn (K okK)
open Bit (bit memTo)
open Lc (at' RdK laceB flat OwnK cellsOf)
open Cur (At)
theorem drawOutOf(HD:DrawsRoom)(HDC:DrawsRoomC)(a:Option Addr)(len cap:Nat)(w:World)(hl:len≤4096)(hc:Cur.Code w a len) :
  Calls Tryz.prog 6 #[.slice a len cap] w fun e w'=>∃v L ao cc C s,e=.returned (.tuple #[v,.slice ao (C:List Int).length cc,.int .i64 s])∧DrawnC w w' v L ao cc C∧(-9223372036854775808≤s∧s≤9223372036854775807):=by
 go_enter Tryz.func6,Tryz.ntmps6
 go_wp2_with fail
 refine(drawFirmOnes HD HDC a len cap _ hl hc).mono ?_;rintro e w1 ⟨v,L,ao,cc,C,k,rfl,hD,hk⟩;go_wp2;refine bodyPost_ret (v:=.tuple #[v,.slice ao C.length cc,.int .i64 k]) (by simp [results,Tryz.f6,go_sem]) rfl ?_;exact⟨_,L,ao,cc,C,k,rfl,hD,hk⟩
theorem drawWordsOf(HD:DrawsRoom)(a:Option Addr)(len cap:Nat)(w:World)(hl:len≤4096)(hc:Cur.Code w a len) :
  Calls Tryz.prog 8 #[.slice a len cap] w (TwoPost w):=by
 go_enter Tryz.func8,Tryz.ntmps8
 go_wp2_with fail
 refine(drawRespects HD a len cap _ hl hc).mono ?_;rintro e w1 ⟨v,L,ao,cc,X,rfl,hD,ho,hz,hx⟩;go_wp2;refine bodyPost_ret (v:=.tuple #[v,.slice ao X.length cc]) (by simp [results,Tryz.f8,go_sem]) rfl ?_;exact⟨_,L,ao,cc,X,rfl,hD,ho,hz,hx⟩
end Rm
end
section
namespace Rm
open Kn (K okK)
open Bit (bit memTo)
open Lc (at' RdK laceB setB)
open Sg (bel isB NumsPost)
open Tl (freshL taleI taleL taleF beginsB)
open Ch (chainI chainL onB)
structure TvO(w wx:World)(B g:Nat)(L:List K)(ao:Option Addr)(C:List Int)(fo:Option Addr)(fc:Nat)(t:List Int):Prop where
 lies:LiesC wx g L ao C
 own:Memb.Own B wx fo fc t
 bel:Below w.heap.size w wx
theorem TvO.below{w wx w':World}{B g:Nat}{L:List K}{ao:Option Addr}{C:List Int}{fo:Option Addr}{fc:Nat}{t:List Int}(h:TvO w wx B g L ao C fo fc t)(hb:Below wx.heap.size wx w'):TvO w w' B g L ao C fo fc t:=
 ⟨h.lies.below hb,Lst.own_below h.own hb,h.bel.trans (hb.mono h.bel.size)⟩
theorem TvO.drewN{w wx:World}{B g:Nat}{L:List K}{ao:Option Addr}{C:List Int}{fo:Option Addr}{fc:Nat}{t:List Int}(h:TvO w wx B g L ao C fo fc t)(n:Nat):TvO w (wx.drewN n) B g L ao C fo fc t:=h.below (Db.below_drewN (Below.refl _ wx) n)
structure AdO(wx:World)(B:Nat)(ao:Option Addr)(ca:Nat)(A:List Int)(bo:Option Addr)(cb:Nat)(D:List Int):Prop where
 a:Memb.Own B wx ao ca A
 d:Memb.Own B wx bo cb D
theorem AdO.below{wx w':World}{B:Nat}{ao:Option Addr}{ca:Nat}{A:List Int}{bo:Option Addr}{cb:Nat}{D:List Int}(h:AdO wx B ao ca A bo cb D)(hb:Below wx.heap.size wx w'):AdO w' B ao ca A bo cb D:=⟨Lst.own_below h.a hb,Lst.own_below h.d hb⟩
theorem own_split{B:Nat}{w:World}{fo:Option Addr}{fc:Nat}{fl:List Int}(h:Memb.Own B w fo fc fl):(fo=none∧fl=[]∧fc=0)∨∃fb,fo=some ⟨fb,0,none⟩∧fb<w.heap.size∧∀j,j<fl.length→w.cell? ⟨fb,j,none⟩=some (.int .i64 (fl.getD j 0)):=by
 have hrd:=Lst.own_rd h;have hlt:=World.ownsRow.lt h;obtain⟨_,⟨hq,hq2⟩ | ⟨fb,fcap,cur,hq,_⟩⟩:=h
 ·injection hq with q1 _ q3;exact .inl ⟨q1,List.eq_nil_of_length_eq_zero hq2,q3⟩
 ·injection hq with q1 _ _;subst q1;refine .inr ⟨fb,rfl,(hlt fb rfl).2,fun j hj=>?_⟩;rcases hrd with e | ⟨g5,e,hc5⟩
  ·rw [e] at hj;simp at hj
  ·injection e with e;injection e with e;subst e;exact hc5 j hj
structure WtO(w4 wx:World)(og oc:Nat)(l:List Int):Prop where
 bel:Below w4.heap.size w4 wx
 own:wx.ownsRow w4.heap.size 2 1 (.slice (some ⟨og,0,none⟩) l.length oc) l.length (l.map (Value.int .i64))
theorem WtO.below{w4 wx w':World}{og oc:Nat}{l:List Int}(h:WtO w4 wx og oc l)(hb:Below wx.heap.size wx w'):WtO w4 w' og oc l:=⟨h.bel.trans (hb.mono h.bel.size),own_fr (Fr.of_below hb (fun _=>False)) h.own (fun _ _ q=>q)⟩
end Rm
end
section
namespace Tx
open Kn (K okK)
open Lc (at' RdK WordsOk laceB)
open Tl (inR)
theorem infoT:(Tryz.prog.info? 9).map (fun i=>(i.zero,i.size,i.bytes))=some (some (.string ⟨#[]⟩),1,16):=by kernel_rfl
def OwnT(B:Nat)(w:World)(ao:Option Addr)(cap:Nat)(S:List ByteArray):Prop:=w.ownsRow B 9 1 (.slice ao S.length cap) S.length (S.map Value.string)
def RdT(w:World)(ao:Option Addr)(S:List ByteArray):Prop:=S=[]∨∃g,ao=some ⟨g,0,none⟩∧g<w.heap.size∧∀j,j<S.length→w.cell? ⟨g,j,none⟩=some (.string (S.getD j ⟨#[]⟩))
def TextsPost(S:List ByteArray)(w:World)(e:Ending)(w':World):Prop:=∃ao cap,e=.returned (.slice ao S.length cap)∧OwnT w.heap.size w' ao cap S∧Below w.heap.size w w'
theorem own_shape{B:Nat}{w:World}{v:Value}{S:List ByteArray}(h:w.ownsRow B 9 1 v S.length (S.map Value.string)):∃ao cap,v=.slice ao S.length cap∧OwnT B w ao cap S:=by
 have h':=h;obtain⟨_,⟨hv,hn⟩ | ⟨g,cap,cur,hv,_⟩⟩:=h
 ·exact⟨none,0,by rw [hv,hn],by unfold OwnT;rw [hn] at h' ⊢;rw [hv] at h';exact h'⟩
 ·exact⟨some ⟨g,0,none⟩,cap,hv,by unfold OwnT;rw [← hv];exact h'⟩
theorem own_rd{B:Nat}{w:World}{ao:Option Addr}{cap:Nat}{S:List ByteArray}(h:OwnT B w ao cap S):RdT w ao S:=by
 have hlt:=World.ownsRow.lt h;have hcells:=@World.ownsRow.cells _ _ _ _ _ _ _ h;obtain⟨_,⟨hv,hn⟩ | ⟨g,cap',cur,hv,_⟩⟩:=h
 ·exact .inl (List.eq_nil_of_length_eq_zero hn)
 ·injection hv with hv _ _;subst hv;refine .inr ⟨g,rfl,(hlt g rfl).2,fun j hj=>?_⟩;have:=hcells (g:=g) rfl j (.string (S.getD j ⟨#[]⟩)) (by simp [List.getD,hj]);by_cases hj0:j=0
  ·subst hj0;simpa [Addr.add] using this
  ·simpa [Addr.add,hj0] using this
theorem own_below{B:Nat}{w w':World}{ao:Option Addr}{cap:Nat}{S:List ByteArray}(h:OwnT B w ao cap S)(hb:Below w.heap.size w w'):OwnT B w' ao cap S:=by
 have hlt:=World.ownsRow.lt h;obtain⟨h1,h2⟩:=h;refine⟨h1,?_⟩;rcases h2 with h2 | ⟨g,cap',cur,hv,hB,hg,rest⟩
 ·exact .inl h2
 ·refine .inr ⟨g,cap',cur,hv,hB,?_,rest⟩;rw [hb.block g (hlt g (by rw [hv];rfl)).2];exact hg
def wordsL(L:List K):List Int→List ByteArray
 | []=>[]
 | x :: r=>if (at' L x.toNat).word.toList.isEmpty then wordsL L r else (at' L x.toNat).word :: wordsL L r
theorem words_snoc(L:List K):∀(l:List Int) (x:Int),wordsL L (l++[x])=if (at' L x.toNat).word.toList.isEmpty then wordsL L l else wordsL L l++[(at' L x.toNat).word]:=by
 intro l;induction l with
 | nil=>intro x;show wordsL L [x]=_;unfold wordsL;split <;> rfl
 | cons y r ih=>
  intro x;show wordsL L (y :: (r++[x]))=_;unfold wordsL;rw [ih];split <;> split <;> rfl
theorem words_len(L:List K):∀l:List Int,(wordsL L l).length≤l.length:=by
 intro l;induction l with
 | nil=>exact Nat.le_refl _
 | cons y r ih=>unfold wordsL;split <;> simp <;> omega
def wordsI(L:List K)(X:List Int):List ByteArray:=if laceB L&&X.all (inR L) then wordsL L X else []
theorem own_empty(w:World):(w.alloc (.cells #[] 9)).ownsRow w.heap.size 9 1 (.slice (some ⟨w.heap.size,0,none⟩) 0 0) 0 []:=
 ⟨rfl,.inr ⟨w.heap.size,0,#[],rfl,Nat.le_refl _,by show(w.heap.push _)[w.heap.size]? = _;rw [Array.getElem?_push_size],Nat.le_refl _,by unfold maxLen;omega,rfl,rfl⟩⟩
theorem one_newT(W:World)(x:ByteArray)(t:TypeId):∀(j:Nat) u,([Value.string x])[j]? = some u→(W.alloc (.cells #[.string x] t)).cell? ((⟨W.heap.size,0,none⟩:Addr).add j)=some u:=by
 intro j u hj;match j,hj with
 | 0,hj=>simp at hj;subst hj;simp [Addr.add]
theorem one_oneT(x:ByteArray):∀u∈[Value.string x],u.oneCell'=true:=by
 intro u hu;simp at hu;subst hu;rfl
theorem l12Words(g off cap:Nat)(L:List K)(ao:Option Addr)(cc:Nat)(X:List Int)(w:World)(hl:X.length≤1048576)(hin:∀i,i<X.length→0≤X.getD i 0∧X.getD i 0<(L.length:Int))(hg:g<w.heap.size)(hr:RdK w (some ⟨g,off,none⟩) L)(hrd:Lst.Rd w ao X)(hao:∀c,ao=some ⟨c,0,none⟩→c<w.heap.size) :
  Calls Tryz.prog 40 #[.slice (some ⟨g,off,none⟩) L.length cap,.slice ao X.length cc] w (TextsPost (wordsL L X) w):=by
 obtain⟨i0,hi,hz0,hz1,hz2⟩:=info_parts infoT;have HE0:Hid ((w.alloc (.cells #[] 9)).ownsRow w.heap.size 9 1 (.slice (some ⟨w.heap.size,0,none⟩) 0 0) 0 []∧Below w.heap.size w (w.alloc (.cells #[] 9))):=⟨own_empty w,(Below.refl _ w).alloc (Nat.le_refl _) _⟩
 have HIN:Hid (∀i,i<X.length→0≤X.getD i 0∧X.getD i 0<(L.length:Int)):=hin;have HRD:Hid (Lst.Rd w ao X):=hrd;have HR:Hid (RdK w (some ⟨g,off,none⟩) L):=hr;have HAO:Hid (∀c,ao=some ⟨c,0,none⟩→c<w.heap.size):=hao;clear hin hrd hr hao;go_enter Tryz.func40,Tryz.ntmps40
 go_wp2;go_loopw [5,6] (fun v i wr=>∃j:Nat,j≤X.length∧i=.int .i64 j∧Hid (wr.ownsRow w.heap.size 9 1 v (wordsL L (X.take j)).length ((wordsL L (X.take j)).map Value.string))∧Hid (Below w.heap.size w wr)) (fun _ i _=>X.length-(intOf i).toNat)
 case atStart=>exact⟨0,by omega,rfl,HE0.out.1,HE0.out.2⟩
 case round=>
  obtain⟨j,hj,rfl,HO,HB⟩:=hrel;clear HE0;by_cases hlt:j<X.length
  ·have hlti:(j:Int)<(X.length:Int):=by omega
   obtain⟨gx,hgx,hcx⟩:∃gx,ao=some ⟨gx,0,none⟩∧wr.cell? ⟨gx,j,none⟩=some (.int .i64 (X.getD j 0)):=by
    rcases HRD.out with e | ⟨gx,e,hc⟩
    ·rw [e] at hlt;simp at hlt
    ·exact⟨gx,e,(HB.out.cell (p:=⟨gx,j,none⟩) (HAO.out gx e)).trans (hc j hlt)⟩
   subst hgx;have hxb:=HIN.out j hlt;have HSN:Hid (wordsL L (X.take (j+1))=if (at' L (X.getD j 0).toNat).word.toList.isEmpty then wordsL L (X.take j) else wordsL L (X.take j)++[(at' L (X.getD j 0).toNat).word]):=by
    show _=_;rw [← words_snoc];congr 1
    rw [List.take_add_one,List.getElem?_eq_getElem hlt];simp [List.getD,hlt]
   have hwl:=words_len L (X.take j);have hwl2:(wordsL L (X.take j)).length≤1048576:=by rw [List.length_take] at hwl;omega
   clear hwl;generalize X.getD j 0=y at hcx hxb HSN;obtain⟨p,rfl⟩:=Int.eq_ofNat_of_zero_le hxb.1;have hp:p<L.length:=by omega
   rw [Int.toNat_natCast] at HSN;obtain⟨_,hcs⟩:=HR.out.on p hp;obtain⟨_,_,_,k3⟩:=hcs.below HB.out hg;generalize (at' L p).word=wd at k3 HSN;generalize hnx:wordsL L (X.take (j+1))=nx at HSN;have HNX:Hid (wordsL L (X.take (j+1))=nx):=hnx;generalize wordsL L (X.take j)=pv at HSN HO hwl2;clear hnx hcs
   cases hwd:wd.toList.isEmpty;rotate_left
   ·obtain rfl:nx=pv:=by rw [HSN.out,if_pos hwd]
    have hne:(!wd.toList.isEmpty)=false:=by rw [hwd];rfl
    clear HSN hwd;go_wp2;go_roundw
    case rel=>exact⟨j+1,by omega,by go_num,by rw [HNX.out];exact HO,HB⟩
    case measure=>simp [intOf];omega
   ·obtain rfl:nx=pv++[wd]:=by rw [HSN.out,if_neg (by rw [hwd];simp)]
    have hne:(!wd.toList.isEmpty)=true:=by rw [hwd];rfl
    have own3:=HO.out;have hW3:=HB.out.size;clear HSN hwd;go_wp2_with (first | (at_builtin;refine wpList_append_own _ rfl _ _ 31 rfl w.heap.size 9 i0 (.string ⟨#[]⟩) 1 16 Tryz.underlying31 hi hz0 hz1 hz2 rfl (by decide) u5 pv.length (pv.map Value.string) (by first | rfl | simp [Act.eval]) (own3.alloc _) ⟨wr.heap.size,0,none⟩ 1 1 [.string wd] (by first | rfl | simp [Act.eval]) rfl (one_newT wr wd _) (one_oneT wd) ?c3 ?c4 ?c5 ?_) | fail)
    case c3=>unfold maxLen;omega
    case c4=>omega
    case c5=>simp;omega
    intro v' w3 hown' hgrow hnil;have HO3:Hid (w3.ownsRow w.heap.size 9 1 v' (pv++[wd]).length ((pv++[wd]).map Value.string)):=by show World.ownsRow _ _ _ _ _ _ _;simpa using hown'
    have HB3:Hid (Below w.heap.size w w3):=(HB.out.alloc HB.out.size _).grown hgrow (by have:=HB.out.size;simp;omega) (fun q hq=>(World.ownsRow.lt own3 q hq).1);clear hown' hgrow hnil own3 HO HB;go_wp2;go_roundw
    case rel=>exact⟨j+1,by omega,by go_num,by rw [HNX.out];exact HO3,HB3⟩
    case measure=>simp [intOf];omega
  ·obtain rfl:j=X.length:=by omega
   have hlti:¬ (X.length:Int)<(X.length:Int):=by omega
   rw [List.take_length] at HO;obtain⟨bo,bc,rfl,hown⟩:=own_shape HO.out;have HT:Hid (TextsPost (wordsL L X) w (.returned (.slice bo (wordsL L X).length bc)) wr):=⟨bo,bc,rfl,hown,HB.out⟩
   clear HO hown HB;generalize (wordsL L X).length=nS at HT ⊢;go_wp2;go_ret;exact HT.out
theorem wordsI_len(L:List K)(X:List Int):(wordsI L X).length≤X.length:=by
 unfold wordsI;split
 ·exact words_len L X
 ·exact Nat.zero_le _
theorem specWordsOf(g off cap:Nat)(L:List K)(ao:Option Addr)(cc:Nat)(X:List Int)(w:World)(hcap:L.length≤cap)(hw:WordsOk L)(hg:g<w.heap.size)(hr:RdK w (some ⟨g,off,none⟩) L)(hl:X.length≤1048576)(hrd:Lst.Rd w ao X)(hao:∀c,ao=some ⟨c,0,none⟩→c<w.heap.size) :
   Calls Tryz.prog 13 #[.slice (some ⟨g,off,none⟩) L.length cap,.slice ao X.length cc] w (TextsPost (wordsI L X) w):=by
 have HRD:Hid (Lst.Rd w ao X):=hrd;have HR:Hid (RdK w (some ⟨g,off,none⟩) L):=hr;have HAO:Hid (∀c,ao=some ⟨c,0,none⟩→c<w.heap.size):=hao;have HW:Hid (WordsOk L):=hw;have HEP:Hid (∀W:World,Below w.heap.size w W→wordsI L X=[]→TextsPost (wordsI L X) w (.returned (.slice (some ⟨W.heap.size,0,none⟩) 0 0)) (W.alloc (.cells #[] 9))):=fun W hW e=>by
   rw [e];refine⟨some ⟨W.heap.size,0,none⟩,0,rfl,?_,hW.alloc hW.size _⟩;obtain⟨h1,h2 | ⟨q,cap',cur,hv,hB,hn⟩⟩:=own_empty W
   · exact⟨h1,.inl h2⟩
   · exact⟨h1,.inr ⟨q,cap',cur,hv,by have:=hW.size;omega,hn⟩⟩
 have hlX:(X.length:Int)≤1048576:=by omega
 clear hrd hr hao hw;go_enter Tryz.func13,Tryz.ntmps13
 go_wp2;go_loopw [5] (fun i wr=>∃j:Nat,j≤X.length∧i=.int .i64 j∧wr=w∧Hid (∀q,q<j→inR L (X.getD q 0)=true)) (fun i _=>X.length-(intOf i).toNat)
 case atStart=>exact⟨0,by omega,rfl,rfl,fun q hq=>absurd hq (by omega)⟩
 case round=>
   obtain⟨j,hj,rfl,rfl,HA⟩:=hrel;by_cases hlt:j<X.length
   · have hlti:(j:Int)<(X.length:Int):=by omega
     obtain⟨gx,hgx,hcx⟩:∃gx,ao=some ⟨gx,0,none⟩∧wr.cell? ⟨gx,j,none⟩=some (.int .i64 (X.getD j 0)):=by
       rcases HRD.out with e | ⟨gx,e,hc⟩
       · rw [e] at hlt;simp at hlt
       · exact⟨gx,e,hc j hlt⟩
     subst hgx;have HNO:Hid (inR L (X.getD j 0)=false→wordsI L X=[]):=fun h=>by
       unfold wordsI;refine if_neg ?_;intro q;rw [Bool.and_eq_true,List.all_eq_true] at q;have:=q.2 _ (show X.getD j 0∈X by unfold List.getD;rw [List.getElem?_eq_getElem hlt];exact List.getElem_mem hlt);rw [h] at this;exact Bool.noConfusion this
     have HYS:Hid (inR L (X.getD j 0)=true→∀q,q<j+1→inR L (X.getD q 0)=true):=fun h q hq=>by
       by_cases e:q=j
       · subst e;exact h
       · exact HA.out q (by omega)
     have HDF:Hid (inR L (X.getD j 0)=(decide (0≤X.getD j 0)&&decide (X.getD j 0<(L.length:Int)))):=rfl;generalize X.getD j 0=y at hcx HNO HYS HDF;clear HA;by_cases h0:y<0
     · have HTT:Hid (TextsPost (wordsI L X) wr (.returned (.slice (some ⟨wr.heap.size,0,none⟩) 0 0)) (wr.alloc (.cells #[] 9))):=HEP.out wr (Below.refl _ _) (HNO.out (by rw [HDF.out,decide_eq_false (by omega:¬ 0≤y)];rfl));clear HNO HYS HDF;go_wp2;go_ret;exact HTT.out
     · by_cases h1:y<(L.length:Int)
       · have HT:Hid (∀q,q<j+1→inR L (X.getD q 0)=true):=HYS.out (by rw [HDF.out,decide_eq_true (by omega:0≤y),decide_eq_true h1];rfl);have h1':¬ (L.length:Int)≤y:=by omega
         clear HNO HYS HDF;go_wp2;go_roundw
         case rel=>exact⟨j+1,by omega,by go_num,by trivial,HT⟩
         case measure=>simp [intOf];omega
       · have HTT:Hid (TextsPost (wordsI L X) wr (.returned (.slice (some ⟨wr.heap.size,0,none⟩) 0 0)) (wr.alloc (.cells #[] 9))):=HEP.out wr (Below.refl _ _) (HNO.out (by rw [HDF.out,decide_eq_false h1];simp));have h1':(L.length:Int)≤y:=by omega
         clear HNO HYS HDF;go_wp2;go_ret;exact HTT.out
   · obtain rfl:j=X.length:=by omega
     have hlti:¬ (X.length:Int)<(X.length:Int):=by omega
     have HALL:Hid (X.all (inR L)=true):=by
       show _=_;rw [List.all_eq_true];intro x hx;obtain⟨q,hq,e⟩:=List.getElem_of_mem hx;have:=HA.out q hq;unfold List.getD at this;rw [List.getElem?_eq_getElem hq] at this;rw [← e];exact this
     have hlace:=Lc.specLaceOk g off cap L wr hcap HW.out HR.out;go_wp2_with fail
     refine hlace.mono ?_;rintro e w1 ⟨rfl,hb1⟩;clear hlace
     cases hlc:laceB L
     · have HTT:Hid (TextsPost (wordsI L X) wr (.returned (.slice (some ⟨w1.heap.size,0,none⟩) 0 0)) (w1.alloc (.cells #[] 9))):=HEP.out w1 hb1 (by unfold wordsI;rw [hlc];rfl);clear HALL HA hlc;go_wp2;go_ret;exact HTT.out
     · have e1:wordsI L X=wordsL L X:=by unfold wordsI;rw [hlc,HALL.out];rfl
       have hws := l12Words g off cap L ao cc X w1 (by omega) (fun i hi => (Tl.inR_iff L _).1 (HA.out i hi)) (Nat.lt_of_lt_of_le hg hb1.size) (HR.out.below hb1) (by
         rcases HRD.out with e | ⟨gx,e,hc⟩
         · exact .inl e
         · exact .inr ⟨gx,e,fun j hj=>(hb1.cell (p:=⟨gx,j,none⟩) (HAO.out gx e)).trans (hc j hj)⟩) (fun c e=>Nat.lt_of_lt_of_le (HAO.out c e) hb1.size)
       rw [← e1] at hws;clear e1 HALL HA hlc;go_wp2_with fail
       refine hws.mono ?_;rintro e w2 ⟨bo,bc,rfl,hown,hb2⟩;have HT : Hid (TextsPost (wordsI L X) wr (.returned (.slice bo (wordsI L X).length bc)) w2) := ⟨bo,bc,rfl,by
         obtain⟨h1,h2 | ⟨q,cap',cur,hv,hB,hn⟩⟩:=hown
         · exact⟨h1,.inl h2⟩
         · exact⟨h1,.inr ⟨q,cap',cur,hv,by have:=hb1.size;omega,hn⟩⟩,hb1.trans (hb2.mono hb1.size)⟩
       clear hws hown hb1 hb2;generalize (wordsI L X).length=nS at HT ⊢;go_wp2;go_ret;exact HT.out
theorem alikeT(S:List ByteArray)(a b:Option Addr)(ca cb:Nat)(w:World)(hn:S.length≤1048576)(ha:RdT w a S)(hb:RdT w b S) :
  Calls Tryz.prog 12 #[.slice a S.length ca,.slice b S.length cb] w fun e w'=>e=.returned (.bool true)∧Below w.heap.size w w':=by
 go_enter Tryz.func12,Tryz.ntmps12
 go_wp2;go_loopw [5] (fun i wr=>∃k n:Nat,k≤S.length∧i=.int .i64 k∧wr=w.drewN n) (fun i _=>S.length-(intOf i).toNat)
 case atStart=>exact⟨0,0,by omega,rfl,rfl⟩
 case round=>
  obtain⟨k,n,hk,rfl,rfl⟩:=hrel;by_cases hlt:k<S.length
  ·have hlti:(k:Int)<(S.length:Int):=by omega
   rcases ha with ha | ⟨ga,rfl,_,hca⟩
   ·rw [ha] at hlt;simp at hlt
   rcases hb with hb | ⟨gb,rfl,_,hcb⟩
   ·rw [hb] at hlt;simp at hlt
   have c1:=hca k hlt;have c2:=hcb k hlt;clear hca hcb;generalize S.getD k ⟨#[]⟩=x at c1 c2;go_wp2_with fail
   go_quiet (fail)
   go_wp2;go_roundw
   case rel=>exact⟨k+1,_,by omega,by go_num,rfl⟩
   case measure=>simp [intOf];omega
  ·obtain rfl:k=S.length:=by omega
   have hlti:¬ (S.length:Int)<(S.length:Int):=by omega
   go_wp2;go_ret;exact⟨rfl,⟨rfl,rfl,rfl,Nat.le_refl _,fun _ _=>rfl⟩⟩
end Tx
end
end Go.Proofs.YtbkeldfbllhlbaaGreat
