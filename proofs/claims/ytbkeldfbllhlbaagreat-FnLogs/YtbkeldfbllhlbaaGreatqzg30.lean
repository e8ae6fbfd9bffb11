/-
 The model's drawings of a log, and what its last changes leave there.
 The model's drawings of a log: the lists that lie there then.
-/
import Derived.Test.YtbkeldfbllhlbaaGreatqzg29
import Derived.Test.YtbkeldfbllhlbaaGreatqzg13
set_option linter.unusedVariables false
set_option maxRecDepth 100000
namespace Go.Proofs.YtbkeldfbllhlbaaGreat
open Go.RowKit
namespace Lg
open Kn (K okK)
open Lc (at' RdK WordsOk laceB OwnK)
open Sg (closedB NumsPost)
open Tl (outL beginsB)
open Rm (Fr FrC DrawsRoom DrawsRoomC LcSt)
theorem ty_any{W:World}{B xb:Nat}{t:TypeId}{sz:Nat}{v:Value}{n:Nat}{xs:List Value}(h:W.ownsRow B t sz v n xs)(ht:t≠43)(hx:∃cur,W.heap[xb]? = some (.cells cur 43)):v.ownBlock≠some xb:=by
 obtain⟨cur,hx⟩:=hx;intro q;rcases h.2 with⟨e,_⟩ | ⟨g,cap,cur2,e,_,hg,_⟩
 ·rw [e] at q;simp [Value.ownBlock] at q
 ·rw [e] at q;simp [Value.ownBlock] at q;subst q;rw [hg] at hx;simp at hx;exact ht hx.2
theorem x_cur{W W':World}{B xb c:Nat}{a:Option Addr}{sc:Nat}{S:List Int}{vo:Option Addr}{vc:Nat}{T:List (List Int)}{f:At}(s:XSt W B xb a sc S vo vc T f)(hg:W.grownBy W' (some c))(hc:c<B):XSt W' B xb a sc S vo vc T f:=by
 have hne:xb≠c:=by have:=s.bx;omega
 have hf:=Fr.of_grown hg;obtain⟨cur,ht⟩:=s.ty;exact⟨s.bx,Nat.lt_of_lt_of_le s.lt hg.size,⟨cur,(hf.block xb s.lt hne).trans ht⟩,(hf.cell (p:=⟨xb,0,none⟩) s.lt hne).trans s.x0,(hf.cell (p:=⟨xb,1,none⟩) s.lt hne).trans s.x1,(hf.frozen (p:=⟨xb,0,none⟩) s.lt hne).trans s.f0,(hf.frozen (p:=⟨xb,1,none⟩) s.lt hne).trans s.f1,Draw.own_grown s.own hg hc,ll_kept s.ll hg hc,s.ap⟩
theorem x_put{W:World}{B xb:Nat}{a:Option Addr}{sc:Nat}{S:List Int}{vo:Option Addr}{vc:Nat}{T:List (List Int)}{f:At}(bx:B≤xb)(lt:xb<W.heap.size)(ty:∃cur,W.heap[xb]? = some (.cells cur 43)){u0 u1:Value}(x0:W.cell? ⟨xb,0,none⟩=some u0)(x1:W.cell? ⟨xb,1,none⟩=some u1)(f0:W.frozen? ⟨xb,0,none⟩=false)(f1:W.frozen? ⟨xb,1,none⟩=false)
   (own:Memb.Own B W a sc S) (ll:OwnLL B W (.slice vo T.length vc) T f) (ap:∀i,i<T.length→∀g,(f i).1=some ⟨g,0,none⟩→a≠some ⟨g,0,none⟩) :
   XSt ((W.setCell ⟨xb,0,none⟩ (.slice a S.length sc)).setCell ⟨xb,1,none⟩ (.slice vo T.length vc)) B xb a sc S vo vc T f:=by
 have x1':(W.setCell ⟨xb,0,none⟩ (.slice a S.length sc)).cell? ⟨xb,1,none⟩=some u1:=(World.cell?_setCell_other _ _ _ _ (by simp)).trans x1;have t1:=ty_put (j:=0) (u:=.slice a S.length sc) ty;exact ⟨bx,by simpa using lt,ty_put t1,(World.cell?_setCell_other _ _ _ _ (by simp)).trans (World.cell?_setCell_same _ _ _ x0),World.cell?_setCell_same _ _ _ x1',by simpa using f0,by simpa using f1,own_put (own_put own ty) t1,
   ⟨row_put (row_put ll.row ty) t1,fun i hi=>own_put (own_put (ll.each i hi) ty) t1,ll.ap⟩,ap⟩
def BdS(S:List Int):Prop:=∀i,i<S.length→-9223372036854775808≤S.getD i 0∧S.getD i 0≤9223372036854775807
structure LgSt(c:Nat)(a:Option Addr)(len cap:Nat)(w W:World)(gb:Nat)(v:Value)(L:List K)(ao:Option Addr)(cc:Nat)(C:List Int)(so:Option Addr)(sc:Nat)(S:List Int)(vo:Option Addr)(vc:Nat)(T:List (List Int))(f:At):Prop where
 at':Cur.At c a len cap W
 fr:FrC c w W
 r0:W.cell? ⟨w.heap.size,0,none⟩=some (.slice none 0 0)
 r1:W.cell? ⟨w.heap.size,1,none⟩=some (.slice none 0 0)
 g0:W.frozen? ⟨w.heap.size,0,none⟩=false
 g1:W.frozen? ⟨w.heap.size,1,none⟩=false
 rl:w.heap.size<W.heap.size
 lo:OwnK 38 (w.heap.size+1) W v L
 l61:L.length≤61
 wd:∀k∈L,k.word.size≤13
 co:Memb.Own (w.heap.size+1) W ao cc C
 c7:C.length≤7
 x:XSt W (w.heap.size+1) gb so sc S vo vc T f
 ac:∀g,ao=some ⟨g,0,none⟩→so≠some ⟨g,0,none⟩∧∀i,i<T.length→(f i).1≠some ⟨g,0,none⟩
 s40:S.length≤40
 ts:T.length=S.length
 row:∀i,i<T.length→(T.getD i []).length≤3660
 sb:BdS S
section
variable {c:Nat} {a:Option Addr} {len cap:Nat} {w W:World} {gb:Nat} {v:Value} {L:List K} {ao:Option Addr} {cc:Nat} {C:List Int} {so:Option Addr} {sc:Nat} {S:List Int} {vo:Option Addr} {vc:Nat} {T:List (List Int)} {f:At}
theorem LgSt.below{W':World}(s:LgSt c a len cap w W gb v L ao cc C so sc S vo vc T f)(hb:Below W.heap.size W W'):LgSt c a len cap w W' gb v L ao cc C so sc S vo vc T f:=
 ⟨s.at'.below hb,s.fr.trans (Fr.of_below hb (fun _=>False)) (fun _ h _=>h.elim),(hb.cell (p:=⟨w.heap.size,0,none⟩) s.rl).trans s.r0,(hb.cell (p:=⟨w.heap.size,1,none⟩) s.rl).trans s.r1,(hb.frozen (p:=⟨w.heap.size,0,none⟩) s.rl).trans s.g0,(hb.frozen (p:=⟨w.heap.size,1,none⟩) s.rl).trans s.g1,Nat.lt_of_lt_of_le s.rl hb.size,Lc.ownK_below s.lo hb,s.l61,s.wd,Lst.own_below s.co hb,s.c7,s.x.below hb,s.ac,s.s40,s.ts,s.row,s.sb⟩
theorem LgSt.cur{W':World}(s:LgSt c a len cap w W gb v L ao cc C so sc S vo vc T f)(hc:c<w.heap.size)(hA:Cur.At c a len cap W')(hg:W.grownBy W' (some c)):LgSt c a len cap w W' gb v L ao cc C so sc S vo vc T f:=by
 have hf:=Fr.of_grown hg;have hne:w.heap.size≠c:=by omega
 exact⟨hA,s.fr.trans hf (fun _ h _=>h),(hf.cell (p:=⟨w.heap.size,0,none⟩) s.rl hne).trans s.r0,(hf.cell (p:=⟨w.heap.size,1,none⟩) s.rl hne).trans s.r1,(hf.frozen (p:=⟨w.heap.size,0,none⟩) s.rl hne).trans s.g0,(hf.frozen (p:=⟨w.heap.size,1,none⟩) s.rl hne).trans s.g1,Nat.lt_of_lt_of_le s.rl hg.size,Rm.ownK_grown s.lo hg (by omega),s.l61,s.wd,Draw.own_grown s.co hg (by omega),s.c7,x_cur s.x hg (by omega),s.ac,s.s40,s.ts,s.row,s.sb⟩
theorem LgSt.log{W':World}{so':Option Addr}{sc':Nat}{S':List Int}{vo':Option Addr}{vc':Nat}{T':List (List Int)}{f':At}(s:LgSt c a len cap w W gb v L ao cc C so sc S vo vc T f)(hcb:Rm.CurB c a len w.heap.size)(hb:Below W.heap.size W W')
  (own:Memb.Own W.heap.size W' so' sc' S') (ll:OwnLL W.heap.size W' (.slice vo' T'.length vc') T' f') (ap:∀i,i<T'.length→∀g,(f' i).1=some ⟨g,0,none⟩→so'≠some ⟨g,0,none⟩) (s40:S'.length≤40) (ts:T'.length=S'.length) (row:∀i,i<T'.length→(T'.getD i []).length≤3660) (sb:BdS S') :
  LgSt c a len cap w ((W'.setCell ⟨gb,0,none⟩ (.slice so' S'.length sc')).setCell ⟨gb,1,none⟩ (.slice vo' T'.length vc')) gb v L ao cc C so' sc' S' vo' vc' T' f':=by
 have s1:=s.below hb;have hB:w.heap.size+1≤W.heap.size:=s.rl;have hgb:=s.x.bx;have hx:=x_put s1.x.bx s1.x.lt s1.x.ty s1.x.x0 s1.x.x1 s1.x.f0 s1.x.f1 (own_lift own hB) (ll_lift ll hB) ap;have hf:=(Fr.set W' ⟨gb,0,none⟩ (.slice so' S'.length sc')).trans (Fr.set (W'.setCell ⟨gb,0,none⟩ (.slice so' S'.length sc')) ⟨gb,1,none⟩ (.slice vo' T'.length vc')) (fun _ h _=>h);have hne:¬ w.heap.size=gb:=by omega
 have hfB:Below w.heap.size W' _:=hf.toBelow (Nat.le_of_lt s1.rl) (fun y hy=>by have e:y=gb:=hy;omega);have hac:∀g,ao=some ⟨g,0,none⟩→so'≠some ⟨g,0,none⟩∧∀i,i<T'.length→(f' i).1≠some ⟨g,0,none⟩:=fun g e=>by
  have hlt:g<W.heap.size:=(World.ownsRow.lt s.co g (by rw [e];rfl)).2;refine⟨fun q=>?_,fun i hi q=>?_⟩
  ·have:=(World.ownsRow.lt own g (by rw [q];rfl)).1;omega
  ·have:=(World.ownsRow.lt (ll.each i hi) g (by rw [q];rfl)).1;omega
 refine⟨Rm.at_belowB s1.at' hcb hfB,s1.fr.trans hf (fun y hy hl=>by have e:y=gb:=hy;omega),(hf.cell (p:=⟨w.heap.size,0,none⟩) s1.rl hne).trans s1.r0,(hf.cell (p:=⟨w.heap.size,1,none⟩) s1.rl hne).trans s1.r1,(hf.frozen (p:=⟨w.heap.size,0,none⟩) s1.rl hne).trans s1.g0,(hf.frozen (p:=⟨w.heap.size,1,none⟩) s1.rl hne).trans s1.g1,Nat.lt_of_lt_of_le s1.rl hf.size,⟨Rm.own_fr hf s1.lo.1 (fun y hy e=>ty_any s1.lo.1 (by decide) s1.x.ty (by have e':y=gb:=e;rw [← e'];exact hy)),s1.lo.2⟩,s1.l61,s1.wd,Rm.own_fr hf s1.co (fun y hy e=>ty_any s1.co (by decide) s1.x.ty (by have e':y=gb:=e;rw [← e'];exact hy)),s1.c7,hx,hac,s40,ts,row,sb⟩
end
structure LLies(w:World)(so:Option Addr)(sc:Nat)(S:List Int)(qo:Option Addr)(tc:Nat)(T:List (List Int))(f:At):Prop where
 rd:RdL w so qo S T f
 sn:so=none→sc=0
 tn:∀i,i<T.length→(f i).1=none→(f i).2=0
 s41:S.length≤41
 t41:T.length≤41
 row:∀i,i<T.length→(T.getD i []).length≤3661
 fit:S.length≤sc
 sb:BdS S
theorem LLies.below{w w':World}{so:Option Addr}{sc:Nat}{S:List Int}{qo:Option Addr}{tc:Nat}{T:List (List Int)}{f:At}(h:LLies w so sc S qo tc T f)(hb:Below w.heap.size w w'):LLies w' so sc S qo tc T f:=⟨h.rd.below hb,h.sn,h.tn,h.s41,h.t41,h.row,h.fit,h.sb⟩
theorem seen_bd{L:List K}{C S:List Int}{T:List (List Int)}{s:Int}(h:BdS S):BdS (seenL L C S T s):=by
 unfold seenL;by_cases h1:logB L C S T=true
 ·rw [if_pos h1];by_cases h2:goesB L C S T s=true
  ·rw [if_pos h2];have h2':=h2;unfold goesB at h2';rw [Bool.and_eq_true,Bool.and_eq_true] at h2';obtain⟨_,b0,b1⟩:=closed_bd h2'.2.1;intro i hi;by_cases e:i<S.length
   ·have:=h i e;simp only [List.getD,List.getElem?_append_left e];exact this
   ·obtain rfl:i=S.length:=by simp at hi;omega
    simp [List.getD];omega
  ·rw [if_neg h2];exact h
 ·rw [if_neg h1];exact fun i hi=>by simp at hi
theorem logged_bd{L:List K}{C S:List Int}{T:List (List Int)}{s:Int}(h40:S.length≤40)(hts:T.length=S.length)(hrow:∀i,i<T.length→(T.getD i []).length≤3660) :
  (seenL L C S T s).length≤40∧(toldL L C S T s).length=(seenL L C S T s).length∧∀i,i<(toldL L C S T s).length→((toldL L C S T s).getD i []).length≤3660:=by
 unfold seenL toldL;by_cases h1:logB L C S T=true
 ·rw [if_pos h1,if_pos h1];by_cases h2:goesB L C S T s=true
  ·rw [if_pos h2,if_pos h2];have h2':=h2;unfold goesB at h2';rw [Bool.and_eq_true,Bool.and_eq_true] at h2';obtain⟨q1,q2,q3,q4,_⟩:=log_parts h2'.2.2;refine⟨q1,by simp [hts],fun i hi=>?_⟩;by_cases e:i<T.length
   ·rw [getD_snoc T _ i e];exact hrow i e
   ·have e':i=T.length:=by simp at hi;omega
    rw [e',getD_last];exact out_len h2'.2.1 q4
  ·rw [if_neg h2,if_neg h2];exact⟨h40,hts,hrow⟩
 ·rw [if_neg h1,if_neg h1];exact⟨by simp,rfl,fun i hi=>by simp at hi⟩
end Lg
namespace Lg
open Kn (K okK)
open Lc (at' RdK WordsOk laceB OwnK)
open Sg (closedB NumsPost)
open Tl (outL beginsB)
open Rm (Fr FrC DrawsRoom DrawsRoomC LcSt)
def FarL(b:Nat)(so qo:Option Addr)(T:List (List Int))(f:At):Prop:=(∀g,so=some ⟨g,0,none⟩→g≠b)∧(∀i,i<T.length→∀g,(f i).1=some ⟨g,0,none⟩→g≠b)∧(∀g o,qo=some ⟨g,o,none⟩→g≠b)
theorem lies_fr{b:Nat}{W W':World}{so:Option Addr}{sc:Nat}{S:List Int}{qo:Option Addr}{tc:Nat}{T:List (List Int)}{f:At}(h:LLies W so sc S qo tc T f)(hb:FarL b so qo T f)(hf:Fr (fun x=>x=b) W W'):LLies W' so sc S qo tc T f:=by
 refine⟨⟨?_,fun c e=>Nat.lt_of_lt_of_le (h.rd.seenB c e) hf.size,?_,fun i hi=>?_,fun i hi c e=>Nat.lt_of_lt_of_le (h.rd.rowB i hi c e) hf.size⟩,h.sn,h.tn,h.s41,h.t41,h.row,h.fit,h.sb⟩
 ·rcases h.rd.seen with q | ⟨g,q,k⟩
  ·exact .inl q
  ·exact .inr ⟨g,q,fun j hj=>(hf.cell (p:=⟨g,j,none⟩) (h.rd.seenB g q) (hb.1 g q)).trans (k j hj)⟩
 ·rcases h.rd.told with q | ⟨tb,off,q,hlt,k⟩
  ·exact .inl q
  ·exact .inr ⟨tb,off,q,Nat.lt_of_lt_of_le hlt hf.size,fun i hi=>(hf.cell (p:=⟨tb,off+i,none⟩) hlt (hb.2.2 tb off q)).trans (k i hi)⟩
 ·rcases h.rd.row i hi with q | ⟨g,q,k⟩
  ·exact .inl q
  ·exact .inr ⟨g,q,fun j hj=>(hf.cell (p:=⟨g,j,none⟩) (h.rd.rowB i hi g q) (hb.2.1 i hi g q)).trans (k j hj)⟩
structure LgZ(c:Nat)(a:Option Addr)(len cap:Nat)(w W:World)(gb:Nat)(v:Value)(L:List K)(ao:Option Addr)(cc:Nat)(C:List Int)(so:Option Addr)(sc:Nat)(S:List Int)(qo:Option Addr)(tc:Nat)(T:List (List Int))(f:At):Prop where
 at':Cur.At c a len cap W
 fr:FrC c w W
 r0:W.cell? ⟨w.heap.size,0,none⟩=some (.slice none 0 0)
 r1:W.cell? ⟨w.heap.size,1,none⟩=some (.slice none 0 0)
 g0:W.frozen? ⟨w.heap.size,0,none⟩=false
 g1:W.frozen? ⟨w.heap.size,1,none⟩=false
 rl:w.heap.size<W.heap.size
 lo:OwnK 38 (w.heap.size+1) W v L
 l61:L.length≤61
 wd:∀k∈L,k.word.size≤13
 co:Memb.Own (w.heap.size+1) W ao cc C
 c7:C.length≤7
 b0:W.cell? ⟨gb,0,none⟩=some (.slice so S.length sc)
 b1:W.cell? ⟨gb,1,none⟩=some (.slice qo T.length tc)
 gl:w.heap.size<gb
 lg:LLies W so sc S qo tc T f
 far:∀b,b≤w.heap.size→FarL b so qo T f
section
variable {c:Nat} {a:Option Addr} {len cap:Nat} {w W:World} {gb:Nat} {v:Value} {L:List K} {ao:Option Addr} {cc:Nat} {C:List Int} {so:Option Addr} {sc:Nat} {S:List Int} {vo:Option Addr} {vc:Nat} {T:List (List Int)} {f:At}
theorem rows_ne{w:World}{B B' sz sz':Nat}{t t':TypeId}{v v':Value}{n n':Nat}{xs xs':List Value}(h:w.ownsRow B t sz v n xs)(h':w.ownsRow B' t' sz' v' n' xs')(ht:t≠t'):∀g,v.ownBlock=some g→v'.ownBlock≠some g:=by
 intro g e e';rcases h.2 with⟨q,_⟩ | ⟨g1,c1,u1,q,_,k1,_⟩
 ·rw [q] at e;simp [Value.ownBlock] at e
 rcases h'.2 with⟨q',_⟩ | ⟨g2,c2,u2,q',_,k2,_⟩
 ·rw [q'] at e';simp [Value.ownBlock] at e'
 rw [q] at e;rw [q'] at e';simp [Value.ownBlock] at e e';subst e e';rw [k1] at k2;simp at k2;exact ht k2.2
theorem own_cap{B:Nat}{w:World}{a:Option Addr}{cap:Nat}{l:List Int}(h:Memb.Own B w a cap l):l.length≤cap:=by
 rcases h.2 with⟨_,e⟩ | ⟨g,c,cur,e,_,_,hc,_⟩
 ·omega
 ·injection e with _ _ e;rw [e];exact hc
theorem far_own{n0:Nat}{so:Option Addr}{sc:Nat}{S:List Int}{vo:Option Addr}{vc:Nat}{T:List (List Int)}{f:At}{W:World}(h1:Memb.Own (n0+1) W so sc S)(h2:OwnLL (n0+1) W (.slice vo T.length vc) T f):∀b,b≤n0→FarL b so vo T f:=by
 intro b hb;refine⟨fun g e=>?_,fun i hi g e=>?_,fun g o e=>?_⟩
 ·have:=(World.ownsRow.lt h1 g (by rw [e];rfl)).1;omega
 ·have:=(World.ownsRow.lt (h2.each i hi) g (by rw [e];rfl)).1;omega
 ·have:=(World.ownsRow.lt h2.row g (by rw [e];rfl)).1;omega
theorem lg_z(s:LgSt c a len cap w W gb v L ao cc C so sc S vo vc T f):LgZ c a len cap w W gb v L ao cc C so sc S vo vc T f:=by
 obtain⟨h1,h2,h3⟩:=own_log s.x.own s.x.ll;exact⟨s.at',s.fr,s.r0,s.r1,s.g0,s.g1,s.rl,s.lo,s.l61,s.wd,s.co,s.c7,s.x.x0,s.x.x1,s.x.bx,⟨h1,h2,h3,by have:=s.s40;omega,by have:=s.s40;have:=s.ts;omega,fun i hi=>by have:=s.row i hi;omega,own_cap s.x.own,s.sb⟩,far_own s.x.own s.x.ll⟩
theorem z_base{W':World}(s:LgSt c a len cap w W gb v L ao cc C so sc S vo vc T f)(hcb:Rm.CurB c a len w.heap.size){Z:Nat→Prop}(hf:Fr Z W W')(hB:∀y,Z y→w.heap.size+1≤y)(hv:∀y,v.ownBlock=some y→¬ Z y)(hc:∀g,ao=some ⟨g,0,none⟩→¬ Z g) :
  Cur.At c a len cap W'∧FrC c w W'∧(W'.cell? ⟨w.heap.size,0,none⟩=some (.slice none 0 0)∧W'.cell? ⟨w.heap.size,1,none⟩=some (.slice none 0 0)∧W'.frozen? ⟨w.heap.size,0,none⟩=false∧W'.frozen? ⟨w.heap.size,1,none⟩=false)∧w.heap.size<W'.heap.size∧OwnK 38 (w.heap.size+1) W' v L∧Memb.Own (w.heap.size+1) W' ao cc C:=by
 have hn:¬ Z w.heap.size:=fun h=>by have:=hB _ h;omega
 refine⟨Rm.at_belowB s.at' hcb (hf.toBelow (Nat.le_of_lt s.rl) (fun y hy=>by have:=hB y hy;omega)),s.fr.trans hf (fun y hy hl=>by have:=hB y hy;omega),⟨(hf.cell (p:=⟨w.heap.size,0,none⟩) s.rl hn).trans s.r0,(hf.cell (p:=⟨w.heap.size,1,none⟩) s.rl hn).trans s.r1,(hf.frozen (p:=⟨w.heap.size,0,none⟩) s.rl hn).trans s.g0,(hf.frozen (p:=⟨w.heap.size,1,none⟩) s.rl hn).trans s.g1⟩,Nat.lt_of_lt_of_le s.rl hf.size,⟨Rm.own_fr hf s.lo.1 hv,s.lo.2⟩,Rm.own_fr hf s.co (fun y hy=>?_)⟩
 cases ao with
 | none=>simp [Value.ownBlock] at hy
 | some x=>
  obtain⟨b,o,sp⟩:=x;rcases s.co.2 with⟨e,_⟩ | ⟨g,c1,u1,e,_⟩
  ·cases e
  ·injection e with e _ _;injection e with e;rw [e] at hy;simp [Value.ownBlock] at hy;subst hy;exact hc _ (by rw [e])
theorem z_seen(s:LgSt c a len cap w W gb v L ao cc C so sc S vo vc T f)(hcb:Rm.CurB c a len w.heap.size)(hS:0<S.length)(y:Int)(hy:-9223372036854775808≤y∧y≤9223372036854775807) :
   ∃sb S',so=some ⟨sb,0,none⟩∧(∃u,W.cell? ⟨sb,0,none⟩=some u)∧W.frozen? ⟨sb,0,none⟩=false∧S'.length=S.length∧LgZ c a len cap w (W.setCell ⟨sb,0,none⟩ (.int .i64 y)) gb v L ao cc C so sc S' vo vc T f:=by
 have own:=s.x.own;have hown:=own;obtain⟨x,S0,rfl⟩:=List.exists_cons_of_length_pos hS;rcases own.2 with⟨_,e⟩ | ⟨sb,c1,u1,e,hsb,hh,_⟩
 · simp at e
 injection e with e _ _;subst e;have hf:=Fr.set W ⟨sb,0,none⟩ (.int .i64 y);have hlt:sb<W.heap.size:=(World.ownsRow.lt hown sb rfl).2;have ne1:gb≠sb:=fun q=>ty_any hown (by decide) s.x.ty (by rw [q];rfl)
 have ne2:∀i,i<T.length→(f i).1≠some ⟨sb,0,none⟩:=fun i hi q=>s.x.ap i hi sb q rfl
 obtain⟨h1,h2,⟨h3,h4,h5,h6⟩,h7,h8,h9⟩:=z_base s hcb hf (fun q hq=>by have e:q=sb:=hq;rw [e];exact hsb) (fun q hq e=>by have e':q=sb:=e;subst e';exact rows_ne s.lo.1 hown (by decide) q hq rfl) (fun g e q=>by have e':g=sb:=q;subst e';exact(s.ac g e).1 rfl);have st:Memb.Own (w.heap.size+1) (W.setCell ⟨sb,0,none⟩ (.int .i64 y)) (some ⟨sb,0,none⟩) sc (y :: S0):=(World.ownsRow.stored hown 0 (.int .i64 y)).1;have ll2 : OwnLL (w.heap.size + 1) (W.setCell ⟨sb, 0, none⟩ (.int .i64 y)) (.slice vo T.length vc) T f := ⟨Rm.own_fr hf s.x.ll.row (fun g hg e => by have e' : g = sb := e; subst e'; exact rows_ne s.x.ll.row hown (by decide) g hg rfl), fun i hi => Rm.own_fr hf (s.x.ll.each i hi) (fun g hg e=>by
   have e':g=sb:=e;subst e';rcases(s.x.ll.each i hi).2 with⟨q,_⟩ | ⟨g1,_,_,q,_⟩
   · injection q with q _ _;rw [q] at hg;simp [Value.ownBlock] at hg
   · injection q with q _ _;rw [q] at hg;simp [Value.ownBlock] at hg;subst hg;exact ne2 i hi q),s.x.ll.ap⟩
 obtain⟨k1,k2,k3⟩:=own_log st ll2;have z:=lg_z s;refine ⟨sb, y :: S0, rfl, ⟨_, World.ownsRow.cellAt hown 0 (by simp)⟩, World.ownsRow.frozenAt hown 0, rfl, ⟨h1, h2, h3, h4, h5, h6, h7, h8, s.l61, s.wd, h9, s.c7, (World.cell?_setCell_other _ _ _ _ (by intro e; injection e with e; exact ne1 e.symm)).trans s.x.x0, (World.cell?_setCell_other _ _ _ _ (by intro e; injection e with e; exact ne1 e.symm)).trans s.x.x1, s.x.bx, ⟨k1,k2,k3,z.lg.s41,z.lg.t41,z.lg.row,z.lg.fit,fun i hi=>by
   cases i with
   | zero=>exact hy
   | succ i=>exact z.lg.sb (i+1) hi⟩,z.far⟩⟩
theorem own_blk{B:Nat}{w:World}{a:Option Addr}{cap:Nat}{l:List Int}(h:Memb.Own B w a cap l){g:Nat}(hg:(Value.slice a l.length cap).ownBlock=some g):a=some ⟨g,0,none⟩:=by
 rcases h.2 with⟨e,_⟩ | ⟨g',_,_,e,_⟩
 ·injection e with e;rw [e] at hg;simp [Value.ownBlock] at hg
 ·injection e with e _ _;rw [e] at hg;simp [Value.ownBlock] at hg;rw [e,hg]
theorem own_frA{Z:Nat→Prop}{B:Nat}{w w':World}{a:Option Addr}{cap:Nat}{l:List Int}(h:Memb.Own B w a cap l)(hf:Fr Z w w')(hz:∀g,a=some ⟨g,0,none⟩→¬ Z g):Memb.Own B w' a cap l:=
 Rm.own_fr hf h (fun y hy=>hz y (own_blk h hy))
theorem own_ltA{B:Nat}{w:World}{a:Option Addr}{cap:Nat}{l:List Int}(h:Memb.Own B w a cap l):∀g,a=some ⟨g,0,none⟩→g<w.heap.size:=fun g e=>by subst e;exact(World.ownsRow.lt h g rfl).2
theorem own_nilA{B:Nat}{w:World}{a:Option Addr}{cap:Nat}{l:List Int}(h:Memb.Own B w a cap l)(e:a=none):cap=0:=by
 subst e;rcases h.2 with⟨e,_⟩ | ⟨g,c,cur,e,_⟩
 ·injection e
 ·injection e with e _ _;cases e
theorem told_blk(s:LgSt c a len cap w W gb v L ao cc C so sc S vo vc T f)(hT:0<T.length):∃tb,vo=some ⟨tb,0,none⟩∧tb<W.heap.size∧w.heap.size+1≤tb∧(∀i,i<T.length→W.cell? ⟨tb,i,none⟩=some (.slice (f i).1 (T.getD i []).length (f i).2))∧∀i,W.frozen? ⟨tb,i,none⟩=false:=by
 have row:=s.x.ll.row;rcases row.2 with⟨_,e⟩ | ⟨tb,c1,u1,e,hB,_⟩
 ·omega
 ·injection e with e _ _;subst e;have h:=World.ownsRow.lt row tb rfl;refine⟨tb,rfl,h.2,h.1,fun i hi=>?_,fun i=>World.ownsRow.frozenAt row i⟩;rw [World.ownsRow.cellAt row i (by omega),vals_get f T i hi]
theorem z_told{V3:World}{o:Obj}{v3:Value}{tb:Nat}(s:LgSt c a len cap w W gb v L ao cc C so sc S (some ⟨tb,0,none⟩) vc T f)(hcb:Rm.CurB c a len w.heap.size)(hT:0<T.length)(h3:V3.ownsRow (w.heap.size+1) 2 1 v3 ((T.getD 0 []).length+1) ((T.getD 0 []).map (Value.int .i64)++[.int .i64 0]))
   (hg:(W.alloc o).grownBy V3 (Value.slice (f 0).1 (T.getD 0 []).length (f 0).2).ownBlock) :
   V3.cell? ⟨gb,1,none⟩=some (.slice (some ⟨tb,0,none⟩) T.length vc)∧(∃u,V3.cell? ⟨tb,0,none⟩=some u)∧V3.frozen? ⟨tb,0,none⟩=false∧∃T' f',T'.length=T.length∧LgZ c a len cap w (V3.setCell ⟨tb,0,none⟩ v3) gb v L ao cc C so sc S (some ⟨tb,0,none⟩) vc T' f':=by
 have s1:=s.below ((Below.refl _ W).alloc (Nat.le_refl _) o);obtain⟨tb',e,htl,htB,htc,htf⟩:=told_blk s1 hT;injection e with e;injection e with e;subst e;have each0:=s1.x.ll.each 0 hT;obtain⟨g3,c3,e3⟩:∃g3 c3,v3=.slice (some ⟨g3,0,none⟩) ((T.getD 0 []).length+1) c3:=by
   rcases h3.2 with⟨_,e⟩ | ⟨g,c,cur,e,_⟩
   · omega
   · exact⟨g,c,e⟩
 subst e3;have hf1:Fr (fun x=>(f 0).1=some ⟨x,0,none⟩) (W.alloc o) V3:=(Fr.of_own hg).mono (fun x hx _=>own_blk each0 hx);have hf2:=Fr.set V3 ⟨tb,0,none⟩ (.slice (some ⟨g3,0,none⟩) ((T.getD 0 []).length+1) c3);have hf:Fr (fun x=>(f 0).1=some ⟨x,0,none⟩∨x=tb) (W.alloc o) (V3.setCell ⟨tb,0,none⟩ (.slice (some ⟨g3,0,none⟩) ((T.getD 0 []).length+1) c3)):=(hf1.mono (fun x hx _=>.inl hx)).trans hf2 (fun x hx _=>.inr hx);have rowb:∀g,(f 0).1=some ⟨g,0,none⟩→w.heap.size+1≤g:=fun g e=>(World.ownsRow.lt each0 g (by rw [e];rfl)).1
 have tne:∀i,i<T.length→∀g,(f i).1=some ⟨g,0,none⟩→g≠tb:=fun i hi g e q=>by
   subst q;exact rows_ne (s1.x.ll.each i hi) s1.x.ll.row (by decide) g (by rw [e];rfl) rfl
 have ap0:∀i,i<T.length→i≠0→∀g,(f i).1=some ⟨g,0,none⟩→(f 0).1≠some ⟨g,0,none⟩:=fun i hi h0 g e q=>s1.x.ll.ap 0 i (by omega) hi g q e
 have tn0:(f 0).1≠some ⟨tb,0,none⟩:=fun q=>tne 0 hT tb q rfl
 obtain ⟨h1, h2, ⟨h3', h4, h5, h6⟩, h7, h8, h9⟩ := z_base s1 hcb hf (fun q hq => by rcases hq with hq | hq; exact rowb q hq; rw [hq]; exact htB) (fun q hq e=>by
     rcases e with e | e
     · exact rows_ne s1.lo.1 each0 (by decide) q hq (by rw [e];rfl)
     · subst e; exact rows_ne s1.lo.1 s1.x.ll.row (by decide) q hq rfl) (fun g e q=>by
     rcases q with q | q
     · exact(s1.ac g e).2 0 hT q
     · subst q;exact rows_ne s1.co s1.x.ll.row (by decide) g (by rw [e];rfl) rfl)
 have gbn:¬ ((f 0).1=some ⟨gb,0,none⟩∨gb=tb):=fun q=>by
   rcases q with q | q
   · exact ty_any each0 (by decide) s1.x.ty (by rw [q];rfl)
   · exact ty_any s1.x.ll.row (by decide) s1.x.ty (by rw [q];rfl)
 have seen : Memb.Own (w.heap.size + 1) (V3.setCell ⟨tb, 0, none⟩ (.slice (some ⟨g3, 0, none⟩) ((T.getD 0 []).length + 1) c3)) so sc S := own_frA s1.x.own hf (fun g e q=>by
   rcases q with q | q
   · exact s1.x.ap 0 hT g q e
   · subst q;exact rows_ne s1.x.own s1.x.ll.row (by decide) g (by rw [e];rfl) rfl)
 have g3n:g3≠tb:=fun q=>by
   subst q;have t3:V3.ownsRow (w.heap.size+1) 25 1 (.slice (some ⟨g3,0,none⟩) T.length vc) T.length (vals f T):=Rm.own_fr hf1 s1.x.ll.row (fun y hy q=>tn0 (by simp [Value.ownBlock] at hy;rw [hy];exact q));exact rows_ne h3 t3 (by decide) g3 rfl rfl
 have new:Memb.Own (w.heap.size+1) (V3.setCell ⟨tb,0,none⟩ (.slice (some ⟨g3,0,none⟩) ((T.getD 0 []).length+1) c3)) (some ⟨g3,0,none⟩) c3 (T.getD 0 []++[0]):=by
   have h3a:Memb.Own (w.heap.size+1) V3 (some ⟨g3,0,none⟩) c3 (T.getD 0 []++[0]):=by
     unfold Memb.Own;rw [List.length_append,List.length_singleton,List.map_append];exact h3
   exact own_frA h3a hf2 (fun g e q=>by injection e with e;injection e with e;subst e;exact g3n q)
 have rest : ∀ i, i < T.length → i ≠ 0 → Memb.Own (w.heap.size + 1) (V3.setCell ⟨tb, 0, none⟩ (.slice (some ⟨g3, 0, none⟩) ((T.getD 0 []).length + 1) c3)) (f i).1 (f i).2 (T.getD i []) := fun i hi h0 => own_frA (s1.x.ll.each i hi) hf (fun g e q=>by
   rcases q with q | q
   · exact ap0 i hi h0 g e q
   · exact tne i hi g e q)
 have c0:V3.cell? ⟨tb,0,none⟩=some (.slice (f 0).1 (T.getD 0 []).length (f 0).2):=(hf1.cell (p:=⟨tb,0,none⟩) htl tn0).trans (htc 0 hT);have z:=lg_z s1;have hsz:tb<(V3.setCell ⟨tb,0,none⟩ (.slice (some ⟨g3,0,none⟩) ((T.getD 0 []).length+1) c3)).heap.size:=Nat.lt_of_lt_of_le htl hf.size;obtain⟨T',hT'⟩:∃T',T'=(T.getD 0 []++[0]) :: T.tail:=⟨_,rfl⟩
 have hl:T'.length=T.length:=by rw [hT'];simp;omega
 have e0:T'.getD 0 []=T.getD 0 []++[0]:=by rw [hT'];rfl
 have e1:∀i,i≠0→T'.getD i []=T.getD i []:=fun i hi=>by
   rw [hT'];obtain⟨j,rfl⟩:=Nat.exists_eq_succ_of_ne_zero hi
   cases T with
   | nil=>simp at hT
   | cons t0 ts=>simp [List.getD]
 refine⟨(hf1.cell (p:=⟨gb,1,none⟩) s1.x.lt (fun q=>gbn (.inl q))).trans s1.x.x1,⟨_,c0⟩,(hf1.frozen (p:=⟨tb,0,none⟩) htl tn0).trans (htf 0),T',put f 0 (some ⟨g3,0,none⟩,c3),hl,⟨h1,h2,h3',h4,h5,h6,h7,h8,s.l61,s.wd,h9,s.c7,(hf.cell (p:=⟨gb,0,none⟩) s1.x.lt gbn).trans s1.x.x0,by rw [hl];exact(hf.cell (p:=⟨gb,1,none⟩) s1.x.lt gbn).trans s1.x.x1,s.x.bx,⟨⟨Lst.own_rd seen,own_ltA seen,.inr ⟨tb,0,rfl,hsz,fun i hi=>?_⟩,fun i hi=>?_,fun i hi=>?_⟩,own_nilA seen,fun i hi=>?_,z.lg.s41,by rw [hl];exact z.lg.t41,fun i hi=>?_,z.lg.fit,z.lg.sb⟩,fun b hb=>⟨(z.far b hb).1,fun i hi=>?_,(z.far b hb).2.2⟩⟩⟩
 all_goals rw [hl] at hi
 all_goals by_cases q:i=0
 · subst q;rw [e0];have:put f 0 (some ⟨g3,0,none⟩,c3) 0=(some ⟨g3,0,none⟩,c3):=by simp [put]
   rw [this];refine(World.cell?_setCell_same _ _ _ c0).trans ?_;simp
 · rw [e1 i q];have:put f 0 (some ⟨g3,0,none⟩,c3) i=f i:=by simp [put,q]
   rw [this,Nat.zero_add];exact(World.cell?_setCell_other _ _ _ _ (by intro e;injection e with _ e;exact q e.symm)).trans ((hf1.cell (p:=⟨tb,i,none⟩) htl tn0).trans (htc i hi))
 · subst q;rw [e0];exact Lst.own_rd new
 · rw [e1 i q];have:put f 0 (some ⟨g3,0,none⟩,c3) i=f i:=by simp [put,q]
   rw [this];exact Lst.own_rd (rest i hi q)
 · subst q;exact own_ltA new
 · have:put f 0 (some ⟨g3,0,none⟩,c3) i=f i:=by simp [put,q]
   rw [this];exact own_ltA (rest i hi q)
 · subst q;exact own_nilA new
 · have:put f 0 (some ⟨g3,0,none⟩,c3) i=f i:=by simp [put,q]
   rw [this];exact own_nilA (rest i hi q)
 · subst q;rw [e0,List.length_append,List.length_singleton];have:=s.row 0 hT;omega
 · rw [e1 i q];have:=s.row i hi;omega
 · subst q;intro g e;have e':g=g3:=by simp [put] at e;exact e.symm
   have:=(World.ownsRow.lt new g3 rfl).1;omega
 · have:put f 0 (some ⟨g3,0,none⟩,c3) i=f i:=by simp [put,q]
   rw [this];exact(z.far b hb).2.1 i hi
theorem z_cut{tb:Nat}(s:LgSt c a len cap w W gb v L ao cc C so sc S (some ⟨tb,0,none⟩) vc T f)(hcb:Rm.CurB c a len w.heap.size)(hT:0<T.length)(n tc off:Nat)(hn:n=T.length-1)(ho:off=1∨n=0) :
  ∃T' f',T'.length=n∧LgZ c a len cap w (W.setCell ⟨gb,1,none⟩ (.slice (some ⟨tb,off,none⟩) n tc)) gb v L ao cc C so sc S (some ⟨tb,off,none⟩) tc T' f':=by
 obtain⟨tb',e,htl,htB,htc,htf⟩:=told_blk s hT;injection e with e;injection e with e;subst e;have hf:=Fr.set W ⟨gb,1,none⟩ (.slice (some ⟨tb,off,none⟩) n tc);have hgb:=s.x.bx;obtain⟨h1,h2,⟨h3,h4,h5,h6⟩,h7,h8,h9⟩:=z_base s hcb hf (fun q hq=>by have e:q=gb:=hq;rw [e];exact hgb) (fun q hq e=>by have e':q=gb:=e;subst e';exact ty_any s.lo.1 (by decide) s.x.ty hq) (fun g e q=>by have e':g=gb:=q;subst e';exact ty_any s.co (by decide) s.x.ty (by rw [e];rfl));have seen:=own_frA s.x.own hf (fun g e q=>by have e':g=gb:=q;subst e';exact ty_any s.x.own (by decide) s.x.ty (by rw [e];rfl));have rest:∀i,i<T.length→Memb.Own (w.heap.size+1) (W.setCell ⟨gb,1,none⟩ (.slice (some ⟨tb,off,none⟩) n tc)) (f i).1 (f i).2 (T.getD i []):=fun i hi=>own_frA (s.x.ll.each i hi) hf (fun g e q=>by have e':g=gb:=q;subst e';exact ty_any (s.x.ll.each i hi) (by decide) s.x.ty (by rw [e];rfl))
 have tgn:tb≠gb:=fun q=>ty_any s.x.ll.row (by decide) s.x.ty (by rw [← q];rfl)
 have z:=lg_z s;have hl:T.tail.length=n:=by simp;omega
 have e1:∀i,T.tail.getD i []=T.getD (i+1) []:=fun i=>by cases T <;> simp [List.getD]
 refine⟨T.tail,fun i=>f (i+1),hl,⟨h1,h2,h3,h4,h5,h6,h7,h8,s.l61,s.wd,h9,s.c7,(World.cell?_setCell_other _ _ _ _ (by simp)).trans s.x.x0,by rw [hl];exact World.cell?_setCell_same _ _ _ s.x.x1,hgb,⟨⟨Lst.own_rd seen,own_ltA seen,?_,fun i hi=>?_,fun i hi=>?_⟩,own_nilA seen,fun i hi=>?_,z.lg.s41,by have:=z.lg.t41;omega,fun i hi=>?_,z.lg.fit,z.lg.sb⟩,fun b hb=>⟨(z.far b hb).1,fun i hi=>(z.far b hb).2.1 (i+1) (by omega),fun g o e=>by injection e with e;injection e with e;subst e;exact(z.far b hb).2.2 tb 0 rfl⟩⟩⟩
 ·rcases ho with rfl | h0;rotate_left
  ·left;exact List.length_eq_zero_iff.1 (by omega)
  refine .inr ⟨tb,1,rfl,by simpa using htl,fun i hi=>?_⟩;rw [e1];refine(World.cell?_setCell_other _ _ _ _ (by intro e;injection e with e _;exact tgn e.symm)).trans ?_;rw [Nat.add_comm 1 i];exact htc (i+1) (by omega)
 ·rw [e1];exact Lst.own_rd (rest (i+1) (by omega))
 ·exact own_ltA (rest (i+1) (by omega))
 ·exact own_nilA (rest (i+1) (by omega))
 ·rw [e1];have:=s.row (i+1) (by omega);omega
theorem z_fin{qo:Option Addr}{tc:Nat}(z:LgZ c a len cap w W gb v L ao cc C so sc S qo tc T f)(hcb:Rm.CurB c a len w.heap.size)(hc:c<w.heap.size) :
  ((W.setCell ⟨w.heap.size,0,none⟩ (.slice so S.length sc)).cell? ⟨w.heap.size,1,none⟩=some (.slice none 0 0)∧(W.setCell ⟨w.heap.size,0,none⟩ (.slice so S.length sc)).frozen? ⟨w.heap.size,1,none⟩=false) ∧
  ∀V,V=(W.setCell ⟨w.heap.size,0,none⟩ (.slice so S.length sc)).setCell ⟨w.heap.size,1,none⟩ (.slice qo T.length tc) →
   V.cell? ⟨w.heap.size,0,none⟩=some (.slice so S.length sc)∧V.cell? ⟨w.heap.size,1,none⟩=some (.slice qo T.length tc)∧LcSt c a len cap w V v L ao cc C∧LLies V so sc S qo tc T f∧∀b,b≤w.heap.size→FarL b so qo T f:=by
 have x1':(W.setCell ⟨w.heap.size,0,none⟩ (.slice so S.length sc)).cell? ⟨w.heap.size,1,none⟩=some (.slice none 0 0):=(World.cell?_setCell_other _ _ _ _ (by simp)).trans z.r1;refine⟨⟨x1',by simpa using z.g1⟩,?_⟩;rintro V rfl;have hf:=(Fr.set W ⟨w.heap.size,0,none⟩ (.slice so S.length sc)).trans (Fr.set (W.setCell ⟨w.heap.size,0,none⟩ (.slice so S.length sc)) ⟨w.heap.size,1,none⟩ (.slice qo T.length tc)) (fun _ h _=>h);have hB:Below w.heap.size W _:=hf.toBelow (Nat.le_of_lt z.rl) (fun y hy=>by have e:y=w.heap.size:=hy;omega);refine⟨(World.cell?_setCell_other _ _ _ _ (by simp)).trans (World.cell?_setCell_same _ _ _ z.r0),World.cell?_setCell_same _ _ _ x1',⟨Rm.at_belowB z.at' hcb hB,(z.fr.trans hf (fun y hy hl=>by have e:y=w.heap.size:=hy;omega)).grown,Rm.ownK_base (B:=w.heap.size+1) ⟨Rm.own_fr hf z.lo.1 (fun y hy e=>by have e':y=w.heap.size:=e;have:=(World.ownsRow.lt z.lo.1 y hy).1;omega),z.lo.2⟩ (Nat.le_succ _),z.l61,z.wd,Ch.own_base (own_frA z.co hf (fun g e q=>by have e':g=w.heap.size:=q;have:=(World.ownsRow.lt z.co g (by rw [e];rfl)).1;omega)) (Nat.le_succ _),z.c7⟩,lies_fr z.lg (z.far _ (Nat.le_refl _)) hf,z.far⟩
theorem snoc_shape{V:World}{B:Nat}{t:TypeId}{sz n:Nat}{v:Value}{xs:List Value}(h:V.ownsRow B t sz v (n+1) xs):∃g c,v=.slice (some ⟨g,0,none⟩) (n+1) c:=by
 rcases h.2 with⟨_,e⟩ | ⟨g,c,cur,e,_⟩
 ·omega
 ·exact⟨g,c,e⟩
theorem row_cap{V:World}{B:Nat}{t:TypeId}{sz n cp:Nat}{a:Addr}{xs:List Value}(h:V.ownsRow B t sz (.slice (some a) n cp) n xs):n≤cp:=by
 rcases h.2 with⟨e,_⟩ | ⟨g,c,cur,e,_,_,hc,_⟩
 ·cases e
 ·injection e with _ _ e;rw [e];exact hc
end
end Lg
end Go.Proofs.YtbkeldfbllhlbaaGreat
