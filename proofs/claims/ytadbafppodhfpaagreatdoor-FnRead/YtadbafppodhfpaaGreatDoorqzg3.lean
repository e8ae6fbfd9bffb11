/-
 Plain mathematics of books: what a text reads as a deed, that a right deed keeps a right book right, and where a key stands in a right book. No program in it.
-/
import Derived.Deep.OwnRows
import Derived.Deep.RegionLaw
import Derived.Deep.AppendLies
import Derived.Laws.OwnMore
import Derived.Below
import Derived.Lib.SmallJoins
import Derived.Laws.CopyOwn
import Derived.Maps.AppendAt
import Derived.Deep.AppendSrc
import Derived.Lib.AppendZerosOnto
import Derived.Lib.Overlaps
import Derived.Test.YtadbafppodhfpaaGreatDoorqzg1
import Derived.Laws.Cover1
set_option linter.unusedVariables false
set_option maxRecDepth 100000
set_option maxHeartbeats 3200000
namespace Go.Proofs.YtadbafppodhfpaaGreatDoor
open Go.RowKit
section
namespace Bk
structure En where
 key:ByteArray
 val:Int
def e0:En:=⟨⟨#[]⟩,0⟩
instance:Inhabited En:=⟨e0⟩
def atE(L:List En)(i:Nat):En:=L.getD i e0
theorem atE_take(L:List En)(m i:Nat)(h:i<m):atE (L.take m) i=atE L i:=by
 unfold atE;simp [List.getD,h]
theorem atE_drop(L:List En)(m i:Nat):atE (L.drop m) i=atE L (m+i):=by
 unfold atE;simp [List.getD]
theorem atE_mem(L:List En)(i:Nat)(h:i<L.length):atE L i∈L:=by
 unfold atE;simp [List.getD,List.getElem?_eq_getElem h]
theorem atE_get(L:List En)(i:Nat)(h:i<L.length):atE L i=L[i]:=by
 unfold atE;simp [List.getD,List.getElem?_eq_getElem h]
structure CellsE(w:World)(g o:Nat)(k:En):Prop where
 c0:w.cell? ⟨g,o,none⟩=some (.string k.key)
 c1:w.cell? ⟨g,o+1,none⟩=some (.int .i64 k.val)
def RdE(w:World)(ao:Option Addr)(L:List En):Prop:=
 L=[]∨∃g off,ao=some ⟨g,off,none⟩∧g<w.heap.size∧∀i,i<L.length→CellsE w g (off+i*2) (atE L i)
theorem CellsE.below{w w':World}{g o:Nat}{k:En}(h:CellsE w g o k)(hb:Below w.heap.size w w')(hg:g<w.heap.size):CellsE w' g o k where
 c0:=(hb.cell (p:=⟨g,o,none⟩) hg).trans h.c0
 c1:=(hb.cell (p:=⟨g,o+1,none⟩) hg).trans h.c1
theorem RdE.below{w w':World}{ao:Option Addr}{L:List En}(h:RdE w ao L)(hb:Below w.heap.size w w'):RdE w' ao L:=by
 rcases h with h | ⟨g,off,ha,hg,hc⟩
 ·exact .inl h
 ·exact .inr ⟨g,off,ha,Nat.lt_of_lt_of_le hg hb.size,fun i hi=>(hc i hi).below hb hg⟩
theorem RdE.take{w:World}{ao:Option Addr}{L:List En}(h:RdE w ao L)(n:Nat):RdE w ao (L.take n):=by
 rcases h with h | ⟨g,off,ha,hg,hc⟩
 ·exact .inl (by rw [h];simp)
 ·refine .inr ⟨g,off,ha,hg,fun i hi=>?_⟩;have hi':i<n∧i<L.length:=by simp at hi;omega
  rw [atE_take L n i hi'.1];exact hc i hi'.2
theorem RdE.at{w:World}{ao:Option Addr}{L:List En}(h:RdE w ao L)(i:Nat)(hi:i<L.length):∃g off,ao=some ⟨g,off,none⟩∧g<w.heap.size∧CellsE w g (off+i*2) (atE L i):=by
 rcases h with h | ⟨g,off,ha,hg,hc⟩
 ·rw [h] at hi;simp at hi
 ·exact⟨g,off,ha,hg,hc i hi⟩
theorem RdE.on{w:World}{g off:Nat}{L:List En}(h:RdE w (some ⟨g,off,none⟩) L)(i:Nat)(hi:i<L.length):g<w.heap.size∧CellsE w g (off+i*2) (atE L i):=by
 obtain⟨g',off',ha,hg,hc⟩:=h.at i hi;injection ha with ha;injection ha with h1 h2;subst h1 h2;exact⟨hg,hc⟩
def cellsE(k:En):List Value:=[.string k.key,.int .i64 k.val]
def flatE(L:List En):List Value:=L.flatMap cellsE
theorem flatE_len(L:List En):(flatE L).length=L.length*2:=by
 induction L with
 | nil=>rfl
 | cons k L ih=>unfold flatE at *;rw [List.flatMap_cons,List.length_append,ih];simp [cellsE];omega
theorem flatE_app(L M:List En):flatE (L++M)=flatE L++flatE M:=by unfold flatE;simp
theorem flatE_one(L:List En):∀u∈flatE L,u.oneCell'=true:=by
 intro u hu;unfold flatE at hu;obtain⟨k,_,hk⟩:=List.mem_flatMap.1 hu;simp [cellsE] at hk;rcases hk with rfl | rfl <;> rfl
theorem flatE_at(L:List En)(i c:Nat)(hi:i<L.length)(hc:c<2):(flatE L)[i*2+c]? = (cellsE (atE L i))[c]?:=by
 induction L generalizing i with
 | nil=>simp at hi
 | cons k L ih=>
  have e:flatE (k :: L)=cellsE k++flatE L:=by unfold flatE;simp
  rw [e]
  cases i with
  | zero=>
   rw [List.getElem?_append_left (by simp [cellsE];omega)];simp [atE,List.getD]
  | succ i=>
   rw [List.getElem?_append_right (by simp [cellsE];omega)];have:(i+1)*2+c-(cellsE k).length=i*2+c:=by simp [cellsE];omega
   rw [this,ih i (by simpa using hi)];simp [atE,List.getD]
theorem flatE_set(L:List En)(k:Nat)(hk:k<L.length)(x:Int):(flatE L).set (k*2+1) (.int .i64 x)=flatE (L.set k ⟨(atE L k).key,x⟩):=by
 induction L generalizing k with
 | nil=>simp at hk
 | cons a L ih=>
  have e:∀(a:En) (L:List En),flatE (a :: L)=.string a.key :: .int .i64 a.val :: flatE L:=fun a L=>by unfold flatE;simp [cellsE]
  cases k with
  | zero=>rw [e];simp [atE,List.getD,e]
  | succ k=>
   rw [e];have h1:(k+1)*2+1=(k*2+1)+1+1:=by omega
   rw [h1,List.set_cons_succ,List.set_cons_succ,ih k (by simpa using hk),List.set_cons_succ,e];simp [atE,List.getD]
theorem cellsE_at{w:World}{g o:Nat}{k:En}(h:CellsE w g o k)(c:Nat)(hc:c<2)(u:Value)(hu:(cellsE k)[c]? = some u):w.cell? ⟨g,o+c,none⟩=some u:=by
 match c,hc with
 | 0,_=>simp [cellsE] at hu;subst hu;exact h.c0
 | 1,_=>simp [cellsE] at hu;subst hu;exact h.c1
theorem rdE_news{w:World}{g off:Nat}{L:List En}(h:RdE w (some ⟨g,off,none⟩) L):∀(j:Nat) u,(flatE L)[j]? = some u→w.cell? ((⟨g,off,none⟩:Addr).add j)=some u:=by
 intro j u hj;have hlt:j<L.length*2:=by
  have:=(List.getElem?_eq_some_iff.1 hj).1;rwa [flatE_len] at this
 have e:j=j / 2*2+j % 2:=by omega
 have hc:=(h.on (j / 2) (by omega)).2;rw [e,flatE_at L (j / 2) (j % 2) (by omega) (by omega)] at hj;have:=cellsE_at hc (j % 2) (by omega) u hj;rw [WideShapes.add_plain];rwa [show off+j / 2*2+j % 2=off+j by omega] at this
theorem rdE_news'{w:World}{Aa:Addr}{L:List En}(h:RdE w (some Aa) L):∀(j:Nat) u,(flatE L)[j]? = some u→w.cell? (Aa.add j)=some u:=by
 rcases id h with rfl | ⟨g,off,ha,_,_⟩
 ·intro j u hj;simp [flatE] at hj
 ·injection ha with ha;subst ha;exact rdE_news h
theorem RdE.drop{w:World}{g off cap:Nat}{L:List En}(h:RdE w (some ⟨g,off,none⟩) L)(k:Nat)(hk:k≤L.length)(hc:L.length≤cap):∃Aa:Addr,(if cap=k then some (⟨g,off,none⟩:Addr) else some ⟨g,off+k*2,none⟩)=some Aa∧RdE w (some Aa) (L.drop k):=by
 by_cases he:cap=k
 ·exact⟨_,if_pos he,.inl (by simp;omega)⟩
 ·refine⟨_,if_neg he,?_⟩;rcases h with h | ⟨g',off',ha,hg,hcl⟩
  ·exact .inl (by rw [h];simp)
  ·injection ha with ha;injection ha with h1 h2;subst h1 h2;refine .inr ⟨g,off+k*2,rfl,hg,fun i hi=>?_⟩;have hi':k+i<L.length:=by simp at hi;omega
   rw [atE_drop];have:=hcl (k+i) hi';rwa [show off+(k+i)*2=off+k*2+i*2 by omega] at this
def OwE(base:Nat)(w:World)(g cap:Nat)(L:List En):Prop:=w.ownsRow base 56 2 (.slice (some ⟨g,0,none⟩) L.length cap) L.length (flatE L)
section
variable {base g cap:Nat} {w w':World} {L:List En}
theorem OwE.shape(h:OwE base w g cap L):L.length≤cap∧cap≤maxLen∧base≤g∧g<w.heap.size:=by
 have hlt:=World.ownsRow.lt h g rfl;obtain⟨hl,⟨hv0,_⟩ | ⟨g',cap',cur,hvs,hbg,hcur,hmc,hm,_,htake⟩⟩:=h
 ·exact absurd hv0 (by simp)
 ·injection hvs with ha _ hc;subst hc;exact⟨hmc,hm,hlt.1,hlt.2⟩
theorem OwE.rd(h:OwE base w g cap L):RdE w (some ⟨g,0,none⟩) L:=by
 refine .inr ⟨g,0,rfl,h.shape.2.2.2,fun i hi=>?_⟩;rw [Nat.zero_add];have a0:=flatE_at L i 0 hi (by omega);have a1:=flatE_at L i 1 hi (by omega);rw [Nat.add_zero] at a0;exact⟨(World.ownsRow.cellAt h (i*2) (by omega)).trans (by rw [a0];rfl),(World.ownsRow.cellAt h (i*2+1) (by omega)).trans (by rw [a1];rfl)⟩
theorem OwE.frozen(h:OwE base w g cap L)(j:Nat):w.frozen? ⟨g,j,none⟩=false:=World.ownsRow.frozenAt h j
theorem OwE.below(h:OwE base w g cap L)(hb:Below w.heap.size w w'):OwE base w' g cap L:=by
 have hlt:=World.ownsRow.lt h;obtain⟨h1,h2⟩:=h;refine⟨h1,?_⟩;rcases h2 with h2 | ⟨g,cap',cur,hv,hB,hg,rest⟩
 ·exact .inl h2
 ·refine .inr ⟨g,cap',cur,hv,hB,?_,rest⟩;rw [hb.block g (hlt g (by rw [hv];rfl)).2];exact hg
theorem OwE.alloc(h:OwE base w g cap L)(o:Obj):OwE base (w.alloc o) g cap L:=World.ownsRow.alloc h o
theorem OwE.mono{b:Nat}(h:OwE base w g cap L)(hb:b≤base):OwE b w g cap L:=Go.Joins.ownsRow_le h hb
theorem OwE.put(h:OwE base w g cap L)(k:Nat)(hk:k<L.length)(x:Int):OwE base (w.setCell ⟨g,k*2+1,none⟩ (.int .i64 x)) g cap (L.set k ⟨(atE L k).key,x⟩):=by
 have:=(World.ownsRow.stored h (k*2+1) (.int .i64 x)).1;rw [flatE_set L k hk x] at this;unfold OwE;rw [List.length_set];exact this
theorem OwE.of{v:Value}{n m:Nat}{M:List En}(hn:n=L.length)(hm:m=M.length)(h:w.ownsRow base 56 2 v (n+m) (flatE L++flatE M))(hv:v≠.slice none 0 0):∃g cap,v=.slice (some ⟨g,0,none⟩) (L++M).length cap∧OwE base w g cap (L++M):=by
 subst hn hm;rw [← flatE_app] at h;have e:L.length+M.length=(L++M).length:=by simp
 rw [e] at h;obtain⟨hl,⟨hv0,_⟩ | ⟨g',cap',cur,hvs,rest⟩⟩:=id h
 ·exact absurd hv0 hv
 ·subst hvs;exact⟨g',cap',rfl,h⟩
end
theorem owE_new(w:World):OwE w.heap.size (w.alloc (.cells #[] 56)) w.heap.size 0 []:=World.ownsRow_lit w #[] 0 (Nat.le_refl _) (by unfold maxLen;omega) rfl
theorem one_cells(W:World)(k:En)(t:TypeId):∀(j:Nat) u,(flatE [k])[j]? = some u→(W.alloc (.cells #[.string k.key,.int .i64 k.val] t)).cell? ((⟨W.heap.size,0,none⟩:Addr).add j)=some u:=by
 intro j u hj;match j,hj with
 | 0,hj=>simp [flatE,cellsE] at hj;subst hj;simp [Addr.add]
 | 1,hj=>simp [flatE,cellsE] at hj;subst hj;simp [Addr.add]
theorem infoE:(Tryz.prog.info? 56).map (fun i=>(i.zero,i.size,i.bytes))=some (some (.agg #[.string ⟨#[]⟩,.int .i64 0]),2,24):=by kernel_rfl
theorem step_E{ops:Array Oper}{o:Oper}{a:Act}{w:World}{K:Act→World→Prop}{Q:Exit→Act→World→Prop}{E:Prop}
  (hg:o.guard=none) (s x:Operand) (hop:o.op=Op.call { callee:=Callee.builtin Builtin.append,args:=#[s,x],argTypes:=#[26,26] })
  (B g c:Nat) (A M:List En) (hs:a.eval s=.slice (some ⟨g,0,none⟩) A.length c) (hown:OwE B w g c A) (ad:Addr) (m c2:Nat) (hm:m=M.length) (hx:a.eval x=.slice (some ad) m c2)
  (hrd:∀j u,(flatE M)[j]? = some u→w.cell? (ad.add j)=some u) (hsz:A.length+m≤4000000) (hB:B≤w.heap.size)
  (hK:∀g' c' w',OwE B w' g' c' (A++M)→w.grownBy w' (some g)→K (a.put o.dst (.slice (some ⟨g',0,none⟩) (A++M).length c')) w') :
  if Region.wanted o (yielded ops a.tmps)=true then Oper.wp Tryz.prog o a w K Q else E:=by
 obtain⟨i0,hi,hz0,hz1,hz2⟩:=info_parts infoE;rw [if_pos (by simp [Region.wanted,hg])];refine wp_append_own w s x 26 hop B 56 i0 (.agg #[.string ⟨#[]⟩,.int .i64 0]) 2 24 Tryz.underlying26 hi hz0 hz1 hz2 rfl (by decide) _ A.length (flatE A) hs hown ad m c2 (flatE M) hx (by rw [flatE_len,hm]) hrd (flatE_one M) (by unfold maxLen;omega) (by omega) hB ?_;intro v' w' hown' hgrow hnil;obtain⟨g',c',rfl,ho⟩:=OwE.of (L:=A) (M:=M) rfl hm hown' (by intro e;have:=(hnil.1 e).1;simp at this);exact hK g' c' w' ho hgrow
theorem list_E{ops:Array Oper}{rest:List Oper}{o:Oper}{a:Act}{w:World}{Q:Exit→Act→World→Prop}
  (hg:o.guard=none) (s x:Operand) (hop:o.op=Op.call { callee:=Callee.builtin Builtin.append,args:=#[s,x],argTypes:=#[26,26] })
  (B g c:Nat) (A M:List En) (hs:a.eval s=.slice (some ⟨g,0,none⟩) A.length c) (hown:OwE B w g c A) (ad:Addr) (m c2:Nat) (hm:m=M.length) (hx:a.eval x=.slice (some ad) m c2)
  (hrd:∀j u,(flatE M)[j]? = some u→w.cell? (ad.add j)=some u) (hsz:A.length+m≤4000000) (hB:B≤w.heap.size)
  (hK:∀g' c' w',OwE B w' g' c' (A++M)→w.grownBy w' (some g)→wpList Tryz.prog ops Q rest (a.put o.dst (.slice (some ⟨g',0,none⟩) (A++M).length c')) w') :
  wpList Tryz.prog ops Q (o :: rest) a w:=by
 obtain⟨i0,hi,hz0,hz1,hz2⟩:=info_parts infoE;refine wpList_append_own w hg s x 26 hop B 56 i0 (.agg #[.string ⟨#[]⟩,.int .i64 0]) 2 24 Tryz.underlying26 hi hz0 hz1 hz2 rfl (by decide) _ A.length (flatE A) hs hown ad m c2 (flatE M) hx (by rw [flatE_len,hm]) hrd (flatE_one M) (by unfold maxLen;omega) (by omega) hB ?_;intro v' w' hown' hgrow hnil;obtain⟨g',c',rfl,ho⟩:=OwE.of (L:=A) (M:=M) rfl hm hown' (by intro e;have:=(hnil.1 e).1;simp at this);exact hK g' c' w' ho hgrow
end Bk
namespace Bk
structure Row(w:World)(g cap:Nat)(X:List Value):Prop where
 at_:w.heap[g]? = some (.cells X.toArray 56 (0,0))
 len:X.length=cap*2
 max:cap≤maxLen
theorem OwE.row{B g cap:Nat}{w:World}{L:List En}(h:OwE B w g cap L):∃X,Row w g cap X∧X.take (L.length*2)=flatE L∧L.length≤cap∧B≤g:=by
 obtain⟨hl,⟨hv0,_⟩ | ⟨g',cap',cur,hvs,hbg,hcur,hmc,hm,hs,htake⟩⟩:=h
 ·exact absurd hv0 (by simp)
 ·injection hvs with ha _ hc;injection ha with ha;injection ha with h1 _;subst hc h1;exact⟨cur.toList,⟨by simpa using hcur,by simpa using hs,hm⟩,htake,hmc,hbg⟩
theorem Row.own{B g cap:Nat}{w:World}{X:List Value}{L:List En}(h:Row w g cap X)(ht:X.take (L.length*2)=flatE L)(hc:L.length≤cap)(hB:B≤g):OwE B w g cap L:=
 ⟨flatE_len L,.inr ⟨g,cap,X.toArray,rfl,hB,h.at_,hc,h.max,by simpa using h.len,by simpa using ht⟩⟩
theorem grown_row{w:World}{g:Nat}(cs:Array Value):w.grownBy (w.setRow g cs) (some g):=⟨rfl,rfl,rfl,by simp,fun k _ hk=>setRow_other w g k _ (fun e=>hk (by rw [e]))⟩
theorem growB_trans{w1 w2 w3:World}{r:Option Nat}(h1:w1.grownBy w2 r)(h2:w2.grownBy w3 r):w1.grownBy w3 r:=
 ⟨h2.os.trans h1.os,h2.tape.trans h1.tape,h2.output.trans h1.output,Nat.le_trans h1.size h2.size,fun k hk hr=>(h2.block k (Nat.lt_of_lt_of_le hk h1.size) hr).trans (h1.block k hk hr)⟩
theorem Row.store{w:World}{g cap:Nat}{X:List Value}(R:Row w g cap X)(o:Nat)(vs:List Value)(hfit:o+vs.length≤X.length)(h1:∀v∈vs,v.oneCell'=true) :
  ∃w',(storeCells ⟨g,o,none⟩ vs 0).run Tryz.prog w=.ok () w'∧Row w' g cap (splice X o vs)∧w.grownBy w' (some g):=by
 have h:=run_storeCells_at Tryz.prog g o 56 vs 0 X.toArray w R.at_ (by simpa using hfit) h1;refine⟨_,h,⟨?_,by rw [length_splice X o vs hfit];exact R.len,R.max⟩,grown_row _⟩;rw [setRow_heap w g _ _ _ _ R.at_];simp [splice]
theorem setCells_row{w:World}{g cap:Nat}{X:List Value}(R:Row w g cap X)(o:Nat)(vs:List Value)(hfit:o+vs.length≤X.length)(h1:∀v∈vs,v.oneCell'=true) :
  Row (w.setCells g o vs) g cap (splice X o vs)∧w.grownBy (w.setCells g o vs) (some g):=by
 obtain⟨w',hr,hR,hg⟩:=R.store o vs hfit h1;have hcell:∀j,o+j<X.length→(w.cell? ⟨g,o+j,none⟩).isSome=true∧w.frozen? ⟨g,o+j,none⟩=false:=fun j hj=>by
  constructor
  ·simp [World.cell?,R.at_,hj]
  ·simp [World.frozen?,R.at_]
 have h2:=run_storeCells_cells (P:=Tryz.prog) g o vs 0 w (fun j hj=>by rw [Nat.add_zero];exact(hcell j (by omega)).1) (fun j hj=>by rw [Nat.add_zero];exact(hcell j (by omega)).2) h1;rw [h2] at hr;simp only [Nat.add_zero] at hr;injection hr with _ hr;rw [hr];exact⟨hR,hg⟩
theorem sizeE:(sizeOf 56).run Tryz.prog=fun w=>.ok 2 w:=by
 obtain⟨i0,hi,hz0,hz1,hz2⟩:=info_parts infoE;funext w
 simp [sizeOf,typeInfo,hi,hz1]
theorem run_copyE{w:World}(dT sT ty:TypeId)(hu:Tryz.prog.underlying dT=some (.slice 56)){g cap:Nat}{X:List Value}(R:Row w g cap X)(o dLen dCap:Nat)(a:Addr)(sLen sCap:Nat)(M:List En)
  (hm:Nat.min sLen dLen=M.length) (hsrc:∀j v,(flatE M)[j]? = some v→w.cell? (a.add j)=some v) (hfit:o+M.length*2≤cap*2) :
  ∃w',(Builtin.copy_ #[dT,sT] ty #[.slice (some ⟨g,o,none⟩) dLen dCap,.slice (some a) sLen sCap]).run Tryz.prog w=.ok (goInt M.length) w'∧Row w' g cap (splice X o (flatE M))∧w.grownBy w' (some g):=by
 obtain⟨i0,hi,hz0,hz1,hz2⟩:=info_parts infoE;obtain⟨w',hr,hR,hg⟩:=R.store o (flatE M) (by rw [flatE_len,R.len];exact hfit) (flatE_one M);refine⟨w',?_,hR,hg⟩;have hl:=run_loadCells_list (P:=Tryz.prog) w a (flatE M) hsrc;rw [flatE_len] at hl;simp [Builtin.copy_,run_underlying hu,Builtin.lenOf,Builtin.firstCells,sizeOf,typeInfo,hi,hz1,hm,hl,hr]
theorem run_clearE{w:World}(dT ty:TypeId)(hu:Tryz.prog.underlying dT=some (.slice 56)){g cap:Nat}{X:List Value}(R:Row w g cap X)(o c:Nat)(hfit:o+2≤cap*2) :
  ∃w',(Builtin.clear_ #[dT] ty #[.slice (some ⟨g,o,none⟩) 1 c]).run Tryz.prog w=.ok (.tuple #[]) w'∧Row w' g cap (splice X o (flatE [e0]))∧w.grownBy w' (some g):=by
 obtain⟨w',hr,hR,hg⟩:=R.store o (flatE [e0]) (by rw [flatE_len,R.len];exact hfit) (flatE_one [e0]);refine⟨w',?_,hR,hg⟩;have hz:(Builtin.zeroCells (Value.agg #[.string ⟨#[]⟩,.int .i64 0]).cells 1).toList=flatE [e0]:=by kernel_rfl
 simp [Builtin.clear_,run_underlying hu,hz,hr]
theorem wpList_run_append{w:World}{ops:Array Oper}{rest:List Oper}{o:Oper}{a:Act}{Q:Exit→Act→World→Prop}(hgd:o.guard=none)(d s:Operand)(t t':TypeId)
  (ho:o.op=.call { callee:=.builtin .append,args:=#[d,s],argTypes:=#[t,t'] }) (v u:Value) (hd:a.eval d=v) (hs:a.eval s=u) {v':Value} {w':World}
  (hr:(Builtin.append_ #[t,t'] o.type #[v,u]).run Tryz.prog w=.ok v' w') (h:wpList Tryz.prog ops Q rest (a.put o.dst v') w'):wpList Tryz.prog ops Q (o :: rest) a w:=
 wpList_plain hgd fun K hK=>by
  unfold Oper.wp execOp;simp only [ho,resolve,invoke,builtin,Sem.run_bind,Sem.run_pure,Result.andThen_ok,List.map_toArray,List.map_cons,List.map_nil,hd,hs,hr];exact hK _ _ h
theorem step_run_copy{ops:Array Oper}{o:Oper}{a:Act}{w:World}{K:Act→World→Prop}{Q:Exit→Act→World→Prop}{E:Prop}
  (hg:o.guard=none) (d x:Operand) (dT sT:TypeId) (hop:o.op=Op.call { callee:=Callee.builtin Builtin.copy,args:=#[d,x],argTypes:=#[dT,sT] })
  (v u:Value) (hd:a.eval d=v) (hx:a.eval x=u) {v':Value} {w':World} (hr:(Builtin.copy_ #[dT,sT] o.type #[v,u]).run Tryz.prog w=.ok v' w') (hK:K (a.put o.dst v') w') :
  if Region.wanted o (yielded ops a.tmps)=true then Oper.wp Tryz.prog o a w K Q else E:=by
 rw [if_pos (by simp [Region.wanted,hg])];unfold Oper.wp;simp [execOp,hop,resolve,invoke,builtin,hd,hx,hr,Result.andThen];exact hK
theorem step_run_append{ops:Array Oper}{o:Oper}{a:Act}{w:World}{K:Act→World→Prop}{Q:Exit→Act→World→Prop}{E:Prop}
  (hg:o.guard=none) (d x:Operand) (dT sT:TypeId) (hop:o.op=Op.call { callee:=Callee.builtin Builtin.append,args:=#[d,x],argTypes:=#[dT,sT] })
  (v u:Value) (hd:a.eval d=v) (hx:a.eval x=u) {v':Value} {w':World} (hr:(Builtin.append_ #[dT,sT] o.type #[v,u]).run Tryz.prog w=.ok v' w') (hK:K (a.put o.dst v') w') :
  if Region.wanted o (yielded ops a.tmps)=true then Oper.wp Tryz.prog o a w K Q else E:=by
 rw [if_pos (by simp [Region.wanted,hg])];unfold Oper.wp;simp [execOp,hop,resolve,invoke,builtin,hd,hx,hr,Result.andThen];exact hK
theorem run_appendE{w:World}(t tx ty:TypeId)(ht:Tryz.prog.underlying t=some (.slice 56))(htx:Tryz.prog.underlying tx=some (.slice 56))
  {B g c:Nat} {A:List En} (hown:OwE B w g c A) (ad:Addr) (m c2:Nat) (M:List En) (hm:m=M.length)
  (hrd:∀j u,(flatE M)[j]? = some u→w.cell? (ad.add j)=some u) (hsz:A.length+m≤4000000) (hB:B≤w.heap.size) :
  ∃g' c' w',(Builtin.append_ #[t,tx] ty #[.slice (some ⟨g,0,none⟩) A.length c,.slice (some ad) m c2]).run Tryz.prog w=.ok (.slice (some ⟨g',0,none⟩) (A++M).length c') w' ∧
   OwE B w' g' c' (A++M)∧w.grownBy w' (some g)∧(g'=g∨g'=w.heap.size):=by
 obtain⟨i0,hi,hz0,hz1,hz2⟩:=info_parts infoE;have hsame:(Builtin.append_ #[t,tx] ty #[.slice (some ⟨g,0,none⟩) A.length c,.slice (some ad) m c2]).run Tryz.prog w=(Builtin.append_ #[t,t] ty #[.slice (some ⟨g,0,none⟩) A.length c,.slice (some ad) m c2]).run Tryz.prog w:=by
  simp [Builtin.append_,run_underlying ht,run_underlying htx]
 obtain⟨v',w',hr,h2,h3,h4,h5⟩:=run_append_own_at (P:=Tryz.prog) w B t ty 56 i0 (.agg #[.string ⟨#[]⟩,.int .i64 0]) 2 24 ht hi hz0 hz1 hz2 rfl (by decide) _ A.length (flatE A) hown ad m c2 (flatE M) (by rw [flatE_len,hm]) hrd (flatE_one M) (by unfold maxLen;omega) (by omega) hB;obtain⟨g',c',rfl,ho⟩:=OwE.of (L:=A) (M:=M) rfl hm h2 (by intro e;have:=(h4.1 e).1;simp at this);refine⟨g',c',w',hsame.trans hr,ho,h3,?_⟩;rcases h5 with h5 | h5 <;> simp [Value.ownBlock] at h5
 ·exact .inl h5
 ·exact .inr h5
end Bk
namespace Bk
theorem flatE_take(L:List En)(i:Nat):flatE (L.take i)=(flatE L).take (i*2):=by
 induction L generalizing i with
 | nil=>simp [flatE]
 | cons a L ih=>
  cases i with
  | zero=>simp [flatE]
  | succ i=>
   have e:∀(a:En) (L:List En),flatE (a :: L)=.string a.key :: .int .i64 a.val :: flatE L:=fun a L=>by unfold flatE;simp [cellsE]
   rw [List.take_succ_cons,e,e,ih,show(i+1)*2=i*2+1+1 by omega,List.take_succ_cons,List.take_succ_cons]
theorem take_at{X:List Value}{L:List En}(h:X.take (L.length*2)=flatE L)(i:Nat)(hi:i≤L.length):X.take (i*2)=flatE (L.take i):=by
 rw [flatE_take,← h,List.take_take];congr 1
 omega
theorem take_three{A B C R:List Value}{n:Nat}(h:n=A.length+B.length+C.length):(A++(B++(C++R))).take n=A++B++C:=by
 subst h;rw [← List.append_assoc,← List.append_assoc];exact List.take_left' (by simp;omega)
theorem ins_here{X:List Value}{L:List En}{x:En}{i:Nat}(h:X.take (L.length*2)=flatE L)(hi:i≤L.length)(hc:(L.length+1)*2≤X.length) :
  (splice (splice X ((i+1)*2) (flatE (L.drop i))) (i*2) (flatE [x])).take ((L.take i++[x]++L.drop i).length*2)=flatE (L.take i++[x]++L.drop i):=by
 have hx:(flatE [x]).length=2:=by rw [flatE_len];rfl
 have hd:(flatE (L.drop i)).length=(L.length-i)*2:=by rw [flatE_len,List.length_drop]
 have hX:X.length≥(i+1)*2:=by omega
 have e1:(splice X ((i+1)*2) (flatE (L.drop i))).take (i*2)=flatE (L.take i):=by
  unfold splice;rw [List.take_append_of_le_length (by simp;omega),List.take_take,show min (i*2) ((i+1)*2)=i*2 by omega];exact take_at h i hi
 have e2:(splice X ((i+1)*2) (flatE (L.drop i))).drop (i*2+2)=flatE (L.drop i)++X.drop ((i+1)*2+(flatE (L.drop i)).length):=by
  unfold splice;exact List.drop_left' (by simp;omega)
 conv=>lhs;rw [splice,hx,e1,e2]
 rw [flatE_app,flatE_app];refine take_three ?_;simp only [flatE_len,List.length_append];omega
theorem ins_new{Y:List Value}{L:List En}{x:En}{i:Nat}(h:Y.take (i*2)=flatE (L.take i))(hi:i≤L.length)(hc:(L.length+1)*2≤Y.length) :
  (splice (splice Y (i*2) (flatE [x])) ((i+1)*2) (flatE (L.drop i))).take ((L.take i++[x]++L.drop i).length*2)=flatE (L.take i++[x]++L.drop i):=by
 have hx:(flatE [x]).length=2:=by rw [flatE_len];rfl
 have ht:(flatE (L.take i)).length=i*2:=by rw [flatE_len,List.length_take];omega
 have e1:(splice Y (i*2) (flatE [x])).take ((i+1)*2)=flatE (L.take i)++flatE [x]:=by
  unfold splice;rw [h,← List.append_assoc];exact List.take_left' (by simp [ht,hx];omega)
 conv=>lhs;rw [splice,e1]
 rw [flatE_app,flatE_app,← List.append_assoc];refine List.take_left' ?_;simp only [flatE_len,List.length_append];omega
theorem del_here{X:List Value}{L:List En}{i:Nat}(h:X.take (L.length*2)=flatE L)(hi:i<L.length)(hc:L.length*2≤X.length) :
  (splice (splice X (i*2) (flatE (L.drop (i+1)))) ((L.length-1)*2) (flatE [e0])).take ((L.take i++L.drop (i+1)).length*2)=flatE (L.take i++L.drop (i+1)):=by
 have hd:(flatE (L.drop (i+1))).length=(L.length-(i+1))*2:=by rw [flatE_len,List.length_drop]
 have ht:(flatE (L.take i)).length=i*2:=by rw [flatE_len,List.length_take];omega
 have hl:(L.take i++L.drop (i+1)).length=L.length-1:=by simp;omega
 have hs:(splice X (i*2) (flatE (L.drop (i+1)))).length=X.length:=length_splice _ _ _ (by rw [hd];omega);rw [hl];conv=>lhs;rw [splice]
 rw [List.take_append_of_le_length (by simp;omega),List.take_take,Nat.min_self];unfold splice;rw [take_at h i (by omega),flatE_app,← List.append_assoc];exact List.take_left' (by simp [ht,hd];omega)
theorem row_drew{w:World}{g cap:Nat}{X:List Value}(h:Row w g cap X):Row w.drew g cap X:=⟨h.at_,h.len,h.max⟩
theorem growB_drew{w w':World}{r:Option Nat}(h:w.drew.grownBy w' r):w.grownBy w' r:=⟨h.os,h.tape,h.output,h.size,h.block⟩
theorem del_append{w:World}{g cap:Nat}{X:List Value}{L:List En}(R:Row w g cap X)(ht:X.take (L.length*2)=flatE L)(hc:L.length≤cap)(i:Nat)(hi:i<L.length)(ty:TypeId) :
  ∃A w',(if cap=i+1 then some (⟨g,0,none⟩:Addr) else some ⟨g,(i+1)*2,none⟩)=some A∧(Builtin.append_ #[52,52] ty #[.slice (some ⟨g,0,none⟩) i cap,.slice (some A) (L.length-(i+1)) (cap-(i+1))]).run Tryz.prog w=.ok (.slice (some ⟨g,0,none⟩) (L.length-1) cap) w' ∧
   Row w' g cap (splice X (i*2) (flatE (L.drop (i+1))))∧w.grownBy w' (some g):=by
 obtain⟨i0,hi0,hz0,hz1,hz2⟩:=info_parts infoE;have hown:OwE 0 w g cap L:=R.own ht hc (Nat.zero_le _);obtain⟨A,hA,hrd⟩:=RdE.drop (cap:=cap) hown.rd (i+1) (by omega) hc;rw [Nat.zero_add] at hA;have hl:(flatE (L.drop (i+1))).length=(L.length-(i+1))*2:=by rw [flatE_len,List.length_drop]
 have hX:(flatE (L.drop (i+1))).length+i*2+2≤X.length:=by rw [hl,R.len];omega
 have hcell:∀j,j<X.length→(w.cell? ⟨g,j,none⟩).isSome=true∧w.frozen? ⟨g,j,none⟩=false:=fun j hj=>by
  constructor
  ·simp [World.cell?,R.at_,hj]
  ·simp [World.frozen?,R.at_]
 have hr:=run_append_room_cells (P:=Tryz.prog) w 52 ty 56 i0 Tryz.underlying52 hi0 g 0 i cap A (L.length-(i+1)) (cap-(i+1)) (flatE (L.drop (i+1))) (by rw [hz1];exact hl)
  (rdE_news' hrd) (flatE_one _) (by omega) (fun j hj=>by rw [hz1];exact(hcell _ (by omega)).1) (fun j hj=>by rw [hz1];exact(hcell _ (by omega)).2)
 rw [hz1,Nat.zero_add,show i+(L.length-(i+1))=L.length-1 by omega] at hr;obtain⟨h1,h2⟩:=setCells_row R (i*2) (flatE (L.drop (i+1))) (by omega) (flatE_one _);exact⟨A,_,hA,hr,h1,h2⟩
def DelPost(B g cap:Nat)(L:List En)(i:Nat)(w:World)(e:Ending)(w':World):Prop:=e=.returned (.slice (some ⟨g,0,none⟩) (L.take i++L.drop (i+1)).length cap)∧OwE B w' g cap (L.take i++L.drop (i+1))∧w.grownBy w' (some g)
theorem delete{B g cap:Nat}{L:List En}{w:World}(h:OwE B w g cap L)(i:Nat)(hi:i<L.length) :
  Calls Tryz.prog 73 #[.slice (some ⟨g,0,none⟩) L.length cap,.int .i64 i,.int .i64 ((i:Int)+1)] w (DelPost B g cap L i w):=by
 obtain⟨X,R,ht,hc,hB⟩:=h.row;have hmx:=R.max;unfold maxLen at hmx;obtain⟨A,W1,hA,HR0,R1,g1⟩:=del_append (row_drew R) ht hc i hi 52;obtain⟨W2,HC0,R2,g2⟩:=run_clearE 52 52 Tryz.underlying52 R1 ((L.length-1)*2) (cap-(L.length-1)) (by omega);have HD:Hid (DelPost B g cap L i w (.returned (.slice (some ⟨g,0,none⟩) (L.length-1) cap)) W2):=by
  have hl:(L.take i++L.drop (i+1)).length=L.length-1:=by simp;omega
  refine⟨by rw [hl],?_,growB_trans (growB_drew g1) g2⟩;exact R2.own (del_here ht hi (by rw [R.len];omega)) (by rw [hl];omega) hB
 have HR:Hid (∀ty,(Builtin.append_ #[52,52] ty #[.slice (some ⟨g,0,none⟩) i cap,.slice (some A) (L.length-(i+1)) (cap-(i+1))]).run Tryz.prog w.drew=.ok (.slice (some ⟨g,0,none⟩) (L.length-1) cap) W1):=fun ty=>HR0
 have HC:Hid (∀ty,(Builtin.clear_ #[52] ty #[.slice (some ⟨g,(L.length-1)*2,none⟩) 1 (cap-(L.length-1))]).run Tryz.prog W1=.ok (.tuple #[]) W2):=fun ty=>HC0
 clear HR0 HC0 R1 R2 g1 g2 R ht h;have i1:(0:Int)≤(i:Int)+1:=by omega
 have i2:(i:Int)+1≤(L.length:Int):=by omega
 have i3:(L.length:Int)≤(cap:Int):=by omega
 have i4:((i:Int)+1).toNat=i+1:=by omega
 have i5:(i:Int)≤(i:Int)+1:=by omega
 have i6:¬ ((i:Int)=(i:Int)+1):=by omega
 have i7:i≤cap:=by omega
 have i8:i+1≤L.length:=by omega
 have i9:L.length-1≤L.length:=by omega
 have i10:L.length-(L.length-1)=1:=by omega
 have i11:¬ (cap=L.length-1):=by omega
 go_enter Tryz.func73,Tryz.ntmps73
 go_wp2_with fail
 go_region_law (refine step_run_append rfl (.tmp 22) (.tmp 25) 52 52 rfl _ _ (by simp [Act.eval,Act.put]) (by simp [Act.eval,Act.put]) (HR.out _) ?_)
 have hcl:=HC.out;go_wp2;go_ret;exact HD.out
def InsPost(B g:Nat)(L:List En)(i:Nat)(x:En)(w:World)(e:Ending)(w':World):Prop:=∃g' c',e=.returned (.slice (some ⟨g',0,none⟩) (L.take i++[x]++L.drop i).length c')∧OwE B w' g' c' (L.take i++[x]++L.drop i)∧w.grownBy w' (some g)∧(g'=g∨g'=w.heap.size)
theorem rd_one{w:World}{b:Nat}{x:En}(h:CellsE w b 0 x)(hb:b<w.heap.size):RdE w (some ⟨b,0,none⟩) [x]:=
 .inr ⟨b,0,rfl,hb,fun i hi=>by
   obtain rfl:i=0:=by simpa using hi
   exact h⟩
theorem ins_end{B g cap:Nat}{L:List En}{w:World}(h:OwE B w g cap L)(hBw:B≤w.heap.size)(h8:L.length≤1000)(x:En)(vb:Nat)(hv:CellsE w vb 0 x)(hvl:vb<w.heap.size) :
  Calls Tryz.prog 72 #[.slice (some ⟨g,0,none⟩) L.length cap,.int .i64 (L.length:Int),.slice (some ⟨vb,0,none⟩) 1 1] w (InsPost B g L L.length x w):=by
 obtain⟨g',c',W1,hr,ho,hg,hn⟩:=run_appendE 52 26 52 Tryz.underlying52 Tryz.underlying26 h ⟨vb,0,none⟩ 1 1 [x] rfl (rdE_news (rd_one hv hvl)) (by omega) hBw;have HR:Hid (∀ty,(Builtin.append_ #[52,26] ty #[.slice (some ⟨g,0,none⟩) L.length cap,.slice (some ⟨vb,0,none⟩) 1 1]).run Tryz.prog w=.ok (.slice (some ⟨g',0,none⟩) (L++[x]).length c') W1):=fun ty=>hr
 have HD:Hid (InsPost B g L L.length x w (.returned (.slice (some ⟨g',0,none⟩) (L++[x]).length c')) W1):=by
  have e:L.take L.length++[x]++L.drop L.length=L++[x]:=by simp
  rw [← e] at ho ⊢;exact⟨g',c',rfl,ho,hg,hn⟩
 have hc:=h.shape.1;clear hr ho hg hn h;generalize (L++[x]).length=n' at HR HD;go_enter Tryz.func72,Tryz.ntmps72
 go_wp2_with (at_builtin;refine wpList_run_append rfl _ _ _ _ rfl _ _ rfl rfl (HR.out _) ?_)
 all_goals (go_ret;exact HD.out)
theorem ins_shift{B g cap:Nat}{L:List En}{w:World}(h:OwE B w g cap L)(i:Nat)(hi:i<L.length)(hroom:L.length+1≤cap)(x:En)(vb:Nat)(hv:CellsE w vb 0 x)(hvl:vb<w.heap.size)(hne:vb≠g)(tA:TypeId)(kA:Nat)(hsa:w.shape? vb=some (tA,kA))(hfa:w.frozen? ⟨vb,0,none⟩=false)(hfe:w.frozen? ⟨vb,kA,none⟩=false) :
   Calls Tryz.prog 72 #[.slice (some ⟨g,0,none⟩) L.length cap,.int .i64 (i:Int),.slice (some ⟨vb,0,none⟩) 1 1] w (InsPost B g L i x w):=by
 obtain⟨X,R,ht,hc,hB⟩:=h.row;have hmx:=R.max;unfold maxLen at hmx;have hxl:=R.len;have hdl:(L.drop i).length=L.length-i:=List.length_drop;have hrd:∀(j:Nat) u,(flatE (L.drop i))[j]? = some u→w.cell? ((⟨g,i*2,none⟩:Addr).add j)=some u:=by
   obtain⟨A,hA,hrd⟩:=RdE.drop (cap:=cap) h.rd i (by omega) hc;rw [if_neg (by omega),Nat.zero_add] at hA;obtain rfl:=Option.some.inj hA;exact rdE_news' hrd
 obtain⟨W1,HR1,R1,g1⟩:=run_copyE (w:=w.drew) 52 52 3 Tryz.underlying52 (row_drew R) ((i+1)*2) (L.length+1-(i+1)) (cap-(i+1)) ⟨g,i*2,none⟩ (L.length+1-i) (cap-i) (L.drop i) (by rw [hdl];simp only [Nat.min_def];split <;> omega) hrd (by rw [hdl];omega);have hv1:CellsE W1 vb 0 x:=⟨(g1.cell_far ⟨vb,0,none⟩ hvl (by simpa using hne)).trans hv.c0,(g1.cell_far ⟨vb,1,none⟩ hvl (by simpa using hne)).trans hv.c1⟩
 obtain⟨W2,HR2,R2,g2⟩:=run_copyE (w:=W1) 52 26 3 Tryz.underlying52 R1 (i*2) (L.length+1-i) (cap-i) ⟨vb,0,none⟩ 1 1 [x] (by simp only [Nat.min_def];split <;> simp;omega) (rdE_news (rd_one hv1 (Nat.lt_of_lt_of_le hvl g1.size))) (by simp;omega);have HD:Hid (InsPost B g L i x w (.returned (.slice (some ⟨g,0,none⟩) (L.length+1) cap)) W2):=by
   have hl:(L.take i++[x]++L.drop i).length=L.length+1:=by simp;omega
   refine⟨g,cap,by rw [hl],?_,growB_trans (growB_drew g1) g2,.inl rfl⟩;exact R2.own (ins_here ht (by omega) (by rw [R.len];omega)) (by rw [hl];omega) hB
 have HC1:Hid (∀ty,(Builtin.copy_ #[52,52] ty #[.slice (some ⟨g,(i+1)*2,none⟩) (L.length+1-(i+1)) (cap-(i+1)),.slice (some ⟨g,i*2,none⟩) (L.length+1-i) (cap-i)]).run Tryz.prog w.drew=.ok (goInt (L.drop i).length) W1):=fun ty=>HR1
 have HC2:Hid (∀ty,(Builtin.copy_ #[52,26] ty #[.slice (some ⟨g,i*2,none⟩) (L.length+1-i) (cap-i),.slice (some ⟨vb,0,none⟩) 1 1]).run Tryz.prog W1=.ok (goInt 1) W2):=fun ty=>HR2
 have hov:∀lb cb,(callFunc 83 #[.slice (some ⟨vb,0,none⟩) 1 1,.slice (some ⟨g,(i+1)*2,none⟩) lb cb]).run Tryz.prog w=.ok (.value (.bool false)) w:=fun lb cb=>by
   rw [run_callFunc_extern Tryz.func83 (by kernel_rfl) (by kernel_rfl) (by kernel_rfl) (e:=Extern.SlicesOverlaps.overlaps #[26,26] #[4]) (by kernel_rfl),
     Lib.run_overlaps_apart w 26 4 56 Tryz.underlying26 2 (fun w=>by rw [sizeE]) ⟨vb,0,none⟩ ⟨g,(i+1)*2,none⟩ 1 1 lb cb hne tA 56 kA (cap*2) hsa (by simp [World.shape?,R.at_,hxl]) (by omega) hfa hfe]
   rfl
 clear HR1 HR2 R1 R2 g1 g2 R ht h hv hv1 hrd hsa hfa hfe;have hw1:IntKind.i64.wrap ((i:Int)+1)=(i:Int)+1:=by rw [IntKind.wrap_i64];omega
 have hw2:IntKind.i64.wrap ((L.length:Int)+1)=(L.length:Int)+1:=by rw [IntKind.wrap_i64];omega
 have i0:¬ ((i:Int)=(L.length:Int)):=by omega
 have i1:(0:Int)≤(i:Int)+1:=by omega
 have i2:(i:Int)≤(L.length:Int):=by omega
 have i3:(L.length:Int)+1≤(cap:Int):=by omega
 have i4:((i:Int)+1).toNat=i+1:=by omega
 have i5:((L.length:Int)+1).toNat=L.length+1:=by omega
 have i6:¬ ((cap:Int)<(L.length:Int)+1):=by omega
 have i7:¬ (cap=i):=by omega
 have i8:¬ (cap=i+1):=by omega
 have i9:i≤L.length:=by omega
 have i10:i+1≤L.length+1:=by omega
 have i11:i≤L.length+1:=by omega
 have i12:(i:Int)+1≤(L.length:Int)+1:=by omega
 have i13:(i:Int)≤(L.length:Int)+1:=by omega
 have i14:(0:Int)≤(L.length:Int)+1:=by omega
 go_enter Tryz.func72,Tryz.ntmps72
 go_wp2_with (simp only [hov])
 go_region_law (refine step_run_copy rfl _ _ 52 52 rfl _ _ (by simp [Act.eval,Act.put]) (by simp [Act.eval,Act.put]) (HC1.out _) ?_)
 have hc2:=HC2.out;go_wp2;go_ret;exact HD.out
theorem ins_zeros{w:World}{g cap:Nat}{X:List Value}{L:List En}(R:Row w g cap X)(ht:X.take (L.length*2)=flatE L)(i:Nat)(hi:i<L.length)(hc:L.length≤cap)(hroom:cap<L.length+1)(h8:L.length≤1000) :
  ∃G Y W1,(∀ty,(Builtin.append_ #[52,3] ty #[.slice (some ⟨g,0,none⟩) i cap,.int .i64 ((L.length:Int)+1-(i:Int))]).run Tryz.prog w=.ok (.slice (some ⟨w.heap.size,0,none⟩) (L.length+1) G) W1) ∧
   Row W1 w.heap.size G Y∧Y.take (i*2)=flatE (L.take i)∧L.length+1≤G∧Below w.heap.size w W1:=by
 obtain⟨i0,hi0,hz0,hz1,hz2⟩:=info_parts infoE;have hown:OwE 0 w g cap L:=R.own ht hc (Nat.zero_le _);have hrd:=rdE_news ((hown.rd).take i);have hold:(Builtin.firstCells i0.size i (.slice (some ⟨g,0,none⟩) i cap)).run Tryz.prog w.drew=.ok (flatE (L.take i)).toArray w.drew:=by
  rw [hz1];exact run_firstCells_some w.drew 2 i ⟨g,0,none⟩ i cap (flatE (L.take i)) (by rw [flatE_len,List.length_take];omega) hrd
 have hk:i+(L.length+1-i)=L.length+1:=by omega
 have hr:∀ty,_:=fun ty=>Lib.run_append_grow_zeros w 52 3 ty 56 i0 _ .i64 .i64 Tryz.underlying52 Tryz.underlying3 hi0 hz0 (some ⟨g,0,none⟩) i cap (flatE (L.take i)) hold (L.length+1-i) (by omega) (by rw [hz1];omega) (by omega) (by omega) (by rw [hz2];omega) (by rw [hz2,hk];exact growslice_fits hroom (by omega))
 rw [hk] at hr;have hge:=grownCap_ge w (L.length+1) cap 56;have hmx:=grownCap_le_maxLen w (L.length+1) cap 56 (by unfold maxLen;omega);have hl:(flatE (L.take i)).length=i*2:=by rw [flatE_len,List.length_take];omega
 generalize grownCap w (L.length+1) cap 56=G at hr hge hmx;rw [show((L.length+1-i:Nat):Int)=(L.length:Int)+1-(i:Int) by omega] at hr;refine⟨G,(flatE (L.take i))++((Builtin.zeroCells (Value.agg #[.string ⟨#[]⟩,.int .i64 0]).cells (L.length+1-i)).toList++(Builtin.zeroCells (Value.agg #[.string ⟨#[]⟩,.int .i64 0]).cells (G-(L.length+1))).toList),_,hr,⟨?_,?_,hmx⟩,?_,hge,?_⟩
 ·show(w.drew.heap.push _)[w.heap.size]? = _;rw [show w.heap.size=w.drew.heap.size from rfl,Array.getElem?_push_size];simp
 ·have hzc:(Value.agg #[.string ⟨#[]⟩,.int .i64 0]).cells.size=2:=rfl;simp only [List.length_append,Array.length_toList,size_zeroCells,hl,hzc];omega
 ·exact List.take_left' hl
 ·exact(Below.refl w.heap.size w).trans ⟨rfl,rfl,rfl,by simp,fun k hk=>heap_alloc_old w.drew _ hk⟩
theorem ins_grow{B g cap:Nat}{L:List En}{w:World}(h:OwE B w g cap L)(hBw:B≤w.heap.size)(i:Nat)(hi:i<L.length)(hroom:cap<L.length+1)(h8:L.length≤1000)(x:En)(vb:Nat)(hv:CellsE w vb 0 x)(hvl:vb<w.heap.size) :
  Calls Tryz.prog 72 #[.slice (some ⟨g,0,none⟩) L.length cap,.int .i64 (i:Int),.slice (some ⟨vb,0,none⟩) 1 1] w (InsPost B g L i x w):=by
 obtain⟨X,R,ht,hc,hB⟩:=h.row;have hmx:=R.max;unfold maxLen at hmx;have hdl:(L.drop i).length=L.length-i:=List.length_drop;have hgl:=h.shape.2.2.2;obtain⟨G,Y,W1,HA0,R1,hY,hG,b1⟩:=ins_zeros R ht i hi hc hroom h8;have hmG:=R1.max;unfold maxLen at hmG;obtain⟨W2,HR1,R2,g2⟩:=run_copyE (w:=W1) 52 26 3 Tryz.underlying52 R1 (i*2) (L.length+1-i) (G-i) ⟨vb,0,none⟩ 1 1 [x] (by simp only [Nat.min_def];split <;> simp;omega) (rdE_news (rd_one (hv.below b1 hvl) (Nat.lt_of_lt_of_le hvl b1.size))) (by simp;omega);have hrd:∀(j:Nat) u,(flatE (L.drop i))[j]? = some u→W2.drew.cell? ((⟨g,i*2,none⟩:Addr).add j)=some u:=by
  obtain⟨A,hA,hrd⟩:=RdE.drop (cap:=cap) h.rd i (by omega) hc;rw [if_neg (by omega),Nat.zero_add] at hA;obtain rfl:=Option.some.inj hA;intro j u hj;have h0:=rdE_news' hrd j u hj;rw [WideShapes.add_plain] at h0 ⊢;exact(g2.cell_far _ (Nat.lt_of_lt_of_le hgl b1.size) (by simp;omega)).trans ((b1.cell hgl).trans h0)
 obtain⟨W3,HR2,R3,g3⟩:=run_copyE (w:=W2.drew) 52 52 3 Tryz.underlying52 (row_drew R2) ((i+1)*2) (L.length+1-(i+1)) (G-(i+1)) ⟨g,i*2,none⟩ (L.length-i) (cap-i) (L.drop i) (by rw [hdl];simp only [Nat.min_def];split <;> omega) hrd (by rw [hdl];omega);have HD:Hid (InsPost B g L i x w (.returned (.slice (some ⟨w.heap.size,0,none⟩) (L.length+1) G)) W3):=by
  have hl:(L.take i++[x]++L.drop i).length=L.length+1:=by simp;omega
  refine⟨w.heap.size,G,by rw [hl],R3.own (ins_new hY (by omega) (by rw [R1.len];omega)) (by rw [hl];omega) hBw,?_,.inr rfl⟩;have g23:=growB_trans g2 (growB_drew g3);refine⟨g23.os.trans b1.os,g23.tape.trans b1.tape,g23.output.trans b1.output,Nat.le_trans b1.size g23.size,fun k hk _=>?_⟩;exact(g23.block k (Nat.lt_of_lt_of_le hk b1.size) (by simp;omega)).trans (b1.block k hk)
 have HA:Hid (∀ty,(Builtin.append_ #[52,3] ty #[.slice (some ⟨g,0,none⟩) i cap,.int .i64 ((L.length:Int)+1-(i:Int))]).run Tryz.prog w=.ok (.slice (some ⟨w.heap.size,0,none⟩) (L.length+1) G) W1):=HA0;have HC1:Hid (∀ty,(Builtin.copy_ #[52,26] ty #[.slice (some ⟨w.heap.size,i*2,none⟩) (L.length+1-i) (G-i),.slice (some ⟨vb,0,none⟩) 1 1]).run Tryz.prog W1=.ok (goInt 1) W2):=fun ty=>HR1
 have HC2:Hid (∀ty,(Builtin.copy_ #[52,52] ty #[.slice (some ⟨w.heap.size,(i+1)*2,none⟩) (L.length+1-(i+1)) (G-(i+1)),.slice (some ⟨g,i*2,none⟩) (L.length-i) (cap-i)]).run Tryz.prog W2.drew=.ok (goInt (L.drop i).length) W3):=fun ty=>HR2
 clear HA0 HR1 HR2 R1 R2 R3 g2 g3 R ht h hv hrd b1 hY;generalize w.heap.size=gn at HA HC1 HC2 HD;have hw1:IntKind.i64.wrap ((i:Int)+1)=(i:Int)+1:=by rw [IntKind.wrap_i64];omega
 have hw2:IntKind.i64.wrap ((L.length:Int)+1)=(L.length:Int)+1:=by rw [IntKind.wrap_i64];omega
 have i0:¬ ((i:Int)=(L.length:Int)):=by omega
 have i1:(0:Int)≤(i:Int)+1:=by omega
 have i2:(i:Int)≤(L.length:Int):=by omega
 have i4:((i:Int)+1).toNat=i+1:=by omega
 have i6:(cap:Int)<(L.length:Int)+1:=by omega
 have i7:¬ (cap=i):=by omega
 have i8:¬ (G=i+1):=by omega
 have i9:i≤L.length:=by omega
 have i10:i+1≤L.length+1:=by omega
 have i11:i≤L.length+1:=by omega
 have i12:(i:Int)+1≤(L.length:Int)+1:=by omega
 have i13:(i:Int)≤(L.length:Int)+1:=by omega
 have i14:¬ (G=i):=by omega
 have i15:i≤cap:=by omega
 have hc1:=HC1.out;go_enter Tryz.func72,Tryz.ntmps72
 go_wp2_with (at_builtin;refine wpList_run_append rfl _ _ _ _ rfl _ _ rfl rfl (HA.out _) ?_)
 go_region_law (refine step_run_copy rfl _ _ 52 52 rfl _ _ (by simp [Act.eval,Act.put]) (by simp [Act.eval,Act.put]) (HC2.out _) ?_)
 go_wp2;go_ret;exact HD.out
end Bk
namespace Bk
open De (D okD keyB)
theorem less_irr:∀x:List UInt8,Op.bytesLess x x=false:=by
 intro x;induction x with
 | nil=>rfl
 | cons a x ih=>simp [Op.bytesLess,ih]
theorem less_trans:∀x y z:List UInt8,Op.bytesLess x y=true→Op.bytesLess y z=true→Op.bytesLess x z=true:=by
 intro x;induction x with
 | nil=>
  intro y z h1 h2
  cases z with
  | nil=>cases y <;> simp [Op.bytesLess] at h1 h2
  | cons c z=>rfl
 | cons a x ih=>
  intro y z h1 h2
  cases y with
  | nil=>simp [Op.bytesLess] at h1
  | cons b y=>
   cases z with
   | nil=>simp [Op.bytesLess] at h2
   | cons c z=>
    simp only [Op.bytesLess,Bool.or_eq_true,Bool.and_eq_true,decide_eq_true_eq,beq_iff_eq] at h1 h2 ⊢;rcases h1 with h1 | ⟨h1,h1'⟩ <;> rcases h2 with h2 | ⟨h2,h2'⟩
    ·exact .inl (UInt8.lt_trans h1 h2)
    ·subst h2;exact .inl h1
    ·subst h1;exact .inl h2
    ·subst h1 h2;exact .inr ⟨rfl,ih _ _ h1' h2'⟩
theorem less_tri:∀x y:List UInt8,Op.bytesLess x y=true∨x=y∨Op.bytesLess y x=true:=by
 intro x;induction x with
 | nil=>intro y;cases y <;> simp [Op.bytesLess]
 | cons a x ih=>
   intro y
   cases y with
   | nil=>simp [Op.bytesLess]
   | cons b y=>
     simp only [Op.bytesLess,Bool.or_eq_true,Bool.and_eq_true,decide_eq_true_eq,beq_iff_eq,List.cons.injEq];rcases (show a<b∨a=b∨b<a from by
       rcases Nat.lt_trichotomy a.toNat b.toNat with h | h | h
       · exact .inl (UInt8.lt_iff_toNat_lt.2 h)
       · exact .inr (.inl (UInt8.toNat_inj.1 h))
       · exact .inr (.inr (UInt8.lt_iff_toNat_lt.2 h))) with h | h | h
     · exact .inl (.inl h)
     · subst h;rcases ih y with h | h | h
       · exact .inl (.inr ⟨rfl,h⟩)
       · exact .inr (.inl ⟨rfl,h⟩)
       · exact .inr (.inr (.inr ⟨rfl,h⟩))
     · exact .inr (.inr (.inl h))
def lt(a b:ByteArray):Bool:=Op.bytesLess a.toList b.toList
def same(a b:ByteArray):Bool:=a.toList == b.toList
theorem same_iff(a b:ByteArray):same a b=true↔a=b:=by
 unfold same;rw [beq_iff_eq,ByteArray.toList_eq,ByteArray.toList_eq];constructor
 ·intro h;apply ByteArray.ext;exact Array.toList_inj.1 h
 ·intro h;rw [h]
theorem lt_irr(a:ByteArray):lt a a=false:=less_irr _
theorem lt_trans{a b c:ByteArray}(h:lt a b=true)(k:lt b c=true):lt a c=true:=less_trans _ _ _ h k
theorem lt_tri(a b:ByteArray):lt a b=true∨a=b∨lt b a=true:=by
 rcases less_tri a.toList b.toList with h | h | h
 ·exact .inl h
 ·exact .inr (.inl ((same_iff a b).1 (by unfold same;rw [h];simp)))
 ·exact .inr (.inr h)
theorem lt_anti{a b:ByteArray}(h:lt a b=true):lt b a=false:=by
 cases k:lt b a
 ·rfl
 ·have:=lt_trans h k;rw [lt_irr] at this;exact Bool.noConfusion this
def findN(L:List En)(key:ByteArray):Nat:=(L.takeWhile fun e=>lt e.key key).length
theorem findN_le(L:List En)(key:ByteArray):findN L key≤L.length:=by
 unfold findN;induction L with
 | nil=>simp
 | cons a L ih=>rw [List.takeWhile_cons];split <;> simp <;> omega
theorem findN_eq(key:ByteArray):∀(L:List En) (j:Nat),j≤L.length→(∀i,i<j→lt (atE L i).key key=true)→(j<L.length→lt (atE L j).key key=false)→findN L key=j:=by
 intro L;induction L with
 | nil=>intro j hj _ _;simp at hj;subst hj;rfl
 | cons a L ih=>
  intro j hj h1 h2;unfold findN;rw [List.takeWhile_cons]
  cases j with
  | zero=>
   have:=h2 (by simp);have e:atE (a :: L) 0=a:=rfl;rw [e] at this;rw [this];rfl
  | succ j=>
   have:=h1 0 (by omega);have e:atE (a :: L) 0=a:=rfl;rw [e] at this;rw [this,if_pos rfl,List.length_cons];have:=ih j (by simpa using hj) (fun i hi=>by have:=h1 (i+1) (by omega);exact this) (fun h=>by have:=h2 (by simpa using h);exact this);unfold findN at this;rw [this]
theorem findN_lt{L:List En}{key:ByteArray}{i:Nat}(h:i<findN L key):lt (atE L i).key key=true:=by
 unfold findN at h;induction L generalizing i with
 | nil=>simp at h
 | cons a L ih=>
  rw [List.takeWhile_cons] at h;split at h
  ·cases i with
   | zero=>assumption
   | succ i=>exact ih (by simpa using h)
  ·simp at h
theorem findN_at{L:List En}{key:ByteArray}(h:findN L key<L.length):lt (atE L (findN L key)).key key=false:=by
 induction L with
 | nil=>simp at h
 | cons a L ih=>
  unfold findN at h ⊢;rw [List.takeWhile_cons] at h ⊢;split
  ·rename_i hp;rw [hp] at h;simp only [if_true,List.length_cons,Nat.add_lt_add_iff_right] at h;exact ih h
  ·rename_i hp;exact Bool.eq_false_iff.2 hp
def hasB(L:List En)(key:ByteArray):Bool:=decide (findN L key<L.length)&&same (atE L (findN L key)).key key
def stepB(L:List En)(i:Nat):Bool:=(keyB (atE L i).key&&(decide (0≤(atE L i).val)&&decide ((atE L i).val≤9999)))&&(decide (i=0) || !(lt (atE L i).key (atE L (i-1)).key || same (atE L i).key (atE L (i-1)).key))
def okTo(L:List En)(n:Nat):Bool:=(List.range n).all (stepB L)
theorem okTo_succ(L:List En)(n:Nat):okTo L (n+1)=(okTo L n&&stepB L n):=by
 unfold okTo;rw [List.range_succ,List.all_append];simp
def okBook(L:List En):Bool:=okTo L L.length&&decide (L.length≤8)
def doC(L:List En)(n:Nat)(is:Bool)(kind:Int)(key:ByteArray)(val new:Int):List En × Int:=
 if kind=1 then
  if is then (L.set n ⟨(atE L n).key,val⟩,0)
  else if L.length=8 then (L,3)
  else (L.take n++[⟨key,val⟩]++L.drop n,0)
 else if is=false then (L,1)
 else if kind=2 then (L.take n++L.drop (n+1),0)
 else if kind=3 then
  if (atE L n).val+val > 9999 then (L,3)
  else (L.set n ⟨(atE L n).key,(atE L n).val+val⟩,0)
 else if (atE L n).val≠val then (L,2)
 else (L.set n ⟨(atE L n).key,new⟩,0)
def doB(L:List En)(d:D):List En × Int:=doC L (findN L d.key) (hasB L d.key) d.kind d.key d.val d.new
def doneB(L:List En)(d:D):List En × Int:=if okBook L&&okD d then doB L d else ([],4)
end Bk
end
section
namespace Fam
theorem region{P:Program}{X:Type}{F:X→World}{id:Nat}{Q:Exit→Act→World→Prop}{a:Act}{w:World}{l:List Oper}(hm:P.follows .mixedOrders=true)(hB:Region.lexB .any l.toArray=true)(hC:∃z,w.drew=F z)
  (h:wpQuiet P l.toArray (fun w'=>∃z,w'=F z) (fun a'=>∀w',(∃z,w'=F z)→Q .normal a' w') l a):(Code.region id l.toArray true).wp P Q a w:=
 wp_region_quiet (C:=fun w'=>∃z,w'=F z) hm hB hC (by simpa using h)
theorem fam(W:World):∃(X:Type) (_:Inhabited X) (F:X→World),Hid (∀z,Below W.heap.size W (F z))∧Hid (∀w',Below W.heap.size W w'→∃z,w'=F z):=
 ⟨{w' // Below W.heap.size W w'},⟨⟨W,Below.refl _ _⟩⟩,Subtype.val,fun z=>z.2,fun w' h=>⟨⟨w',h⟩,rfl⟩⟩
end Fam
namespace Bk
open De (D okD keyB)
theorem findN_full{L:List En}{key:ByteArray}(h:∀i,i<L.length→lt (atE L i).key key=true):findN L key=L.length∧hasB L key=false:=by
 have e:=findN_eq key L L.length (Nat.le_refl _) h (fun q=>absurd q (Nat.lt_irrefl _));refine⟨e,?_⟩;unfold hasB;rw [e];simp
theorem findN_stop{L:List En}{key:ByteArray}{j:Nat}(hj:j<L.length)(h:∀i,i<j→lt (atE L i).key key=true)(h2:lt (atE L j).key key=false):findN L key=j∧hasB L key=same (atE L j).key key:=by
 have e:=findN_eq key L j (Nat.le_of_lt hj) h (fun _=>h2);refine⟨e,?_⟩;unfold hasB;rw [e];simp [hj]
theorem ret_ib{a a':Int}{b b':Bool}(h:a=a')(h':b=b'):Ending.returned (.tuple #[.int .i64 a,.bool b])=.returned (.tuple #[.int .i64 a',.bool b']):=by rw [h,h']
theorem l17Find(ao:Option Addr)(cap:Nat)(L:List En)(key:ByteArray)(w:World)(hl:L.length≤1048600)(hr:RdE w ao L) :
  Calls Tryz.prog 48 #[.slice ao L.length cap,.string key] w fun e w'=>e=.returned (.tuple #[.int .i64 (findN L key:Int),.bool (hasB L key)])∧Below w.heap.size w w':=by
 go_enter Tryz.func48,Tryz.ntmps48
 go_wp2;go_loopw [6] (fun i wr=>∃j:Nat,j≤L.length∧i=.int .i64 j∧Hid (∀i,i<j→lt (atE L i).key key=true)∧Hid (Below w.heap.size w wr)) (fun i _=>L.length-(intOf i).toNat)
 case atStart=>exact⟨0,by omega,rfl,fun i hi=>absurd hi (Nat.not_lt_zero i),Below.refl _ _⟩
 case round=>
  obtain⟨j,hj,rfl,HA,HB⟩:=hrel;by_cases hlt:j<L.length
  ·obtain⟨g,off,rfl,hg,hc⟩:=hr.at j hlt;obtain⟨c0,c1⟩:=hc.below HB.out hg;clear hc
   cases hq:lt (atE L j).key key
   ·obtain⟨e1,e2⟩:=findN_stop hlt HA.out hq;have hq':Op.bytesLess (atE L j).key.toList key.toList=false:=hq;have H1:Hid (findN L key=j):=e1;have H2:Hid (hasB L key=same (atE L j).key key):=e2;have HBD:Hid (Below w.heap.size w wr.drew):=HB.out.drew;clear e1 e2 HA hq HB
    cases hs:same (atE L j).key key
    ·have hs':((atE L j).key.toList == key.toList)=false:=hs;generalize (atE L j).key=kk at c0 hq' hs' H2 hs;go_wp2_with fail
     go_region
     go_wp2;go_ret2
     exact⟨ret_ib (congrArg Int.ofNat H1.out.symm) (H2.out.trans hs).symm,HBD.out⟩
    ·have hs':((atE L j).key.toList == key.toList)=true:=hs;generalize (atE L j).key=kk at c0 hq' hs' H2 hs;go_wp2_with fail
     go_region
     go_wp2;go_ret2
     exact⟨ret_ib (congrArg Int.ofNat H1.out.symm) (H2.out.trans hs).symm,HBD.out⟩
   ·have hq':Op.bytesLess (atE L j).key.toList key.toList=true:=hq;have HA1:Hid (∀i,i<j+1→lt (atE L i).key key=true):=fun i hi=>by
     by_cases e:i=j
     ·rw [e];exact hq
     ·exact HA.out i (by omega)
    clear HA hq;generalize (atE L j).key=kk at c0 hq';go_wp2;go_roundw
    case rel=>exact⟨j+1,by omega,by go_num,HA1,HB⟩
    case measure=>simp [intOf];omega
  ·obtain rfl:j=L.length:=by omega
   obtain⟨e1,e2⟩:=findN_full HA.out;have H1:Hid (findN L key=L.length):=e1;have H2:Hid (hasB L key=false):=e2;have HBD:Hid (Below w.heap.size w wr.drew):=HB.out.drew;clear e1 e2 HA HB;go_wp2_with fail
   go_region
   go_wp2;go_ret2
   exact⟨ret_ib (congrArg Int.ofNat H1.out.symm) H2.out.symm,HBD.out⟩
theorem okTo_stop{L:List En}{j n:Nat}(hj:j<n)(h:stepB L j=false):okTo L n=false:=by
 unfold okTo;rw [List.all_eq_false];exact⟨j,by simp [hj],by simp [h]⟩
theorem specBookOk(ao:Option Addr)(cap:Nat)(L:List En)(w:World)(hl:L.length≤1048600)(hk:∀e∈L,e.key.size≤1099511627776)(hr:RdE w ao L) :
   Calls Tryz.prog 14 #[.slice ao L.length cap] w fun e w'=>e=.returned (.bool (okBook L))∧Below w.heap.size w w':=by
 have HKY:Hid (∀j,j<L.length→∀W:World,Calls Tryz.prog 37 #[.string (atE L j).key] W fun e w'=>e=.returned (.bool (keyB (atE L j).key))∧W=w'):=fun j hj W=>De.l16Key _ W (hk _ (atE_mem L j hj))
 have HIN:Hid (∀(x:Int) (W:World),Calls Tryz.prog 38 #[.int .i64 x,.int .i64 0,.int .i64 9999] W fun e w'=>e=.returned (.bool (decide (0≤x)&&decide (x≤9999)))∧W=w'):=fun x W=>Base.l1In x 0 9999 W
 clear hk;go_enter Tryz.func14,Tryz.ntmps14
 go_wp2;go_loopw [3] (fun i wr=>∃j:Nat,j≤L.length∧i=.int .i64 j∧Hid (okTo L j=true)∧Hid (Below w.heap.size w wr)) (fun i _=>L.length-(intOf i).toNat)
 case atStart=>exact⟨0,by omega,rfl,rfl,Below.refl _ _⟩
 case round=>
   obtain⟨j,hj,rfl,HA,HB⟩:=hrel;by_cases hlt:j<L.length
   · obtain⟨g,off,rfl,hg,hc⟩:=hr.at j hlt;have HKJ:Hid (_):=HKY.out j hlt;have HN:Hid (stepB L j=false→okBook L=false):=fun h=>by
       unfold okBook;rw [okTo_stop hlt h];rfl
     have HY:Hid (stepB L j=true→okTo L (j+1)=true):=fun h=>by rw [okTo_succ,HA.out,h];rfl
     have HS:Hid (stepB L j=((keyB (atE L j).key&&(decide (0≤(atE L j).val)&&decide ((atE L j).val≤9999)))&&(decide (j=0) || !(lt (atE L j).key (atE L (j-1)).key || same (atE L j).key (atE L (j-1)).key)))):=rfl;have HC:Hid (∀z,Below wr.heap.size wr z→CellsE z g (off+j*2) (atE L j)):=fun z hz=>(hc.below HB.out hg).below hz (Nat.lt_of_lt_of_le hg HB.out.size)
     have HP:Hid (0<j→∀z,Below wr.heap.size wr z→CellsE z g (off+(j-1)*2) (atE L (j-1))):=fun h z hz=>((hr.on (j-1) (by omega)).2.below HB.out hg).below hz (Nat.lt_of_lt_of_le hg HB.out.size)
     clear hc HA;have HKJ:Hid (∀W:World,Calls Tryz.prog 37 #[.string (atE L j).key] W fun e w'=>e=.returned (.bool (keyB (atE L j).key))∧Below W.heap.size W w'):=fun W=>(HKY.out j hlt W).mono fun e w' h=>⟨h.1,h.2 ▸ Below.refl _ _⟩
     have HIJ:Hid (∀W:World,Calls Tryz.prog 38 #[.int .i64 (atE L j).val,.int .i64 0,.int .i64 9999] W fun e w'=>e=.returned (.bool (decide (0≤(atE L j).val)&&decide ((atE L j).val≤9999)))∧Below W.heap.size W w'):=fun W=>(HIN.out (atE L j).val W).mono fun e w' h=>⟨h.1,h.2 ▸ Below.refl _ _⟩
     generalize keyB (atE L j).key=b1 at HKJ HS;generalize (decide (0≤(atE L j).val)&&decide ((atE L j).val≤9999))=b2 at HIJ HS;have HC2:Hid (∀z,Below wr.heap.size wr z→z.cell? ⟨g,off+j*2,none⟩=some (.string (atE L j).key)∧z.cell? ⟨g,off+j*2+1,none⟩=some (.int .i64 (atE L j).val)):=fun z hz=>⟨(HC.out z hz).c0,(HC.out z hz).c1⟩
     have HP2:Hid (0<j→∀z,Below wr.heap.size wr z→z.cell? ⟨g,off+(j-1)*2,none⟩=some (.string (atE L (j-1)).key)):=fun h z hz=>(HP.out h z hz).c0
     clear HC HP hr HKY HIN;generalize stepB L j=sj at HN HY HS;generalize (atE L (j-1)).key=kp at HP2 HS;generalize (atE L j).key=kj at HC2 HKJ HS;generalize (atE L j).val=vj at HC2 HIJ;have HC:=HC2;have HP:=HP2;clear HC2 HP2
     cases b1
     · have HR:Hid (sj=false):=by show _=_;rw [HS.out];rfl
       obtain⟨X,_,F,HF,HG⟩:=Fam.fam wr;have c0:∀z,(F z).cell? ⟨g,off+j*2,none⟩=some (.string kj):=fun z=>(HC.out _ (HF.out z)).1
       have c1:∀z,(F z).cell? ⟨g,off+j*2+1,none⟩=some (.int .i64 vj):=fun z=>(HC.out _ (HF.out z)).2
       go_upto_region 4 with fail
       refine Fam.region (F:=F) (by kernel_rfl) (by kernel_rfl) (HG.out _ (Below.refl _ wr).drew) ?_
       repeat (go_big_quiet_step (first
         | (go_at_call 37;exact(HKJ.out _).mono fun _ _ q=>⟨q.1,HG.out _ ((HF.out _).trans (q.2.mono (HF.out _).size))⟩)
         | (go_at_call 38;exact(HIJ.out _).mono fun _ _ q=>⟨q.1,HG.out _ ((HF.out _).trans (q.2.mono (HF.out _).size))⟩)))
       refine wpQuiet_nil ?_;intro w2 hw2;obtain⟨z,rfl⟩:=hw2;have HB2:Hid (Below w.heap.size w (F z)):=HB.out.trans ((HF.out z).mono HB.out.size);clear c0 c1 HKJ HIJ HC HP HB;go_wp2;go_ret;exact⟨Base.ret_bool (HN.out HR.out).symm,HB2.out⟩
     cases b2
     · have HR:Hid (sj=false):=by show _=_;rw [HS.out];rfl
       obtain⟨X,_,F,HF,HG⟩:=Fam.fam wr;have c0:∀z,(F z).cell? ⟨g,off+j*2,none⟩=some (.string kj):=fun z=>(HC.out _ (HF.out z)).1
       have c1:∀z,(F z).cell? ⟨g,off+j*2+1,none⟩=some (.int .i64 vj):=fun z=>(HC.out _ (HF.out z)).2
       go_upto_region 4 with fail
       refine Fam.region (F:=F) (by kernel_rfl) (by kernel_rfl) (HG.out _ (Below.refl _ wr).drew) ?_
       repeat (go_big_quiet_step (first
         | (go_at_call 37;exact(HKJ.out _).mono fun _ _ q=>⟨q.1,HG.out _ ((HF.out _).trans (q.2.mono (HF.out _).size))⟩)
         | (go_at_call 38;exact(HIJ.out _).mono fun _ _ q=>⟨q.1,HG.out _ ((HF.out _).trans (q.2.mono (HF.out _).size))⟩)))
       refine wpQuiet_nil ?_;intro w2 hw2;obtain⟨z,rfl⟩:=hw2;have HB2:Hid (Below w.heap.size w (F z)):=HB.out.trans ((HF.out z).mono HB.out.size);clear c0 c1 HKJ HIJ HC HP HB;go_wp2;go_ret;exact⟨Base.ret_bool (HN.out HR.out).symm,HB2.out⟩
     by_cases hj0:0<j
     · have hj0':(0:Int)<(j:Int):=by omega
       have hm1:IntKind.i64.wrap ((j:Int)-1)=((j-1:Nat):Int):=by rw [IntKind.wrap_i64];omega
       have hm2:(j:Int)-1=((j-1:Nat):Int):=by omega
       have hm3:j-1<L.length:=by omega
       have hj1:decide (j=0)=false:=decide_eq_false (by omega)
       cases h1:lt kj kp
       · have h1':Op.bytesLess kj.toList kp.toList=false:=h1
         cases h2:same kj kp
         · have h2':(kj.toList == kp.toList)=false:=h2;have HR:Hid (sj=true):=by show _=_;rw [HS.out,h1,h2,hj1];rfl
           clear h1 h2 HS;obtain⟨X,_,F,HF,HG⟩:=Fam.fam wr;have c0:∀z,(F z).cell? ⟨g,off+j*2,none⟩=some (.string kj):=fun z=>(HC.out _ (HF.out z)).1
           have c1:∀z,(F z).cell? ⟨g,off+j*2+1,none⟩=some (.int .i64 vj):=fun z=>(HC.out _ (HF.out z)).2
           have d0:∀z,(F z).cell? ⟨g,off+(j-1)*2,none⟩=some (.string kp):=fun z=>HP.out hj0 _ (HF.out z)
           go_upto_region 4 with fail
           refine Fam.region (F:=F) (by kernel_rfl) (by kernel_rfl) (HG.out _ (Below.refl _ wr).drew) ?_
           repeat (go_big_quiet_step (first
             | (go_at_call 37;exact(HKJ.out _).mono fun _ _ q=>⟨q.1,HG.out _ ((HF.out _).trans (q.2.mono (HF.out _).size))⟩)
             | (go_at_call 38;exact(HIJ.out _).mono fun _ _ q=>⟨q.1,HG.out _ ((HF.out _).trans (q.2.mono (HF.out _).size))⟩)))
           refine wpQuiet_nil ?_;intro w2 hw2;obtain⟨z,rfl⟩:=hw2;have HB2:Hid (Below w.heap.size w (F z)):=HB.out.trans ((HF.out z).mono HB.out.size);clear c0 c1 HKJ HIJ HC HP HB d0;go_wp2;go_roundw
           case rel=>exact⟨j+1,by omega,by go_num,HY.out HR.out,HB2⟩
           case measure=>simp [intOf];omega
         · have h2':(kj.toList == kp.toList)=true:=h2;have HR:Hid (sj=false):=by show _=_;rw [HS.out,h1,h2,hj1];rfl
           clear h1 h2 HS;obtain⟨X,_,F,HF,HG⟩:=Fam.fam wr;have c0:∀z,(F z).cell? ⟨g,off+j*2,none⟩=some (.string kj):=fun z=>(HC.out _ (HF.out z)).1
           have c1:∀z,(F z).cell? ⟨g,off+j*2+1,none⟩=some (.int .i64 vj):=fun z=>(HC.out _ (HF.out z)).2
           have d0:∀z,(F z).cell? ⟨g,off+(j-1)*2,none⟩=some (.string kp):=fun z=>HP.out hj0 _ (HF.out z)
           go_upto_region 4 with fail
           refine Fam.region (F:=F) (by kernel_rfl) (by kernel_rfl) (HG.out _ (Below.refl _ wr).drew) ?_
           repeat (go_big_quiet_step (first
             | (go_at_call 37;exact(HKJ.out _).mono fun _ _ q=>⟨q.1,HG.out _ ((HF.out _).trans (q.2.mono (HF.out _).size))⟩)
             | (go_at_call 38;exact(HIJ.out _).mono fun _ _ q=>⟨q.1,HG.out _ ((HF.out _).trans (q.2.mono (HF.out _).size))⟩)))
           refine wpQuiet_nil ?_;intro w2 hw2;obtain⟨z,rfl⟩:=hw2;have HB2:Hid (Below w.heap.size w (F z)):=HB.out.trans ((HF.out z).mono HB.out.size);clear c0 c1 HKJ HIJ HC HP HB d0;go_wp2;go_ret;exact⟨Base.ret_bool (HN.out HR.out).symm,HB2.out⟩
       · have h1':Op.bytesLess kj.toList kp.toList=true:=h1;have HR:Hid (sj=false):=by show _=_;rw [HS.out,h1,hj1];rfl
         clear h1 HS;obtain⟨X,_,F,HF,HG⟩:=Fam.fam wr;have c0:∀z,(F z).cell? ⟨g,off+j*2,none⟩=some (.string kj):=fun z=>(HC.out _ (HF.out z)).1
         have c1:∀z,(F z).cell? ⟨g,off+j*2+1,none⟩=some (.int .i64 vj):=fun z=>(HC.out _ (HF.out z)).2
         have d0:∀z,(F z).cell? ⟨g,off+(j-1)*2,none⟩=some (.string kp):=fun z=>HP.out hj0 _ (HF.out z)
         go_upto_region 4 with fail
         refine Fam.region (F:=F) (by kernel_rfl) (by kernel_rfl) (HG.out _ (Below.refl _ wr).drew) ?_
         repeat (go_big_quiet_step (first
           | (go_at_call 37;exact(HKJ.out _).mono fun _ _ q=>⟨q.1,HG.out _ ((HF.out _).trans (q.2.mono (HF.out _).size))⟩)
           | (go_at_call 38;exact(HIJ.out _).mono fun _ _ q=>⟨q.1,HG.out _ ((HF.out _).trans (q.2.mono (HF.out _).size))⟩)))
         refine wpQuiet_nil ?_;intro w2 hw2;obtain⟨z,rfl⟩:=hw2;have HB2:Hid (Below w.heap.size w (F z)):=HB.out.trans ((HF.out z).mono HB.out.size);clear c0 c1 HKJ HIJ HC HP HB d0;go_wp2;go_ret;exact⟨Base.ret_bool (HN.out HR.out).symm,HB2.out⟩
     · have hj0':¬ (0:Int)<(j:Int):=by omega
       have hj1:decide (j=0)=true:=decide_eq_true (by omega);have HR:Hid (sj=true):=by show _=_;rw [HS.out,hj1];rfl
       clear HS;obtain⟨X,_,F,HF,HG⟩:=Fam.fam wr;have c0:∀z,(F z).cell? ⟨g,off+j*2,none⟩=some (.string kj):=fun z=>(HC.out _ (HF.out z)).1
       have c1:∀z,(F z).cell? ⟨g,off+j*2+1,none⟩=some (.int .i64 vj):=fun z=>(HC.out _ (HF.out z)).2
       go_upto_region 4 with fail
       refine Fam.region (F:=F) (by kernel_rfl) (by kernel_rfl) (HG.out _ (Below.refl _ wr).drew) ?_
       repeat (go_big_quiet_step (first
         | (go_at_call 37;exact(HKJ.out _).mono fun _ _ q=>⟨q.1,HG.out _ ((HF.out _).trans (q.2.mono (HF.out _).size))⟩)
         | (go_at_call 38;exact(HIJ.out _).mono fun _ _ q=>⟨q.1,HG.out _ ((HF.out _).trans (q.2.mono (HF.out _).size))⟩)))
       refine wpQuiet_nil ?_;intro w2 hw2;obtain⟨z,rfl⟩:=hw2;have HB2:Hid (Below w.heap.size w (F z)):=HB.out.trans ((HF.out z).mono HB.out.size);clear c0 c1 HKJ HIJ HC HP HB;go_wp2;go_roundw
       case rel=>exact⟨j+1,by omega,by go_num,HY.out HR.out,HB2⟩
       case measure=>simp [intOf];omega
   · obtain rfl:j=L.length:=by omega
     have HO:Hid (okBook L=decide (L.length≤8)):=by
       show _=_;unfold okBook;rw [HA.out,Bool.true_and]
     by_cases h8:L.length≤8
     · have h8':(L.length:Int)≤8:=by omega
       have HO2:Hid (okBook L=true):=HO.out.trans (decide_eq_true h8);clear HO;go_wp2;go_ret;exact⟨Base.ret_bool HO2.out.symm,HB.out⟩
     · have h8':¬ (L.length:Int)≤8:=by omega
       have HO2:Hid (okBook L=false):=HO.out.trans (decide_eq_false h8);clear HO;go_wp2;go_ret;exact⟨Base.ret_bool HO2.out.symm,HB.out⟩
end Bk
namespace Bk
open De (D okD keyB showD ReadsD zeroD kindTo wordsD pieces_of)
open Kn (dec B split val)
def rawD(P:List (List UInt8)):D:=⟨kindTo (P.getD 0 []) 4,B (P.getD 1 []),if kindTo (P.getD 0 []) 4=2 then 0 else (val (P.getD 2 []):Int),if kindTo (P.getD 0 []) 4=4 then (val (P.getD 3 []):Int) else 0⟩
def readD(s:ByteArray):D × Bool:=if okD (rawD (split 32 s.data.toList))&&(showD (rawD (split 32 s.data.toList)) == s.data.toList) then (rawD (split 32 s.data.toList),true) else (zeroD,false)
theorem raw_words{d:D}(h:okD d=true):rawD (wordsD d)=d:=by
 have o:=(De.okD_iff d).1 h;obtain⟨kind,key,v,n⟩:=d;obtain⟨k1,k4,kb,v0,v1,n0,n1,cut,ifs⟩:=o;dsimp only at k1 k4 kb v0 v1 n0 n1 cut ifs;have hk:kindTo ((wordsD ⟨kind,key,v,n⟩).getD 0 []) 4=kind:=De.kindTo_kind ⟨k1,k4⟩;have hkey:B ((wordsD ⟨kind,key,v,n⟩).getD 1 [])=key:=Kn.B_data key;unfold rawD;rw [hk,hkey];have e1:(if kind=2 then (0:Int) else (val ((wordsD ⟨kind,key,v,n⟩).getD 2 []):Int))=v:=by
  by_cases h2:kind=2
  ·rw [if_pos h2,cut h2]
  ·rw [if_neg h2];have:(wordsD ⟨kind,key,v,n⟩).getD 2 []=dec v.toNat:=by unfold wordsD;simp [h2]
   rw [this,Kn.val_dec _ (by omega)];omega
 have e2:(if kind=4 then (val ((wordsD ⟨kind,key,v,n⟩).getD 3 []):Int) else 0)=n:=by
  by_cases h4:kind=4
  ·rw [if_pos h4];have:(wordsD ⟨kind,key,v,n⟩).getD 3 []=dec n.toNat:=by unfold wordsD;simp [h4]
   rw [this,Kn.val_dec _ (by omega)];omega
  ·rw [if_neg h4,ifs h4]
 rw [e1,e2]
theorem readD_reads(s:ByteArray):ReadsD s (readD s).1 (readD s).2:=by
 unfold readD
 cases h:okD (rawD (split 32 s.data.toList))&&(showD (rawD (split 32 s.data.toList)) == s.data.toList)
 ·refine .inr ⟨rfl,rfl,fun d' o q=>?_⟩;have e:=pieces_of o q;rw [e,raw_words o,o,q] at h;simp at h
 ·rw [Bool.and_eq_true,beq_iff_eq] at h;exact .inl ⟨rfl,h.1,h.2⟩
theorem reads_is{s:ByteArray}{d:D}{b:Bool}(h:ReadsD s d b):d=(readD s).1∧b=(readD s).2:=De.reads_unique h (readD_reads s)
theorem readD_ok{s:ByteArray}(h:(readD s).2=true):okD (readD s).1=true:=by
 rcases readD_reads s with⟨_,o,_⟩ | ⟨q,_⟩
 ·exact o
 ·rw [h] at q;exact Bool.noConfusion q
/-! ### right books -/
def EnOk(e:En):Prop:=keyB e.key=true∧0≤e.val∧e.val≤9999
def Rises(L:List En):Prop:=(L.map En.key).Pairwise (fun a b=>lt a b=true)
theorem pair_of_steps(l:List ByteArray)(h:∀i (hi:i+1<l.length),lt l[i] l[i+1]=true):l.Pairwise (fun a b=>lt a b=true):=by
 induction l with
 | nil=>exact .nil
 | cons a l ih=>
  have ih:=ih (fun i hi=>by have:=h (i+1) (by simpa using hi);simpa using this);refine .cons (fun b hb=>?_) ih
  cases l with
  | nil=>simp at hb
  | cons c l=>
   have h0:lt a c=true:=h 0 (by simp);rcases List.mem_cons.1 hb with rfl | hb
   ·exact h0
   ·exact lt_trans h0 ((List.pairwise_cons.1 ih).1 b hb)
theorem step_lt{a b:ByteArray}:(!(lt b a || same b a))=true↔lt a b=true:=by
 constructor
 ·intro h;simp only [Bool.not_eq_true',Bool.or_eq_false_iff] at h;rcases lt_tri a b with q | q | q
  ·exact q
  ·have:=(same_iff b a).2 q.symm;rw [h.2] at this;exact Bool.noConfusion this
  ·rw [h.1] at q;exact Bool.noConfusion q
 ·intro h;simp only [Bool.not_eq_true',Bool.or_eq_false_iff];refine⟨lt_anti h,?_⟩
  cases q:same b a
  ·rfl
  ·rw [(same_iff b a).1 q,lt_irr] at h;exact Bool.noConfusion h
theorem okBook_iff(L:List En):okBook L=true↔L.length≤8∧(∀e∈L,EnOk e)∧Rises L:=by
 unfold okBook okTo;rw [Bool.and_eq_true,decide_eq_true_eq,List.all_eq_true];have key:∀i,i<L.length→(stepB L i=true↔EnOk (atE L i)∧(0<i→lt (atE L (i-1)).key (atE L i).key=true)):=by
  intro i hi;unfold stepB EnOk;simp only [Bool.and_eq_true,decide_eq_true_eq];rw [Bool.or_eq_true,step_lt,decide_eq_true_eq];constructor
  ·rintro⟨a,b⟩;exact⟨a,fun h=>by rcases b with b | b;omega;exact b⟩
  ·rintro⟨a,b⟩;exact⟨a,by by_cases h:i=0;exact .inl h;exact .inr (b (by omega))⟩
 constructor
 ·rintro⟨h,h8⟩;have h':∀i,i<L.length→EnOk (atE L i)∧(0<i→lt (atE L (i-1)).key (atE L i).key=true):=fun i hi=>(key i hi).1 (h i (by simpa using hi))
  refine⟨h8,fun e he=>?_,pair_of_steps _ (fun i hi=>?_)⟩
  ·obtain⟨i,hi,rfl⟩:=List.getElem_of_mem he;have:=(h' i hi).1;rwa [atE_get L i hi] at this
  ·simp only [List.length_map] at hi;have:=(h' (i+1) hi).2 (by omega);rw [atE_get L (i+1) hi,Nat.add_sub_cancel,atE_get L i (by omega)] at this;simpa using this
 ·rintro⟨h8,he,hr⟩;refine⟨fun i hi=>?_,h8⟩;have hi':i<L.length:=by simpa using hi
  refine(key i hi').2 ⟨he _ (atE_mem L i hi'),fun h0=>?_⟩;rw [atE_get L i hi',atE_get L (i-1) (by omega)];have:=(List.pairwise_iff_getElem.1 hr) (i-1) i (by simp;omega) (by simpa using hi') (by omega);simpa using this
theorem map_set(L:List En)(n:Nat)(hn:n<L.length)(x:Int):(L.set n ⟨(atE L n).key,x⟩).map En.key=L.map En.key:=by
 rw [List.map_set,atE_get L n hn];apply List.ext_getElem?;intro i;by_cases h:i=n
 ·subst h;simp [hn]
 ·simp [Ne.symm h]
theorem mem_set{L:List En}{n:Nat}{e f:En}(h:f∈L.set n e):f=e∨f∈L:=by
 rcases List.mem_or_eq_of_mem_set h with h | h
 ·exact .inr h
 ·exact .inl h
theorem take_lt{L:List En}{key:ByteArray}:∀e∈L.take (findN L key),lt e.key key=true:=by
 intro e he;obtain⟨i,hi,rfl⟩:=List.getElem_of_mem he;have h1:i<findN L key:=by have:=List.length_take_le (findN L key) L;omega
 have h2:i<L.length:=by have:=findN_le L key;omega
 have:=findN_lt h1;rw [atE_get L i h2] at this;simpa using this
theorem drop_gt{L:List En}{key:ByteArray}(hr:Rises L)(hh:hasB L key=false):∀e∈L.drop (findN L key),lt key e.key=true:=by
 intro e he;obtain⟨i,hi,rfl⟩:=List.getElem_of_mem he;have hl:findN L key+i<L.length:=by simp at hi;omega
 have hn:findN L key<L.length:=by omega
 have h0:lt key (atE L (findN L key)).key=true:=by
  have a:=findN_at hn;unfold hasB at hh;simp [hn] at hh;rcases lt_tri key (atE L (findN L key)).key with q | q | q
  ·exact q
  ·rw [(same_iff _ _).2 q.symm] at hh;exact Bool.noConfusion hh
  ·rw [a] at q;exact Bool.noConfusion q
 rw [atE_get L _ hn] at h0;simp only [List.getElem_drop];by_cases hz:i=0
 ·subst hz;simpa using h0
 ·have:=(List.pairwise_iff_getElem.1 hr) (findN L key) (findN L key+i) (by simpa using hn) (by simpa using hl) (by omega)
  exact lt_trans h0 (by simpa using this)
theorem has_at{L:List En}{key:ByteArray}(h:hasB L key=true):∃hn:findN L key<L.length,L[findN L key].key=key:=by
 unfold hasB at h;rw [Bool.and_eq_true,decide_eq_true_eq] at h;refine⟨h.1,?_⟩;have:=(same_iff _ _).1 h.2;rwa [atE_get L _ h.1] at this
theorem do_ok{L:List En}{d:D}(h:okBook L=true)(o:okD d=true):okBook (doB L d).1=true:=by
 have h':=h;rw [okBook_iff] at h ⊢;obtain⟨h8,he,hr⟩:=h;have od:=(De.okD_iff d).1 o;have hset:∀x:Int,hasB L d.key=true→0≤x∧x≤9999→(L.set (findN L d.key) ⟨(atE L (findN L d.key)).key,x⟩).length≤8∧(∀e∈L.set (findN L d.key) ⟨(atE L (findN L d.key)).key,x⟩,EnOk e)∧Rises (L.set (findN L d.key) ⟨(atE L (findN L d.key)).key,x⟩):=by
  intro x hh hx;obtain⟨hn,_⟩:=has_at hh;refine⟨by simpa using h8,fun e hm=>?_,?_⟩
  ·rcases mem_set hm with rfl | hm
   ·exact⟨(he _ (atE_mem L _ hn)).1,hx⟩
   ·exact he e hm
  ·unfold Rises;rw [map_set L _ hn];exact hr
 have hval:hasB L d.key=true→0≤(atE L (findN L d.key)).val:=fun hh=>by
  obtain⟨hn,_⟩:=has_at hh;exact(he _ (atE_mem L _ hn)).2.1
 have a1:=od.v0;have a2:=od.v1;have a3:=od.n0;have a4:=od.n1;unfold doB doC;by_cases k1:d.kind=1
 ·rw [if_pos k1]
  cases hh:hasB L d.key
  ·rw [if_neg (by simp)];by_cases hl:L.length=8
   ·rw [if_pos hl];exact⟨h8,he,hr⟩
   ·rw [if_neg hl];have hfl:=findN_le L d.key;refine⟨by simp;omega,fun e hm=>?_,?_⟩
    ·simp only [List.mem_append,List.mem_singleton] at hm;rcases hm with(hm | rfl) | hm
     ·exact he e (List.mem_of_mem_take hm)
     ·exact⟨od.key,by omega,by show d.val≤9999;omega⟩
     ·exact he e (List.mem_of_mem_drop hm)
    ·unfold Rises;rw [List.map_append,List.map_append,List.pairwise_append,List.pairwise_append];have hs1:(L.take (findN L d.key)).map En.key=(L.map En.key).take (findN L d.key):=by rw [List.map_take]
     have hs2:(L.drop (findN L d.key)).map En.key=(L.map En.key).drop (findN L d.key):=by rw [List.map_drop]
     refine⟨⟨by rw [hs1];exact hr.sublist (List.take_sublist _ _),by simp,fun a ha b hb=>?_⟩,by rw [hs2];exact hr.sublist (List.drop_sublist _ _),fun a ha b hb=>?_⟩
     ·obtain⟨e,hm,rfl⟩:=List.mem_map.1 ha;simp at hb;subst hb;exact take_lt e hm
     ·obtain⟨f,hf,rfl⟩:=List.mem_map.1 hb;have hg:=drop_gt hr hh f hf;rw [List.mem_append] at ha;rcases ha with ha | ha
      ·obtain⟨e,hm,rfl⟩:=List.mem_map.1 ha;exact lt_trans (take_lt e hm) hg
      ·simp at ha;subst ha;exact hg
  ·rw [if_pos rfl];exact hset _ hh ⟨a1,by omega⟩
 ·rw [if_neg k1]
  cases hh:hasB L d.key
  ·rw [if_pos rfl];exact⟨h8,he,hr⟩
  ·rw [if_neg (by simp)];have hv:=hval hh;by_cases k2:d.kind=2
   ·rw [if_pos k2];refine⟨by simp;omega,fun e hm=>?_,?_⟩
    ·rw [List.mem_append] at hm;rcases hm with hm | hm
     ·exact he e (List.mem_of_mem_take hm)
     ·exact he e (List.mem_of_mem_drop hm)
    ·have hs:(L.take (findN L d.key)++L.drop (findN L d.key+1)).Sublist L:=by
      conv=>rhs;rw [← List.take_append_drop (findN L d.key) L]
      exact List.Sublist.append (List.Sublist.refl _) (by rw [← List.drop_drop];exact List.drop_sublist _ _)
     exact hr.sublist (hs.map En.key)
   ·rw [if_neg k2];by_cases k3:d.kind=3
    ·rw [if_pos k3];by_cases h9:(atE L (findN L d.key)).val+d.val > 9999
     ·rw [if_pos h9];exact⟨h8,he,hr⟩
     ·rw [if_neg h9];exact hset _ hh ⟨by omega,by omega⟩
    ·rw [if_neg k3];by_cases h9:(atE L (findN L d.key)).val≠d.val
     ·rw [if_pos h9];exact⟨h8,he,hr⟩
     ·rw [if_neg h9];exact hset _ hh ⟨a3,by omega⟩
/-! ### words -/
def readStep(b:List En)(s:ByteArray):List En × Int:=if (readD s).2 then doB b (readD s).1 else (b,4)
def readB(W:List ByteArray):List En × List Int:=W.foldl (fun st s=>((readStep st.1 s).1,st.2++[(readStep st.1 s).2])) ([],[])
theorem readB_snoc(W:List ByteArray)(s:ByteArray):readB (W++[s])=((readStep (readB W).1 s).1,(readB W).2++[(readStep (readB W).1 s).2]):=by
 unfold readB;rw [List.foldl_append];rfl
theorem readStep_ok{b:List En}(s:ByteArray)(h:okBook b=true):okBook (readStep b s).1=true:=by
 unfold readStep
 cases hs:(readD s).2
 ·exact h
 ·rw [if_pos rfl];exact do_ok h (readD_ok hs)
theorem readB_ok(W:List ByteArray):okBook (readB W).1=true∧(readB W).2.length=W.length:=by
 have key:∀n,n≤W.length→okBook (readB (W.take n)).1=true∧(readB (W.take n)).2.length=n:=by
  intro n;induction n with
  | zero=>intro _;rw [List.take_zero];exact⟨rfl,rfl⟩
  | succ n ih=>
   intro hn;obtain⟨i1,i2⟩:=ih (by omega);rw [List.take_succ_eq_append_getElem (by omega),readB_snoc];exact⟨readStep_ok _ i1,by simp [i2]⟩
 have:=key W.length (Nat.le_refl _);rwa [List.take_length] at this
end Bk
end
end Go.Proofs.YtadbafppodhfpaaGreatDoor
