/-
 What the model's draws for chapter 1 do: they answer a number for a set and one for a member, whatever these are, and write into nothing that was there; for codes of at most 4096 bytes.
-/
import Derived.Laws.BitsAllLaws
import Derived.Laws.Bits128
import Derived.WalkKit
import Derived.Test.YtadbafppodhfpaaChecked
import Derived.BigQuiet
import Derived.Deep.OwnRows
import Derived.Deep.QuietTactic
import Derived.WalkSmall
import Derived.Deep.RegionLaw
import Derived.Deep.RegionWith
import Derived.Deep.DeepCutAuto
import Derived.Deep.AppendLies
import Derived.Laws.OwnMore
import Derived.Below
import Derived.Lib.SmallJoins
import Derived.Deep.RegionHeld3
import Derived.Deep.CutBlock
import Derived.Laws.Cover1
namespace Go.Proofs.Ytadbafppodhfpaa.Bit
def bit(s:Int)(k:Nat):Bool:=decide (s / 2 ^ k % 2=1)
end Go.Proofs.Ytadbafppodhfpaa.Bit
set_option linter.unusedVariables false
set_option maxRecDepth 100000
set_option maxHeartbeats 3200000
namespace Go.Proofs.Ytadbafppodhfpaa
open Go.RowKit
section
namespace Base
theorem ret_bool{a b:Bool}(h:a=b):Ending.returned (.bool a)=.returned (.bool b):=by rw [h]
theorem l1In(x lo hi:Int)(w:World):Calls Try.prog 37 #[.int .i64 x,.int .i64 lo,.int .i64 hi] w fun e w'=>e=.returned (.bool (decide (lo≤x)&&decide (x≤hi)))∧w=w':=by
 by_cases h1:lo≤x
 ·go_enter Try.func37,Try.ntmps37
  go_wp2;go_ret;exact⟨ret_bool (by simp [h1]),rfl⟩
 ·go_enter Try.func37,Try.ntmps37
  go_wp2;go_ret;exact⟨ret_bool (by simp;omega),rfl⟩
end Base
end
section
namespace Bk
structure En where
 key:ByteArray
 val:Int
def e0:En:=⟨⟨#[]⟩,0⟩
instance:Inhabited En:=⟨e0⟩
def atE(L:List En)(i:Nat):En:=L.getD i e0
theorem atE_take(L:List En)(m i:Nat)(h:i<m):atE (L.take m) i=atE L i:=by
 unfold atE;simp [List.getD,h]
theorem atE_drop(L:List En)(m i:Nat):atE (L.drop m) i=atE L (m+i):=by
 unfold atE;simp [List.getD]
theorem atE_mem(L:List En)(i:Nat)(h:i<L.length):atE L i∈L:=by
 unfold atE;simp [List.getD,List.getElem?_eq_getElem h]
theorem atE_get(L:List En)(i:Nat)(h:i<L.length):atE L i=L[i]:=by
 unfold atE;simp [List.getD,List.getElem?_eq_getElem h]
theorem takeE_snoc(L:List En)(i:Nat)(h:i<L.length):L.take (i+1)=L.take i++[atE L i]:=by
 rw [atE_get L i h];simp
structure CellsE(w:World)(g o:Nat)(k:En):Prop where
 c0:w.cell? ⟨g,o,none⟩=some (.string k.key)
 c1:w.cell? ⟨g,o+1,none⟩=some (.int .i64 k.val)
def RdE(w:World)(ao:Option Addr)(L:List En):Prop:=
 L=[]∨∃g off,ao=some ⟨g,off,none⟩∧g<w.heap.size∧∀i,i<L.length→CellsE w g (off+i*2) (atE L i)
theorem CellsE.below{w w':World}{g o:Nat}{k:En}(h:CellsE w g o k)(hb:Below w.heap.size w w')(hg:g<w.heap.size):CellsE w' g o k where
 c0:=(hb.cell (p:=⟨g,o,none⟩) hg).trans h.c0
 c1:=(hb.cell (p:=⟨g,o+1,none⟩) hg).trans h.c1
theorem RdE.below{w w':World}{ao:Option Addr}{L:List En}(h:RdE w ao L)(hb:Below w.heap.size w w'):RdE w' ao L:=by
 rcases h with h | ⟨g,off,ha,hg,hc⟩
 ·exact .inl h
 ·exact .inr ⟨g,off,ha,Nat.lt_of_lt_of_le hg hb.size,fun i hi=>(hc i hi).below hb hg⟩
theorem RdE.take{w:World}{ao:Option Addr}{L:List En}(h:RdE w ao L)(n:Nat):RdE w ao (L.take n):=by
 rcases h with h | ⟨g,off,ha,hg,hc⟩
 ·exact .inl (by rw [h];simp)
 ·refine .inr ⟨g,off,ha,hg,fun i hi=>?_⟩;have hi':i<n∧i<L.length:=by simp at hi;omega
  rw [atE_take L n i hi'.1];exact hc i hi'.2
theorem RdE.at{w:World}{ao:Option Addr}{L:List En}(h:RdE w ao L)(i:Nat)(hi:i<L.length):∃g off,ao=some ⟨g,off,none⟩∧g<w.heap.size∧CellsE w g (off+i*2) (atE L i):=by
 rcases h with h | ⟨g,off,ha,hg,hc⟩
 ·rw [h] at hi;simp at hi
 ·exact⟨g,off,ha,hg,hc i hi⟩
theorem RdE.on{w:World}{g off:Nat}{L:List En}(h:RdE w (some ⟨g,off,none⟩) L)(i:Nat)(hi:i<L.length):g<w.heap.size∧CellsE w g (off+i*2) (atE L i):=by
 obtain⟨g',off',ha,hg,hc⟩:=h.at i hi;injection ha with ha;injection ha with h1 h2;subst h1 h2;exact⟨hg,hc⟩
def cellsE(k:En):List Value:=[.string k.key,.int .i64 k.val]
def flatE(L:List En):List Value:=L.flatMap cellsE
theorem flatE_len(L:List En):(flatE L).length=L.length*2:=by
 induction L with
 | nil=>rfl
 | cons k L ih=>unfold flatE at *;rw [List.flatMap_cons,List.length_append,ih];simp [cellsE];omega
theorem flatE_app(L M:List En):flatE (L++M)=flatE L++flatE M:=by unfold flatE;simp
theorem flatE_one(L:List En):∀u∈flatE L,u.oneCell'=true:=by
 intro u hu;unfold flatE at hu;obtain⟨k,_,hk⟩:=List.mem_flatMap.1 hu;simp [cellsE] at hk;rcases hk with rfl | rfl <;> rfl
theorem flatE_at(L:List En)(i c:Nat)(hi:i<L.length)(hc:c<2):(flatE L)[i*2+c]? = (cellsE (atE L i))[c]?:=by
 induction L generalizing i with
 | nil=>simp at hi
 | cons k L ih=>
  have e:flatE (k :: L)=cellsE k++flatE L:=by unfold flatE;simp
  rw [e]
  cases i with
  | zero=>
   rw [List.getElem?_append_left (by simp [cellsE];omega)];simp [atE,List.getD]
  | succ i=>
   rw [List.getElem?_append_right (by simp [cellsE];omega)];have:(i+1)*2+c-(cellsE k).length=i*2+c:=by simp [cellsE];omega
   rw [this,ih i (by simpa using hi)];simp [atE,List.getD]
theorem flatE_set(L:List En)(k:Nat)(hk:k<L.length)(x:Int):(flatE L).set (k*2+1) (.int .i64 x)=flatE (L.set k ⟨(atE L k).key,x⟩):=by
 induction L generalizing k with
 | nil=>simp at hk
 | cons a L ih=>
  have e:∀(a:En) (L:List En),flatE (a :: L)=.string a.key :: .int .i64 a.val :: flatE L:=fun a L=>by unfold flatE;simp [cellsE]
  cases k with
  | zero=>rw [e];simp [atE,List.getD,e]
  | succ k=>
   rw [e];have h1:(k+1)*2+1=(k*2+1)+1+1:=by omega
   rw [h1,List.set_cons_succ,List.set_cons_succ,ih k (by simpa using hk),List.set_cons_succ,e];simp [atE,List.getD]
theorem cellsE_at{w:World}{g o:Nat}{k:En}(h:CellsE w g o k)(c:Nat)(hc:c<2)(u:Value)(hu:(cellsE k)[c]? = some u):w.cell? ⟨g,o+c,none⟩=some u:=by
 match c,hc with
 | 0,_=>simp [cellsE] at hu;subst hu;exact h.c0
 | 1,_=>simp [cellsE] at hu;subst hu;exact h.c1
theorem rdE_news{w:World}{g off:Nat}{L:List En}(h:RdE w (some ⟨g,off,none⟩) L):∀(j:Nat) u,(flatE L)[j]? = some u→w.cell? ((⟨g,off,none⟩:Addr).add j)=some u:=by
 intro j u hj;have hlt:j<L.length*2:=by
  have:=(List.getElem?_eq_some_iff.1 hj).1;rwa [flatE_len] at this
 have e:j=j / 2*2+j % 2:=by omega
 have hc:=(h.on (j / 2) (by omega)).2;rw [e,flatE_at L (j / 2) (j % 2) (by omega) (by omega)] at hj;have:=cellsE_at hc (j % 2) (by omega) u hj;rw [WideShapes.add_plain];rwa [show off+j / 2*2+j % 2=off+j by omega] at this
theorem rdE_news'{w:World}{Aa:Addr}{L:List En}(h:RdE w (some Aa) L):∀(j:Nat) u,(flatE L)[j]? = some u→w.cell? (Aa.add j)=some u:=by
 rcases id h with rfl | ⟨g,off,ha,_,_⟩
 ·intro j u hj;simp [flatE] at hj
 ·injection ha with ha;subst ha;exact rdE_news h
theorem RdE.drop{w:World}{g off cap:Nat}{L:List En}(h:RdE w (some ⟨g,off,none⟩) L)(k:Nat)(hk:k≤L.length)(hc:L.length≤cap):∃Aa:Addr,(if cap=k then some (⟨g,off,none⟩:Addr) else some ⟨g,off+k*2,none⟩)=some Aa∧RdE w (some Aa) (L.drop k):=by
 by_cases he:cap=k
 ·exact⟨_,if_pos he,.inl (by simp;omega)⟩
 ·refine⟨_,if_neg he,?_⟩;rcases h with h | ⟨g',off',ha,hg,hcl⟩
  ·exact .inl (by rw [h];simp)
  ·injection ha with ha;injection ha with h1 h2;subst h1 h2;refine .inr ⟨g,off+k*2,rfl,hg,fun i hi=>?_⟩;have hi':k+i<L.length:=by simp at hi;omega
   rw [atE_drop];have:=hcl (k+i) hi';rwa [show off+(k+i)*2=off+k*2+i*2 by omega] at this
def OwE(base:Nat)(w:World)(g cap:Nat)(L:List En):Prop:=w.ownsRow base 38 2 (.slice (some ⟨g,0,none⟩) L.length cap) L.length (flatE L)
section
variable {base g cap:Nat} {w w':World} {L:List En}
theorem OwE.shape(h:OwE base w g cap L):L.length≤cap∧cap≤maxLen∧base≤g∧g<w.heap.size:=by
 have hlt:=World.ownsRow.lt h g rfl;obtain⟨hl,⟨hv0,_⟩ | ⟨g',cap',cur,hvs,hbg,hcur,hmc,hm,_,htake⟩⟩:=h
 ·exact absurd hv0 (by simp)
 ·injection hvs with ha _ hc;subst hc;exact⟨hmc,hm,hlt.1,hlt.2⟩
theorem OwE.rd(h:OwE base w g cap L):RdE w (some ⟨g,0,none⟩) L:=by
 refine .inr ⟨g,0,rfl,h.shape.2.2.2,fun i hi=>?_⟩;rw [Nat.zero_add];have a0:=flatE_at L i 0 hi (by omega);have a1:=flatE_at L i 1 hi (by omega);rw [Nat.add_zero] at a0;exact⟨(World.ownsRow.cellAt h (i*2) (by omega)).trans (by rw [a0];rfl),(World.ownsRow.cellAt h (i*2+1) (by omega)).trans (by rw [a1];rfl)⟩
theorem OwE.frozen(h:OwE base w g cap L)(j:Nat):w.frozen? ⟨g,j,none⟩=false:=World.ownsRow.frozenAt h j
theorem OwE.below(h:OwE base w g cap L)(hb:Below w.heap.size w w'):OwE base w' g cap L:=by
 have hlt:=World.ownsRow.lt h;obtain⟨h1,h2⟩:=h;refine⟨h1,?_⟩;rcases h2 with h2 | ⟨g,cap',cur,hv,hB,hg,rest⟩
 ·exact .inl h2
 ·refine .inr ⟨g,cap',cur,hv,hB,?_,rest⟩;rw [hb.block g (hlt g (by rw [hv];rfl)).2];exact hg
theorem OwE.grown{c:Nat}(h:OwE base w g cap L)(hg:w.grownBy w' (some c))(hc:c<base):OwE base w' g cap L:=
 World.ownsRow.kept h hg (.inr (fun e=>by
   have e':g=c:=by simpa [Value.ownBlock] using e
   have:=h.shape.2.2.1;omega))
theorem OwE.alloc(h:OwE base w g cap L)(o:Obj):OwE base (w.alloc o) g cap L:=World.ownsRow.alloc h o
theorem OwE.mono{b:Nat}(h:OwE base w g cap L)(hb:b≤base):OwE b w g cap L:=Go.Joins.ownsRow_le h hb
theorem OwE.put(h:OwE base w g cap L)(k:Nat)(hk:k<L.length)(x:Int):OwE base (w.setCell ⟨g,k*2+1,none⟩ (.int .i64 x)) g cap (L.set k ⟨(atE L k).key,x⟩):=by
 have:=(World.ownsRow.stored h (k*2+1) (.int .i64 x)).1;rw [flatE_set L k hk x] at this;unfold OwE;rw [List.length_set];exact this
theorem OwE.of{v:Value}{n m:Nat}{M:List En}(hn:n=L.length)(hm:m=M.length)(h:w.ownsRow base 38 2 v (n+m) (flatE L++flatE M))(hv:v≠.slice none 0 0):∃g cap,v=.slice (some ⟨g,0,none⟩) (L++M).length cap∧OwE base w g cap (L++M):=by
 subst hn hm;rw [← flatE_app] at h;have e:L.length+M.length=(L++M).length:=by simp
 rw [e] at h;obtain⟨hl,⟨hv0,_⟩ | ⟨g',cap',cur,hvs,rest⟩⟩:=id h
 ·exact absurd hv0 hv
 ·subst hvs;exact⟨g',cap',rfl,h⟩
end
theorem owE_new(w:World):OwE w.heap.size (w.alloc (.cells #[] 38)) w.heap.size 0 []:=World.ownsRow_lit w #[] 0 (Nat.le_refl _) (by unfold maxLen;omega) rfl
theorem one_cells(W:World)(k:En)(t:TypeId):∀(j:Nat) u,(flatE [k])[j]? = some u→(W.alloc (.cells #[.string k.key,.int .i64 k.val] t)).cell? ((⟨W.heap.size,0,none⟩:Addr).add j)=some u:=by
 intro j u hj;match j,hj with
 | 0,hj=>simp [flatE,cellsE] at hj;subst hj;simp [Addr.add]
 | 1,hj=>simp [flatE,cellsE] at hj;subst hj;simp [Addr.add]
theorem infoE:(Try.prog.info? 38).map (fun i=>(i.zero,i.size,i.bytes))=some (some (.agg #[.string ⟨#[]⟩,.int .i64 0]),2,24):=by kernel_rfl
theorem step_E{ops:Array Oper}{o:Oper}{a:Act}{w:World}{K:Act→World→Prop}{Q:Exit→Act→World→Prop}{E:Prop}
  (hg:o.guard=none) (s x:Operand) (hop:o.op=Op.call { callee:=Callee.builtin Builtin.append,args:=#[s,x],argTypes:=#[24,24] })
  (B g c:Nat) (A M:List En) (hs:a.eval s=.slice (some ⟨g,0,none⟩) A.length c) (hown:OwE B w g c A) (ad:Addr) (m c2:Nat) (hm:m=M.length) (hx:a.eval x=.slice (some ad) m c2)
  (hrd:∀j u,(flatE M)[j]? = some u→w.cell? (ad.add j)=some u) (hsz:A.length+m≤4000000) (hB:B≤w.heap.size)
  (hK:∀g' c' w',OwE B w' g' c' (A++M)→w.grownBy w' (some g)→K (a.put o.dst (.slice (some ⟨g',0,none⟩) (A++M).length c')) w') :
  if Region.wanted o (yielded ops a.tmps)=true then Oper.wp Try.prog o a w K Q else E:=by
 obtain⟨i0,hi,hz0,hz1,hz2⟩:=info_parts infoE;rw [if_pos (by simp [Region.wanted,hg])];refine wp_append_own w s x 24 hop B 38 i0 (.agg #[.string ⟨#[]⟩,.int .i64 0]) 2 24 Try.underlying24 hi hz0 hz1 hz2 rfl (by decide) _ A.length (flatE A) hs hown ad m c2 (flatE M) hx (by rw [flatE_len,hm]) hrd (flatE_one M) (by unfold maxLen;omega) (by omega) hB ?_;intro v' w' hown' hgrow hnil;obtain⟨g',c',rfl,ho⟩:=OwE.of (L:=A) (M:=M) rfl hm hown' (by intro e;have:=(hnil.1 e).1;simp at this);exact hK g' c' w' ho hgrow
theorem list_E{ops:Array Oper}{rest:List Oper}{o:Oper}{a:Act}{w:World}{Q:Exit→Act→World→Prop}
  (hg:o.guard=none) (s x:Operand) (hop:o.op=Op.call { callee:=Callee.builtin Builtin.append,args:=#[s,x],argTypes:=#[24,24] })
  (B g c:Nat) (A M:List En) (hs:a.eval s=.slice (some ⟨g,0,none⟩) A.length c) (hown:OwE B w g c A) (ad:Addr) (m c2:Nat) (hm:m=M.length) (hx:a.eval x=.slice (some ad) m c2)
  (hrd:∀j u,(flatE M)[j]? = some u→w.cell? (ad.add j)=some u) (hsz:A.length+m≤4000000) (hB:B≤w.heap.size)
  (hK:∀g' c' w',OwE B w' g' c' (A++M)→w.grownBy w' (some g)→wpList Try.prog ops Q rest (a.put o.dst (.slice (some ⟨g',0,none⟩) (A++M).length c')) w') :
  wpList Try.prog ops Q (o :: rest) a w:=by
 obtain⟨i0,hi,hz0,hz1,hz2⟩:=info_parts infoE;refine wpList_append_own w hg s x 24 hop B 38 i0 (.agg #[.string ⟨#[]⟩,.int .i64 0]) 2 24 Try.underlying24 hi hz0 hz1 hz2 rfl (by decide) _ A.length (flatE A) hs hown ad m c2 (flatE M) hx (by rw [flatE_len,hm]) hrd (flatE_one M) (by unfold maxLen;omega) (by omega) hB ?_;intro v' w' hown' hgrow hnil;obtain⟨g',c',rfl,ho⟩:=OwE.of (L:=A) (M:=M) rfl hm hown' (by intro e;have:=(hnil.1 e).1;simp at this);exact hK g' c' w' ho hgrow
end Bk
end
section
namespace Kn
theorem take_snoc(s:ByteArray)(k:Nat)(h:k<s.size):s.data.toList.take (k+1)=s.data.toList.take k++[s[k]]:=by
 rw [List.take_succ_eq_append_getElem (by simpa using h)];rfl
theorem take_all(s:ByteArray):s.data.toList.take s.size=s.data.toList:=List.take_of_length_le (by simp)
structure K where
 hand:Int
 round:Int
 frm:Int
 word:ByteArray
end Kn
end
section
namespace De
def okL(c:UInt8):Bool:=decide (97≤c.toNat)&&decide (c.toNat≤122)
def keyB(s:ByteArray):Bool:=s.data.toList.all okL&&(decide (1≤s.size)&&decide (s.size≤3))
theorem allL_snoc(s:ByteArray)(k:Nat)(h:k<s.size):(s.data.toList.take (k+1)).all okL=((s.data.toList.take k).all okL&&okL s[k]):=by
 rw [Kn.take_snoc s k h];simp
theorem l16Key(s:ByteArray)(w:World)(hs:s.size≤1099511627776):Calls Try.prog 36 #[.string s] w fun e w'=>e=.returned (.bool (keyB s))∧w=w':=by
 have HIN:Hid (∀W:World,Calls Try.prog 37 #[.int .i64 (s.size:Int),.int .i64 1,.int .i64 3] W fun e w'=>e=.returned (.bool (decide ((1:Int)≤(s.size:Int))&&decide ((s.size:Int)≤3)))∧W=w'):=fun W=>Base.l1In (s.size:Int) 1 3 W
 go_enter Try.func36,Try.ntmps36
 go_wp2;go_loop [3] (fun i=>∃k:Nat,k≤s.size∧i=.int .i64 k∧Hid ((s.data.toList.take k).all okL=true)) (fun i=>s.size-(intOf i).toNat)
 case atStart=>exact⟨0,Nat.zero_le _,rfl,rfl⟩
 case round=>
  obtain⟨k,hk,rfl,HA⟩:=hrel;by_cases hlt:k<s.size
  ·have HS:Hid ((s.data.toList.take (k+1)).all okL=((s.data.toList.take k).all okL&&okL s[k])):=allL_snoc s k hlt;have HO:Hid (okL s[k]=true↔(97≤(s[k].toNat:Int)∧(s[k].toNat:Int)≤122)):=by
    show _↔_;simp [okL];omega
   have HB:Hid (okL s[k]=false→keyB s=false):=by
    intro h;have hm:s[k]∈s.data.toList:=by
     have hk2:k<s.data.toList.length:=by simpa using hlt
     have e:s[k]=s.data.toList[k]:=rfl;rw [e];exact List.getElem_mem hk2
    unfold keyB;have:s.data.toList.all okL=false:=by
     rw [List.all_eq_false];exact⟨s[k],hm,by simp [h]⟩
    rw [this];rfl
   by_cases c1:(97:Int)≤(s[k].toNat:Int)∧(s[k].toNat:Int)≤122
   ·have HC:Hid ((s.data.toList.take (k+1)).all okL=true):=by
     show _=true;rw [HS.out,HA.out,HO.out.2 c1];rfl
    obtain⟨c1,c1'⟩:=c1;clear HIN HS HO HB;go_wp2;go_round
    case rel=>exact⟨k+1,by omega,by go_num,HC⟩
    case measure=>simp [intOf];omega
   ·have HC:Hid (keyB s=false):=by
     apply HB.out
     cases h:okL s[k]
     ·rfl
     ·exfalso;exact c1 (HO.out.1 h)
    clear HS HO HB HA HIN;by_cases d1:(s[k].toNat:Int)<97
    ·clear c1;go_wp2;go_ret;exact⟨Base.ret_bool HC.out.symm,rfl⟩
    ·have d4:122<(s[k].toNat:Int):=by omega
     clear c1;go_wp2;go_ret;exact⟨Base.ret_bool HC.out.symm,rfl⟩
  ·have hk':k=s.size:=by omega
   have HT:Hid (keyB s=(decide ((1:Int)≤(s.size:Int))&&decide ((s.size:Int)≤3))):=by
    show _=_;unfold keyB;have:=HA.out;rw [hk',Kn.take_all] at this;rw [this,Bool.true_and];congr 1 <;> exact decide_eq_decide.2 (by omega)
   go_wp2_with (go_at_call 37;refine(HIN.out _).mono ?_;rintro e w' ⟨rfl,rfl⟩)
   go_ret;exact⟨Base.ret_bool HT.out.symm,rfl⟩
structure D where
 kind:Int
 key:ByteArray
 val:Int
 new:Int
def okD(d:D):Bool:=(decide (1≤d.kind)&&decide (d.kind≤4))&&(keyB d.key&&((decide (0≤d.val)&&decide (d.val≤99))&&((decide (0≤d.new)&&decide (d.new≤99))&&(((d.kind != 2) || (d.val == 0))&&((d.kind == 4) || (d.new == 0))))))
theorem specDeedOk(kind:Int)(key:ByteArray)(val new:Int)(w:World)(hs:key.size≤1099511627776):Calls Try.prog 34 #[.agg #[.int .i64 kind,.string key,.int .i64 val,.int .i64 new]] w fun e w'=>
  e=.returned (.bool (okD ⟨kind,key,val,new⟩))∧Below w.heap.size w w':=by
 have HO:Hid (okD ⟨kind,key,val,new⟩=((decide (1≤kind)&&decide (kind≤4))&&(keyB key&&((decide (0≤val)&&decide (val≤99))&&((decide (0≤new)&&decide (new≤99))&&(((kind != 2) || (val == 0))&&((kind == 4) || (new == 0)))))))):=rfl;have I1:Hid (∀W:World,Calls Try.prog 37 #[.int .i64 kind,.int .i64 1,.int .i64 4] W fun e w'=>e=.returned (.bool (decide (1≤kind)&&decide (kind≤4)))∧W=w'):=fun W=>Base.l1In kind 1 4 W
 have I2:Hid (∀W:World,Calls Try.prog 36 #[.string key] W fun e w'=>e=.returned (.bool (keyB key))∧W=w'):=fun W=>l16Key key W hs
 have I3:Hid (∀W:World,Calls Try.prog 37 #[.int .i64 val,.int .i64 0,.int .i64 99] W fun e w'=>e=.returned (.bool (decide (0≤val)&&decide (val≤99)))∧W=w'):=fun W=>Base.l1In val 0 99 W
 have I4:Hid (∀W:World,Calls Try.prog 37 #[.int .i64 new,.int .i64 0,.int .i64 99] W fun e w'=>e=.returned (.bool (decide (0≤new)&&decide (new≤99)))∧W=w'):=fun W=>Base.l1In new 0 99 W
 have B1:Hid (∀o:Obj,Below w.heap.size w (w.alloc o)):=fun o=>(Below.refl _ _).alloc (Nat.le_refl _) o
 generalize okD ⟨kind,key,val,new⟩=ok at HO ⊢;generalize (decide (1≤kind)&&decide (kind≤4))=b1 at HO I1;generalize keyB key=b2 at HO I2;generalize (decide (0≤val)&&decide (val≤99))=b3 at HO I3;generalize (decide (0≤new)&&decide (new≤99))=b4 at HO I4;generalize h5:(kind != 2)=b5 at HO;generalize h6:(val == 0)=b6 at HO;generalize h7:(kind == 4)=b7 at HO;generalize h8:(new == 0)=b8 at HO;clear hs;go_enter Try.func34,Try.ntmps34
 go_wp2_with fail
 refine(I1.out _).mono ?_;rintro e w1 ⟨rfl,rfl⟩
 cases b1
 ·go_wp2;go_ret;exact⟨Base.ret_bool (by rw [HO.out];rfl),B1.out _⟩
 go_wp2_with fail
 refine(I2.out _).mono ?_;rintro e w1 ⟨rfl,rfl⟩
 cases b2
 ·go_wp2;go_ret;exact⟨Base.ret_bool (by rw [HO.out];rfl),B1.out _⟩
 go_wp2_with fail
 refine(I3.out _).mono ?_;rintro e w1 ⟨rfl,rfl⟩
 cases b3
 ·go_wp2;go_ret;exact⟨Base.ret_bool (by rw [HO.out];rfl),B1.out _⟩
 go_wp2_with fail
 refine(I4.out _).mono ?_;rintro e w1 ⟨rfl,rfl⟩
 cases b4
 ·go_wp2;go_ret;exact⟨Base.ret_bool (by rw [HO.out];rfl),B1.out _⟩
 cases b5 <;> cases b6 <;> cases b7 <;> cases b8 <;>
 ·go_wp2;go_ret;exact⟨Base.ret_bool (by rw [HO.out];rfl),B1.out _⟩
end De
end
section
namespace Memb
end Memb
end
section
namespace Kn
def dig(n:Nat):UInt8:=UInt8.ofNat (48+n % 10)
def B(l:List UInt8):ByteArray:=⟨l.toArray⟩
theorem B_size(l:List UInt8):(B l).size=l.length:=by simp [B,ByteArray.size]
theorem B_app(a b:List UInt8):B a++B b=B (a++b):=by
 apply ByteArray.ext;simp [B]
theorem nums_dig(m:Nat):strOfNums [48+(m:Int) % 10]=B [dig m]:=by
 unfold strOfNums B dig;have e:(48+(m:Int) % 10).toNat=48+m % 10:=by omega
 simp [e]
theorem conv1(W:World)(m:Nat):(convert 22 9 (.slice (some ⟨W.heap.size,0,none⟩) 1 1)).run Try.prog (W.alloc (.cells #[.int .u8 (48+(m:Int) % 10)] 5))=.ok (.string (B [dig m])) (W.alloc (.cells #[.int .u8 (48+(m:Int) % 10)] 5)):=by
 have h:=run_convert_bytes_arg (P:=Try.prog) (W.alloc (.cells #[.int .u8 (48+(m:Int) % 10)] 5)) 22 5 Try.underlying22 Try.underlying5 W.heap.size 0 1 1 [48+(m:Int) % 10] rfl
  (fun i hi=>by obtain rfl:i=0:=(by omega);simp) 9 Try.underlying9
 rw [nums_dig] at h;exact h
end Kn
end
section
namespace Kn
end Kn
end
section
namespace Kn
end Kn
end
section
namespace De
open Kn (B)
structure OkD(d:D):Prop where
 k1:1≤d.kind
 k4:d.kind≤4
 key:keyB d.key=true
 v0:0≤d.val
 v1:d.val≤99
 n0:0≤d.new
 n1:d.new≤99
 cut:d.kind=2→d.val=0
 ifs:d.kind≠4→d.new=0
theorem okD_iff(d:D):okD d=true↔OkD d:=by
 unfold okD;simp only [Bool.and_eq_true,decide_eq_true_eq,Bool.or_eq_true,bne_iff_ne,ne_eq,beq_iff_eq];constructor
 ·rintro⟨⟨a1,a2⟩,a3,⟨a4,a5⟩,⟨a6,a7⟩,a8,a9⟩;exact⟨a1,a2,a3,a4,a5,a6,a7,fun h=>by rcases a8 with q | q;exact absurd h q;exact q,fun h=>by rcases a9 with q | q;exact absurd q h;exact q⟩
 ·rintro⟨a1,a2,a3,a4,a5,a6,a7,a8,a9⟩;exact⟨⟨a1,a2⟩,a3,⟨a4,a5⟩,⟨a6,a7⟩,by by_cases h:d.kind=2;exact .inr (a8 h);exact .inl h,by by_cases h:d.kind=4;exact .inl h;exact .inr (a9 h)⟩
end De
end
section
namespace De
open Kn (B)
theorem box4(w:World)(a b c d:Value)(t:TypeId):Below w.heap.size w (w.alloc (.cells #[a,b,c,d] t))∧(w.alloc (.cells #[a,b,c,d] t)).cell? ⟨w.heap.size,0,none⟩=some a∧(w.alloc (.cells #[a,b,c,d] t)).cell? ⟨w.heap.size,1,none⟩=some b∧(w.alloc (.cells #[a,b,c,d] t)).cell? ⟨w.heap.size,2,none⟩=some c∧(w.alloc (.cells #[a,b,c,d] t)).cell? ⟨w.heap.size,3,none⟩=some d∧w.heap.size<(w.alloc (.cells #[a,b,c,d] t)).heap.size:=
 ⟨(Below.refl _ _).alloc (Nat.le_refl _) _,by simp,by simp,by simp,by simp,by simp⟩
end De
end
section
namespace De
open Kn (B)
end De
end
section
namespace Lst
end Lst
end
section
namespace Kn
end Kn
end
section
namespace Kn
end Kn
end
section
namespace Cur
theorem and_bd(n m:Int)(h0:0≤m)(h1:m<9223372036854775808):0≤bits .and .i64 n m∧bits .and .i64 n m≤m:=by
 obtain⟨M,rfl⟩:=Int.eq_ofNat_of_zero_le h0;have hM:(BitVec.ofInt 64 (M:Int)).toNat=M:=ofInt_u64 M (by omega);have hx:(BitVec.ofInt 64 n &&& BitVec.ofInt 64 (M:Int)).toNat≤M:=by
  rw [BitVec.toNat_and,hM];exact Nat.and_le_right
 have e:bits .and .i64 n (M:Int)=IntKind.i64.wrap ((BitVec.ofInt 64 n &&& BitVec.ofInt 64 (M:Int)).toNat:Int):=rfl;rw [e];generalize (BitVec.ofInt 64 n &&& BitVec.ofInt 64 (M:Int)).toNat=x at hx;simp only [IntKind.wrap,IntKind.bits,IntKind.signed];simp;omega
def Bytes(w:World)(c:Nat)(a:Option Addr)(len:Nat):Prop:=
 len=0∨∃b off,a=some ⟨b,off,none⟩∧b≠c∧b<w.heap.size∧∀j,j<len→∃z:Int,w.cell? ⟨b,off+j,none⟩=some (.int .u8 z)∧0≤z∧z≤255
structure At(c:Nat)(a:Option Addr)(len cap:Nat)(w:World):Prop where
 lt:c<w.heap.size
 b:w.cell? ⟨c,0,none⟩=some (.slice a len cap)
 i:∃i:Int,w.cell? ⟨c,1,none⟩=some (.int .i64 i)∧0≤i∧i≤(len:Int)
 h:∃h:Int,w.cell? ⟨c,2,none⟩=some (.int .i64 h)∧-9223372036854775808≤h∧h≤9223372036854775807
 f1:w.frozen? ⟨c,1,none⟩=false
 f2:w.frozen? ⟨c,2,none⟩=false
 bytes:Bytes w c a len
theorem At.below{c:Nat}{a:Option Addr}{len cap:Nat}{w w':World}(h:At c a len cap w)(hb:Below w.heap.size w w'):At c a len cap w' where
 lt:=Nat.lt_of_lt_of_le h.lt hb.size
 b:=(hb.cell (p:=⟨c,0,none⟩) h.lt).trans h.b
 i:=by obtain⟨i,h1,h2⟩:=h.i;exact⟨i,(hb.cell (p:=⟨c,1,none⟩) h.lt).trans h1,h2⟩
 h:=by obtain⟨i,h1,h2⟩:=h.h;exact⟨i,(hb.cell (p:=⟨c,2,none⟩) h.lt).trans h1,h2⟩
 f1:=(hb.frozen (p:=⟨c,1,none⟩) h.lt).trans h.f1
 f2:=(hb.frozen (p:=⟨c,2,none⟩) h.lt).trans h.f2
 bytes:=by
  rcases h.bytes with h0 | ⟨b,off,ha,hne,hlt,hc⟩
  ·exact .inl h0
  ·refine .inr ⟨b,off,ha,hne,Nat.lt_of_lt_of_le hlt hb.size,fun j hj=>?_⟩;obtain⟨z,h1,h2⟩:=hc j hj;exact⟨z,(hb.cell (p:=⟨b,off+j,none⟩) hlt).trans h1,h2⟩
theorem At.drewN{c:Nat}{a:Option Addr}{len cap:Nat}{w:World}(h:At c a len cap w)(n:Nat):At c a len cap (w.drewN n):=⟨h.lt,h.b,h.i,h.h,h.f1,h.f2,h.bytes⟩
theorem At.setI{c:Nat}{a:Option Addr}{len cap:Nat}{w:World}(h:At c a len cap w)(i:Int)(h0:0≤i)(h1:i≤(len:Int)):At c a len cap (w.setCell ⟨c,1,none⟩ (.int .i64 i)) where
 lt:=by simpa using h.lt
 b:=(World.cell?_setCell_other _ _ _ _ (by simp)).trans h.b
 i:=by obtain⟨j,hj,_⟩:=h.i;exact⟨i,World.cell?_setCell_same _ _ _ hj,h0,h1⟩
 h:=by obtain⟨j,hj,hh⟩:=h.h;exact⟨j,(World.cell?_setCell_other _ _ _ _ (by simp)).trans hj,hh⟩
 f1:=by simpa using h.f1
 f2:=by simpa using h.f2
 bytes:=by
  rcases h.bytes with h0 | ⟨b,off,ha,hne,hlt,hc⟩
  ·exact .inl h0
  ·refine .inr ⟨b,off,ha,hne,by simpa using hlt,fun j hj=>?_⟩;obtain⟨z,h1,h2⟩:=hc j hj;exact⟨z,(World.cell?_setCell_other _ _ _ _ (by simp)).trans h1,h2⟩
theorem At.setH{c:Nat}{a:Option Addr}{len cap:Nat}{w:World}(h:At c a len cap w)(i:Int)(h0:-9223372036854775808≤i)(h1:i≤9223372036854775807):At c a len cap (w.setCell ⟨c,2,none⟩ (.int .i64 i)) where
 lt:=by simpa using h.lt
 b:=(World.cell?_setCell_other _ _ _ _ (by simp)).trans h.b
 i:=by obtain⟨j,hj,hh⟩:=h.i;exact⟨j,(World.cell?_setCell_other _ _ _ _ (by simp)).trans hj,hh⟩
 h:=by obtain⟨j,hj,_⟩:=h.h;exact⟨i,World.cell?_setCell_same _ _ _ hj,h0,h1⟩
 f1:=by simpa using h.f1
 f2:=by simpa using h.f2
 bytes:=by
  rcases h.bytes with h0 | ⟨b,off,ha,hne,hlt,hc⟩
  ·exact .inl h0
  ·refine .inr ⟨b,off,ha,hne,by simpa using hlt,fun j hj=>?_⟩;obtain⟨z,h1,h2⟩:=hc j hj;exact⟨z,(World.cell?_setCell_other _ _ _ _ (by simp)).trans h1,h2⟩
theorem grownBy_trans{a b d:World}{r:Option Nat}(h:a.grownBy b r)(k:b.grownBy d r):a.grownBy d r where
 os:=k.os.trans h.os
 tape:=k.tape.trans h.tape
 output:=k.output.trans h.output
 size:=Nat.le_trans h.size k.size
 block:=fun j hj hne=>(k.block j (Nat.lt_of_lt_of_le hj h.size) hne).trans (h.block j hj hne)
theorem grownBy_drewN{a b:World}{r:Option Nat}(h:a.grownBy b r)(n:Nat):a.grownBy (b.drewN n) r:=⟨h.os,h.tape,h.output,h.size,h.block⟩
theorem grownBy_set{a b:World}{c:Nat}(h:a.grownBy b (some c))(j:Nat)(u:Value):a.grownBy (b.setCell ⟨c,j,none⟩ u) (some c) where
 os:=h.os
 tape:=h.tape
 output:=h.output
 size:=by simpa using h.size
 block:=fun k hk hne=>(heap_setCell_other b ⟨c,j,none⟩ k u (fun e=>hne (by simp [e]))).trans (h.block k hk hne)
theorem wrap64_bd(n:Int):-9223372036854775808≤wrap64 n∧wrap64 n≤9223372036854775807:=by unfold wrap64;omega
theorem byte(c:Nat)(a:Option Addr)(len cap:Nat)(w:World)(hl:len≤4096)(hc:At c a len cap w) :
  Calls Try.prog 44 #[.pointer (some ⟨c,0,none⟩)] w fun e w'=>∃x:Int,e=.returned (.int .i64 x)∧0≤x∧x≤255∧At c a len cap w'∧w.grownBy w' (some c):=by
 obtain⟨h,ch,hh0,hh1⟩:=hc.h;have f2:=hc.f2;have hb:=wrap64_bd (wrap64 (h*6364136223846793005)+1442695040888963407);have A1:At c a len cap (w.setCell ⟨c,2,none⟩ (.int .i64 (wrap64 (wrap64 (h*6364136223846793005)+1442695040888963407)))):=hc.setH _ hb.1 hb.2;have G1:w.grownBy (w.setCell ⟨c,2,none⟩ (.int .i64 (wrap64 (wrap64 (h*6364136223846793005)+1442695040888963407)))) (some c):=grownBy_set (World.grownBy.refl _ _) _ _;clear hb;have HA:Hid _:=A1;have HG:Hid _:=G1;clear A1 G1;go_enter Try.func44,Try.ntmps44
 go_wp2_with fail
 clear ch f2 hc hh0 hh1;generalize w.setCell ⟨c,2,none⟩ (.int .i64 (wrap64 (wrap64 (h*6364136223846793005)+1442695040888963407)))=w1 at HA HG ⊢;generalize wrap64 (wrap64 (h*6364136223846793005)+1442695040888963407)=h1;generalize wrap64 (h*6364136223846793005)=h2;have A1:=HA.out;clear HA;obtain⟨i,ci,hi0,hi1⟩:=A1.i;obtain⟨h,ch,hh0,hh1⟩:=A1.h;have cb:=A1.b;have f1:=A1.f1;have HA:Hid (At c a len cap w1):=A1;clear A1;go_quiet (fail)
 have hx:=and_bd (bits .xor .i64 (h / 8589934592) (h / 35184372088832)) 255 (by omega) (by omega);go_wp2_with fail
 generalize bits .and .i64 (bits .xor .i64 (h / 8589934592) (h / 35184372088832)) 255=x0 at hx ⊢;obtain⟨hx0,hx1⟩:=hx;by_cases hlt:i<(len:Int)
 ·obtain⟨b,off,ha,hcell⟩:∃b off,a=some ⟨b,off,none⟩∧∀j,j<len→∃z:Int,w1.cell? ⟨b,off+j,none⟩=some (.int .u8 z)∧0≤z∧z≤255:=by
   rcases HA.out.bytes with h | ⟨b,off,ha,_,_,hcell⟩
   ·exfalso;omega
   ·exact⟨b,off,ha,hcell⟩
  subst ha;obtain⟨z,cz,hz0,hz1⟩:=hcell i.toNat (by omega);clear hcell;have HB:Hid (At c (some ⟨b,off,none⟩) len cap (w1.setCell ⟨c,1,none⟩ (.int .i64 (i+1)))):=HA.out.setI (i+1) (by omega) (by omega);have HS:Hid (w.grownBy (w1.setCell ⟨c,1,none⟩ (.int .i64 (i+1))) (some c)):=grownBy_set HG.out _ _;go_quiet (fail)
  go_wp2_with fail
  go_quiet (fail)
  have hy:=and_bd (x0+z) 255 (by omega) (by omega);go_wp2;go_ret;exact⟨_,rfl,hy.1,hy.2,HB.out.drewN _,grownBy_drewN HS.out _⟩
 ·go_quiet (fail)
  go_wp2;go_ret;exact⟨_,rfl,hx0,hx1,HA.out.drewN _,grownBy_drewN HG.out _⟩
theorem below(c:Nat)(a:Option Addr)(len cap:Nat)(n:Int)(w:World)(hl:len≤4096)(hn:n≤1000000000000)(hc:At c a len cap w) :
  Calls Try.prog 28 #[.pointer (some ⟨c,0,none⟩),.int .i64 n] w fun e w'=>∃x:Int,e=.returned (.int .i64 x)∧0≤x∧(0<n→x<n)∧At c a len cap w'∧w.grownBy w' (some c):=by
 by_cases h0:n≤0
 ·go_enter Try.func28,Try.ntmps28
  go_wp2_with fail
  go_ret;exact⟨0,rfl,by omega,by omega,hc,World.grownBy.refl _ _⟩
 ·by_cases h1:n≤256
  ·go_enter Try.func28,Try.ntmps28
   go_wp2_with fail
   refine(byte c a len cap _ hl hc).mono ?_;rintro e w1 ⟨x,rfl,hx0,hx1,hA,hG⟩;have m0:=Int.emod_nonneg x (show n≠0 by omega);have m1:=Int.emod_lt_of_pos x (show 0<n by omega);go_wp2;go_ret;exact⟨x % n,rfl,m0,fun _=>m1,hA,hG⟩
  ·go_enter Try.func28,Try.ntmps28
   go_wp2_with fail
   refine(byte c a len cap _ hl hc).mono ?_;rintro e w1 ⟨x,rfl,hx0,hx1,hA,hG⟩;go_wp2_with fail
   refine(byte c a len cap _ hl hA).mono ?_;rintro e w2 ⟨y,rfl,hy0,hy1,hA2,hG2⟩;go_wp2_with fail
   refine(byte c a len cap _ hl hA2).mono ?_;rintro e w3 ⟨z,rfl,hz0,hz1,hA3,hG3⟩;go_wp2_with fail
   refine(byte c a len cap _ hl hA3).mono ?_;rintro e w4 ⟨u,rfl,hu0,hu1,hA4,hG4⟩;have m0:=Int.emod_nonneg (x*16777216+y*65536+z*256+u) (show n≠0 by omega);have m1:=Int.emod_lt_of_pos (x*16777216+y*65536+z*256+u) (show 0<n by omega);go_wp2;go_ret;exact⟨(x*16777216+y*65536+z*256+u) % n,rfl,m0,fun _=>m1,hA4,grownBy_trans (grownBy_trans (grownBy_trans hG hG2) hG3) hG4⟩
theorem once(c:Nat)(a:Option Addr)(len cap:Nat)(n:Int)(w:World)(hl:len≤4096)(hn:n≤1000000000000)(hc:At c a len cap w) :
  Calls Try.prog 27 #[.pointer (some ⟨c,0,none⟩),.int .i64 n] w fun e w'=>∃b:Bool,e=.returned (.bool b)∧At c a len cap w'∧w.grownBy w' (some c):=by
 go_enter Try.func27,Try.ntmps27
 go_wp2_with fail
 refine(below c a len cap n _ hl hn hc).mono ?_;rintro e w1 ⟨x,rfl,hx0,hx1,hA,hG⟩;go_wp2;go_ret;exact⟨_,rfl,hA,hG⟩
def Code(w:World)(a:Option Addr)(len:Nat):Prop:=
 len=0∨∃b off,a=some ⟨b,off,none⟩∧b<w.heap.size∧∀j,j<len→∃z:Int,w.cell? ⟨b,off+j,none⟩=some (.int .u8 z)∧0≤z∧z≤255
theorem at_new(w:World)(a:Option Addr)(len cap:Nat)(h:Int)(h0:-9223372036854775808≤h)(h1:h≤9223372036854775807)(hc:Code w a len) :
  At w.heap.size a len cap (w.alloc (.cells #[.slice a len cap,.int .i64 0,.int .i64 h] 74)) where
 lt:=by simp
 b:=by simp
 i:=⟨0,by simp,by omega,by omega⟩
 h:=⟨h,by simp,h0,h1⟩
 f1:=by simp
 f2:=by simp
 bytes:=by
  rcases hc with hc | ⟨b,off,ha,hb,hcell⟩
  ·exact .inl hc
  ·refine .inr ⟨b,off,ha,by omega,by simp;omega,fun j hj=>?_⟩;obtain⟨z,hz,hz'⟩:=hcell j hj;exact⟨z,(World.cell?_alloc_lt w _ ⟨b,off+j,none⟩ hb).trans hz,hz'⟩
theorem new(a:Option Addr)(len cap:Nat)(w:World)(hl:len≤4096)(hc:Code w a len) :
  Calls Try.prog 24 #[.slice a len cap] w fun e w'=>e=.returned (.pointer (some ⟨w.heap.size,0,none⟩))∧At w.heap.size a len cap w'∧Below w.heap.size w w':=by
 go_enter Try.func24,Try.ntmps24
 go_wp2;go_loop [3,4] (fun v i=>∃(k:Nat) (h:Int),k≤len∧i=.int .i64 k∧v=.int .i64 h∧0≤h∧h≤1073741823) (fun _ i=>len-(intOf i).toNat)
 case atStart=>exact⟨0,_,by omega,rfl,rfl,by omega,by omega⟩
 case round=>
  obtain⟨k,h,hk,rfl,rfl,hh0,hh1⟩:=hrel;by_cases hlt:k<len
  ·rcases hc with hc | ⟨b,off,rfl,hb,hcell⟩
   ·exfalso;omega
   ·obtain⟨z,cz,hz0,hz1⟩:=hcell k hlt;clear hcell;have hy:=and_bd (h*137+z+11) 1073741823 (by omega) (by omega);go_wp2;go_round
    case rel=>exact⟨k+1,_,by omega,by go_num,rfl,hy.1,hy.2⟩
    case measure=>simp [intOf];omega
  ·go_wp2;go_ret;exact⟨rfl,at_new w a len cap h (by omega) (by omega) hc,(Below.refl _ _).alloc (Nat.le_refl _) _⟩
end Cur
end
section
namespace Kn
structure Two(b:Nat)(w:World)(h r f:Int)(wd:ByteArray):Prop where
 lt:b+1<w.heap.size
 r0:w.cell? ⟨b,0,none⟩=some (.int .i64 0)
 r1:w.cell? ⟨b,1,none⟩=some (.int .i64 0)
 r2:w.cell? ⟨b,2,none⟩=some (.int .i64 0)
 r3:w.cell? ⟨b,3,none⟩=some (.string ⟨#[]⟩)
 rf:∀j,w.frozen? ⟨b,j,none⟩=false
 k0:w.cell? ⟨b+1,0,none⟩=some (.int .i64 h)
 k1:w.cell? ⟨b+1,1,none⟩=some (.int .i64 r)
 k2:w.cell? ⟨b+1,2,none⟩=some (.int .i64 f)
 k3:w.cell? ⟨b+1,3,none⟩=some (.string wd)
 kf:∀j,w.frozen? ⟨b+1,j,none⟩=false
theorem Two.below{b:Nat}{w w':World}{h r f:Int}{wd:ByteArray}(t:Two b w h r f wd)(hb:Below w.heap.size w w'):Two b w' h r f wd where
 lt:=Nat.lt_of_lt_of_le t.lt hb.size
 r0:=(hb.cell (p:=⟨b,0,none⟩) (Nat.lt_of_succ_lt t.lt)).trans t.r0
 r1:=(hb.cell (p:=⟨b,1,none⟩) (Nat.lt_of_succ_lt t.lt)).trans t.r1
 r2:=(hb.cell (p:=⟨b,2,none⟩) (Nat.lt_of_succ_lt t.lt)).trans t.r2
 r3:=(hb.cell (p:=⟨b,3,none⟩) (Nat.lt_of_succ_lt t.lt)).trans t.r3
 rf:=fun j=>(hb.frozen (p:=⟨b,j,none⟩) (Nat.lt_of_succ_lt t.lt)).trans (t.rf j)
 k0:=(hb.cell (p:=⟨b+1,0,none⟩) t.lt).trans t.k0
 k1:=(hb.cell (p:=⟨b+1,1,none⟩) t.lt).trans t.k1
 k2:=(hb.cell (p:=⟨b+1,2,none⟩) t.lt).trans t.k2
 k3:=(hb.cell (p:=⟨b+1,3,none⟩) t.lt).trans t.k3
 kf:=fun j=>(hb.frozen (p:=⟨b+1,j,none⟩) t.lt).trans (t.kf j)
end Kn
end
section
namespace De
open Kn (B)
structure TwoD(b x:Nat)(w:World)(k:Int)(s:ByteArray)(v n:Int):Prop where
 bx:b<x
 lt:x<w.heap.size
 r0:w.cell? ⟨b,0,none⟩=some (.int .i64 0)
 r1:w.cell? ⟨b,1,none⟩=some (.string ⟨#[]⟩)
 r2:w.cell? ⟨b,2,none⟩=some (.int .i64 0)
 r3:w.cell? ⟨b,3,none⟩=some (.int .i64 0)
 rf:∀j,w.frozen? ⟨b,j,none⟩=false
 k0:w.cell? ⟨x,0,none⟩=some (.int .i64 k)
 k1:w.cell? ⟨x,1,none⟩=some (.string s)
 k2:w.cell? ⟨x,2,none⟩=some (.int .i64 v)
 k3:w.cell? ⟨x,3,none⟩=some (.int .i64 n)
 kf:∀j,w.frozen? ⟨x,j,none⟩=false
section
variable {b x:Nat} {w:World} {k v n:Int} {s:ByteArray}
theorem TwoD.below{w':World}(t:TwoD b x w k s v n)(hb:Below w.heap.size w w'):TwoD b x w' k s v n:=by
 have l:=t.lt;have l2:=t.bx;have h0:b<w.heap.size:=by omega
 exact⟨l2,Nat.lt_of_lt_of_le l hb.size,(hb.cell (p:=⟨b,0,none⟩) h0).trans t.r0,(hb.cell (p:=⟨b,1,none⟩) h0).trans t.r1,(hb.cell (p:=⟨b,2,none⟩) h0).trans t.r2,(hb.cell (p:=⟨b,3,none⟩) h0).trans t.r3,fun j=>(hb.frozen (p:=⟨b,j,none⟩) h0).trans (t.rf j),(hb.cell (p:=⟨x,0,none⟩) l).trans t.k0,(hb.cell (p:=⟨x,1,none⟩) l).trans t.k1,(hb.cell (p:=⟨x,2,none⟩) l).trans t.k2,(hb.cell (p:=⟨x,3,none⟩) l).trans t.k3,fun j=>(hb.frozen (p:=⟨x,j,none⟩) l).trans (t.kf j)⟩
theorem TwoD.drew(t:TwoD b x w k s v n):TwoD b x w.drew k s v n:=⟨t.bx,t.lt,t.r0,t.r1,t.r2,t.r3,t.rf,t.k0,t.k1,t.k2,t.k3,t.kf⟩
theorem TwoD.set0(t:TwoD b x w k s v n)(y:Int):TwoD b x (w.setCell ⟨x,0,none⟩ (.int .i64 y)) y s v n:=
 ⟨t.bx,by simpa using t.lt,(World.cell?_setCell_other _ _ _ _ (by have:=t.bx;intro e;injection e with e;omega)).trans t.r0,(World.cell?_setCell_other _ _ _ _ (by have:=t.bx;intro e;injection e with e;omega)).trans t.r1,(World.cell?_setCell_other _ _ _ _ (by have:=t.bx;intro e;injection e with e;omega)).trans t.r2,(World.cell?_setCell_other _ _ _ _ (by have:=t.bx;intro e;injection e with e;omega)).trans t.r3,fun j=>by simpa using t.rf j,World.cell?_setCell_same _ _ _ t.k0,(World.cell?_setCell_other _ _ _ _ (by simp)).trans t.k1,(World.cell?_setCell_other _ _ _ _ (by simp)).trans t.k2,(World.cell?_setCell_other _ _ _ _ (by simp)).trans t.k3,fun j=>by simpa using t.kf j⟩
theorem TwoD.set1(t:TwoD b x w k s v n)(y:ByteArray):TwoD b x (w.setCell ⟨x,1,none⟩ (.string y)) k y v n:=
 ⟨t.bx,by simpa using t.lt,(World.cell?_setCell_other _ _ _ _ (by have:=t.bx;intro e;injection e with e;omega)).trans t.r0,(World.cell?_setCell_other _ _ _ _ (by have:=t.bx;intro e;injection e with e;omega)).trans t.r1,(World.cell?_setCell_other _ _ _ _ (by have:=t.bx;intro e;injection e with e;omega)).trans t.r2,(World.cell?_setCell_other _ _ _ _ (by have:=t.bx;intro e;injection e with e;omega)).trans t.r3,fun j=>by simpa using t.rf j,(World.cell?_setCell_other _ _ _ _ (by simp)).trans t.k0,World.cell?_setCell_same _ _ _ t.k1,(World.cell?_setCell_other _ _ _ _ (by simp)).trans t.k2,(World.cell?_setCell_other _ _ _ _ (by simp)).trans t.k3,fun j=>by simpa using t.kf j⟩
theorem TwoD.set2(t:TwoD b x w k s v n)(y:Int):TwoD b x (w.setCell ⟨x,2,none⟩ (.int .i64 y)) k s y n:=
 ⟨t.bx,by simpa using t.lt,(World.cell?_setCell_other _ _ _ _ (by have:=t.bx;intro e;injection e with e;omega)).trans t.r0,(World.cell?_setCell_other _ _ _ _ (by have:=t.bx;intro e;injection e with e;omega)).trans t.r1,(World.cell?_setCell_other _ _ _ _ (by have:=t.bx;intro e;injection e with e;omega)).trans t.r2,(World.cell?_setCell_other _ _ _ _ (by have:=t.bx;intro e;injection e with e;omega)).trans t.r3,fun j=>by simpa using t.rf j,(World.cell?_setCell_other _ _ _ _ (by simp)).trans t.k0,(World.cell?_setCell_other _ _ _ _ (by simp)).trans t.k1,World.cell?_setCell_same _ _ _ t.k2,(World.cell?_setCell_other _ _ _ _ (by simp)).trans t.k3,fun j=>by simpa using t.kf j⟩
theorem TwoD.set3(t:TwoD b x w k s v n)(y:Int):TwoD b x (w.setCell ⟨x,3,none⟩ (.int .i64 y)) k s v y:=
 ⟨t.bx,by simpa using t.lt,(World.cell?_setCell_other _ _ _ _ (by have:=t.bx;intro e;injection e with e;omega)).trans t.r0,(World.cell?_setCell_other _ _ _ _ (by have:=t.bx;intro e;injection e with e;omega)).trans t.r1,(World.cell?_setCell_other _ _ _ _ (by have:=t.bx;intro e;injection e with e;omega)).trans t.r2,(World.cell?_setCell_other _ _ _ _ (by have:=t.bx;intro e;injection e with e;omega)).trans t.r3,fun j=>by simpa using t.rf j,(World.cell?_setCell_other _ _ _ _ (by simp)).trans t.k0,(World.cell?_setCell_other _ _ _ _ (by simp)).trans t.k1,(World.cell?_setCell_other _ _ _ _ (by simp)).trans t.k2,World.cell?_setCell_same _ _ _ t.k3,fun j=>by simpa using t.kf j⟩
end
theorem zd_new(w:World)(t:TypeId):w.heap.size<(w.alloc (.cells #[.int .i64 0,.string ⟨#[]⟩,.int .i64 0,.int .i64 0] t)).heap.size∧(w.alloc (.cells #[.int .i64 0,.string ⟨#[]⟩,.int .i64 0,.int .i64 0] t)).cell? ⟨w.heap.size,0,none⟩=some (.int .i64 0)∧(w.alloc (.cells #[.int .i64 0,.string ⟨#[]⟩,.int .i64 0,.int .i64 0] t)).cell? ⟨w.heap.size,1,none⟩=some (.string ⟨#[]⟩)∧(w.alloc (.cells #[.int .i64 0,.string ⟨#[]⟩,.int .i64 0,.int .i64 0] t)).cell? ⟨w.heap.size,2,none⟩=some (.int .i64 0)∧(w.alloc (.cells #[.int .i64 0,.string ⟨#[]⟩,.int .i64 0,.int .i64 0] t)).cell? ⟨w.heap.size,3,none⟩=some (.int .i64 0)∧(∀j,(w.alloc (.cells #[.int .i64 0,.string ⟨#[]⟩,.int .i64 0,.int .i64 0] t)).frozen? ⟨w.heap.size,j,none⟩=false):=⟨by simp,by simp,by simp,by simp,by simp,fun j=>by simp⟩
end De
end
section
namespace Bk
open De (D okD keyB)
theorem less_irr:∀x:List UInt8,Op.bytesLess x x=false:=by
 intro x;induction x with
 | nil=>rfl
 | cons a x ih=>simp [Op.bytesLess,ih]
theorem less_trans:∀x y z:List UInt8,Op.bytesLess x y=true→Op.bytesLess y z=true→Op.bytesLess x z=true:=by
 intro x;induction x with
 | nil=>
  intro y z h1 h2
  cases z with
  | nil=>cases y <;> simp [Op.bytesLess] at h1 h2
  | cons c z=>rfl
 | cons a x ih=>
  intro y z h1 h2
  cases y with
  | nil=>simp [Op.bytesLess] at h1
  | cons b y=>
   cases z with
   | nil=>simp [Op.bytesLess] at h2
   | cons c z=>
    simp only [Op.bytesLess,Bool.or_eq_true,Bool.and_eq_true,decide_eq_true_eq,beq_iff_eq] at h1 h2 ⊢;rcases h1 with h1 | ⟨h1,h1'⟩ <;> rcases h2 with h2 | ⟨h2,h2'⟩
    ·exact .inl (UInt8.lt_trans h1 h2)
    ·subst h2;exact .inl h1
    ·subst h1;exact .inl h2
    ·subst h1 h2;exact .inr ⟨rfl,ih _ _ h1' h2'⟩
theorem less_tri:∀x y:List UInt8,Op.bytesLess x y=true∨x=y∨Op.bytesLess y x=true:=by
 intro x;induction x with
 | nil=>intro y;cases y <;> simp [Op.bytesLess]
 | cons a x ih=>
   intro y
   cases y with
   | nil=>simp [Op.bytesLess]
   | cons b y=>
     simp only [Op.bytesLess,Bool.or_eq_true,Bool.and_eq_true,decide_eq_true_eq,beq_iff_eq,List.cons.injEq];rcases (show a<b∨a=b∨b<a from by
       rcases Nat.lt_trichotomy a.toNat b.toNat with h | h | h
       · exact .inl (UInt8.lt_iff_toNat_lt.2 h)
       · exact .inr (.inl (UInt8.toNat_inj.1 h))
       · exact .inr (.inr (UInt8.lt_iff_toNat_lt.2 h))) with h | h | h
     · exact .inl (.inl h)
     · subst h;rcases ih y with h | h | h
       · exact .inl (.inr ⟨rfl,h⟩)
       · exact .inr (.inl ⟨rfl,h⟩)
       · exact .inr (.inr (.inr ⟨rfl,h⟩))
     · exact .inr (.inr (.inl h))
def lt(a b:ByteArray):Bool:=Op.bytesLess a.toList b.toList
def same(a b:ByteArray):Bool:=a.toList == b.toList
theorem same_iff(a b:ByteArray):same a b=true↔a=b:=by
 unfold same;rw [beq_iff_eq,ByteArray.toList_eq,ByteArray.toList_eq];constructor
 ·intro h;apply ByteArray.ext;exact Array.toList_inj.1 h
 ·intro h;rw [h]
theorem lt_irr(a:ByteArray):lt a a=false:=less_irr _
theorem lt_trans{a b c:ByteArray}(h:lt a b=true)(k:lt b c=true):lt a c=true:=less_trans _ _ _ h k
theorem lt_tri(a b:ByteArray):lt a b=true∨a=b∨lt b a=true:=by
 rcases less_tri a.toList b.toList with h | h | h
 ·exact .inl h
 ·exact .inr (.inl ((same_iff a b).1 (by unfold same;rw [h];simp)))
 ·exact .inr (.inr h)
theorem lt_anti{a b:ByteArray}(h:lt a b=true):lt b a=false:=by
 cases k:lt b a
 ·rfl
 ·have:=lt_trans h k;rw [lt_irr] at this;exact Bool.noConfusion this
def findN(L:List En)(key:ByteArray):Nat:=(L.takeWhile fun e=>lt e.key key).length
theorem findN_le(L:List En)(key:ByteArray):findN L key≤L.length:=by
 unfold findN;induction L with
 | nil=>simp
 | cons a L ih=>rw [List.takeWhile_cons];split <;> simp <;> omega
theorem findN_eq(key:ByteArray):∀(L:List En) (j:Nat),j≤L.length→(∀i,i<j→lt (atE L i).key key=true)→(j<L.length→lt (atE L j).key key=false)→findN L key=j:=by
 intro L;induction L with
 | nil=>intro j hj _ _;simp at hj;subst hj;rfl
 | cons a L ih=>
  intro j hj h1 h2;unfold findN;rw [List.takeWhile_cons]
  cases j with
  | zero=>
   have:=h2 (by simp);have e:atE (a :: L) 0=a:=rfl;rw [e] at this;rw [this];rfl
  | succ j=>
   have:=h1 0 (by omega);have e:atE (a :: L) 0=a:=rfl;rw [e] at this;rw [this,if_pos rfl,List.length_cons];have:=ih j (by simpa using hj) (fun i hi=>by have:=h1 (i+1) (by omega);exact this) (fun h=>by have:=h2 (by simpa using h);exact this);unfold findN at this;rw [this]
theorem findN_lt{L:List En}{key:ByteArray}{i:Nat}(h:i<findN L key):lt (atE L i).key key=true:=by
 unfold findN at h;induction L generalizing i with
 | nil=>simp at h
 | cons a L ih=>
  rw [List.takeWhile_cons] at h;split at h
  ·cases i with
   | zero=>assumption
   | succ i=>exact ih (by simpa using h)
  ·simp at h
theorem findN_at{L:List En}{key:ByteArray}(h:findN L key<L.length):lt (atE L (findN L key)).key key=false:=by
 induction L with
 | nil=>simp at h
 | cons a L ih=>
  unfold findN at h ⊢;rw [List.takeWhile_cons] at h ⊢;split
  ·rename_i hp;rw [hp] at h;simp only [if_true,List.length_cons,Nat.add_lt_add_iff_right] at h;exact ih h
  ·rename_i hp;exact Bool.eq_false_iff.2 hp
def hasB(L:List En)(key:ByteArray):Bool:=decide (findN L key<L.length)&&same (atE L (findN L key)).key key
def stepB(L:List En)(i:Nat):Bool:=(keyB (atE L i).key&&(decide (0≤(atE L i).val)&&decide ((atE L i).val≤9999)))&&(decide (i=0) || !(lt (atE L i).key (atE L (i-1)).key || same (atE L i).key (atE L (i-1)).key))
def okTo(L:List En)(n:Nat):Bool:=(List.range n).all (stepB L)
theorem okTo_succ(L:List En)(n:Nat):okTo L (n+1)=(okTo L n&&stepB L n):=by
 unfold okTo;rw [List.range_succ,List.all_append];simp
def okBook(L:List En):Bool:=okTo L L.length&&decide (L.length≤8)
def doC(L:List En)(n:Nat)(is:Bool)(kind:Int)(key:ByteArray)(val new:Int):List En × Int:=
 if kind=1 then
  if is then (L.set n ⟨(atE L n).key,val⟩,0)
  else if L.length=8 then (L,3)
  else (L.take n++[⟨key,val⟩]++L.drop n,0)
 else if is=false then (L,1)
 else if kind=2 then (L.take n++L.drop (n+1),0)
 else if kind=3 then
  if (atE L n).val+val > 9999 then (L,3)
  else (L.set n ⟨(atE L n).key,(atE L n).val+val⟩,0)
 else if (atE L n).val≠val then (L,2)
 else (L.set n ⟨(atE L n).key,new⟩,0)
def doB(L:List En)(d:D):List En × Int:=doC L (findN L d.key) (hasB L d.key) d.kind d.key d.val d.new
def doneB(L:List En)(d:D):List En × Int:=if okBook L&&okD d then doB L d else ([],4)
def valB(L:List En)(key:ByteArray):Int × Bool:=if hasB L key&&okBook L then ((atE L (findN L key)).val,true) else (0,false)
end Bk
end
section
namespace Fam
theorem region{P:Program}{X:Type}{F:X→World}{id:Nat}{Q:Exit→Act→World→Prop}{a:Act}{w:World}{l:List Oper}(hm:P.follows .mixedOrders=true)(hB:Region.lexB .any l.toArray=true)(hC:∃z,w.drew=F z)
  (h:wpQuiet P l.toArray (fun w'=>∃z,w'=F z) (fun a'=>∀w',(∃z,w'=F z)→Q .normal a' w') l a):(Code.region id l.toArray true).wp P Q a w:=
 wp_region_quiet (C:=fun w'=>∃z,w'=F z) hm hB hC (by simpa using h)
theorem fam(W:World):∃(X:Type) (_:Inhabited X) (F:X→World),Hid (∀z,Below W.heap.size W (F z))∧Hid (∀w',Below W.heap.size W w'→∃z,w'=F z):=
 ⟨{w' // Below W.heap.size W w'},⟨⟨W,Below.refl _ _⟩⟩,Subtype.val,fun z=>z.2,fun w' h=>⟨⟨w',h⟩,rfl⟩⟩
end Fam
end
section
namespace Bk
open De (D okD keyB)
theorem findN_full{L:List En}{key:ByteArray}(h:∀i,i<L.length→lt (atE L i).key key=true):findN L key=L.length∧hasB L key=false:=by
 have e:=findN_eq key L L.length (Nat.le_refl _) h (fun q=>absurd q (Nat.lt_irrefl _));refine⟨e,?_⟩;unfold hasB;rw [e];simp
theorem findN_stop{L:List En}{key:ByteArray}{j:Nat}(hj:j<L.length)(h:∀i,i<j→lt (atE L i).key key=true)(h2:lt (atE L j).key key=false):findN L key=j∧hasB L key=same (atE L j).key key:=by
 have e:=findN_eq key L j (Nat.le_of_lt hj) h (fun _=>h2);refine⟨e,?_⟩;unfold hasB;rw [e];simp [hj]
theorem ret_ib{a a':Int}{b b':Bool}(h:a=a')(h':b=b'):Ending.returned (.tuple #[.int .i64 a,.bool b])=.returned (.tuple #[.int .i64 a',.bool b']):=by rw [h,h']
theorem l17Find(ao:Option Addr)(cap:Nat)(L:List En)(key:ByteArray)(w:World)(hl:L.length≤1048600)(hr:RdE w ao L) :
  Calls Try.prog 38 #[.slice ao L.length cap,.string key] w fun e w'=>e=.returned (.tuple #[.int .i64 (findN L key:Int),.bool (hasB L key)])∧Below w.heap.size w w':=by
 go_enter Try.func38,Try.ntmps38
 go_wp2;go_loopw [6] (fun i wr=>∃j:Nat,j≤L.length∧i=.int .i64 j∧Hid (∀i,i<j→lt (atE L i).key key=true)∧Hid (Below w.heap.size w wr)) (fun i _=>L.length-(intOf i).toNat)
 case atStart=>exact⟨0,by omega,rfl,fun i hi=>absurd hi (Nat.not_lt_zero i),Below.refl _ _⟩
 case round=>
  obtain⟨j,hj,rfl,HA,HB⟩:=hrel;by_cases hlt:j<L.length
  ·obtain⟨g,off,rfl,hg,hc⟩:=hr.at j hlt;obtain⟨c0,c1⟩:=hc.below HB.out hg;clear hc
   cases hq:lt (atE L j).key key
   ·obtain⟨e1,e2⟩:=findN_stop hlt HA.out hq;have hq':Op.bytesLess (atE L j).key.toList key.toList=false:=hq;have H1:Hid (findN L key=j):=e1;have H2:Hid (hasB L key=same (atE L j).key key):=e2;have HBD:Hid (Below w.heap.size w wr.drew):=HB.out.drew;clear e1 e2 HA hq HB
    cases hs:same (atE L j).key key
    ·have hs':((atE L j).key.toList == key.toList)=false:=hs;generalize (atE L j).key=kk at c0 hq' hs' H2 hs;go_wp2_with fail
     go_region
     go_wp2;go_ret2
     exact⟨ret_ib (congrArg Int.ofNat H1.out.symm) (H2.out.trans hs).symm,HBD.out⟩
    ·have hs':((atE L j).key.toList == key.toList)=true:=hs;generalize (atE L j).key=kk at c0 hq' hs' H2 hs;go_wp2_with fail
     go_region
     go_wp2;go_ret2
     exact⟨ret_ib (congrArg Int.ofNat H1.out.symm) (H2.out.trans hs).symm,HBD.out⟩
   ·have hq':Op.bytesLess (atE L j).key.toList key.toList=true:=hq;have HA1:Hid (∀i,i<j+1→lt (atE L i).key key=true):=fun i hi=>by
     by_cases e:i=j
     ·rw [e];exact hq
     ·exact HA.out i (by omega)
    clear HA hq;generalize (atE L j).key=kk at c0 hq';go_wp2;go_roundw
    case rel=>exact⟨j+1,by omega,by go_num,HA1,HB⟩
    case measure=>simp [intOf];omega
  ·obtain rfl:j=L.length:=by omega
   obtain⟨e1,e2⟩:=findN_full HA.out;have H1:Hid (findN L key=L.length):=e1;have H2:Hid (hasB L key=false):=e2;have HBD:Hid (Below w.heap.size w wr.drew):=HB.out.drew;clear e1 e2 HA HB;go_wp2_with fail
   go_region
   go_wp2;go_ret2
   exact⟨ret_ib (congrArg Int.ofNat H1.out.symm) H2.out.symm,HBD.out⟩
theorem okTo_stop{L:List En}{j n:Nat}(hj:j<n)(h:stepB L j=false):okTo L n=false:=by
 unfold okTo;rw [List.all_eq_false];exact⟨j,by simp [hj],by simp [h]⟩
theorem specBookOk(ao:Option Addr)(cap:Nat)(L:List En)(w:World)(hl:L.length≤1048600)(hk:∀e∈L,e.key.size≤1099511627776)(hr:RdE w ao L) :
   Calls Try.prog 15 #[.slice ao L.length cap] w fun e w'=>e=.returned (.bool (okBook L))∧Below w.heap.size w w':=by
 have HKY:Hid (∀j,j<L.length→∀W:World,Calls Try.prog 36 #[.string (atE L j).key] W fun e w'=>e=.returned (.bool (keyB (atE L j).key))∧W=w'):=fun j hj W=>De.l16Key _ W (hk _ (atE_mem L j hj))
 have HIN:Hid (∀(x:Int) (W:World),Calls Try.prog 37 #[.int .i64 x,.int .i64 0,.int .i64 9999] W fun e w'=>e=.returned (.bool (decide (0≤x)&&decide (x≤9999)))∧W=w'):=fun x W=>Base.l1In x 0 9999 W
 clear hk;go_enter Try.func15,Try.ntmps15
 go_wp2;go_loopw [3] (fun i wr=>∃j:Nat,j≤L.length∧i=.int .i64 j∧Hid (okTo L j=true)∧Hid (Below w.heap.size w wr)) (fun i _=>L.length-(intOf i).toNat)
 case atStart=>exact⟨0,by omega,rfl,rfl,Below.refl _ _⟩
 case round=>
   obtain⟨j,hj,rfl,HA,HB⟩:=hrel;by_cases hlt:j<L.length
   · obtain⟨g,off,rfl,hg,hc⟩:=hr.at j hlt;have HKJ:Hid (_):=HKY.out j hlt;have HN:Hid (stepB L j=false→okBook L=false):=fun h=>by
       unfold okBook;rw [okTo_stop hlt h];rfl
     have HY:Hid (stepB L j=true→okTo L (j+1)=true):=fun h=>by rw [okTo_succ,HA.out,h];rfl
     have HS:Hid (stepB L j=((keyB (atE L j).key&&(decide (0≤(atE L j).val)&&decide ((atE L j).val≤9999)))&&(decide (j=0) || !(lt (atE L j).key (atE L (j-1)).key || same (atE L j).key (atE L (j-1)).key)))):=rfl;have HC:Hid (∀z,Below wr.heap.size wr z→CellsE z g (off+j*2) (atE L j)):=fun z hz=>(hc.below HB.out hg).below hz (Nat.lt_of_lt_of_le hg HB.out.size)
     have HP:Hid (0<j→∀z,Below wr.heap.size wr z→CellsE z g (off+(j-1)*2) (atE L (j-1))):=fun h z hz=>((hr.on (j-1) (by omega)).2.below HB.out hg).below hz (Nat.lt_of_lt_of_le hg HB.out.size)
     clear hc HA;have HKJ:Hid (∀W:World,Calls Try.prog 36 #[.string (atE L j).key] W fun e w'=>e=.returned (.bool (keyB (atE L j).key))∧Below W.heap.size W w'):=fun W=>(HKY.out j hlt W).mono fun e w' h=>⟨h.1,h.2 ▸ Below.refl _ _⟩
     have HIJ:Hid (∀W:World,Calls Try.prog 37 #[.int .i64 (atE L j).val,.int .i64 0,.int .i64 9999] W fun e w'=>e=.returned (.bool (decide (0≤(atE L j).val)&&decide ((atE L j).val≤9999)))∧Below W.heap.size W w'):=fun W=>(HIN.out (atE L j).val W).mono fun e w' h=>⟨h.1,h.2 ▸ Below.refl _ _⟩
     generalize keyB (atE L j).key=b1 at HKJ HS;generalize (decide (0≤(atE L j).val)&&decide ((atE L j).val≤9999))=b2 at HIJ HS;have HC2:Hid (∀z,Below wr.heap.size wr z→z.cell? ⟨g,off+j*2,none⟩=some (.string (atE L j).key)∧z.cell? ⟨g,off+j*2+1,none⟩=some (.int .i64 (atE L j).val)):=fun z hz=>⟨(HC.out z hz).c0,(HC.out z hz).c1⟩
     have HP2:Hid (0<j→∀z,Below wr.heap.size wr z→z.cell? ⟨g,off+(j-1)*2,none⟩=some (.string (atE L (j-1)).key)):=fun h z hz=>(HP.out h z hz).c0
     clear HC HP hr HKY HIN;generalize stepB L j=sj at HN HY HS;generalize (atE L (j-1)).key=kp at HP2 HS;generalize (atE L j).key=kj at HC2 HKJ HS;generalize (atE L j).val=vj at HC2 HIJ;have HC:=HC2;have HP:=HP2;clear HC2 HP2
     cases b1
     · have HR:Hid (sj=false):=by show _=_;rw [HS.out];rfl
       obtain⟨X,_,F,HF,HG⟩:=Fam.fam wr;have c0:∀z,(F z).cell? ⟨g,off+j*2,none⟩=some (.string kj):=fun z=>(HC.out _ (HF.out z)).1
       have c1:∀z,(F z).cell? ⟨g,off+j*2+1,none⟩=some (.int .i64 vj):=fun z=>(HC.out _ (HF.out z)).2
       go_upto_region 4 with fail
       refine Fam.region (F:=F) (by kernel_rfl) (by kernel_rfl) (HG.out _ (Below.refl _ wr).drew) ?_
       repeat (go_big_quiet_step (first
         | (go_at_call 36;exact(HKJ.out _).mono fun _ _ q=>⟨q.1,HG.out _ ((HF.out _).trans (q.2.mono (HF.out _).size))⟩)
         | (go_at_call 37;exact(HIJ.out _).mono fun _ _ q=>⟨q.1,HG.out _ ((HF.out _).trans (q.2.mono (HF.out _).size))⟩)))
       refine wpQuiet_nil ?_;intro w2 hw2;obtain⟨z,rfl⟩:=hw2;have HB2:Hid (Below w.heap.size w (F z)):=HB.out.trans ((HF.out z).mono HB.out.size);clear c0 c1 HKJ HIJ HC HP HB;go_wp2;go_ret;exact⟨Base.ret_bool (HN.out HR.out).symm,HB2.out⟩
     cases b2
     · have HR:Hid (sj=false):=by show _=_;rw [HS.out];rfl
       obtain⟨X,_,F,HF,HG⟩:=Fam.fam wr;have c0:∀z,(F z).cell? ⟨g,off+j*2,none⟩=some (.string kj):=fun z=>(HC.out _ (HF.out z)).1
       have c1:∀z,(F z).cell? ⟨g,off+j*2+1,none⟩=some (.int .i64 vj):=fun z=>(HC.out _ (HF.out z)).2
       go_upto_region 4 with fail
       refine Fam.region (F:=F) (by kernel_rfl) (by kernel_rfl) (HG.out _ (Below.refl _ wr).drew) ?_
       repeat (go_big_quiet_step (first
         | (go_at_call 36;exact(HKJ.out _).mono fun _ _ q=>⟨q.1,HG.out _ ((HF.out _).trans (q.2.mono (HF.out _).size))⟩)
         | (go_at_call 37;exact(HIJ.out _).mono fun _ _ q=>⟨q.1,HG.out _ ((HF.out _).trans (q.2.mono (HF.out _).size))⟩)))
       refine wpQuiet_nil ?_;intro w2 hw2;obtain⟨z,rfl⟩:=hw2;have HB2:Hid (Below w.heap.size w (F z)):=HB.out.trans ((HF.out z).mono HB.out.size);clear c0 c1 HKJ HIJ HC HP HB;go_wp2;go_ret;exact⟨Base.ret_bool (HN.out HR.out).symm,HB2.out⟩
     by_cases hj0:0<j
     · have hj0':(0:Int)<(j:Int):=by omega
       have hm1:IntKind.i64.wrap ((j:Int)-1)=((j-1:Nat):Int):=by rw [IntKind.wrap_i64];omega
       have hm2:(j:Int)-1=((j-1:Nat):Int):=by omega
       have hm3:j-1<L.length:=by omega
       have hj1:decide (j=0)=false:=decide_eq_false (by omega)
       cases h1:lt kj kp
       · have h1':Op.bytesLess kj.toList kp.toList=false:=h1
         cases h2:same kj kp
         · have h2':(kj.toList == kp.toList)=false:=h2;have HR:Hid (sj=true):=by show _=_;rw [HS.out,h1,h2,hj1];rfl
           clear h1 h2 HS;obtain⟨X,_,F,HF,HG⟩:=Fam.fam wr;have c0:∀z,(F z).cell? ⟨g,off+j*2,none⟩=some (.string kj):=fun z=>(HC.out _ (HF.out z)).1
           have c1:∀z,(F z).cell? ⟨g,off+j*2+1,none⟩=some (.int .i64 vj):=fun z=>(HC.out _ (HF.out z)).2
           have d0:∀z,(F z).cell? ⟨g,off+(j-1)*2,none⟩=some (.string kp):=fun z=>HP.out hj0 _ (HF.out z)
           go_upto_region 4 with fail
           refine Fam.region (F:=F) (by kernel_rfl) (by kernel_rfl) (HG.out _ (Below.refl _ wr).drew) ?_
           repeat (go_big_quiet_step (first
             | (go_at_call 36;exact(HKJ.out _).mono fun _ _ q=>⟨q.1,HG.out _ ((HF.out _).trans (q.2.mono (HF.out _).size))⟩)
             | (go_at_call 37;exact(HIJ.out _).mono fun _ _ q=>⟨q.1,HG.out _ ((HF.out _).trans (q.2.mono (HF.out _).size))⟩)))
           refine wpQuiet_nil ?_;intro w2 hw2;obtain⟨z,rfl⟩:=hw2;have HB2:Hid (Below w.heap.size w (F z)):=HB.out.trans ((HF.out z).mono HB.out.size);clear c0 c1 HKJ HIJ HC HP HB d0;go_wp2;go_roundw
           case rel=>exact⟨j+1,by omega,by go_num,HY.out HR.out,HB2⟩
           case measure=>simp [intOf];omega
         · have h2':(kj.toList == kp.toList)=true:=h2;have HR:Hid (sj=false):=by show _=_;rw [HS.out,h1,h2,hj1];rfl
           clear h1 h2 HS;obtain⟨X,_,F,HF,HG⟩:=Fam.fam wr;have c0:∀z,(F z).cell? ⟨g,off+j*2,none⟩=some (.string kj):=fun z=>(HC.out _ (HF.out z)).1
           have c1:∀z,(F z).cell? ⟨g,off+j*2+1,none⟩=some (.int .i64 vj):=fun z=>(HC.out _ (HF.out z)).2
           have d0:∀z,(F z).cell? ⟨g,off+(j-1)*2,none⟩=some (.string kp):=fun z=>HP.out hj0 _ (HF.out z)
           go_upto_region 4 with fail
           refine Fam.region (F:=F) (by kernel_rfl) (by kernel_rfl) (HG.out _ (Below.refl _ wr).drew) ?_
           repeat (go_big_quiet_step (first
             | (go_at_call 36;exact(HKJ.out _).mono fun _ _ q=>⟨q.1,HG.out _ ((HF.out _).trans (q.2.mono (HF.out _).size))⟩)
             | (go_at_call 37;exact(HIJ.out _).mono fun _ _ q=>⟨q.1,HG.out _ ((HF.out _).trans (q.2.mono (HF.out _).size))⟩)))
           refine wpQuiet_nil ?_;intro w2 hw2;obtain⟨z,rfl⟩:=hw2;have HB2:Hid (Below w.heap.size w (F z)):=HB.out.trans ((HF.out z).mono HB.out.size);clear c0 c1 HKJ HIJ HC HP HB d0;go_wp2;go_ret;exact⟨Base.ret_bool (HN.out HR.out).symm,HB2.out⟩
       · have h1':Op.bytesLess kj.toList kp.toList=true:=h1;have HR:Hid (sj=false):=by show _=_;rw [HS.out,h1,hj1];rfl
         clear h1 HS;obtain⟨X,_,F,HF,HG⟩:=Fam.fam wr;have c0:∀z,(F z).cell? ⟨g,off+j*2,none⟩=some (.string kj):=fun z=>(HC.out _ (HF.out z)).1
         have c1:∀z,(F z).cell? ⟨g,off+j*2+1,none⟩=some (.int .i64 vj):=fun z=>(HC.out _ (HF.out z)).2
         have d0:∀z,(F z).cell? ⟨g,off+(j-1)*2,none⟩=some (.string kp):=fun z=>HP.out hj0 _ (HF.out z)
         go_upto_region 4 with fail
         refine Fam.region (F:=F) (by kernel_rfl) (by kernel_rfl) (HG.out _ (Below.refl _ wr).drew) ?_
         repeat (go_big_quiet_step (first
           | (go_at_call 36;exact(HKJ.out _).mono fun _ _ q=>⟨q.1,HG.out _ ((HF.out _).trans (q.2.mono (HF.out _).size))⟩)
           | (go_at_call 37;exact(HIJ.out _).mono fun _ _ q=>⟨q.1,HG.out _ ((HF.out _).trans (q.2.mono (HF.out _).size))⟩)))
         refine wpQuiet_nil ?_;intro w2 hw2;obtain⟨z,rfl⟩:=hw2;have HB2:Hid (Below w.heap.size w (F z)):=HB.out.trans ((HF.out z).mono HB.out.size);clear c0 c1 HKJ HIJ HC HP HB d0;go_wp2;go_ret;exact⟨Base.ret_bool (HN.out HR.out).symm,HB2.out⟩
     · have hj0':¬ (0:Int)<(j:Int):=by omega
       have hj1:decide (j=0)=true:=decide_eq_true (by omega);have HR:Hid (sj=true):=by show _=_;rw [HS.out,hj1];rfl
       clear HS;obtain⟨X,_,F,HF,HG⟩:=Fam.fam wr;have c0:∀z,(F z).cell? ⟨g,off+j*2,none⟩=some (.string kj):=fun z=>(HC.out _ (HF.out z)).1
       have c1:∀z,(F z).cell? ⟨g,off+j*2+1,none⟩=some (.int .i64 vj):=fun z=>(HC.out _ (HF.out z)).2
       go_upto_region 4 with fail
       refine Fam.region (F:=F) (by kernel_rfl) (by kernel_rfl) (HG.out _ (Below.refl _ wr).drew) ?_
       repeat (go_big_quiet_step (first
         | (go_at_call 36;exact(HKJ.out _).mono fun _ _ q=>⟨q.1,HG.out _ ((HF.out _).trans (q.2.mono (HF.out _).size))⟩)
         | (go_at_call 37;exact(HIJ.out _).mono fun _ _ q=>⟨q.1,HG.out _ ((HF.out _).trans (q.2.mono (HF.out _).size))⟩)))
       refine wpQuiet_nil ?_;intro w2 hw2;obtain⟨z,rfl⟩:=hw2;have HB2:Hid (Below w.heap.size w (F z)):=HB.out.trans ((HF.out z).mono HB.out.size);clear c0 c1 HKJ HIJ HC HP HB;go_wp2;go_roundw
       case rel=>exact⟨j+1,by omega,by go_num,HY.out HR.out,HB2⟩
       case measure=>simp [intOf];omega
   · obtain rfl:j=L.length:=by omega
     have HO:Hid (okBook L=decide (L.length≤8)):=by
       show _=_;unfold okBook;rw [HA.out,Bool.true_and]
     by_cases h8:L.length≤8
     · have h8':(L.length:Int)≤8:=by omega
       have HO2:Hid (okBook L=true):=HO.out.trans (decide_eq_true h8);clear HO;go_wp2;go_ret;exact⟨Base.ret_bool HO2.out.symm,HB.out⟩
     · have h8':¬ (L.length:Int)≤8:=by omega
       have HO2:Hid (okBook L=false):=HO.out.trans (decide_eq_false h8);clear HO;go_wp2;go_ret;exact⟨Base.ret_bool HO2.out.symm,HB.out⟩
theorem specValueOf(ao:Option Addr)(cap:Nat)(L:List En)(key:ByteArray)(w:World)(hl:L.length≤1048600)(hk:∀e∈L,e.key.size≤1099511627776)(hr:RdE w ao L) :
  Calls Try.prog 16 #[.slice ao L.length cap,.string key] w fun e w'=>e=.returned (.tuple #[.int .i64 (valB L key).1,.bool (valB L key).2])∧Below w.heap.size w w':=by
 go_enter Try.func16,Try.ntmps16
 go_wp2_with fail
 refine(l17Find ao cap L key w hl hr).mono ?_;rintro e w1 ⟨rfl,b1⟩;have r1:=hr.below b1
 cases hh:hasB L key
 ·have HV:Hid (valB L key=(0,false)):=by
   show _=_;unfold valB;rw [hh];rfl
  have HB1:Hid (Below w.heap.size w w1):=b1;clear hh r1 b1;go_wp2;go_ret2
  exact⟨ret_ib (congrArg Prod.fst HV.out).symm (congrArg Prod.snd HV.out).symm,HB1.out⟩
 ·have hn:findN L key<L.length:=by
   unfold hasB at hh;simp at hh;exact hh.1
  have HV:Hid (valB L key=if okBook L then ((atE L (findN L key)).val,true) else (0,false)):=by
   show _=_;unfold valB;rw [hh];rfl
  clear hh;generalize findN L key=n at *;go_wp2_with fail
  refine(specBookOk ao cap L w1 hl hk r1).mono ?_;rintro e w2 ⟨rfl,b2⟩;have HB2:Hid (Below w.heap.size w w2):=b1.trans (b2.mono b1.size);obtain⟨g,off,rfl,hg,hc⟩:=(r1.below b2).at n hn;obtain⟨c0,c1⟩:=hc;clear b1 b2 r1
  cases hok:okBook L
  ·have HV2:Hid (valB L key=(0,false)):=by
    show _=_;rw [HV.out,hok];rfl
   clear HV hok;go_wp2;go_ret2
   exact⟨ret_ib (congrArg Prod.fst HV2.out).symm (congrArg Prod.snd HV2.out).symm,HB2.out⟩
  ·have HV2:Hid (valB L key=((atE L n).val,true)):=by
    show _=_;rw [HV.out,hok];rfl
   clear HV hok;go_wp2;go_ret2
   exact⟨ret_ib (congrArg Prod.fst HV2.out).symm (congrArg Prod.snd HV2.out).symm,HB2.out⟩
end Bk
end
section
namespace Draw
open Cur (At)
theorem kept_cell{w w1:World}{c g j:Nat}{v:Value}(hG:w.grownBy w1 (some c))(hg:g≠c)(h:w.cell? ⟨g,j,none⟩=some v):w1.cell? ⟨g,j,none⟩=some v:=
 hG.cell h (by simpa using hg)
theorem at_alloc{c:Nat}{a:Option Addr}{len cap:Nat}{w:World}(h:At c a len cap w)(o:Obj):At c a len cap (w.alloc o):=h.below ((Below.refl _ _).alloc (Nat.le_refl _) _)
theorem lit_int{w w2:World}{c:Nat}{t:TypeId}{l:List Int}(hc:c<w.heap.size)(hG:(w.alloc (.cells (l.map (Value.int .i64)).toArray t)).grownBy w2 (some c))(j:Nat)(hj:j<l.length)
  (hl:∀x∈l,-9223372036854775808≤x∧x≤9223372036854775807):∃v:Int,w2.cell? ⟨w.heap.size,j,none⟩=some (.int .i64 v)∧-9223372036854775808≤v∧v≤9223372036854775807:=by
 refine⟨l[j],kept_cell hG (by omega) ?_,hl _ (List.getElem_mem hj)⟩;rw [World.cell?_alloc_new];simp [hj]
theorem below_of_grown{w w1 w2:World}{c:Nat}(h:Below w.heap.size w w1)(hc:w.heap.size≤c)(hg:w1.grownBy w2 (some c)):Below w.heap.size w w2:=
 h.grown hg h.size (fun k hk=>by simp at hk;omega)
end Draw
end
end Go.Proofs.Ytadbafppodhfpaa
