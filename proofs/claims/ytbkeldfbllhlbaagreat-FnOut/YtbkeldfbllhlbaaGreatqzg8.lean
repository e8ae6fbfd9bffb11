/-
 The model's rooms, as they begin: what NewRoom hands back, and copies of a room's parts.
-/
import Derived.Test.YtbkeldfbllhlbaaGreatqzg7
import Derived.Laws.CopyOwn
set_option linter.unusedVariables false
set_option maxRecDepth 100000
set_option maxHeartbeats 3200000
namespace Go.Proofs.YtbkeldfbllhlbaaGreat
open Go.RowKit
namespace Lc
open Kn (K okK)
open Bit (bit withB)
theorem ofInt_toNat(s:Int)(h0:-9223372036854775808≤s)(h1:s≤9223372036854775807):((BitVec.ofInt 64 s).toNat:Int)=if 0≤s then s else s+18446744073709551616:=by
 rw [BitVec.toNat_ofInt];split <;> omega
theorem mask_bit(n i:Nat)(hn:n≤60):(BitVec.ofInt 64 ((2:Int) ^ n-1)).getLsbD i=decide (i<n):=by
 have hp:1≤2 ^ n:=Nat.one_le_two_pow;have hq:2 ^ n≤2 ^ 60:=Nat.pow_le_pow_right (by decide) hn;have e:((2:Int) ^ n-1)=((2 ^ n-1:Nat):Int):=by rw [Int.ofNat_sub hp];simp
 have:(BitVec.ofInt 64 ((2:Int) ^ n-1)).toNat=2 ^ n-1:=by rw [e];exact ofInt_u64 _ (by omega)
 rw [BitVec.getLsbD,this,Nat.testBit_two_pow_sub_one]
theorem wrap_zero(x:Nat)(hx:x<18446744073709551616)(h:IntKind.i64.wrap (x:Int)=0):x=0:=by
 simp only [IntKind.wrap,IntKind.bits,IntKind.signed] at h;simp at h;omega
theorem andNot_zero(s:Int)(n:Nat)(hn:n≤60)(h0:-9223372036854775808≤s)(h1:s≤9223372036854775807):(bits .andNot .i64 s (2 ^ n-1) == 0)=(decide (0≤s)&&decide (s / 2 ^ n=0)):=by
 have e:bits .andNot .i64 s (2 ^ n-1)=IntKind.i64.wrap ((BitVec.ofInt 64 s &&& ~~~ BitVec.ofInt 64 ((2:Int) ^ n-1)).toNat:Int):=rfl;have hq:2 ^ n≤2 ^ 60:=Nat.pow_le_pow_right (by decide) hn;have hx:=ofInt_toNat s h0 h1;have hlt:(BitVec.ofInt 64 s &&& ~~~ BitVec.ofInt 64 ((2:Int) ^ n-1)).toNat<18446744073709551616:=BitVec.isLt _;have hz:(bits .andNot .i64 s (2 ^ n-1) == 0)=true↔(BitVec.ofInt 64 s &&& ~~~ BitVec.ofInt 64 ((2:Int) ^ n-1))=0#64:=by
  rw [e,beq_iff_eq];constructor
  ·intro h;exact BitVec.eq_of_toNat_eq ((wrap_zero _ hlt h).trans rfl)
  ·intro h;rw [h];rfl
 have hk:(BitVec.ofInt 64 s &&& ~~~ BitVec.ofInt 64 ((2:Int) ^ n-1))=0#64↔(BitVec.ofInt 64 s).toNat<2 ^ n:=by
  constructor
  ·intro h;apply Nat.lt_pow_two_of_testBit;intro i hi;by_cases h64:i<64
   ·have hb:=congrArg (fun v=>v.getLsbD i) h;simp only [BitVec.getLsbD_and,BitVec.getLsbD_not,mask_bit n i hn] at hb;have:decide (i<n)=false:=by simp;omega
    rw [this] at hb;simp [h64] at hb;exact hb
   ·exact BitVec.getLsbD_of_ge _ _ (by omega)
  ·intro h;apply BitVec.eq_of_getLsbD_eq;intro i hi;simp only [BitVec.getLsbD_and,BitVec.getLsbD_not,mask_bit n i hn];by_cases hin:i<n
   ·simp [hin]
   ·have:(BitVec.ofInt 64 s).getLsbD i=false:=Nat.testBit_lt_two_pow (Nat.lt_of_lt_of_le h (Nat.pow_le_pow_right (by decide) (by omega)));rw [this];simp
 rw [Bool.eq_iff_iff,hz,hk];simp only [Bool.and_eq_true,decide_eq_true_eq];have hpi:(0:Int)<2 ^ n:=Bit.pow_pos' n;have hpc:((2 ^ n:Nat):Int)=(2:Int) ^ n:=by simp
 have hq':((2 ^ n:Nat):Int)≤1152921504606846976:=by omega
 constructor
 ·intro h;by_cases hs:0≤s
  ·rw [if_pos hs] at hx;refine⟨hs,Int.ediv_eq_zero_of_lt hs (by rw [← hpc];omega)⟩
  ·rw [if_neg hs] at hx;omega
 ·rintro⟨hs,hd⟩;rw [if_pos hs] at hx;have h2:=Int.emod_lt_of_pos s hpi;have h3:=Int.emod_add_mul_ediv s (2 ^ n);rw [hd,Int.mul_zero,Int.add_zero] at h3;rw [h3,← hpc] at h2;omega
end Lc
namespace Kn
end Kn
namespace Lc
open Kn (K okK)
structure Made(w:World)(B n:Nat)(L:List K)(j:Nat):Prop where
 lt:B<w.heap.size
 rd:∀i,i<j→CellsK w B (i*4) (at' L i)
 ex:∀i,i<n*4→∃v,w.cell? ⟨B,i,none⟩=some v
 fr:∀i,i<n*4→w.frozen? ⟨B,i,none⟩=false
theorem Made.below{w w':World}{B n j:Nat}{L:List K}(h:Made w B n L j)(hb:Below w.heap.size w w'):Made w' B n L j where
 lt:=Nat.lt_of_lt_of_le h.lt hb.size
 rd:=fun i hi=>(h.rd i hi).below hb h.lt
 ex:=fun i hi=>by obtain⟨v,hv⟩:=h.ex i hi;exact⟨v,(hb.cell (p:=⟨B,i,none⟩) h.lt).trans hv⟩
 fr:=fun i hi=>(hb.frozen (p:=⟨B,i,none⟩) h.lt).trans (h.fr i hi)
theorem infoKn:(Tryz.prog.info? 38).map (fun i=>(i.zero,i.size,i.bytes))=some (some (.agg #[.int .i64 0,.int .i64 0,.int .i64 0,.string ⟨#[]⟩]),4,40):=by kernel_rfl
end Lc
namespace Lc
open Kn (K okK)
theorem cells_at{w:World}{g o:Nat}{k:K}(h:CellsK w g o k)(c:Nat)(hc:c<4)(u:Value)(hu:(cellsOf k)[c]? = some u):w.cell? ⟨g,o+c,none⟩=some u:=by
 match c,hc with
 | 0,_=>simp [cellsOf] at hu;subst hu;exact h.c0
 | 1,_=>simp [cellsOf] at hu;subst hu;exact h.c1
 | 2,_=>simp [cellsOf] at hu;subst hu;exact h.c2
 | 3,_=>simp [cellsOf] at hu;subst hu;exact h.c3
theorem rd_news{w:World}{g off:Nat}{L:List K}(h:RdK w (some ⟨g,off,none⟩) L):∀(j:Nat) u,(flat L)[j]? = some u→w.cell? ((⟨g,off,none⟩:Addr).add j)=some u:=by
 intro j u hj;have hlt:j<L.length*4:=by
  have:=(List.getElem?_eq_some_iff.1 hj).1;rwa [flat_len] at this
 have e:j=j / 4*4+j % 4:=by omega
 have hc:=(h.on (j / 4) (by omega)).2;rw [e,flat_at L (j / 4) (j % 4) (by omega) (by omega)] at hj;have:=cells_at hc (j % 4) (by omega) u hj;rw [WideShapes.add_plain];rwa [show off+j / 4*4+j % 4=off+j by omega] at this
theorem ownK_base{t:TypeId}{b b':Nat}{w:World}{v:Value}{L:List K}(h:OwnK t b w v L)(hb:b'≤b):OwnK t b' w v L:=by
 refine⟨?_,h.2⟩;obtain⟨h1,h2⟩:=h.1;refine⟨h1,?_⟩;rcases h2 with h2 | ⟨g,cap',cur,hv,hB,rest⟩
 ·exact .inl h2
 ·exact .inr ⟨g,cap',cur,hv,by omega,rest⟩
theorem own_nil(w:World)(t:TypeId):(w.alloc (.cells #[] t)).ownsRow w.heap.size t 4 (.slice (some ⟨w.heap.size,0,none⟩) 0 0) 0 []:=by
 refine⟨rfl,.inr ⟨w.heap.size,0,#[],rfl,Nat.le_refl _,?_,Nat.le_refl _,by unfold maxLen;omega,rfl,rfl⟩⟩;show(w.heap.push _)[w.heap.size]? = _;rw [Array.getElem?_push_size]
def CopyPost(L:List K)(w:World)(e:Ending)(w':World):Prop:=∃v,e=.returned v∧OwnK 38 w.heap.size w' v L∧Below w.heap.size w w'
theorem l3Copy(g off cap:Nat)(L:List K)(w:World)(hl:L.length≤2000000)(hr:RdK w (some ⟨g,off,none⟩) L):Calls Tryz.prog 114 #[.slice (some ⟨g,off,none⟩) L.length cap] w (CopyPost L w):=by
 obtain⟨i0,hi,hz0,hz1,hz2⟩:=info_parts infoKn;go_enter Tryz.func114,Tryz.ntmps114
 go_wp2_with (at_builtin;refine wpList_append_own _ rfl _ _ 24 rfl w.heap.size 38 i0 (.agg #[.int .i64 0,.int .i64 0,.int .i64 0,.string ⟨#[]⟩]) 4 40 Tryz.underlying24 hi hz0 hz1 hz2 rfl (by decide) _ 0 [] rfl (own_nil w _) ⟨g,off,none⟩ L.length cap (flat L) rfl (flat_len L) ?c1 ?c2 ?c3 ?c4 ?c5 ?_)
 case c1=>exact rd_news (hr.below ((Below.refl _ _).alloc (Nat.le_refl _) _))
 case c2=>exact flat_one L
 case c3=>unfold maxLen;omega
 case c4=>omega
 case c5=>simp
 intro v' w5 hown' hgrow hnil;have HR:Hid (OwnK 38 w.heap.size w5 v' L∧Below w.heap.size w w5):=by
  refine⟨⟨by simpa using hown',?_⟩,?_⟩
  ·intro e;simp [e] at hnil
  ·exact((Below.refl w.heap.size w).alloc (Nat.le_refl _) _).grown hgrow (by simp) (fun i hi=>by simp [Value.ownBlock] at hi;omega)
 clear hown' hgrow hnil hi hz0 hz1 hz2;go_wp2;go_ret;exact⟨v',rfl,HR.out.1,HR.out.2⟩
end Lc
namespace Rm
open Kn (K okK)
open Lc (at' RdK laceB flat OwnK)
structure Fr(S:Nat→Prop)(w w':World):Prop where
 os:w'.os=w.os
 tape:w'.tape=w.tape
 output:w'.output=w.output
 size:w.heap.size≤w'.heap.size
 block:∀k,k<w.heap.size→¬ S k→w'.heap[k]? = w.heap[k]?
theorem Fr.refl(S:Nat→Prop)(w:World):Fr S w w:=⟨rfl,rfl,rfl,Nat.le_refl _,fun _ _ _=>rfl⟩
theorem Fr.trans{S T:Nat→Prop}{a b c:World}(h:Fr S a b)(k:Fr T b c)(hs:∀x,T x→x<a.heap.size→S x):Fr S a c:=
 ⟨k.os.trans h.os,k.tape.trans h.tape,k.output.trans h.output,Nat.le_trans h.size k.size,fun x hx hn=>(k.block x (Nat.lt_of_lt_of_le hx h.size) (fun ht=>hn (hs x ht hx))).trans (h.block x hx hn)⟩
theorem Fr.mono{S T:Nat→Prop}{a b:World}(h:Fr S a b)(hs:∀x,S x→x<a.heap.size→T x):Fr T a b:=
 ⟨h.os,h.tape,h.output,h.size,fun x hx hn=>h.block x hx (fun hh=>hn (hs x hh hx))⟩
theorem Fr.of_below{w w':World}(h:Below w.heap.size w w')(S:Nat→Prop):Fr S w w':=⟨h.os,h.tape,h.output,h.size,fun k hk _=>h.block k hk⟩
theorem Fr.of_grown{w w':World}{c:Nat}(h:w.grownBy w' (some c)):Fr (fun x=>x=c) w w':=⟨h.os,h.tape,h.output,h.size,fun k hk hn=>h.block k hk (fun e=>hn (by cases e;rfl))⟩
theorem Fr.of_own{w w':World}{v:Value}(h:w.grownBy w' v.ownBlock):Fr (fun x=>v.ownBlock=some x) w w':=⟨h.os,h.tape,h.output,h.size,fun k hk hn=>h.block k hk (fun e=>hn e.symm)⟩
theorem Fr.set(w:World)(p:Addr)(u:Value):Fr (fun x=>x=p.block) w (w.setCell p u):=⟨rfl,rfl,rfl,by simp,fun k _ hn=>Below.heap_setCell w p u k hn⟩
theorem Fr.alloc(S:Nat→Prop)(w:World)(o:Obj):Fr S w (w.alloc o):=Fr.of_below ((Below.refl _ _).alloc (Nat.le_refl _) o) S
theorem Fr.drew{S:Nat→Prop}{a b:World}(h:Fr S a b):Fr S a b.drew:=⟨h.os,h.tape,h.output,h.size,h.block⟩
theorem Fr.drewN{S:Nat→Prop}{a b:World}(h:Fr S a b)(n:Nat):Fr S a (b.drewN n):=⟨h.os,h.tape,h.output,h.size,h.block⟩
theorem Fr.cell{S:Nat→Prop}{w w':World}(h:Fr S w w'){p:Addr}(hp:p.block<w.heap.size)(hn:¬ S p.block):w'.cell? p=w.cell? p:=World.cell?_of_block (w:=w) (h.block p.block hp hn)
theorem Fr.frozen{S:Nat→Prop}{w w':World}(h:Fr S w w'){p:Addr}(hp:p.block<w.heap.size)(hn:¬ S p.block):w'.frozen? p=w.frozen? p:=World.frozen?_of_block (w:=w) (h.block p.block hp hn)
theorem Fr.toBelow{S:Nat→Prop}{w w':World}(h:Fr S w w'){B:Nat}(hB:B≤w.heap.size)(hs:∀x,S x→B≤x):Below B w w':=⟨h.os,h.tape,h.output,h.size,fun k hk=>h.block k (by omega) (fun hh=>by have:=hs k hh;omega)⟩
theorem Fr.grown{w w':World}{c:Nat}(h:Fr (fun x=>x=c) w w'):w.grownBy w' (some c):=⟨h.os,h.tape,h.output,h.size,fun k hk hn=>h.block k hk (fun e=>hn (by rw [e]))⟩
theorem own_fr{S:Nat→Prop}{w w':World}(h:Fr S w w'){base:Nat}{e:TypeId}{size:Nat}{v:Value}{n:Nat}{xs:List Value}(ho:w.ownsRow base e size v n xs)(hn:∀g,v.ownBlock=some g→¬ S g):w'.ownsRow base e size v n xs:=by
 obtain⟨hx,h1 | ⟨g,cap,cur,rfl,hB,hg,rest⟩⟩:=ho
 ·exact⟨hx,.inl h1⟩
 ·have hlt:=(Array.getElem?_eq_some_iff.1 hg).1;exact⟨hx,.inr ⟨g,cap,cur,rfl,hB,(h.block g hlt (hn g rfl)).trans hg,rest⟩⟩
theorem own_lace{t:TypeId}{base:Nat}{w:World}{v:Value}{L:List K}(h:w.ownsRow base t 4 v L.length (flat L)) :
  ∃ao cap,v=.slice ao L.length cap∧(ao=none→L=[]∧cap=0)∧(∀x,ao=some x→x.spot=none)∧L.length≤cap∧RdK w ao L∧(∀g,v.ownBlock=some g→base≤g∧g<w.heap.size):=by
 have hlt:=World.ownsRow.lt h;by_cases hv:v=.slice none 0 0
 ·obtain⟨_,⟨_,hn⟩ | ⟨g,cap,cur,hv',_⟩⟩:=h
  ·have hL:L=[]:=List.eq_nil_of_length_eq_zero hn;subst hL hv;exact⟨none,0,rfl,fun _=>⟨rfl,rfl⟩,fun _ e=>(by cases e),Nat.le_refl _,.inl rfl,hlt⟩
  ·rw [hv] at hv';simp at hv'
 ·obtain⟨g,cap,hv',hcap,_,hbg,hgl,hrd,_⟩:=Lc.ownK_shape (⟨h,hv⟩:OwnK t base w v L);subst hv';exact⟨some ⟨g,0,none⟩,cap,rfl,fun e=>(by cases e),fun x e=>(by cases e;rfl),hcap,hrd,hlt⟩
structure Hd where
 who:Int
 has:Int
 kept:Int
 last:Int
structure HdOk(n:Nat)(h:Hd):Prop where
 h0:0≤h.has
 h1:h.has<1152921504606846976
 k0:0≤h.kept
 k1:h.kept<1152921504606846976
 la:h.last<(n:Int)
theorem HdOk.mono{n m:Nat}{h:Hd}(x:HdOk n h)(hm:n≤m):HdOk m h:=⟨x.h0,x.h1,x.k0,x.k1,by have:=x.la;omega⟩
def HAt(w:World)(g o:Nat)(h:Hd):Prop:=HandAt w g o h.who h.has h.kept h.last
theorem hat_fr{S:Nat→Prop}{w w':World}{g o:Nat}{h:Hd}(x:HAt w g o h)(hf:Fr S w w')(hn:¬ S g):HAt w' g o h where
 lt:=Nat.lt_of_lt_of_le x.lt hf.size
 c0:=(hf.cell (p:=⟨g,o,none⟩) x.lt hn).trans x.c0
 c1:=(hf.cell (p:=⟨g,o+1,none⟩) x.lt hn).trans x.c1
 c2:=(hf.cell (p:=⟨g,o+2,none⟩) x.lt hn).trans x.c2
 c3:=(hf.cell (p:=⟨g,o+3,none⟩) x.lt hn).trans x.c3
 f0:=(hf.frozen (p:=⟨g,o,none⟩) x.lt hn).trans x.f0
 f1:=(hf.frozen (p:=⟨g,o+1,none⟩) x.lt hn).trans x.f1
 f2:=(hf.frozen (p:=⟨g,o+2,none⟩) x.lt hn).trans x.f2
 f3:=(hf.frozen (p:=⟨g,o+3,none⟩) x.lt hn).trans x.f3
structure Ro where
 L:List K
 lv:Value
 cv:Value
 gh:Nat
 hc:Nat
 hs:Nat→Hd
 bad:Int
structure Parts(B:Nat)(w:World)(R:Ro):Prop where
 own:w.ownsRow B 38 4 R.lv R.L.length (flat R.L)
 lace:laceB R.L=true
 hands:∀i,i<4→HAt w R.gh (i*4) (R.hs i)
 hok:∀i,i<4→HdOk R.L.length (R.hs i)
 gB:B≤R.gh
 cap:4≤R.hc
 ne:R.lv.ownBlock≠some R.gh
structure RoAt(B:Nat)(w:World)(p:Nat)(R:Ro):Prop where
 lt:p<w.heap.size
 pB:B≤p
 c0:w.cell? ⟨p,0,none⟩=some R.lv
 c1:w.cell? ⟨p,1,none⟩=some R.cv
 c2:w.cell? ⟨p,2,none⟩=some (.slice (some ⟨R.gh,0,none⟩) 4 R.hc)
 c3:w.cell? ⟨p,3,none⟩=some (.int .i64 R.bad)
 f0:w.frozen? ⟨p,0,none⟩=false
 parts:Parts B w R
 n1:p≠R.gh
 n2:R.lv.ownBlock≠some p
def roS(p:Nat)(R:Ro)(x:Nat):Prop:=x=p∨x=R.gh∨R.lv.ownBlock=some x
theorem parts_fr{S:Nat→Prop}{B:Nat}{w w':World}{R:Ro}(x:Parts B w R)(hf:Fr S w w')(h1:¬ S R.gh)(h2:∀g,R.lv.ownBlock=some g→¬ S g):Parts B w' R:=
 ⟨own_fr hf x.own h2,x.lace,fun i hi=>hat_fr (x.hands i hi) hf h1,x.hok,x.gB,x.cap,x.ne⟩
theorem roat_fr{S:Nat→Prop}{B:Nat}{w w':World}{p:Nat}{R:Ro}(x:RoAt B w p R)(hf:Fr S w w')(hn:∀g,roS p R g→¬ S g):RoAt B w' p R where
 lt:=Nat.lt_of_lt_of_le x.lt hf.size
 pB:=x.pB
 c0:=(hf.cell (p:=⟨p,0,none⟩) x.lt (hn p (.inl rfl))).trans x.c0
 c1:=(hf.cell (p:=⟨p,1,none⟩) x.lt (hn p (.inl rfl))).trans x.c1
 c2:=(hf.cell (p:=⟨p,2,none⟩) x.lt (hn p (.inl rfl))).trans x.c2
 c3:=(hf.cell (p:=⟨p,3,none⟩) x.lt (hn p (.inl rfl))).trans x.c3
 f0:=(hf.frozen (p:=⟨p,0,none⟩) x.lt (hn p (.inl rfl))).trans x.f0
 parts:=parts_fr x.parts hf (hn _ (.inr (.inl rfl))) (fun g hg=>hn g (.inr (.inr hg)))
 n1:=x.n1
 n2:=x.n2
theorem roat_below{B:Nat}{w w':World}{p:Nat}{R:Ro}(x:RoAt B w p R)(hb:Below w.heap.size w w'):RoAt B w' p R:=roat_fr (S:=fun _=>False) x (Fr.of_below hb _) (fun _ _ h=>h)
theorem hat_below{w w':World}{g o:Nat}{h:Hd}(x:HAt w g o h)(hb:Below w.heap.size w w'):HAt w' g o h:=hat_fr (S:=fun _=>False) x (Fr.of_below hb _) (fun h=>h)
theorem hat_new(w:World)(h:Hd)(t:TypeId):HAt (w.alloc (.cells #[.int .i64 h.who,.int .i64 h.has,.int .i64 h.kept,.int .i64 h.last] t)) w.heap.size 0 h:=⟨by simp,by simp,by simp,by simp,by simp,by simp,by simp,by simp,by simp⟩
theorem hput{w:World}{b:Nat}{z:Hd}(x:HAt w b 0 z)(v0 v1 v2 v3:Value) :
  ((((w.setCell ⟨b,0,none⟩ v0).setCell ⟨b,1,none⟩ v1).setCell ⟨b,2,none⟩ v2).setCell ⟨b,3,none⟩ v3).cell? ⟨b,0,none⟩=some v0 ∧
  ((((w.setCell ⟨b,0,none⟩ v0).setCell ⟨b,1,none⟩ v1).setCell ⟨b,2,none⟩ v2).setCell ⟨b,3,none⟩ v3).cell? ⟨b,1,none⟩=some v1 ∧
  ((((w.setCell ⟨b,0,none⟩ v0).setCell ⟨b,1,none⟩ v1).setCell ⟨b,2,none⟩ v2).setCell ⟨b,3,none⟩ v3).cell? ⟨b,2,none⟩=some v2 ∧
  ((((w.setCell ⟨b,0,none⟩ v0).setCell ⟨b,1,none⟩ v1).setCell ⟨b,2,none⟩ v2).setCell ⟨b,3,none⟩ v3).cell? ⟨b,3,none⟩=some v3:=by
 obtain⟨_,c0,c1,c2,c3,_,_,_,_⟩:=x;simp only [Nat.zero_add] at c1 c2 c3;refine⟨?_,?_,?_,?_⟩
 ·rw [World.cell?_setCell_other _ _ _ _ (by simp),World.cell?_setCell_other _ _ _ _ (by simp),World.cell?_setCell_other _ _ _ _ (by simp)];exact World.cell?_setCell_same _ _ _ c0
 ·rw [World.cell?_setCell_other _ _ _ _ (by simp),World.cell?_setCell_other _ _ _ _ (by simp)];exact World.cell?_setCell_same _ _ _ ((World.cell?_setCell_other _ _ _ _ (by simp)).trans c1)
 ·rw [World.cell?_setCell_other _ _ _ _ (by simp)];exact World.cell?_setCell_same _ _ _ ((World.cell?_setCell_other _ _ _ _ (by simp)).trans ((World.cell?_setCell_other _ _ _ _ (by simp)).trans c2))
 ·exact World.cell?_setCell_same _ _ _ ((World.cell?_setCell_other _ _ _ _ (by simp)).trans ((World.cell?_setCell_other _ _ _ _ (by simp)).trans ((World.cell?_setCell_other _ _ _ _ (by simp)).trans c3)))
theorem hat_has{w:World}{g o:Nat}{h:Hd}(x:HAt w g o h)(y:Int):HAt (w.setCell ⟨g,o+1,none⟩ (.int .i64 y)) g o { h with has:=y }:=
 ⟨by simpa using x.lt,(World.cell?_setCell_other _ _ _ _ (by simp)).trans x.c0,World.cell?_setCell_same _ _ _ x.c1,(World.cell?_setCell_other _ _ _ _ (by simp)).trans x.c2,(World.cell?_setCell_other _ _ _ _ (by simp)).trans x.c3,by simpa using x.f0,by simpa using x.f1,by simpa using x.f2,by simpa using x.f3⟩
theorem hat_kept{w:World}{g o:Nat}{h:Hd}(x:HAt w g o h)(y:Int):HAt (w.setCell ⟨g,o+2,none⟩ (.int .i64 y)) g o { h with kept:=y }:=
 ⟨by simpa using x.lt,(World.cell?_setCell_other _ _ _ _ (by simp)).trans x.c0,(World.cell?_setCell_other _ _ _ _ (by simp)).trans x.c1,World.cell?_setCell_same _ _ _ x.c2,(World.cell?_setCell_other _ _ _ _ (by simp)).trans x.c3,by simpa using x.f0,by simpa using x.f1,by simpa using x.f2,by simpa using x.f3⟩
theorem hat_last{w:World}{g o:Nat}{h:Hd}(x:HAt w g o h)(y:Int):HAt (w.setCell ⟨g,o+3,none⟩ (.int .i64 y)) g o { h with last:=y }:=
 ⟨by simpa using x.lt,(World.cell?_setCell_other _ _ _ _ (by simp)).trans x.c0,(World.cell?_setCell_other _ _ _ _ (by simp)).trans x.c1,(World.cell?_setCell_other _ _ _ _ (by simp)).trans x.c2,World.cell?_setCell_same _ _ _ x.c3,by simpa using x.f0,by simpa using x.f1,by simpa using x.f2,by simpa using x.f3⟩
theorem hat_other{w:World}{g o p j:Nat}{h:Hd}(x:HAt w g o h)(hn:g≠p)(u:Value):HAt (w.setCell ⟨p,j,none⟩ u) g o h:=hat_fr x (Fr.set w ⟨p,j,none⟩ u) hn
theorem hat_drew{w:World}{g o:Nat}{h:Hd}(x:HAt w g o h):HAt w.drew g o h:=⟨x.lt,x.c0,x.c1,x.c2,x.c3,x.f0,x.f1,x.f2,x.f3⟩
end Rm
namespace Rm
open Kn (K okK)
open Bit (bit)
open Lc (at' RdK canB laceB takesB handsN roundS handsB lesserB CellsK flat OwnK)
theorem l3CanN(k:K)(w:World)(hw:k.word.size≤1099511627776) :
   Calls Tryz.prog 78 #[.slice none 0 0,.int .i64 0,.agg #[.int .i64 k.hand,.int .i64 k.round,.int .i64 k.frm,.string k.word]] w fun e w'=>e=.returned (.bool (canB [] k))∧Below w.heap.size w w':=by
 have HC:Hid (canB [] k=(okK k&&(decide (k.frm / 2 ^ 0=0)&&(lesserB [] k.frm k.round 0&&handsB [] k)))):=rfl;have P0:Hid (Below w.heap.size w (w.alloc (.cells #[.int .i64 k.hand,.int .i64 k.round,.int .i64 k.frm,.string k.word] 38))∧CellsK (w.alloc (.cells #[.int .i64 k.hand,.int .i64 k.round,.int .i64 k.frm,.string k.word] 38)) w.heap.size 0 k∧w.heap.size<(w.alloc (.cells #[.int .i64 k.hand,.int .i64 k.round,.int .i64 k.frm,.string k.word] 38)).heap.size):=
   ⟨(Below.refl _ _).alloc (Nat.le_refl _) _,⟨by simp,by simp,by simp,by simp⟩,by simp⟩
 go_enter Tryz.func78,Tryz.ntmps78
 go_wp2_with fail
 generalize w.alloc (.cells #[.int .i64 k.hand,.int .i64 k.round,.int .i64 k.frm,.string k.word] 38)=w0 at P0 ⊢;obtain⟨B0,C0,S0⟩:=P0;generalize hb:w.heap.size=b at *;refine(Kn.specKnotOk k.hand k.round k.frm k.word _ hw).mono ?_;rintro e w1 ⟨rfl,hb1⟩;have C1:=C0.below hb1 S0;have S1:b<w1.heap.size:=Nat.lt_of_lt_of_le S0 hb1.size;have B1:=B0.trans (hb1.mono (Nat.le_of_lt S0));clear hb1 B0 S0 C0;obtain⟨c0,c1,c2,c3⟩:=C1;rw [Nat.zero_add] at c1 c2 c3
 cases hok:okK k
 · have HT2:Hid (canB [] k=false):=by show _=_;rw [HC.out,hok];simp
   clear hok HC;go_wp2;go_ret;exact⟨by rw [HT2.out];rfl,by first | exact B1 | (rw [hb];exact B1)⟩
 · have hf:=Lc.ok_frm hok;have hrd:=Lc.ok_round hok;have HT2:Hid (canB [] k=(decide (k.frm=0)&&handsB [] k)):=by
     show _=_;rw [HC.out,hok];simp [lesserB]
   clear hok HC;by_cases hd:k.frm=0
   · have HT3:Hid (canB [] k=handsB [] k):=by show _=_;rw [HT2.out];simp [hd]
     have hd':(k.frm != 0)=false:=by simpa using hd
     have hd2:(k.frm / 1 != 0)=false:=by simpa using hd
     clear HT2 hd;have HB1:Hid (Below b w w1):=B1;clear B1;go_wp2;go_loopw [7] (fun i wr=>i=.int .i64 0∧wr=w1) (fun _ _=>0)
     case atStart=>exact⟨rfl,rfl⟩
     case round=>
       obtain⟨rfl,rfl⟩:=hrel;by_cases hz:k.round=0
       · have HT5:Hid (canB [] k=true):=by show _=_;rw [HT3.out];simp [handsB,hz]
         have hz':(k.round == 0)=true:=by simpa using hz
         clear hz HT3;go_wp2_with fail
         go_quiet (fail)
         go_wp2;go_ret;exact⟨by rw [HT5.out];rfl,by have:=Lc.below_drewN' HB1.out;first | exact this _ | (rw [hb];exact this _)⟩
       · have HT5:Hid (canB [] k=decide (3≤handsN [] (roundS [] k.frm (k.round-1)))):=by show _=_;rw [HT3.out];simp [handsB,hz]
         have hz':(k.round == 0)=false:=by simpa using hz
         clear hz HT3;have hrb:=Lc.round_bd [] k.frm (k.round-1) (by simp);have HRT:Hid (∀W:World,Calls Tryz.prog 107 #[.slice none 0 0,.int .i64 k.frm,.int .i64 (k.round-1)] W fun e w'=>e=.returned (.int .i64 (roundS [] k.frm (k.round-1)))∧W=w'):=fun W=>l3RoundO none 0 [] k.frm (k.round-1) W (by simp) (.inl rfl) hf.1 hf.2
         have HHT:Hid (∀W:World,Calls Tryz.prog 106 #[.slice none 0 0,.int .i64 (roundS [] k.frm (k.round-1))] W fun e w'=>e=.returned (.int .i64 (handsN [] (roundS [] k.frm (k.round-1))))∧Below W.heap.size W w'):=fun W=>Lc.l3Hands none 0 [] (roundS [] k.frm (k.round-1)) W (by simp) (.inl rfl) (fun _ h=>by cases h) hrb.1 (by omega)
         generalize roundS [] k.frm (k.round-1)=q at HRT HHT HT5;generalize handsN [] q=q2 at HHT HT5;clear hrb;have P2:Hid (Below b w wr∧b<wr.heap.size):=⟨HB1.out,S1⟩
         clear c0 c3 HB1 S1;go_wp2_with fail
         clear hd' hw;obtain⟨X,_,F,HF,HG⟩:=Fam.fam wr;have hc1:∀z,(F z).cell? ⟨b,1,none⟩=some (.int .i64 k.round):=fun z=>((HF.out z).cell (p:=⟨b,1,none⟩) P2.out.2).trans c1
         have hc2:∀z,(F z).cell? ⟨b,2,none⟩=some (.int .i64 k.frm):=fun z=>((HF.out z).cell (p:=⟨b,2,none⟩) P2.out.2).trans c2
         clear c1 c2;refine Fam.region (F:=F) (by kernel_rfl) (by kernel_rfl) (HG.out _ (Below.refl _ wr).drew) ?_
         repeat (go_big_quiet_step (first
           | (go_at_call 107;exact(HRT.out _).mono fun _ _ h=>⟨h.1,_,h.2.symm⟩)
           | (go_at_call 106;exact(HHT.out _).mono fun _ _ h=>⟨h.1,HG.out _ ((HF.out _).trans (h.2.mono (HF.out _).size))⟩)))
         refine wpQuiet_nil ?_;intro w2 hw2;obtain⟨z,rfl⟩:=hw2;have HB2:Hid (Below b w (F z)):=P2.out.1.trans ((HF.out z).mono (Nat.le_of_lt P2.out.2));go_wp2;go_ret;exact⟨by rw [HT5.out];rfl,by first | exact HB2.out | (rw [hb];exact HB2.out)⟩
   · have HT3:Hid (canB [] k=false):=by show _=_;rw [HT2.out];simp [hd]
     have hd':(k.frm != 0)=true:=by simpa using hd
     have hd2:(k.frm / 1 != 0)=true:=by simpa using hd
     clear hd HT2;go_wp2;go_ret;exact⟨by rw [HT3.out];rfl,by first | exact B1 | (rw [hb];exact B1)⟩
theorem l3CanTieN(k:K)(w:World)(hw:k.word.size≤1099511627776) :
  Calls Tryz.prog 159 #[.slice none 0 0,.agg #[.int .i64 k.hand,.int .i64 k.round,.int .i64 k.frm,.string k.word]] w fun e w'=>e=.returned (.bool (takesB [] k))∧Below w.heap.size w w':=by
 have HT:Hid (takesB [] k=canB [] k):=rfl;have P0:Hid (Below w.heap.size w (w.alloc (.cells #[.int .i64 k.hand,.int .i64 k.round,.int .i64 k.frm,.string k.word] 38))):=(Below.refl _ _).alloc (Nat.le_refl _) _;go_enter Tryz.func159,Tryz.ntmps159
 go_wp2_with fail
 refine(l3CanN k _ hw).mono ?_;rintro e w1 ⟨rfl,hb1⟩;have B1:=P0.out.trans (hb1.mono P0.out.size);go_wp2;go_ret;exact⟨by rw [HT.out];rfl,B1⟩
theorem laceOkN(w:World):Calls Tryz.prog 39 #[.slice none 0 0] w fun e w'=>e=.returned (.bool true)∧w=w':=by
 go_enter Tryz.func39,Tryz.ntmps39
 go_wp2;go_loopw [3] (fun i wr=>i=.int .i64 0∧wr=w) (fun _ _=>0)
 case atStart=>exact⟨rfl,rfl⟩
 case round=>
  obtain⟨rfl,rfl⟩:=hrel;go_wp2;go_ret;exact⟨rfl,rfl⟩
theorem l3CopyN(w:World):Calls Tryz.prog 114 #[.slice none 0 0] w (Lc.CopyPost [] w):=by
 obtain⟨i0,hi,hz0,hz1,hz2⟩:=info_parts Lc.infoKn;have HB:Hid (OwnK 38 w.heap.size (w.alloc (.cells #[] 38)) (.slice (some ⟨w.heap.size,0,none⟩) 0 0) []∧Below w.heap.size w (w.alloc (.cells #[] 38))):=⟨⟨Lc.own_nil w _,by simp⟩,(Below.refl _ _).alloc (Nat.le_refl _) _⟩
 go_enter Tryz.func114,Tryz.ntmps114
 go_wp2_with (at_builtin;refine wpList_append_own_none rfl _ _ 24 rfl w.heap.size 38 i0 4 Tryz.underlying24 hi _ 0 [] rfl (Lc.own_nil w _) rfl ?_)
 go_ret;exact⟨_,rfl,HB.out.1,HB.out.2⟩
/-! ### a list that may be nil -/
theorem l3CanTieO(ao:Option Addr)(cap:Nat)(L:List K)(k:K)(w:World)(ho:ao=none→L=[]∧cap=0)(hz:∀x,ao=some x→x.spot=none)(hcap:L.length≤cap)(hl:laceB L=true)(hw:k.word.size≤1099511627776)(hr:RdK w ao L) :
  Calls Tryz.prog 159 #[.slice ao L.length cap,.agg #[.int .i64 k.hand,.int .i64 k.round,.int .i64 k.frm,.string k.word]] w fun e w'=>e=.returned (.bool (takesB L k))∧Below w.heap.size w w':=by
 cases ao with
 | none=>obtain⟨rfl,rfl⟩:=ho rfl;exact l3CanTieN k w hw
 | some x=>
  obtain⟨g,off,q⟩:=x;obtain rfl:q=none:=hz _ rfl;exact Lc.l3CanTie g off cap L k w hcap hl hw hr
theorem l3CopyO(ao:Option Addr)(cap:Nat)(L:List K)(w:World)(ho:ao=none→L=[]∧cap=0)(hz:∀x,ao=some x→x.spot=none)(hl:L.length≤2000000)(hr:RdK w ao L):Calls Tryz.prog 114 #[.slice ao L.length cap] w (Lc.CopyPost L w):=by
 cases ao with
 | none=>obtain⟨rfl,rfl⟩:=ho rfl;exact l3CopyN w
 | some x=>
  obtain⟨g,off,q⟩:=x;obtain rfl:q=none:=hz _ rfl;exact Lc.l3Copy g off cap L w hl hr
end Rm
namespace Rm
open Kn (K okK in3)
open Sg (orB belows)
open Lc (at' RdK laceB takesB flat OwnK CellsK cellsOf)
structure Ac where
 kind:Int
 who:Int
 knot:Int
 round:Int
 frm:Int
 word:ByteArray
abbrev acV(a:Ac):Value:=.agg #[.int .i64 a.kind,.int .i64 a.who,.int .i64 a.knot,.int .i64 a.round,.int .i64 a.frm,.string a.word]
abbrev acO(a:Ac):Obj:=.cells #[.int .i64 a.kind,.int .i64 a.who,.int .i64 a.knot,.int .i64 a.round,.int .i64 a.frm,.string a.word] 166
structure Out where
 done:Bool
 L:List K
 hs:Nat→Hd
def DoPost(B p:Nat)(R:Ro)(x:Out)(w:World)(e:Ending)(w':World):Prop:=
 ∃R':Ro,e=.returned (.bool x.done)∧RoAt B w' p R'∧R'.gh=R.gh∧(R'.bad=R.bad∧R'.cv=R.cv∧R'.L=x.L∧R'.hs=x.hs)∧Fr (roS p R) w w'∧∀g,R'.lv.ownBlock=some g→R.lv.ownBlock=some g∨w.heap.size≤g
theorem do_same{B p:Nat}{R:Ro}{x:Out}{w w':World}(b:Bool)(hx:x=⟨b,R.L,R.hs⟩)(hr:RoAt B w p R)(hb:Below w.heap.size w w'):DoPost B p R x w (.returned (.bool b)) w':=by
 subst hx;exact⟨R,rfl,roat_below hr hb,rfl,⟨rfl,rfl,rfl,rfl⟩,Fr.of_below hb _,fun _ hg=>.inl hg⟩
structure DoBeg(B p:Nat)(R:Ro)(a:Ac)(w W:World):Prop where
 bel:Below w.heap.size w W
 ro:RoAt B W p R
 lt:w.heap.size<W.heap.size
 a0:W.cell? ⟨w.heap.size,0,none⟩=some (.int .i64 a.kind)
 a1:W.cell? ⟨w.heap.size,1,none⟩=some (.int .i64 a.who)
 a2:W.cell? ⟨w.heap.size,2,none⟩=some (.int .i64 a.knot)
 a3:W.cell? ⟨w.heap.size,3,none⟩=some (.int .i64 a.round)
 a4:W.cell? ⟨w.heap.size,4,none⟩=some (.int .i64 a.frm)
 a5:W.cell? ⟨w.heap.size,5,none⟩=some (.string a.word)
theorem dobeg{B p:Nat}{R:Ro}(a:Ac){w:World}(hr:RoAt B w p R):DoBeg B p R a w (w.alloc (acO a)):=
 ⟨(Below.refl _ _).alloc (Nat.le_refl _) _,roat_below hr ((Below.refl _ _).alloc (Nat.le_refl _) _),by simp,by simp,by simp,by simp,by simp,by simp,by simp⟩
theorem in3_call(x:Int)(b:Bool)(h:in3 x=b)(V:World):Calls Tryz.prog 44 #[.int .i64 x,.int .i64 0,.int .i64 3] V fun e w'=>e=.returned (.bool b)∧w'=V:=by
 refine(Kn.l1In3 x V).mono ?_;rintro e w' ⟨rfl,rfl⟩;exact⟨by rw [h],rfl⟩
theorem in3_iff(x:Int):in3 x=true↔0≤x∧x≤3:=by unfold in3;simp
def goodB(R:Ro)(a:Ac):Bool:=in3 a.who&&(a.who != R.bad)
theorem doNot(B p:Nat)(R:Ro)(a:Ac)(w:World)(hr:RoAt B w p R)(hk:a.kind≠5)(hg:goodB R a=false)(x:Out)(HX:Hid (x=⟨false,R.L,R.hs⟩)):Calls Tryz.prog 140 #[.pointer (some ⟨p,0,none⟩),acV a] w (DoPost B p R x w):=by
 have P0:Hid (DoBeg B p R a w (w.alloc (acO a))):=dobeg a hr;have HR:Hid (RoAt B w p R):=hr;have hk5:(a.kind == 5)=false:=by simpa using hk
 clear hr hk
 cases hin:in3 a.who
 ·have hcall:=in3_call a.who false hin;clear hin hg;go_enter Tryz.func140,Tryz.ntmps140
  go_wp2_with fail
  generalize w.alloc (acO a)=W at P0 ⊢;obtain⟨hB,hro,hlt,a0,a1,a2,a3,a4,a5⟩:=P0.out;have c3:=hro.c3;have HB:Hid (Below w.heap.size w W):=hB;clear hro hB P0;go_quiet (first | (go_at_call 44;exact(hcall _).mono fun _ _ h=>⟨h.1,_,h.2⟩))
  go_wp2;go_ret;exact do_same false HX.out HR.out (Lc.below_drewN' HB.out _)
 ·have hcall:=in3_call a.who true hin;have hq:a.who=R.bad:=by unfold goodB at hg;rw [hin] at hg;simpa using hg
  have hq1:(a.who != R.bad)=false:=by simpa using hq
  clear hin hg hq;go_enter Tryz.func140,Tryz.ntmps140
  go_wp2_with fail
  generalize w.alloc (acO a)=W at P0 ⊢;obtain⟨hB,hro,hlt,a0,a1,a2,a3,a4,a5⟩:=P0.out;have c3:=hro.c3;have HB:Hid (Below w.heap.size w W):=hB;clear hro hB P0;go_quiet (first | (go_at_call 44;exact(hcall _).mono fun _ _ h=>⟨h.1,_,h.2⟩))
  go_wp2;go_ret;exact do_same false HX.out HR.out (Lc.below_drewN' HB.out _)
def upd(hs:Nat→Hd)(i:Nat)(h:Hd):Nat→Hd:=fun j=>if j=i then h else hs j
def putH(R:Ro)(i:Nat)(h:Hd):Ro:={ R with hs:=upd R.hs i h }
theorem do_hand{B p:Nat}{R:Ro}{x:Out}{w w':World}(b:Bool)(i:Nat)(h:Hd)(hx:x=⟨b,R.L,upd R.hs i h⟩)(hok:HdOk R.L.length h)(hr:RoAt B w p R)(hf:Fr (fun x=>x=R.gh) w w')(hh:∀j,j<4→HAt w' R.gh (j*4) ((putH R i h).hs j)):DoPost B p R x w (.returned (.bool b)) w':=by
 subst hx;have hn:p≠R.gh:=hr.n1;refine⟨putH R i h,rfl,⟨Nat.lt_of_lt_of_le hr.lt hf.size,hr.pB,(hf.cell (p:=⟨p,0,none⟩) hr.lt hn).trans hr.c0,(hf.cell (p:=⟨p,1,none⟩) hr.lt hn).trans hr.c1,(hf.cell (p:=⟨p,2,none⟩) hr.lt hn).trans hr.c2,(hf.cell (p:=⟨p,3,none⟩) hr.lt hn).trans hr.c3,(hf.frozen (p:=⟨p,0,none⟩) hr.lt hn).trans hr.f0,?_,hr.n1,hr.n2⟩,rfl,⟨rfl,rfl,rfl,rfl⟩,hf.mono (fun x hx _=>.inr (.inl hx)),fun _ hg=>.inl hg⟩;refine⟨own_fr hf hr.parts.own (fun g hg e=>hr.parts.ne (by rw [← e];exact hg)),hr.parts.lace,hh,fun j hj=>?_,hr.parts.gB,hr.parts.cap,hr.parts.ne⟩;show HdOk R.L.length (if j=i then h else R.hs j);split
 ·exact hok
 ·exact hr.parts.hok j hj
theorem hat_far{w:World}{g o o' j:Nat}{h:Hd}(x:HAt w g o h)(hj:j<4)(hn:o+4≤o'∨o'+4≤o)(u:Value):HAt (w.setCell ⟨g,o'+j,none⟩ u) g o h:=by
 have hne:∀c,c<4→(⟨g,o'+j,none⟩:Addr)≠⟨g,o+c,none⟩:=fun c hc e=>by injection e with _ e;omega
 exact⟨by simpa using x.lt,(World.cell?_setCell_other _ _ _ _ (hne 0 (by omega))).trans x.c0,(World.cell?_setCell_other _ _ _ _ (hne 1 (by omega))).trans x.c1,(World.cell?_setCell_other _ _ _ _ (hne 2 (by omega))).trans x.c2,(World.cell?_setCell_other _ _ _ _ (hne 3 (by omega))).trans x.c3,by simpa using x.f0,by simpa using x.f1,by simpa using x.f2,by simpa using x.f3⟩
theorem hat_drewN{w:World}{g o:Nat}{h:Hd}(x:HAt w g o h)(n:Nat):HAt (w.drewN n) g o h:=⟨x.lt,x.c0,x.c1,x.c2,x.c3,x.f0,x.f1,x.f2,x.f3⟩
theorem do_put{B p:Nat}{R:Ro}{x:Out}{w V:World}(b:Bool)(i:Nat)(h:Hd)(hx:x=⟨b,R.L,upd R.hs i h⟩)(hok:HdOk R.L.length h)(hr:RoAt B w p R)(hb:Below w.heap.size w V)(c:Nat)(hc:c<4)(u:Value)(hh:HAt (V.setCell ⟨R.gh,i*4+c,none⟩ u) R.gh (i*4) h):DoPost B p R x w (.returned (.bool b)) (V.setCell ⟨R.gh,i*4+c,none⟩ u):=by
 refine do_hand b i h hx hok hr ((Fr.of_below hb _).trans (Fr.set V ⟨R.gh,i*4+c,none⟩ u) (fun x hx _=>hx)) (fun j hj=>?_);show HAt _ R.gh (j*4) (if j=i then h else R.hs j);split
 ·rename_i e;subst e;exact hh
 ·exact hat_far (hat_below (hr.parts.hands j hj) hb) hc (by omega) u
theorem doKeep(B p:Nat)(R:Ro)(a:Ac)(w:World)(hr:RoAt B w p R)(hk:a.kind=3)(hg:goodB R a=true)(x:Out)(HX:Hid (x=⟨true,R.L,upd R.hs a.who.toNat { R.hs a.who.toNat with kept:=(R.hs a.who.toNat).has }⟩)):Calls Tryz.prog 140 #[.pointer (some ⟨p,0,none⟩),acV a] w (DoPost B p R x w):=by
 obtain⟨kind,who,knot,round,frm,word⟩:=a;obtain rfl:kind=3:=hk;have P0:Hid (DoBeg B p R ⟨3,who,knot,round,frm,word⟩ w (w.alloc (acO ⟨3,who,knot,round,frm,word⟩))):=dobeg _ hr;have HR:Hid (RoAt B w p R):=hr;unfold goodB at hg;rw [Bool.and_eq_true] at hg;have hcall:=in3_call who true hg.1;have hw3:=(in3_iff who).1 hg.1;have hq1:(who != R.bad)=true:=hg.2;clear hr hg;obtain⟨i,rfl⟩:=Int.eq_ofNat_of_zero_le hw3.1;try simp only [Int.toNat_natCast] at HX
 have hi:i<4:=by omega
 have hi4:(i:Int)<4:=by omega
 go_enter Tryz.func140,Tryz.ntmps140
 go_wp2_with fail
 generalize w.alloc (acO ⟨3,(i:Int),knot,round,frm,word⟩)=W at P0 ⊢;obtain⟨hB,hro,hlt,a0,a1,a2,a3,a4,a5⟩:=P0.out;have c2:=hro.c2;have c3:=hro.c3;have hcap:=hro.parts.cap;obtain⟨_,x0,x1,x2,x3,f0,f1,f2,f3⟩:=hro.parts.hands i hi;have HB:Hid (Below w.heap.size w W):=hB;have HH:Hid (HAt W R.gh (i*4) (R.hs i)):=hro.parts.hands i hi;have HOK:Hid (HdOk R.L.length (R.hs i)):=hro.parts.hok i hi;clear hro hB P0;go_quiet (first | (go_at_call 44;exact(hcall _).mono fun _ _ h=>⟨h.1,_,h.2⟩))
 go_wp2_with fail
 go_quiet (fail)
 go_wp2;go_ret;exact do_put true i { R.hs i with kept:=(R.hs i).has } HX.out ⟨HOK.out.h0,HOK.out.h1,HOK.out.h0,HOK.out.h1,HOK.out.la⟩ HR.out (Lc.below_drewN' HB.out _) 2 (by omega) _ (hat_kept (hat_drewN HH.out _) _)
theorem doForget(B p:Nat)(R:Ro)(a:Ac)(w:World)(hr:RoAt B w p R)(hk:a.kind=4)(hg:goodB R a=true)(x:Out)(HX:Hid (x=⟨true,R.L,upd R.hs a.who.toNat { R.hs a.who.toNat with has:=(R.hs a.who.toNat).kept }⟩)):Calls Tryz.prog 140 #[.pointer (some ⟨p,0,none⟩),acV a] w (DoPost B p R x w):=by
 obtain⟨kind,who,knot,round,frm,word⟩:=a;obtain rfl:kind=4:=hk;have P0:Hid (DoBeg B p R ⟨4,who,knot,round,frm,word⟩ w (w.alloc (acO ⟨4,who,knot,round,frm,word⟩))):=dobeg _ hr;have HR:Hid (RoAt B w p R):=hr;unfold goodB at hg;rw [Bool.and_eq_true] at hg;have hcall:=in3_call who true hg.1;have hw3:=(in3_iff who).1 hg.1;have hq1:(who != R.bad)=true:=hg.2;clear hr hg;obtain⟨i,rfl⟩:=Int.eq_ofNat_of_zero_le hw3.1;try simp only [Int.toNat_natCast] at HX
 have hi:i<4:=by omega
 have hi4:(i:Int)<4:=by omega
 go_enter Tryz.func140,Tryz.ntmps140
 go_wp2_with fail
 generalize w.alloc (acO ⟨4,(i:Int),knot,round,frm,word⟩)=W at P0 ⊢;obtain⟨hB,hro,hlt,a0,a1,a2,a3,a4,a5⟩:=P0.out;have c2:=hro.c2;have c3:=hro.c3;have hcap:=hro.parts.cap;obtain⟨_,x0,x1,x2,x3,f0,f1,f2,f3⟩:=hro.parts.hands i hi;have HB:Hid (Below w.heap.size w W):=hB;have HH:Hid (HAt W R.gh (i*4) (R.hs i)):=hro.parts.hands i hi;have HOK:Hid (HdOk R.L.length (R.hs i)):=hro.parts.hok i hi;clear hro hB P0;go_quiet (first | (go_at_call 44;exact(hcall _).mono fun _ _ h=>⟨h.1,_,h.2⟩))
 go_wp2_with fail
 go_quiet (fail)
 go_wp2;go_ret;exact do_put true i { R.hs i with has:=(R.hs i).kept } HX.out ⟨HOK.out.k0,HOK.out.k1,HOK.out.k0,HOK.out.k1,HOK.out.la⟩ HR.out (Lc.below_drewN' HB.out _) 1 (by omega) _ (hat_has (hat_drewN HH.out _) _)
theorem doElse(B p:Nat)(R:Ro)(a:Ac)(w:World)(hr:RoAt B w p R)(h1:a.kind≠1)(h2:a.kind≠2)(h3:a.kind≠3)(h4:a.kind≠4)(h5:a.kind≠5)(hg:goodB R a=true)(x:Out)(HX:Hid (x=⟨false,R.L,R.hs⟩)):Calls Tryz.prog 140 #[.pointer (some ⟨p,0,none⟩),acV a] w (DoPost B p R x w):=by
 obtain⟨kind,who,knot,round,frm,word⟩:=a;have q1:(kind == 1)=false:=by simpa using h1
 have q2:(kind == 2)=false:=by simpa using h2
 have q3:(kind == 3)=false:=by simpa using h3
 have q4:(kind == 4)=false:=by simpa using h4
 have q5:(kind == 5)=false:=by simpa using h5
 clear h1 h2 h3 h4 h5;have P0:Hid (DoBeg B p R ⟨kind,who,knot,round,frm,word⟩ w (w.alloc (acO ⟨kind,who,knot,round,frm,word⟩))):=dobeg _ hr;have HR:Hid (RoAt B w p R):=hr;unfold goodB at hg;rw [Bool.and_eq_true] at hg;have hcall:=in3_call who true hg.1;have hw3:=(in3_iff who).1 hg.1;have hq1:(who != R.bad)=true:=hg.2;clear hr hg;obtain⟨i,rfl⟩:=Int.eq_ofNat_of_zero_le hw3.1;try simp only [Int.toNat_natCast] at HX
 have hi:i<4:=by omega
 have hi4:(i:Int)<4:=by omega
 go_enter Tryz.func140,Tryz.ntmps140
 go_wp2_with fail
 generalize w.alloc (acO ⟨kind,(i:Int),knot,round,frm,word⟩)=W at P0 ⊢;obtain⟨hB,hro,hlt,a0,a1,a2,a3,a4,a5⟩:=P0.out;have c2:=hro.c2;have c3:=hro.c3;have hcap:=hro.parts.cap;obtain⟨_,x0,x1,x2,x3,f0,f1,f2,f3⟩:=hro.parts.hands i hi;have HB:Hid (Below w.heap.size w W):=hB;clear hro hB P0;go_quiet (first | (go_at_call 44;exact(hcall _).mono fun _ _ h=>⟨h.1,_,h.2⟩))
 go_wp2_with fail
 go_quiet (fail)
 go_wp2;go_ret;exact do_same false HX.out HR.out (Lc.below_drewN' HB.out _)
end Rm
namespace Rm
open Kn (K okK in3)
open Lc (at' RdK laceB takesB flat OwnK CellsK cellsOf)
theorem last_nil(who:Int)(w:World):Calls Tryz.prog 179 #[.slice none 0 0,.int .i64 who,.int .i64 0] w fun e w'=>e=.returned (.int .i64 (-1))∧∃n,w'=w.drewN n:=
 l13Last none 0 [] who 0 w (by simp) (.inl rfl) (by omega) (by omega)
theorem closed_nil(bo:Option Addr)(bc:Nat)(w:World):Calls Tryz.prog 91 #[.slice bo 0 bc,.int .i64 0] w fun e w'=>e=.returned (.bool true)∧w'=w:=
 (Sg.l4Closed bo bc [] 0 w (by simp) (by omega) (by omega) (.inl rfl)).mono fun _ _ h=>⟨h.1,h.2.symm⟩
theorem l13OkNew(bo:Option Addr)(bc:Nat)(i:Nat)(hi:i<4)(w:World):Calls Tryz.prog 186 #[.slice none 0 0,.slice bo 0 bc,.agg #[.int .i64 (i:Int),.int .i64 0,.int .i64 0,.int .i64 (-1)]] w fun e w'=>e=.returned (.bool true)∧Below w.heap.size w w':=by
 have P0:Hid (Below w.heap.size w (w.alloc (.cells #[.int .i64 (i:Int),.int .i64 0,.int .i64 0,.int .i64 (-1)] 186))∧HAt (w.alloc (.cells #[.int .i64 (i:Int),.int .i64 0,.int .i64 0,.int .i64 (-1)] 186)) w.heap.size 0 ⟨(i:Int),0,0,-1⟩):=⟨(Below.refl _ _).alloc (Nat.le_refl _) _,hat_new w ⟨(i:Int),0,0,-1⟩ _⟩
 have hcall:=in3_call (i:Int) true ((in3_iff _).2 ⟨by omega,by omega⟩);have hz:bits .andNot .i64 0 0=0:=by decide
 go_enter Tryz.func186,Tryz.ntmps186
 go_wp2_with (first
   | (go_at_call 44;refine(hcall _).mono ?_;rintro e w' ⟨rfl,rfl⟩)
   | (go_at_call 179;refine(last_nil _ _).mono ?_;rintro e w' ⟨rfl,n,rfl⟩)
   | fail)
 generalize w.alloc (.cells #[.int .i64 (i:Int),.int .i64 0,.int .i64 0,.int .i64 (-1)] 186)=W at P0 ⊢;generalize hN:W.drewN _=W1;have P1:Hid (Below w.heap.size w W1∧HAt W1 w.heap.size 0 ⟨(i:Int),0,0,-1⟩):=hN ▸ ⟨Lc.below_drewN' P0.out.1 _,hat_drewN P0.out.2 _⟩;clear hN P0;obtain⟨_,a0,a1,a2,a3,_,_,_,_⟩:=P1.out.2;simp only [Nat.zero_add] at a1 a2 a3;go_quiet (first
   | (go_at_call 91;exact(closed_nil _ _ _).mono fun _ _ h=>⟨h.1,_,h.2⟩)
   | (go_at_call 179;exact(last_nil _ _).mono fun _ _ h=>⟨h.1,h.2.elim fun _ hm=>⟨_,hm.trans (World.drewN_drewN ..)⟩⟩))
 go_wp2;go_ret;exact⟨rfl,Lc.below_drewN' P1.out.1 _⟩
def newH(i:Nat):Hd:=⟨(i:Int),0,0,-1⟩
theorem bad_call(x:Int)(h0:-1≤x)(h1:x≤3)(V:World):Calls Tryz.prog 44 #[.int .i64 x,.int .i64 (-1),.int .i64 3] V fun e w'=>e=.returned (.bool true)∧w'=V:=by
 refine(Base.l1In x (-1) 3 V).mono ?_;rintro e w' ⟨rfl,rfl⟩;exact⟨by rw [decide_eq_true h0,decide_eq_true h1];rfl,rfl⟩
theorem roomOkNew(co:Option Addr)(cc:Nat)(l:List Int)(gh hc:Nat)(bad:Int)(w:World)(hl:coinsB l=true)(hl6:l.length≤6)(hrd:Lst.Rd w co l)(hco:∀g,co=some ⟨g,0,none⟩→g<w.heap.size)(hh:∀i,i<4→HAt w gh (i*4) (newH i))(hb0:-1≤bad)(hb1:bad≤3) :
   Calls Tryz.prog 176 #[.agg #[.slice none 0 0,.slice co l.length cc,.slice (some ⟨gh,0,none⟩) 4 hc,.int .i64 bad]] w fun e w'=>e=.returned (.bool true)∧Below w.heap.size w w':=by
 have P0:Hid (Below w.heap.size w (w.alloc (.cells #[.slice none 0 0,.slice co l.length cc,.slice (some ⟨gh,0,none⟩) 4 hc,.int .i64 bad] 137))∧(w.alloc (.cells #[.slice none 0 0,.slice co l.length cc,.slice (some ⟨gh,0,none⟩) 4 hc,.int .i64 bad] 137)).cell? ⟨w.heap.size,0,none⟩=some (.slice none 0 0)∧(w.alloc (.cells #[.slice none 0 0,.slice co l.length cc,.slice (some ⟨gh,0,none⟩) 4 hc,.int .i64 bad] 137)).cell? ⟨w.heap.size,1,none⟩=some (.slice co l.length cc)∧(w.alloc (.cells #[.slice none 0 0,.slice co l.length cc,.slice (some ⟨gh,0,none⟩) 4 hc,.int .i64 bad] 137)).cell? ⟨w.heap.size,2,none⟩=some (.slice (some ⟨gh,0,none⟩) 4 hc)∧(w.alloc (.cells #[.slice none 0 0,.slice co l.length cc,.slice (some ⟨gh,0,none⟩) 4 hc,.int .i64 bad] 137)).cell? ⟨w.heap.size,3,none⟩=some (.int .i64 bad)∧w.heap.size<(w.alloc (.cells #[.slice none 0 0,.slice co l.length cc,.slice (some ⟨gh,0,none⟩) 4 hc,.int .i64 bad] 137)).heap.size):=
   ⟨(Below.refl _ _).alloc (Nat.le_refl _) _,by simp,by simp,by simp,by simp,by simp⟩
 have HCO:Hid (∀V:World,Below w.heap.size w V→Calls Tryz.prog 58 #[.slice co l.length cc] V fun e w'=>e=.returned (.bool true)∧V=w'):=by
   intro V hV;have hrd':Lst.Rd V co l:=by
     rcases hrd with h | ⟨g,hg,hc⟩
     · exact .inl h
     · exact .inr ⟨g,hg,fun j hj=>(hV.cell (p:=⟨g,j,none⟩) (hco g hg)).trans (hc j hj)⟩
   have:=specCoinsOk co cc l V (by omega) hrd';rwa [hl] at this
 have hcb:=bad_call bad hb0 hb1;have HHH:Hid (∀V:World,Below w.heap.size w V→∀i,i<4→HAt V gh (i*4) (newH i)):=fun V hV i hi=>hat_below (hh i hi) hV
 have hgl:gh<w.heap.size:=(hh 0 (by omega)).lt;clear hl hrd hco hh hb0 hb1;go_enter Tryz.func176,Tryz.ntmps176
 go_wp2_with fail
 generalize w.alloc (.cells #[.slice none 0 0,.slice co l.length cc,.slice (some ⟨gh,0,none⟩) 4 hc,.int .i64 bad] 137)=W at P0 ⊢;obtain⟨hB,c0,c1,c2,c3,hlt⟩:=P0;have HB:Hid (Below w.heap.size w W):=hB;clear hB;refine(laceOkN _).mono ?_;rintro e w1 ⟨rfl,rfl⟩;go_wp2_with fail
 refine(HCO.out _ HB.out).mono ?_;rintro e w1 ⟨rfl,rfl⟩;go_wp2_with (go_at_call 44;refine(hcb _).mono ?_;rintro e w' ⟨rfl,rfl⟩)
 refine(Sg.l4All none 0 [] _ (by simp) (fun _ h=>by cases h) (.inl rfl)).mono ?_;rintro e w2 ⟨bo,bc,rfl,hown,hb2⟩;have hrd2:=Lst.own_rd hown;have hbo:∀g,bo=some ⟨g,0,none⟩→g<w2.heap.size:=fun g hg=>(World.ownsRow.lt hown g (by rw [hg];rfl)).2
 have c0':=(hb2.cell (p:=⟨w.heap.size,0,none⟩) hlt).trans c0;clear hown;go_wp2_with fail
 refine(Db.l5All none 0 [] bo bc [] _ (by simp) rfl (fun _ h=>by cases h) (.inl rfl) hrd2 hbo).mono ?_;rintro e w3 ⟨D,rfl,_,_,hb3⟩;have hb23:=hb2.trans (hb3.mono hb2.size);have HB3:Hid (Below w.heap.size w w3):=HB.out.trans (hb23.mono HB.out.size);have hlt3:w.heap.size<w3.heap.size:=Nat.lt_of_lt_of_le hlt hb23.size;have d0:=(hb23.cell (p:=⟨w.heap.size,0,none⟩) hlt).trans c0;have d2:=(hb23.cell (p:=⟨w.heap.size,2,none⟩) hlt).trans c2;clear hb2 hb3 hb23 c0 c1 c2 c3 c0' hrd2 hbo HB hcb HCO;go_wp2_with fail
 go_loopw [5] (fun i wr=>∃j:Nat,j≤4∧i=.int .i64 j∧Hid (Below w3.heap.size w3 wr)) (fun i _=>4-(intOf i).toNat)
 case atStart=>exact⟨0,by omega,rfl,Below.refl _ _⟩
 case round=>
   obtain⟨j,hj,rfl,HBr⟩:=hrel;by_cases hj4:j<4
   · have hj4':(j:Int)<4:=by omega
     have HBw:Hid (Below w.heap.size w wr):=HB3.out.trans (HBr.out.mono HB3.out.size);have hltr:w.heap.size<wr.heap.size:=Nat.lt_of_lt_of_le hlt3 HBr.out.size;have hglr:gh<wr.heap.size:=Nat.lt_of_lt_of_le hgl HBw.out.size;obtain⟨_,x0,x1,x2,x3,_,_,_,_⟩:=HHH.out wr HBw.out j hj4;have hnn:((j:Int) != (j:Int))=false:=by simp
     go_wp2_with fail
     obtain⟨X,_,F,HF,HG⟩:=Fam.fam wr;have e0:∀z,(F z).cell? ⟨w.heap.size,0,none⟩=some (.slice none 0 0):=fun z=>((HBr.out.trans ((HF.out z).mono HBr.out.size)).cell (p:=⟨w.heap.size,0,none⟩) hlt3).trans d0
     have e2:∀z,(F z).cell? ⟨w.heap.size,2,none⟩=some (.slice (some ⟨gh,0,none⟩) 4 hc):=fun z=>((HBr.out.trans ((HF.out z).mono HBr.out.size)).cell (p:=⟨w.heap.size,2,none⟩) hlt3).trans d2
     have y0:∀z,(F z).cell? ⟨gh,j*4,none⟩=some (.int .i64 (j:Int)):=fun z=>((HF.out z).cell (p:=⟨gh,j*4,none⟩) hglr).trans x0
     have y1:∀z,(F z).cell? ⟨gh,j*4+1,none⟩=some (.int .i64 0):=fun z=>((HF.out z).cell (p:=⟨gh,j*4+1,none⟩) hglr).trans x1
     have y2:∀z,(F z).cell? ⟨gh,j*4+2,none⟩=some (.int .i64 0):=fun z=>((HF.out z).cell (p:=⟨gh,j*4+2,none⟩) hglr).trans x2
     have y3:∀z,(F z).cell? ⟨gh,j*4+3,none⟩=some (.int .i64 (-1)):=fun z=>((HF.out z).cell (p:=⟨gh,j*4+3,none⟩) hglr).trans x3
     have HOK:Hid (∀V:World,Calls Tryz.prog 186 #[.slice none 0 0,.slice bo 0 bc,.agg #[.int .i64 (j:Int),.int .i64 0,.int .i64 0,.int .i64 (-1)]] V fun e w'=>e=.returned (.bool true)∧Below V.heap.size V w'):=fun V=>l13OkNew bo bc j hj4 V
     clear x0 x1 x2 x3 d0 d2;refine Fam.region (F:=F) (by kernel_rfl) (by kernel_rfl) (HG.out _ (Below.refl _ wr).drew) ?_
     repeat (go_big_quiet_step (first
       | (go_at_call 186;exact(HOK.out _).mono fun _ _ h=>⟨h.1,HG.out _ ((HF.out _).trans (h.2.mono (HF.out _).size))⟩)))
     refine wpQuiet_nil ?_;intro w4 hw4;obtain⟨z,rfl⟩:=hw4;have HBz:Hid (Below w3.heap.size w3 (F z)):=HBr.out.trans ((HF.out z).mono HBr.out.size);clear e0 e2 y0 y1 y2 y3;go_wp2;go_roundw
     case rel=>exact⟨j+1,by omega,by go_num,HBz⟩
     case measure=>simp [intOf];omega
   · obtain rfl:j=4:=by omega
     have HBw:Hid (Below w.heap.size w wr):=HB3.out.trans (HBr.out.mono HB3.out.size);have e0:=(HBr.out.cell (p:=⟨w.heap.size,0,none⟩) hlt3).trans d0;have h44:¬ ((4:Nat):Int)<4:=by omega
     clear d0 d2;go_wp2;go_loopw [6] (fun i w5=>i=.int .i64 0∧w5=wr) (fun _ _=>0)
     case atStart=>exact⟨rfl,rfl⟩
     case round=>
       obtain⟨rfl,rfl⟩:=hrel;go_wp2;go_ret;exact⟨rfl,HBw.out⟩
end Rm
namespace Rm
open Kn (K okK in3)
open Lc (at' RdK laceB takesB flat OwnK CellsK cellsOf)
/-! ### hands in a row -/
def hcells(h:Hd):List Value:=[.int .i64 h.who,.int .i64 h.has,.int .i64 h.kept,.int .i64 h.last]
def flatH(hs:Nat→Hd)(n:Nat):List Value:=(List.range n).flatMap fun i=>hcells (hs i)
theorem flatH_succ(hs:Nat→Hd)(n:Nat):flatH hs (n+1)=flatH hs n++hcells (hs n):=by unfold flatH;rw [List.range_succ];simp
theorem flatH_len(hs:Nat→Hd)(n:Nat):(flatH hs n).length=n*4:=by
 induction n with
 | zero=>rfl
 | succ n ih=>rw [flatH_succ,List.length_append,ih];simp [hcells];omega
theorem flatH_at(hs:Nat→Hd)(n i c:Nat)(hi:i<n)(hc:c<4):(flatH hs n)[i*4+c]? = (hcells (hs i))[c]?:=by
 induction n with
 | zero=>omega
 | succ n ih=>
  rw [flatH_succ];have hl:=flatH_len hs n;by_cases e:i=n
  ·subst e;rw [List.getElem?_append_right (by omega),hl];congr 1;omega
  ·rw [List.getElem?_append_left (by omega)];exact ih (by omega)
theorem hcells_one(h:Hd):∀u∈hcells h,u.oneCell'=true:=by
 intro u hu;simp [hcells] at hu;rcases hu with rfl | rfl | rfl | rfl <;> rfl
theorem flatH_one(hs:Nat→Hd)(n:Nat):∀u∈flatH hs n,u.oneCell'=true:=by
 intro u hu;unfold flatH at hu;rw [List.mem_flatMap] at hu;obtain⟨i,_,hi⟩:=hu;exact hcells_one _ u hi
theorem own_hands{w:World}{B g n cap:Nat}{t:TypeId}{hs:Nat→Hd}(h:w.ownsRow B t 4 (.slice (some ⟨g,0,none⟩) n cap) n (flatH hs n))(i:Nat)(hi:i<n):HAt w g (i*4) (hs i):=by
 have hlt:=World.ownsRow.lt h g rfl;have hc:∀c,c<4→w.cell? ⟨g,i*4+c,none⟩=(hcells (hs i))[c]?:=fun c hc=>by
  rw [World.ownsRow.cellAt h (i*4+c) (by omega)];exact flatH_at hs n i c hi hc
 have hf:∀c,w.frozen? ⟨g,i*4+c,none⟩=false:=fun c=>World.ownsRow.frozenAt h (i*4+c)
 exact⟨hlt.2,hc 0 (by omega),hc 1 (by omega),hc 2 (by omega),hc 3 (by omega),hf 0,hf 1,hf 2,hf 3⟩
theorem infoH:(Tryz.prog.info? 186).map (fun i=>(i.zero,i.size,i.bytes))=some (some (.agg #[.int .i64 0,.int .i64 0,.int .i64 0,.int .i64 0]),4,32):=by kernel_rfl
theorem new_hcells(W:World)(h:Hd)(t:TypeId):∀(j:Nat) u,(hcells h)[j]? = some u→(W.alloc (.cells #[.int .i64 h.who,.int .i64 h.has,.int .i64 h.kept,.int .i64 h.last] t)).cell? ((⟨W.heap.size,0,none⟩:Addr).add j)=some u:=by
 intro q u hq;match q,hq with
 | 0,hq=>simp [hcells] at hq;subst hq;simp [Addr.add]
 | 1,hq=>simp [hcells] at hq;subst hq;simp [Addr.add]
 | 2,hq=>simp [hcells] at hq;subst hq;simp [Addr.add]
 | 3,hq=>simp [hcells] at hq;subst hq;simp [Addr.add]
/-! ### a room by value -/
def roV(R:Ro):Value:=.agg #[R.lv,R.cv,.slice (some ⟨R.gh,0,none⟩) 4 R.hc,.int .i64 R.bad]
def CoinsAt(w:World)(v:Value):Prop:=∃ao cap l,v=.slice ao l.length cap∧(ao=none→l=[]∧cap=0)∧(∀x,ao=some x→∃g,x=⟨g,0,none⟩∧g<w.heap.size)∧l.length≤6∧Lst.Rd w ao l
theorem coinsAt_below{w w':World}{v:Value}(h:CoinsAt w v)(hb:Below w.heap.size w w'):CoinsAt w' v:=by
 obtain⟨ao,cap,l,hv,h1,h2,h3,hrd⟩:=h;refine⟨ao,cap,l,hv,h1,fun x hx=>?_,h3,?_⟩
 ·obtain⟨g,rfl,hg⟩:=h2 x hx;exact⟨g,rfl,Nat.lt_of_lt_of_le hg hb.size⟩
 ·rcases hrd with h | ⟨g,hg,hc⟩
  ·exact .inl h
  ·obtain⟨g',e,hlt⟩:=h2 _ hg;injection e with e;subst e;exact .inr ⟨g,hg,fun j hj=>(hb.cell (p:=⟨g,j,none⟩) hlt).trans (hc j hj)⟩
theorem own_coins{w:World}{B:Nat}{ao:Option Addr}{cap:Nat}{l:List Int}(h:Memb.Own B w ao cap l)(hl:l.length≤6):CoinsAt w (.slice ao l.length cap):=by
 have hrd:=Lst.own_rd h;have hlt:=World.ownsRow.lt h;obtain⟨_,⟨hv,hn⟩ | ⟨g,cap',cur,hv,_⟩⟩:=h
 ·injection hv with h1 h2 h3;subst h1 h3;exact⟨none,0,l,rfl,fun _=>⟨List.eq_nil_of_length_eq_zero h2,rfl⟩,fun x e=>(by cases e),hl,hrd⟩
 ·injection hv with h1 h2 h3;subst h1 h3;exact⟨_,_,l,rfl,fun e=>(by cases e),fun x e=>⟨g,(by cases e;rfl),(hlt g rfl).2⟩,hl,hrd⟩
theorem l1CopyN(w:World):Calls Tryz.prog 60 #[.slice none 0 0] w (Sg.NumsPost [] w):=by
 obtain⟨i0,hi,hz0,hz1,hz2⟩:=info_parts Memb.info2;have HB:Hid (Memb.Own w.heap.size (w.alloc (.cells #[] 2)) (some ⟨w.heap.size,0,none⟩) 0 []∧Below w.heap.size w (w.alloc (.cells #[] 2))):=⟨Memb.own_empty w,(Below.refl _ _).alloc (Nat.le_refl _) _⟩
 go_enter Tryz.func60,Tryz.ntmps60
 go_wp2_with (at_builtin;refine wpList_append_own_none rfl _ _ 25 rfl w.heap.size 2 i0 1 Tryz.underlying25 hi _ 0 [] rfl (Memb.own_empty w) rfl ?_)
 go_ret;exact⟨_,_,rfl,HB.out.1,HB.out.2⟩
structure NewR(B:Nat)(w:World)(R:Ro):Prop where
 parts:Parts B w R
 L:R.L=[]
 lv:R.lv=.slice none 0 0
 coins:CoinsAt w R.cv
 cB:∀g,R.cv.ownBlock=some g→B≤g
 cg:R.cv.ownBlock≠some R.gh
def NewPost(bad:Int)(w:World)(e:Ending)(w':World):Prop:=∃R,e=.returned (.tuple #[roV R,.bool true])∧NewR w.heap.size w' R∧R.bad=bad∧Below w.heap.size w w'
end Rm
end Go.Proofs.YtbkeldfbllhlbaaGreat
