/-
 What the program's own out and OutOf answer, in the words of TaleS; for coins of at most 2^20 numbers and lists of knots whose words have at most 2^40 bytes.
-/
import Derived.Test.YtbkeldfbllhlbaaGreatqzg23
set_option linter.unusedVariables false
set_option maxRecDepth 100000
set_option maxHeartbeats 4000000
namespace Go.Proofs.YtbkeldfbllhlbaaGreat
open Go.RowKit
open Go.RowKit Go.Shelf
attribute [local go_sem] Oper.semAt_some
namespace Fw
open Kn (K okK)
open Bit (bit withB)
open Lc (at' RdK WordsOk laceB setB handsN roundS)
open Ch (leadK firmN sealAt)
def IsTop(L:List K)(C:List Int)(s:Int)(k:Nat):Prop:=k<L.length∧firmN L C s k=true∧∀j,j<L.length→firmN L C s j=true→(at' L j).round≤(at' L k).round∧((at' L j).round=(at' L k).round→k≤j)
def FirmAll(L:List K)(C:List Int)(s:Int)(ys:List Nat):Prop:=∀k,k∈ys↔k<L.length∧firmN L C s k=true
def FirmPre(L:List K)(C:List Int)(s:Int)(ys:List Nat):Prop:=∃k rest,ys=k :: rest∧IsTop L C s k
structure Inv(L:List K)(C:List Int)(s:Int)(n:Nat)(D:Nat→Int × Int)(pre:List Nat):Prop where
 heap:Hp.IsHeap ltL n D
 el:∀i,i<n→∃k:Nat,k<L.length∧bit s k=true∧leadK C (at' L k)=true∧D i=((k:Int),(at' L k).round)
 all:∀k,k<L.length→firmN L C s k=true→k∈pre∨∃i,i<n∧D i=((k:Int),(at' L k).round)
 fm:∀k∈pre,k<L.length∧firmN L C s k=true
 top:∀k rest,pre=k :: rest→IsTop L C s k
 len:pre.length+n≤60
theorem inv_start{L:List K}(h60:L.length≤60){C:List Int}{s:Int}(q0:0≤s)(q1:s<1152921504606846976){n:Nat}{D:Nat→Int × Int}(hn:n≤60)(h1:Hp.IsHeap ltL n D)(h2:Holds L C (Memb.memI s) n D):Inv L C s n D [] where
 heap:=h1
 el:=fun i hi=>by
  obtain⟨k,p1,p2,p3,p4⟩:=(h2 (D i)).1 ⟨i,hi,rfl⟩;exact⟨k,p2,(Ak.mem_bit q0 q1 k).1 p1,p3,p4⟩
 all:=fun k hk hf=>by
  unfold Ch.firmN at hf;rw [Bool.and_eq_true,Bool.and_eq_true] at hf;exact .inr ((h2 _).2 ⟨k,(Ak.mem_bit q0 q1 k).2 hf.1,hk,hf.2.1,rfl⟩)
 fm:=fun k h=>by simp at h
 top:=fun k rest h=>by simp at h
 len:=by simpa using hn
theorem pair_eq{a b:Nat}{x y:Int}(h:((a:Int),x)=((b:Int),y)):a=b:=by injection h with h _;omega
theorem inv_skip{L:List K}{C:List Int}{s:Int}{n:Nat}{D:Nat→Int × Int}{pre:List Nat}(h:Inv L C s (n+1) D pre){k:Nat}(e:D 0=((k:Int),(at' L k).round))(hf:firmN L C s k=false):Inv L C s n (Hp.popT ltL n D) pre where
 heap:=Hp.popT_heap ltL_ord n D h.heap
 el:=fun i hi=>by
  obtain⟨m,_,hm,em⟩:=(Hp.popT_left ltL n D).1 i hi;obtain⟨j,p⟩:=h.el m hm;exact⟨j,p.1,p.2.1,p.2.2.1,em.symm.trans p.2.2.2⟩
 all:=fun j hj hfj=>by
  rcases h.all j hj hfj with q | ⟨i,hi,ei⟩
  ·exact .inl q
  ·by_cases h0:i=0
   ·subst h0;obtain rfl:=pair_eq (e.symm.trans ei);rw [hf] at hfj;cases hfj
   ·obtain⟨m,hm,em⟩:=(Hp.popT_left ltL n D).2 i (by omega) hi;exact .inr ⟨m,hm,em.trans ei⟩
 fm:=h.fm
 top:=h.top
 len:=by have:=h.len;omega
theorem inv_take{L:List K}{C:List Int}{s:Int}{n:Nat}{D:Nat→Int × Int}{pre:List Nat}(h:Inv L C s (n+1) D pre){k:Nat}(hk:k<L.length)(e:D 0=((k:Int),(at' L k).round))(hf:firmN L C s k=true):Inv L C s n (Hp.popT ltL n D) (pre++[k]) where
 heap:=Hp.popT_heap ltL_ord n D h.heap
 el:=fun i hi=>by
  obtain⟨m,_,hm,em⟩:=(Hp.popT_left ltL n D).1 i hi;obtain⟨j,p⟩:=h.el m hm;exact⟨j,p.1,p.2.1,p.2.2.1,em.symm.trans p.2.2.2⟩
 all:=fun j hj hfj=>by
  rcases h.all j hj hfj with q | ⟨i,hi,ei⟩
  ·exact .inl (by simp [q])
  ·by_cases h0:i=0
   ·subst h0;obtain rfl:=pair_eq (e.symm.trans ei);exact .inl (by simp)
   ·obtain⟨m,hm,em⟩:=(Hp.popT_left ltL n D).2 i (by omega) hi;exact .inr ⟨m,hm,em.trans ei⟩
 fm:=fun j hj=>by
  rw [List.mem_append,List.mem_singleton] at hj;rcases hj with hj | rfl
  ·exact h.fm j hj
  ·exact⟨hk,hf⟩
 top:=fun j rest ej=>by
  cases hp:pre with
  | nil=>
   rw [hp] at ej;injection ej with ej _;subst ej;refine⟨hk,hf,fun j hj hfj=>?_⟩;rcases h.all j hj hfj with q | ⟨i,hi,ei⟩
   ·rw [hp] at q;simp at q
   ·have q:=ltL_no (Hp.top ltL_ord h.heap i hi);rw [ei,e] at q;exact⟨q.1,fun ee=>by have:=q.2 ee;simp at this;omega⟩
  | cons a t=>
   rw [hp] at ej;injection ej with ej _;subst ej;exact h.top _ t hp
 len:=by have:=h.len;simp;omega
theorem inv_done{L:List K}{C:List Int}{s:Int}{D:Nat→Int × Int}{pre:List Nat}(h:Inv L C s 0 D pre):FirmAll L C s pre:=fun k=>
 ⟨fun hk=>h.fm k hk,fun⟨hk,hf⟩=>by
   rcases h.all k hk hf with q | ⟨i,hi,_⟩
   · exact q
   · omega⟩
theorem inv_pre{L:List K}{C:List Int}{s:Int}{n:Nat}{D:Nat→Int × Int}{pre:List Nat}{k:Nat}(h:Inv L C s n D (pre++[k])):FirmPre L C s (pre++[k]):=by
 cases hp:pre++[k] with
 | nil=>simp at hp
 | cons a t=>exact⟨a,t,rfl,h.top a t hp⟩
def KpB(n₀ Bf:Nat)(V V':World):Prop:=Below n₀ V V'∧∀(b:Nat) (cs:Array Value) (t:TypeId) (fz:Nat × Nat),b≠Bf→V.heap[b]? = some (.cells cs t fz)→V'.heap[b]? = some (.cells cs t fz)
theorem kpB_t{n₀ Bf:Nat}{A B C:World}(h:KpB n₀ Bf A B)(k:KpB n₀ Bf B C):KpB n₀ Bf A C:=⟨h.1.trans k.1,fun b cs t fz hb e=>k.2 b cs t fz hb (h.2 b cs t fz hb e)⟩
theorem kpB_b{n₀ Bf m:Nat}(hm:n₀≤m)(A:World)(r r':Loop)(h:A.heap[m+1]? = some (.loop r)):KpB n₀ Bf A (A.putObj (m+1) (.loop r')):=
 ⟨(Ov.low_put m A _).mono hm,fun b cs t fz _ e=>(World.putObj_heap_other (fun q=>by subst q;rw [h] at e;cases e)).trans e⟩
theorem wt_kpB{n₀ Bf m0 r hp n:Nat}{V V':World}{D:Nat→Int × Int}(h:Wt m0 r hp n V D)(hb:Bf<m0)(k:KpB n₀ Bf V V'):Wt m0 r hp n V' D:=by
 obtain⟨h0,g,cap,hh,hl,hr⟩:=h;refine⟨h0,g,cap,k.2 hp _ _ _ (by omega) hh,⟨?_⟩,hr⟩;obtain⟨q1,⟨hv,_⟩ | ⟨g',cap',cur,hv,hb',hg,rest⟩⟩:=hl.own
 ·cases hv
 ·exact⟨q1,.inr ⟨g',cap',cur,hv,hb',k.2 g' _ _ _ (by omega) hg,rest⟩⟩
end Fw
namespace Fw
open Kn (K okK)
open Bit (bit withB)
open Lc (at' RdK WordsOk laceB setB handsN roundS)
open Ch (leadK firmN sealAt)
def lenAt(hp:Nat)(W:World):Nat:=match W.cell? ⟨hp,0,none⟩ with | some (.slice _ n _)=>n | _=>0
theorem lenAt_eq{m0 r hp n:Nat}{W:World}{D:Nat→Int × Int}(h:Wt m0 r hp n W D):lenAt hp W=n:=by
 obtain⟨_,g,cap,hh,_⟩:=h;unfold lenAt;rw [cell_of hh]
theorem firmOnes1(n:Nat)(hn1:1≤n)(l Bl Bb Bs n₀ Bf g off cap:Nat)(L:List K)(C:List Int)(s:Int)(hlc:laceB L=true)(hc:Rm.coinsB C=true)(h0:0≤s)(h1:s<1152921504606846976)(hd:s / 2 ^ L.length=0)(hg:g<n₀)
  (J Jx:List Nat→World→Prop) (W:World) (hJL:∀q,Ov.Low W.heap.size (J q)) (hn0:n₀≤W.heap.size) (hBf:Bf<W.heap.size) (hfl:Bf≠Bl) (hfb:Bf≠Bb) (hfs:Bf≠Bs)
  (hY:∀pre x V,J pre V→pre.length<60→YieldAt Fence.wide (n-1) Tryz.prog l #[.int .i64 ((x:Nat):Int)] V fun e V'=>(e=.returned (.bool true)∧J (pre++[x]) V'∧KpB n₀ Bf V V')∨(e=.returned (.bool false)∧Jx (pre++[x]) V'))
  (hBl:W.heap[Bl]? = some (.cells #[.slice (some ⟨g,off,none⟩) L.length cap] 55 (0,0))) (hBb:W.heap[Bb]? = some (.cells #[.int .i64 (Ch.leadI C 0),.int .i64 (Ch.leadI C 1),.int .i64 (Ch.leadI C 2),.int .i64 (Ch.leadI C 3),.int .i64 (Ch.leadI C 4),.int .i64 (Ch.leadI C 5),.int .i64 (Ch.leadI C 6)] 58 (0,0))) (hBs:W.heap[Bs]? = some (.cells #[.int .i64 s] 62 (0,0)))
  (hr:RdK W (some ⟨g,off,none⟩) L) (hJ0:J [] W) :
  CallsIn Fence.wide n Tryz.prog 116 #[.func (.yield l) #[] #[],.pointer (some ⟨Bl,0,none⟩),.pointer (some ⟨Bb,0,none⟩),.pointer (some ⟨Bs,0,none⟩)] W fun e V=>(∃v,e=.returned v) ∧
   ((∃ys,FirmAll L C s ys∧J ys V)∨(∃pre,FirmPre L C s pre∧Jx pre V)):=by
 have h60:=((Lc.lace_iff L).1 hlc).1;have c0:W.cell? ⟨Bl,0,none⟩=some (.slice (some ⟨g,off,none⟩) L.length cap):=cell_of hBl;have c1:W.cell? ⟨Bs,0,none⟩=some (.int .i64 s):=cell_of hBs;have y0:W.cell? ⟨Bb,0,none⟩=some (.int .i64 (Ch.leadI C 0)):=by simp [World.cell?,hBb]
 have y1:W.cell? ⟨Bb,1,none⟩=some (.int .i64 (Ch.leadI C 1)):=by simp [World.cell?,hBb]
 have y2:W.cell? ⟨Bb,2,none⟩=some (.int .i64 (Ch.leadI C 2)):=by simp [World.cell?,hBb]
 have y3:W.cell? ⟨Bb,3,none⟩=some (.int .i64 (Ch.leadI C 3)):=by simp [World.cell?,hBb]
 have y4:W.cell? ⟨Bb,4,none⟩=some (.int .i64 (Ch.leadI C 4)):=by simp [World.cell?,hBb]
 have y5:W.cell? ⟨Bb,5,none⟩=some (.int .i64 (Ch.leadI C 5)):=by simp [World.cell?,hBb]
 have y6:W.cell? ⟨Bb,6,none⟩=some (.int .i64 (Ch.leadI C 6)):=by simp [World.cell?,hBb]
 have hwait:=waitingOf g off cap L C s W hlc hc (by omega) hr h0 h1 hd;obtain⟨Q,HQ⟩:∃Q:World→Prop,Q=fun V=>Below n₀ W V∧V.heap[Bl]? = W.heap[Bl]?∧V.heap[Bs]? = W.heap[Bs]?:=⟨_,rfl⟩
 have hBl':Bl<W.heap.size:=(Array.getElem?_eq_some_iff.1 hBl).1;have hBs':Bs<W.heap.size:=(Array.getElem?_eq_some_iff.1 hBs).1;have HQL:Hid (∀A B:World,Q A→Below W.heap.size A B→Q B):=fun A B q hb=>by
  rw [HQ] at q ⊢;exact⟨q.1.trans (hb.mono hn0),(hb.block _ hBl').trans q.2.1,(hb.block _ hBs').trans q.2.2⟩
 have HQK:Hid (∀A B:World,Q A→KpB n₀ Bf A B→Q B):=fun A B q hb=>by
  rw [HQ] at q ⊢;refine⟨q.1.trans hb.1,?_,?_⟩
  ·rw [hBl];exact hb.2 _ _ _ _ (Ne.symm hfl) (q.2.1.trans hBl)
  ·rw [hBs];exact hb.2 _ _ _ _ (Ne.symm hfs) (q.2.2.trans hBs)
 have HQC:Hid (∀A:World,Q A→A.cell? ⟨Bl,0,none⟩=some (.slice (some ⟨g,off,none⟩) L.length cap)∧A.cell? ⟨Bs,0,none⟩=some (.int .i64 s)):=fun A q=>by
  rw [HQ] at q;exact⟨cell_of (q.2.1.trans hBl),cell_of (q.2.2.trans hBs)⟩
 have HSW:Hid (∀(k:Nat) (A:World),k<L.length→leadK C (at' L k)=true→Q A→Calls Tryz.prog 120 #[.slice (some ⟨g,off,none⟩) L.length cap,.int .i64 s,.agg #[.int .i64 k,.int .i64 (at' L k).round]] A fun e w'=>e=.returned (.bool (decide (3≤handsN L (roundS L (sealAt L s k) ((at' L k).round+2)))))∧Below A.heap.size A w'):=fun k A hk hl q=>by
  rw [HQ] at q;have hs:=q.1.size;refine sealedInItsWave g off cap L s k A hlc (by omega) (.inr ⟨g,off,rfl,by omega,fun i hi=>?_⟩) h0 h1 hk ((Ch.lead_iff C _).1 hl).1;obtain⟨_,a2⟩:=hr.on i hi;exact Sg.cellsK_at a2 q.1 hg
 have HNX:Hid (∀(r hp m:Nat) (pre:List Nat) (D:Nat→Int × Int) (A:World),r<W.heap.size→m+1≤1048576→Wt W.heap.size r hp (m+1) A D→J pre A∧Q A→Calls Tryz.prog 119 #[.pointer (some ⟨hp,0,none⟩)] A fun e w'=>e=.returned (.agg #[.int .i64 (D 0).1,.int .i64 (D 0).2])∧Wt W.heap.size r hp m w' (Hp.popT ltL m D)∧(J pre w'∧Q w')):=fun r hp m pre D A hr' hm hw hq=>
  (next W.heap.size r hp m hr' (fun V=>J pre V∧Q V) (fun X Y q hb=>⟨hJL pre X Y q.1 hb,HQL.out X Y q.2 hb⟩) D A hm hw hq)
 have HJL:Hid (∀q,Ov.Low W.heap.size (J q)):=hJL;have HY:Hid _:=hY;have HQ0:Hid (Q W):=by show Q W;rw [HQ];exact⟨Below.refl _ _,rfl,rfl⟩
 clear hr hBl hBb hBs hc HQ hJL hY hlc;refine callsIn_of_wp Tryz.func116 rfl trivial ?_ rfl;simp only [Tryz.ntmps116,List.size_toArray,List.length_cons,List.length_nil,Nat.reduceAdd,Nat.reduceSub,Array.replicate_succ,Array.replicate_zero,List.push_toArray,List.append_toArray,List.nil_append,List.cons_append];gi_wp2_with (first | (refine⟨trivial,?_⟩;gi_at_call 117;refine(callsIn_wide.2 hwait).mono ?_;rintro e w1 ⟨hp,m,D,rfl,hm,hw,hhe,hho,hb1⟩))
 have HW1:Hid (Wt W.heap.size g hp m w1 D):=hw;have HI1:Hid (Inv L C s m D []):=inv_start h60 h0 h1 hm hhe hho;have HJ1:Hid (J [] w1∧Q w1):=⟨HJL.out [] W w1 hJ0 hb1,HQL.out W w1 HQ0.out hb1⟩
 clear hw hhe hho hb1 hwait hJ0 HQ0 c0 c1 y0 y1 y2 y3 y4 y5 y6 hm;gi_loopw [6] (fun _ wr=>∃(m:Nat) (D:Nat→Int × Int) (pre:List Nat),Hid (Wt W.heap.size g hp m wr D)∧Hid (Inv L C s m D pre)∧Hid (J pre wr∧Q wr)) (fun _ wr=>lenAt hp wr)
 case atStart=>exact⟨m,D,[],HW1,HI1,HJ1⟩
 case round=>
  obtain⟨m,D,pre,HW,HI,HJ⟩:=hrel;clear HW1 HI1 HJ1;have HLE:Hid (lenAt hp wr=m):=lenAt_eq HW.out;obtain⟨gw,cw,cv⟩:∃gw cw,wr.cell? ⟨hp,0,none⟩=some (.slice (some ⟨gw,0,none⟩) m cw):=by
   obtain⟨_,gw,cw,hh,_⟩:=HW.out;exact⟨gw,cw,cell_of hh⟩
  cases m with
  | zero=>
   have HD:Hid (FirmAll L C s pre):=inv_done HI.out;clear HI HW HLE;gi_wp2_with (first | (refine⟨trivial,?_⟩;gi_at_call 118;refine(callsIn_wide.2 (len _ _ _ _)).mono ?_;rintro e w' ⟨rfl,rfl⟩))
   go_end0;exact⟨⟨_,rfl⟩,.inl ⟨pre,HD.out,HJ.out.1⟩⟩
  | succ m=>
   obtain⟨k,hk,hbk,hlk,ek⟩:=HI.out.el 0 (by omega);have hml:m+1≤60:=by have:=HI.out.len;omega
   have hnx:=HNX.out g hp m pre D wr (by omega) (by omega) HW.out HJ.out;rw [ek] at hnx;dsimp only at hnx;have HFN:Hid (firmN L C s k=decide (3≤handsN L (roundS L (sealAt L s k) ((at' L k).round+2)))):=by show _=_;unfold Ch.firmN;rw [hbk,hlk];rfl
   have HSK:Hid (firmN L C s k=false→Inv L C s m (Hp.popT ltL m D) pre):=inv_skip HI.out ek;have HTA:Hid (firmN L C s k=true→Inv L C s m (Hp.popT ltL m D) (pre++[k])):=inv_take HI.out hk ek;have HSL:Hid (∀A,Q A→Calls Tryz.prog 120 #[.slice (some ⟨g,off,none⟩) L.length cap,.int .i64 s,.agg #[.int .i64 k,.int .i64 (at' L k).round]] A fun e w'=>e=.returned (.bool (decide (3≤handsN L (roundS L (sealAt L s k) ((at' L k).round+2)))))∧Below A.heap.size A w'):=fun A q=>HSW.out k A hk hlk q
   have hpl:pre.length<60:=by have:=HI.out.len;omega
   have hm0:(0:Int)<(m:Int)+1:=by omega
   have hmc:((m+1:Nat):Int)=(m:Int)+1:=by omega
   clear hlk hbk HI ek HNX HSW HJ HW;generalize decide (3≤handsN L (roundS L (sealAt L s k) ((at' L k).round+2)))=dd at HFN HSL;generalize (at' L k).round=kr at hnx HSL;have HAL:Hid (∀w2:World,Wt W.heap.size g hp m w2 (Hp.popT ltL m D)→J pre w2∧Q w2→(w2.alloc (.cells #[.int .i64 k,.int .i64 kr] 148)).cell? ⟨Bl,0,none⟩=some (.slice (some ⟨g,off,none⟩) L.length cap)∧(w2.alloc (.cells #[.int .i64 k,.int .i64 kr] 148)).cell? ⟨Bs,0,none⟩=some (.int .i64 s)∧Hid (Wt W.heap.size g hp m (w2.alloc (.cells #[.int .i64 k,.int .i64 kr] 148)) (Hp.popT ltL m D)∧J pre (w2.alloc (.cells #[.int .i64 k,.int .i64 kr] 148))∧Q (w2.alloc (.cells #[.int .i64 k,.int .i64 kr] 148)))):=fun w2 h1 h2=>by
    have hlt:=wt_lt h1;have hb:Below W.heap.size w2 (w2.alloc (.cells #[.int .i64 k,.int .i64 kr] 148)):=(Below.refl _ _).alloc (by omega) _;have hq:=HQL.out _ _ h2.2 hb;exact⟨(HQC.out _ hq).1,(HQC.out _ hq).2,wt_alloc h1 _,HJL.out pre _ _ h2.1 hb,hq⟩
   have HST:Hid (∀A B:World,Wt W.heap.size g hp m A (Hp.popT ltL m D)∧J pre A∧Q A→Below A.heap.size A B→Wt W.heap.size g hp m B (Hp.popT ltL m D)∧J pre B∧Q B):=fun A B q hb=>by
    have hlt:=wt_lt q.1;have hb':Below W.heap.size A B:=hb.mono (by omega);exact⟨wt_below q.1 hb,HJL.out pre _ _ q.2.1 hb',HQL.out _ _ q.2.2 hb'⟩
   have HLN:Hid (∀A:World,Wt W.heap.size g hp m A (Hp.popT ltL m D)→lenAt hp A<lenAt hp wr):=fun A q=>by rw [lenAt_eq q,HLE.out];omega
   cases dd
   ·have HI2:Hid (Inv L C s m (Hp.popT ltL m D) pre):=HSK.out HFN.out;clear HSK HTA HFN HLE HY;gi_wp2_with (first | (refine⟨trivial,?_⟩;gi_at_call 118;refine(callsIn_wide.2 (len _ _ _ _)).mono ?_;rintro e wl ⟨rfl,rfl⟩) | (refine⟨trivial,?_⟩;gi_at_call 119;refine(callsIn_wide.2 hnx).mono ?_;rintro e w2 ⟨rfl,hw2,hq2⟩;have HA:=HAL.out w2 hw2 hq2;have ca:=HA.1;have cb:=HA.2.1;have HA3:=HA.2.2) | (refine⟨trivial,?_⟩;gi_at_call 120;refine(callsIn_wide.2 (HSL.out _ HA3.out.2.2)).mono ?_;rintro e w3 ⟨rfl,hb3⟩;have HR3:=HST.out _ _ HA3.out hb3))
    refine⟨fun f hf=>(by cases hf),?_⟩;gi_wp2
    go_roundw
    case rel=>exact⟨m,_,pre,HR3.1,HI2,HR3.2⟩
    case measure=>exact HLN.out _ HR3.1
   ·have HI2:Hid (Inv L C s m (Hp.popT ltL m D) (pre++[k])):=HTA.out HFN.out;have HYK:Hid (∀V,J pre V→YieldAt Fence.wide (n-1) Tryz.prog l #[.int .i64 ((k:Nat):Int)] V fun e V'=>(e=.returned (.bool true)∧J (pre++[k]) V'∧KpB n₀ Bf V V')∨(e=.returned (.bool false)∧Jx (pre++[k]) V')):=fun V q=>HY.out pre k V q hpl
    have HKC:Hid (∀w2 w3:World,Wt W.heap.size g hp m w2 (Hp.popT ltL m D)→Below (w2.alloc (.cells #[.int .i64 k,.int .i64 kr] 148)).heap.size (w2.alloc (.cells #[.int .i64 k,.int .i64 kr] 148)) w3→w3.cell? ⟨w2.heap.size,0,none⟩=some (.int .i64 k)):=fun w2 w3 _ hb=>(hb.cell (p:=⟨w2.heap.size,0,none⟩) (by simp)).trans (by simp)
    clear HSK HTA HFN HLE HY;gi_wp2_with (first | (refine⟨trivial,?_⟩;gi_at_call 118;refine(callsIn_wide.2 (len _ _ _ _)).mono ?_;rintro e wl ⟨rfl,rfl⟩) | (refine⟨trivial,?_⟩;gi_at_call 119;refine(callsIn_wide.2 hnx).mono ?_;rintro e w2 ⟨rfl,hw2,hq2⟩;have HA:=HAL.out w2 hw2 hq2;have ca:=HA.1;have cb:=HA.2.1;have HA3:=HA.2.2))
    refine⟨trivial,(callsIn_wide.2 (HSL.out _ HA3.out.2.2)).mono ?_⟩;rintro e w3 ⟨rfl,hb3⟩;have HR3:Hid _:=HST.out _ _ HA3.out hb3;have ck:=HKC.out _ _ hw2 hb3;obtain⟨fn,tmps,assign,body,hy,hR⟩:=HYK.out w3 HR3.out.2.1;clear hb3 HA3 HA ca cb hw2 hq2 hnx;gi_wp2_with fail
    refine hR.mono ?_;rintro e w4 (⟨rfl,hJ4,hk4⟩ | ⟨rfl,hJx4⟩)
    ·have HW4:Hid (Wt W.heap.size g hp m w4 (Hp.popT ltL m D)):=wt_kpB HR3.out.1 hBf hk4;have HQ4:Hid (J (pre++[k]) w4∧Q w4):=⟨hJ4,HQK.out _ _ HR3.out.2.2 hk4⟩
     clear hJ4 hk4 hR hy HR3 ck;gi_wp2
     go_roundw
     case rel=>exact⟨m,_,_,HW4,HI2,HQ4⟩
     case measure=>exact HLN.out _ HW4.out
    ·have HP4:Hid (FirmPre L C s (pre++[k])):=inv_pre HI2.out;clear hR hy HR3 ck;gi_wp2
     refine bodyPost_ret (results_none rfl _ _ _) rfl ?_;exact⟨⟨_,rfl⟩,.inr ⟨pre++[k],HP4.out,hJx4⟩⟩
end Fw
namespace Fw
open Kn (K okK)
open Bit (bit withB)
open Lc (at' RdK WordsOk laceB setB handsN roundS)
open Ch (leadK firmN sealAt)
theorem top_last{L:List K}{C:List Int}{s:Int}{k:Nat}(h:IsTop L C s k):Tl.lastT L (Tl.firmL L C s L.length)=(k:Int):=by
 obtain⟨hk,hf,ht⟩:=h;rcases Tl.last_spec L C s L.length with⟨_,hn⟩ | ⟨f,e,hfl,hff,hft⟩
 ·rw [hn k hk] at hf;cases hf
 ·have a:=ht f hfl hff;have b:=hft k hk hf;have c:=a.2 (by omega);have d:=b.2 (by omega);rw [e];omega
theorem none_last{L:List K}{C:List Int}{s:Int}(h:FirmAll L C s []):Tl.lastT L (Tl.firmL L C s L.length)=-1:=by
 rcases Tl.last_spec L C s L.length with⟨e,_⟩ | ⟨f,_,hfl,hff,_⟩
 ·exact e
 ·have:=(h f).2 ⟨hfl,hff⟩;simp at this
theorem firm_stops(n:Nat)(hn1:1≤n)(Bl Bb Bs n₀ Bf g off cap:Nat)(L:List K)(C:List Int)(s:Int)(hlc:laceB L=true)(hc:Rm.coinsB C=true)(h0:0≤s)(h1:s<1152921504606846976)(hd:s / 2 ^ L.length=0)(hg:g<n₀)(w:World)
  (hn0:n₀≤w.heap.size) (hBf:Bf<w.heap.size) (hfl:Bf≠Bl) (hfb:Bf≠Bb) (hfs:Bf≠Bs)
  (hBl:w.heap[Bl]? = some (.cells #[.slice (some ⟨g,off,none⟩) L.length cap] 55 (0,0))) (hBb:w.heap[Bb]? = some (.cells #[.int .i64 (Ch.leadI C 0),.int .i64 (Ch.leadI C 1),.int .i64 (Ch.leadI C 2),.int .i64 (Ch.leadI C 3),.int .i64 (Ch.leadI C 4),.int .i64 (Ch.leadI C 5),.int .i64 (Ch.leadI C 6)] 58 (0,0))) (hBs:w.heap[Bs]? = some (.cells #[.int .i64 s] 62 (0,0)))
  (hr:RdK w (some ⟨g,off,none⟩) L) :
  Ov.SeqLow Fence.wide n Tryz.prog 116 #[.pointer (some ⟨Bl,0,none⟩),.pointer (some ⟨Bb,0,none⟩),.pointer (some ⟨Bs,0,none⟩)] (fun x:Nat=>#[Value.int .i64 (x:Int)]) (KpB n₀ Bf) (FirmAll L C s) (FirmPre L C s) 60 w:=fun l J Jx W hW hJ _ hY hJ0=>
 firmOnes1 n hn1 l Bl Bb Bs n₀ Bf g off cap L C s hlc hc h0 h1 hd hg J Jx W hJ (Nat.le_trans hn0 hW.size) (Nat.lt_of_lt_of_le hBf hW.size) hfl hfb hfs hY
  ((hW.block _ (Array.getElem?_eq_some_iff.1 hBl).1).trans hBl) ((hW.block _ (Array.getElem?_eq_some_iff.1 hBb).1).trans hBb) ((hW.block _ (Array.getElem?_eq_some_iff.1 hBs).1).trans hBs) (hr.below hW) hJ0
theorem firmOnes(a:Option Addr)(len cap:Nat)(y0 y1 y2 y3 y4 y5 y6 s:Int)(w:World):Calls Tryz.prog 96 #[.slice a len cap,.agg #[.int .i64 y0,.int .i64 y1,.int .i64 y2,.int .i64 y3,.int .i64 y4,.int .i64 y5,.int .i64 y6],.int .i64 s] w fun e w'=>
  e=.returned (.func (.func 116) #[] #[.pointer (some ⟨w.heap.size,0,none⟩),.pointer (some ⟨w.heap.size+1,0,none⟩),.pointer (some ⟨w.heap.size+2,0,none⟩)])∧w'=((w.alloc (.cells #[.slice a len cap] 55)).alloc (.cells #[.int .i64 y0,.int .i64 y1,.int .i64 y2,.int .i64 y3,.int .i64 y4,.int .i64 y5,.int .i64 y6] 58)).alloc (.cells #[.int .i64 s] 62):=by
 go_enter Tryz.func96,Tryz.ntmps96
 go_wp2;go_ret;exact⟨rfl,rfl⟩
theorem boxes(w:World)(o1 o2 o3:Obj):((((w.alloc o1).alloc o2).alloc o3).heap[w.heap.size]? = some o1∧(((w.alloc o1).alloc o2).alloc o3).heap[w.heap.size+1]? = some o2∧(((w.alloc o1).alloc o2).alloc o3).heap[w.heap.size+2]? = some o3)∧Below w.heap.size w (((w.alloc o1).alloc o2).alloc o3)∧(((w.alloc o1).alloc o2).alloc o3).heap.size=w.heap.size+3:=by
 have h1:=World.alloc_heap_new w o1;have h2:=World.alloc_heap_new (w.alloc o1) o2;have h3:=World.alloc_heap_new ((w.alloc o1).alloc o2) o3;simp only [World.size_alloc] at h2 h3;refine⟨⟨?_,?_,h3⟩,(((Below.refl _ w).alloc (Nat.le_refl _) _).alloc (by simp) _).alloc (by simp;omega) _,by simp⟩
 ·exact(Below.heap_alloc _ _ _ (by simp;omega)).trans ((Below.heap_alloc _ _ _ (by simp)).trans h1)
 ·exact(Below.heap_alloc _ _ _ (by simp)).trans h2
theorem lastFirm(g off cap:Nat)(L:List K)(C:List Int)(s:Int)(w:World)(hlc:laceB L=true)(hc:Rm.coinsB C=true)(hg:g<w.heap.size)(hr:RdK w (some ⟨g,off,none⟩) L)(h0:0≤s)(h1:s<1152921504606846976)(hd:s / 2 ^ L.length=0) :
   Calls Tryz.prog 66 #[.slice (some ⟨g,off,none⟩) L.length cap,.agg #[.int .i64 (Ch.leadI C 0),.int .i64 (Ch.leadI C 1),.int .i64 (Ch.leadI C 2),.int .i64 (Ch.leadI C 3),.int .i64 (Ch.leadI C 4),.int .i64 (Ch.leadI C 5),.int .i64 (Ch.leadI C 6)],.int .i64 s] w fun e w'=>e=.returned (.int .i64 (Tl.lastT L (Tl.firmL L C s L.length)))∧Below w.heap.size w w':=by
 have q7:=(Ch.rowI_seven w 58 (fun i=>Ch.leadI C (i:Int)))
 have y0:=q7.rd 0 (by omega);have y1:=q7.rd 1 (by omega);have y2:=q7.rd 2 (by omega);have y3:=q7.rd 3 (by omega);have y4:=q7.rd 4 (by omega);have y5:=q7.rd 5 (by omega);have y6:=q7.rd 6 (by omega);clear q7;refine(callsIn_wide (n:=3)).1 ?_;refine callsIn_of_wp_marks Tryz.func66 rfl trivial ?_ rfl;simp only [Tryz.ntmps66,List.size_toArray,List.length_cons,List.length_nil,Nat.reduceAdd,Nat.reduceSub,Array.replicate_succ,Array.replicate_zero,List.push_toArray,List.append_toArray,List.nil_append,List.cons_append];gi_wp2_with (refine⟨trivial,?_⟩;gi_at_call 96;refine(callsIn_wide.2 (firmOnes _ _ _ _ _ _ _ _ _ _ _ _)).mono ?_;rintro e w' ⟨rfl,rfl⟩)
 clear y0 y1 y2 y3 y4 y5 y6;have hB2:Below w.heap.size w ((w.alloc (.cells #[.int .i64 (Ch.leadI C 0),.int .i64 (Ch.leadI C 1),.int .i64 (Ch.leadI C 2),.int .i64 (Ch.leadI C 3),.int .i64 (Ch.leadI C 4),.int .i64 (Ch.leadI C 5),.int .i64 (Ch.leadI C 6)] 58)).alloc (.cells #[.int .i64 0] 2)):=((Below.refl _ w).alloc (Nat.le_refl _) _).alloc (by simp) _;have hf2:((w.alloc (.cells #[.int .i64 (Ch.leadI C 0),.int .i64 (Ch.leadI C 1),.int .i64 (Ch.leadI C 2),.int .i64 (Ch.leadI C 3),.int .i64 (Ch.leadI C 4),.int .i64 (Ch.leadI C 5),.int .i64 (Ch.leadI C 6)] 58)).alloc (.cells #[.int .i64 0] 2)).heap[w.heap.size+1]? = some (.cells #[.int .i64 0] 2 (0,0)):=by
   have:=World.alloc_heap_new (w.alloc (.cells #[.int .i64 (Ch.leadI C 0),.int .i64 (Ch.leadI C 1),.int .i64 (Ch.leadI C 2),.int .i64 (Ch.leadI C 3),.int .i64 (Ch.leadI C 4),.int .i64 (Ch.leadI C 5),.int .i64 (Ch.leadI C 6)] 58)) (.cells #[.int .i64 0] 2);simpa using this
 have hs2:((w.alloc (.cells #[.int .i64 (Ch.leadI C 0),.int .i64 (Ch.leadI C 1),.int .i64 (Ch.leadI C 2),.int .i64 (Ch.leadI C 3),.int .i64 (Ch.leadI C 4),.int .i64 (Ch.leadI C 5),.int .i64 (Ch.leadI C 6)] 58)).alloc (.cells #[.int .i64 0] 2)).heap.size=w.heap.size+2:=by simp
 generalize (w.alloc (.cells #[.int .i64 (Ch.leadI C 0),.int .i64 (Ch.leadI C 1),.int .i64 (Ch.leadI C 2),.int .i64 (Ch.leadI C 3),.int .i64 (Ch.leadI C 4),.int .i64 (Ch.leadI C 5),.int .i64 (Ch.leadI C 6)] 58)).alloc (.cells #[.int .i64 0] 2)=w2 at hB2 hf2 hs2 ⊢;obtain⟨⟨k1,k2,k3⟩,hB5,hs5⟩:=boxes w2 (.cells #[.slice (some ⟨g,off,none⟩) L.length cap] 55) (.cells #[.int .i64 (Ch.leadI C 0),.int .i64 (Ch.leadI C 1),.int .i64 (Ch.leadI C 2),.int .i64 (Ch.leadI C 3),.int .i64 (Ch.leadI C 4),.int .i64 (Ch.leadI C 5),.int .i64 (Ch.leadI C 6)] 58) (.cells #[.int .i64 s] 62);generalize ((w2.alloc (.cells #[.slice (some ⟨g,off,none⟩) L.length cap] 55)).alloc (.cells #[.int .i64 (Ch.leadI C 0),.int .i64 (Ch.leadI C 1),.int .i64 (Ch.leadI C 2),.int .i64 (Ch.leadI C 3),.int .i64 (Ch.leadI C 4),.int .i64 (Ch.leadI C 5),.int .i64 (Ch.leadI C 6)] 58)).alloc (.cells #[.int .i64 s] 62)=w5 at k1 k2 k3 hB5 hs5 ⊢;rw [hs2] at k1 k2 k3 hB5 hs5;have hf5:w5.heap[w.heap.size+1]? = some (.cells #[.int .i64 0] 2 (0,0)):=(hB5.block _ (by omega)).trans hf2;have hBw:Below w.heap.size w w5:=hB2.trans (hB5.mono (by omega));refine Ov.over rfl (by omega) (gf:=116) (lb:=#[.pointer (some ⟨w.heap.size+1+1,0,none⟩),.pointer (some ⟨w.heap.size+1+1+1,0,none⟩),.pointer (some ⟨w.heap.size+1+1+2,0,none⟩)]) rfl trivial (enters_of Tryz.func116 (by kernel_rfl) rfl)
   (firm_stops 2 (by omega) (w.heap.size+1+1) (w.heap.size+1+1+1) (w.heap.size+1+1+2) w.heap.size (w.heap.size+1) g off cap L C s hlc hc h0 h1 hd hg w5 (by omega) (by omega) (by omega) (by omega) (by omega) k1 k2 k3 (hr.below hBw)) kpB_t (fun A r r' h=>kpB_b (by omega) A r r' h) (fun _=>rfl)
   (fun pre W=>pre=[]∧W.heap[w.heap.size+1]? = some (.cells #[.int .i64 0] 2 (0,0))∧Below w.heap.size w W)
   (fun c pre W=>c=.ret∧∃k:Nat,pre=[k]∧W.heap[w.heap.size+1]? = some (.cells #[.int .i64 k] 2 (0,0))∧Below w.heap.size w W)
   (fun q A B h hb=>⟨h.1,(hb.block _ (by omega)).trans h.2.1,h.2.2.trans (hb.mono (by omega))⟩)
   (fun c q A B h hb=>by
     obtain⟨p1,k,p2,p3,p4⟩:=h;exact⟨p1,k,p2,(hb.block _ (by omega)).trans p3,p4.trans (hb.mono (by omega))⟩)
   ⟨rfl,hf5,hBw⟩
   (fun x=>{ tmps:=#[.slice (some ⟨g,off,none⟩) L.length cap,.agg #[.int .i64 (Ch.leadI C 0),.int .i64 (Ch.leadI C 1),.int .i64 (Ch.leadI C 2),.int .i64 (Ch.leadI C 3),.int .i64 (Ch.leadI C 4),.int .i64 (Ch.leadI C 5),.int .i64 (Ch.leadI C 6)],.int .i64 s,undef,.pointer (some ⟨w.heap.size,0,none⟩),undef,.pointer (some ⟨w.heap.size+1,0,none⟩),.int .i64 (x:Int),.slice (some ⟨g,off,none⟩) L.length cap,.agg #[.int .i64 (Ch.leadI C 0),.int .i64 (Ch.leadI C 1),.int .i64 (Ch.leadI C 2),.int .i64 (Ch.leadI C 3),.int .i64 (Ch.leadI C 4),.int .i64 (Ch.leadI C 5),.int .i64 (Ch.leadI C 6)],.int .i64 s,.func (.func 116) #[] #[.pointer (some ⟨w.heap.size+1+1,0,none⟩),.pointer (some ⟨w.heap.size+1+1+1,0,none⟩),.pointer (some ⟨w.heap.size+1+1+2,0,none⟩)],.int .i64 (x:Int),undef],defers:=[] }) ?assign ?body ?done ?stop
 case assign=>
   intro l x W K hK;gi_wp2
   exact hK
 case body=>
   rintro l pre x W ⟨rfl,hc0,hB⟩ _;have cc:=cell_of hc0;have cf:=frozen_of hc0;gi_wp2
   exact⟨KeepsOthers.setCell _ _ _,rfl,x,rfl,one_setCell hc0,hB.setCell (p:=⟨w.heap.size+1,0,none⟩) (by simp) _⟩
 case done=>
   rintro ys W hS ⟨rfl,hc0,hB⟩ hK;have hT:=none_last hS;have cc:=cell_of hc0;have cf:=frozen_of hc0;gi_wp2
   have hK':=(KeepsOthers.setCell W ⟨w.heap.size+1,0,none⟩ (.int .i64 (-1))).same _ _ hK rfl;refine⟨by simp,.inl ⟨_,_,rfl,run_takeDeferred hK',?_⟩⟩;have hc5:((W.setCell ⟨w.heap.size+1,0,none⟩ (.int .i64 (-1))).putObj w5.heap.size (.deferred none)).cell? ⟨w.heap.size+1,0,none⟩=some (.int .i64 (-1)):=cell_of ((World.putObj_heap_other (by omega)).trans (one_setCell hc0));refine⟨.int .i64 (-1),?_,by rw [hT],(hB.setCell (p:=⟨w.heap.size+1,0,none⟩) (by simp) _).trans ⟨rfl,rfl,rfl,by simp,fun j hj=>World.putObj_heap_other (by omega)⟩⟩;simp [results,Tryz.f66,go_sem,hc5]
 case stop=>
   rintro c pre W ⟨k,rest,rfl,hT⟩ ⟨rfl,k',ek,hc0,hB⟩ hK;injection ek with ek _;subst ek;have hL:=top_last hT;gi_wp2
   refine⟨by simp,.inl ⟨_,_,rfl,run_takeDeferred hK,?_⟩⟩;have hc5:(W.putObj w5.heap.size (.deferred none)).cell? ⟨w.heap.size+1,0,none⟩=some (.int .i64 (k:Int)):=cell_of ((World.putObj_heap_other (by omega)).trans hc0);refine⟨.int .i64 (k:Int),?_,by rw [hL],hB.trans ⟨rfl,rfl,rfl,by simp,fun j hj=>World.putObj_heap_other (by omega)⟩⟩;simp [results,Tryz.f66,go_sem,hc5]
end Fw
namespace Fw
open Kn (K okK)
open Bit (bit withB)
open Lc (at' RdK WordsOk laceB setB handsN roundS)
open Ch (leadK firmN sealAt)
open Sg (closedB)
theorem closed_in{L:List K}{s:Int}(h:closedB L s=true):(0≤s∧s<1152921504606846976)∧s / 2 ^ L.length=0:=by
 unfold Sg.closedB at h;rw [Bool.and_eq_true] at h;obtain⟨hl,q0,q1,qd,_,_⟩:=Lc.setB_parts h.1;exact⟨⟨q0,q1⟩,qd⟩
end Fw
namespace Tp
open Kn (K okK)
open Lc (at' RdK WordsOk laceB)
open Tl (taleI taleL outI outL)
open Sg (closedB)
theorem nil_nums(w w1:World)(hb:Below w.heap.size w w1):Sg.NumsPost [] w (.returned (.slice (some ⟨w1.heap.size,0,none⟩) 0 0)) (w1.alloc (.cells #[] 2)):=by
 refine⟨some ⟨w1.heap.size,0,none⟩,0,rfl,?_,hb.alloc hb.size _⟩;obtain⟨a1,a2⟩:=Memb.own_empty w1;refine⟨a1,?_⟩;rcases a2 with a2 | ⟨g2,c2,cur,e1,e2,rest⟩
 ·exact .inl a2
 ·exact .inr ⟨g2,c2,cur,e1,Nat.le_trans hb.size e2,rest⟩
theorem out(g off cap:Nat)(L:List K)(C:List Int)(s:Int)(w:World)(hlc:laceB L=true)(hc:Rm.coinsB C=true)(hcl:closedB L s=true)(hg:g<w.heap.size)(hr:RdK w (some ⟨g,off,none⟩) L) :
  Calls Tryz.prog 33 #[.slice (some ⟨g,off,none⟩) L.length cap,.agg #[.int .i64 (Ch.leadI C 0),.int .i64 (Ch.leadI C 1),.int .i64 (Ch.leadI C 2),.int .i64 (Ch.leadI C 3),.int .i64 (Ch.leadI C 4),.int .i64 (Ch.leadI C 5),.int .i64 (Ch.leadI C 6)],.int .i64 s] w (Sg.NumsPost (outL L C s) w):=by
 have HTA:Hid (∀(k:Nat) (W:World),k<L.length→Below w.heap.size w W→Calls Tryz.prog 67 #[.slice (some ⟨g,off,none⟩) L.length cap,.agg #[.int .i64 (Ch.leadI C 0),.int .i64 (Ch.leadI C 1),.int .i64 (Ch.leadI C 2),.int .i64 (Ch.leadI C 3),.int .i64 (Ch.leadI C 4),.int .i64 (Ch.leadI C 5),.int .i64 (Ch.leadI C 6)],.int .i64 (k:Int)] W (Sg.NumsPost (taleL L C (k:Int)) W)):=fun k W hk hW=>tale g off cap L C k W hlc hc (Nat.lt_of_lt_of_le hg hW.size) (hr.below hW) hk
 obtain⟨⟨q0,q1⟩,qd⟩:=Fw.closed_in hcl;have HB0:Hid (Below w.heap.size w (w.alloc (.cells #[.int .i64 (Ch.leadI C 0),.int .i64 (Ch.leadI C 1),.int .i64 (Ch.leadI C 2),.int .i64 (Ch.leadI C 3),.int .i64 (Ch.leadI C 4),.int .i64 (Ch.leadI C 5),.int .i64 (Ch.leadI C 6)] 58))):=(Below.refl _ _).alloc (Nat.le_refl _) _;have HRW:Hid (Db.RowI (w.alloc (.cells #[.int .i64 (Ch.leadI C 0),.int .i64 (Ch.leadI C 1),.int .i64 (Ch.leadI C 2),.int .i64 (Ch.leadI C 3),.int .i64 (Ch.leadI C 4),.int .i64 (Ch.leadI C 5),.int .i64 (Ch.leadI C 6)] 58)) w.heap.size 7 (fun i=>Ch.leadI C (i:Int))):=Ch.rowI_seven w 58 (fun i=>Ch.leadI C (i:Int));have HWS:Hid (w.heap.size<(w.alloc (.cells #[.int .i64 (Ch.leadI C 0),.int .i64 (Ch.leadI C 1),.int .i64 (Ch.leadI C 2),.int .i64 (Ch.leadI C 3),.int .i64 (Ch.leadI C 4),.int .i64 (Ch.leadI C 5),.int .i64 (Ch.leadI C 6)] 58)).heap.size):=by show _<_;simp
 have hlf:=Fw.lastFirm g off cap L C s (w.alloc (.cells #[.int .i64 (Ch.leadI C 0),.int .i64 (Ch.leadI C 1),.int .i64 (Ch.leadI C 2),.int .i64 (Ch.leadI C 3),.int .i64 (Ch.leadI C 4),.int .i64 (Ch.leadI C 5),.int .i64 (Ch.leadI C 6)] 58)) hlc hc (Nat.lt_of_lt_of_le hg HB0.out.size) (hr.below HB0.out) q0 q1 qd;generalize hv:w.alloc (.cells #[.int .i64 (Ch.leadI C 0),.int .i64 (Ch.leadI C 1),.int .i64 (Ch.leadI C 2),.int .i64 (Ch.leadI C 3),.int .i64 (Ch.leadI C 4),.int .i64 (Ch.leadI C 5),.int .i64 (Ch.leadI C 6)] 58)=V at HB0 HRW HWS hlf;have HV:Hid (w.alloc (.cells #[.int .i64 (Ch.leadI C 0),.int .i64 (Ch.leadI C 1),.int .i64 (Ch.leadI C 2),.int .i64 (Ch.leadI C 3),.int .i64 (Ch.leadI C 4),.int .i64 (Ch.leadI C 5),.int .i64 (Ch.leadI C 6)] 58)=V):=hv;have p0:=HRW.out.rd 0 (by omega);have p1:=HRW.out.rd 1 (by omega);have p2:=HRW.out.rd 2 (by omega);have p3:=HRW.out.rd 3 (by omega);have p4:=HRW.out.rd 4 (by omega);have p5:=HRW.out.rd 5 (by omega);have p6:=HRW.out.rd 6 (by omega);have HLS:Hid (_):=Tl.last_spec L C s L.length;clear hv hlc hc hcl hg hr q0 q1 qd;go_enter Tryz.func33,Tryz.ntmps33
 go_wp2_with fail
 rw [HV.out];clear HV;go_wp2_with fail
 refine hlf.mono ?_;rintro e w1 ⟨rfl,hb1⟩;have HB1:Hid (Below w.heap.size w w1):=HB0.out.trans (hb1.mono HB0.out.size);have HR1:Hid (_):=Fw.rowI_kept HRW.out hb1;clear hlf hb1 p0 p1 p2 p3 p4 p5 p6;rcases HLS.out with⟨q,_⟩ | ⟨f,q,hf,_⟩
 ·have HT:Hid (outL L C s=[]):=Tl.out_none (by rw [q];omega);rw [q];have hp0:=nil_nums w w1 HB1.out;have HP:Hid (_):=hp0;clear q hp0 HLS;go_wp2;go_ret;rw [HT.out];exact HP.out
 ·have HT:Hid (outL L C s=taleL L C (f:Int)):=(Tl.out_some (by rw [q];omega)).trans (by rw [q]);rw [q];have hta:=HTA.out f w1 hf HB1.out;have p0:=HR1.out.rd 0 (by omega);have p1:=HR1.out.rd 1 (by omega);have p2:=HR1.out.rd 2 (by omega);have p3:=HR1.out.rd 3 (by omega);have p4:=HR1.out.rd 4 (by omega);have p5:=HR1.out.rd 5 (by omega);have p6:=HR1.out.rd 6 (by omega);clear q HLS HTA;generalize taleL L C (f:Int)=tl at HT hta;go_wp2_with fail
  refine hta.mono ?_;rintro e w3 ⟨ao3,ca3,rfl,ho3,hb3⟩;have HP:Hid (Memb.Own w.heap.size w3 ao3 ca3 tl∧Below w.heap.size w w3):=⟨Ch.own_base ho3 HB1.out.size,HB1.out.trans (hb3.mono HB1.out.size)⟩
  clear hta ho3 hb3;go_wp2;go_ret;rw [HT.out];exact⟨ao3,ca3,rfl,HP.out.1,HP.out.2⟩
theorem implOutOf(g off cap:Nat)(L:List K)(ao:Option Addr)(cc:Nat)(C:List Int)(s:Int)(w:World)(hlen:L.length≤1099511627776)(hw:WordsOk L)(hs0:-9223372036854775808≤s)(hs1:s≤9223372036854775807)(hr:RdK w (some ⟨g,off,none⟩) L)(hl:C.length≤1048576)(hrd:Lst.Rd w ao C)(hao:∀c,ao=some ⟨c,0,none⟩→c<w.heap.size) :
  Calls Tryz.prog 7 #[.slice (some ⟨g,off,none⟩) L.length cap,.slice ao C.length cc,.int .i64 s] w (Sg.NumsPost (outI L C s) w):=by
 have hled:=Fw.ledLace g off cap L ao cc C w hlen hw hr hl hrd hao;clear hr hrd hao hw;go_enter Tryz.func7,Tryz.ntmps7
 go_wp2_with fail
 refine hled.mono ?_;clear hled;rintro e w1 (⟨hlc,hc,g',rfl,hg',hrg,hb1⟩ | ⟨hn,v,y0,y1,y2,y3,y4,y5,y6,rfl,hb1⟩)
 ·have HB0:Hid (Below w.heap.size w (w1.alloc (.cells #[.int .i64 (Ch.leadI C 0),.int .i64 (Ch.leadI C 1),.int .i64 (Ch.leadI C 2),.int .i64 (Ch.leadI C 3),.int .i64 (Ch.leadI C 4),.int .i64 (Ch.leadI C 5),.int .i64 (Ch.leadI C 6)] 58))):=hb1.alloc hb1.size _;have hB1:Below w1.heap.size w1 (w1.alloc (.cells #[.int .i64 (Ch.leadI C 0),.int .i64 (Ch.leadI C 1),.int .i64 (Ch.leadI C 2),.int .i64 (Ch.leadI C 3),.int .i64 (Ch.leadI C 4),.int .i64 (Ch.leadI C 5),.int .i64 (Ch.leadI C 6)] 58)):=(Below.refl _ _).alloc (Nat.le_refl _) _;have HRW:Hid (Db.RowI (w1.alloc (.cells #[.int .i64 (Ch.leadI C 0),.int .i64 (Ch.leadI C 1),.int .i64 (Ch.leadI C 2),.int .i64 (Ch.leadI C 3),.int .i64 (Ch.leadI C 4),.int .i64 (Ch.leadI C 5),.int .i64 (Ch.leadI C 6)] 58)) w1.heap.size 7 (fun i=>Ch.leadI C (i:Int))):=Ch.rowI_seven w1 58 (fun i=>Ch.leadI C (i:Int));generalize hv:w1.alloc (.cells #[.int .i64 (Ch.leadI C 0),.int .i64 (Ch.leadI C 1),.int .i64 (Ch.leadI C 2),.int .i64 (Ch.leadI C 3),.int .i64 (Ch.leadI C 4),.int .i64 (Ch.leadI C 5),.int .i64 (Ch.leadI C 6)] 58)=V at HB0 hB1 HRW;have hgV:=Nat.lt_of_lt_of_le hg' hB1.size;have hrV:=hrg.below hB1;have hcl:=Sg.closed g' 0 L.length L s V hlc hs0 hs1 hgV hrV;rw [Sg.closedB_eq L s hlc] at hcl;have HV:Hid (w1.alloc (.cells #[.int .i64 (Ch.leadI C 0),.int .i64 (Ch.leadI C 1),.int .i64 (Ch.leadI C 2),.int .i64 (Ch.leadI C 3),.int .i64 (Ch.leadI C 4),.int .i64 (Ch.leadI C 5),.int .i64 (Ch.leadI C 6)] 58)=V):=hv;clear hv hg' hrg hb1 hB1
  cases hq:closedB L s
  ·have HT:Hid (outI L C s=[]):=by show _=_;unfold Tl.outI Fm.rightB;rw [hq];rfl
   rw [hq] at hcl;clear hq hlc hc;go_wp2_with fail
   rw [HV.out];clear HV;go_wp2_with fail
   refine hcl.mono ?_;rintro e w2 ⟨rfl,hb2⟩;have HP:Hid (_):=nil_nums w w2 (HB0.out.trans (hb2.mono HB0.out.size));clear hcl hb2;go_wp2;go_ret;rw [HT.out];exact HP.out
  ·have HT:Hid (outI L C s=outL L C s):=by show _=_;unfold Tl.outI Fm.rightB;rw [hq,hc];rfl
   have HOU:Hid (∀W:World,Below V.heap.size V W→Calls Tryz.prog 33 #[.slice (some ⟨g',0,none⟩) L.length L.length,.agg #[.int .i64 (Ch.leadI C 0),.int .i64 (Ch.leadI C 1),.int .i64 (Ch.leadI C 2),.int .i64 (Ch.leadI C 3),.int .i64 (Ch.leadI C 4),.int .i64 (Ch.leadI C 5),.int .i64 (Ch.leadI C 6)],.int .i64 s] W (Sg.NumsPost (outL L C s) W)):=fun W hW=>out g' 0 L.length L C s W hlc hc hq (Nat.lt_of_lt_of_le hgV hW.size) (hrV.below hW)
   rw [hq] at hcl;clear hq hlc hc;go_wp2_with fail
   rw [HV.out];clear HV;go_wp2_with fail
   refine hcl.mono ?_;rintro e w2 ⟨rfl,hb2⟩;have HB2:Hid (Below w.heap.size w w2):=HB0.out.trans (hb2.mono HB0.out.size);have HR2:Hid _:=Fw.rowI_kept HRW.out hb2;have hou:=HOU.out w2 hb2;have p0:=HR2.out.rd 0 (by omega);have p1:=HR2.out.rd 1 (by omega);have p2:=HR2.out.rd 2 (by omega);have p3:=HR2.out.rd 3 (by omega);have p4:=HR2.out.rd 4 (by omega);have p5:=HR2.out.rd 5 (by omega);have p6:=HR2.out.rd 6 (by omega);clear hcl hb2 HOU HRW hrV hgV;generalize outL L C s=ol at HT hou;go_wp2_with fail
   refine hou.mono ?_;rintro e w3 ⟨ao3,ca3,rfl,ho3,hb3⟩;have HP:Hid (Memb.Own w.heap.size w3 ao3 ca3 ol∧Below w.heap.size w w3):=⟨Ch.own_base ho3 HB2.out.size,HB2.out.trans (hb3.mono HB2.out.size)⟩
   clear hou ho3 hb3;go_wp2;go_ret;rw [HT.out];exact⟨ao3,ca3,rfl,HP.out.1,HP.out.2⟩
 ·have HT:Hid (outI L C s=[]):=by
   show _=_;unfold Tl.outI Fm.rightB Sg.closedB
   cases hz:laceB L
   ·have:Lc.setB L s=false:=by unfold Lc.setB;rw [hz];simp
    rw [this];simp
   ·rw [hz] at hn;have hc:Rm.coinsB C=false:=by simpa using hn
    rw [hc];simp
  have HP:Hid (_):=nil_nums w (w1.alloc (.cells #[.int .i64 y0,.int .i64 y1,.int .i64 y2,.int .i64 y3,.int .i64 y4,.int .i64 y5,.int .i64 y6] 58)) (hb1.alloc hb1.size _);rw [World.size_alloc] at HP;clear hn hb1;go_wp2;go_ret;rw [HT.out];exact HP.out
end Tp
end Go.Proofs.YtbkeldfbllhlbaaGreat
