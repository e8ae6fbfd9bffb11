/-
 The walk of the program's chain: from leader to leader back, then turned round.
-/
import Derived.Test.YtbkeldfbllhlbaaGreatqzg16
import Derived.Test.YtbkeldfbllhlbaaGreatqzg18
import Derived.ScopeJumps
import Derived.WalkMore
set_option linter.unusedVariables false
set_option maxRecDepth 100000
set_option maxHeartbeats 4000000
namespace Go.Proofs.YtbkeldfbllhlbaaGreat
open Go.RowKit
section
namespace Fw
open Kn (K okK)
open Bit (bit withB)
open Lc (at' RdK WordsOk laceB setB handsN roundS)
open Ch (leadK firmN sealAt)
theorem wt_below{m0 r hp n:Nat}{W W':World}{D:Nat→Int × Int}(h:Wt m0 r hp n W D)(hb:Below W.heap.size W W'):Wt m0 r hp n W' D:=by
 obtain⟨h0,g,cap,hh,hl,hr⟩:=h;exact⟨h0,g,cap,(hb.block hp (Array.getElem?_eq_some_iff.1 hh).1).trans hh,⟨Fm.row_below hl.own hb⟩,hr⟩
theorem wt_base{m0 m1 r r' hp n:Nat}{W:World}{D:Nat→Int × Int}(h:Wt m0 r hp n W D)(hm:m1≤m0)(hr:r'<m1):Wt m1 r' hp n W D:=by
 obtain⟨h0,g,cap,hh,hl,_⟩:=wt_near (r':=r') h (by omega);have h2:=(World.ownsRow.lt hl.own g rfl).1;refine⟨⟨by omega,by omega⟩,g,cap,hh,⟨?_⟩,by omega⟩;obtain⟨q1,⟨hv,_⟩ | ⟨g',cap',cur,hv,hb',rest⟩⟩:=hl.own
 ·exact⟨q1,.inl ⟨hv,by cases hv⟩⟩
 ·exact⟨q1,.inr ⟨g',cap',cur,hv,by omega,rest⟩⟩
def Holds(L:List K)(C:List Int)(l:List Int)(n:Nat)(D:Nat→Int × Int):Prop:=∀x:Int × Int,(∃i,i<n∧D i=x)↔∃k:Nat,(k:Int)∈l∧k<L.length∧leadK C (at' L k)=true∧x=((k:Int),(at' L k).round)
theorem holds_skip{L:List K}{C:List Int}{l:List Int}{n:Nat}{D:Nat→Int × Int}(h:Holds L C l n D){p:Nat}(hl:leadK C (at' L p)=false):Holds L C (l++[(p:Int)]) n D:=fun x=>by
 rw [h x];constructor
 ·rintro⟨k,h1,h2⟩;exact⟨k,by simp [h1],h2⟩
 ·rintro⟨k,h1,h2,h3,h4⟩;rw [List.mem_append,List.mem_singleton] at h1;rcases h1 with h1 | h1
  ·exact⟨k,h1,h2,h3,h4⟩
  ·obtain rfl:k=p:=by omega
   rw [hl] at h3;cases h3
theorem holds_push{L:List K}{C:List Int}{l:List Int}{n:Nat}{D:Nat→Int × Int}(h:Holds L C l n D){p:Nat}(hp:p<L.length)(hl:leadK C (at' L p)=true):Holds L C (l++[(p:Int)]) (n+1) (Hp.pushT ltL n D ((p:Int),(at' L p).round)):=fun x=>by
 have hs:=Hp.pushT_same ltL n D ((p:Int),(at' L p).round);constructor
 ·rintro⟨i,hi,rfl⟩;obtain⟨m,hm,e⟩:=hs.fro i hi;rw [← e];by_cases hmn:m=n
  ·exact⟨p,by simp,hp,hl,by rw [if_pos hmn]⟩
  ·rw [if_neg hmn];obtain⟨k,h1,h2⟩:=(h (D m)).1 ⟨m,by omega,rfl⟩;exact⟨k,by simp [h1],h2⟩
 ·rintro⟨k,h1,h2,h3,h4⟩;rw [List.mem_append,List.mem_singleton] at h1;rcases h1 with h1 | h1
  ·obtain⟨i,hi,e⟩:=(h x).2 ⟨k,h1,h2,h3,h4⟩;obtain⟨m,hm,e2⟩:=hs.to i (by omega);rw [if_neg (by omega)] at e2;exact⟨m,hm,e2.trans e⟩
  ·obtain rfl:k=p:=by omega
   obtain⟨m,hm,e2⟩:=hs.to n (by omega);rw [if_pos rfl] at e2;exact⟨m,hm,e2.trans h4.symm⟩
theorem holds_none(L:List K)(C:List Int)(D:Nat→Int × Int):Holds L C [] 0 D:=fun x=>⟨fun⟨i,hi,_⟩=>by omega,fun⟨k,h,_⟩=>by simp at h⟩
def WaitPost(L:List K)(C:List Int)(s:Int)(r:Nat)(w:World)(e:Ending)(w':World):Prop:=
 ∃hp n D,e=.returned (.pointer (some ⟨hp,0,none⟩))∧n≤60∧Wt w.heap.size r hp n w' D∧Hp.IsHeap ltL n D∧Holds L C (Memb.memI s) n D∧Below w.heap.size w w'
theorem waitingOf(g off cap:Nat)(L:List K)(C:List Int)(s:Int)(w:World)(hlc:laceB L=true)(hc:Rm.coinsB C=true)(hg:g<w.heap.size)(hr:RdK w (some ⟨g,off,none⟩) L)(h0:0≤s)(h1:s<1152921504606846976)(hd:s / 2 ^ L.length=0) :
   Calls Tryz.prog 117 #[.slice (some ⟨g,off,none⟩) L.length cap,.agg #[.int .i64 (Ch.leadI C 0),.int .i64 (Ch.leadI C 1),.int .i64 (Ch.leadI C 2),.int .i64 (Ch.leadI C 3),.int .i64 (Ch.leadI C 4),.int .i64 (Ch.leadI C 5),.int .i64 (Ch.leadI C 6)],.int .i64 s] w (WaitPost L C s g w):=by
 have h60:=((Lc.lace_iff L).1 hlc).1;have hok:Base.okB s=true:=(Base.okB_iff s).2 ⟨h0,h1⟩;have hmem:Memb.memI s=Bit.memTo s 60:=by unfold Memb.memI;rw [hok];rfl
 have HIN:Hid (∀i∈Memb.memI s,0≤i∧i<(L.length:Int)):=by rw [hmem];exact Lc.mem_in L s h0 hd
 have hle:(Memb.memI s).length≤60:=Memb.memI_le s;have HLS:Hid (∀(W:World) (p:Nat),p<L.length→Below w.heap.size w W→Calls Tryz.prog 142 #[.slice (some ⟨g,off,none⟩) L.length cap,.agg #[.int .i64 (Ch.leadI C 0),.int .i64 (Ch.leadI C 1),.int .i64 (Ch.leadI C 2),.int .i64 (Ch.leadI C 3),.int .i64 (Ch.leadI C 4),.int .i64 (Ch.leadI C 5),.int .i64 (Ch.leadI C 6)],.int .i64 (p:Int)] W fun e w'=>e=.returned (.bool (leadK C (at' L p)))∧Below W.heap.size W w'):=fun W p hp hW=>by
   have:=leads7 g off cap L C (p:Int) W hlc hc (Nat.lt_of_lt_of_le hg hW.size) (hr.below hW);have e:Ch.leadsB L C (p:Int)=leadK C (at' L p):=by unfold Ch.leadsB;rw [Db.isB_lace hlc,hc,Int.toNat_natCast];simp;omega
   rw [e] at this;exact this
 have HC1:Hid (∀(W:World) (p:Nat),p<L.length→Below w.heap.size w W→W.cell? ⟨g,off+p*4+1,none⟩=some (.int .i64 (at' L p).round)):=fun W p hp hW=>by
   obtain⟨_,_,q,_,_⟩:=(hr.below hW).on p hp;exact q
 have HR7:Hid (Db.RowI (w.alloc (.cells #[.int .i64 (Ch.leadI C 0),.int .i64 (Ch.leadI C 1),.int .i64 (Ch.leadI C 2),.int .i64 (Ch.leadI C 3),.int .i64 (Ch.leadI C 4),.int .i64 (Ch.leadI C 5),.int .i64 (Ch.leadI C 6)] 58)) w.heap.size 7 (fun i=>Ch.leadI C (i:Int))):=Ch.rowI_seven w 58 (fun i=>Ch.leadI C (i:Int));generalize hw0:w.alloc (.cells #[.int .i64 (Ch.leadI C 0),.int .i64 (Ch.leadI C 1),.int .i64 (Ch.leadI C 2),.int .i64 (Ch.leadI C 3),.int .i64 (Ch.leadI C 4),.int .i64 (Ch.leadI C 5),.int .i64 (Ch.leadI C 6)] 58)=w0 at HR7;have hs0:w0.heap.size=w.heap.size+1:=by rw [← hw0];simp
 have HB0:Hid (Below w.heap.size w w0):=by rw [← hw0];exact(Below.refl _ _).alloc (Nat.le_refl _) _
 have HWT:Hid (∀r,r≠w.heap.size+1→r≠w.heap.size+2→Wt (w.heap.size+1) r (w.heap.size+2) 0 ((w0.alloc (.cells #[] 148)).alloc (.cells #[.slice (some ⟨w.heap.size+1,0,none⟩) 0 0] 168)) (fun _=>(0,0))):=fun r hr1 hr2=>by
   refine⟨⟨by omega,by omega⟩,w.heap.size+1,0,?_,⟨?_⟩,by omega⟩
   · show((w0.heap.push _).push _)[w.heap.size+2]? = _;have:w.heap.size+2=(w0.heap.push (.cells #[] 148)).size:=by rw [Array.size_push];omega
     rw [this,Array.getElem?_push_size]
   · refine⟨rfl,.inr ⟨w.heap.size+1,0,#[],rfl,Nat.le_refl _,?_,Nat.le_refl _,Nat.zero_le _,rfl,rfl⟩⟩;show((w0.heap.push _).push _)[w.heap.size+1]? = _;rw [Array.getElem?_push_lt (by rw [Array.size_push];omega)];have:w.heap.size+1=w0.heap.size:=by omega
     simp [this]
 have hs1:((w0.alloc (.cells #[] 148)).alloc (.cells #[.slice (some ⟨w.heap.size+1,0,none⟩) 0 0] 168)).heap.size=w.heap.size+3:=by simp;omega
 have HB1:Hid (Below (w.heap.size+1) w0 ((w0.alloc (.cells #[] 148)).alloc (.cells #[.slice (some ⟨w.heap.size+1,0,none⟩) 0 0] 168))):=((Below.refl _ _).alloc (by omega) _).alloc (by simp;omega) _;clear hr hlc hc hmem hok;go_enter Tryz.func117,Tryz.ntmps117
 go_wp2_with fail
 refine(Memb.picked s _).mono ?_;rintro e w2 ⟨ao,ca,rfl,hown,hb2⟩;have HBW:Hid (Below (w.heap.size+1) w0 w2):=HB1.out.trans (hb2.mono (by omega));obtain⟨r,HRT⟩:∃r,Hid ((r≠w.heap.size+1∧r≠w.heap.size+2)∧(r<w.heap.size+1∨∃cs t fz,t≠148∧w2.heap[r]? = some (.cells cs t fz))∧∀V:World,V.heap[r]? = w2.heap[r]?→Lst.Rd V ao (Memb.memI s)):=by
   obtain⟨q1,⟨hv,hn⟩ | ⟨g2,cap2,cur,hv,hb,hg2,rest⟩⟩:=hown
   · exact⟨w.heap.size,⟨by omega,by omega⟩,.inl (by omega),fun V _=>.inl (List.length_eq_zero_iff.1 hn)⟩
   · refine⟨g2,⟨by omega,by omega⟩,.inr ⟨cur,_,_,by decide,hg2⟩,fun V hV=>?_⟩;exact Lst.own_rd (B:=0) (cap:=ca) ⟨q1,.inr ⟨g2,cap2,cur,hv,Nat.zero_le _,hV.trans hg2,rest⟩⟩
 have HW2:Hid (Wt (w.heap.size+1) r (w.heap.size+2) 0 w2 (fun _=>(0,0))):=wt_below (HWT.out r HRT.out.1.1 HRT.out.1.2) hb2;have HPU : Hid (∀(n:Nat) (D:Nat→Int × Int) (x:Int × Int) (V:World),n+1≤1048576→Wt (w.heap.size+1) r (w.heap.size+2) n V D→Below (w.heap.size+1) w2 V∧V.heap[r]? = w2.heap[r]? →
     Calls Tryz.prog 143 #[.iface 145 (.pointer (some ⟨w.heap.size+2,0,none⟩)),.iface 148 (.agg #[.int .i64 x.1,.int .i64 x.2])] V fun e w'=>e=.returned (.tuple #[])∧Wt (w.heap.size+1) r (w.heap.size+2) (n+1) w' (Hp.pushT ltL n D x)∧(Below (w.heap.size+1) w2 w'∧w'.heap[r]? = w2.heap[r]?)):=fun n D x V hn hW hq=>by
   have hlt:r<w2.heap.size∨w2.heap[r]? = none:=by
     by_cases h:r<w2.heap.size
     · exact .inl h
     · exact .inr (Array.getElem?_eq_none (by omega))
   have hQ':∀A B:World,(Below (w.heap.size+1) w2 A∧A.heap[r]? = w2.heap[r]?)→Kp (w.heap.size+1) r A B→(Below (w.heap.size+1) w2 B∧B.heap[r]? = w2.heap[r]?):=fun A B ⟨q1,q2⟩ k=>by
     refine⟨q1.trans k.1,?_⟩;by_cases hr1:r<w.heap.size+1
     · exact(k.1.block r hr1).trans q2
     · rcases HRT.out.2.1 with q | ⟨cs,t,fz,_,q⟩
       · omega
       · have hA:A.heap[r]? = some (.cells cs t fz):=q2.trans q;exact(k.2 (Array.getElem?_eq_some_iff.1 hA).1).trans q2
   have hr':∀A:World,(Below (w.heap.size+1) w2 A∧A.heap[r]? = w2.heap[r]?)→r<w.heap.size+1∨∃cs t fz,t≠148∧A.heap[r]? = some (.cells cs t fz):=fun A ⟨q1,q2⟩=>by
     rcases HRT.out.2.1 with q | ⟨cs,t,fz,ht,q⟩
     · exact .inl q
     · exact .inr ⟨cs,t,fz,ht,q2.trans q⟩
   exact Hp.heapPush ltL (w.heap.size+2) 1048576 _ bx (heaps (w.heap.size+1) r (w.heap.size+2) _ hQ') (pushes (w.heap.size+1) r (w.heap.size+2) _ hr' hQ') (Nat.le_refl _) n hn D x V ⟨hW,hq⟩
 have HRL:Hid (∀V:World,V.heap[r]? = w2.heap[r]?→Lst.Rd V ao (Memb.memI s)):=HRT.out.2.2;have HLOW:Hid (∀V:World,Below (w.heap.size+1) w2 V→Below w.heap.size w V):=fun V hV=>(HB0.out.trans (HBW.out.mono (by omega))).trans (hV.mono (by omega))
 have HCY:Hid (∀V:World,Below (w.heap.size+1) w2 V→∀i,i<7→V.cell? ⟨w.heap.size,i,none⟩=some (.int .i64 (Ch.leadI C (i:Int)))):=fun V hV i hi=>((HBW.out.trans hV).cell (p:=⟨w.heap.size,i,none⟩) (by simp)).trans (HR7.out.rd i hi)
 have HKR:Hid (∀V V':World,Below V.heap.size V V'→Below (w.heap.size+1) w2 V∧V.heap[r]? = w2.heap[r]?→Below (w.heap.size+1) w2 V'∧V'.heap[r]? = w2.heap[r]?):=fun V V' hV ⟨q1,q2⟩=>by
   have hw2s:=HBW.out.size;refine⟨q1.trans (hV.mono (by have:=q1.size;omega)),?_⟩;rcases HRT.out.2.1 with q | ⟨cs,t,fz,_,q⟩
   · exact(hV.block r (by have:=q1.size;omega)).trans q2
   · have hA:V.heap[r]? = some (.cells cs t fz):=q2.trans q;exact(hV.block r (Array.getElem?_eq_some_iff.1 hA).1).trans q2
 clear hown hb2 HRT HWT HB1 HR7 HBW HB0 hw0 hs0 hs1;generalize hml:Memb.memI s=l at HIN hle HRL;have HML:Hid (Memb.memI s=l):=hml;clear hml;go_wp2;go_loopw [16] (fun i wr=>∃(j n:Nat) (D:Nat→Int × Int),j≤l.length∧n≤j∧i=.int .i64 j∧Hid (Wt (w.heap.size+1) r (w.heap.size+2) n wr D)∧Hid (Hp.IsHeap ltL n D∧Holds L C (l.take j) n D)∧Hid (Below (w.heap.size+1) w2 wr∧wr.heap[r]? = w2.heap[r]?)) (fun i _=>l.length-(intOf i).toNat)
 case atStart=>exact⟨0,0,_,by omega,by omega,rfl,HW2,⟨fun k h0 hk=>by omega,holds_none L C _⟩,Below.refl _ _,rfl⟩
 case round=>
   obtain⟨j,n,D,hj,hnj,rfl,HW,HH,HQ⟩:=hrel;clear HW2;by_cases hlt:j<l.length
   · rcases HRL.out wr HQ.out.2 with hrd | ⟨bb,rfl,hcell⟩
     · rw [hrd] at hlt;simp at hlt
     have cj:=hcell j hlt;have hx:=HIN.out (l.getD j 0) (by simp [List.getD,List.getElem?_eq_getElem hlt]);have HTK:Hid (l.take (j+1)=l.take j++[l.getD j 0]):=Lc.take_snocI l j hlt;generalize l.getD j 0=xx at cj hx HTK;obtain⟨p,rfl⟩:=Int.eq_ofNat_of_zero_le hx.1;have hp:p<L.length:=by omega
     have hpi:(p:Int)<(L.length:Int):=by omega
     have hji:(j:Int)<(l.length:Int):=by omega
     have y0:=HCY.out wr HQ.out.1 0 (by omega);have y1:=HCY.out wr HQ.out.1 1 (by omega);have y2:=HCY.out wr HQ.out.1 2 (by omega);have y3:=HCY.out wr HQ.out.1 3 (by omega);have y4:=HCY.out wr HQ.out.1 4 (by omega);have y5:=HCY.out wr HQ.out.1 5 (by omega);have y6:=HCY.out wr HQ.out.1 6 (by omega);have hcall:=HLS.out wr p hp (HLOW.out wr HQ.out.1);clear hcell hx;go_wp2_with fail
     refine hcall.mono ?_;rintro e w3 ⟨rfl,hb3⟩;have HW3:Hid (Wt (w.heap.size+1) r (w.heap.size+2) n w3 D):=wt_below HW.out hb3;have HQ3:Hid (Below (w.heap.size+1) w2 w3∧w3.heap[r]? = w2.heap[r]?):=HKR.out wr w3 hb3 HQ.out;clear hcall hb3 y0 y1 y2 y3 y4 y5 y6 cj HW HQ
     cases hld:leadK C (at' L p)
     · have HH2:Hid (Hp.IsHeap ltL n D∧Holds L C (l.take (j+1)) n D):=by refine⟨HH.out.1,?_⟩;rw [HTK.out];exact holds_skip HH.out.2 hld
       clear hld;go_wp2;go_roundw
       case rel=>exact⟨j+1,n,D,by omega,by omega,by go_num,HW3,HH2,HQ3⟩
       case measure=>simp [intOf];omega
     · have HH2:Hid (Hp.IsHeap ltL (n+1) (Hp.pushT ltL n D ((p:Int),(at' L p).round))∧Holds L C (l.take (j+1)) (n+1) (Hp.pushT ltL n D ((p:Int),(at' L p).round))):=by
         refine⟨Hp.pushT_heap ltL_ord n D _ HH.out.1,?_⟩;rw [HTK.out];exact holds_push HH.out.2 hp hld
       have hpush:=HPU.out n D ((p:Int),(at' L p).round) w3 (by omega) HW3.out HQ3.out;have cc:=HC1.out w3 p hp (HLOW.out w3 HQ3.out.1);dsimp only at hpush;clear hld HW3 HQ3 HH;go_wp2_with fail
       refine hpush.mono ?_;rintro e w4 ⟨rfl,hw4,hq4⟩;have HW4:Hid _:=hw4;have HQ4:Hid _:=hq4;clear hpush hw4 hq4 cc;go_wp2;go_roundw
       case rel=>exact⟨j+1,n+1,_,by omega,by omega,by go_num,HW4,HH2,HQ4⟩
       case measure=>simp [intOf];omega
   · obtain rfl:j=l.length:=by omega
     have HH2:Hid (Hp.IsHeap ltL n D∧Holds L C (Memb.memI s) n D):=by
       refine⟨HH.out.1,?_⟩;have:=HH.out.2;rw [List.take_length] at this;rw [HML.out];exact this
     clear HH;go_wp2;go_ret;exact⟨w.heap.size+2,n,D,rfl,by omega,wt_base HW.out (by omega) hg,HH2.out.1,HH2.out.2,HLOW.out wr HQ.out.1⟩
end Fw
end
section
open Go.RowKit Go.Shelf
attribute [local go_sem] Oper.semAt_some
namespace Cn
open Kn (K okK)
open Bit (bit withB)
open Lc (at' RdK WordsOk laceB setB handsN roundS)
open Ch (leadK earN earI earlierN)
open Sl (sealsB sealN)
open Sg (isB bel metI)
open Fw (ltL Wt Holds WaitPost)
theorem seal_self{L:List K}(hl:laceB L=true){k:Nat}(hk:k<L.length):sealN L k k=false:=by
 have h60:=((Lc.lace_iff L).1 hl).1;rw [Bool.eq_false_iff];intro hs;unfold Sl.sealN at hs;rw [decide_eq_true_eq] at hs;have only:∀h:Int,Lc.hasHand L (Sl.nodAt L k k) h=true→(at' L k).hand=h:=fun h hh=>by
  obtain⟨i,hi,hb,e⟩:=(Lc.hasHand_iff L _ h).1 hh;rw [Sl.bit_nodAt h60 (by omega),Bool.and_eq_true,Bool.and_eq_true] at hb;have p1:=Ag.sees_le hl hk hb.1;have p2:=Ag.sees_le hl hi ((Nd.nod_iff h60 (by omega)).1 hb.2.2).1;obtain rfl:i=k:=by omega
  exact e
 have two:∀x y:Int,(x=0∨x=1∨x=2∨x=3)→(y=0∨y=1∨y=2∨y=3)→x≠y→(at' L k).hand=x∨(at' L k).hand=y:=fun x y hx hy hne=>by
  rcases Sl.hands_two hs hx hy hne with h | h
  ·exact .inl (only _ h)
  ·exact .inr (only _ h)
 have a:=two 0 1 (by simp) (by simp) (by decide);have b:=two 2 3 (by simp) (by simp) (by decide);omega
def earK(L:List K)(C:List Int)(k:Int):Int:=if 0≤k∧k<(L.length:Int) then earlierN L C k.toNat else -1
structure EInv(L:List K)(C:List Int)(k:Int)(n:Nat)(D:Nat→Int × Int):Prop where
 heap:Hp.IsHeap ltL n D
 el:∀i,i<n→∃x:Nat,x<L.length∧bit (metI L k) x=true∧leadK C (at' L x)=true∧D i=((x:Int),(at' L x).round)
 all:∀x:Nat,x<L.length→bit (metI L k) x=true→leadK C (at' L x)=true→sealsB L k (x:Int)=true→∃i,i<n∧D i=((x:Int),(at' L x).round)
 len:n≤60
theorem met_bd{L:List K}(h60:L.length≤60)(k:Int):0≤metI L k∧metI L k<1152921504606846976:=by
 unfold Sg.metI;split
 ·exact Sg.bel_bd L _ (by omega)
 ·exact⟨by omega,by omega⟩
theorem met_in{L:List K}(hl:laceB L=true)(k:Int):metI L k / 2 ^ L.length=0:=by
 have h60:=((Lc.lace_iff L).1 hl).1;refine Lc.div_of_bits _ _ (met_bd h60 k).1 fun i hi=>?_
 unfold Sg.metI;split
 ·exact Db.bel_hi hl (by omega) (by omega)
 ·exact Bit.bit_up 0 0 i (by simp) ▸ (by simp)
theorem e_start{L:List K}(h60:L.length≤60){C:List Int}{k:Int}{n:Nat}{D:Nat→Int × Int}(hn:n≤60)(h1:Hp.IsHeap ltL n D)(h2:Holds L C (Memb.memI (metI L k)) n D):EInv L C k n D where
 heap:=h1
 el:=fun i hi=>by
  obtain⟨x,p1,p2,p3,p4⟩:=(h2 (D i)).1 ⟨i,hi,rfl⟩;exact⟨x,p2,(Ak.mem_bit (met_bd h60 k).1 (met_bd h60 k).2 x).1 p1,p3,p4⟩
 all:=fun x hx hb hl _=>(h2 _).2 ⟨x,(Ak.mem_bit (met_bd h60 k).1 (met_bd h60 k).2 x).2 hb,hx,hl,rfl⟩
 len:=hn
theorem pair_eq{a b:Nat}{x y:Int}(h:((a:Int),x)=((b:Int),y)):a=b:=by injection h with h _;omega
theorem e_skip{L:List K}{C:List Int}{k:Int}{n:Nat}{D:Nat→Int × Int}(h:EInv L C k (n+1) D){x:Nat}(e:D 0=((x:Int),(at' L x).round))(hf:sealsB L k (x:Int)=false):EInv L C k n (Hp.popT ltL n D) where
 heap:=Hp.popT_heap Fw.ltL_ord n D h.heap
 el:=fun i hi=>by
  obtain⟨m,_,hm,em⟩:=(Hp.popT_left ltL n D).1 i hi;obtain⟨j,p⟩:=h.el m hm;exact⟨j,p.1,p.2.1,p.2.2.1,em.symm.trans p.2.2.2⟩
 all:=fun j hj hb hl hs=>by
  obtain⟨i,hi,ei⟩:=h.all j hj hb hl hs;by_cases h0:i=0
  ·subst h0;obtain rfl:=pair_eq (e.symm.trans ei);rw [hf] at hs;cases hs
  ·obtain⟨m,hm,em⟩:=(Hp.popT_left ltL n D).2 i (by omega) hi;exact⟨m,hm,em.trans ei⟩
 len:=by have:=h.len;omega
theorem seals_in{L:List K}{a b:Int}(h:sealsB L a b=true):(0≤a∧a<(L.length:Int))∧(0≤b∧b<(L.length:Int))∧sealN L a.toNat b.toNat=true:=by
 unfold Sl.sealsB at h;rw [Bool.and_eq_true,Bool.and_eq_true] at h;obtain⟨a0,a1,_⟩:=Sg.isB_parts h.1;obtain⟨b0,b1,_⟩:=Sg.isB_parts h.2.1;exact⟨⟨a0,a1⟩,⟨b0,b1⟩,h.2.2⟩
theorem seals_of{L:List K}(hl:laceB L=true){k x:Nat}(hk:k<L.length)(hx:x<L.length)(h:sealN L k x=true):sealsB L (k:Int) (x:Int)=true:=by
 unfold Sl.sealsB;rw [Db.isB_lace hl,Db.isB_lace hl,Int.toNat_natCast,Int.toNat_natCast,h];simp [hk,hx]
theorem e_take{L:List K}(hl:laceB L=true){C:List Int}{k:Int}{n:Nat}{D:Nat→Int × Int}(h:EInv L C k (n+1) D){x:Nat}(hx:x<L.length)(hb:bit (metI L k) x=true)(hlx:leadK C (at' L x)=true)(e:D 0=((x:Int),(at' L x).round))(hf:sealsB L k (x:Int)=true):earK L C k=(x:Int):=by
 obtain⟨⟨k0,k1⟩,_,hs⟩:=seals_in hf;obtain⟨p,rfl⟩:∃p:Nat,k=(p:Int):=⟨k.toNat,by omega⟩
 have hp:p<L.length:=by omega
 have hm:metI L (p:Int)=bel L p:=by unfold Sg.metI;rw [if_pos ⟨k0,k1⟩,Int.toNat_natCast]
 rw [hm] at hb;rw [Int.toNat_natCast,Int.toNat_natCast] at hs;have hxp:x<p:=by
  have:=Ag.sees_le hl hp hb;rcases Nat.lt_or_ge x p with q | q
  ·exact q
  ·obtain rfl:x=p:=by omega
   rw [seal_self hl hp] at hs;cases hs
 have hear:earN L C p x=true:=by unfold Ch.earN;rw [hb,hlx,hs];rfl
 unfold earK;rw [if_pos ⟨k0,k1⟩,Int.toNat_natCast];unfold Ch.earlierN;rcases Ch.ear_spec L C p p with⟨_,q⟩ | ⟨y,q1,q2,q3,q4⟩
 ·rw [q x hxp] at hear;cases hear
 ·rw [q1];have hy:=q3;unfold Ch.earN at hy;rw [Bool.and_eq_true,Bool.and_eq_true] at hy;obtain⟨i,hi,ei⟩:=h.all y (by omega) (by rw [hm];exact hy.1) hy.2.1 (seals_of hl hp (by omega) hy.2.2);have t:=Fw.ltL_no (Hp.top Fw.ltL_ord h.heap i hi);rw [ei,e] at t;obtain⟨t1,t2⟩:=t;obtain⟨r1,r2⟩:=q4 x hxp hear;have er:(at' L y).round=(at' L x).round:=Int.le_antisymm t1 r1;have a1:=t2 er;have a2:=r2 er.symm;dsimp only at a1;omega
theorem e_done{L:List K}(hl:laceB L=true){C:List Int}{k:Int}{D:Nat→Int × Int}(h:EInv L C k 0 D):earK L C k=-1:=by
 unfold earK;split
 ·rename_i hk;obtain⟨p,rfl⟩:∃p:Nat,k=(p:Int):=⟨k.toNat,by omega⟩
  have hp:p<L.length:=by omega
  have hm:metI L (p:Int)=bel L p:=by unfold Sg.metI;rw [if_pos hk,Int.toNat_natCast]
  rw [Int.toNat_natCast];unfold Ch.earlierN;rcases Ch.ear_spec L C p p with⟨q,_⟩ | ⟨y,q1,q2,q3,q4⟩
  ·exact q
  ·unfold Ch.earN at q3;rw [Bool.and_eq_true,Bool.and_eq_true] at q3;obtain⟨i,hi,_⟩:=h.all y (by omega) (by rw [hm];exact q3.1) q3.2.1 (seals_of hl hp (by omega) q3.2.2);omega
 ·rfl
end Cn
end
section
open Go.RowKit Go.Shelf
attribute [local go_sem] Oper.semAt_some
namespace Cn
open Kn (K okK)
open Bit (bit withB)
open Lc (at' RdK WordsOk laceB setB handsN roundS)
open Ch (leadK earN earI earlierN)
open Sl (sealsB sealN)
open Sg (isB bel metI)
open Fw (ltL Wt Holds WaitPost)
def lenAt(hp:Nat)(W:World):Nat:=match W.cell? ⟨hp,0,none⟩ with | some (.slice _ n _)=>n | _=>0
theorem lenAt_eq{m0 r hp n:Nat}{W:World}{D:Nat→Int × Int}(h:Wt m0 r hp n W D):lenAt hp W=n:=by
 obtain⟨_,g,cap,hh,_⟩:=h;unfold lenAt;rw [Fw.cell_of hh]
theorem earlier(g off cap:Nat)(L:List K)(C:List Int)(k:Int)(w:World)(hlc:laceB L=true)(hc:Rm.coinsB C=true)(hg:g<w.heap.size)(hr:RdK w (some ⟨g,off,none⟩) L) :
   Calls Tryz.prog 121 #[.slice (some ⟨g,off,none⟩) L.length cap,.agg #[.int .i64 (Ch.leadI C 0),.int .i64 (Ch.leadI C 1),.int .i64 (Ch.leadI C 2),.int .i64 (Ch.leadI C 3),.int .i64 (Ch.leadI C 4),.int .i64 (Ch.leadI C 5),.int .i64 (Ch.leadI C 6)],.int .i64 k] w fun e w'=>e=.returned (.int .i64 (earK L C k))∧Below w.heap.size w w':=by
 have h60:=((Lc.lace_iff L).1 hlc).1;have HBL:Hid (∀X:World,Below w.heap.size w X→Calls Tryz.prog 123 #[.slice (some ⟨g,off,none⟩) L.length cap,.int .i64 k] X fun e w'=>e=.returned (.int .i64 (metI L k))∧Below X.heap.size X w'):=fun X hX=>
   Sg.below g off cap L k X hlc (Nat.lt_of_lt_of_le hg hX.size) (hr.below hX)
 have HWO:Hid (∀X:World,Below w.heap.size w X→Calls Tryz.prog 117 #[.slice (some ⟨g,off,none⟩) L.length cap,.agg #[.int .i64 (Ch.leadI C 0),.int .i64 (Ch.leadI C 1),.int .i64 (Ch.leadI C 2),.int .i64 (Ch.leadI C 3),.int .i64 (Ch.leadI C 4),.int .i64 (Ch.leadI C 5),.int .i64 (Ch.leadI C 6)],.int .i64 (metI L k)] X (WaitPost L C (metI L k) g X)):=fun X hX=>
   Fw.waitingOf g off cap L C (metI L k) X hlc hc (Nat.lt_of_lt_of_le hg hX.size) (hr.below hX) (met_bd h60 k).1 (met_bd h60 k).2 (met_in hlc k)
 have HSE:Hid (∀(X:World) (x:Nat),Below w.heap.size w X→Calls Tryz.prog 147 #[.slice (some ⟨g,off,none⟩) L.length cap,.int .i64 k,.int .i64 (x:Int)] X fun e w'=>e=.returned (.bool (sealsB L k (x:Int)))∧Below X.heap.size X w'):=fun X x hX=>
   Sl.seals g off cap L k (x:Int) X hlc (Nat.lt_of_lt_of_le hg hX.size) (hr.below hX)
 have HLC:Hid (laceB L=true):=hlc;obtain⟨V0,hV0⟩:∃V0,V0=w.alloc (.cells #[.int .i64 (Ch.leadI C 0),.int .i64 (Ch.leadI C 1),.int .i64 (Ch.leadI C 2),.int .i64 (Ch.leadI C 3),.int .i64 (Ch.leadI C 4),.int .i64 (Ch.leadI C 5),.int .i64 (Ch.leadI C 6)] 58):=⟨_,rfl⟩
 have HV0:Hid (V0=w.alloc (.cells #[.int .i64 (Ch.leadI C 0),.int .i64 (Ch.leadI C 1),.int .i64 (Ch.leadI C 2),.int .i64 (Ch.leadI C 3),.int .i64 (Ch.leadI C 4),.int .i64 (Ch.leadI C 5),.int .i64 (Ch.leadI C 6)] 58)):=hV0;have HB0:Hid (Below w.heap.size w V0):=by rw [hV0];exact(Below.refl _ _).alloc (Nat.le_refl _) _
 have hs0:w.heap.size<V0.heap.size:=by rw [hV0];simp
 have HR7:Hid (Db.RowI V0 w.heap.size 7 (fun i=>Ch.leadI C (i:Int))):=by rw [hV0];exact Ch.rowI_seven w 58 (fun i=>Ch.leadI C (i:Int))
 have HSB:Hid (∀X:World,Below V0.heap.size V0 X→X.cell? ⟨w.heap.size,0,none⟩=some (.int .i64 (Ch.leadI C 0))∧X.cell? ⟨w.heap.size,1,none⟩=some (.int .i64 (Ch.leadI C 1))∧X.cell? ⟨w.heap.size,2,none⟩=some (.int .i64 (Ch.leadI C 2))∧X.cell? ⟨w.heap.size,3,none⟩=some (.int .i64 (Ch.leadI C 3))∧X.cell? ⟨w.heap.size,4,none⟩=some (.int .i64 (Ch.leadI C 4))∧X.cell? ⟨w.heap.size,5,none⟩=some (.int .i64 (Ch.leadI C 5))∧X.cell? ⟨w.heap.size,6,none⟩=some (.int .i64 (Ch.leadI C 6))):=fun X hX=>by
   have f:∀i:Nat,i<7→X.cell? ⟨w.heap.size,i,none⟩=some (.int .i64 (Ch.leadI C (i:Int))):=fun i hi=>(hX.cell (p:=⟨w.heap.size,i,none⟩) hs0).trans (HR7.out.rd i hi)
   exact⟨f 0 (by omega),f 1 (by omega),f 2 (by omega),f 3 (by omega),f 4 (by omega),f 5 (by omega),f 6 (by omega)⟩
 have HLOW:Hid (∀X:World,Below V0.heap.size V0 X→Below w.heap.size w X):=fun X hX=>HB0.out.trans (hX.mono HB0.out.size)
 clear hV0 hr hlc hc HR7;generalize Ch.leadI C 0=y0 at *;generalize Ch.leadI C 1=y1 at *;generalize Ch.leadI C 2=y2 at *;generalize Ch.leadI C 3=y3 at *;generalize Ch.leadI C 4=y4 at *;generalize Ch.leadI C 5=y5 at *;generalize Ch.leadI C 6=y6 at *;go_enter Tryz.func121,Tryz.ntmps121
 go_wp2_with fail
 rw [← HV0.out];clear HV0;generalize hbq:w.heap.size=b at *;go_region_held3 (fun X => X.cell? ⟨b, 0, none⟩ = some (.int .i64 y0) ∧ X.cell? ⟨b, 1, none⟩ = some (.int .i64 y1) ∧ X.cell? ⟨b, 2, none⟩ = some (.int .i64 y2) ∧ X.cell? ⟨b, 3, none⟩ = some (.int .i64 y3) ∧ X.cell? ⟨b, 4, none⟩ = some (.int .i64 y4) ∧ X.cell? ⟨b, 5, none⟩ = some (.int .i64 y5) ∧ X.cell? ⟨b, 6, none⟩ = some (.int .i64 y6)) (first
     | exact HSB.out _ B1
     | exact HSB.out _ B2
     | exact HSB.out _ (Below.refl _ _).drew
     | exact HSB.out _ (Below.refl _ _)) (first
     | (go_at_call 123
        refine(HBL.out _ (HLOW.out _ (Below.refl _ _).drew)).mono ?_;rintro e V1 ⟨rfl,b1⟩;have B1:Below V0.heap.size V0 V1:=Sl.kA b1)
     | (go_at_call 117
        refine(HWO.out _ (HLOW.out _ B1)).mono ?_;rintro e V2 ⟨hp,m,D,rfl,hm,hw,hhe,hho,hb2⟩;have B2:Below V0.heap.size V0 V2:=B1.trans (hb2.mono B1.size)))
 have HBQ:Hid (w.heap.size=b):=hbq;have hbs:b≤V0.heap.size:=by rw [← hbq];exact HB0.out.size
 have HB2:Hid (Below b w V2):=HLOW.out _ B2;clear hbq;have hgm:g<V1.heap.size:=Nat.lt_of_lt_of_le (Nat.lt_of_lt_of_le hg hbs) B1.size;have hbm:b≤V1.heap.size:=Nat.le_trans hbs B1.size;have HW1:Hid (Wt V1.heap.size g hp m V2 D):=hw;have HI1:Hid (EInv L C k m D):=e_start h60 hm hhe hho;have HNX:Hid (∀(m:Nat) (D:Nat→Int × Int) (A:World),m+1≤1048576→Wt V1.heap.size g hp (m+1) A D→Below b w A→Calls Tryz.prog 119 #[.pointer (some ⟨hp,0,none⟩)] A fun e w'=>e=.returned (.agg #[.int .i64 (D 0).1,.int .i64 (D 0).2])∧Wt V1.heap.size g hp m w' (Hp.popT ltL m D)∧Below b w w'):=fun m D A hm hw hq=>
   Fw.next V1.heap.size g hp m hgm (fun V=>Below b w V) (fun X Y q hb=>q.trans (hb.mono hbm)) D A hm hw hq
 clear hw hhe hho hb2 b1 B1 B2 HBL HWO HSB HLOW HB0 hm hs0
 (try clear hHeld)
 go_wp2_with fail
 go_loopw [6] (fun _ wr=>∃(m:Nat) (D:Nat→Int × Int),Hid (Wt V1.heap.size g hp m wr D)∧Hid (EInv L C k m D)∧Hid (Below b w wr)) (fun _ wr=>lenAt hp wr)
 case atStart=>exact⟨m,D,HW1,HI1,HB2⟩
 case round=>
   obtain⟨m,D,HW,HI,HB⟩:=hrel;clear HW1 HI1 HB2;have HLE:Hid (lenAt hp wr=m):=lenAt_eq HW.out;obtain⟨gw,cw,cv⟩:∃gw cw,wr.cell? ⟨hp,0,none⟩=some (.slice (some ⟨gw,0,none⟩) m cw):=by
     obtain⟨_,gw,cw,hh,_⟩:=HW.out;exact⟨gw,cw,Fw.cell_of hh⟩
   cases m with
   | zero=>
     have HD:Hid (earK L C k=-1):=e_done HLC.out HI.out;clear HI HW HLE HNX HSE HLC;go_wp2_with (first | (go_at_call 118;refine(Fw.len _ _ _ _).mono ?_;rintro e w' ⟨rfl,rfl⟩))
     go_ret;exact⟨by rw [HD.out];rfl,by rw [HBQ.out];exact HB.out⟩
   | succ m=>
     obtain⟨x,hx,hbx,hlx,ex⟩:=HI.out.el 0 (by omega);have hml:m+1≤60:=HI.out.len;have hnx:=HNX.out m D wr (by omega) HW.out HB.out;rw [ex] at hnx;dsimp only at hnx;have HSK:Hid (sealsB L k (x:Int)=false→EInv L C k m (Hp.popT ltL m D)):=e_skip HI.out ex;have HTA:Hid (sealsB L k (x:Int)=true→earK L C k=(x:Int)):=e_take HLC.out HI.out hx hbx hlx ex;have HSX:Hid (∀X:World,Below b w X→Calls Tryz.prog 147 #[.slice (some ⟨g,off,none⟩) L.length cap,.int .i64 k,.int .i64 (x:Int)] X fun e w'=>e=.returned (.bool (sealsB L k (x:Int)))∧Below X.heap.size X w'):=fun X hX=>HSE.out X x hX
     have hm0:(0:Int)<(m:Int)+1:=by omega
     have hmc:((m+1:Nat):Int)=(m:Int)+1:=by omega
     clear hlx hbx HI ex HNX HSE HW HB;generalize (at' L x).round=kr at hnx;have HAL:Hid (∀w2:World,Wt V1.heap.size g hp m w2 (Hp.popT ltL m D)→Below b w w2→Wt V1.heap.size g hp m (w2.alloc (.cells #[.int .i64 x,.int .i64 kr] 148)) (Hp.popT ltL m D)∧Below b w (w2.alloc (.cells #[.int .i64 x,.int .i64 kr] 148))):=fun w2 h1 h2=>by
       have hlt:=Fw.wt_lt h1;exact⟨Fw.wt_alloc h1 _,h2.alloc (by omega) _⟩
     have HST:Hid (∀A B:World,Wt V1.heap.size g hp m A (Hp.popT ltL m D)∧Below b w A→Below A.heap.size A B→Wt V1.heap.size g hp m B (Hp.popT ltL m D)∧Below b w B):=fun A B q hb=>by
       have hlt:=Fw.wt_lt q.1;exact⟨Fw.wt_below q.1 hb,q.2.trans (hb.mono (by omega))⟩
     have HLN:Hid (∀A:World,Wt V1.heap.size g hp m A (Hp.popT ltL m D)→lenAt hp A<lenAt hp wr):=fun A q=>by rw [lenAt_eq q,HLE.out];omega
     have HKC:Hid (∀w2 w3:World,Below (w2.alloc (.cells #[.int .i64 x,.int .i64 kr] 148)).heap.size (w2.alloc (.cells #[.int .i64 x,.int .i64 kr] 148)) w3→w3.cell? ⟨w2.heap.size,0,none⟩=some (.int .i64 x)):=fun w2 w3 hb=>(hb.cell (p:=⟨w2.heap.size,0,none⟩) (by simp)).trans (by simp)
     cases hdd:sealsB L k (x:Int)
     · have HI2:Hid (EInv L C k m (Hp.popT ltL m D)):=HSK.out hdd;rw [hdd] at HSX;clear HSK HTA HLE hdd HLC;go_wp2_with (first | (go_at_call 118;refine(Fw.len _ _ _ _).mono ?_;rintro e wl ⟨rfl,rfl⟩) | (go_at_call 119;refine hnx.mono ?_;rintro e w2 ⟨rfl,hw2,hq2⟩;have HA:Hid _:=HAL.out w2 hw2 hq2) | (go_at_call 147;refine(HSX.out _ HA.out.2).mono ?_;rintro e w3 ⟨rfl,hb3⟩;have HR3:=HST.out _ _ HA.out hb3))
       go_roundw
       case rel=>exact⟨m,_,HR3.1,HI2,HR3.2⟩
       case measure=>exact HLN.out _ HR3.1
     · have HE:Hid (earK L C k=(x:Int)):=HTA.out hdd;rw [hdd] at HSX;clear HSK HTA HLE hdd HLC;go_wp2_with (first | (go_at_call 118;refine(Fw.len _ _ _ _).mono ?_;rintro e wl ⟨rfl,rfl⟩) | (go_at_call 119;refine hnx.mono ?_;rintro e w2 ⟨rfl,hw2,hq2⟩;have HA:Hid _:=HAL.out w2 hw2 hq2) | (go_at_call 147;refine(HSX.out _ HA.out.2).mono ?_;rintro e w3 ⟨rfl,hb3⟩;have HR3:=HST.out _ _ HA.out hb3;have ck:=HKC.out _ _ hb3))
       go_ret;exact⟨by rw [HE.out];rfl,by rw [HBQ.out];exact HR3.2⟩
end Cn
namespace Cn
def turn(l:List Int)(i:Nat):List Int:=(List.range l.length).map fun t=>if t<i∨l.length≤t+i then l.getD (l.length-1-t) 0 else l.getD t 0
theorem turn_len(l:List Int)(i:Nat):(turn l i).length=l.length:=by simp [turn]
theorem turn_get(l:List Int)(i t:Nat)(h:t<l.length):(turn l i)[t]? = some (if t<i∨l.length≤t+i then l.getD (l.length-1-t) 0 else l.getD t 0):=by simp [turn,h]
theorem turn_zero(l:List Int):turn l 0=l:=by
 apply List.ext_getElem?;intro t;by_cases h:t<l.length
 ·rw [turn_get l 0 t h,if_neg (by omega)];simp [List.getD,h]
 ·rw [List.getElem?_eq_none (by rw [turn_len];omega),List.getElem?_eq_none (by omega)]
theorem turn_end(l:List Int)(i:Nat)(hi:l.length≤i+i+1):turn l i=l.reverse:=by
 apply List.ext_getElem?;intro t;by_cases h:t<l.length
 ·rw [turn_get l i t h,List.getElem?_reverse h];split
  ·simp [List.getD,show l.length-1-t<l.length by omega]
  ·have:l.length-1-t=t:=by omega
   rw [this];simp [List.getD,h]
 ·rw [List.getElem?_eq_none (by rw [turn_len];omega),List.getElem?_eq_none (by simp;omega)]
theorem turn_step(l:List Int)(i:Nat)(hi:i+i+1<l.length):((turn l i).set i ((turn l i).getD (l.length-1-i) 0)).set (l.length-1-i) ((turn l i).getD i 0)=turn l (i+1):=by
 have e1:(turn l i).getD i 0=l.getD i 0:=by
  have:=turn_get l i i (by omega);rw [if_neg (by omega)] at this;simp [List.getD,this]
 have e2:(turn l i).getD (l.length-1-i) 0=l.getD (l.length-1-i) 0:=by
  have:=turn_get l i (l.length-1-i) (by omega);rw [if_neg (by omega)] at this;simp [List.getD,this]
 rw [e1,e2];apply List.ext_getElem?;intro t;by_cases h:t<l.length
 ·rw [turn_get l (i+1) t h,List.getElem?_set,List.getElem?_set];simp only [List.length_set,turn_len];by_cases h1:l.length-1-i=t
  ·rw [if_pos h1,if_pos (by omega),if_pos (by omega)];have:l.length-1-t=i:=by omega
   rw [this]
  ·rw [if_neg h1];by_cases h2:i=t
   ·rw [if_pos h2,if_pos (by omega),if_pos (by omega),h2]
   ·rw [if_neg h2,turn_get l i t h];by_cases h3:t<i∨l.length≤t+i
    ·rw [if_pos h3,if_pos (by omega)]
    ·rw [if_neg h3,if_neg (by omega)]
 ·rw [List.getElem?_eq_none (by simp [turn_len];omega),List.getElem?_eq_none (by rw [turn_len];omega)]
theorem own_set{B g cap:Nat}{w:World}{l:List Int}(h:Memb.Own B w (some ⟨g,0,none⟩) cap l)(j:Nat)(u:Int):Memb.Own B (w.setCell ⟨g,j,none⟩ (.int .i64 u)) (some ⟨g,0,none⟩) cap (l.set j u):=by
 have:=(World.ownsRow.stored h j (.int .i64 u)).1;unfold Memb.Own;rw [List.length_set,List.map_set];exact this
theorem own_cell{B g cap:Nat}{w:World}{l:List Int}(h:Memb.Own B w (some ⟨g,0,none⟩) cap l)(j:Nat)(hj:j<l.length):w.cell? ⟨g,j,none⟩=some (.int .i64 (l.getD j 0))∧w.frozen? ⟨g,j,none⟩=false:=by
 refine⟨(World.ownsRow.cellAt h j (by omega)).trans ?_,World.ownsRow.frozenAt h j⟩;simp [List.getD,hj]
theorem reverse(B g cap:Nat)(l:List Int)(w:World)(hl:l.length≤1048576)(hB:B≤g)(h:Memb.Own B w (some ⟨g,0,none⟩) cap l) :
  Calls Tryz.prog 122 #[.slice (some ⟨g,0,none⟩) l.length cap] w fun e w'=>e=.returned (.tuple #[])∧Memb.Own B w' (some ⟨g,0,none⟩) cap l.reverse∧Below B w w':=by
 have H0:Hid (Memb.Own B w (some ⟨g,0,none⟩) cap (turn l 0)):=by show Memb.Own B w _ cap (turn l 0);rw [turn_zero];exact h
 clear h;go_enter Tryz.func122,Tryz.ntmps122
 go_wp2;go_loopw [2,3] (fun s2 s3 wr=>∃i:Nat,i≤l.length∧s2=.int .i64 i∧s3=.int .i64 ((l.length:Int)-1-i)∧Hid (Memb.Own B wr (some ⟨g,0,none⟩) cap (turn l i))∧Hid (Below B w wr)) (fun s2 _ _=>l.length-(intOf s2).toNat)
 case atStart=>exact⟨0,Nat.zero_le _,rfl,by simp,H0,Below.refl _ _⟩
 case round=>
  obtain⟨i,hi,rfl,rfl,HO,HB⟩:=hrel;clear H0;by_cases hlt:i+i+1<l.length
  ·have hij:(i:Int)<(l.length:Int)-1-i:=by omega
   obtain⟨j,hj⟩:∃j:Nat,j=l.length-1-i:=⟨_,rfl⟩
   have ej:(l.length:Int)-1-i=(j:Int):=by omega
   have hil:i<l.length:=by omega
   have hjl:j<l.length:=by omega
   have hii:(i:Int)<(l.length:Int):=by omega
   have hji:(j:Int)<(l.length:Int):=by omega
   have hne:¬ i=j:=by omega
   have hne':¬ j=i:=by omega
   have HS:Hid (((turn l i).set i ((turn l i).getD j 0)).set j ((turn l i).getD i 0)=turn l (i+1)):=by show _=_;rw [hj];exact turn_step l i hlt
   obtain⟨ci,fi⟩:=own_cell HO.out i (by rw [turn_len];omega);obtain⟨cj,fj⟩:=own_cell HO.out j (by rw [turn_len];omega);rw [ej];rw [ej] at hij;generalize hx:(turn l i).getD i 0=x at ci HS;generalize hy:(turn l i).getD j 0=y at cj HS;have HEJ:Hid ((j:Int)-1=(l.length:Int)-1-((i+1:Nat):Int)):=by show _=_;omega
   have HN:Hid (∀m,Memb.Own B (((wr.setCell ⟨g,i,none⟩ (.int .i64 y)).setCell ⟨g,j,none⟩ (.int .i64 x)).drewN m) (some ⟨g,0,none⟩) cap (turn l (i+1))∧Below B w (((wr.setCell ⟨g,i,none⟩ (.int .i64 y)).setCell ⟨g,j,none⟩ (.int .i64 x)).drewN m)):=fun m=>by
    refine⟨?_,?_⟩
    ·rw [← HS.out];exact own_set (own_set HO.out i y) j x
    ·have:=(HB.out.setCell (p:=⟨g,i,none⟩) hB (.int .i64 y)).setCell (p:=⟨g,j,none⟩) hB (.int .i64 x);exact⟨this.os,this.tape,this.output,this.size,this.block⟩
   clear hj hx hy HS HO HB;go_wp2_with fail
   go_region
   all_goals (go_wp2)
   all_goals go_roundw
   case rel=>exact⟨i+1,by omega,by go_num,by rw [← HEJ.out],(HN.out 1).1,(HN.out 1).2⟩
   case measure=>simp [intOf];omega
  ·have hij:¬ (i:Int)<(l.length:Int)-1-i:=by omega
   have HE:Hid (turn l i=l.reverse):=turn_end l i (by omega);go_wp2;go_end0;exact⟨rfl,by rw [← HE.out];exact HO.out,HB.out⟩
end Cn
end
section
open Go.RowKit Go.Shelf
attribute [local go_sem] Oper.semAt_some
namespace Cn
open Kn (K okK)
open Lc (at' RdK WordsOk laceB)
open Ch (chainL earlierN)
theorem wp_scope_again{P:Program}{a:Act}{w:World}{Q:Exit→Act→World→Prop}{c rest:Code}(l:Nat)(J:Act→World→Prop)(μ:Act→World→Nat)(hf:findLabel c l=some (Code.skip.seq rest))
  (first:(∀a w,J a w→rest.wp P (Exit.jump l J Q) a w)→c.wp P (Exit.jump l J Q) a w)
  (pass:∀a w,J a w→rest.wp P (Exit.jump l (fun a' w'=>J a' w'∧μ a' w' < μ a w) Q) a w):(Code.scope c).wp P Q a w:=by
 refine wp_scope_jumps l J μ hf (first fun a w h=>?_) fun a w h=>wp_seq (wp_skip (pass a w h))
 refine Code.wp_mono (fun e a' w' q=>?_) (pass a w h)
 cases e <;> first | exact q | exact⟨q.1,q.2.1⟩
structure Back(L:List K)(C:List Int)(k:Nat)(w V0:World)(kk:Nat)(fl:List Int)(v:Value)(W:World):Prop where
 on:kk<L.length
 le:fl.length+kk≤k
 own:W.ownsRow V0.heap.size 2 1 v fl.length (fl.map (Value.int .i64))
 bel:Below V0.heap.size V0 W
 ch:chainL L C (kk:Int)++fl.reverse=chainL L C (k:Int)
def intAt:Value→Int | .int _ q=>q | _=>0
theorem earK_in(L:List K)(C:List Int){k:Nat}(hk:k<L.length):earK L C (k:Int)=earlierN L C k:=by
 unfold earK;rw [if_pos ⟨by omega,by omega⟩,Int.toNat_natCast]
theorem back_step{L:List K}{C:List Int}{k kk e:Nat}{w V0 W W':World}{fl:List Int}{v v':Value}(h:Back L C k w V0 kk fl v W)(he:earlierN L C kk=(e:Int))(ho:W'.ownsRow V0.heap.size 2 1 v' (fl++[(kk:Int)]).length ((fl++[(kk:Int)]).map (Value.int .i64)))(hb:Below V0.heap.size V0 W'):Back L C k w V0 e (fl++[(kk:Int)]) v' W'∧e<kk:=by
 have hlt:=Ch.earlier_lt L C kk;have hc:=h.ch;have h1:=h.on;have h2:=h.le;refine⟨⟨by omega,by simp;omega,ho,hb,?_⟩,by omega⟩;rw [Ch.chain_step,he,List.append_assoc] at hc;rw [← hc];simp
theorem back_end{L:List K}{C:List Int}{k kk:Nat}{w V0 W:World}{fl:List Int}{v:Value}(h:Back L C k w V0 kk fl v W)(he:earlierN L C kk<0):(fl++[(kk:Int)]).reverse=chainL L C (k:Int):=by
 have hc:=h.ch;rw [Ch.chain_step,Ch.chain_neg L C he] at hc;rw [← hc];simp
theorem own_lower{B B':Nat}{w:World}{ao:Option Addr}{cap:Nat}{l:List Int}(h:Memb.Own B w ao cap l)(hB:B'≤B):Memb.Own B' w ao cap l:=by
 obtain⟨h1,h2 | ⟨g,c,cur,e,hb,rest⟩⟩:=h
 ·exact⟨h1,.inl h2⟩
 ·exact⟨h1,.inr ⟨g,c,cur,e,Nat.le_trans hB hb,rest⟩⟩
theorem chain(g off cap:Nat)(L:List K)(C:List Int)(k:Nat)(w:World)(hlc:laceB L=true)(hc:Rm.coinsB C=true)(hg:g<w.heap.size)(hr:RdK w (some ⟨g,off,none⟩) L)(hk:k<L.length) :
  Calls Tryz.prog 97 #[.slice (some ⟨g,off,none⟩) L.length cap,.agg #[.int .i64 (Ch.leadI C 0),.int .i64 (Ch.leadI C 1),.int .i64 (Ch.leadI C 2),.int .i64 (Ch.leadI C 3),.int .i64 (Ch.leadI C 4),.int .i64 (Ch.leadI C 5),.int .i64 (Ch.leadI C 6)],.int .i64 (k:Int)] w fun e w'=>∃ao ca,e=.returned (.slice ao (chainL L C (k:Int)).length ca)∧Memb.Own w.heap.size w' ao ca (chainL L C (k:Int))∧Below w.heap.size w w':=by
 obtain⟨i0,hi,hz0,hz1,hz2⟩:=info_parts Memb.info2;have h60:=((Lc.lace_iff L).1 hlc).1;have HEA:Hid (∀(X:World) (x:Nat),x<L.length→Below w.heap.size w X→Calls Tryz.prog 121 #[.slice (some ⟨g,off,none⟩) L.length cap,.agg #[.int .i64 (Ch.leadI C 0),.int .i64 (Ch.leadI C 1),.int .i64 (Ch.leadI C 2),.int .i64 (Ch.leadI C 3),.int .i64 (Ch.leadI C 4),.int .i64 (Ch.leadI C 5),.int .i64 (Ch.leadI C 6)],.int .i64 (x:Int)] X fun e w'=>e=.returned (.int .i64 (earlierN L C x))∧Below X.heap.size X w'):=fun X x hx hX=>by
  have:=earlier g off cap L C (x:Int) X hlc hc (Nat.lt_of_lt_of_le hg hX.size) (hr.below hX);rw [earK_in L C hx] at this;exact this
 obtain⟨V0,hV0⟩:∃V0,V0=w.alloc (.cells #[.int .i64 (Ch.leadI C 0),.int .i64 (Ch.leadI C 1),.int .i64 (Ch.leadI C 2),.int .i64 (Ch.leadI C 3),.int .i64 (Ch.leadI C 4),.int .i64 (Ch.leadI C 5),.int .i64 (Ch.leadI C 6)] 58):=⟨_,rfl⟩
 have HV0:Hid (V0=w.alloc (.cells #[.int .i64 (Ch.leadI C 0),.int .i64 (Ch.leadI C 1),.int .i64 (Ch.leadI C 2),.int .i64 (Ch.leadI C 3),.int .i64 (Ch.leadI C 4),.int .i64 (Ch.leadI C 5),.int .i64 (Ch.leadI C 6)] 58)):=hV0;have HB0:Hid (Below w.heap.size w V0):=by rw [hV0];exact(Below.refl _ _).alloc (Nat.le_refl _) _
 have hs0:V0.heap.size=w.heap.size+1:=by rw [hV0];simp
 have HR7:Hid (Db.RowI V0 w.heap.size 7 (fun i=>Ch.leadI C (i:Int))):=by rw [hV0];exact Ch.rowI_seven w 58 (fun i=>Ch.leadI C (i:Int))
 have HSB:Hid (∀X:World,Below V0.heap.size V0 X→X.cell? ⟨w.heap.size,0,none⟩=some (.int .i64 (Ch.leadI C 0))∧X.cell? ⟨w.heap.size,1,none⟩=some (.int .i64 (Ch.leadI C 1))∧X.cell? ⟨w.heap.size,2,none⟩=some (.int .i64 (Ch.leadI C 2))∧X.cell? ⟨w.heap.size,3,none⟩=some (.int .i64 (Ch.leadI C 3))∧X.cell? ⟨w.heap.size,4,none⟩=some (.int .i64 (Ch.leadI C 4))∧X.cell? ⟨w.heap.size,5,none⟩=some (.int .i64 (Ch.leadI C 5))∧X.cell? ⟨w.heap.size,6,none⟩=some (.int .i64 (Ch.leadI C 6))):=fun X hX=>by
  have f:∀i:Nat,i<7→X.cell? ⟨w.heap.size,i,none⟩=some (.int .i64 (Ch.leadI C (i:Int))):=fun i hi=>(hX.cell (p:=⟨w.heap.size,i,none⟩) (by show w.heap.size<V0.heap.size;omega)).trans (HR7.out.rd i hi)
  exact⟨f 0 (by omega),f 1 (by omega),f 2 (by omega),f 3 (by omega),f 4 (by omega),f 5 (by omega),f 6 (by omega)⟩
 have HLOW:Hid (∀X:World,Below V0.heap.size V0 X→Below w.heap.size w X):=fun X hX=>HB0.out.trans (hX.mono HB0.out.size)
 have HST:Hid (Back L C k w V0 k [] (.slice (some ⟨V0.heap.size,0,none⟩) 0 0) (V0.alloc (.cells #[] 2))):=by
  refine⟨hk,by simp,?_,(Below.refl _ _).alloc (Nat.le_refl _) _,by simp⟩;exact Memb.own_empty V0
 have HS0:Hid (V0.heap.size=w.heap.size+1):=hs0;clear hV0 hr hlc hc HR7 hs0;generalize Ch.leadI C 0=y0 at *;generalize Ch.leadI C 1=y1 at *;generalize Ch.leadI C 2=y2 at *;generalize Ch.leadI C 3=y3 at *;generalize Ch.leadI C 4=y4 at *;generalize Ch.leadI C 5=y5 at *;generalize Ch.leadI C 6=y6 at *;go_enter Tryz.func97,Tryz.ntmps97
 go_wp2_with fail
 rw [← HV0.out];clear HV0;refine wp_scope_again 0 (fun a' w'=>∃(kk:Nat) (fl:List Int) (v u8 u9 u10 u11 u12 u13 u14 u15 u16 u17 u18 u19 u20 u21:Value),a'={ tmps:=#[.slice (some ⟨g,off,none⟩) L.length cap,.agg #[.int .i64 y0,.int .i64 y1,.int .i64 y2,.int .i64 y3,.int .i64 y4,.int .i64 y5,.int .i64 y6],.int .i64 (kk:Int),undef,.pointer (some ⟨w.heap.size,0,none⟩),undef,.slice none 0 0,v,u8,u9,u10,u11,u12,u13,u14,u15,u16,u17,u18,u19,u20,u21],defers:=[] }∧Hid (Back L C k w V0 kk fl v w')) (fun a' _=>(intAt (a'.tmps.getD 2 undef)).toNat) rfl ?_ ?_
 ·intro HP;go_wp2_with fail
  go_step3
  rename_i hK;refine hK _ _ (HP _ _ ⟨k,[],_,_,_,_,_,_,_,_,_,_,_,_,_,_,_,rfl,HST⟩)
 ·rintro a' w' ⟨kk,fl,v,u8,u9,u10,u11,u12,u13,u14,u15,u16,u17,u18,u19,u20,u21,rfl,HBK⟩;clear HST;have hown:=HBK.out.own;have hkk:=HBK.out.on;have hle:=HBK.out.le;have hBS:V0.heap.size≤w'.heap.size:=HBK.out.bel.size;have HBW:Hid (Below V0.heap.size V0 w'):=HBK.out.bel;go_wp2_with (at_builtin;refine wpList_append_own _ rfl _ _ 25 rfl V0.heap.size 2 i0 (.int .i64 0) 1 8 Tryz.underlying25 hi hz0 hz1 hz2 rfl (by decide) _ _ _ rfl (hown.alloc _) ⟨w'.heap.size,0,none⟩ 1 1 [.int .i64 (kk:Int)] rfl rfl ?c1 ?c2 ?c3 ?c4 ?c5 ?_)
  case c1=>
   intro j u hj;match j,hj with
   | 0,hj=>simp at hj;subst hj;simp [Addr.add]
  case c2=>intro u hu;simp at hu;subst hu;rfl
  case c3=>unfold maxLen;omega
  case c4=>omega
  case c5=>simp;omega
  intro v' w1 hown' hgrow _;have R:=Memb.rel_put (l':=fl++[(kk:Int)]) rfl hBS hown HBW.out hown' hgrow;have HR:Hid _:=R;clear hown' hgrow hown R;obtain⟨c0,c1,c2,c3,c4,c5,c6⟩:=HSB.out w1 HR.out.2.1;have hea:=HEA.out w1 kk hkk (HLOW.out w1 HR.out.2.1);rcases Ch.ear_spec L C kk kk with⟨he,_⟩ | ⟨e,he,hek,_⟩
  ·have HE:Hid (earlierN L C kk=-1):=he;have HEND:Hid ((fl++[(kk:Int)]).reverse=chainL L C (k:Int)):=back_end HBK.out (by rw [HE.out];omega);rw [HE.out] at hea;clear he;obtain⟨ao,ca,rfl,ho⟩:=Memb.own_shape HR.out.1;obtain⟨g2,rfl,hg2,_⟩:=Lst.own_block ho (by simp);have hl2:(fl++[(kk:Int)]).length≤1048576:=by simp;omega
   have HB1:Hid (Below V0.heap.size V0 w1):=HR.out.2.1;have HRV:Hid (∀W:World,Below w1.heap.size w1 W→Calls Tryz.prog 122 #[.slice (some ⟨g2,0,none⟩) (fl++[(kk:Int)]).length ca] W fun e w'=>e=.returned (.tuple #[])∧Memb.Own V0.heap.size w' (some ⟨g2,0,none⟩) ca (fl++[(kk:Int)]).reverse∧Below V0.heap.size W w'):=fun W hW=>reverse V0.heap.size g2 ca _ W hl2 hg2 (Lst.own_below ho hW)
   have HLN:Hid ((fl++[(kk:Int)]).length=(chainL L C (k:Int)).length):=by show _=_;rw [← HEND.out,List.length_reverse]
   rw [HEND.out] at HRV;generalize (fl++[(kk:Int)]).length=n2 at hl2 HRV HLN ⊢;clear HEND HR ho HBK HBW;go_wp2_with (first | (go_at_call 121;refine hea.mono ?_;rintro e w2 ⟨rfl,hb2⟩) | (go_at_call 122;refine(HRV.out _ hb2).mono ?_;rintro e w3 ⟨rfl,ho3,hb3⟩))
   simp only [Exit.jump];go_ret;refine⟨some ⟨g2,0,none⟩,ca,by rw [← HLN.out];rfl,own_lower ho3 HB0.out.size,?_⟩;exact HLOW.out _ ((HB1.out.trans (hb2.mono HB1.out.size)).trans hb3)
  ·have HE:Hid (earlierN L C kk=(e:Int)):=he;rw [HE.out] at hea;clear he;have he0:(0:Int)≤(e:Int):=by omega
   have HNX:Hid (∀W:World,Below w1.heap.size w1 W→Back L C k w V0 e (fl++[(kk:Int)]) v' W):=fun W hW=>by
    obtain⟨ao,ca,rfl,ho⟩:=Memb.own_shape HR.out.1;exact(back_step HBK.out HE.out (Lst.own_below ho hW) (HR.out.2.1.trans (hW.mono HR.out.2.2))).1
   go_wp2_with (first | (go_at_call 121;refine hea.mono ?_;rintro e2 w2 ⟨rfl,hb2⟩))
   go_step3
   refine⟨rfl,⟨e,fl++[(kk:Int)],v',_,_,_,_,_,_,_,_,_,_,_,_,_,_,rfl,HNX.out _ hb2⟩,?_⟩;simp [intAt];omega
end Cn
end
end Go.Proofs.YtbkeldfbllhlbaaGreat
