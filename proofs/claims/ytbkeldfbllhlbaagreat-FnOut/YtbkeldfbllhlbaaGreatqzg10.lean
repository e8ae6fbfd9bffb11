/-
 Towards the model's drawing of acts: an act in memory, what a draw keeps.
-/
import Derived.Test.YtbkeldfbllhlbaaGreatqzg9
import Derived.Deep.RegionHeld3
set_option linter.unusedVariables false
set_option maxRecDepth 100000
set_option maxHeartbeats 6400000
namespace Go.Proofs.YtbkeldfbllhlbaaGreat
open Go.RowKit
section
namespace Lc
open Kn (K okK)
theorem step_own{P:Program}{ops:Array Oper}{o:Oper}{a:Act}{w:World}{K:Act→World→Prop}{Q:Exit→Act→World→Prop}{E:Prop}
  (hg:o.guard=none) (s x:Operand) (t:TypeId) (hop:o.op=Op.call { callee:=Callee.builtin Builtin.append,args:=#[s,x],argTypes:=#[t,t] })
  (base:Nat) (e:TypeId) (i:TypeInfo) (z:Value) (size bytes:Nat) (ht:P.underlying t=some (.slice e)) (hi:P.info? e=some i) (hz:i.zero=some z) (hsize:i.size=size) (hby:i.bytes=bytes) (hzs:z.cells.size=size) (hsz:0<size)
  (v:Value) (n:Nat) (xs:List Value) (hs:a.eval s=v) (hown:w.ownsRow base e size v n xs)
  (ad:Addr) (m c:Nat) (news:List Value) (hx:a.eval x=.slice (some ad) m c) (hl:news.length=m*size) (hnews:∀j u,news[j]? = some u→w.cell? (ad.add j)=some u) (h1:∀u∈news,u.oneCell'=true)
  (h63:n+m≤maxLen) (hbytes:(n+m)*bytes≤140737488355328) (hbase:base≤w.heap.size)
  (hK:∀v' w',w'.ownsRow base e size v' (n+m) (xs++news)→w.grownBy w' v.ownBlock→(v'=.slice none 0 0↔v=.slice none 0 0∧m=0)→K (a.put o.dst v') w') :
  if Region.wanted o (yielded ops a.tmps)=true then Oper.wp P o a w K Q else E:=by
 rw [if_pos (by simp [Region.wanted,hg])];exact wp_append_own w s x t hop base e i z size bytes ht hi hz hsize hby hzs hsz v n xs hs hown ad m c news hx hl hnews h1 h63 hbytes hbase hK
theorem kept_cells{W V:World}{k:K}{t:TypeId}(hb:Below (W.alloc (.cells #[.int .i64 k.hand,.int .i64 k.round,.int .i64 k.frm,.string k.word] t)).heap.size (W.alloc (.cells #[.int .i64 k.hand,.int .i64 k.round,.int .i64 k.frm,.string k.word] t)) V) :
  ∀(j:Nat) u,(cellsOf k)[j]? = some u→V.cell? ((⟨W.heap.size,0,none⟩:Addr).add j)=some u:=by
 intro j u hj;have h:=new_cells W k t j u hj;rw [WideShapes.add_plain] at h ⊢;exact(hb.cell (p:=⟨W.heap.size,0+j,none⟩) (by simp)).trans h
theorem ownK_app{t:TypeId}{b:Nat}{w0 w4 w5:World}{v v':Value}{L:List K}{k:K}(hne:v≠.slice none 0 0)(hown:w4.ownsRow b t 4 v L.length (flat L))(hb:Below b w0 w4)
  (hbs:b≤w4.heap.size) (hown':w5.ownsRow b t 4 v' (L.length+1) (flat L++cellsOf k)) (hgrow:w4.grownBy w5 v.ownBlock) (hnil:v'=.slice none 0 0↔v=.slice none 0 0∧1=0) :
  OwnK t b w5 v' (L++[k])∧Below b w0 w5:=
 ⟨⟨by rw [flat_snoc,List.length_append];exact hown',fun e=>hne (hnil.1 e).1⟩,hb.grown hgrow hbs (fun i hi=>(World.ownsRow.lt hown i hi).1)⟩
end Lc
namespace Rm
open Kn (K okK in3)
open Sg (orB belows)
open Lc (at' RdK laceB takesB canB flat OwnK CellsK cellsOf)
theorem step_own_at{P:Program}{ops:Array Oper}{o:Oper}{a:Act}{w:World}{K:Act→World→Prop}{Q:Exit→Act→World→Prop}{E:Prop}
  (hg:o.guard=none) (s x:Operand) (t:TypeId) (hop:o.op=Op.call { callee:=Callee.builtin Builtin.append,args:=#[s,x],argTypes:=#[t,t] })
  (base:Nat) (e:TypeId) (i:TypeInfo) (z:Value) (size bytes:Nat) (ht:P.underlying t=some (.slice e)) (hi:P.info? e=some i) (hz:i.zero=some z) (hsize:i.size=size) (hby:i.bytes=bytes) (hzs:z.cells.size=size) (hsz:0<size)
  (v:Value) (n:Nat) (xs:List Value) (hs:a.eval s=v) (hown:w.ownsRow base e size v n xs)
  (ad:Addr) (m c:Nat) (news:List Value) (hx:a.eval x=.slice (some ad) m c) (hl:news.length=m*size) (hnews:∀j u,news[j]? = some u→w.cell? (ad.add j)=some u) (h1:∀u∈news,u.oneCell'=true)
  (h63:n+m≤maxLen) (hbytes:(n+m)*bytes≤140737488355328) (hbase:base≤w.heap.size)
  (hK:∀v' w',w'.ownsRow base e size v' (n+m) (xs++news)→w.grownBy w' v.ownBlock→(v'.ownBlock=v.ownBlock∨v'.ownBlock=some w.heap.size)→K (a.put o.dst v') w') :
  if Region.wanted o (yielded ops a.tmps)=true then Oper.wp P o a w K Q else E:=by
 rw [if_pos (by simp [Region.wanted,hg])];obtain⟨v',w',hr,h2,h3,_,h5⟩:=run_append_own_at (P:=P) w base t o.type e i z size bytes ht hi hz hsize hby hzs hsz v n xs hown ad m c news hl hnews h1 h63 hbytes hbase;unfold Oper.wp execOp;simp only [hop,resolve,invoke,builtin,Sem.run_bind,Sem.run_pure,Result.andThen_ok,List.map_toArray,List.map_cons,List.map_nil,hs,hx,hr];exact hK v' w' h2 h3 h5
theorem lace_snoc{L:List K}{k:K}(hl:laceB L=true)(hk:takesB L k=true):laceB (L++[k])=true:=by
 have h:(decide (L.length<60)&&canB L k)=true:=hk;rw [Bool.and_eq_true,decide_eq_true_eq] at h;obtain⟨h60,hc⟩:=(Lc.lace_iff L).1 hl;refine(Lc.lace_iff _).2 ⟨by simp;omega,fun i hi=>?_⟩;by_cases e:i<L.length
 ·rw [Lc.at_left L [k] i e,List.take_append_of_le_length (by omega)];exact hc i e
 ·have:i=L.length:=by simp at hi;omega
  subst this;rw [Lc.at_end,List.take_left];exact h.2
def putL(R:Ro)(L:List K)(v:Value):Ro:={ R with L:=L,lv:=v }
theorem do_lace{B p:Nat}{R:Ro}{x:Out}{w V:World}(b:Bool)(L':List K)(v:Value)(hx:x=⟨b,L',R.hs⟩)(hr:RoAt B w p R)(hf:Fr (fun x=>R.lv.ownBlock=some x) w V)(ho:V.ownsRow B 38 4 v L'.length (flat L'))(hl:laceB L'=true)(hlen:R.L.length≤L'.length)(hv:∀g,v.ownBlock=some g→R.lv.ownBlock=some g∨w.heap.size≤g) :
  DoPost B p R x w (.returned (.bool b)) (V.setCell ⟨p,0,none⟩ v):=by
 subst hx;have hgl:R.gh<w.heap.size:=(hr.parts.hands 0 (by omega)).lt;have hvp:v.ownBlock≠some p:=fun e=>by
  rcases hv p e with h | h
  ·exact hr.n2 h
  ·have:=hr.lt;omega
 have hvg:v.ownBlock≠some R.gh:=fun e=>by
  rcases hv R.gh e with h | h
  ·exact hr.parts.ne h
  ·omega
 have hs:=Fr.set V ⟨p,0,none⟩ v;have hpl:p<V.heap.size:=Nat.lt_of_lt_of_le hr.lt hf.size;have hcell:∀j,V.cell? ⟨p,j,none⟩=w.cell? ⟨p,j,none⟩:=fun j=>hf.cell (p:=⟨p,j,none⟩) hr.lt hr.n2
 refine⟨putL R L' v,rfl,⟨by simpa using hpl,hr.pB,World.cell?_setCell_same _ _ _ ((hcell 0).trans hr.c0),(World.cell?_setCell_other _ _ _ _ (by simp)).trans ((hcell 1).trans hr.c1),(World.cell?_setCell_other _ _ _ _ (by simp)).trans ((hcell 2).trans hr.c2),(World.cell?_setCell_other _ _ _ _ (by simp)).trans ((hcell 3).trans hr.c3),?_,⟨?_,hl,fun j hj=>?_,fun j hj=>(hr.parts.hok j hj).mono hlen,hr.parts.gB,hr.parts.cap,hvg⟩,hr.n1,hvp⟩,rfl,⟨rfl,rfl,rfl,rfl⟩,?_,hv⟩
 ·rw [World.frozen?_setCell];exact(hf.frozen (p:=⟨p,0,none⟩) hr.lt hr.n2).trans hr.f0
 ·exact own_fr hs ho (fun g hg e=>hvp (by have e':g=p:=e;rw [← e'];exact hg))
 ·exact hat_fr (hat_fr (hr.parts.hands j hj) hf hr.parts.ne) hs (fun e=>hr.n1 e.symm)
 ·exact(hf.mono (fun x hx _=>.inr (.inr hx))).trans hs (fun x hx _=>.inl hx)
theorem cells_new(V:World)(k:K)(t:TypeId):CellsK (V.alloc (.cells #[.int .i64 k.hand,.int .i64 k.round,.int .i64 k.frm,.string k.word] t)) V.heap.size 0 k:=⟨by simp,by simp,by simp,by simp⟩
def badOut(L:List K)(hs:Nat→Hd)(bad:Int)(a:Ac):Out:=if decide (0≤bad)&&takesB L ⟨bad,a.round,a.frm,a.word⟩ then ⟨true,L++[⟨bad,a.round,a.frm,a.word⟩],hs⟩ else ⟨false,L,hs⟩
theorem bad_neg{L:List K}{hs:Nat→Hd}{bad:Int}{a:Ac}(h:bad<0):badOut L hs bad a=⟨false,L,hs⟩:=by unfold badOut;rw [decide_eq_false (by omega)];rfl
theorem bad_not{L:List K}{hs:Nat→Hd}{bad:Int}{a:Ac}(h:takesB L ⟨bad,a.round,a.frm,a.word⟩=false):badOut L hs bad a=⟨false,L,hs⟩:=by unfold badOut;rw [h,Bool.and_false];rfl
theorem bad_yes{L:List K}{hs:Nat→Hd}{bad:Int}{a:Ac}(h0:0≤bad)(h:takesB L ⟨bad,a.round,a.frm,a.word⟩=true):badOut L hs bad a=⟨true,L++[⟨bad,a.round,a.frm,a.word⟩],hs⟩:=by unfold badOut;rw [h,decide_eq_true h0];rfl
theorem ro_drewN{B p:Nat}{R:Ro}{w:World}(x:RoAt B w p R)(n:Nat):RoAt B (w.drewN n) p R:=roat_fr (S:=fun _=>False) x ((Fr.refl _ w).drewN n) (fun _ _ h=>h)
theorem dobeg_drewN{B p:Nat}{R:Ro}{a:Ac}{w W:World}(x:DoBeg B p R a w W)(n:Nat):DoBeg B p R a w (W.drewN n):=⟨Lc.below_drewN' x.bel n,ro_drewN x.ro n,x.lt,x.a0,x.a1,x.a2,x.a3,x.a4,x.a5⟩
theorem bad_fin{B p:Nat}{R:Ro}{x:Out}{w X V5:World}{v':Value}{k:K}(hx:x=⟨true,R.L++[k],R.hs⟩)(hr:RoAt B w p R)(hX:Below w.heap.size w X)(ho:V5.ownsRow B 38 4 v' (R.L.length+1) (flat R.L++cellsOf k))(hg:X.grownBy V5 R.lv.ownBlock)(hat:v'.ownBlock=R.lv.ownBlock∨v'.ownBlock=some X.heap.size)(htk:takesB R.L k=true) :
   ∃ao' cap',v'=.slice ao' (R.L.length+1) cap'∧V5.cell? ⟨p,0,none⟩=some R.lv∧V5.frozen? ⟨p,0,none⟩=false∧Hid (DoPost B p R x w (.returned (.bool true)) (V5.setCell ⟨p,0,none⟩ (.slice ao' (R.L.length+1) cap'))):=by
 have hf:Fr (fun x=>R.lv.ownBlock=some x) w V5:=(Fr.of_below hX _).trans (Fr.of_own hg) (fun x hx _=>hx);have hlen:(R.L++[k]).length=R.L.length+1:=by simp
 have ho':V5.ownsRow B 38 4 v' (R.L++[k]).length (flat (R.L++[k])):=by rw [hlen,Lc.flat_snoc];exact ho
 obtain⟨ao',cap',hv,_⟩:=own_lace ho';rw [hlen] at hv;have hD := do_lace true (R.L ++ [k]) v' hx hr hf ho' (lace_snoc hr.parts.lace htk) (by omega) (fun g hg'=>by
   rcases hat with h | h
   · exact .inl (h ▸ hg')
   · rw [h] at hg';injection hg' with hg';exact .inr (by have:=hX.size;omega))
 subst hv;exact⟨ao',cap',rfl,(hf.cell (p:=⟨p,0,none⟩) hr.lt hr.n2).trans hr.c0,(hf.frozen (p:=⟨p,0,none⟩) hr.lt hr.n2).trans hr.f0,hD⟩
theorem doBad(B p:Nat)(R:Ro)(a:Ac)(w:World)(hr:RoAt B w p R)(hk:a.kind=5)(hwd:a.word.size≤1099511627776)(x:Out)(HX:Hid (x=badOut R.L R.hs R.bad a)):Calls Tryz.prog 140 #[.pointer (some ⟨p,0,none⟩),acV a] w (DoPost B p R x w):=by
 obtain⟨kind,who,knot,round,frm,word⟩:=a;obtain rfl:kind=5:=hk;have P0:Hid (DoBeg B p R ⟨5,who,knot,round,frm,word⟩ w (w.alloc (acO ⟨5,who,knot,round,frm,word⟩))):=dobeg _ hr;have HR:Hid (RoAt B w p R):=hr;have hcall:=in3_call who _ rfl;obtain⟨i0,hi,hz0,hz1,hz2⟩:=info_parts Lc.infoKn;clear hr;generalize in3 who=wi at hcall;go_enter Tryz.func140,Tryz.ntmps140
 go_wp2_with fail
 generalize w.alloc (acO ⟨5,who,knot,round,frm,word⟩)=W at P0 ⊢;have c3:=P0.out.ro.c3;obtain⟨_,_,_,a0,a1,a2,a3,a4,a5⟩:=P0.out;go_upto_region 1 with fail
 go_cut [5] (fun g wx=>∃n,wx=W.drewN n∧∃x:Bool,g=.bool x)
 case first=>
   cases wi
   · go_quiet (first | (go_at_call 44;exact(hcall _).mono fun _ _ h=>⟨h.1,_,h.2⟩))
     go_wp2;go_meet;exact⟨_,rfl,_,rfl⟩
   · cases hq1:(who != R.bad)
     · go_quiet (first | (go_at_call 44;exact(hcall _).mono fun _ _ h=>⟨h.1,_,h.2⟩))
       go_wp2;go_meet;exact⟨_,rfl,_,rfl⟩
     · go_quiet (first | (go_at_call 44;exact(hcall _).mono fun _ _ h=>⟨h.1,_,h.2⟩))
       go_wp2;go_meet;exact⟨_,rfl,_,rfl⟩
 case rest=>
   obtain⟨n,rfl,g,rfl⟩:=hcut;have P1:Hid (DoBeg B p R ⟨5,who,knot,round,frm,word⟩ w (W.drewN n)):=dobeg_drewN P0.out n;clear a0 a1 a2 a3 a4 a5 c3 P0 hcall;generalize W.drewN n=W1 at P1 ⊢;have c3:=P1.out.ro.c3;have hplt:=P1.out.ro.lt;obtain⟨_,_,hlt,a0,a1,a2,a3,a4,a5⟩:=P1.out;have HLA:Hid (∀t,CellsK (W1.alloc (.cells #[.int .i64 R.bad,.int .i64 round,.int .i64 frm,.string word] t)) W1.heap.size 0 ⟨R.bad,round,frm,word⟩):=fun t=>cells_new W1 ⟨R.bad,round,frm,word⟩ t
   go_upto_region 3 with fail
   go_cut [6] (fun kp wx=>∃kb:Nat,kp=.pointer (some ⟨kb,0,none⟩)∧Hid (CellsK wx kb 0 ⟨R.bad,round,frm,word⟩∧w.heap.size≤kb∧kb<wx.heap.size∧Below w.heap.size w wx))
   case first=>
     go_region
     all_goals (go_wp2_with fail)
     all_goals go_meet
     all_goals exact⟨_,rfl,⟨(HLA.out _).c0,(HLA.out _).c1,(HLA.out _).c2,(HLA.out _).c3⟩,P1.out.bel.size,by simp,(P1.out.bel.alloc P1.out.bel.size _).drew⟩
   case rest=>
     obtain⟨kb,rfl,HS⟩:=hcut;clear a0 a1 a2 a3 a4 a5 c3 hplt hlt P1 HLA;have HK:Hid (CellsK wc kb 0 ⟨R.bad,round,frm,word⟩):=HS.out.1;have hkl:=HS.out.2.2.1;have HB:Hid (Below w.heap.size w wc):=HS.out.2.2.2;have HRO:Hid (RoAt B wc p R):=roat_below HR.out HB.out;have hpl:=HRO.out.lt;obtain⟨ao,cap,hlv,ho,hz,hcap,hrd,_⟩:=own_lace HRO.out.parts.own;have HRD:Hid (RdK wc ao R.L):=hrd;have HCT:Hid (∀W:World,RdK W ao R.L→Calls Tryz.prog 159 #[.slice ao R.L.length cap,.agg #[.int .i64 R.bad,.int .i64 round,.int .i64 frm,.string word]] W fun e w'=>e=.returned (.bool (takesB R.L ⟨R.bad,round,frm,word⟩))∧Below W.heap.size W w'):=fun W hW=>l3CanTieO ao cap R.L ⟨R.bad,round,frm,word⟩ W ho hz hcap HRO.out.parts.lace hwd hW
     clear HS hrd ho hz hcap hwd;have c0:=HRO.out.c0;have c3:=HRO.out.c3;rw [hlv] at c0;obtain⟨k0,k1,k2,k3⟩:=HK.out;simp only [Nat.zero_add] at k0 k1 k2 k3;by_cases hneg:R.bad<0
     · have HNEG:Hid (R.bad<0):=hneg;go_wp2_with fail
       go_quiet (fail)
       go_wp2;go_ret;exact do_same false (HX.out.trans (bad_neg HNEG.out)) HR.out (Lc.below_drewN' HB.out _)
     · have hneg1:decide (R.bad<0)=false:=decide_eq_false hneg;have HNN:Hid (0≤R.bad):=Int.not_lt.1 hneg;clear hneg;have h60:=((Lc.lace_iff R.L).1 HRO.out.parts.lace).1;go_wp2_with fail
       obtain⟨X,_,F,HF,HG⟩:=Fam.fam wc;have e0:∀z,(F z).cell? ⟨p,0,none⟩=some (.slice ao R.L.length cap):=fun z=>((HF.out z).cell (p:=⟨p,0,none⟩) hpl).trans c0
       have e3:∀z,(F z).cell? ⟨p,3,none⟩=some (.int .i64 R.bad):=fun z=>((HF.out z).cell (p:=⟨p,3,none⟩) hpl).trans c3
       have m0:∀z,(F z).cell? ⟨kb,0,none⟩=some (.int .i64 R.bad):=fun z=>((HF.out z).cell (p:=⟨kb,0,none⟩) hkl).trans k0
       have m1:∀z,(F z).cell? ⟨kb,1,none⟩=some (.int .i64 round):=fun z=>((HF.out z).cell (p:=⟨kb,1,none⟩) hkl).trans k1
       have m2:∀z,(F z).cell? ⟨kb,2,none⟩=some (.int .i64 frm):=fun z=>((HF.out z).cell (p:=⟨kb,2,none⟩) hkl).trans k2
       have m3:∀z,(F z).cell? ⟨kb,3,none⟩=some (.string word):=fun z=>((HF.out z).cell (p:=⟨kb,3,none⟩) hkl).trans k3
       clear c0 c3 k0 k1 k2 k3;refine Fam.region (F:=F) (by kernel_rfl) (by kernel_rfl) (HG.out _ (Below.refl _ wc).drew) ?_
       repeat (go_big_quiet_step (first
         | (go_at_call 159;exact(HCT.out _ (HRD.out.below (HF.out _))).mono fun _ _ h=>⟨h.1,HG.out _ ((HF.out _).trans (h.2.mono (HF.out _).size))⟩)))
       refine wpQuiet_nil ?_;intro w2 hw2;obtain⟨z,rfl⟩:=hw2;have HB2:Hid (Below w.heap.size w (F z)):=HB.out.trans ((HF.out z).mono HB.out.size);have HK2:Hid (CellsK (F z) kb 0 ⟨R.bad,round,frm,word⟩):=HK.out.below (HF.out z) hkl;have hkl2:kb<(F z).heap.size:=Nat.lt_of_lt_of_le hkl (HF.out z).size;have c0:=e0 z;clear e0 e3 m0 m1 m2 m3;generalize F z=W3 at HB2 HK2 hkl2 c0 ⊢;have HRO3:Hid (RoAt B W3 p R):=roat_below HR.out HB2.out;have f0:=HRO3.out.f0;have hpl3:=HRO3.out.lt;have own3:=HRO3.out.parts.own;have hBs:B≤W3.heap.size:=Nat.le_trans HRO3.out.pB (Nat.le_of_lt hpl3);rw [hlv] at own3;obtain⟨k0,k1,k2,k3⟩:=HK2.out;simp only [Nat.zero_add] at k0 k1 k2 k3
       cases htk:takesB R.L ⟨R.bad,round,frm,word⟩
       · have HXN:Hid (x=⟨false,R.L,R.hs⟩):=HX.out.trans (bad_not htk);clear htk;go_wp2;go_ret;exact do_same false HXN.out HR.out HB2.out
       · have HFIN : Hid (∀(X V5:World) (v':Value),Below W3.heap.size W3 X→V5.ownsRow B 38 4 v' (R.L.length+1) (flat R.L++cellsOf ⟨R.bad,round,frm,word⟩)→X.grownBy V5 R.lv.ownBlock→(v'.ownBlock=R.lv.ownBlock∨v'.ownBlock=some X.heap.size) →
             ∃ao' cap',v'=.slice ao' (R.L.length+1) cap'∧V5.cell? ⟨p,0,none⟩=some R.lv∧V5.frozen? ⟨p,0,none⟩=false∧Hid (DoPost B p R x w (.returned (.bool true)) (V5.setCell ⟨p,0,none⟩ (.slice ao' (R.L.length+1) cap')))):=fun X V5 v' hX h1 h2 h3=>bad_fin (HX.out.trans (bad_yes HNN.out htk)) HR.out (HB2.out.trans (hX.mono HB2.out.size)) h1 h2 h3 htk
         rw [hlv] at HFIN;clear htk HK2 HRO3 HRO HRD HCT HF HG;go_wp2_with fail
         go_region_law (first
           | (refine step_own_at rfl (.tmp 55) (.tmp 57) 24 rfl B 38 i0 (.agg #[.int .i64 0,.int .i64 0,.int .i64 0,.string ⟨#[]⟩]) 4 40 Tryz.underlying24 hi hz0 hz1 hz2 rfl (by decide) (.slice ao R.L.length cap) R.L.length (flat R.L) (by simp [Act.eval]) (own3.alloc _) ⟨W3.heap.size,0,none⟩ 1 1 (cellsOf ⟨R.bad,round,frm,word⟩) (by simp [Act.eval]) rfl (Lc.new_cells W3 ⟨R.bad,round,frm,word⟩ _) (fun u hu=>Lc.flat_one [⟨R.bad,round,frm,word⟩] u (by simpa [flat] using hu)) (by unfold maxLen;omega) (by omega) (by simp;omega) ?_
              intro v2 V5 hown2 hgrow2 hat2;have HX:=HFIN.out _ V5 v2 (by first | exact(Below.refl _ W3).alloc (Nat.le_refl _) _ | exact((Below.refl _ W3).alloc (Nat.le_refl _) _).drew | exact(Below.refl _ W3).drew.alloc (Nat.le_refl _) _) hown2 hgrow2 hat2;obtain⟨ao5,cap5,rfl,p5,q5,HE⟩:=HX;clear hown2 hgrow2 hat2))
         all_goals
           go_wp2;go_ret;exact HE.out
end Rm
end
section
namespace Rm
open Kn (K okK)
open Lc (at' RdK laceB WordsOk)
theorem lace_short{L:List K}(h:laceB L=true):∀k∈L,k.word.size≤13:=by
 intro k hk;obtain⟨i,hi,rfl⟩:=List.mem_iff_getElem.1 hk;have:=Lc.can_ok (Lc.lace_upTo h i hi);rw [Lc.at_get L i hi] at this;simp only [okK,Bool.and_eq_true] at this;have h5:=this.2.2.2.2;simp only [Kn.okW,Bool.and_eq_true,decide_eq_true_eq] at h5;omega
theorem lace_words{L:List K}(h:laceB L=true):WordsOk L:=fun k hk=>by have:=lace_short h k hk;omega
structure LArg(w:World)(ao:Option Addr)(cap:Nat)(L:List K):Prop where
 nil:ao=none→L=[]∧cap=0
 cap:L.length≤cap
 words:WordsOk L
 rd:RdK w ao L
 spot:∀x,ao=some x→∃g off,x=⟨g,off,none⟩
theorem LArg.below{w w':World}{ao:Option Addr}{cap:Nat}{L:List K}(h:LArg w ao cap L)(hb:Below w.heap.size w w'):LArg w' ao cap L:=⟨h.nil,h.cap,h.words,h.rd.below hb,h.spot⟩
structure CArg(w:World)(co:Option Addr)(cc:Nat)(C:List Int):Prop where
 nil:co=none→cc=0
 len:C.length≤1048576
 rd:Lst.Rd w co C
 lt:∀g,co=some ⟨g,0,none⟩→g<w.heap.size
theorem rd_below{w w':World}{ao:Option Addr}{l:List Int}(h:Lst.Rd w ao l)(hl:∀g,ao=some ⟨g,0,none⟩→g<w.heap.size)(hb:Below w.heap.size w w'):Lst.Rd w' ao l:=by
 rcases h with h | ⟨g,hg,hc⟩
 ·exact .inl h
 ·exact .inr ⟨g,hg,fun j hj=>(hb.cell (p:=⟨g,j,none⟩) (hl g hg)).trans (hc j hj)⟩
theorem CArg.below{w w':World}{co:Option Addr}{cc:Nat}{C:List Int}(h:CArg w co cc C)(hb:Below w.heap.size w w'):CArg w' co cc C:=
 ⟨h.nil,h.len,rd_below h.rd h.lt hb,fun g hg=>Nat.lt_of_lt_of_le (h.lt g hg) hb.size⟩
structure H4(w:World)(g o:Nat)(h:Hd):Prop where
 c0:w.cell? ⟨g,o,none⟩=some (.int .i64 h.who)
 c1:w.cell? ⟨g,o+1,none⟩=some (.int .i64 h.has)
 c2:w.cell? ⟨g,o+2,none⟩=some (.int .i64 h.kept)
 c3:w.cell? ⟨g,o+3,none⟩=some (.int .i64 h.last)
theorem H4.below{w w':World}{g o:Nat}{h:Hd}(x:H4 w g o h)(hg:g<w.heap.size)(hb:Below w.heap.size w w'):H4 w' g o h:=
 ⟨(hb.cell (p:=⟨g,o,none⟩) hg).trans x.c0,(hb.cell (p:=⟨g,o+1,none⟩) hg).trans x.c1,(hb.cell (p:=⟨g,o+2,none⟩) hg).trans x.c2,(hb.cell (p:=⟨g,o+3,none⟩) hg).trans x.c3⟩
def zeroH:Hd:=⟨0,0,0,0⟩
structure HArg(w:World)(ho:Option Addr)(hc:Nat)(H:List Hd):Prop where
 cap:H.length≤hc
 rd:H=[]∨∃g off,ho=some ⟨g,off,none⟩∧g<w.heap.size∧∀i,i<H.length→H4 w g (off+i*4) (H.getD i zeroH)
theorem HArg.below{w w':World}{ho:Option Addr}{hc:Nat}{H:List Hd}(h:HArg w ho hc H)(hb:Below w.heap.size w w'):HArg w' ho hc H:=
 ⟨h.cap,h.rd.imp id fun⟨g,off,e,hg,hx⟩=>⟨g,off,e,Nat.lt_of_lt_of_le hg hb.size,fun i hi=>(hx i hi).below hg hb⟩⟩
structure RArg(w:World)(ao:Option Addr)(la:Nat)(L:List K)(co:Option Addr)(cc:Nat)(C:List Int)(ho:Option Addr)(hc:Nat)(H:List Hd):Prop where
 l:LArg w ao la L
 c:CArg w co cc C
 h:HArg w ho hc H
theorem RArg.below{w w':World}{ao:Option Addr}{la:Nat}{L:List K}{co:Option Addr}{cc:Nat}{C:List Int}{ho:Option Addr}{hc:Nat}{H:List Hd}(x:RArg w ao la L co cc C ho hc H)(hb:Below w.heap.size w w'):RArg w' ao la L co cc C ho hc H:=⟨x.l.below hb,x.c.below hb,x.h.below hb⟩
structure RoOwn(B:Nat)(w:World)(R:Ro)(L:List K)(C:List Int)(hs:Nat→Hd)(bad:Int):Prop where
 parts:Parts B w R
 l:R.L=L
 h:R.hs=hs
 b:R.bad=bad
 co:∃co cc,R.cv=.slice co C.length cc∧Memb.Own B w co cc C
 ng:R.cv.ownBlock≠some R.gh
def handF(H:List Hd):Nat→Hd:=fun i=>H.getD i zeroH
def hands4(hs:Nat→Hd):List Hd:=[hs 0,hs 1,hs 2,hs 3]
theorem hands4_get(hs:Nat→Hd)(i:Nat)(hi:i<4):(hands4 hs).getD i zeroH=hs i:=by
 match i,hi with
 | 0,_=>rfl
 | 1,_=>rfl
 | 2,_=>rfl
 | 3,_=>rfl
theorem l1CopyE(ad:Addr)(cap:Nat)(w:World):Calls Tryz.prog 60 #[.slice (some ad) 0 cap] w (Sg.NumsPost [] w):=by
 obtain⟨i0,hi,hz0,hz1,hz2⟩:=info_parts Memb.info2;go_enter Tryz.func60,Tryz.ntmps60
 go_wp2_with (at_builtin;refine wpList_append_own _ rfl _ _ 25 rfl w.heap.size 2 i0 (.int .i64 0) 1 8 Tryz.underlying25 hi hz0 hz1 hz2 rfl (by decide) _ 0 [] rfl (Memb.own_empty w) ad 0 cap [] rfl rfl (fun j u h=>by simp at h) (fun u hu=>by cases hu) ?c3 ?c4 ?c5 ?_)
 case c3=>unfold maxLen;omega
 case c4=>omega
 case c5=>simp
 intro v' w5 hown' hgrow _;have HR:Hid (w5.ownsRow w.heap.size 2 1 v' ([]:List Int).length (([]:List Int).map (Value.int .i64))∧Below w.heap.size w w5):=
  ⟨by simpa using hown',((Below.refl w.heap.size w).alloc (Nat.le_refl _) _).grown hgrow (by simp) (fun i hi=>by simp [Value.ownBlock] at hi;omega)⟩
 clear hown' hgrow hi hz0 hz1 hz2;obtain⟨ao,ca,hv,ho⟩:=Memb.own_shape HR.out.1;subst hv;go_wp2;go_ret;exact⟨ao,ca,rfl,ho,HR.out.2⟩
theorem l1CopyA(co:Option Addr)(cc:Nat)(C:List Int)(w:World)(h:CArg w co cc C):Calls Tryz.prog 60 #[.slice co C.length cc] w (Sg.NumsPost C w):=by
 rcases h.rd with e | ⟨g,e,hc⟩
 ·subst e
  cases co with
  | none=>rw [h.nil rfl];exact l1CopyN w
  | some ad=>exact l1CopyE ad cc w
 ·subst e;exact l1Copy g cc C w h.len (h.lt g rfl) (.inr ⟨g,rfl,hc⟩)
end Rm
namespace Rm
open Kn (K okK in3)
open Lc (at' RdK laceB takesB flat OwnK CellsK cellsOf)
theorem own_ne{w:World}{B B':Nat}{t t':TypeId}{s s' n n':Nat}{v v':Value}{xs xs':List Value}(h:w.ownsRow B t s v n xs)(h':w.ownsRow B' t' s' v' n' xs')(ht:t≠t'){g:Nat}(hg:v.ownBlock=some g):v'.ownBlock≠some g:=by
 intro hg';obtain⟨_,⟨hv,_⟩ | ⟨g1,cap,cur,hv,_,hc,_⟩⟩:=h
 ·rw [hv] at hg;simp [Value.ownBlock] at hg
 ·obtain⟨_,⟨hv',_⟩ | ⟨g2,cap',cur',hv',_,hc',_⟩⟩:=h'
  ·rw [hv'] at hg';simp [Value.ownBlock] at hg'
  ·rw [hv] at hg;rw [hv'] at hg';simp [Value.ownBlock] at hg hg';subst hg hg';rw [hc] at hc';injection hc' with hc';injection hc' with _ h2 _;exact ht h2
theorem own_below{w w':World}{B:Nat}{t:TypeId}{s n:Nat}{v:Value}{xs:List Value}(h:w.ownsRow B t s v n xs)(hb:Below w.heap.size w w'):w'.ownsRow B t s v n xs:=own_fr (S:=fun _=>False) (Fr.of_below hb _) h (fun _ _ h=>h)
theorem own_baseT{w:World}{b b':Nat}{t:TypeId}{size n:Nat}{v:Value}{xs:List Value}(h:w.ownsRow b t size v n xs)(hb:b'≤b):w.ownsRow b' t size v n xs:=by
 obtain⟨h1,h2⟩:=h;refine⟨h1,?_⟩;rcases h2 with h2 | ⟨g,cap',cur,hv,hB,rest⟩
 ·exact .inl h2
 ·exact .inr ⟨g,cap',cur,hv,by omega,rest⟩
theorem kA{W V:World}(h:Below W.drew.heap.size W.drew V):Below W.heap.size W V:=⟨h.os,h.tape,h.output,h.size,h.block⟩
theorem kB{W V:World}{o:Obj}(h:Below (W.drew.alloc o).heap.size (W.drew.alloc o) V):Below W.heap.size W V:=kA (((Below.refl _ W.drew).alloc (Nat.le_refl _) o).trans (h.mono (by simp)))
theorem kC{W V:World}{o:Obj}(h:Below (W.alloc o).drew.heap.size (W.alloc o).drew V):Below W.heap.size W V:=((Below.refl _ W).alloc (Nat.le_refl _) o).trans ((kA h).mono (by simp))
theorem kD{W V:World}{o:Obj}(h:Below (W.alloc o).heap.size (W.alloc o) V):Below W.heap.size W V:=((Below.refl _ W).alloc (Nat.le_refl _) o).trans (h.mono (by simp))
theorem kE1{W V:World}{t:TypeId}(h:Below (W.drew.alloc (.cells #[] t)).heap.size (W.drew.alloc (.cells #[] t)) V):V.ownsRow W.heap.size t 4 (.slice (some ⟨W.heap.size,0,none⟩) 0 0) 0 []:=own_below (Lc.own_nil W.drew t) h
theorem kE2{W V:World}{t:TypeId}(h:Below (W.alloc (.cells #[] t)).drew.heap.size (W.alloc (.cells #[] t)).drew V):V.ownsRow W.heap.size t 4 (.slice (some ⟨W.heap.size,0,none⟩) 0 0) 0 []:=own_below (w:=(W.alloc (.cells #[] t)).drew) (Lc.own_nil W t) h
theorem kE3{W V:World}{t:TypeId}(h:Below (W.alloc (.cells #[] t)).heap.size (W.alloc (.cells #[] t)) V):V.ownsRow W.heap.size t 4 (.slice (some ⟨W.heap.size,0,none⟩) 0 0) 0 []:=own_below (Lc.own_nil W t) h
def RoCopyX(L:List K)(C:List Int)(H:List Hd)(bad:Int)(w:World)(e:Ending)(w':World):Prop:=∃R',e=.returned (roV R')∧RoOwn w.heap.size w' R' L C (handF H) bad∧Below w.heap.size w w'
theorem copy_fin{L:List K}{C:List Int}{H:List Hd}{bad:Int}{w W X V:World}{v3:Value}{ao:Option Addr}{ca:Nat}{co:Option Addr}{cc:Nat}{ve:Value}(hl:laceB L=true)(hok:∀i,i<4→HdOk L.length (handF H i))(hw:Below w.heap.size w W)(hlt:w.heap.size+1<W.heap.size)(hX:Below W.heap.size W X)
  (o1:X.ownsRow W.heap.size 38 4 (.slice ao L.length ca) L.length (flat L)) (oc:X.ownsRow W.heap.size 2 1 (.slice co C.length cc) C.length (C.map (Value.int .i64))) (oe:X.ownsRow W.heap.size 186 4 ve 0 []) (o3:V.ownsRow W.heap.size 186 4 v3 4 (flatH (handF H) 4)) (hg:X.grownBy V ve.ownBlock) (q:Q4 W (w.heap.size+1) (.slice none 0 0) (.slice none 0 0) (.slice none 0 0) (.int .i64 0)) :
  ∃g3 c3,v3=.slice (some ⟨g3,0,none⟩) 4 c3∧Q4 V (w.heap.size+1) (.slice none 0 0) (.slice none 0 0) (.slice none 0 0) (.int .i64 0)∧Below W.heap.size W V ∧
   Hid (RoCopyX L C H bad w (.returned (.agg #[.slice ao L.length ca,.slice co C.length cc,.slice (some ⟨g3,0,none⟩) 4 c3,.int .i64 bad])) (qset V (w.heap.size+1) (.slice ao L.length ca) (.slice co C.length cc) (.slice (some ⟨g3,0,none⟩) 4 c3) (.int .i64 bad))):=by
 have hlte:=World.ownsRow.lt oe;have hlt1:=World.ownsRow.lt o1;have hltc:=World.ownsRow.lt oc;have hf:Fr (fun x=>ve.ownBlock=some x) X V:=Fr.of_own hg;have o1V:V.ownsRow W.heap.size 38 4 (.slice ao L.length ca) L.length (flat L):=own_fr hf o1 (fun g hg'=>own_ne o1 oe (by decide) hg');have ocV:V.ownsRow W.heap.size 2 1 (.slice co C.length cc) C.length (C.map (Value.int .i64)):=own_fr hf oc (fun g hg'=>own_ne oc oe (by decide) hg');have hBV:Below W.heap.size W V:=hX.trans (hf.toBelow hX.size (fun x hx=>(hlte x hx).1));obtain⟨g3,c3,hv3,hg3,_,hc3⟩:=own_slice o3;have hq:=qset_fr V (w.heap.size+1) (.slice ao L.length ca) (.slice co C.length cc) v3 (.int .i64 bad);have hqV:=q4_below q hBV;have hne:∀g,(Value.slice ao L.length ca).ownBlock=some g→¬ g=w.heap.size+1:=fun g hg' e=>by have:=(hlt1 g hg').1;omega
 have hnc:∀g,(Value.slice co C.length cc).ownBlock=some g→¬ g=w.heap.size+1:=fun g hg' e=>by have:=(hltc g hg').1;omega
 refine⟨g3,c3,hv3,hqV,hBV,⟨⟨L,.slice ao L.length ca,.slice co C.length cc,g3,c3,handF H,bad⟩,rfl,⟨?_,rfl,rfl,rfl,⟨co,cc,rfl,?_⟩,?_⟩,?_⟩⟩
 ·rw [← hv3];have o3':=o3;rw [hv3] at o3';refine⟨own_baseT (own_fr hq o1V hne) hw.size,hl,fun i hi=>hat_fr (own_hands o3' i hi) hq (fun e=>by have e':g3=w.heap.size+1:=e;omega),hok,by have:=hw.size;show w.heap.size≤g3;omega,by show 4≤c3;omega,?_⟩;show(Value.slice ao L.length ca).ownBlock≠some g3;intro e;exact own_ne o1V o3 (by decide) e (by rw [hv3];rfl)
 ·rw [← hv3];exact own_baseT (own_fr hq ocV hnc) hw.size
 ·show(Value.slice co C.length cc).ownBlock≠some g3;intro e;exact own_ne ocV o3 (by decide) e (by rw [hv3];rfl)
 ·rw [← hv3];exact(hw.trans (hBV.mono hw.size)).trans (hq.toBelow (Nat.le_trans hw.size hBV.size) (fun x hx=>by omega))
theorem rd_hands{w:World}{g off:Nat}{hs:Nat→Hd}(h:∀i,i<4→H4 w g (off+i*4) (hs i)):∀(j:Nat) u,(flatH hs 4)[j]? = some u→w.cell? ((⟨g,off,none⟩:Addr).add j)=some u:=by
 intro j u hj;have hlt:j<4*4:=by
  have:=(List.getElem?_eq_some_iff.1 hj).1;rwa [flatH_len] at this
 have e:j=j / 4*4+j % 4:=by omega
 have hh:=h (j / 4) (by omega);rw [e,flatH_at hs 4 (j / 4) (j % 4) (by omega) (by omega)] at hj;rw [WideShapes.add_plain,e,← Nat.add_assoc];generalize j % 4=c at hj;generalize j / 4=i at hj hh;match c,hj with
 | 0,hj=>simp [hcells] at hj;subst hj;exact hh.c0
 | 1,hj=>simp [hcells] at hj;subst hj;exact hh.c1
 | 2,hj=>simp [hcells] at hj;subst hj;exact hh.c2
 | 3,hj=>simp [hcells] at hj;subst hj;exact hh.c3
 | c+4,hj=>simp [hcells] at hj
theorem l18CopyX(ao:Option Addr)(cap:Nat)(L:List K)(co:Option Addr)(cc:Nat)(C:List Int)(ho:Option Addr)(hc:Nat)(H:List Hd)(bad:Int)(w:World)(hx:RArg w ao cap L co cc C ho hc H)(hl:laceB L=true)(h4:H.length=4)(hok:∀i,i<4→HdOk L.length (handF H i)) :
   Calls Tryz.prog 156 #[.agg #[.slice ao L.length cap,.slice co C.length cc,.slice ho H.length hc,.int .i64 bad]] w (RoCopyX L C H bad w):=by
 obtain⟨i0,hi,hz0,hz1,hz2⟩:=info_parts infoH;obtain⟨g,off,rfl,hg,hh⟩:=hx.h.rd.resolve_left (fun e=>by rw [e] at h4;simp at h4);have h60:=((Lc.lace_iff L).1 hl).1;have P0:Hid (Below w.heap.size w ((w.alloc (.cells #[.slice ao L.length cap,.slice co C.length cc,.slice (some ⟨g,off,none⟩) 4 hc,.int .i64 bad] 137)).alloc (.cells #[.slice none 0 0,.slice none 0 0,.slice none 0 0,.int .i64 0] 137))∧Q4 ((w.alloc (.cells #[.slice ao L.length cap,.slice co C.length cc,.slice (some ⟨g,off,none⟩) 4 hc,.int .i64 bad] 137)).alloc (.cells #[.slice none 0 0,.slice none 0 0,.slice none 0 0,.int .i64 0] 137)) w.heap.size (.slice ao L.length cap) (.slice co C.length cc) (.slice (some ⟨g,off,none⟩) 4 hc) (.int .i64 bad)∧Q4 ((w.alloc (.cells #[.slice ao L.length cap,.slice co C.length cc,.slice (some ⟨g,off,none⟩) 4 hc,.int .i64 bad] 137)).alloc (.cells #[.slice none 0 0,.slice none 0 0,.slice none 0 0,.int .i64 0] 137)) (w.heap.size+1) (.slice none 0 0) (.slice none 0 0) (.slice none 0 0) (.int .i64 0)):=by
   refine⟨((Below.refl _ w).alloc (Nat.le_refl _) _).alloc (by simp) _,q4_below (q4_new w _ _ _ _ _) ((Below.refl _ _).alloc (Nat.le_refl _) _),?_⟩;have:=q4_new (w.alloc (.cells #[.slice ao L.length cap,.slice co C.length cc,.slice (some ⟨g,off,none⟩) 4 hc,.int .i64 bad] 137)) (.slice none 0 0) (.slice none 0 0) (.slice none 0 0) (.int .i64 0) 137;simpa using this
 have HLC:Hid (∀X:World,Below w.heap.size w X→Calls Tryz.prog 114 #[.slice ao L.length cap] X (Lc.CopyPost L X)):=fun X hX=>l3CopyO ao cap L X hx.l.nil (fun x e=>by obtain⟨_,_,rfl⟩:=hx.l.spot x e;rfl) (by omega) (hx.l.rd.below hX)
 have HCC:Hid (∀X:World,Below w.heap.size w X→Calls Tryz.prog 60 #[.slice co C.length cc] X (Sg.NumsPost C X)):=fun X hX=>l1CopyA co cc C X (hx.c.below hX)
 have HHH:Hid (∀X:World,Below w.heap.size w X→∀i,i<4→H4 X g (off+i*4) (handF H i)):=fun X hX i hi=>(hh i (by omega)).below hg hX
 have HL:Hid (laceB L=true):=hl;have HOK:Hid (∀i,i<4→HdOk L.length (handF H i)):=hok;rw [h4];clear hx hl hok hh;go_enter Tryz.func156,Tryz.ntmps156
 go_wp2_with fail
 generalize (w.alloc (.cells #[.slice ao L.length cap,.slice co C.length cc,.slice (some ⟨g,off,none⟩) 4 hc,.int .i64 bad] 137)).alloc (.cells #[.slice none 0 0,.slice none 0 0,.slice none 0 0,.int .i64 0] 137)=W at P0 ⊢;obtain⟨hb0,a0,a1,a2,a3,_,_,_,_⟩:=P0.out.2.1;have hW:=P0.out.1;have HSB:Hid (∀X:World,Below W.heap.size W X→X.cell? ⟨w.heap.size,0,none⟩=some (.slice ao L.length cap)∧X.cell? ⟨w.heap.size,1,none⟩=some (.slice co C.length cc)∧X.cell? ⟨w.heap.size,2,none⟩=some (.slice (some ⟨g,off,none⟩) 4 hc)∧X.cell? ⟨w.heap.size,3,none⟩=some (.int .i64 bad)):=fun X hX=>
   ⟨(hX.cell (p:=⟨w.heap.size,0,none⟩) hb0).trans a0,(hX.cell (p:=⟨w.heap.size,1,none⟩) hb0).trans a1,(hX.cell (p:=⟨w.heap.size,2,none⟩) hb0).trans a2,(hX.cell (p:=⟨w.heap.size,3,none⟩) hb0).trans a3⟩
 go_region_held3 (fun X => X.cell? ⟨w.heap.size, 0, none⟩ = some (.slice ao L.length cap) ∧ X.cell? ⟨w.heap.size, 1, none⟩ = some (.slice co C.length cc) ∧ X.cell? ⟨w.heap.size, 2, none⟩ = some (.slice (some ⟨g, off, none⟩) 4 hc) ∧ X.cell? ⟨w.heap.size, 3, none⟩ = some (.int .i64 bad)) (first | exact HSB.out _ B3 | exact HSB.out _ B2 | exact HSB.out _ (B2.alloc B2.size _) | exact HSB.out _ B1 | exact HSB.out _ (B1.alloc B1.size _) | exact HSB.out _ (Below.refl _ _).drew | exact HSB.out _ ((Below.refl _ _).alloc (Nat.le_refl _) _).drew | exact HSB.out _ ((Below.refl _ _).drew.alloc (Nat.le_refl _) _) | go_keep) (first
   | (refine step_own_at rfl (.tmp 9) (.tmp 11) 135 rfl W.heap.size 186 i0 (.agg #[.int .i64 0,.int .i64 0,.int .i64 0,.int .i64 0]) 4 32 Tryz.underlying135 hi hz0 hz1 hz2 rfl (by decide) (.slice (some ⟨V2.heap.size,0,none⟩) 0 0) 0 [] (by simp [Act.eval]) (own_baseT (Lc.own_nil V2 _) B2.size) ⟨g,off,none⟩ 4 hc (flatH (handF H) 4) (by simp [Act.eval]) (flatH_len _ _) (rd_hands (HHH.out _ (hBw2.alloc hBw2.size _))) (flatH_one _ _) (by unfold maxLen;omega) (by omega) (by have:=B2.size;simp;omega) ?_
      intro v3 V3 hown3 hgrow3 _;obtain⟨g3,c3,rfl,q3,B3,HE⟩:=copy_fin (co:=co2) (cc:=cc2) (bad:=bad) HL.out HOK.out hW P0.out.2.2.lt (B2.alloc B2.size _) (O2.alloc _) (OC2.alloc _) (own_baseT (Lc.own_nil V2 _) B2.size) (by simpa using hown3) hgrow3 P0.out.2.2;have HQ:Hid _:=q4_put q3 (.slice ao1 L.length cap1) (.slice co2 C.length cc2) (.slice (some ⟨g3,0,none⟩) 4 c3) (.int .i64 bad);have e33:=(B3.cell (p:=⟨w.heap.size,3,none⟩) hb0).trans a3;obtain⟨_,r0,r1,r2,r3,f0,f1,f2,f3⟩:=q3;clear hown3 hgrow3)
   | (refine step_own_at rfl (.tmp 9) (.tmp 11) 135 rfl W.heap.size 186 i0 (.agg #[.int .i64 0,.int .i64 0,.int .i64 0,.int .i64 0]) 4 32 Tryz.underlying135 hi hz0 hz1 hz2 rfl (by decide) _ 0 [] (by simp [Act.eval]) (own_baseT E2 (by first | exact Nat.le_refl _ | exact B1.size)) ⟨g,off,none⟩ 4 hc (flatH (handF H) 4) (by simp [Act.eval]) (flatH_len _ _) (rd_hands (HHH.out _ hBw2)) (flatH_one _ _) (by unfold maxLen;omega) (by omega) B2.size ?_
      intro v3 V3 hown3 hgrow3 _;obtain⟨g3,c3,rfl,q3,B3,HE⟩:=copy_fin (co:=co2) (cc:=cc2) (bad:=bad) HL.out HOK.out hW P0.out.2.2.lt B2 O2 OC2 (own_baseT E2 (by first | exact Nat.le_refl _ | exact B1.size)) (by simpa using hown3) hgrow3 P0.out.2.2;have HQ:Hid _:=q4_put q3 (.slice ao1 L.length cap1) (.slice co2 C.length cc2) (.slice (some ⟨g3,0,none⟩) 4 c3) (.int .i64 bad);have e33:=(B3.cell (p:=⟨w.heap.size,3,none⟩) hb0).trans a3;obtain⟨_,r0,r1,r2,r3,f0,f1,f2,f3⟩:=q3;clear hown3 hgrow3)
   | (go_at_call 114
      refine(HLC.out _ (by first | exact hW.drew | exact(hW.alloc hW.size _).drew | exact hW.drew.alloc hW.size _)).mono ?_;rintro e V1 ⟨v1,rfl,O1',b1⟩
      (first | have B1:Below W.heap.size W V1:=kC b1 | have B1:Below W.heap.size W V1:=kB b1 | have B1:Below W.heap.size W V1:=kA b1)
      (first | have E:=kE1 b1 | have E:=kE2 b1 | skip)
      have O1:V1.ownsRow W.heap.size 38 4 v1 L.length (flat L):=own_baseT O1'.1 (by simp);obtain⟨ao1,cap1,hv1,_⟩:=own_lace O1;subst hv1;have hBw:Below w.heap.size w V1:=hW.trans (B1.mono hW.size);have hb1:w.heap.size<V1.heap.size:=Nat.lt_of_lt_of_le hb0 B1.size;clear O1' b1)
   | (go_at_call 60
      refine(HCC.out _ (by first | exact hBw | exact hBw.alloc hBw.size _)).mono ?_;rintro e V2 ⟨co2,cc2,rfl,hc2,b2⟩
      (first | have B2:Below W.heap.size W V2:=B1.trans ((kD b2).mono B1.size) | have B2:Below W.heap.size W V2:=B1.trans (b2.mono B1.size))
      (first | have E2:=kE3 b2 | have E2:=own_below E b2 | skip)
      (first | have O2:=own_below O1 b2 | have O2:=own_below (O1.alloc _) b2)
      have OC2:V2.ownsRow W.heap.size 2 1 (.slice co2 C.length cc2) C.length (C.map (Value.int .i64)):=own_baseT hc2 (by first | exact B1.size | (rw [World.size_alloc];exact Nat.le_trans B1.size (Nat.le_succ _)));have hBw2:Below w.heap.size w V2:=hW.trans (B2.mono hW.size);have hb2:w.heap.size<V2.heap.size:=Nat.lt_of_lt_of_le hb0 B2.size;clear b2)
   | fail)
 all_goals
   go_wp2;obtain⟨_,y0,y1,y2,y3,_,_,_,_⟩:=HQ.out;unfold qset at y0 y1 y2 y3;exact bodyPost_ret (v:=.agg #[.slice ao1 L.length cap1,.slice co2 C.length cc2,.slice (some ⟨g3,0,none⟩) 4 c3,.int .i64 bad]) (by simp [results,Tryz.results156,go_sem,y0,y1,y2,y3]) rfl HE.out
def RoCopy(R:Ro)(w:World)(e:Ending)(w':World):Prop:=∃R',e=.returned (roV R')∧Parts w.heap.size w' R'∧R'.bad=R.bad∧(∃co n cc,R'.cv=.slice co n cc)∧(∃ao n ca,R'.lv=.slice ao n ca)∧Below w.heap.size w w'
theorem rarg_of{B:Nat}{R:Ro}{w:World}{co:Option Addr}{cc:Nat}{C:List Int}(hp:Parts B w R)(hc:CArg w co cc C)(hcv:R.cv=.slice co C.length cc):∃ao cap,R.lv=.slice ao R.L.length cap∧roV R=.agg #[.slice ao R.L.length cap,.slice co C.length cc,.slice (some ⟨R.gh,0,none⟩) (hands4 R.hs).length R.hc,.int .i64 R.bad]∧RArg w ao cap R.L co cc C (some ⟨R.gh,0,none⟩) R.hc (hands4 R.hs):=by
 obtain⟨ao,cap,hlv,ho,hz,hcp,hrd,hlt⟩:=own_lace hp.own;have hw:=lace_words hp.lace;refine⟨ao,cap,hlv,by unfold roV;rw [hlv,hcv];rfl,⟨ho,hcp,hw,hrd,fun x e=>?_⟩,hc,hp.cap,.inr ⟨R.gh,0,rfl,(hp.hands 0 (by omega)).lt,fun i hi=>?_⟩⟩
 ·obtain⟨b,off,sp⟩:=x;obtain rfl:=hz _ e;exact⟨b,off,rfl⟩
 ·rw [hands4_get R.hs i hi,Nat.zero_add];have h:=hp.hands i hi;exact⟨h.c0,h.c1,h.c2,h.c3⟩
theorem handF4(hs:Nat→Hd)(i:Nat)(hi:i<4):handF (hands4 hs) i=hs i:=hands4_get hs i hi
theorem l18Copy(B:Nat)(R:Ro)(w:World)(hp:Parts B w R)(hco:CoinsAt w R.cv):Calls Tryz.prog 156 #[roV R] w (RoCopy R w):=by
 obtain⟨co,cc,C,hcv,h1,h2,h3,h4⟩:=hco;obtain⟨ao,cap,_,hrv,hra⟩:=rarg_of hp ⟨fun e=>(h1 e).2,by omega,h4,fun g e=>by obtain⟨g',e',hlt⟩:=h2 _ e;cases e';exact hlt⟩ hcv;rw [hrv];refine(l18CopyX ao cap R.L co cc C _ R.hc (hands4 R.hs) R.bad w hra hp.lace rfl (fun i hi=>by rw [handF4 R.hs i hi];exact hp.hok i hi)).mono ?_;rintro e w' ⟨R',rfl,⟨hp',_,_,hbd,⟨co',cc',hcv',_⟩,_⟩,hb⟩;obtain⟨ao',cap',hlv',_⟩:=own_lace hp'.own;exact⟨R',rfl,hp',hbd,⟨co',_,cc',hcv'⟩,⟨ao',_,cap',hlv'⟩,hb⟩
end Rm
namespace Rm
open Kn (K okK in3)
open Lc (at' RdK laceB takesB flat OwnK CellsK cellsOf)
open Cur (At)
structure Q6(w:World)(p:Nat)(a:Ac):Prop where
 lt:p<w.heap.size
 c0:w.cell? ⟨p,0,none⟩=some (.int .i64 a.kind)
 c1:w.cell? ⟨p,1,none⟩=some (.int .i64 a.who)
 c2:w.cell? ⟨p,2,none⟩=some (.int .i64 a.knot)
 c3:w.cell? ⟨p,3,none⟩=some (.int .i64 a.round)
 c4:w.cell? ⟨p,4,none⟩=some (.int .i64 a.frm)
 c5:w.cell? ⟨p,5,none⟩=some (.string a.word)
 f0:w.frozen? ⟨p,0,none⟩=false
 f1:w.frozen? ⟨p,1,none⟩=false
 f2:w.frozen? ⟨p,2,none⟩=false
 f3:w.frozen? ⟨p,3,none⟩=false
 f4:w.frozen? ⟨p,4,none⟩=false
 f5:w.frozen? ⟨p,5,none⟩=false
theorem q6_fr{S:Nat→Prop}{w w':World}{p:Nat}{a:Ac}(x:Q6 w p a)(hf:Fr S w w')(hn:¬ S p):Q6 w' p a where
 lt:=Nat.lt_of_lt_of_le x.lt hf.size
 c0:=(hf.cell (p:=⟨p,0,none⟩) x.lt hn).trans x.c0
 c1:=(hf.cell (p:=⟨p,1,none⟩) x.lt hn).trans x.c1
 c2:=(hf.cell (p:=⟨p,2,none⟩) x.lt hn).trans x.c2
 c3:=(hf.cell (p:=⟨p,3,none⟩) x.lt hn).trans x.c3
 c4:=(hf.cell (p:=⟨p,4,none⟩) x.lt hn).trans x.c4
 c5:=(hf.cell (p:=⟨p,5,none⟩) x.lt hn).trans x.c5
 f0:=(hf.frozen (p:=⟨p,0,none⟩) x.lt hn).trans x.f0
 f1:=(hf.frozen (p:=⟨p,1,none⟩) x.lt hn).trans x.f1
 f2:=(hf.frozen (p:=⟨p,2,none⟩) x.lt hn).trans x.f2
 f3:=(hf.frozen (p:=⟨p,3,none⟩) x.lt hn).trans x.f3
 f4:=(hf.frozen (p:=⟨p,4,none⟩) x.lt hn).trans x.f4
 f5:=(hf.frozen (p:=⟨p,5,none⟩) x.lt hn).trans x.f5
theorem q6_below{w w':World}{p:Nat}{a:Ac}(x:Q6 w p a)(hb:Below w.heap.size w w'):Q6 w' p a:=q6_fr (S:=fun _=>False) x (Fr.of_below hb _) (fun h=>h)
theorem q6_new(w:World)(a:Ac)(t:TypeId):Q6 (w.alloc (.cells #[.int .i64 a.kind,.int .i64 a.who,.int .i64 a.knot,.int .i64 a.round,.int .i64 a.frm,.string a.word] t)) w.heap.size a:=⟨by simp,by simp,by simp,by simp,by simp,by simp,by simp,by simp,by simp,by simp,by simp,by simp,by simp⟩
def zeroA:Ac:=⟨0,0,0,0,0,⟨#[]⟩⟩
theorem q6_0{w:World}{p:Nat}{a:Ac}(x:Q6 w p a)(y:Int):Q6 (w.setCell ⟨p,0,none⟩ (.int .i64 y)) p { a with kind:=y }:=
 ⟨by simpa using x.lt,World.cell?_setCell_same _ _ _ x.c0,(World.cell?_setCell_other _ _ _ _ (by simp)).trans x.c1,(World.cell?_setCell_other _ _ _ _ (by simp)).trans x.c2,(World.cell?_setCell_other _ _ _ _ (by simp)).trans x.c3,(World.cell?_setCell_other _ _ _ _ (by simp)).trans x.c4,(World.cell?_setCell_other _ _ _ _ (by simp)).trans x.c5,by simpa using x.f0,by simpa using x.f1,by simpa using x.f2,by simpa using x.f3,by simpa using x.f4,by simpa using x.f5⟩
theorem q6_1{w:World}{p:Nat}{a:Ac}(x:Q6 w p a)(y:Int):Q6 (w.setCell ⟨p,1,none⟩ (.int .i64 y)) p { a with who:=y }:=
 ⟨by simpa using x.lt,(World.cell?_setCell_other _ _ _ _ (by simp)).trans x.c0,World.cell?_setCell_same _ _ _ x.c1,(World.cell?_setCell_other _ _ _ _ (by simp)).trans x.c2,(World.cell?_setCell_other _ _ _ _ (by simp)).trans x.c3,(World.cell?_setCell_other _ _ _ _ (by simp)).trans x.c4,(World.cell?_setCell_other _ _ _ _ (by simp)).trans x.c5,by simpa using x.f0,by simpa using x.f1,by simpa using x.f2,by simpa using x.f3,by simpa using x.f4,by simpa using x.f5⟩
theorem q6_2{w:World}{p:Nat}{a:Ac}(x:Q6 w p a)(y:Int):Q6 (w.setCell ⟨p,2,none⟩ (.int .i64 y)) p { a with knot:=y }:=
 ⟨by simpa using x.lt,(World.cell?_setCell_other _ _ _ _ (by simp)).trans x.c0,(World.cell?_setCell_other _ _ _ _ (by simp)).trans x.c1,World.cell?_setCell_same _ _ _ x.c2,(World.cell?_setCell_other _ _ _ _ (by simp)).trans x.c3,(World.cell?_setCell_other _ _ _ _ (by simp)).trans x.c4,(World.cell?_setCell_other _ _ _ _ (by simp)).trans x.c5,by simpa using x.f0,by simpa using x.f1,by simpa using x.f2,by simpa using x.f3,by simpa using x.f4,by simpa using x.f5⟩
theorem q6_3{w:World}{p:Nat}{a:Ac}(x:Q6 w p a)(y:Int):Q6 (w.setCell ⟨p,3,none⟩ (.int .i64 y)) p { a with round:=y }:=
 ⟨by simpa using x.lt,(World.cell?_setCell_other _ _ _ _ (by simp)).trans x.c0,(World.cell?_setCell_other _ _ _ _ (by simp)).trans x.c1,(World.cell?_setCell_other _ _ _ _ (by simp)).trans x.c2,World.cell?_setCell_same _ _ _ x.c3,(World.cell?_setCell_other _ _ _ _ (by simp)).trans x.c4,(World.cell?_setCell_other _ _ _ _ (by simp)).trans x.c5,by simpa using x.f0,by simpa using x.f1,by simpa using x.f2,by simpa using x.f3,by simpa using x.f4,by simpa using x.f5⟩
theorem q6_4{w:World}{p:Nat}{a:Ac}(x:Q6 w p a)(y:Int):Q6 (w.setCell ⟨p,4,none⟩ (.int .i64 y)) p { a with frm:=y }:=
 ⟨by simpa using x.lt,(World.cell?_setCell_other _ _ _ _ (by simp)).trans x.c0,(World.cell?_setCell_other _ _ _ _ (by simp)).trans x.c1,(World.cell?_setCell_other _ _ _ _ (by simp)).trans x.c2,(World.cell?_setCell_other _ _ _ _ (by simp)).trans x.c3,World.cell?_setCell_same _ _ _ x.c4,(World.cell?_setCell_other _ _ _ _ (by simp)).trans x.c5,by simpa using x.f0,by simpa using x.f1,by simpa using x.f2,by simpa using x.f3,by simpa using x.f4,by simpa using x.f5⟩
theorem q6_5{w:World}{p:Nat}{a:Ac}(x:Q6 w p a)(y:ByteArray):Q6 (w.setCell ⟨p,5,none⟩ (.string y)) p { a with word:=y }:=
 ⟨by simpa using x.lt,(World.cell?_setCell_other _ _ _ _ (by simp)).trans x.c0,(World.cell?_setCell_other _ _ _ _ (by simp)).trans x.c1,(World.cell?_setCell_other _ _ _ _ (by simp)).trans x.c2,(World.cell?_setCell_other _ _ _ _ (by simp)).trans x.c3,(World.cell?_setCell_other _ _ _ _ (by simp)).trans x.c4,World.cell?_setCell_same _ _ _ x.c5,by simpa using x.f0,by simpa using x.f1,by simpa using x.f2,by simpa using x.f3,by simpa using x.f4,by simpa using x.f5⟩
def set6(V:World)(p:Nat)(a:Ac):World:=(((((V.setCell ⟨p,0,none⟩ (.int .i64 a.kind)).setCell ⟨p,1,none⟩ (.int .i64 a.who)).setCell ⟨p,2,none⟩ (.int .i64 a.knot)).setCell ⟨p,3,none⟩ (.int .i64 a.round)).setCell ⟨p,4,none⟩ (.int .i64 a.frm)).setCell ⟨p,5,none⟩ (.string a.word)
theorem set6_at{V:World}{p:Nat}{b a:Ac}(x:Q6 V p b):Q6 (set6 V p a) p a:=q6_5 (q6_4 (q6_3 (q6_2 (q6_1 (q6_0 x a.kind) a.who) a.knot) a.round) a.frm) a.word
theorem set6_fr(V:World)(p:Nat)(a:Ac):Fr (fun x=>x=p) V (set6 V p a):=
 (((((Fr.set V ⟨p,0,none⟩ _).trans (Fr.set _ ⟨p,1,none⟩ _) (fun _ hx _=>hx)).trans (Fr.set _ ⟨p,2,none⟩ _) (fun _ hx _=>hx)).trans (Fr.set _ ⟨p,3,none⟩ _) (fun _ hx _=>hx)).trans (Fr.set _ ⟨p,4,none⟩ _) (fun _ hx _=>hx)).trans (Fr.set _ ⟨p,5,none⟩ _) (fun _ hx _=>hx)
theorem rdK_fr{S:Nat→Prop}{w w':World}{ao:Option Addr}{L:List K}(h:RdK w ao L)(hf:Fr S w w')(hn:∀x,ao=some x→¬ S x.block):RdK w' ao L:=by
 rcases h with h | ⟨g,off,ha,hg,hc⟩
 ·exact .inl h
 ·have hs:¬ S g:=hn _ ha;exact .inr ⟨g,off,ha,Nat.lt_of_lt_of_le hg hf.size,fun i hi=>⟨(hf.cell (p:=⟨g,off+i*4,none⟩) hg hs).trans (hc i hi).c0,(hf.cell (p:=⟨g,off+i*4+1,none⟩) hg hs).trans (hc i hi).c1,(hf.cell (p:=⟨g,off+i*4+2,none⟩) hg hs).trans (hc i hi).c2,(hf.cell (p:=⟨g,off+i*4+3,none⟩) hg hs).trans (hc i hi).c3⟩⟩
structure AcSt(c:Nat)(a:Option Addr)(len cap:Nat)(w wr:World)(v0 v1 v2 v3:Value)(ab:Nat)(x:Ac):Prop where
 at':At c a len cap wr
 fr:FrC c w wr
 box:Q4 wr w.heap.size v0 v1 v2 v3
 res:Q6 wr (w.heap.size+1) zeroA
 act:Q6 wr ab x
 gt:w.heap.size+1<ab
theorem ac_cur{c:Nat}{a:Option Addr}{len cap:Nat}{w wr w1:World}{v0 v1 v2 v3:Value}{ab:Nat}{x:Ac}(s:AcSt c a len cap w wr v0 v1 v2 v3 ab x)(hc:c<w.heap.size)(hA:At c a len cap w1)(hG:wr.grownBy w1 (some c)):AcSt c a len cap w w1 v0 v1 v2 v3 ab x:=
 have hf:Fr (fun y=>y=c) wr w1:=Fr.of_grown hG;have h3:=s.gt
 ⟨hA,s.fr.trans hf (fun _ hx _=>hx),q4_fr s.box hf (by omega),q6_fr s.res hf (by omega),q6_fr s.act hf (by omega),s.gt⟩
theorem ac_put{c:Nat}{a:Option Addr}{len cap:Nat}{w wr w1:World}{v0 v1 v2 v3:Value}{ab:Nat}{x x':Ac}(s:AcSt c a len cap w wr v0 v1 v2 v3 ab x)(hcb:CurB c a len w.heap.size)(hf:Fr (fun y=>y=ab) wr w1)(hq:Q6 w1 ab x'):AcSt c a len cap w w1 v0 v1 v2 v3 ab x':=
 have h3:=s.gt
 ⟨at_belowB s.at' hcb (hf.toBelow s.fr.size (fun y hy=>by omega)),s.fr.trans hf (fun y hy hl=>by omega),q4_fr s.box hf (by omega),q6_fr s.res hf (by omega),hq,s.gt⟩
theorem ac_below{c:Nat}{a:Option Addr}{len cap:Nat}{w wr w1:World}{v0 v1 v2 v3:Value}{ab:Nat}{x:Ac}(s:AcSt c a len cap w wr v0 v1 v2 v3 ab x)(hcb:CurB c a len w.heap.size)(hb:Below wr.heap.size wr w1):AcSt c a len cap w w1 v0 v1 v2 v3 ab x:=ac_put s hcb (Fr.of_below hb _) (q6_below s.act hb)
def AcPost(c:Nat)(a:Option Addr)(len cap:Nat)(w:World)(e:Ending)(w':World):Prop:=∃x:Ac,e=.returned (acV x)∧x.word.size≤13∧At c a len cap w'∧FrC c w w'
theorem ac_fin{c:Nat}{a:Option Addr}{len cap:Nat}{w wr:World}{v0 v1 v2 v3:Value}{ab:Nat}{x:Ac}(s:AcSt c a len cap w wr v0 v1 v2 v3 ab x)(hcb:CurB c a len w.heap.size)(hw:x.word.size≤13):AcPost c a len cap w (.returned (acV x)) (set6 wr (w.heap.size+1) x):=
 have hf:=set6_fr wr (w.heap.size+1) x
 ⟨x,rfl,hw,at_belowB s.at' hcb (hf.toBelow s.fr.size (fun y hy=>by omega)),s.fr.trans hf (fun y hy hl=>by omega)⟩
theorem ac_beg{c:Nat}{a:Option Addr}{len cap:Nat}{w W w1:World}{v0 v1 v2 v3:Value}(hc:c<w.heap.size)(hcb:CurB c a len w.heap.size)(hW:Below w.heap.size w W)(hq:Q4 W w.heap.size v0 v1 v2 v3)(hr:Q6 W (w.heap.size+1) zeroA)(hA:At c a len cap w1)(hG:Fr (fun y=>y=c) W w1)(x:Ac)(t:TypeId) :
  AcSt c a len cap w (w1.alloc (.cells #[.int .i64 x.kind,.int .i64 x.who,.int .i64 x.knot,.int .i64 x.round,.int .i64 x.frm,.string x.word] t)) v0 v1 v2 v3 w1.heap.size x:=by
 have hb:Below w1.heap.size w1 (w1.alloc (.cells #[.int .i64 x.kind,.int .i64 x.who,.int .i64 x.knot,.int .i64 x.round,.int .i64 x.frm,.string x.word] t)):=(Below.refl _ _).alloc (Nat.le_refl _) _;have hW1:w.heap.size≤w1.heap.size:=Nat.le_trans hW.size hG.size;refine⟨at_belowB hA hcb (hb.mono hW1),((Fr.of_below hW _).trans hG (fun _ hx _=>hx)).trans (Fr.of_below hb (fun _=>False)) (fun _ hx _=>hx.elim),q4_below (q4_fr hq hG (by omega)) hb,q6_below (q6_fr hr hG (by omega)) hb,q6_new w1 x t,Nat.lt_of_lt_of_le hr.lt hG.size⟩
end Rm
end
end Go.Proofs.YtbkeldfbllhlbaaGreat
