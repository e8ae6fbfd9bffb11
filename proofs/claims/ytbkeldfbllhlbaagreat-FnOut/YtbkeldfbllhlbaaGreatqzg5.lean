/-
 What the model's order answers: by rounds, then by hands, then by numbers; for laces.
 What the model's Earlier, ChainOf and OnChain answer: from leader to leader; for coins of at most a million numbers and lists of knots whose words have at most 2^40 bytes.
-/
import Derived.Test.YtbkeldfbllhlbaaGreatqzg4
import Derived.Maps.AppendAt
set_option linter.unusedVariables false
set_option maxRecDepth 100000
set_option maxHeartbeats 12800000
namespace Go.Proofs.YtbkeldfbllhlbaaGreat
open Go.RowKit
namespace Ch
open Kn (K okK)
open Bit (bit withB)
open Lc (at' RdK WordsOk laceB)
open Sg (isB bel belows NumsPost)
open Db (RowI)
open Sl (sealS sealN)
open Rm (coinsB)
structure TabsL(w:World)(L:List K)(bb h:Nat):Prop where
 bel:∀i,i<L.length→w.cell? ⟨bb,i,none⟩=some (.int .i64 (Sg.bel L i))
 sl:∀i,i<L.length→w.cell? ⟨h,i,none⟩=some (.int .i64 (sealS L i L.length))
 lb:bb<w.heap.size
 lh:h<w.heap.size
theorem TabsL.below{w w':World}{L:List K}{bb h:Nat}(t:TabsL w L bb h)(hb:Below w.heap.size w w'):TabsL w' L bb h:=
 ⟨fun i hi=>(hb.cell (p:=⟨bb,i,none⟩) t.lb).trans (t.bel i hi),fun i hi=>(hb.cell (p:=⟨h,i,none⟩) t.lh).trans (t.sl i hi),Nat.lt_of_lt_of_le t.lb hb.size,Nat.lt_of_lt_of_le t.lh hb.size⟩
theorem earI_step(L:List K)(C:List Int)(k n:Nat):earI L C k (n+1)=if earN L C k n&&(decide (earI L C k n<0) || decide ((at' L (earI L C k n).toNat).round<(at' L n).round)) then (n:Int) else earI L C k n:=rfl
theorem earI_bd(L:List K)(C:List Int)(k n:Nat):earI L C k n=-1∨∃e:Nat,earI L C k n=(e:Int)∧e<n:=by
 rcases ear_spec L C k n with⟨h,_⟩ | ⟨e,h,he,_⟩
 ·exact .inl h
 ·exact .inr ⟨e,h,he⟩
theorem l10Earlier(g off cap:Nat)(L:List K)(ao:Option Addr)(cc:Nat)(C:List Int)(bb bc h hc:Nat)(k:Nat)(w:World)(hl:laceB L=true)(hg:g<w.heap.size)(hr:RdK w (some ⟨g,off,none⟩) L)(hrd:Lst.Rd w ao C)(hao:∀c,ao=some ⟨c,0,none⟩→c<w.heap.size)(ht:TabsL w L bb h)(hk:k<L.length) :
   Calls Tryz.prog 111 #[.slice (some ⟨g,off,none⟩) L.length cap,.slice ao C.length cc,.slice (some ⟨bb,0,none⟩) L.length bc,.slice (some ⟨h,0,none⟩) L.length hc,.int .i64 (k:Int)] w fun e w'=>e=.returned (.int .i64 (earlierN L C k))∧Below w.heap.size w w':=by
 have hL:=((Lc.lace_iff L).1 hl).1;have HLC:Hid (laceB L=true):=hl;have HRD:Hid (∀W:World,Below w.heap.size w W→Lst.Rd W ao C∧∀c,ao=some ⟨c,0,none⟩→c<W.heap.size):=fun W hW=>⟨rd_below hrd hao hW,fun c e=>Nat.lt_of_lt_of_le (hao c e) hW.size⟩
 have HR:Hid (RdK w (some ⟨g,off,none⟩) L):=hr;have HT:Hid (TabsL w L bb h):=ht;have hki:(k:Int)<(L.length:Int):=by omega
 clear hl hrd hao hr ht;go_enter Tryz.func111,Tryz.ntmps111
 go_wp2;go_loopw [11,12] (fun o i wr=>∃x:Nat,x≤k∧i=.int .i64 x∧o=.int .i64 (earI L C k x)∧Hid (Below w.heap.size w wr)) (fun _ i _=>k-(intOf i).toNat)
 case atStart=>exact⟨0,by omega,rfl,rfl,Below.refl _ _⟩
 case round=>
   obtain⟨x,hx,rfl,rfl,HB⟩:=hrel;by_cases hlt:x<k
   · have hxk:(x:Int)<(k:Int):=by omega
     have hxL:x<L.length:=by omega
     have hxi:(x:Int)<(L.length:Int):=by omega
     have HST:Hid (earI L C k (x+1)=if earN L C k x&&(decide (earI L C k x<0) || decide ((at' L (earI L C k x).toNat).round<(at' L x).round)) then (x:Int) else earI L C k x):=earI_step L C k x;have HEN:Hid (earN L C k x=(bit (bel L k) x&&(leadK C (at' L x)&&sealN L k x))):=rfl;have hbd:=earI_bd L C k x;have hgw:g<wr.heap.size:=Nat.lt_of_lt_of_le hg HB.out.size;obtain⟨_,c0,c1,c2,c3⟩:=(HR.out.below HB.out).on x hxL;have hrb:=Lc.ok_round (Lc.can_ok (Lc.lace_upTo HLC.out x hxL));have HT1:=HT.out.below HB.out;have t1:=HT1.bel k hk;have t2:=HT1.sl x hxL;have tl1:=HT1.lb;have tl2:=HT1.lh;have hbb:=Sg.bel_bd L k (by omega);have hsb:=Sl.sealS_bd L x L.length hL;have HHA:Hid (∀(W:World) (f:Int) (i:Nat) (v:Bool),((f=bel L k∧i=x∧v=bit (bel L k) x)∨(f=sealS L x L.length∧i=k∧v=sealN L k x))→Calls Tryz.prog 45 #[.int .i64 f,.int .i64 (i:Int)] W fun e w'=>e=.returned (.bool v)∧W=w'):=fun W f i v hq=>by
       rcases hq with⟨rfl,rfl,rfl⟩ | ⟨rfl,rfl,rfl⟩
       · exact(Db.has_call _ i _ hbb.1 hbb.2 (by omega) rfl W).mono fun _ _ q=>⟨q.1,q.2.symm⟩
       · exact(Db.has_call _ i _ hsb.1 hsb.2 (by omega) (by rw [Sl.bit_sealS L x _ hL,decide_eq_true hk];rfl) W).mono fun _ _ q=>⟨q.1,q.2.symm⟩
     have HLD:Hid (∀W:World,Below wr.heap.size wr W→Calls Tryz.prog 105 #[.slice ao C.length cc,.agg #[.int .i64 (at' L x).hand,.int .i64 (at' L x).round,.int .i64 (at' L x).frm,.string (at' L x).word]] W fun e w'=>e=.returned (.bool (leadK C (at' L x)))∧Below W.heap.size W w'):=fun W hW=>by
       have hB:=HB.out.trans (hW.mono HB.out.size);exact l8Leads ao cc C (at' L x) W hrb.1 (by omega) (HRD.out W hB).1 (HRD.out W hB).2
     clear HT1 hbb hsb;generalize bel L k=yb at t1 HHA HEN;generalize sealS L x L.length=ys at t2 HHA;generalize bit yb x=b1 at HEN HHA;generalize sealN L k x=b3 at HEN HHA;have HRO:Hid (∀e:Nat,e<x→wr.cell? ⟨g,off+e*4+1,none⟩=some (.int .i64 (at' L e).round)):=fun e he=>by obtain⟨_,_,q,_,_⟩:=(HR.out.below HB.out).on e (by omega);exact q
     generalize hkk:at' L x=kk at c0 c1 c2 c3 HLD HEN HST hrb;generalize leadK C kk=b2 at HEN HLD;have HCASE:Hid (earI L C k x=-1∨∃e:Nat,earI L C k x=(e:Int)∧e<x):=hbd;generalize earI L C k x=eo at HST HCASE ⊢;clear hbd hkk;obtain⟨X,_,F,HF,HG⟩:=Fam.fam wr;have d0:∀z,(F z).cell? ⟨g,off+x*4,none⟩=some (.int .i64 kk.hand):=fun z=>((HF.out z).cell (p:=⟨g,off+x*4,none⟩) hgw).trans c0
     have d1:∀z,(F z).cell? ⟨g,off+x*4+1,none⟩=some (.int .i64 kk.round):=fun z=>((HF.out z).cell (p:=⟨g,off+x*4+1,none⟩) hgw).trans c1
     have d2:∀z,(F z).cell? ⟨g,off+x*4+2,none⟩=some (.int .i64 kk.frm):=fun z=>((HF.out z).cell (p:=⟨g,off+x*4+2,none⟩) hgw).trans c2
     have d3:∀z,(F z).cell? ⟨g,off+x*4+3,none⟩=some (.string kk.word):=fun z=>((HF.out z).cell (p:=⟨g,off+x*4+3,none⟩) hgw).trans c3
     have s1:∀z,(F z).cell? ⟨bb,k,none⟩=some (.int .i64 yb):=fun z=>((HF.out z).cell (p:=⟨bb,k,none⟩) tl1).trans t1
     have s2:∀z,(F z).cell? ⟨h,x,none⟩=some (.int .i64 ys):=fun z=>((HF.out z).cell (p:=⟨h,x,none⟩) tl2).trans t2
     clear c0 c1 c2 c3 t1 t2
     cases b1
     · have HD:Hid (earI L C k (x+1)=eo):=by show _=_;rw [HST.out,HEN.out];simp
       clear HST HEN HCASE HLD;go_wp2_with fail
       refine Fam.region (F:=F) (by kernel_rfl) (by kernel_rfl) (HG.out _ (Below.refl _ wr).drew) ?_
       repeat (go_big_quiet_step (first
         | (go_at_call 45;exact(HHA.out _ _ _ _ (by first | exact .inl ⟨rfl,rfl,rfl⟩ | exact .inr ⟨rfl,rfl,rfl⟩)).mono fun _ _ q=>⟨q.1,_,q.2.symm⟩)))
       refine wpQuiet_nil ?_;intro w2 hw2;obtain⟨z,rfl⟩:=hw2;have HB2:Hid (Below w.heap.size w (F z)):=HB.out.trans ((HF.out z).mono HB.out.size);clear HB;go_wp2;go_roundw
       case rel=>exact⟨x+1,by omega,by go_num,by rw [HD.out],HB2⟩
       case measure=>simp [intOf];omega
     · cases b2
       · have HD:Hid (earI L C k (x+1)=eo):=by show _=_;rw [HST.out,HEN.out];simp
         clear HST HEN HCASE;go_wp2_with fail
         refine Fam.region (F:=F) (by kernel_rfl) (by kernel_rfl) (HG.out _ (Below.refl _ wr).drew) ?_
         repeat (go_big_quiet_step (first
           | (go_at_call 45;exact(HHA.out _ _ _ _ (by first | exact .inl ⟨rfl,rfl,rfl⟩ | exact .inr ⟨rfl,rfl,rfl⟩)).mono fun _ _ q=>⟨q.1,_,q.2.symm⟩)
           | (go_at_call 105;exact(HLD.out _ (HF.out _)).mono fun _ _ q=>⟨q.1,HG.out _ ((HF.out _).trans (q.2.mono (HF.out _).size))⟩)))
         refine wpQuiet_nil ?_;intro w2 hw2;obtain⟨z,rfl⟩:=hw2;have HB2:Hid (Below w.heap.size w (F z)):=HB.out.trans ((HF.out z).mono HB.out.size);clear HB;go_wp2;go_roundw
         case rel=>exact⟨x+1,by omega,by go_num,by rw [HD.out],HB2⟩
         case measure=>simp [intOf];omega
       · cases b3
         · have HD:Hid (earI L C k (x+1)=eo):=by show _=_;rw [HST.out,HEN.out];simp
           clear HST HEN HCASE;go_wp2_with fail
           refine Fam.region (F:=F) (by kernel_rfl) (by kernel_rfl) (HG.out _ (Below.refl _ wr).drew) ?_
           repeat (go_big_quiet_step (first
             | (go_at_call 45;exact(HHA.out _ _ _ _ (by first | exact .inl ⟨rfl,rfl,rfl⟩ | exact .inr ⟨rfl,rfl,rfl⟩)).mono fun _ _ q=>⟨q.1,_,q.2.symm⟩)
             | (go_at_call 105;exact(HLD.out _ (HF.out _)).mono fun _ _ q=>⟨q.1,HG.out _ ((HF.out _).trans (q.2.mono (HF.out _).size))⟩)))
           refine wpQuiet_nil ?_;intro w2 hw2;obtain⟨z,rfl⟩:=hw2;have HB2:Hid (Below w.heap.size w (F z)):=HB.out.trans ((HF.out z).mono HB.out.size);clear HB;go_wp2;go_roundw
           case rel=>exact⟨x+1,by omega,by go_num,by rw [HD.out],HB2⟩
           case measure=>simp [intOf];omega
         · rcases HCASE.out with e | ⟨e,rfl,hex⟩
           · subst e;have HD:Hid (earI L C k (x+1)=(x:Int)):=by show _=_;rw [HST.out,HEN.out];simp
             clear HST HEN HCASE;go_wp2_with fail
             refine Fam.region (F:=F) (by kernel_rfl) (by kernel_rfl) (HG.out _ (Below.refl _ wr).drew) ?_
             repeat (go_big_quiet_step (first
               | (go_at_call 45;exact(HHA.out _ _ _ _ (by first | exact .inl ⟨rfl,rfl,rfl⟩ | exact .inr ⟨rfl,rfl,rfl⟩)).mono fun _ _ q=>⟨q.1,_,q.2.symm⟩)
               | (go_at_call 105;exact(HLD.out _ (HF.out _)).mono fun _ _ q=>⟨q.1,HG.out _ ((HF.out _).trans (q.2.mono (HF.out _).size))⟩)))
             refine wpQuiet_nil ?_;intro w2 hw2;obtain⟨z,rfl⟩:=hw2;have HB2:Hid (Below w.heap.size w (F z)):=HB.out.trans ((HF.out z).mono HB.out.size);clear HB;go_wp2;go_roundw
             case rel=>exact⟨x+1,by omega,by go_num,by rw [HD.out],HB2⟩
             case measure=>simp [intOf];omega
           · have ce:=HRO.out e hex;have d5:∀z,(F z).cell? ⟨g,off+e*4+1,none⟩=some (.int .i64 (at' L e).round):=fun z=>((HF.out z).cell (p:=⟨g,off+e*4+1,none⟩) hgw).trans ce
             have hei:(e:Int)<(L.length:Int):=by omega
             have he0:decide ((e:Int)<0)=false:=decide_eq_false (by omega);rw [Int.toNat_natCast] at HST;generalize (at' L e).round=er at HST d5;clear ce;by_cases hrr:er<kk.round
             · have HD:Hid (earI L C k (x+1)=(x:Int)):=by show _=_;rw [HST.out,HEN.out];simp [hrr]
               clear HST HEN HCASE HRO;go_wp2_with fail
               refine Fam.region (F:=F) (by kernel_rfl) (by kernel_rfl) (HG.out _ (Below.refl _ wr).drew) ?_
               repeat (go_big_quiet_step (first
                 | (go_at_call 45;exact(HHA.out _ _ _ _ (by first | exact .inl ⟨rfl,rfl,rfl⟩ | exact .inr ⟨rfl,rfl,rfl⟩)).mono fun _ _ q=>⟨q.1,_,q.2.symm⟩)
                 | (go_at_call 105;exact(HLD.out _ (HF.out _)).mono fun _ _ q=>⟨q.1,HG.out _ ((HF.out _).trans (q.2.mono (HF.out _).size))⟩)))
               refine wpQuiet_nil ?_;intro w2 hw2;obtain⟨z,rfl⟩:=hw2;have HB2:Hid (Below w.heap.size w (F z)):=HB.out.trans ((HF.out z).mono HB.out.size);clear HB;go_wp2;go_roundw
               case rel=>exact⟨x+1,by omega,by go_num,by rw [HD.out],HB2⟩
               case measure=>simp [intOf];omega
             · have HD:Hid (earI L C k (x+1)=(e:Int)):=by show _=_;rw [HST.out,HEN.out];simp;omega
               clear HST HEN HCASE HRO;go_wp2_with fail
               refine Fam.region (F:=F) (by kernel_rfl) (by kernel_rfl) (HG.out _ (Below.refl _ wr).drew) ?_
               repeat (go_big_quiet_step (first
                 | (go_at_call 45;exact(HHA.out _ _ _ _ (by first | exact .inl ⟨rfl,rfl,rfl⟩ | exact .inr ⟨rfl,rfl,rfl⟩)).mono fun _ _ q=>⟨q.1,_,q.2.symm⟩)
                 | (go_at_call 105;exact(HLD.out _ (HF.out _)).mono fun _ _ q=>⟨q.1,HG.out _ ((HF.out _).trans (q.2.mono (HF.out _).size))⟩)))
               refine wpQuiet_nil ?_;intro w2 hw2;obtain⟨z,rfl⟩:=hw2;have HB2:Hid (Below w.heap.size w (F z)):=HB.out.trans ((HF.out z).mono HB.out.size);clear HB;go_wp2;go_roundw
               case rel=>exact⟨x+1,by omega,by go_num,by rw [HD.out],HB2⟩
               case measure=>simp [intOf];omega
   · obtain rfl:x=k:=by omega
     have HE:Hid (earI L C x x=earlierN L C x):=rfl;rw [HE.out];go_wp2;go_ret;exact⟨rfl,HB.out⟩
structure ChSt(w wr:World)(v:Value)(l:List Int):Prop where
 shape:∃gg cp,v=.slice (some ⟨gg,0,none⟩) l.length cp∧Memb.Own w.heap.size wr (some ⟨gg,0,none⟩) cp l
 bel:Below w.heap.size w wr
theorem chSt_start(w:World):ChSt w (w.alloc (.cells #[] 2)) (.slice (some ⟨w.heap.size,0,none⟩) 0 0) []:=⟨⟨_,_,rfl,Memb.own_empty w⟩,(Below.refl _ _).alloc (Nat.le_refl _) _⟩
theorem chSt_put{w wr w3:World}{v':Value}{l:List Int}{x:Int}{o:Obj}(hB:Below w.heap.size w wr)(ho:w3.ownsRow w.heap.size 2 1 v' (1+l.length) ([.int .i64 x]++l.map (Value.int .i64)))(hg:(wr.alloc o).grownBy w3 (some wr.heap.size))(hn:¬ v'=.slice none 0 0):ChSt w w3 v' (x :: l):=by
 refine⟨?_,(hB.alloc hB.size o).grown hg (by simp;have:=hB.size;omega) (fun j hj=>by cases hj;exact hB.size)⟩;have ho':w3.ownsRow w.heap.size 2 1 v' (x :: l).length ((x :: l).map (Value.int .i64)):=by
  rw [show(x :: l).length=1+l.length by simp;omega];exact ho
 obtain⟨ao,cap,hv,hown⟩:=Memb.own_shape ho';rcases ao with _ | a
 ·obtain⟨_,⟨hx,_⟩ | ⟨gg,cp,cur,hx,_⟩⟩:=ho'
  ·exact absurd hx hn
  ·rw [hv] at hx;injection hx with hx _;exact absurd hx (by simp)
 ·obtain⟨_,⟨hx,_⟩ | ⟨gg,cp,cur,hx,_⟩⟩:=ho'
  ·exact absurd hx hn
  ·rw [hv] at hx;injection hx with hx _ hc;injection hx with hx;subst hx hc;exact⟨gg,cap,hv,hown⟩
theorem l10Chain(g off cap:Nat)(L:List K)(ao:Option Addr)(cc:Nat)(C:List Int)(bb bc h hc:Nat)(k:Nat)(w:World)(hl:laceB L=true)(hg:g<w.heap.size)(hr:RdK w (some ⟨g,off,none⟩) L)(hrd:Lst.Rd w ao C)(hao:∀c,ao=some ⟨c,0,none⟩→c<w.heap.size)(ht:TabsL w L bb h)(hk:k<L.length) :
  Calls Tryz.prog 79 #[.slice (some ⟨g,off,none⟩) L.length cap,.slice ao C.length cc,.slice (some ⟨bb,0,none⟩) L.length bc,.slice (some ⟨h,0,none⟩) L.length hc,.int .i64 (k:Int)] w (NumsPost (chainL L C (k:Int)) w):=by
 obtain⟨i0,hi,hz0,hz1,hz2⟩:=info_parts Memb.info2;have hL:=((Lc.lace_iff L).1 hl).1;have HEAR:Hid (∀(W:World) (p:Nat),Below w.heap.size w W→p<L.length→Calls Tryz.prog 111 #[.slice (some ⟨g,off,none⟩) L.length cap,.slice ao C.length cc,.slice (some ⟨bb,0,none⟩) L.length bc,.slice (some ⟨h,0,none⟩) L.length hc,.int .i64 (p:Int)] W fun e w'=>e=.returned (.int .i64 (earlierN L C p))∧Below W.heap.size W w'):=fun W p hW hp=>
  l10Earlier g off cap L ao cc C bb bc h hc p W hl (Nat.lt_of_lt_of_le hg hW.size) (hr.below hW) (rd_below hrd hao hW) (fun c e=>Nat.lt_of_lt_of_le (hao c e) hW.size) (ht.below hW) hp
 have HLEN:Hid (∀(kc:Int) (l:List Int),chainL L C (k:Int)=chainL L C kc++l→l.length≤k+1):=fun kc l e=>by
  have h1:=chain_len L C (k:Int);rw [e] at h1;simp at h1;omega
 clear hl hr hrd hao ht;go_enter Tryz.func79,Tryz.ntmps79
 go_wp2;go_loopw [4,11] (fun kv v wr=>∃(kc:Int) (l:List Int),kv=.int .i64 kc∧(-1≤kc∧kc<(L.length:Int))∧Hid (chainL L C (k:Int)=chainL L C kc++l)∧Hid (ChSt w wr v l)) (fun kv _ _=>(intOf kv+1).toNat)
 case atStart=>exact⟨(k:Int),[],rfl,by omega,by show _=_;rw [List.append_nil],chSt_start w⟩
 case round=>
  obtain⟨kc,l,rfl,hkc,HCH,HS⟩:=hrel;have hll:=HLEN.out kc l HCH.out;by_cases hn:0≤kc
  ·obtain⟨p,rfl⟩:=Int.eq_ofNat_of_zero_le hn;have hp:p<L.length:=by omega
   have hlt:=earlier_lt L C p;have hge:-1≤earlierN L C p:=by rcases earI_bd L C p p with e | ⟨e,he,_⟩ <;> unfold earlierN <;> omega
   have HCH2:Hid (chainL L C (k:Int)=chainL L C (earlierN L C p)++((p:Int) :: l)):=by
    show _=_;rw [HCH.out,chain_step,List.append_assoc];rfl
   obtain⟨gg,cp,hv,hown⟩:=HS.out.shape;subst hv;have hrd1:=Lst.own_rd hown;have hgg:=(World.ownsRow.lt hown gg rfl).2;have HLIT:Hid ((wr.alloc (.cells #[.int .i64 (p:Int)] 2)).ownsRow w.heap.size 2 1 (.slice (some ⟨wr.heap.size,0,none⟩) 1 1) 1 [.int .i64 (p:Int)]):=World.ownsRow_lit wr #[.int .i64 (p:Int)] 1 HS.out.bel.size (by unfold maxLen;omega) rfl;have HNEW:Hid (∀(j:Nat) u,(l.map (Value.int .i64))[j]? = some u→(wr.alloc (.cells #[.int .i64 (p:Int)] 2)).cell? ((⟨gg,0,none⟩:Addr).add j)=some u):=fun j u hu=>by
    rw [List.getElem?_map] at hu;rcases hj:l[j]? with _ | y
    ·rw [hj] at hu;simp at hu
    ·rw [hj] at hu;simp at hu;subst hu;have hjl:j<l.length:=(List.getElem?_eq_some_iff.1 hj).1;rcases hrd1 with e | ⟨g2,e,hcell⟩
     ·rw [e] at hjl;simp at hjl
     ·injection e with e;injection e with e;subst e;have:=hcell j hjl;rw [show l.getD j 0=y by simp [List.getD,hj]] at this;rw [show(⟨gg,0,none⟩:Addr).add j=⟨gg,j,none⟩ by simp [Addr.add];intro e;exact e.symm,World.cell?_alloc_lt _ _ _ hgg];exact this
   have HONE:Hid (∀u∈l.map (Value.int .i64),u.oneCell'=true):=fun u hu=>by
    obtain⟨y,_,rfl⟩:=List.mem_map.1 hu;rfl
   have HBW:Hid (Below w.heap.size w wr):=HS.out.bel;clear hown hrd1;go_wp2_with (first | (at_builtin;refine wpList_append_own _ rfl _ _ 25 rfl w.heap.size 2 i0 (.int .i64 0) 1 8 Tryz.underlying25 hi hz0 hz1 hz2 rfl (by decide) (.slice (some ⟨wr.heap.size,0,none⟩) 1 1) 1 [.int .i64 (p:Int)] (by first | rfl | simp [Act.eval]) HLIT.out ⟨gg,0,none⟩ l.length cp (l.map (Value.int .i64)) (by first | rfl | simp [Act.eval]) (by simp) HNEW.out HONE.out ?c3 ?c4 ?c5 ?_) | fail)
   case c3=>unfold maxLen;omega
   case c4=>omega
   case c5=>have:=HBW.out.size;simp;omega
   intro v' w3 hown' hgrow hnil;have HS3:Hid (ChSt w w3 v' ((p:Int) :: l)):=chSt_put HBW.out hown' hgrow hnil;clear hown' hgrow hnil HS HLIT HNEW HONE HBW;have hcall:=HEAR.out w3 p HS3.out.bel hp;go_wp2_with fail
   refine hcall.mono ?_;rintro e w4 ⟨rfl,hb4⟩;have HS4:Hid (ChSt w w4 v' ((p:Int) :: l)):=by
    obtain⟨g4,c4,e4,o4⟩:=HS3.out.shape;exact⟨⟨g4,c4,e4,Lst.own_below o4 hb4⟩,HS3.out.bel.trans (hb4.mono HS3.out.bel.size)⟩
   clear hb4 HS3 hcall;go_wp2;go_roundw
   case rel=>exact⟨earlierN L C p,(p:Int) :: l,rfl,by omega,HCH2,HS4⟩
   case measure=>simp [intOf];omega
  ·have HE:Hid (chainL L C (k:Int)=l):=by show _=_;rw [HCH.out,chain_neg L C (by omega)];rfl
   obtain⟨gg,cp,hv,hown⟩:=HS.out.shape;have HV:Hid (u11=.slice (some ⟨gg,0,none⟩) l.length cp):=hv;have HF:Hid (Memb.Own w.heap.size wr (some ⟨gg,0,none⟩) cp l∧Below w.heap.size w wr):=⟨hown,HS.out.bel⟩
   clear hv hown HS HCH;go_wp2;go_ret;exact⟨some ⟨gg,0,none⟩,cp,by rw [HE.out,← HV.out];rfl,by rw [HE.out];exact HF.out.1,HF.out.2⟩
def onB(L:List K)(C:List Int)(k:Int):Bool:=isB L k&&coinsB C
def chainI(L:List K)(C:List Int)(k:Int):List Int:=if onB L C k then chainL L C k else []
theorem l10Right(g off cap:Nat)(L:List K)(ao:Option Addr)(cc:Nat)(C:List Int)(k:Int)(w:World)(hcap:L.length≤cap)(hw:WordsOk L)(hr:RdK w (some ⟨g,off,none⟩) L)(hC:C.length≤1048576)(hrd:Lst.Rd w ao C)(hao:∀c,ao=some ⟨c,0,none⟩→c<w.heap.size) :
  Calls Tryz.prog 46 #[.slice (some ⟨g,off,none⟩) L.length cap,.slice ao C.length cc,.int .i64 k] w fun e w'=>e=.returned (.bool (onB L C k))∧Below w.heap.size w w':=by
 go_enter Tryz.func46,Tryz.ntmps46
 go_wp2_with fail
 refine(Sg.l4Is g off cap L k _ hcap hw hr).mono ?_;rintro e w1 ⟨rfl,hb1⟩;have hcall:=Rm.specCoinsOk ao cc C w1 hC (rd_below hrd hao hb1);have HT:Hid (onB L C k=(isB L k&&coinsB C)):=rfl;clear hrd hao hr;generalize isB L k=b1 at HT ⊢;generalize coinsB C=b2 at HT hcall
 cases b1
 ·clear hcall;go_wp2;go_ret;exact⟨by rw [HT.out];rfl,hb1⟩
 ·go_wp2_with (go_at_call 58;refine hcall.mono ?_;rintro e w' ⟨rfl,rfl⟩)
  go_ret;exact⟨by rw [HT.out];rfl,hb1⟩
theorem own_base{B B':Nat}{w:World}{ao:Option Addr}{cap:Nat}{l:List Int}(h:Memb.Own B w ao cap l)(hb:B'≤B):Memb.Own B' w ao cap l:=by
 obtain⟨a1,a2⟩:=h;refine⟨a1,?_⟩;rcases a2 with a2 | ⟨g2,c2,cur,e1,e2,rest⟩
 ·exact .inl a2
 ·exact .inr ⟨g2,c2,cur,e1,Nat.le_trans hb e2,rest⟩
theorem nums_nil{w w1:World}(hb1:Below w.heap.size w w1):Memb.Own w.heap.size (w1.alloc (.cells #[] 2)) (some ⟨w1.heap.size,0,none⟩) 0 []∧Below w.heap.size w (w1.alloc (.cells #[] 2)):=⟨own_base (Memb.own_empty w1) hb1.size,hb1.alloc hb1.size _⟩
theorem chainI_len{L:List K}{C:List Int}{k:Int}:(chainI L C k).length≤61:=by
 unfold chainI;split
 ·rename_i h;unfold onB at h;rw [Bool.and_eq_true] at h;obtain⟨k0,k1,hlc⟩:=Sg.isB_parts h.1;have h60:=((Lc.lace_iff L).1 hlc).1;have:=chain_len L C k;omega
 ·simp
end Ch
namespace Tl
open Kn (K okK)
open Bit (bit withB memTo)
open Lc (at' RdK WordsOk laceB setB)
open Sg (isB bel belows NumsPost)
theorem insR_pass(L:List K)(x:Int):∀(a b:List Int),(∀y∈a,gtB L y x=true)→insR L x (a++b)=a++insR L x b:=by
 intro a;induction a with
 | nil=>intro b _;rfl
 | cons y a ih=>
  intro b h;show insR L x (y :: (a++b))=y :: (a++insR L x b);conv=>lhs;unfold insR
  rw [h y (by simp),if_pos rfl,ih b (fun z hz=>h z (by simp [hz]))]
theorem insB_at(L:List K)(out:List Int)(x:Int)(k:Nat)(hk:k≤out.length)(h1:∀j,k≤j→j<out.length→gtB L (out.getD j 0) x=true)(h2:k=0∨gtB L (out.getD (k-1) 0) x=false):insB L out x=out.take k++([x]++out.drop k):=by
 unfold insB;have e:out.reverse=(out.drop k).reverse++(out.take k).reverse:=by rw [← List.reverse_append,List.take_append_drop]
 rw [e,insR_pass]
 ·have:insR L x (out.take k).reverse=x :: (out.take k).reverse:=by
   rcases h2 with h2 | h2
   ·subst h2;simp [insR]
   ·by_cases hk0:k=0
    ·subst hk0;simp [insR]
    ·have hk1:k-1<out.length:=by omega
     have e2:out.take k=out.take (k-1)++[out.getD (k-1) 0]:=by
      have:=Lc.take_snocI out (k-1) hk1;rwa [show k-1+1=k by omega] at this
     rw [e2,List.reverse_append];show insR L x (out.getD (k-1) 0 :: (out.take (k-1)).reverse)=_;unfold insR;rw [h2,if_neg (by simp)];rfl
  rw [this,List.reverse_append,List.reverse_reverse,List.reverse_cons,List.reverse_reverse,List.append_assoc]
 ·intro y hy;rw [List.mem_reverse] at hy;obtain⟨j,hj,rfl⟩:=List.mem_iff_getElem.1 hy;have hj':k+j<out.length:=by simp at hj;omega
  have:=h1 (k+j) (by omega) hj';rw [List.getElem_drop];simpa [List.getD,List.getElem?_eq_getElem hj'] using this
theorem ord_step(L:List K)(m:List Int)(i:Nat)(hi:i<m.length):ordL L (m.take (i+1))=insB L (ordL L (m.take i)) (m.getD i 0):=by
 rw [Lc.take_snocI m i hi];unfold ordL;rw [List.foldl_append];rfl
theorem ord_len(L:List K)(m:List Int):(ordL L m).length=m.length:=(ord_perm L m).length_eq
theorem own_put{B:Nat}{w:World}{g n cap:Nat}{a:List Int}(h:w.ownsRow B 2 1 (.slice (some ⟨g,0,none⟩) n cap) n (a.map (Value.int .i64)))(j:Nat)(y:Int):(w.setCell ⟨g,j,none⟩ (.int .i64 y)).ownsRow B 2 1 (.slice (some ⟨g,0,none⟩) n cap) n ((a.set j y).map (Value.int .i64)):=by
 obtain⟨h1,h2⟩:=h;refine⟨by simpa using h1,?_⟩;rcases h2 with⟨h2,_⟩ | ⟨g2,c2,cur,e1,hB,hg,hn,hm,hs,ht⟩
 ·injection h2 with h2 _;exact absurd h2 (by simp)
 ·injection e1 with e1 _ e3;injection e1 with e1;injection e1 with e1;subst e1 e3;refine .inr ⟨g,cap,cur.setIfInBounds j (.int .i64 y),rfl,hB,heap_setCell_same w g j cur _ _ hg,hn,hm,by simpa using hs,?_⟩;rw [Array.toList_setIfInBounds,List.take_set,ht,List.map_set]
theorem own_frozen{B:Nat}{w:World}{g n cap:Nat}{xs:List Value}{t:TypeId}(h:w.ownsRow B t 1 (.slice (some ⟨g,0,none⟩) n cap) n xs)(j:Nat):w.frozen? ⟨g,j,none⟩=false:=by
 obtain⟨_,⟨h2,_⟩ | ⟨g2,c2,cur,e1,hB,hg,_⟩⟩:=h
 ·injection h2 with h2 _;exact absurd h2 (by simp)
 ·injection e1 with e1 _ _;injection e1 with e1;injection e1 with e1;subst e1;simp [World.frozen?,hg]
theorem shift_set(out:List Int)(k:Nat)(y:Int)(hk:k+1≤out.length):(out.take (k+1)++([y]++out.drop (k+1))).set (k+1) (out.getD k 0)=out.take k++([out.getD k 0]++out.drop k):=by
 have e1:out.take (k+1)=out.take k++[out.getD k 0]:=Lc.take_snocI out k (by omega);have e2:out.drop k=out.getD k 0 :: out.drop (k+1):=by
  rw [List.drop_eq_getElem_cons (by omega:k<out.length)];simp [List.getD,List.getElem?_eq_getElem (by omega:k<out.length)]
 rw [e2,e1];have hl:(out.take k++[out.getD k 0]).length=k+1:=by simp;omega
 rw [List.set_append_right _ _ (by rw [hl];omega),hl];simp
theorem last_set(out:List Int)(k:Nat)(x y:Int)(hk:k≤out.length):(out.take k++([y]++out.drop k)).set k x=out.take k++([x]++out.drop k):=by
 have hl:(out.take k).length=k:=by simp;omega
 rw [List.set_append_right _ _ (by rw [hl];omega),hl];simp
theorem shift_get(out:List Int)(k j:Nat)(rest:List Int)(hj:j<k)(hk:k≤out.length):(out.take k++rest).getD j 0=out.getD j 0:=by
 have h1:j<(out.take k).length:=by simp <;> omega
 simp [List.getD,List.getElem?_append_left h1,hj]
structure OrSt(w wr:World)(mb:Nat)(m:List Int)(og cp:Nat)(o:List Int):Prop where
 own:wr.ownsRow w.heap.size 2 1 (.slice (some ⟨og,0,none⟩) o.length cp) o.length (o.map (Value.int .i64))
 bel:Below w.heap.size w wr
 mc:∀j,j<m.length→wr.cell? ⟨mb,j,none⟩=some (.int .i64 (m.getD j 0))
 ne:0<m.length→og≠mb
 ml:0<m.length→mb<wr.heap.size
theorem OrSt.cell{w wr:World}{mb:Nat}{m:List Int}{og cp:Nat}{o:List Int}(s:OrSt w wr mb m og cp o){j:Nat}(hj:j<o.length):wr.cell? ⟨og,j,none⟩=some (.int .i64 (o.getD j 0)):=by
 have:Memb.Own w.heap.size wr (some ⟨og,0,none⟩) cp o:=s.own;rcases Lst.own_rd this with e | ⟨g,e,hc⟩
 ·rw [e] at hj;simp at hj
 ·injection e with e;injection e with e;subst e;exact hc j hj
theorem OrSt.lt{w wr:World}{mb:Nat}{m:List Int}{og cp:Nat}{o:List Int}(s:OrSt w wr mb m og cp o):w.heap.size≤og∧og<wr.heap.size:=World.ownsRow.lt s.own og rfl
theorem OrSt.put{w wr:World}{mb:Nat}{m:List Int}{og cp:Nat}{o:List Int}(s:OrSt w wr mb m og cp o)(j:Nat)(y:Int):OrSt w (wr.setCell ⟨og,j,none⟩ (.int .i64 y)) mb m og cp (o.set j y) where
 own:=by have:=own_put s.own j y;simpa using this
 bel:=s.bel.setCell (p:=⟨og,j,none⟩) s.lt.1 _
 mc:=fun i hi=>(World.cell?_of_block (w:=wr) (Below.heap_setCell wr ⟨og,j,none⟩ _ mb (fun e=>s.ne (by omega) e.symm))).trans (s.mc i hi)
 ne:=s.ne
 ml:=fun h=>by simpa using s.ml h
theorem OrSt.drewN{w wr:World}{mb:Nat}{m:List Int}{og cp:Nat}{o:List Int}(s:OrSt w wr mb m og cp o)(n:Nat):OrSt w (wr.drewN n) mb m og cp o:=⟨s.own,Db.below_drewN s.bel n,s.mc,s.ne,s.ml⟩
theorem OrSt.app{w wr w1:World}{mb:Nat}{m:List Int}{og cp:Nat}{o:List Int}{x:Int}{v':Value}{ob:Obj}(s:OrSt w wr mb m og cp o)(ho:w1.ownsRow w.heap.size 2 1 v' (o.length+1) (o.map (Value.int .i64)++[.int .i64 x]))(hg:(wr.alloc ob).grownBy w1 (some og))(hn:¬ v'=.slice none 0 0)(ha:v'.ownBlock=some og∨v'.ownBlock=some (wr.alloc ob).heap.size):∃g2 c2,v'=.slice (some ⟨g2,0,none⟩) (o.length+1) c2∧OrSt w w1 mb m g2 c2 (o++[x]):=by
 have ho':=ho;obtain⟨_,⟨hx,_⟩ | ⟨g2,c2,cur,hx,_⟩⟩:=ho'
 ·exact absurd hx hn
 ·subst hx;have hb:Below w.heap.size w w1:=(s.bel.alloc s.bel.size ob).grown hg (by simp;have:=s.bel.size;omega) (fun k hk=>by cases hk;exact s.lt.1);refine⟨g2,c2,rfl,by simpa using ho,hb,fun j hj=>?_,fun hm=>?_,fun hm=>?_⟩
  ·have h1:(wr.alloc ob).cell? ⟨mb,j,none⟩=some (.int .i64 (m.getD j 0)):=by rw [World.cell?_alloc_lt _ _ _ (s.ml (by omega))];exact s.mc j hj
   exact World.grownBy.cell hg h1 (by intro e;injection e with e;exact s.ne (by omega) e.symm)
  ·have hml:=s.ml hm;have hne:=s.ne hm;simp [Value.ownBlock] at ha;rcases ha with e | e
   ·subst e;exact hne
   ·omega
  ·have h1:=hg.size;have h2:=s.ml hm;simp at h1;omega
theorem l11Order(g off cap:Nat)(L:List K)(s:Int)(w:World)(hl:laceB L=true)(hr:RdK w (some ⟨g,off,none⟩) L)(h0:0≤s)(h1:s<1152921504606846976)(hin:∀i,bit s i=true→i<L.length) :
  Calls Tryz.prog 80 #[.slice (some ⟨g,off,none⟩) L.length cap,.int .i64 s] w (NumsPost (ordL L (memTo s 60)) w):=by
 obtain⟨i0,hi,hz0,hz1,hz2⟩:=info_parts Memb.info2;have hL:=((Lc.lace_iff L).1 hl).1;have HMEM:Hid (∀x∈memTo s 60,∃p:Nat,x=(p:Int)∧p<L.length):=fun x hx=>by
  obtain⟨j,_,rfl,hb⟩:=(Bit.mem_memTo _ _ _).1 hx;exact⟨j,rfl,hin j hb⟩
 have HKN:Hid (∀(W:World) (p:Nat),Below w.heap.size w W→p<L.length→W.cell? ⟨g,off+p*4,none⟩=some (.int .i64 (at' L p).hand)∧W.cell? ⟨g,off+p*4+1,none⟩=some (.int .i64 (at' L p).round)):=fun W p hW hp=>by
  obtain⟨_,q0,q1,_,_⟩:=(hr.below hW).on p hp;exact⟨q0,q1⟩
 have hml:(memTo s 60).length≤60:=Bit.memTo_le s 60;clear hl hr hin;have HB0:Hid (Below w.heap.size w (w.alloc (.cells #[] 2))):=(Below.refl _ _).alloc (Nat.le_refl _) _;have HE0:Hid ((w.alloc (.cells #[] 2)).ownsRow w.heap.size 2 1 (.slice (some ⟨w.heap.size,0,none⟩) 0 0) 0 []):=Memb.own_empty w;have hsz0:w.heap.size<(w.alloc (.cells #[] 2)).heap.size:=by simp
 go_enter Tryz.func80,Tryz.ntmps80
 go_wp2_with fail
 generalize w.alloc (.cells #[] 2)=w0 at HB0 HE0 hsz0 ⊢;refine(Memb.l1Members' s _ h0 h1).mono ?_;rintro e w1 ⟨mo,mc,rfl,hown,hb1⟩;obtain⟨mb,HMO,HS1⟩:∃mb,Hid (0<(memTo s 60).length→mo=some ⟨mb,0,none⟩)∧Hid (OrSt w w1 mb (memTo s 60) w.heap.size 0 []):=by
  have hE1:w1.ownsRow w.heap.size 2 1 (.slice (some ⟨w.heap.size,0,none⟩) 0 0) 0 []:=Fm.row_below HE0.out hb1;have hB1:Below w.heap.size w w1:=HB0.out.trans (hb1.mono HB0.out.size);rcases Lst.own_rd hown with e | ⟨mb,e,hc⟩
  ·have hz:(memTo s 60).length=0:=by rw [e];rfl
   exact⟨0,fun hh=>by omega,⟨hE1,hB1,fun j hj=>by omega,fun hh=>by omega,fun hh=>by omega⟩⟩
  ·subst e;have:=World.ownsRow.lt hown mb rfl;exact⟨mb,fun _=>rfl,⟨hE1,hB1,hc,fun _=>by omega,fun _=>this.2⟩⟩
 clear hb1 hown HB0 HE0 hsz0;generalize hmm:memTo s 60=m at HMEM hml HMO HS1 ⊢;have HMM:Hid (memTo s 60=m):=hmm;clear hmm;go_wp2;go_loopw [5,7] (fun v iv wr=>∃(i:Nat) (og ocp:Nat),i≤m.length∧iv=.int .i64 (i:Int)∧v=.slice (some ⟨og,0,none⟩) (ordL L (m.take i)).length ocp∧Hid (OrSt w wr mb m og ocp (ordL L (m.take i)))) (fun _ iv _=>m.length-(intOf iv).toNat)
 case atStart=>exact⟨0,w.heap.size,0,by omega,rfl,rfl,HS1⟩
 case round=>
  obtain⟨i,og,ocp,hil,rfl,hv,HS⟩:=hrel;clear HS1;by_cases hlt:i<m.length
  ·subst hv;have hii:(i:Int)<(m.length:Int):=by omega
   have hmo:=HMO.out (by omega);have HST:Hid (ordL L (m.take (i+1))=insB L (ordL L (m.take i)) (m.getD i 0)):=ord_step L m i hlt;have hol:(ordL L (m.take i)).length=i:=by rw [ord_len];simp;omega
   have HIN:Hid (∀j,j<i→∃r:Nat,(ordL L (m.take i)).getD j 0=(r:Int)∧r<L.length):=fun j hj=>by
    have hmem:(ordL L (m.take i)).getD j 0∈ordL L (m.take i):=by simp [List.getD,List.getElem?_eq_getElem (show j<(ordL L (m.take i)).length by omega)]
    exact HMEM.out _ (List.mem_of_mem_take ((mem_ord L _ _).1 hmem))
   obtain⟨p,hxp,hp⟩:=HMEM.out (m.getD i 0) (by simp [List.getD,List.getElem?_eq_getElem hlt]);rw [hxp] at HST;generalize ordL L (m.take i)=o at HST hol HIN HS ⊢;have cm:=HS.out.mc i hlt;rw [hxp] at cm;subst hmo;have HOL:Hid (o.length=i):=hol;have hol1:o.length≤60:=by omega
   have HXP:Hid (m.getD i 0=(p:Int)):=hxp;clear hol hxp;have HOA:Hid (∀ob:Obj,(wr.alloc ob).ownsRow w.heap.size 2 1 (.slice (some ⟨og,0,none⟩) o.length ocp) o.length (o.map (Value.int .i64))):=fun ob=>HS.out.own.alloc ob
   have hwsz:=HS.out.bel.size;go_wp2_with (first | (at_builtin;refine wpList_append_own_at _ rfl _ _ 25 rfl w.heap.size 2 i0 (.int .i64 0) 1 8 Tryz.underlying25 hi hz0 hz1 hz2 rfl (by decide) (.slice (some ⟨og,0,none⟩) o.length ocp) o.length (o.map (Value.int .i64)) (by first | rfl | simp [Act.eval]) (HOA.out _) ⟨wr.heap.size,0,none⟩ 1 1 [.int .i64 (p:Int)] (by first | rfl | simp [Act.eval]) rfl (Sg.one_new wr (p:Int) _) (Sg.one_one (p:Int)) ?c3 ?c4 ?c5 ?_) | fail)
   case c3=>unfold maxLen;omega
   case c4=>omega
   case c5=>first | omega | (simp;omega)
   intro v' w3 hown' hgrow hnil hat;obtain⟨g2,c2,rfl,hS3⟩:=HS.out.app hown' hgrow (by first | exact hnil | exact fun e=>by have:=hnil.1 e;simp at this) (by simpa [Value.ownBlock] using hat);have HS3:Hid (OrSt w w3 mb m g2 c2 (o.take o.length++([(p:Int)]++o.drop o.length))):=by
    show OrSt _ _ _ _ _ _ _;rw [List.take_length,List.drop_length];exact hS3
   clear hown' hgrow hnil hat HS HOA hS3 cm;go_wp2_with fail
   go_loopw [8] (fun kv wk=>∃(k:Nat) (y:Int),k≤o.length∧kv=.int .i64 (k:Int)∧Hid (OrSt w wk mb m g2 c2 (o.take k++([y]++o.drop k)))∧Hid (∀j,k≤j→j<o.length→gtB L (o.getD j 0) (p:Int)=true)) (fun kv _=>(intOf kv).toNat)
   case atStart=>exact⟨o.length,(p:Int),Nat.le_refl _,rfl,HS3,fun j h1 h2=>by omega⟩
   case round=>
    obtain⟨k,y,hk,rfl,HSk,HG⟩:=hrel;clear HS3;have hpi:(p:Int)<(L.length:Int):=by omega
    by_cases hk0:k=0
    ·subst hk0;go_wp2_with fail
     go_quiet (fail)
     have HNEW:Hid (ordL L (m.take (i+1))=o.take 0++([(p:Int)]++o.drop 0)):=HST.out.trans (insB_at L o (p:Int) 0 (by omega) HG.out (.inl rfl));have HP:Hid (OrSt w ((wr.drewN nq).setCell ⟨g2,0,none⟩ (.int .i64 (p:Int))) mb m g2 c2 (ordL L (m.take (i+1)))):=by
      show OrSt _ _ _ _ _ _ _;rw [HNEW.out,← last_set o 0 (p:Int) y (by omega)];exact(HSk.out.drewN nq).put 0 (p:Int)
     have HLN:Hid ((ordL L (m.take (i+1))).length=o.length+1):=by show _=_;rw [HNEW.out];simp <;> omega
     have cm:(wr.drewN nq).cell? ⟨mb,i,none⟩=some (.int .i64 (p:Int)):=by have:=HSk.out.mc i hlt;rw [HXP.out] at this;exact this
     have fz:(wr.drewN nq).frozen? ⟨g2,0,none⟩=false:=own_frozen HSk.out.own 0;have hkl:0<(o.take 0++([y]++o.drop 0)).length:=by simp <;> omega
     have ck:(wr.drewN nq).cell? ⟨g2,0,none⟩=some (.int .i64 ((o.take 0++([y]++o.drop 0)).getD 0 0)):=HSk.out.cell hkl;generalize (o.take 0++([y]++o.drop 0)).getD 0 0=yk at ck;clear hkl HNEW;generalize wr.drewN nq=V at HP cm fz ck ⊢;go_wp2;go_roundw
     case rel=>exact⟨i+1,g2,c2,by omega,by go_num,by rw [HLN.out],HP⟩
     case measure=>simp [intOf];omega
    ·obtain⟨q,rfl⟩:∃q,k=q+1:=⟨k-1,by omega⟩
     have hq:q<o.length:=by omega
     obtain⟨r,hor,hrl⟩:=HIN.out q (by rw [← HOL.out];exact hq);have co:wr.cell? ⟨g2,q,none⟩=some (.int .i64 (r:Int)):=by
      have:=HSk.out.cell (j:=q) (by simp;omega);rwa [shift_get o (q+1) q _ (by omega) hk,hor] at this
     have cm0:wr.cell? ⟨mb,i,none⟩=some (.int .i64 (p:Int)):=by have:=HSk.out.mc i hlt;rw [HXP.out] at this;exact this
     obtain⟨ph,pr⟩:=HKN.out wr p HSk.out.bel hp;obtain⟨rh,rr⟩:=HKN.out wr r HSk.out.bel hrl;have HGT:Hid (gtB L (r:Int) (p:Int)=(decide ((at' L p).round<(at' L r).round) || (decide ((at' L r).round=(at' L p).round)&&decide ((at' L p).hand<(at' L r).hand)))):=rfl;have HOR:Hid (o.getD q 0=(r:Int)):=hor;have hri:(r:Int)<(L.length:Int):=by omega
     have hk1:((q+1:Nat):Int)-1=(q:Int):=by omega
     have hq1:(q:Int)<(o.length:Int)+1:=by omega
     clear hor hk0;generalize (at' L p).hand=hp0 at ph HGT;generalize (at' L p).round=hp1 at pr HGT;generalize (at' L r).hand=hr0 at rh HGT;generalize (at' L r).round=hr1 at rr HGT;by_cases g1:hp1<hr1
     ·have HGQ:Hid (gtB L (r:Int) (p:Int)=true):=by show _=_;rw [HGT.out,decide_eq_true g1];rfl
      have g1b:decide (hp1<hr1)=true:=decide_eq_true g1;clear HGT;have HQP:Hid (∀nq:Nat,OrSt w ((wr.drewN nq).setCell ⟨g2,q+1,none⟩ (.int .i64 (r:Int))) mb m g2 c2 (o.take q++([(r:Int)]++o.drop q))):=fun nq=>by
       have:=(HSk.out.drewN nq).put (q+1) (r:Int);rwa [← HOR.out,shift_set o q y hk,HOR.out] at this
      have HGP:Hid (∀j,q≤j→j<o.length→gtB L (o.getD j 0) (p:Int)=true):=fun j j1 j2=>by
       by_cases e:j=q
       ·subst e;rw [HOR.out];exact HGQ.out
       ·exact HG.out j (by omega) j2
      have fz:wr.frozen? ⟨g2,q+1,none⟩=false:=own_frozen HSk.out.own (q+1);have hkl:q+1<(o.take (q+1)++([y]++o.drop (q+1))).length:=by simp <;> omega
      have ck:wr.cell? ⟨g2,q+1,none⟩=some (.int .i64 ((o.take (q+1)++([y]++o.drop (q+1))).getD (q+1) 0)):=HSk.out.cell hkl;generalize (o.take (q+1)++([y]++o.drop (q+1))).getD (q+1) 0=yk at ck;clear hkl;go_wp2_with fail
      go_quiet (fail)
      go_wp2;go_roundw
      case rel=>exact⟨q,(r:Int),by omega,by go_num,HQP.out nq,HGP⟩
      case measure=>simp [intOf]
     ·have g1b:decide (hp1<hr1)=false:=decide_eq_false g1;by_cases g2':hr1=hp1
      ·have g2b:(hr1 == hp1)=true:=by simpa using g2'
       by_cases g3:hp0<hr0
       ·have HGQ:Hid (gtB L (r:Int) (p:Int)=true):=by show _=_;rw [HGT.out,decide_eq_true g2',decide_eq_true g3];simp
        have g3b:decide (hp0<hr0)=true:=decide_eq_true g3;clear HGT g1 g2' g3;have HQP:Hid (∀nq:Nat,OrSt w ((wr.drewN nq).setCell ⟨g2,q+1,none⟩ (.int .i64 (r:Int))) mb m g2 c2 (o.take q++([(r:Int)]++o.drop q))):=fun nq=>by
         have:=(HSk.out.drewN nq).put (q+1) (r:Int);rwa [← HOR.out,shift_set o q y hk,HOR.out] at this
        have HGP:Hid (∀j,q≤j→j<o.length→gtB L (o.getD j 0) (p:Int)=true):=fun j j1 j2=>by
         by_cases e:j=q
         ·subst e;rw [HOR.out];exact HGQ.out
         ·exact HG.out j (by omega) j2
        have fz:wr.frozen? ⟨g2,q+1,none⟩=false:=own_frozen HSk.out.own (q+1);have hkl:q+1<(o.take (q+1)++([y]++o.drop (q+1))).length:=by simp <;> omega
        have ck:wr.cell? ⟨g2,q+1,none⟩=some (.int .i64 ((o.take (q+1)++([y]++o.drop (q+1))).getD (q+1) 0)):=HSk.out.cell hkl;generalize (o.take (q+1)++([y]++o.drop (q+1))).getD (q+1) 0=yk at ck;clear hkl;go_wp2_with fail
        go_quiet (fail)
        go_wp2;go_roundw
        case rel=>exact⟨q,(r:Int),by omega,by go_num,HQP.out nq,HGP⟩
        case measure=>simp [intOf]
       ·have HGQ:Hid (gtB L (r:Int) (p:Int)=false):=by show _=_;rw [HGT.out,decide_eq_false g1,decide_eq_false g3];simp
        have g3b:decide (hp0<hr0)=false:=decide_eq_false g3;clear HGT g1 g2' g3;go_wp2_with fail
        go_quiet (fail)
        have HNEW:Hid (ordL L (m.take (i+1))=o.take (q+1)++([(p:Int)]++o.drop (q+1))):=HST.out.trans (insB_at L o (p:Int) (q+1) (by omega) HG.out (.inr (by show gtB L (o.getD q 0) (p:Int)=false;rw [HOR.out];exact HGQ.out)));have HP:Hid (OrSt w ((wr.drewN nq).setCell ⟨g2,q+1,none⟩ (.int .i64 (p:Int))) mb m g2 c2 (ordL L (m.take (i+1)))):=by
         show OrSt _ _ _ _ _ _ _;rw [HNEW.out,← last_set o (q+1) (p:Int) y (by omega)];exact(HSk.out.drewN nq).put (q+1) (p:Int)
        have HLN:Hid ((ordL L (m.take (i+1))).length=o.length+1):=by show _=_;rw [HNEW.out];simp <;> omega
        have cm:(wr.drewN nq).cell? ⟨mb,i,none⟩=some (.int .i64 (p:Int)):=by have:=HSk.out.mc i hlt;rw [HXP.out] at this;exact this
        have fz:(wr.drewN nq).frozen? ⟨g2,q+1,none⟩=false:=own_frozen HSk.out.own (q+1);have hkl:q+1<(o.take (q+1)++([y]++o.drop (q+1))).length:=by simp <;> omega
        have ck:(wr.drewN nq).cell? ⟨g2,q+1,none⟩=some (.int .i64 ((o.take (q+1)++([y]++o.drop (q+1))).getD (q+1) 0)):=HSk.out.cell hkl;generalize (o.take (q+1)++([y]++o.drop (q+1))).getD (q+1) 0=yk at ck;clear hkl HNEW;generalize wr.drewN nq=V at HP cm fz ck ⊢;go_wp2;go_roundw
        case rel=>exact⟨i+1,g2,c2,by omega,by go_num,by rw [HLN.out],HP⟩
        case measure=>simp [intOf];omega
      ·have g2b:(hr1 == hp1)=false:=by simpa using g2'
       have HGQ:Hid (gtB L (r:Int) (p:Int)=false):=by show _=_;rw [HGT.out,decide_eq_false g1,decide_eq_false g2'];simp
       clear HGT g1 g2';go_wp2_with fail
       go_quiet (fail)
       have HNEW:Hid (ordL L (m.take (i+1))=o.take (q+1)++([(p:Int)]++o.drop (q+1))):=HST.out.trans (insB_at L o (p:Int) (q+1) (by omega) HG.out (.inr (by show gtB L (o.getD q 0) (p:Int)=false;rw [HOR.out];exact HGQ.out)));have HP:Hid (OrSt w ((wr.drewN nq).setCell ⟨g2,q+1,none⟩ (.int .i64 (p:Int))) mb m g2 c2 (ordL L (m.take (i+1)))):=by
        show OrSt _ _ _ _ _ _ _;rw [HNEW.out,← last_set o (q+1) (p:Int) y (by omega)];exact(HSk.out.drewN nq).put (q+1) (p:Int)
       have HLN:Hid ((ordL L (m.take (i+1))).length=o.length+1):=by show _=_;rw [HNEW.out];simp <;> omega
       have cm:(wr.drewN nq).cell? ⟨mb,i,none⟩=some (.int .i64 (p:Int)):=by have:=HSk.out.mc i hlt;rw [HXP.out] at this;exact this
       have fz:(wr.drewN nq).frozen? ⟨g2,q+1,none⟩=false:=own_frozen HSk.out.own (q+1);have hkl:q+1<(o.take (q+1)++([y]++o.drop (q+1))).length:=by simp <;> omega
       have ck:(wr.drewN nq).cell? ⟨g2,q+1,none⟩=some (.int .i64 ((o.take (q+1)++([y]++o.drop (q+1))).getD (q+1) 0)):=HSk.out.cell hkl;generalize (o.take (q+1)++([y]++o.drop (q+1))).getD (q+1) 0=yk at ck;clear hkl HNEW;generalize wr.drewN nq=V at HP cm fz ck ⊢;go_wp2;go_roundw
       case rel=>exact⟨i+1,g2,c2,by omega,by go_num,by rw [HLN.out],HP⟩
       case measure=>simp [intOf];omega
  ·obtain rfl:i=m.length:=by omega
   have e:m.take m.length=m:=List.take_length;rw [e] at HS hv;have HV:Hid (u5=.slice (some ⟨og,0,none⟩) (ordL L m).length ocp):=hv;have HF:Hid (Memb.Own w.heap.size wr (some ⟨og,0,none⟩) ocp (ordL L m)∧Below w.heap.size w wr):=⟨HS.out.own,HS.out.bel⟩
   clear hv HS e;go_wp2;go_ret;exact⟨some ⟨og,0,none⟩,ocp,by rw [HMM.out,← HV.out];rfl,by rw [HMM.out];exact HF.out.1,HF.out.2⟩
end Tl
end Go.Proofs.YtbkeldfbllhlbaaGreat
