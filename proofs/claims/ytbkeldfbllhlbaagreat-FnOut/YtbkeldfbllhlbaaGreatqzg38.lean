/-
 What the program's own WordsOf answers: the words of these knots that are not empty, in order; nothing where one of them is none, or where it is no lace.
 What the law on what is told of a set answers, where the drawing of a room keeps its word and the program's OutOf and WordsOf answer as they should: true at every code.
-/
import Derived.Test.YtbkeldfbllhlbaaGreatqzg37
set_option linter.unusedVariables false
set_option maxRecDepth 100000
set_option maxHeartbeats 6400000
namespace Go.Proofs.YtbkeldfbllhlbaaGreat
open Go.RowKit
namespace Rm
open Kn (K okK)
open Bit (bit memTo)
open Lc (at' RdK laceB setB)
open Sg (bel isB NumsPost)
open Nd (nodsB nodN)
open Tl (taleI taleL outI outL inR)
open Tx (wordsI wordsL OwnT RdT TextsPost)
def ImplOutOf:Prop:=∀(g cap:Nat) (L:List K) (ao:Option Addr) (cc:Nat) (C:List Int) (s:Int) (w:World),LiesC w g L ao C→-9223372036854775808≤s→s≤9223372036854775807 →
  Calls Tryz.prog 7 #[.slice (some ⟨g,0,none⟩) L.length cap,.slice ao C.length cc,.int .i64 s] w (NumsPost (outI L C s) w)
def ImplWordsOf:Prop:=∀(g cap:Nat) (L:List K) (ao:Option Addr) (cc:Nat) (X:List Int) (w:World),LiesS w g L→g<w.heap.size→X.length≤1048576→(∀z∈X,-9223372036854775808≤z∧z≤9223372036854775807)→Lst.Rd w ao X→(∀c,ao=some ⟨c,0,none⟩→c<w.heap.size) →
  Calls Tryz.prog 9 #[.slice (some ⟨g,0,none⟩) L.length cap,.slice ao X.length cc] w (TextsPost (wordsI L X) w)
structure OutIs(L:List K)(C:List Int)(s:Int)(q:Nat)(o:List Int):Prop where
 lace:laceB L=true
 lt:q<L.length
 tale:taleI L C (q:Int)=o
 at':∀i,i<o.length→∃j:Nat,o.getD i 0=(j:Int)∧j<L.length
 ins:∀i,i<o.length→(Base.okB s&&(Base.inB (o.getD i 0)&&bit s (o.getD i 0).toNat))=true
 words:wordsI L o=wordsL L o
 has:Lst.inL o (q:Int)=nodsB L (q:Int) (q:Int)
theorem out_cases(L:List K)(C:List Int)(s:Int):(Fm.lastI L C s<0∧outI L C s=[])∨∃q:Nat,Fm.lastI L C s=(q:Int)∧OutIs L C s q (outI L C s):=by
 cases hr:Fm.rightB L C s
 ·left
  have e1:Fm.firmI L C s=[]:=by unfold Fm.firmI;unfold Fm.rightB at hr;rw [hr];rfl
  have e2:outI L C s=[]:=by unfold Tl.outI;rw [hr];rfl
  refine⟨?_,e2⟩;unfold Fm.lastI;rw [e1];show(-1:Int)<0;omega
 ·have hr':=hr;unfold Fm.rightB at hr';have e1:Fm.firmI L C s=Tl.firmL L C s L.length:=by unfold Fm.firmI;rw [hr'];rfl
  have e2:outI L C s=outL L C s:=by unfold Tl.outI;rw [hr];rfl
  rw [Bool.and_eq_true] at hr';obtain⟨hcl,hco⟩:=hr';have hI:=closedIs hcl;have hl:=hI.lace;have h60:=((Lc.lace_iff L).1 hl).1;have e3:Fm.lastI L C s=Tl.lastT L (Tl.firmL L C s L.length):=by unfold Fm.lastI;rw [e1]
  rcases Tl.last_spec L C s L.length with⟨h,_⟩ | ⟨q,h,hq,hfq,_⟩
  ·left
   rw [e3,e2,h];refine⟨by omega,Tl.out_none (by rw [h];omega)⟩
  ·right
   have eo:outI L C s=taleL L C (q:Int):=by rw [e2,Tl.out_some (by rw [h];omega),h]
   have et:taleI L C (q:Int)=taleL L C (q:Int):=by
    unfold Tl.taleI;refine if_pos ?_;unfold Ch.onB;rw [hco,(isB_iff hl _).2 ⟨by omega,by omega⟩];rfl
   have hsq:bit s q=true:=by unfold Ch.firmN at hfq;rw [Bool.and_eq_true] at hfq;exact hfq.1
   have hmem:∀x∈taleL L C (q:Int),∃j:Nat,x=(j:Int)∧j<L.length∧bit s j=true:=fun x hx=>by
    obtain⟨j,rfl,hj,hb⟩:=Tl.tale_below hl C q hq x hx;exact⟨j,rfl,hj,(Sg.closed_iff L s L.length h60 hI.s0 hI.s1).1 hI.cl q hq hsq j hb⟩
   have hself:=Tl.tale_self hl C hq;have hnod:nodsB L (q:Int) (q:Int)=nodN L q q:=by
    unfold Nd.nodsB;rw [(isB_iff hl _).2 ⟨by omega,by omega⟩,Int.toNat_natCast];rfl
   refine⟨q,by rw [e3,h],?_⟩;rw [eo];rw [← hnod] at hself;generalize taleL L C (q:Int)=o at hmem hself et;refine⟨hl,hq,et,fun i hi=>?_,fun i hi=>?_,?_,hself⟩
   ·obtain⟨j,e,hj,_⟩:=hmem _ (Tl.getD_mem o i hi);exact⟨j,e,hj⟩
   ·obtain⟨j,e,hj,hb⟩:=hmem _ (Tl.getD_mem o i hi);rw [e,Int.toNat_natCast,hb,(Base.okB_iff _).2 ⟨hI.s0,hI.s1⟩,(Base.inB_iff _).2 ⟨by omega,by omega⟩];rfl
   ·unfold Tx.wordsI;refine if_pos ?_;rw [hl,Bool.true_and,List.all_eq_true];intro x hx;obtain⟨j,rfl,hj,_⟩:=hmem x hx;exact(Tl.inR_iff L _).2 ⟨by omega,by omega⟩
structure WsO(wx:World)(B B2 g:Nat)(L:List K)(ao:Option Addr)(cc:Nat)(X:List Int)(tt:Option Addr)(tc:Nat)(T:List ByteArray):Prop where
 lies:LiesS wx g L
 lt:g<wx.heap.size
 own:Memb.Own B wx ao cc X
 txt:OwnT B2 wx tt tc T
theorem WsO.below{wx w':World}{B B2 g:Nat}{L:List K}{ao:Option Addr}{cc:Nat}{X:List Int}{tt:Option Addr}{tc:Nat}{T:List ByteArray}(h:WsO wx B B2 g L ao cc X tt tc T)(hb:Below wx.heap.size wx w'):WsO w' B B2 g L ao cc X tt tc T:=
 ⟨h.lies.below hb,Nat.lt_of_lt_of_le h.lt hb.size,Lst.own_below h.own hb,Tx.own_below h.txt hb⟩
theorem TvO.cell{w wx:World}{B g:Nat}{L:List K}{ao:Option Addr}{C:List Int}{fo:Option Addr}{fc:Nat}{l:List Int}(h:TvO w wx B g L ao C fo fc l)(h0:0<l.length):∃fb,fo=some ⟨fb,0,none⟩∧fb<wx.heap.size∧∀j,j<l.length→wx.cell? ⟨fb,j,none⟩=some (.int .i64 (l.getD j 0)):=by
 rcases own_split h.own with⟨_,e,_⟩ | ⟨fb,rfl,hlt,hc⟩
 ·rw [e] at h0;simp at h0
 ·exact⟨fb,rfl,hlt,hc⟩
theorem outWalk(HI1:ImplOutOf)(HI2:ImplWordsOf)(HD:DrawsRoom)(HDC:DrawsRoomC)(a0:Option Addr)(len0 cap0:Nat)(w:World)(hcode:Cur.Code w a0 len0) :
   Calls Tryz.prog 3 #[.slice a0 len0 cap0] w fun e w'=>e=.returned (.bool true)∧Below w.heap.size w w':=by
 obtain⟨i0,hi,hz0,hz1,hz2⟩:=info_parts Tx.infoT;by_cases hbig:4096<len0
 · have hb':(4096:Int)<(len0:Int):=by omega
   go_enter Tryz.func3,Tryz.ntmps3
   go_wp2;go_ret;exact⟨rfl,Below.refl _ _⟩
 · have hb':¬ (4096:Int)<(len0:Int):=by omega
   have hle0:len0≤4096:=by omega
   have HDD:Hid DrawsRoom:=HD;have HDX:Hid DrawsRoomC:=HDC;have H1:Hid ImplOutOf:=HI1;have H2:Hid ImplWordsOf:=HI2;have HCode:Hid (Cur.Code w a0 len0):=hcode;clear hbig HD HDC hcode HI1 HI2;go_enter Tryz.func3,Tryz.ntmps3
   go_wp2_with (first | (go_at_call 5;go_in) | fail)
   refine(drawOutOf HDD.out HDX.out a0 len0 cap0 _ hle0 HCode.out).mono ?_;rintro e w1 ⟨v,L,ao,cc,C,s,rfl,hD1,hs0⟩;obtain⟨g,cp,rfl,hcp,hL1⟩:=drawn_liesC hD1;have HB1:Hid (Below w.heap.size w w1):=hD1.dr.bel;clear hD1;go_wp2_with fail
   refine(H1.out g cp L ao cc C s _ hL1 hs0.1 hs0.2).mono ?_;rintro e w2 ⟨fo,fc,rfl,hof,hb2⟩;have HS2:Hid (TvO w w2 w1.heap.size g L ao C fo fc (outI L C s)):=⟨hL1.below hb2,hof,HB1.out.trans (hb2.mono HB1.out.size)⟩
   clear hL1 hb2 hof HB1;go_wp2_with fail
   refine(drawWordsOf HDD.out a0 len0 cap0 _ hle0 (code_below2 HCode.out HS2.out.bel)).mono ?_;rintro e w3 ⟨v2,L2,ao2,cc2,X2,rfl,hD3,ho3,hz3,hx3⟩;obtain⟨g2,cp2,rfl,hcp2,hL3⟩:=drawn_liesS hD3;have hg3:=(ownK_at hD3.own).1;have HS3:Hid (TvO w w3 w1.heap.size g L ao C fo fc (outI L C s)):=HS2.out.below hD3.bel;have HZ3:Hid (∀z∈X2,-9223372036854775808≤z∧z≤9223372036854775807):=hz3;have hwi:=H2.out g2 cp2 L2 ao2 cc2 X2 w3 hL3 hg3 (by omega) hz3 (Lst.own_rd ho3) (own_at ho3);have HL3:Hid (LiesS w3 g2 L2∧g2<w3.heap.size∧Memb.Own w2.heap.size w3 ao2 cc2 X2):=⟨hL3,hg3,ho3⟩
   clear HS2 hD3 ho3 hz3 hL3 hg3 HCode;go_wp2_with fail
   refine hwi.mono ?_;rintro e w4 ⟨tt,tc,rfl,htx,hb4⟩;have HS4:Hid (TvO w w4 w1.heap.size g L ao C fo fc (outI L C s)):=HS3.out.below hb4;have HM4:Hid (WsO w4 w2.heap.size w3.heap.size g2 L2 ao2 cc2 X2 tt tc (wordsI L2 X2)):=⟨HL3.out.1.below hb4,Nat.lt_of_lt_of_le HL3.out.2.1 hb4.size,Lst.own_below HL3.out.2.2 hb4,htx⟩
   clear HS3 hwi htx hb4 HL3;have hsA:=Tl.specOutOf g 0 cp L ao cc C s w4 hcp HS4.out.lies.l.words HS4.out.lies.lt HS4.out.lies.l.rd (by have:=HS4.out.lies.c.len;omega) HS4.out.lies.c.rd HS4.out.lies.c.at';have HWS:Hid (∀(W:World),WsO W w2.heap.size w3.heap.size g2 L2 ao2 cc2 X2 tt tc (wordsI L2 X2)→Calls Tryz.prog 13 #[.slice (some ⟨g2,0,none⟩) L2.length cp2,.slice ao2 X2.length cc2] W (TextsPost (wordsI L2 X2) W)):=fun W h=>Tx.specWordsOf g2 0 cp2 L2 ao2 cc2 X2 W hcp2 h.lies.words h.lt h.lies.rd (by omega) (Lst.own_rd h.own) (own_at h.own)
   have htl:=Tx.wordsI_len L2 X2;have HLF:Hid (∀(W:World),LiesC W g L ao C→Calls Tryz.prog 14 #[.slice (some ⟨g,0,none⟩) L.length cp,.slice ao C.length cc,.int .i64 s] W fun e w'=>e=.returned (.int .i64 (Fm.lastI L C s))∧Below W.heap.size W w'):=fun W h=>Fm.specLastFirm g 0 cp L ao cc C s W (by have:=h.l.len;omega) hcp h.l.words h.lt h.l.rd (by have:=h.c.len;omega) h.c.rd h.c.at'
   have HCS:Hid ((Fm.lastI L C s<0∧outI L C s=[])∨∃q:Nat,Fm.lastI L C s=(q:Int)∧OutIs L C s q (outI L C s)):=out_cases L C s;have hlen:=Tl.outI_len L C s;generalize wordsI L2 X2=T2 at HM4 HWS htl ⊢;generalize outI L C s=ol at HS4 hsA HCS hlen ⊢;generalize Fm.lastI L C s=kk at HLF HCS;go_upto_region 7 with fail
   go_cut [48] (fun bv wx=>bv=.bool false∧Hid (TvO w wx w1.heap.size g L ao C fo fc ol))
   case first=>
     as_aux_lemma=>
       go_wp2_with fail
       refine hsA.mono ?_;rintro e w5 ⟨so,sc,rfl,hos,hb5⟩;have HS5:Hid (TvO w w5 w1.heap.size g L ao C fo fc ol):=HS4.out.below hb5;have HM5:Hid (WsO w5 w2.heap.size w3.heap.size g2 L2 ao2 cc2 X2 tt tc T2):=HM4.out.below hb5;have hlk:=Lst.alike ol fo so fc sc w5 (by omega) (Lst.own_rd HS5.out.own) (Lst.own_rd hos);clear HS4 HM4 hb5 hos hsA;go_wp2_with fail
       refine hlk.mono ?_;rintro e w6 ⟨rfl,n6,rfl⟩;have HS6:Hid (TvO w (w5.drewN n6) w1.heap.size g L ao C fo fc ol):=HS5.out.drewN n6;have HM6:Hid (WsO (w5.drewN n6) w2.heap.size w3.heap.size g2 L2 ao2 cc2 X2 tt tc T2):=HM5.out.below (Db.below_drewN (Below.refl _ w5) n6);clear hlk HS5 HM5;generalize w5.drewN n6=V6 at HS6 HM6 ⊢;go_wp2_with fail
       refine(HWS.out V6 HM6.out).mono ?_;rintro e w7 ⟨po,pc,rfl,hop,hb7⟩;have HS7:Hid (TvO w w7 w1.heap.size g L ao C fo fc ol):=HS6.out.below hb7;have HM7:Hid (WsO w7 w2.heap.size w3.heap.size g2 L2 ao2 cc2 X2 tt tc T2):=HM6.out.below hb7;have hlt:=Tx.alikeT T2 tt po tc pc w7 (by omega) (Tx.own_rd HM7.out.txt) (Tx.own_rd hop);clear HS6 HM6 hb7 hop;go_wp2_with fail
       refine hlt.mono ?_;rintro e w8 ⟨rfl,hb8⟩;have HS8:Hid (TvO w w8 w1.heap.size g L ao C fo fc ol):=HS7.out.below hb8;clear HS7 HM7 hb8 hlt;go_wp2_with fail
       go_meet;exact⟨rfl,HS8⟩
   case rest=>
     clear HS4 HM4 HWS hsA HZ3 htl;obtain⟨rfl,HS8⟩:=hcut;go_wp2_with fail
     refine(HLF.out _ HS8.out.lies).mono ?_;rintro e w9 ⟨rfl,hb9⟩;have HS9:Hid (TvO w w9 w1.heap.size g L ao C fo fc ol):=HS8.out.below hb9;clear HS8 hb9 HLF;rcases HCS.out with⟨hneg,rfl⟩ | ⟨q,rfl,hO⟩
     · clear HCS;go_wp2;go_ret;exact⟨rfl,HS9.out.bel⟩
     · have HO:Hid (OutIs L C s q ol):=hO;have hqn:¬ (q:Int)<0:=by omega
       clear HCS hO;go_wp2_with fail
       go_loopw [11] (fun iv wx=>∃i:Nat,i≤ol.length∧iv=.int .i64 i∧Hid (TvO w wx w1.heap.size g L ao C fo fc ol)) (fun iv _=>ol.length-(intOf iv).toNat)
       case atStart=>exact⟨0,by omega,rfl,HS9⟩
       case round=>
         obtain⟨i,hi',rfl,HS⟩:=hrel;clear HS9;by_cases hlt:i<ol.length
         · have hlti:(i:Int)<(ol.length:Int):=by omega
           obtain⟨fb,rfl,hfb,hrow⟩:=HS.out.cell (by omega);have ci:=hrow i hlt;have HIN:Hid ((Base.okB s&&(Base.inB (ol.getD i 0)&&bit s (ol.getD i 0).toNat))=true):=HO.out.ins i hlt;clear hrow;generalize ol.getD i 0=y at ci HIN;go_wp2_with (first | (go_at_call 15;refine(Base.specIn _ _ _).mono ?_;rintro e w' ⟨rfl,rfl⟩;rw [HIN.out]) | fail)
           go_roundw
           case rel=>exact⟨i+1,by omega,by go_num,HS⟩
           case measure=>simp [intOf];omega
         · obtain rfl:i=ol.length:=by omega
           have hlti:¬ (ol.length:Int)<(ol.length:Int):=by omega
           obtain⟨wz,rfl⟩:∃wz,wz=wr:=⟨_,rfl⟩
           have HE0:Hid ((wz.alloc (.cells #[] 9)).ownsRow wz.heap.size 9 1 (.slice (some ⟨wz.heap.size,0,none⟩) 0 0) 0 []∧Below wz.heap.size wz (wz.alloc (.cells #[] 9))):=⟨Tx.own_empty wz,(Below.refl _ wz).alloc (Nat.le_refl _) _⟩
           have HXZ:Hid (∀W,Below wz.heap.size wz W→TvO w W w1.heap.size g L ao C fo fc ol):=fun W h=>HS.out.below h
           clear HS;go_wp2_with fail
           go_loopw [12,13] (fun v iv wx=>∃j:Nat,j≤ol.length∧iv=.int .i64 j∧Hid (wx.ownsRow wz.heap.size 9 1 v (wordsL L (ol.take j)).length ((wordsL L (ol.take j)).map Value.string))∧Hid (Below wz.heap.size wz wx)) (fun _ iv _=>ol.length-(intOf iv).toNat)
           case atStart=>exact⟨0,by omega,rfl,HE0.out.1,HE0.out.2⟩
           case round=>
             obtain⟨j,hj,rfl,HT,HB⟩:=hrel;clear HE0;by_cases hlt:j<ol.length
             · have hlti:(j:Int)<(ol.length:Int):=by omega
               obtain⟨fb,rfl,hfb,hrow⟩:=(HXZ.out _ HB.out).cell (by omega);have ci:=hrow j hlt;obtain⟨p,ep,hp⟩:=HO.out.at' j hlt;have HSN:Hid (wordsL L (ol.take (j+1))=if (at' L p).word.toList.isEmpty then wordsL L (ol.take j) else wordsL L (ol.take j)++[(at' L p).word]):=by
                 show _=_;have:=Tx.words_snoc L (ol.take j) (p:Int);rw [Int.toNat_natCast] at this;rw [← this];congr 1
                 rw [List.take_add_one,List.getElem?_eq_getElem hlt,← Tl.getD_get ol j hlt,ep];rfl
               have hwl:=Tx.words_len L (ol.take j);have hwl2:(wordsL L (ol.take j)).length≤1048576:=by rw [List.length_take] at hwl;omega
               clear hwl;rw [ep] at ci;have hpi:(p:Int)<(L.length:Int):=by omega
               obtain⟨_,_,_,_,k3⟩:=(HXZ.out _ HB.out).lies.l.rd.on p hp;rw [Nat.zero_add] at k3;generalize (at' L p).word=wd at k3 HSN;generalize hnx:wordsL L (ol.take (j+1))=nx at HSN;have HNX:Hid (wordsL L (ol.take (j+1))=nx):=hnx;generalize wordsL L (ol.take j)=pv at HSN HT hwl2;clear hnx hrow ep
               cases hwd:wd.toList.isEmpty;rotate_left
               · obtain rfl:nx=pv:=by rw [HSN.out,if_pos hwd]
                 have hne:(!wd.toList.isEmpty)=false:=by rw [hwd];rfl
                 clear HSN hwd;go_wp2;go_roundw
                 case rel=>exact⟨j+1,by omega,by go_num,by rw [HNX.out];exact HT,HB⟩
                 case measure=>simp [intOf];omega
               · obtain rfl:nx=pv++[wd]:=by rw [HSN.out,if_neg (by rw [hwd];simp)]
                 have hne:(!wd.toList.isEmpty)=true:=by rw [hwd];rfl
                 have own3:=HT.out;have hW3:=HB.out.size;clear HSN hwd;go_wp2_with (first | (at_builtin;refine wpList_append_own _ rfl _ _ 31 rfl wz.heap.size 9 i0 (.string ⟨#[]⟩) 1 16 Tryz.underlying31 hi hz0 hz1 hz2 rfl (by decide) u12 pv.length (pv.map Value.string) (by first | rfl | simp [Act.eval]) (own3.alloc _) ⟨wr.heap.size,0,none⟩ 1 1 [.string wd] (by first | rfl | simp [Act.eval]) rfl (Tx.one_newT wr wd _) (Tx.one_oneT wd) ?c3 ?c4 ?c5 ?_) | fail)
                 case c3=>unfold maxLen;omega
                 case c4=>omega
                 case c5=>simp;omega
                 intro v' w13 hown' hgrow hnil;have HT3:Hid (w13.ownsRow wz.heap.size 9 1 v' (pv++[wd]).length ((pv++[wd]).map Value.string)):=by show World.ownsRow _ _ _ _ _ _ _;simpa using hown'
                 have HB3:Hid (Below wz.heap.size wz w13):=(HB.out.alloc HB.out.size _).grown hgrow (by have:=HB.out.size;simp;omega) (fun q hq=>(World.ownsRow.lt own3 q hq).1);clear hown' hgrow hnil own3 HT HB;go_wp2;go_roundw
                 case rel=>exact⟨j+1,by omega,by go_num,by rw [HNX.out];exact HT3,HB3⟩
                 case measure=>simp [intOf];omega
             · obtain rfl:j=ol.length:=by omega
               have hlti2:¬ (ol.length:Int)<(ol.length:Int):=by omega
               rw [List.take_length] at HT;obtain⟨bo,bc,rfl,hown⟩:=Tx.own_shape HT.out;have HTX:Hid (OwnT wz.heap.size wr bo bc (wordsL L ol)):=hown;have hS:=HXZ.out _ HB.out;have hta:=Tl.specTaleOf g 0 cp L ao cc C (q:Int) wr hcp hS.lies.l.words hS.lies.lt hS.lies.l.rd (by have:=hS.lies.c.len;omega) hS.lies.c.rd hS.lies.c.at';rw [HO.out.tale] at hta;have HWI:Hid (∀W,TvO w W w1.heap.size g L ao C fo fc ol→Calls Tryz.prog 9 #[.slice (some ⟨g,0,none⟩) L.length cp,.slice fo ol.length fc] W (TextsPost (wordsL L ol) W)):=fun W h=>by
                 have := H2.out g cp L fo fc ol W h.lies.l h.lies.lt (by omega) (fun z hz=>by
                   obtain⟨x,hx,e⟩:=List.getElem_of_mem hz;obtain⟨p,ep,hp⟩:=HO.out.at' x hx;have:=h.lies.l.len;rw [Tl.getD_get ol x hx,e] at ep;omega) (Lst.own_rd h.own) (own_at h.own)
                 rw [HO.out.words] at this;exact this
               have HHA:Hid (∀W,TvO w W w1.heap.size g L ao C fo fc ol→Calls Tryz.prog 17 #[.slice fo ol.length fc,.int .i64 q] W fun e w'=>e=.returned (.bool (nodsB L (q:Int) (q:Int)))∧W=w'):=fun W h=>by
                 have:=Lst.isIn ol (q:Int) fo fc W (by omega) (Lst.own_rd h.own);rw [HO.out.has] at this;exact this
               have HNO:Hid (∀W,TvO w W w1.heap.size g L ao C fo fc ol→Calls Tryz.prog 18 #[.slice (some ⟨g,0,none⟩) L.length cp,.int .i64 q,.int .i64 q] W fun e w'=>e=.returned (.bool (nodsB L (q:Int) (q:Int)))∧Below W.heap.size W w'):=fun W h=>Nd.specNods g 0 cp L q q W hcp h.lies.l.words h.lies.l.rd
               have hwl:=Tx.words_len L ol;have HSR:Hid (TvO w wr w1.heap.size g L ao C fo fc ol):=hS;generalize nodsB L (q:Int) (q:Int)=nb at HHA HNO;generalize wordsL L ol=T at HTX HWI hwl ⊢;clear HT hown hS HXZ HB;go_wp2_with fail
               refine hta.mono ?_;rintro e w14 ⟨so,sc,rfl,hos,hb14⟩;have HS14:Hid (TvO w w14 w1.heap.size g L ao C fo fc ol):=HSR.out.below hb14;have HT14:Hid (OwnT wz.heap.size w14 bo bc T):=Tx.own_below HTX.out hb14;have hlk:=Lst.alike ol fo so fc sc w14 (by omega) (Lst.own_rd HS14.out.own) (Lst.own_rd hos);clear HSR HTX hb14 hos hta;go_wp2_with fail
               refine hlk.mono ?_;rintro e w15 ⟨rfl,n15,rfl⟩;have HS15:Hid (TvO w (w14.drewN n15) w1.heap.size g L ao C fo fc ol):=HS14.out.drewN n15;have HT15:Hid (OwnT wz.heap.size (w14.drewN n15) bo bc T):=Tx.own_below HT14.out (Db.below_drewN (Below.refl _ w14) n15);clear hlk HS14 HT14;generalize w14.drewN n15=V15 at HS15 HT15 ⊢;go_wp2_with fail
               refine(HWI.out V15 HS15.out).mono ?_;rintro e w16 ⟨po,pc,rfl,hop,hb16⟩;have HS16:Hid (TvO w w16 w1.heap.size g L ao C fo fc ol):=HS15.out.below hb16;have hlt:=Tx.alikeT T po bo pc bc w16 (by omega) (Tx.own_rd hop) (Tx.own_rd (Tx.own_below HT15.out hb16));clear HS15 HT15 hb16 hop HWI;go_wp2_with fail
               refine hlt.mono ?_;rintro e w17 ⟨rfl,hb17⟩;have HS17:Hid (TvO w w17 w1.heap.size g L ao C fo fc ol):=HS16.out.below hb17;clear HS16 hb17 hlt;go_wp2_with fail
               refine(HHA.out w17 HS17.out).mono ?_;rintro e w' ⟨rfl,rfl⟩;go_wp2_with fail
               refine(HNO.out _ HS17.out).mono ?_;rintro e w18 ⟨rfl,hb18⟩;have HB18:Hid (Below w.heap.size w w18):=(HS17.out.below hb18).bel;clear HS17 hb18 HHA HNO
               cases nb
               · go_wp2;go_ret;exact⟨rfl,HB18.out⟩
               · go_wp2;go_ret;exact⟨rfl,HB18.out⟩
end Rm
namespace Tp
open Kn (K okK)
open Lc (at' RdK WordsOk laceB)
open Tl (inR)
open Tx (wordsL wordsI OwnT TextsPost)
theorem words_step{L:List K}{X:List Int}{j:Nat}(hlt:j<X.length):wordsL L (X.take (j+1))=if (at' L (X.getD j 0).toNat).word.toList.isEmpty then wordsL L (X.take j) else wordsL L (X.take j)++[(at' L (X.getD j 0).toNat).word]:=by
 rw [← Tx.words_snoc];congr 1
 rw [List.take_add_one,List.getElem?_eq_getElem hlt];simp [List.getD,hlt]
theorem words(g off cap:Nat)(L:List K)(ao:Option Addr)(cc:Nat)(X:List Int)(w:World)(hlc:laceB L=true)(hl:X.length≤1048576)(hg:g<w.heap.size)(hr:RdK w (some ⟨g,off,none⟩) L)(hrd:Lst.Rd w ao X)(hao:∀c,ao=some ⟨c,0,none⟩→c<w.heap.size) :
  Calls Tryz.prog 36 #[.slice (some ⟨g,off,none⟩) L.length cap,.slice ao X.length cc] w (TextsPost (wordsI L X) w):=by
 obtain⟨i0,hi,hz0,hz1,hz2⟩:=info_parts Tx.infoT;have h60:=((Lc.lace_iff L).1 hlc).1;have HE0:Hid ((w.alloc (.cells #[] 9)).ownsRow w.heap.size 9 1 (.slice (some ⟨w.heap.size,0,none⟩) 0 0) 0 []∧Below w.heap.size w (w.alloc (.cells #[] 9))):=⟨Tx.own_empty w,(Below.refl _ w).alloc (Nat.le_refl _) _⟩
 have HA:Hid (∀x:Int,(Base.okB (2 ^ L.length-1)&&(Base.inB x&&Bit.bit (2 ^ L.length-1) x.toNat))=inR L x):=fun x=>Sg.all_has h60 x
 have HALL:Hid (∀W:World,Calls Tryz.prog 75 #[.slice (some ⟨g,off,none⟩) L.length cap] W fun e w'=>e=.returned (.int .i64 (2 ^ L.length-1))∧W=w'):=fun W=>Lc.all _ _ _ W h60
 have HHAS:Hid (∀(x:Int) (W:World),Calls Tryz.prog 65 #[.int .i64 (2 ^ L.length-1),.int .i64 x] W fun e w'=>e=.returned (.bool (inR L x))∧W=w'):=fun x W=>by
  have:=Base.has (2 ^ L.length-1) x W;rwa [HA.out x] at this
 clear HA;have HRD:Hid (Lst.Rd w ao X):=hrd;have HR:Hid (RdK w (some ⟨g,off,none⟩) L):=hr;have HAO:Hid (∀c,ao=some ⟨c,0,none⟩→c<w.heap.size):=hao;have HEND:Hid ((∀q,q<X.length→inR L (X.getD q 0)=true)→wordsI L X=wordsL L X):=fun h=>by
  unfold Tx.wordsI;rw [hlc,Bool.true_and,if_pos];rw [List.all_eq_true];intro x hx;obtain⟨q,hq,e⟩:=List.getElem_of_mem hx;have:=h q hq;unfold List.getD at this;rw [List.getElem?_eq_getElem hq] at this;rw [← e];exact this
 have HNIL:Hid (∀j,j<X.length→inR L (X.getD j 0)=false→wordsI L X=[]):=fun j hj h=>by
  unfold Tx.wordsI;refine if_neg ?_;intro q;rw [Bool.and_eq_true,List.all_eq_true] at q;have:=q.2 _ (show X.getD j 0∈X by unfold List.getD;rw [List.getElem?_eq_getElem hj];exact List.getElem_mem hj);rw [h] at this;exact Bool.noConfusion this
 have HNP:Hid (∀W:World,Below w.heap.size w W→wordsI L X=[]→TextsPost (wordsI L X) w (.returned (.slice (some ⟨W.heap.size,0,none⟩) 0 0)) (W.alloc (.cells #[] 9))):=fun W hW e=>by
  rw [e];refine⟨some ⟨W.heap.size,0,none⟩,0,rfl,?_,hW.alloc hW.size _⟩;obtain⟨h1,h2 | ⟨q,cap',cur,hv,hB,hn⟩⟩:=Tx.own_empty W
  ·exact⟨h1,.inl h2⟩
  ·exact⟨h1,.inr ⟨q,cap',cur,hv,by have:=hW.size;omega,hn⟩⟩
 generalize (2:Int) ^ L.length-1=al at HALL HHAS;clear hrd hr hao hlc h60;go_enter Tryz.func36,Tryz.ntmps36
 go_wp2;go_step3
 go_wp2;go_step3
 go_wp2;go_loopw [5,11] (fun v i wr=>∃j:Nat,j≤X.length∧i=.int .i64 j∧Hid (wr.ownsRow w.heap.size 9 1 v (wordsL L (X.take j)).length ((wordsL L (X.take j)).map Value.string))∧Hid (Below w.heap.size w wr)∧Hid (∀q,q<j→inR L (X.getD q 0)=true)) (fun _ i _=>X.length-(intOf i).toNat)
 case atStart=>exact⟨0,by omega,rfl,HE0.out.1,HE0.out.2,fun q hq=>absurd hq (by omega)⟩
 case round=>
  obtain⟨j,hj,rfl,HO,HB,HIN⟩:=hrel;clear HE0;by_cases hlt:j<X.length
  ·have hlti:(j:Int)<(X.length:Int):=by omega
   obtain⟨gx,hgx,hcx⟩:∃gx,ao=some ⟨gx,0,none⟩∧wr.cell? ⟨gx,j,none⟩=some (.int .i64 (X.getD j 0)):=by
    rcases HRD.out with e | ⟨gx,e,hc⟩
    ·rw [e] at hlt;simp at hlt
    ·exact⟨gx,e,(HB.out.cell (p:=⟨gx,j,none⟩) (HAO.out gx e)).trans (hc j hlt)⟩
   subst hgx;have HSN:Hid (_):=words_step (L:=L) hlt;have hwl:=Tx.words_len L (X.take j);have hwl2:(wordsL L (X.take j)).length≤1048576:=by rw [List.length_take] at hwl;omega
   clear hwl;have HYS:Hid (inR L (X.getD j 0)=true→∀q,q<j+1→inR L (X.getD q 0)=true):=fun h q hq=>by
    by_cases e:q=j
    ·subst e;exact h
    ·exact HIN.out q (by omega)
   have HNO:Hid (inR L (X.getD j 0)=false→wordsI L X=[]):=HNIL.out j hlt;have HDF:Hid (inR L (X.getD j 0)=(decide (0≤X.getD j 0)&&decide (X.getD j 0<(L.length:Int)))):=rfl;generalize X.getD j 0=y at hcx HSN HYS HNO HDF
   cases hin:inR L y
   ·have HHF:Hid (∀(W:World),Calls Tryz.prog 65 #[.int .i64 al,.int .i64 y] W fun e w'=>e=.returned (.bool false)∧W=w'):=fun W=>by have:=HHAS.out y W;rwa [hin] at this
    have HP:Hid _:=HNP.out wr HB.out (HNO.out hin);clear HSN HYS HNO HDF hin HHAS HNP HIN HO HB HEND HNIL;go_wp2_with (first | (go_at_call 75;refine(HALL.out _).mono ?_;rintro e w' ⟨rfl,rfl⟩) | (go_at_call 65;refine(HHF.out _).mono ?_;rintro e w' ⟨rfl,rfl⟩))
    try rw [Exit.noGoto_ret]
    go_ret;exact HP.out
   ·have HHF:Hid (∀(W:World),Calls Tryz.prog 65 #[.int .i64 al,.int .i64 y] W fun e w'=>e=.returned (.bool true)∧W=w'):=fun W=>by have:=HHAS.out y W;rwa [hin] at this
    have HIN2:Hid (∀q,q<j+1→inR L (X.getD q 0)=true):=HYS.out hin;rw [hin] at HDF;have hyb:0≤y∧y<(L.length:Int):=by have:=HDF.out.symm;simpa [Bool.and_eq_true,decide_eq_true_eq] using this
    obtain⟨p,rfl⟩:=Int.eq_ofNat_of_zero_le hyb.1;have hp:p<L.length:=by omega
    have hpi:(p:Int)<(L.length:Int):=by omega
    rw [Int.toNat_natCast] at HSN;obtain⟨_,hcs⟩:=HR.out.on p hp;obtain⟨_,_,_,k3⟩:=hcs.below HB.out hg;clear HYS HNO HDF hin HHAS HNP HIN HNIL hcs;generalize (at' L p).word=wd at k3 HSN;generalize hnx:wordsL L (X.take (j+1))=nx at HSN;have HNX:Hid (wordsL L (X.take (j+1))=nx):=hnx;generalize wordsL L (X.take j)=pv at HSN HO hwl2;clear hnx
    cases hwd:wd.toList.isEmpty;rotate_left
    ·obtain rfl:nx=pv:=by rw [HSN.out,if_pos hwd]
     have hne:(!wd.toList.isEmpty)=false:=by rw [hwd];rfl
     clear HSN hwd;go_wp2_with (first | (go_at_call 75;refine(HALL.out _).mono ?_;rintro e w' ⟨rfl,rfl⟩) | (go_at_call 65;refine(HHF.out _).mono ?_;rintro e w' ⟨rfl,rfl⟩))
     go_roundw
     case rel=>exact⟨j+1,by omega,by go_num,by rw [HNX.out];exact HO,HB,HIN2⟩
     case measure=>simp [intOf];omega
    ·obtain rfl:nx=pv++[wd]:=by rw [HSN.out,if_neg (by rw [hwd];simp)]
     have hne:(!wd.toList.isEmpty)=true:=by rw [hwd];rfl
     have own3:=HO.out;have hW3:=HB.out.size;clear HSN hwd;go_wp2_with (first | (go_at_call 75;refine(HALL.out _).mono ?_;rintro e w' ⟨rfl,rfl⟩) | (go_at_call 65;refine(HHF.out _).mono ?_;rintro e w' ⟨rfl,rfl⟩) | (at_builtin;refine wpList_append_own _ rfl _ _ 31 rfl w.heap.size 9 i0 (.string ⟨#[]⟩) 1 16 Tryz.underlying31 hi hz0 hz1 hz2 rfl (by decide) u5 pv.length (pv.map Value.string) (by first | rfl | simp [Act.eval]) (own3.alloc _) ⟨wr.heap.size,0,none⟩ 1 1 [.string wd] (by first | rfl | simp [Act.eval]) rfl (Tx.one_newT wr wd _) (Tx.one_oneT wd) ?c3 ?c4 ?c5 ?_))
     case c3=>unfold maxLen;omega
     case c4=>omega
     case c5=>simp;omega
     intro v' w3 hown' hgrow hnil;have HO3:Hid (w3.ownsRow w.heap.size 9 1 v' (pv++[wd]).length ((pv++[wd]).map Value.string)):=by show World.ownsRow _ _ _ _ _ _ _;simpa using hown'
     have HB3:Hid (Below w.heap.size w w3):=(HB.out.alloc HB.out.size _).grown hgrow (by have:=HB.out.size;simp;omega) (fun q hq=>(World.ownsRow.lt own3 q hq).1);clear hown' hgrow hnil own3 HO HB;go_wp2;go_roundw
     case rel=>exact⟨j+1,by omega,by go_num,by rw [HNX.out];exact HO3,HB3,HIN2⟩
     case measure=>simp [intOf];omega
  ·obtain rfl:j=X.length:=by omega
   have hlti:¬ (X.length:Int)<(X.length:Int):=by omega
   rw [List.take_length] at HO;have HW:Hid (wordsI L X=wordsL L X):=HEND.out HIN.out;obtain⟨bo,bc,rfl,hown⟩:=Tx.own_shape HO.out;have HT:Hid (TextsPost (wordsL L X) w (.returned (.slice bo (wordsL L X).length bc)) wr):=⟨bo,bc,rfl,hown,HB.out⟩
   clear HO hown HB HIN HEND HNIL HNP;generalize (wordsL L X).length=nS at HT ⊢;go_wp2;try rw [Exit.noGoto_ret]
   go_ret;rw [HW.out];exact HT.out
theorem implWordsOf(g off cap:Nat)(L:List K)(ao:Option Addr)(cc:Nat)(X:List Int)(w:World)(hlen:L.length≤1099511627776)(hw:WordsOk L)(hr:RdK w (some ⟨g,off,none⟩) L)(hl:X.length≤1048576)(hrd:Lst.Rd w ao X)(hao:∀c,ao=some ⟨c,0,none⟩→c<w.heap.size) :
  Calls Tryz.prog 9 #[.slice (some ⟨g,off,none⟩) L.length cap,.slice ao X.length cc] w (TextsPost (wordsI L X) w):=by
 have hlf:=Lc.laceOf g off cap L w hlen hw hr;have HRD:Hid (∀W:World,Below w.heap.size w W→Lst.Rd W ao X):=fun W hW=>by
  rcases hrd with h | ⟨g',e,hc⟩
  ·exact .inl h
  ·exact .inr ⟨g',e,fun j hj=>(hW.cell (p:=⟨g',j,none⟩) (hao g' e)).trans (hc j hj)⟩
 have HAO:Hid (∀c,ao=some ⟨c,0,none⟩→c<w.heap.size):=hao;clear hr hw hlen hrd hao;go_enter Tryz.func9,Tryz.ntmps9
 go_wp2_with fail
 refine hlf.mono ?_;rintro e w1 (⟨hlc,g',rfl,hg',hrg,hb1⟩ | ⟨hlc,rfl,hb1⟩)
 ·have hcall:=words g' 0 L.length L ao cc X w1 hlc hl hg' hrg (HRD.out _ hb1) (fun c e=>Nat.lt_of_lt_of_le (HAO.out c e) hb1.size);clear hlc hlf hrg hg' HRD HAO;go_wp2_with fail
  refine hcall.mono ?_;rintro e w2 ⟨ro,rc,rfl,hown,hb2⟩;have HP:Hid (OwnT w.heap.size w2 ro rc (wordsI L X)∧Below w.heap.size w w2):=by
   refine⟨?_,hb1.trans (hb2.mono hb1.size)⟩;obtain⟨h1,h2 | ⟨q,cap',cur,hv,hB,hn⟩⟩:=hown
   ·exact⟨h1,.inl h2⟩
   ·exact⟨h1,.inr ⟨q,cap',cur,hv,Nat.le_trans hb1.size hB,hn⟩⟩
  clear hcall hown hb2 hb1;go_wp2;go_ret;exact⟨ro,rc,rfl,HP.out.1,HP.out.2⟩
 ·have HT:Hid (wordsI L X=[]):=by show _=_;unfold Tx.wordsI;rw [hlc];rfl
  have HP:Hid (TextsPost [] w (.returned (.slice (some ⟨w1.heap.size,0,none⟩) 0 0)) (w1.alloc (.cells #[] 9))):=by
   refine⟨some ⟨w1.heap.size,0,none⟩,0,rfl,?_,hb1.alloc hb1.size _⟩;obtain⟨h1,h2 | ⟨q,cap',cur,hv,hB,hn⟩⟩:=Tx.own_empty w1
   ·exact⟨h1,.inl h2⟩
   ·exact⟨h1,.inr ⟨q,cap',cur,hv,Nat.le_trans hb1.size hB,hn⟩⟩
  clear hlc hlf HRD HAO hb1;go_wp2;go_ret;rw [HT.out];exact HP.out
end Tp
end Go.Proofs.YtbkeldfbllhlbaaGreat
