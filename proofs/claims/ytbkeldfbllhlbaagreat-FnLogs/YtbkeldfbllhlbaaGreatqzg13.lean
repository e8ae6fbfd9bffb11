/-
 What the program's own HandsOf and AtRound answer, in the words of LaceM; for lists of at most 2^40 knots whose words have at most 2^40 bytes.
-/
import Derived.Test.YtbkeldfbllhlbaaGreatqzg12
set_option linter.unusedVariables false
set_option maxRecDepth 100000
set_option maxHeartbeats 6400000
namespace Go.Proofs.YtbkeldfbllhlbaaGreat
open Go.RowKit
namespace Rm
open Kn (K okK)
open Lc (at' RdK laceB flat OwnK cellsOf)
open Cur (At)
theorem rd_grown2{A B:World}{c g:Nat}{L:List K}(h:RdK A (some ⟨g,0,none⟩) L)(hg:A.grownBy B (some c))(hne:g≠c):RdK B (some ⟨g,0,none⟩) L:=by
 rcases h with h | ⟨g',off',e,hlt,hc⟩
 ·exact .inl h
 ·cases e;refine .inr ⟨g,0,rfl,Nat.lt_of_lt_of_le hlt hg.size,fun i hi=>?_⟩;have c':=hc i hi;have f:∀o:Nat,B.cell? ⟨g,o,none⟩=A.cell? ⟨g,o,none⟩:=fun o=>(Fr.of_grown hg).cell (p:=⟨g,o,none⟩) hlt hne
  exact⟨(f _).trans c'.c0,(f _).trans c'.c1,(f _).trans c'.c2,(f _).trans c'.c3⟩
theorem l4DrawSet(c:Nat)(a:Option Addr)(len cap:Nat)(g cp:Nat)(L:List K)(w:World)(hl:len≤4096)(hc:At c a len cap w)(hne:g≠c)(h61:L.length≤61)(hcp:L.length≤cp)(hw:Lc.WordsOk L)(hr:RdK w (some ⟨g,0,none⟩) L) :
  Calls Tryz.prog 53 #[.pointer (some ⟨c,0,none⟩),.slice (some ⟨g,0,none⟩) L.length cp] w (NumPost c a len cap w):=by
 go_enter Tryz.func53,Tryz.ntmps53
 go_wp2_with fail
 refine(Cur.once c a len cap 6 _ hl (by omega) hc).mono ?_;rintro e w1 ⟨b,rfl,hA1,hG1⟩;have hr1:=rd_grown2 hr hG1 hne
 cases b
 ·go_wp2_with fail
  refine(Lc.specLaceOk g 0 cp L _ hcp hw hr1).mono ?_;rintro e w2 ⟨rfl,hb2⟩;have hA2:=hA1.below hb2;have G2:w.grownBy w2 (some c):=((Fr.of_grown hG1).trans (Fr.of_below hb2 (fun x=>x=c)) (fun _ h _=>h)).grown;have hr2:=hr1.below hb2;clear hA1 hG1 hb2 hr1
  cases hlc:laceB L
  ·go_wp2_with fail
   refine(l3DrawSet _ a len cap L.length _ hl h61 hA2).mono ?_;rintro e w3 ⟨s,rfl,hs,hA3,hG3⟩;have G3:=Cur.grownBy_trans G2 hG3;go_wp2;go_ret;exact⟨s,rfl,hs,hA3,G3⟩
  ·have h60:=((Lc.lace_iff L).1 hlc).1;have hf:=Sg.frm_lace hlc;clear hlc;go_wp2_with fail
   refine(Sg.l4All (some ⟨g,0,none⟩) cp L _ h60 hf hr2).mono ?_;rintro e w3 ⟨bo,bc,rfl,hown,hb3⟩;have hbl:=Sg.belows_len L L.length;have hA3:=hA2.below hb3;have G3:w.grownBy w3 (some c):=((Fr.of_grown G2).trans (Fr.of_below hb3 (fun x=>x=c)) (fun _ h _=>h)).grown;have hlt2:=hA2.lt;have HON:Hid (Memb.Own w2.heap.size w3 bo bc (Sg.belows L L.length)):=hown;have HBL:Hid ((Sg.belows L L.length).length=L.length):=hbl;clear hA2 G2 hb3 hr2 hown hbl;generalize Sg.belows L L.length=l at HON HBL ⊢;go_wp2_with fail
   refine(Cur.below c a len cap 4 _ hl (by omega) hA3).mono ?_;rintro e w4 ⟨k,rfl,hk0,hk1,hA4,hG4⟩;have hk2:=hk1 (by omega);have HO4:Hid (Memb.Own w2.heap.size w4 bo bc l):=Draw.own_grown HON.out hG4 hlt2;have HA4:Hid (At c a len cap w4):=hA4;have HG4:Hid (w.grownBy w4 (some c)):=Cur.grownBy_trans G3 hG4;clear HON hA3 hA4 hG4 G3 hk1;have hwl:∀x:Int,-1≤x→x≤4→IntKind.i64.wrap (x-1)=x-1:=fun x h1 h2=>by rw [IntKind.wrap_i64];omega
   go_wp2;go_loopw [6,8] (fun s kv wr=>∃(k x:Int),-1≤k∧k≤3∧kv=.int .i64 k∧s=.int .i64 x∧Hid (-9223372036854775808≤x∧x≤9223372036854775807)∧Hid (At c a len cap wr)∧Hid (w.grownBy wr (some c))∧Hid (Memb.Own w2.heap.size wr bo bc l)) (fun _ kv _=>(intOf kv+1).toNat)
   case atStart=>exact⟨k,0,by omega,by omega,rfl,rfl,⟨by omega,by omega⟩,HA4,HG4,HO4⟩
   case round=>
    obtain⟨k,x,hk0,hk3,rfl,rfl,HX,HA,HG,HO⟩:=hrel;by_cases hkn:0≤k∧0<L.length
    ·have hk':=hkn.1;have hn':(0:Int)<(L.length:Int):=by omega
     have hwk:=hwl k (by omega) (by omega);clear hwl hkn;go_wp2_with fail
     refine(Cur.below c a len cap (L.length:Int) _ hl (by omega) HA.out).mono ?_;rintro e w5 ⟨y,rfl,hy0,hy1,hA5,hG5⟩;have hy2:=hy1 hn';obtain⟨j,rfl⟩:=Int.eq_ofNat_of_zero_le hy0;have HO5:Hid (Memb.Own w2.heap.size w5 bo bc l):=Draw.own_grown HO.out hG5 hlt2;have HA5:Hid (At c a len cap w5):=hA5;have HG5:Hid (w.grownBy w5 (some c)):=Cur.grownBy_trans HG.out hG5;have hjl:j<l.length:=by have:=HBL.out;omega
     have hji:(j:Int)<(l.length:Int):=by omega
     obtain⟨bb,rfl,hcell⟩:∃bb,bo=some ⟨bb,0,none⟩∧w5.cell? ⟨bb,j,none⟩=some (.int .i64 (l.getD j 0)):=by
      rcases Lst.own_rd HO5.out with e | ⟨bb,e,h⟩
      ·rw [e] at hjl;simp at hjl
      ·exact⟨bb,e,h j hjl⟩
     clear hA5 hG5 HA HG HO hy1;generalize l.getD j 0=z at hcell;go_wp2;go_roundw
     case rel=>exact⟨k-1,_,by omega,by omega,rfl,rfl,Draw.bits_bd _ _ _,HA5,HG5,HO5⟩
     case measure=>simp [intOf];omega
    ·have hex:k<0∨(0≤k∧L.length=0):=by omega
     have HE:Hid (∀W:World,At c a len cap W→w.grownBy W (some c)→Calls Tryz.prog 70 #[.pointer (some ⟨c,0,none⟩),.int .i64 4] W fun e w'=>∃b:Bool,e=.returned (.bool b)∧At c a len cap w'∧w.grownBy w' (some c)):=fun W h1 h2=>(Cur.once c a len cap 4 W hl (by omega) h1).mono fun e w' ⟨b,he,hA,hG⟩=>⟨b,he,hA,Cur.grownBy_trans h2 hG⟩
     clear hkn hwl;rcases hex with hk | ⟨hk,hz⟩
     ·have hk':¬ 0≤k:=by omega
      go_wp2_with fail
      refine(HE.out _ HA.out HG.out).mono ?_;rintro e w5 ⟨b,rfl,hA5,hG5⟩
      cases b
      ·go_wp2;go_ret;exact⟨x,rfl,HX.out,hA5,hG5⟩
      ·go_wp2_with fail
       refine(l1BitAny L.length _ (by omega)).mono ?_;rintro e w6 ⟨y,rfl,rfl⟩;go_wp2;go_ret;exact⟨_,rfl,by first | exact wrap_bd _ | exact Cur.wrap64_bd _,hA5,hG5⟩
     ·have hz':¬ (0:Int)<(L.length:Int):=by omega
      go_wp2_with fail
      refine(HE.out _ HA.out HG.out).mono ?_;rintro e w5 ⟨b,rfl,hA5,hG5⟩
      cases b
      ·go_wp2;go_ret;exact⟨x,rfl,HX.out,hA5,hG5⟩
      ·go_wp2_with fail
       refine(l1BitAny 0 _ (by omega)).mono ?_;rintro e w6 ⟨y,rfl,rfl⟩;go_wp2;go_ret;exact⟨_,rfl,by first | exact wrap_bd _ | exact Cur.wrap64_bd _,hA5,hG5⟩
 ·go_wp2_with fail
  refine(l3DrawSet _ a len cap L.length _ hl h61 hA1).mono ?_;rintro e w3 ⟨s,rfl,hs,hA3,hG3⟩;have G3:=Cur.grownBy_trans hG1 hG3;go_wp2;go_ret;exact⟨s,rfl,hs,hA3,G3⟩
end Rm
namespace Rm
open Kn (K okK)
open Lc (at' RdK laceB flat OwnK cellsOf)
open Cur (At)
structure CoSt(c:Nat)(a:Option Addr)(len cap:Nat)(W wr:World)(v:Value)(l:List Int):Prop where
 at':At c a len cap wr
 fr:FrC c W wr
 own:wr.ownsRow W.heap.size 2 1 v l.length (l.map (Value.int .i64))
 ne:v≠.slice none 0 0
theorem co_step{c:Nat}{a:Option Addr}{len cap:Nat}{W wr w1 w2:World}{v v':Value}{l:List Int}{x:Int}{o:Obj}(s:CoSt c a len cap W wr v l)(hcb:CurB c a len W.heap.size)(hA:At c a len cap w1)(hG:wr.grownBy w1 (some c))(ho:w2.ownsRow W.heap.size 2 1 v' (l.length+1) (l.map (Value.int .i64)++[.int .i64 x]))(hg:(w1.alloc o).grownBy w2 v.ownBlock)(hn:¬ v'=.slice none 0 0) :
  CoSt c a len cap W w2 v' (l++[x]):=by
 have hlt:=World.ownsRow.lt s.own;have hf1:Fr (fun y=>v.ownBlock=some y) w1 w2:=(Fr.alloc _ w1 o).trans (Fr.of_own hg) (fun _ hx _=>hx);have hW1:W.heap.size≤w1.heap.size:=Nat.le_trans s.fr.size hG.size;refine⟨at_belowB hA hcb (hf1.toBelow hW1 (fun y hy=>(hlt y hy).1)),?_,?_,hn⟩
 ·exact(s.fr.trans (Fr.of_grown hG) (fun _ hx _=>hx)).trans hf1 (fun y hy hl=>by have:=(hlt y hy).1;omega)
 ·simpa using ho
theorem CoSt.grown{c:Nat}{a:Option Addr}{len cap:Nat}{W wr w1:World}{v:Value}{l:List Int}(s:CoSt c a len cap W wr v l)(hcW:c<W.heap.size)(hA:At c a len cap w1)(hG:wr.grownBy w1 (some c)):CoSt c a len cap W w1 v l:=
 ⟨hA,s.fr.trans (Fr.of_grown hG) (fun _ hx _=>hx),own_fr (Fr.of_grown hG) s.own (fun g hg e=>by have:=(World.ownsRow.lt s.own g hg).1;omega),s.ne⟩
def CoinsPost(c:Nat)(a:Option Addr)(len cap:Nat)(w:World)(e:Ending)(w':World):Prop:=∃g cc C,e=.returned (.slice (some ⟨g,0,none⟩) C.length cc)∧C.length≤7∧Memb.Own w.heap.size w' (some ⟨g,0,none⟩) cc C∧At c a len cap w'∧w.grownBy w' (some c)
theorem co_post{c:Nat}{a:Option Addr}{len cap:Nat}{w wr:World}{v:Value}{l:List Int}(s:CoSt c a len cap w wr v l)(hl:l.length≤7):CoinsPost c a len cap w (.returned v) wr:=by
 obtain⟨g,gc,hv,_,_⟩:=own_some s.own s.ne;subst hv;exact⟨g,gc,l,rfl,hl,s.own,s.at',s.fr.grown⟩
theorem new_three(W:World)(t:TypeId)(j:Nat)(hj:j<3):∃y:Int,(W.alloc (.cells #[.int .i64 (-1),.int .i64 3,.int .i64 4] t)).cell? ⟨W.heap.size,j,none⟩=some (.int .i64 y):=by
 match j,hj with
 | 0,_=>exact⟨-1,by simp⟩
 | 1,_=>exact⟨3,by simp⟩
 | 2,_=>exact⟨4,by simp⟩
theorem own_zeros(w:World)(B n:Nat)(hB:B≤w.heap.size)(hn:n≤100):(w.alloc (.cells (madeCells #[.int .i64 0] n) 2)).ownsRow B 2 1 (.slice (some ⟨w.heap.size,0,none⟩) n n) n ((List.replicate n (0:Int)).map (Value.int .i64)):=by
 refine⟨by simp,.inr ⟨w.heap.size,n,madeCells #[.int .i64 0] n,rfl,hB,by show(w.heap.push _)[w.heap.size]? = _;rw [Array.getElem?_push_size],Nat.le_refl _,by unfold maxLen;omega,by rw [size_madeCells];simp,?_⟩⟩;apply List.ext_getElem
 ·rw [List.length_take,Array.length_toList,size_madeCells];simp
 ·intro i h1 h2;simp [madeCells,Nat.mod_one]
theorem co_zeros{c:Nat}{a:Option Addr}{len cap:Nat}{w w7:World}{n:Nat}(hA:At c a len cap w7)(hf:FrC c w w7)(hn:n≤100):CoSt c a len cap w (w7.alloc (.cells (madeCells #[.int .i64 0] n) 2)) (.slice (some ⟨w7.heap.size,0,none⟩) n n) (List.replicate n 0):=
 ⟨Draw.at_alloc hA _,hf.trans (Fr.alloc _ w7 _) (fun _ hx _=>hx),by have:=own_zeros w7 w.heap.size n hf.size hn;simpa using this,by simp⟩
theorem l8Draw(c:Nat)(a:Option Addr)(len cap:Nat)(w:World)(hl:len≤4096)(hc:At c a len cap w) :
  Calls Tryz.prog 115 #[.pointer (some ⟨c,0,none⟩)] w (CoinsPost c a len cap w):=by
 obtain⟨i0,hi,hz0,hz1,hz2⟩:=info_parts Memb.info2;have hcb:=curB_of hc;have HA0:Hid (At c a len cap (w.alloc (.cells #[] 2))):=at_belowB hc hcb ((Below.refl _ w).alloc (Nat.le_refl _) _);have HE:Hid ((w.alloc (.cells #[] 2)).ownsRow w.heap.size 2 1 (.slice (some ⟨w.heap.size,0,none⟩) 0 0) 0 []):=Memb.own_empty w;go_enter Tryz.func115,Tryz.ntmps115
 go_wp2_with fail
 refine(Cur.below c a len cap 5 _ hl (by omega) HA0.out).mono ?_;rintro e w1 ⟨n0,rfl,hn0,hn1,hA1,hG1⟩;have hn2:=hn1 (by omega);have HS1:Hid (CoSt c a len cap w w1 (.slice (some ⟨w.heap.size,0,none⟩) 0 0) []):=by
  refine⟨hA1,(Fr.alloc _ w _).trans (Fr.of_grown hG1) (fun _ hx _=>hx),?_,by simp⟩;exact own_fr (Fr.of_grown hG1) HE.out (fun g hg e=>by simp [Value.ownBlock] at hg;have:=hcb.1;omega)
 clear hA1 hG1 HA0 HE hn1;go_wp2_with fail
 go_loopw [3,4] (fun v n wr=>∃(m:Nat) (l:List Int),n=.int .i64 m∧l.length+m≤4∧Hid (CoSt c a len cap w wr v l)) (fun _ n _=>(intOf n).toNat)
 case atStart=>
  obtain⟨m,rfl⟩:=Int.eq_ofNat_of_zero_le hn0;exact⟨m,[],rfl,by simp;omega,HS1.out⟩
 case round=>
  obtain⟨m,l,rfl,hlm,HS⟩:=hrel;by_cases hm:0<m
  ·have hm':(0:Int)<(m:Int):=by omega
   go_wp2_with fail
   refine(Cur.below c a len cap 4 _ hl (by omega) HS.out.at').mono ?_;rintro e w2 ⟨x,rfl,hx0,hx1,hA2,hG2⟩;have hg3:∀g,u3.ownBlock=some g→g≠c:=fun g hg e=>by have:=(World.ownsRow.lt HS.out.own g hg).1;have:=hcb.1;omega
   have own2:w2.ownsRow w.heap.size 2 1 u3 l.length (l.map (Value.int .i64)):=own_fr (Fr.of_grown hG2) HS.out.own hg3;have hW2:w.heap.size≤w2.heap.size:=Nat.le_trans HS.out.fr.size hG2.size;go_wp2_with (at_builtin;refine wpList_append_own _ rfl _ _ 25 rfl w.heap.size 2 i0 (.int .i64 0) 1 8 Tryz.underlying25 hi hz0 hz1 hz2 rfl (by decide) u3 l.length (l.map (Value.int .i64)) (by first | rfl | simp [Act.eval]) (own2.alloc _) ⟨w2.heap.size,0,none⟩ 1 1 [.int .i64 x] (by first | rfl | simp [Act.eval]) rfl (Sg.one_new w2 x _) (Sg.one_one x) ?c3 ?c4 ?c5 ?_)
   case c3=>unfold maxLen;omega
   case c4=>omega
   case c5=>simp;omega
   intro v' w3 hown' hgrow hnil;have HS3:Hid (CoSt c a len cap w w3 v' (l++[x])):=co_step HS.out hcb hA2 hG2 hown' hgrow hnil;clear hown' hgrow hnil own2 hA2 hG2 HS;go_wp2;go_roundw
   case rel=>exact⟨m-1,l++[x],by congr 1;omega,by simp;omega,HS3⟩
   case measure=>simp [intOf];omega
  ·obtain rfl:m=0:=by omega
   have hn00:¬ (0:Int)<((0:Nat):Int):=by omega
   have hl4:l.length≤4:=by omega
   clear HS1;go_wp2_with fail
   refine(Cur.once c a len cap 12 _ hl (by omega) HS.out.at').mono ?_;rintro e w2 ⟨b,rfl,hA2,hG2⟩;have HS2:Hid (CoSt c a len cap w w2 u3 l):=HS.out.grown hcb.1 hA2 hG2;clear hA2 hG2 HS;go_upto_if 18 with fail
   go_cut [3] (fun v wx=>∃l:List Int,l.length≤5∧Hid (CoSt c a len cap w wx v l))
   case first=>
    cases b
    ·go_wp2_with fail
     go_meet;exact⟨l,by omega,HS2⟩
    ·have hAl:=Draw.at_alloc HS2.out.at' (.cells #[.int .i64 (-1),.int .i64 3,.int .i64 4] 2);go_wp2_with fail
     refine(Cur.below c a len cap 3 _ hl (by omega) hAl).mono ?_;rintro e w3 ⟨x,rfl,hx0,hx1,hA3,hG3⟩;have hx2:=hx1 (by omega);obtain⟨j,rfl⟩:=Int.eq_ofNat_of_zero_le hx0;obtain⟨y,hy⟩:=new_three w2 2 j (by omega);have hc2:=HS2.out.at'.lt;have cy:=Draw.kept_cell hG3 (show w2.heap.size≠c by omega) hy;have hj3:(j:Int)<3:=by omega
     have G3:w2.grownBy w3 (some c):=(World.grownBy_alloc w2 _ _).trans hG3;have hg3:∀g,u3.ownBlock=some g→g≠c:=fun g hg e=>by have:=(World.ownsRow.lt HS2.out.own g hg).1;have:=hcb.1;omega
     have own3:w3.ownsRow w.heap.size 2 1 u3 l.length (l.map (Value.int .i64)):=own_fr (Fr.of_grown G3) HS2.out.own hg3;have hW3:w.heap.size≤w3.heap.size:=Nat.le_trans HS2.out.fr.size G3.size;clear hG3 hy hAl hx1;go_wp2_with (at_builtin;refine wpList_append_own _ rfl _ _ 25 rfl w.heap.size 2 i0 (.int .i64 0) 1 8 Tryz.underlying25 hi hz0 hz1 hz2 rfl (by decide) u3 l.length (l.map (Value.int .i64)) (by first | rfl | simp [Act.eval]) (own3.alloc _) ⟨w3.heap.size,0,none⟩ 1 1 [.int .i64 y] (by first | rfl | simp [Act.eval]) rfl (Sg.one_new w3 y _) (Sg.one_one y) ?c3 ?c4 ?c5 ?_)
     case c3=>unfold maxLen;omega
     case c4=>omega
     case c5=>simp;omega
     intro v' w4 hown' hgrow hnil;have HS4:Hid (CoSt c a len cap w w4 v' (l++[y])):=co_step HS2.out hcb hA3 G3 hown' hgrow hnil;clear hown' hgrow hnil own3 hA3 G3 HS2;go_wp2_with fail
     go_meet;exact⟨l++[y],by simp;omega,HS4⟩
   case rest=>
    obtain⟨l5,hl5,HS5⟩:=hcut;clear HS2;go_wp2_with fail
    refine(Cur.once c a len cap 30 _ hl (by omega) HS5.out.at').mono ?_;rintro e w6 ⟨b6,rfl,hA6,hG6⟩;have HS6:Hid (CoSt c a len cap w w6 u3 l5):=HS5.out.grown hcb.1 hA6 hG6;clear hA6 hG6 HS5
    cases b6
    ·go_wp2;go_ret;exact co_post HS6.out (by omega)
    ·go_wp2_with fail
     refine(Cur.below c a len cap 2 w6 hl (by omega) HS6.out.at').mono ?_;rintro e w7 ⟨x,rfl,hx0,hx1,hA7,hG7⟩;have hx2:=hx1 (by omega);obtain⟨j,rfl⟩:=Int.eq_ofNat_of_zero_le hx0;have hmk:(Instr.makeSlice 25 (.int .i64 (6+(j:Int))) (.int .i64 (6+(j:Int)))).run Tryz.prog w7=.ok (.slice (some ⟨w7.heap.size,0,none⟩) (6+j) (6+j)) (w7.alloc (.cells (madeCells #[.int .i64 0] (6+j)) 2)):=by
      have:=run_make_row' (P:=Tryz.prog) 25 2 (.int .i64 0) 8 Tryz.underlying25 Memb.info2 rfl .i64 .i64 (6+j) (by omega) (by omega) w7;simpa using this
     have HS8:Hid (CoSt c a len cap w (w7.alloc (.cells (madeCells #[.int .i64 0] (6+j)) 2)) (.slice (some ⟨w7.heap.size,0,none⟩) (6+j) (6+j)) (List.replicate (6+j) 0)):=co_zeros hA7 (HS6.out.fr.trans (Fr.of_grown hG7) (fun _ hx _=>hx)) (by omega);generalize madeCells #[Value.int .i64 0] (6+j)=mc at hmk HS8;clear hA7 hG7 HS6 hx1;go_wp2;go_ret;exact co_post HS8.out (by simp;omega)
structure CoinsL(w:World)(g:Nat)(C:List Int):Prop where
 rd:Lst.Rd w (some ⟨g,0,none⟩) C
 lt:g<w.heap.size
 len:C.length≤7
theorem CoinsL.below{w w':World}{g:Nat}{C:List Int}(h:CoinsL w g C)(hb:Below w.heap.size w w'):CoinsL w' g C:=
 ⟨Ch.rd_below h.rd (fun c e=>by injection e with e;injection e with e;subst e;exact h.lt) hb,Nat.lt_of_lt_of_le h.lt hb.size,h.len⟩
theorem CoinsL.at{w:World}{g:Nat}{C:List Int}(h:CoinsL w g C):∀c,some (⟨g,0,none⟩:Addr)=some ⟨c,0,none⟩→c<w.heap.size:=fun c e=>by injection e with e;injection e with e;subst e;exact h.lt
theorem CoinsL.cell{w:World}{g:Nat}{C:List Int}(h:CoinsL w g C){j:Nat}(hj:j<C.length):w.cell? ⟨g,j,none⟩=some (.int .i64 (C.getD j 0)):=by
 rcases h.rd with e | ⟨g',e,hc⟩
 ·rw [e] at hj;simp at hj
 ·injection e with e;injection e with e;subst e;exact hc j hj
end Rm
namespace Rm
open Kn (K okK in3)
open Lc (at' RdK laceB takesB flat OwnK CellsK cellsOf)
open Cur (At)
def DrawsActs:Prop:=∀(c:Nat) (a:Option Addr) (len cap:Nat) (B:Nat) (R:Ro) (most:Int) (w:World),len≤4096→0<most→most≤60→At c a len cap w→NewR B w R→c<B→Calls Tryz.prog 139 #[.pointer (some ⟨c,0,none⟩),roV R,.int .i64 most] w (ActsPost c a len cap w)
theorem l18Draw'(HA:DrawsActs)(c:Nat)(a:Option Addr)(len cap:Nat)(w:World)(hl:len≤4096)(hc:At c a len cap w) :
  Calls Tryz.prog 113 #[.pointer (some ⟨c,0,none⟩)] w (DrawPost c a len cap w):=by
 have hcb:=curB_of hc;have hcw:c<w.heap.size:=hc.lt;have P0:Hid (Below w.heap.size w (w.alloc (.cells #[.slice none 0 0,.slice none 0 0,.slice none 0 0,.int .i64 0] 137))∧Q4 (w.alloc (.cells #[.slice none 0 0,.slice none 0 0,.slice none 0 0,.int .i64 0] 137)) w.heap.size (.slice none 0 0) (.slice none 0 0) (.slice none 0 0) (.int .i64 0)):=⟨(Below.refl _ _).alloc (Nat.le_refl _) _,q4_new _ _ _ _ _ _⟩
 have HAA:Hid DrawsActs:=HA;clear HA;go_enter Tryz.func113,Tryz.ntmps113
 go_upto_region 1 with fail
 generalize w.alloc (.cells #[.slice none 0 0,.slice none 0 0,.slice none 0 0,.int .i64 0] 137)=W0 at P0 ⊢;have HA0:Hid (At c a len cap W0):=at_belowB hc hcb P0.out.1;go_wp2_with fail
 refine(l18New c a len cap _ hl HA0.out).mono ?_;rintro e w1 ⟨R,rfl,hR,hA1,hF1⟩;have hlt0:w.heap.size<W0.heap.size:=P0.out.2.lt;obtain⟨co,cc,lc,hcv,_⟩:=hR.coins;have HV:Hid (roV R=.agg #[.slice none 0 0,.slice co lc.length cc,.slice (some ⟨R.gh,0,none⟩) 4 R.hc,.int .i64 R.bad]):=by show _=_;unfold roV;rw [hR.lv,hcv]
 have HQ1:Hid (Q4 w1 w.heap.size (.slice none 0 0) (.slice none 0 0) (.slice none 0 0) (.int .i64 0)):=q4_fr P0.out.2 hF1 (by omega);have HN4:Hid (Q4 (w1.alloc (.cells #[.slice none 0 0,.slice co lc.length cc,.slice (some ⟨R.gh,0,none⟩) 4 R.hc,.int .i64 R.bad] 137)) w1.heap.size (.slice none 0 0) (.slice co lc.length cc) (.slice (some ⟨R.gh,0,none⟩) 4 R.hc) (.int .i64 R.bad)∧Below w1.heap.size w1 (w1.alloc (.cells #[.slice none 0 0,.slice co lc.length cc,.slice (some ⟨R.gh,0,none⟩) 4 R.hc,.int .i64 R.bad] 137))):=⟨q4_new _ _ _ _ _ _,(Below.refl _ _).alloc (Nat.le_refl _) _⟩
 rw [HV.out];go_upto_region 2 with fail
 have hW01:W0.heap.size≤w1.heap.size:=hF1.size;have hgl1:R.gh<w1.heap.size:=(hR.parts.hands 0 (by omega)).lt;have hw12:w1.heap.size<(w1.alloc (.cells #[.slice none 0 0,.slice co lc.length cc,.slice (some ⟨R.gh,0,none⟩) 4 R.hc,.int .i64 R.bad] 137)).heap.size:=HN4.out.1.lt;generalize w1.alloc (.cells #[.slice none 0 0,.slice co lc.length cc,.slice (some ⟨R.gh,0,none⟩) 4 R.hc,.int .i64 R.bad] 137)=W2 at HN4 hw12 ⊢;have hR2:NewR W0.heap.size W2 R:=newR_fr hR (Fr.of_below HN4.out.2 (fun _=>False)) (fun h=>h) (fun _ _ h=>h);have HA2:Hid (At c a len cap W2):=at_belowB hA1 hcb (HN4.out.2.mono (by omega));obtain⟨_,s0,s1,s2,s3,g0,_,_,_⟩:=HN4.out.1;go_wp2_with fail
 have hcall:=HAA.out c a len cap W0.heap.size R 50 W2 hl (by omega) (by omega) HA2.out hR2 (by omega);rw [HV.out] at hcall;refine hcall.mono ?_;rintro e w3 ⟨v,As,rfl,hAs,hAl,hA3,hF3⟩;obtain⟨g,gc,hv,hWg,hgl⟩:=acts_shape hAs;subst hv;have hf13:Fr (fun x=>x=c) w1 w3:=(Fr.of_below HN4.out.2 _).trans hF3 (fun _ hx _=>hx);have HS3:Hid (PlSt c a len cap w w3 w1.heap.size g (.slice (some ⟨g,0,none⟩) As.length gc) As R):=by
  have q3:=q4_fr HN4.out.1 hF3 (show ¬ w1.heap.size=c by omega);have hp3:Parts (w.heap.size+1) w3 R:=parts_base (parts_fr hR2.parts hF3 (by have:=hR2.parts.gB;omega) (fun y hy=>by rw [hR.lv] at hy;simp [Value.ownBlock] at hy)) (by omega);have hgB:=hR2.parts.gB;refine⟨hA3,((Fr.of_below P0.out.1 _).trans hF1 (fun _ hx _=>hx)).trans hf13 (fun _ hx _=>hx),⟨q3.lt,by omega,by rw [hR.lv];exact q3.c0,by rw [hcv];exact q3.c1,q3.c2,q3.c3,q3.f0,hp3,by omega,by rw [hR.lv];simp [Value.ownBlock]⟩,own_baseT hAs.own (by omega),rfl,by omega,by omega,by rw [hR.lv];simp [Value.ownBlock],q4_fr HQ1.out hf13 (by omega),by omega,⟨co,_,cc,hcv⟩⟩
 have HSH:Hid (Short As):=hAs.sh;clear hAs hA3 hF3 hf13 hcall hR2 HA2 hR HN4 s0 s1 s2 s3 g0 hA1 hF1 HQ1 HV hcv;generalize w1.heap.size=pr at HS3 ⊢;go_wp2_with fail
 go_loopw [5] (fun i wr=>∃(j:Nat) (R':Ro),j≤As.length∧i=.int .i64 j∧Hid (PlSt c a len cap w wr pr g (.slice (some ⟨g,0,none⟩) As.length gc) As R')) (fun i _=>As.length-(intOf i).toNat)
 case atStart=>exact⟨0,R,by omega,rfl,HS3.out⟩
 case round=>
  obtain⟨j,R',hj,rfl,HS⟩:=hrel;by_cases hlt:j<As.length
  ·have hji:(j:Int)<(As.length:Int):=by omega
   obtain⟨e0,e1,e2,e3,e4,e5⟩:=acts_cell HS.out.acts j hlt;have hsh:=short_at HSH.out j;generalize As.getD j zeroA=x at e0 e1 e2 e3 e4 e5 hsh;go_wp2_with fail
   refine(l18Do (w.heap.size+1) pr R' x _ HS.out.ro (by omega)).mono ?_;intro e w4 hd;obtain⟨b,R2,rfl,h1,h2,h3,h4,h5,h6,h7,h8⟩:=pl_step HS.out hcb hd;have HS4:Hid (PlSt c a len cap w w4 pr g (.slice (some ⟨g,0,none⟩) As.length gc) As R2):=⟨h1,h2,h3,h4,HS.out.gv,HS.out.n1,h5,h6,h8,HS.out.gB,by rw [h7];exact HS.out.sv⟩
   clear hd h1 h2 h3 h4 h5 h6 h7 h8 HS;go_wp2;go_roundw
   case rel=>exact⟨j+1,R2,by omega,by go_num,HS4⟩
   case measure=>simp [intOf];omega
  ·obtain rfl:j=As.length:=by omega
   have hjj:¬ (As.length:Int)<(As.length:Int):=by omega
   obtain⟨co',n',cc',hcv'⟩:=HS.out.sv;obtain⟨ao',cap',hlv',_⟩:=own_lace HS.out.ro.parts.own;have HVR:Hid (roV R'=.agg #[.slice ao' R'.L.length cap',.slice co' n' cc',.slice (some ⟨R'.gh,0,none⟩) 4 R'.hc,.int .i64 R'.bad]):=by show _=_;unfold roV;rw [hlv',hcv']
   have HE:Hid (DrawPost c a len cap w (.returned (.agg #[.slice ao' R'.L.length cap',.slice co' n' cc',.slice (some ⟨R'.gh,0,none⟩) 4 R'.hc,.int .i64 R'.bad])) (qset wr w.heap.size (.slice ao' R'.L.length cap') (.slice co' n' cc') (.slice (some ⟨R'.gh,0,none⟩) 4 R'.hc) (.int .i64 R'.bad))):=by
    have hq:=qset_fr wr w.heap.size (.slice ao' R'.L.length cap') (.slice co' n' cc') (.slice (some ⟨R'.gh,0,none⟩) 4 R'.hc) (.int .i64 R'.bad);have hgB:=HS.out.ro.parts.gB;refine⟨R',by rw [HVR.out],parts_base (parts_fr HS.out.ro.parts hq (fun e=>by have e':R'.gh=w.heap.size:=e;omega) (fun y hy e=>by have:=(World.ownsRow.lt HS.out.ro.parts.own y hy).1;omega)) (Nat.le_succ _),at_belowB HS.out.at' hcb (hq.toBelow HS.out.fr.size (fun x hx=>by omega)),HS.out.fr.trans hq (fun x hx hl'=>by omega)⟩
   have HQP:Hid _:=q4_put HS.out.res (.slice ao' R'.L.length cap') (.slice co' n' cc') (.slice (some ⟨R'.gh,0,none⟩) 4 R'.hc) (.int .i64 R'.bad);obtain⟨_,r0,r1,r2,r3,f0,f1,f2,f3⟩:=HS.out.res;have t0:=HS.out.ro.c0;have t1:=HS.out.ro.c1;have t2:=HS.out.ro.c2;have t3:=HS.out.ro.c3;rw [hlv'] at t0;rw [hcv'] at t1;clear hlv' hcv' HVR HS;go_wp2;obtain⟨_,y0,y1,y2,y3,_,_,_,_⟩:=HQP.out;unfold qset at y0 y1 y2 y3;exact bodyPost_ret (v:=.agg #[.slice ao' R'.L.length cap',.slice co' n' cc',.slice (some ⟨R'.gh,0,none⟩) 4 R'.hc,.int .i64 R'.bad]) (by simp [results,Tryz.results113,go_sem,y0,y1,y2,y3]) rfl HE.out
end Rm
namespace Rm
open Kn (K okK in3)
open Lc (at' RdK laceB takesB flat OwnK CellsK cellsOf)
open Cur (At)
structure CoIn(B:Nat)(w:World)(pr:Nat)(R:Ro):Prop where
 at':CoinsAt w R.cv
 ne:∀g,R.cv.ownBlock=some g→g≠pr∧g≠R.gh∧R.lv.ownBlock≠some g∧B≤g∧g<w.heap.size
theorem co_do{B pr:Nat}{w w1:World}{R R':Ro}(h:CoIn B w pr R)(hgh:R'.gh=R.gh)(hcv:R'.cv=R.cv)(hf:Fr (roS pr R) w w1)(hlv:∀g,R'.lv.ownBlock=some g→R.lv.ownBlock=some g∨w.heap.size≤g):CoIn B w1 pr R':=by
 refine⟨?_,fun g hg=>?_⟩
 ·rw [hcv];refine coinsAt_fr h.at' hf (fun g hg hn=>?_);obtain⟨n1,n2,n3,_,_⟩:=h.ne g hg;rcases hn with q | q | q
  ·exact n1 q
  ·exact n2 q
  ·exact n3 q
 ·rw [hcv] at hg;obtain⟨n1,n2,n3,n4,n5⟩:=h.ne g hg;refine⟨n1,by rw [hgh];exact n2,fun e=>?_,n4,Nat.lt_of_lt_of_le n5 hf.size⟩;rcases hlv g e with q | q
  ·exact n3 q
  ·omega
theorem pl_stepC{c:Nat}{a:Option Addr}{len cap:Nat}{w wr w1:World}{pr g:Nat}{v:Value}{As:List Ac}{R:Ro}{xo:Out}{e:Ending}(s:PlSt c a len cap w wr pr g v As R)(hcb:CurB c a len w.heap.size)(hco:CoIn (w.heap.size+1) wr pr R)(hd:DoPost (w.heap.size+1) pr R xo wr e w1) :
  ∃(b:Bool) (R':Ro),e=.returned (.bool b)∧At c a len cap w1∧FrC c w w1∧RoAt (w.heap.size+1) w1 pr R'∧w1.ownsRow w.heap.size 166 6 v As.length (flatA As)∧g≠R'.gh∧R'.lv.ownBlock≠some g∧R'.cv=R.cv∧CoIn (w.heap.size+1) w1 pr R'∧Q4 w1 w.heap.size (.slice none 0 0) (.slice none 0 0) (.slice none 0 0) (.int .i64 0):=by
 obtain⟨R',rfl,hro,hgh,hbad,hf,hlv⟩:=hd;have hS:∀x,roS pr R x→w.heap.size+1≤x:=fun x hx=>by
  rcases hx with rfl | rfl | h
  ·exact s.ro.pB
  ·exact s.ro.parts.gB
  ·exact(World.ownsRow.lt s.ro.parts.own x h).1
 have hlt:=World.ownsRow.lt s.acts g s.gv;refine⟨xo.done,R',rfl,at_belowB s.at' hcb (hf.toBelow s.fr.size (fun x hx=>by have:=hS x hx;omega)),s.fr.trans hf (fun x hx hl=>by have:=hS x hx;omega),hro,own_fr hf s.acts (fun y hy hn=>?_),by rw [hgh];exact s.n2,fun e=>?_,hbad.2.1,co_do hco hgh hbad.2.1 hf hlv,q4_fr s.res hf (fun hn=>by have:=hS _ hn;omega)⟩
 ·have:y=g:=by have:=s.gv;rw [hy] at this;injection this
  subst this;rcases hn with h | h | h
  ·exact s.n1 h
  ·exact s.n2 h
  ·exact s.n3 h
 ·rcases hlv g e with h | h
  ·exact s.n3 h
  ·omega
theorem coins_lt{w:World}{v:Value}(h:CoinsAt w v)(g:Nat)(hg:v.ownBlock=some g):g<w.heap.size:=by
 obtain⟨ao,cap,l,hv,_,h2,_,_⟩:=h;rw [hv] at hg
 cases ao with
 | none=>simp [Value.ownBlock] at hg
 | some x=>
  simp [Value.ownBlock] at hg;obtain⟨g',rfl,hlt⟩:=h2 x rfl;simp at hg;omega
def DrawPostC(c:Nat)(a:Option Addr)(len cap:Nat)(w:World)(e:Ending)(w':World):Prop:=∃R,e=.returned (roV R)∧Parts w.heap.size w' R∧At c a len cap w'∧FrC c w w'∧(CoinsAt w' R.cv∧R.cv.ownBlock≠some R.gh∧∀g,R.cv.ownBlock=some g→R.lv.ownBlock≠some g)∧(∀g,R.cv.ownBlock=some g→w.heap.size≤g)
def DrawsRoomC:Prop:=∀(c:Nat) (a:Option Addr) (len cap:Nat) (w:World),len≤4096→At c a len cap w→Calls Tryz.prog 113 #[.pointer (some ⟨c,0,none⟩)] w (DrawPostC c a len cap w)
theorem l18DrawC(HA:DrawsActs)(c:Nat)(a:Option Addr)(len cap:Nat)(w:World)(hl:len≤4096)(hc:At c a len cap w) :
  Calls Tryz.prog 113 #[.pointer (some ⟨c,0,none⟩)] w (DrawPostC c a len cap w):=by
 have hcb:=curB_of hc;have hcw:c<w.heap.size:=hc.lt;have P0:Hid (Below w.heap.size w (w.alloc (.cells #[.slice none 0 0,.slice none 0 0,.slice none 0 0,.int .i64 0] 137))∧Q4 (w.alloc (.cells #[.slice none 0 0,.slice none 0 0,.slice none 0 0,.int .i64 0] 137)) w.heap.size (.slice none 0 0) (.slice none 0 0) (.slice none 0 0) (.int .i64 0)):=⟨(Below.refl _ _).alloc (Nat.le_refl _) _,q4_new _ _ _ _ _ _⟩
 have HAA:Hid DrawsActs:=HA;clear HA;go_enter Tryz.func113,Tryz.ntmps113
 go_upto_region 1 with fail
 generalize w.alloc (.cells #[.slice none 0 0,.slice none 0 0,.slice none 0 0,.int .i64 0] 137)=W0 at P0 ⊢;have HA0:Hid (At c a len cap W0):=at_belowB hc hcb P0.out.1;go_wp2_with fail
 refine(l18New c a len cap _ hl HA0.out).mono ?_;rintro e w1 ⟨R,rfl,hR,hA1,hF1⟩;have hlt0:w.heap.size<W0.heap.size:=P0.out.2.lt;obtain⟨co,cc,lc,hcv,_⟩:=hR.coins;have HV:Hid (roV R=.agg #[.slice none 0 0,.slice co lc.length cc,.slice (some ⟨R.gh,0,none⟩) 4 R.hc,.int .i64 R.bad]):=by show _=_;unfold roV;rw [hR.lv,hcv]
 have HQ1:Hid (Q4 w1 w.heap.size (.slice none 0 0) (.slice none 0 0) (.slice none 0 0) (.int .i64 0)):=q4_fr P0.out.2 hF1 (by omega);have HN4:Hid (Q4 (w1.alloc (.cells #[.slice none 0 0,.slice co lc.length cc,.slice (some ⟨R.gh,0,none⟩) 4 R.hc,.int .i64 R.bad] 137)) w1.heap.size (.slice none 0 0) (.slice co lc.length cc) (.slice (some ⟨R.gh,0,none⟩) 4 R.hc) (.int .i64 R.bad)∧Below w1.heap.size w1 (w1.alloc (.cells #[.slice none 0 0,.slice co lc.length cc,.slice (some ⟨R.gh,0,none⟩) 4 R.hc,.int .i64 R.bad] 137))):=⟨q4_new _ _ _ _ _ _,(Below.refl _ _).alloc (Nat.le_refl _) _⟩
 rw [HV.out];go_upto_region 2 with fail
 have hW01:W0.heap.size≤w1.heap.size:=hF1.size;have hgl1:R.gh<w1.heap.size:=(hR.parts.hands 0 (by omega)).lt;have hw12:w1.heap.size<(w1.alloc (.cells #[.slice none 0 0,.slice co lc.length cc,.slice (some ⟨R.gh,0,none⟩) 4 R.hc,.int .i64 R.bad] 137)).heap.size:=HN4.out.1.lt;generalize w1.alloc (.cells #[.slice none 0 0,.slice co lc.length cc,.slice (some ⟨R.gh,0,none⟩) 4 R.hc,.int .i64 R.bad] 137)=W2 at HN4 hw12 ⊢;have hR2:NewR W0.heap.size W2 R:=newR_fr hR (Fr.of_below HN4.out.2 (fun _=>False)) (fun h=>h) (fun _ _ h=>h);have HA2:Hid (At c a len cap W2):=at_belowB hA1 hcb (HN4.out.2.mono (by omega));obtain⟨_,s0,s1,s2,s3,g0,_,_,_⟩:=HN4.out.1;go_wp2_with fail
 have hcall:=HAA.out c a len cap W0.heap.size R 50 W2 hl (by omega) (by omega) HA2.out hR2 (by omega);rw [HV.out] at hcall;refine hcall.mono ?_;rintro e w3 ⟨v,As,rfl,hAs,hAl,hA3,hF3⟩;obtain⟨g,gc,hv,hWg,hgl⟩:=acts_shape hAs;subst hv;have hf13:Fr (fun x=>x=c) w1 w3:=(Fr.of_below HN4.out.2 _).trans hF3 (fun _ hx _=>hx);have HS3:Hid (PlSt c a len cap w w3 w1.heap.size g (.slice (some ⟨g,0,none⟩) As.length gc) As R):=by
  have q3:=q4_fr HN4.out.1 hF3 (show ¬ w1.heap.size=c by omega);have hp3:Parts (w.heap.size+1) w3 R:=parts_base (parts_fr hR2.parts hF3 (by have:=hR2.parts.gB;omega) (fun y hy=>by rw [hR.lv] at hy;simp [Value.ownBlock] at hy)) (by omega);have hgB:=hR2.parts.gB;refine⟨hA3,((Fr.of_below P0.out.1 _).trans hF1 (fun _ hx _=>hx)).trans hf13 (fun _ hx _=>hx),⟨q3.lt,by omega,by rw [hR.lv];exact q3.c0,by rw [hcv];exact q3.c1,q3.c2,q3.c3,q3.f0,hp3,by omega,by rw [hR.lv];simp [Value.ownBlock]⟩,own_baseT hAs.own (by omega),rfl,by omega,by omega,by rw [hR.lv];simp [Value.ownBlock],q4_fr HQ1.out hf13 (by omega),by omega,⟨co,_,cc,hcv⟩⟩
 have HSH:Hid (Short As):=hAs.sh;have HC3:Hid (CoIn (w.heap.size+1) w3 w1.heap.size R):=by
  refine⟨coinsAt_fr hR2.coins hF3 (fun x hx e=>by have:=hR2.cB x hx;omega),fun x hx=>⟨?_,fun e=>by subst e;exact hR2.cg hx,by rw [hR.lv];simp [Value.ownBlock],by have:=hR2.cB x hx;omega,?_⟩⟩
  ·have:=coins_lt hR.coins x hx;omega
  ·have h1:=coins_lt hR.coins x hx;have h2:=hf13.size;omega
 clear hAs hA3 hF3 hf13 hcall hR2 HA2 hR HN4 s0 s1 s2 s3 g0 hA1 hF1 HQ1 HV hcv;generalize w1.heap.size=pr at HS3 HC3 ⊢;go_wp2_with fail
 go_loopw [5] (fun i wr=>∃(j:Nat) (R':Ro),j≤As.length∧i=.int .i64 j∧Hid (PlSt c a len cap w wr pr g (.slice (some ⟨g,0,none⟩) As.length gc) As R')∧Hid (CoIn (w.heap.size+1) wr pr R')) (fun i _=>As.length-(intOf i).toNat)
 case atStart=>exact⟨0,R,by omega,rfl,HS3.out,HC3.out⟩
 case round=>
  obtain⟨j,R',hj,rfl,HS,HC⟩:=hrel;by_cases hlt:j<As.length
  ·have hji:(j:Int)<(As.length:Int):=by omega
   obtain⟨e0,e1,e2,e3,e4,e5⟩:=acts_cell HS.out.acts j hlt;have hsh:=short_at HSH.out j;generalize As.getD j zeroA=x at e0 e1 e2 e3 e4 e5 hsh;go_wp2_with fail
   refine(l18Do (w.heap.size+1) pr R' x _ HS.out.ro (by omega)).mono ?_;intro e w4 hd;obtain⟨b,R2,rfl,h1,h2,h3,h4,h5,h6,h7,h9,h8⟩:=pl_stepC HS.out hcb HC.out hd;have HC4:Hid (CoIn (w.heap.size+1) w4 pr R2):=h9;have HS4:Hid (PlSt c a len cap w w4 pr g (.slice (some ⟨g,0,none⟩) As.length gc) As R2):=⟨h1,h2,h3,h4,HS.out.gv,HS.out.n1,h5,h6,h8,HS.out.gB,by rw [h7];exact HS.out.sv⟩
   clear hd h1 h2 h3 h4 h5 h6 h7 h8 h9 HS HC;go_wp2;go_roundw
   case rel=>exact⟨j+1,R2,by omega,by go_num,HS4,HC4⟩
   case measure=>simp [intOf];omega
  ·obtain rfl:j=As.length:=by omega
   have hjj:¬ (As.length:Int)<(As.length:Int):=by omega
   obtain⟨co',n',cc',hcv'⟩:=HS.out.sv;obtain⟨ao',cap',hlv',_⟩:=own_lace HS.out.ro.parts.own;have HVR:Hid (roV R'=.agg #[.slice ao' R'.L.length cap',.slice co' n' cc',.slice (some ⟨R'.gh,0,none⟩) 4 R'.hc,.int .i64 R'.bad]):=by show _=_;unfold roV;rw [hlv',hcv']
   have HE:Hid (DrawPostC c a len cap w (.returned (.agg #[.slice ao' R'.L.length cap',.slice co' n' cc',.slice (some ⟨R'.gh,0,none⟩) 4 R'.hc,.int .i64 R'.bad])) (qset wr w.heap.size (.slice ao' R'.L.length cap') (.slice co' n' cc') (.slice (some ⟨R'.gh,0,none⟩) 4 R'.hc) (.int .i64 R'.bad))):=by
    have hq:=qset_fr wr w.heap.size (.slice ao' R'.L.length cap') (.slice co' n' cc') (.slice (some ⟨R'.gh,0,none⟩) 4 R'.hc) (.int .i64 R'.bad);have hgB:=HS.out.ro.parts.gB;refine⟨R',by rw [HVR.out],parts_base (parts_fr HS.out.ro.parts hq (fun e=>by have e':R'.gh=w.heap.size:=e;omega) (fun y hy e=>by have:=(World.ownsRow.lt HS.out.ro.parts.own y hy).1;omega)) (Nat.le_succ _),at_belowB HS.out.at' hcb (hq.toBelow HS.out.fr.size (fun x hx=>by omega)),HS.out.fr.trans hq (fun x hx hl'=>by omega),⟨coinsAt_fr HC.out.at' hq (fun x hx e=>by have:=(HC.out.ne x hx).2.2.2.1;have e':x=w.heap.size:=e;omega),(fun e=>(HC.out.ne _ e).2.1 rfl),fun x hx=>(HC.out.ne x hx).2.2.1⟩,fun x hx=>by have:=(HC.out.ne x hx).2.2.2.1;omega⟩
   have HQP:Hid _:=q4_put HS.out.res (.slice ao' R'.L.length cap') (.slice co' n' cc') (.slice (some ⟨R'.gh,0,none⟩) 4 R'.hc) (.int .i64 R'.bad);obtain⟨_,r0,r1,r2,r3,f0,f1,f2,f3⟩:=HS.out.res;have t0:=HS.out.ro.c0;have t1:=HS.out.ro.c1;have t2:=HS.out.ro.c2;have t3:=HS.out.ro.c3;rw [hlv'] at t0;rw [hcv'] at t1;clear hlv' hcv' HVR HS HC;go_wp2;obtain⟨_,y0,y1,y2,y3,_,_,_,_⟩:=HQP.out;unfold qset at y0 y1 y2 y3;exact bodyPost_ret (v:=.agg #[.slice ao' R'.L.length cap',.slice co' n' cc',.slice (some ⟨R'.gh,0,none⟩) 4 R'.hc,.int .i64 R'.bad]) (by simp [results,Tryz.results113,go_sem,y0,y1,y2,y3]) rfl HE.out
end Rm
namespace Rm
open Kn (K okK)
open Bit (bit memTo)
open Lc (at' RdK laceB flat OwnK cellsOf)
open Cur (At)
theorem l1CopyD(v:Value)(w:World)(h:CoinsAt w v):Calls Tryz.prog 60 #[v] w fun e w'=>∃ao cc C,e=.returned (.slice ao C.length cc)∧C.length≤7∧Memb.Own w.heap.size w' ao cc C∧Below w.heap.size w w':=by
 obtain⟨ao,cap,l,rfl,h1,h2,h3,hrd⟩:=h
 cases ao with
 | none=>
  obtain⟨rfl,rfl⟩:=h1 rfl;refine(l1CopyN w).mono ?_;rintro e w' ⟨bo,bc,rfl,ho,hb⟩;exact⟨bo,bc,[],rfl,by simp,ho,hb⟩
 | some x=>
  obtain⟨g,rfl,hg⟩:=h2 x rfl;refine(l1Copy g cap l w (by omega) hg hrd).mono ?_;rintro e w' ⟨bo,bc,rfl,ho,hb⟩;exact⟨bo,bc,l,rfl,by omega,ho,hb⟩
structure LcSt(c:Nat)(a:Option Addr)(len cap:Nat)(w wr:World)(v:Value)(L:List K)(ao:Option Addr)(cc:Nat)(C:List Int):Prop where
 at':At c a len cap wr
 gr:w.grownBy wr (some c)
 lo:OwnK 38 w.heap.size wr v L
 l61:L.length≤61
 wd:∀k∈L,k.word.size≤13
 co:Memb.Own w.heap.size wr ao cc C
 c7:C.length≤7
theorem LcSt.grown{c:Nat}{a:Option Addr}{len cap:Nat}{w wr w1:World}{v:Value}{L:List K}{ao:Option Addr}{cc:Nat}{C:List Int}(s:LcSt c a len cap w wr v L ao cc C)(hc:c<w.heap.size)(hA:At c a len cap w1)(hG:wr.grownBy w1 (some c)):LcSt c a len cap w w1 v L ao cc C:=
 ⟨hA,Cur.grownBy_trans s.gr hG,ownK_grown s.lo hG hc,s.l61,s.wd,Draw.own_grown s.co hG hc,s.c7⟩
theorem LcSt.below{c:Nat}{a:Option Addr}{len cap:Nat}{w wr w1:World}{v:Value}{L:List K}{ao:Option Addr}{cc:Nat}{C:List Int}(s:LcSt c a len cap w wr v L ao cc C)(hb:Below wr.heap.size wr w1):LcSt c a len cap w w1 v L ao cc C:=
 ⟨s.at'.below hb,Cur.grownBy_trans s.gr ⟨hb.os,hb.tape,hb.output,hb.size,fun i hi _=>hb.block i hi⟩,Lc.ownK_below s.lo hb,s.l61,s.wd,Lst.own_below s.co hb,s.c7⟩
def LcPost(c:Nat)(a:Option Addr)(len cap:Nat)(w:World)(e:Ending)(w':World):Prop:=∃v L ao cc C,e=.returned (.tuple #[v,.slice ao C.length cc])∧LcSt c a len cap w w' v L ao cc C
theorem l9Draw(HD:DrawsRoom)(HDC:DrawsRoomC)(c:Nat)(a:Option Addr)(len cap:Nat)(w:World)(hl:len≤4096)(hc:At c a len cap w) :
  Calls Tryz.prog 84 #[.pointer (some ⟨c,0,none⟩)] w (LcPost c a len cap w):=by
 have hcw:c<w.heap.size:=hc.lt;have HDD:Hid DrawsRoom:=HD;have HDX:Hid DrawsRoomC:=HDC;clear HD HDC;go_enter Tryz.func84,Tryz.ntmps84
 go_wp2_with fail
 refine(HDX.out c a len cap _ hl hc).mono ?_;rintro e w1 ⟨R,rfl,hP,hA1,hF1,⟨hCo1,_⟩,hCB1⟩;obtain⟨ro,cp,hlv,ho,hz,_,hrd,_⟩:=own_lace hP.own;have h60:=((Lc.lace_iff R.L).1 hP.lace).1;have HWD:Hid (∀k∈R.L,k.word.size≤13):=word_lace hP.lace;obtain⟨co,n,cc,hcv⟩:∃co n cc,R.cv=.slice co n cc:=by obtain⟨co,cc,l,e,_⟩:=hCo1;exact⟨co,l.length,cc,e⟩
 have HV:Hid (roV R=.agg #[.slice ro R.L.length cp,.slice co n cc,.slice (some ⟨R.gh,0,none⟩) 4 R.hc,.int .i64 R.bad]):=by show _=_;unfold roV;rw [hlv,hcv]
 rw [HV.out];have HG1:Hid (w.grownBy w1 (some c)):=hF1.grown;have HP2:Hid (Q4 (w1.alloc (.cells #[.slice ro R.L.length cp,.slice co n cc,.slice (some ⟨R.gh,0,none⟩) 4 R.hc,.int .i64 R.bad] 137)) w1.heap.size (.slice ro R.L.length cp) (.slice co n cc) (.slice (some ⟨R.gh,0,none⟩) 4 R.hc) (.int .i64 R.bad)∧Below w1.heap.size w1 (w1.alloc (.cells #[.slice ro R.L.length cp,.slice co n cc,.slice (some ⟨R.gh,0,none⟩) 4 R.hc,.int .i64 R.bad] 137))):=⟨q4_new _ _ _ _ _ _,(Below.refl _ _).alloc (Nat.le_refl _) _⟩
 rw [hcv] at hCo1;go_upto_region 2 with fail
 generalize w1.alloc (.cells #[.slice ro R.L.length cp,.slice co n cc,.slice (some ⟨R.gh,0,none⟩) 4 R.hc,.int .i64 R.bad] 137)=V at HP2 ⊢;have hbV:Below w1.heap.size w1 V:=HP2.out.2;obtain⟨ro2,cp2,hlv2,ho2,hz2,_,hrd2,_⟩:=own_lace (Fm.row_below hP.own hbV);obtain⟨hq1,hq2⟩:ro2=ro∧cp2=cp:=by
  rw [hlv] at hlv2;injection hlv2 with e1 _ e3;exact⟨e1.symm,e3.symm⟩
 subst hq1 hq2;have hCoV:=coinsAt_below hCo1 hbV;have hAV:At c a len cap V:=hA1.below hbV;have HGV:Hid (w.grownBy V (some c)):=Cur.grownBy_trans HG1.out ⟨hbV.os,hbV.tape,hbV.output,hbV.size,fun i hi _=>hbV.block i hi⟩;obtain⟨hQl,q0,q1,_,_,_,_,_,_⟩:=HP2.out.1;have hcopy:=l3CopyO ro2 cp2 R.L V ho2 hz2 (by omega) hrd2;generalize w1.heap.size=rb at hQl q0 q1 ⊢;clear hP hlv hlv2 hCo1 hA1 hF1 hCB1 ho hz hrd ho2 hz2 hrd2 HV HP2 HG1 hbV hcv;go_wp2_with fail
 refine hcopy.mono ?_;rintro e w2 ⟨v,rfl,hO2,hb2⟩;have q1':=(hb2.cell (p:=⟨rb,1,none⟩) hQl).trans q1;have hcopyC:=l1CopyD (.slice co n cc) w2 (coinsAt_below hCoV hb2);have hA2:At c a len cap w2:=hAV.below hb2;have HG2:Hid (w.grownBy w2 (some c)):=Cur.grownBy_trans HGV.out ⟨hb2.os,hb2.tape,hb2.output,hb2.size,fun i hi _=>hb2.block i hi⟩;have HO2:Hid (OwnK 38 w.heap.size w2 v R.L):=ownK_base hO2 HGV.out.size;clear hO2 hb2 hCoV hAV HGV hcopy q0 q1;go_wp2_with fail
 refine hcopyC.mono ?_;rintro e w3 ⟨ao,ac,C,rfl,hC7,hCO,hb3⟩;have HS3:Hid (LcSt c a len cap w w3 v R.L ao ac C):=⟨hA2.below hb3,Cur.grownBy_trans HG2.out ⟨hb3.os,hb3.tape,hb3.output,hb3.size,fun i hi _=>hb3.block i hi⟩,Lc.ownK_below HO2.out hb3,by omega,HWD.out,Ch.own_base hCO HG2.out.size,hC7⟩
 clear hcopyC hCO hb3 hA2 HG2 HO2 q1' hQl;generalize R.L=L0 at HS3 HWD;clear HWD;go_wp2_with fail
 refine(Cur.once c a len cap 6 _ hl (by omega) HS3.out.at').mono ?_;rintro e w4 ⟨b4,rfl,hA4,hG4⟩;have HS4:Hid (LcSt c a len cap w w4 v L0 ao ac C):=HS3.out.grown hcw hA4 hG4;clear hA4 hG4 HS3;go_upto_if 16 with fail
 go_cut [6] (fun cv wx=>∃ao' ac' C',cv=.slice ao' (C':List Int).length ac'∧Hid (LcSt c a len cap w wx v L0 ao' ac' C'))
 case first=>
  cases b4
  ·go_wp2_with fail
   go_meet;exact⟨ao,ac,C,rfl,HS4⟩
  ·go_wp2_with fail
   refine(l8Draw c a len cap _ hl HS4.out.at').mono ?_;rintro e w5 ⟨g5,c5,C5,rfl,hC5,hO5,hA5,hG5⟩;have HS5:Hid (LcSt c a len cap w w5 v L0 (some ⟨g5,0,none⟩) c5 C5):=⟨hA5,Cur.grownBy_trans HS4.out.gr hG5,ownK_grown HS4.out.lo hG5 hcw,HS4.out.l61,HS4.out.wd,Ch.own_base hO5 HS4.out.gr.size,hC5⟩
   clear hO5 hA5 hG5 HS4;go_wp2_with fail
   go_meet;exact⟨some ⟨g5,0,none⟩,c5,C5,rfl,HS5⟩
 case rest=>
  obtain⟨ao6,c6,C6,rfl,HS6⟩:=hcut;clear HS4;go_wp2_with fail
  refine(Cur.once c a len cap 10 _ hl (by omega) HS6.out.at').mono ?_;rintro e w7 ⟨b7,rfl,hA7,hG7⟩;have HS7:Hid (LcSt c a len cap w w7 v L0 ao6 c6 C6):=HS6.out.grown hcw hA7 hG7;clear hA7 hG7 HS6
  cases b7
  ·go_wp2;refine bodyPost_ret (v:=.tuple #[v,.slice ao6 C6.length c6]) (by simp [results,Tryz.f84,go_sem]) rfl ?_;exact⟨v,L0,ao6,c6,C6,rfl,HS7.out⟩
  ·go_wp2_with fail
   refine(l3DrawAny HDD.out c a len cap _ hl HS7.out.at').mono ?_;rintro e w8 ⟨v8,L8,rfl,hO8,h61,hwd8,hA8,hG8⟩;have HS8:Hid (LcSt c a len cap w w8 v8 L8 ao6 c6 C6):=⟨hA8,Cur.grownBy_trans HS7.out.gr hG8,ownK_base hO8 HS7.out.gr.size,h61,hwd8,Draw.own_grown HS7.out.co hG8 hcw,HS7.out.c7⟩
   clear hO8 hA8 hG8 hwd8 HS7;go_wp2;refine bodyPost_ret (v:=.tuple #[v8,.slice ao6 C6.length c6]) (by simp [results,Tryz.f84,go_sem]) rfl ?_;exact⟨v8,L8,ao6,c6,C6,rfl,HS8.out⟩
structure DrawnC(w w':World)(v:Value)(L:List K)(ao:Option Addr)(cc:Nat)(C:List Int):Prop where
 dr:Drawn w.heap.size w w' v L
 co:Memb.Own w.heap.size w' ao cc C
 c7:C.length≤7
theorem drawnC_of{a:Option Addr}{len cap:Nat}{w w1 w':World}{v:Value}{L:List K}{ao:Option Addr}{cc:Nat}{C:List Int}(hb1:Below w.heap.size w w1)(s:LcSt w.heap.size a len cap w1 w' v L ao cc C):DrawnC w w' v L ao cc C:=
 ⟨⟨ownK_base s.lo hb1.size,s.l61,s.wd,Draw.below_of_grown hb1 (Nat.le_refl _) s.gr⟩,Ch.own_base s.co hb1.size,s.c7⟩
theorem own_at{B:Nat}{w:World}{ao:Option Addr}{cap:Nat}{l:List Int}(h:Memb.Own B w ao cap l):∀c,ao=some ⟨c,0,none⟩→c<w.heap.size:=fun c e=>by subst e;exact(World.ownsRow.lt h c rfl).2
theorem ownK_at{B:Nat}{w:World}{g cp:Nat}{L:List K}(h:OwnK 38 B w (.slice (some ⟨g,0,none⟩) L.length cp) L):g<w.heap.size∧RdK w (some ⟨g,0,none⟩) L:=by
 obtain⟨g',cp',e,_,_,_,hlt,hrd,_⟩:=Lc.ownK_shape h;injection e with e _ _;injection e with e;injection e with e;subst e;exact⟨hlt,hrd⟩
theorem drawFirm(HD:DrawsRoom)(HDC:DrawsRoomC)(a:Option Addr)(len cap:Nat)(w:World)(hl:len≤4096)(hc:Cur.Code w a len) :
  Calls Tryz.prog 61 #[.slice a len cap] w fun e w'=>∃v L ao cc C s k,e=.returned (.tuple #[v,.slice ao (C:List Int).length cc,.int .i64 s,.int .i64 k])∧DrawnC w w' v L ao cc C∧(-9223372036854775808≤s∧s≤9223372036854775807):=by
 have HDD:Hid DrawsRoom:=HD;have HDX:Hid DrawsRoomC:=HDC;clear HD HDC;go_enter Tryz.func61,Tryz.ntmps61
 go_wp2_with fail
 refine(Cur.new a len cap _ hl hc).mono ?_;rintro e w1 ⟨rfl,hA1,hb1⟩;have hlt1:=hA1.lt;have HB1:Hid (Below w.heap.size w w1):=hb1;clear hb1;go_wp2_with fail
 refine(l9Draw HDD.out HDX.out _ a len cap _ hl hA1).mono ?_;rintro e w2 ⟨v,L,ao,cc,C,rfl,hS2⟩;obtain⟨g,cp,rfl,hcp,_,hgB,_,hrd2,_⟩:=Lc.ownK_shape hS2.lo;have hne:g≠w.heap.size:=by omega
 have h61:=hS2.l61;have HWW:Hid (Lc.WordsOk L):=fun k hk=>by have:=hS2.wd k hk;omega
 have hset:=l4DrawSet w.heap.size a len cap g cp L w2 hl hS2.at' hne h61 hcp HWW.out hrd2;have HS2:Hid (LcSt w.heap.size a len cap w1 w2 (.slice (some ⟨g,0,none⟩) L.length cp) L ao cc C):=hS2;clear hS2 hA1 hrd2;go_wp2_with fail
 refine hset.mono ?_;rintro e w3 ⟨s,rfl,hs,hA3,hG3⟩;have HS3:Hid (LcSt w.heap.size a len cap w1 w3 (.slice (some ⟨g,0,none⟩) L.length cp) L ao cc C):=HS2.out.grown hlt1 hA3 hG3;clear HS2 hset hA3 hG3;obtain⟨hgl3,hrd3⟩:=ownK_at HS3.out.lo;have hfo:=Fm.specFirmOnes g 0 cp L ao cc C s w3 hcp HWW.out hgl3 hrd3 (by have:=HS3.out.c7;omega) (Lst.own_rd HS3.out.co) (own_at HS3.out.co);have hfl:=Fm.firmI_len L C s;clear hgl3 hrd3;generalize Fm.firmI L C s=ml at hfo hfl;go_wp2_with fail
 refine hfo.mono ?_;rintro e w4 ⟨mo,mc,rfl,hown,hb4⟩;have HS4:Hid (LcSt w.heap.size a len cap w1 w4 (.slice (some ⟨g,0,none⟩) L.length cp) L ao cc C):=HS3.out.below hb4;have hc3:=HS3.out.at'.lt;have HM:Hid (ml=[]∨∃mb,mo=some ⟨mb,0,none⟩∧mb≠w.heap.size∧mb<w4.heap.size∧∀j,j<ml.length→∃z:Int,w4.cell? ⟨mb,j,none⟩=some (.int .i64 z)):=by
  rcases Lst.own_rd hown with e | ⟨mb,e,h⟩
  ·exact .inl e
  ·subst e;have:=World.ownsRow.lt hown mb rfl;exact .inr ⟨mb,rfl,by omega,this.2,fun j hj=>⟨_,h j hj⟩⟩
 clear hown hb4 HS3 hfo;by_cases hz:ml.length=0
 ·rw [hz];clear HM hz;go_wp2_with fail
  refine(l3DrawAt _ a len cap L.length _ hl h61 HS4.out.at').mono ?_;rintro e w6 ⟨r,rfl,_,hA6,hG6⟩;have HF:Hid (DrawnC w w6 (.slice (some ⟨g,0,none⟩) L.length cp) L ao cc C):=drawnC_of HB1.out (HS4.out.grown hlt1 hA6 hG6);clear HS4 hA6 hG6;go_wp2;refine bodyPost_ret (v:=.tuple #[.slice (some ⟨g,0,none⟩) L.length cp,.slice ao C.length cc,.int .i64 s,.int .i64 r]) (by simp [results,Tryz.f61,go_sem]) rfl ?_;exact⟨_,L,ao,cc,C,s,r,rfl,HF.out,hs⟩
 ·have hpos:(0:Int)<(ml.length:Int):=by omega
  go_wp2_with fail
  refine(Cur.once w.heap.size a len cap 2 _ hl (by omega) HS4.out.at').mono ?_;rintro e w6 ⟨b,rfl,hA6,hG6⟩;have HS6:Hid (LcSt w.heap.size a len cap w1 w6 (.slice (some ⟨g,0,none⟩) L.length cp) L ao cc C):=HS4.out.grown hlt1 hA6 hG6
  cases b
  ·clear HM hz HS4 hA6 hG6;go_wp2_with fail
   refine(l3DrawAt _ a len cap L.length _ hl h61 HS6.out.at').mono ?_;rintro e w7 ⟨r,rfl,_,hA7,hG7⟩;have HF:Hid (DrawnC w w7 (.slice (some ⟨g,0,none⟩) L.length cp) L ao cc C):=drawnC_of HB1.out (HS6.out.grown hlt1 hA7 hG7);clear HS6 hA7 hG7;go_wp2;refine bodyPost_ret (v:=.tuple #[.slice (some ⟨g,0,none⟩) L.length cp,.slice ao C.length cc,.int .i64 s,.int .i64 r]) (by simp [results,Tryz.f61,go_sem]) rfl ?_;exact⟨_,L,ao,cc,C,s,r,rfl,HF.out,hs⟩
  ·rcases HM.out with e | ⟨mb,rfl,hmc,hm5,hcell⟩
   ·rw [e] at hz;simp at hz
   have HMB:Hid (∀W:World,Below w6.heap.size w6 W→Calls Tryz.prog 71 #[.pointer (some ⟨w.heap.size,0,none⟩),.int .i64 (ml.length:Int)] W fun e W'=>∃x:Nat,∃z:Int,e=.returned (.int .i64 (x:Int))∧x<ml.length∧W'.cell? ⟨mb,x,none⟩=some (.int .i64 z)∧DrawnC w W' (.slice (some ⟨g,0,none⟩) L.length cp) L ao cc C):=fun W hW=>by
    have hSW:=HS6.out.below hW;refine(Cur.below w.heap.size a len cap (ml.length:Int) W hl (by omega) hSW.at').mono ?_;rintro e w7 ⟨x,rfl,hx0,hx1,hA7,hG7⟩;obtain⟨p,rfl⟩:=Int.eq_ofNat_of_zero_le hx0;have hp:p<ml.length:=by have:=hx1 hpos;omega
    obtain⟨z,hz1⟩:=hcell p hp;refine⟨p,z,rfl,hp,?_,drawnC_of HB1.out (hSW.grown hlt1 hA7 hG7)⟩;have c6:=Draw.kept_cell hG6 hmc hz1;have c7:=(hW.cell (p:=⟨mb,p,none⟩) (Nat.lt_of_lt_of_le hm5 hG6.size)).trans c6;exact Draw.kept_cell hG7 hmc c7
   clear HM hz HS4 hA6 hG6 HS6 hcell hm5 hmc;generalize ml.length=mn at HMB hpos hfl ⊢;go_wp2_with fail
   go_region_with (go_at_call 71;refine(HMB.out _ (Below.refl _ w6).drew).mono ?_;rintro e w7 ⟨x,z,rfl,hxm,ci,hD7⟩;have HF:Hid (DrawnC w w7 (.slice (some ⟨g,0,none⟩) L.length cp) L ao cc C):=hD7;have hxi:(x:Int)<(mn:Int):=Int.ofNat_lt.2 hxm;clear hD7)
   all_goals
    go_wp2;refine bodyPost_ret (v:=.tuple #[.slice (some ⟨g,0,none⟩) L.length cp,.slice ao C.length cc,.int .i64 s,.int .i64 z]) (by simp [results,Tryz.f61,go_sem]) rfl ?_;exact⟨_,L,ao,cc,C,s,z,rfl,HF.out,hs⟩
theorem drawFirmOnes(HD:DrawsRoom)(HDC:DrawsRoomC)(a:Option Addr)(len cap:Nat)(w:World)(hl:len≤4096)(hc:Cur.Code w a len) :
  Calls Tryz.prog 30 #[.slice a len cap] w fun e w'=>∃v L ao cc C s,e=.returned (.tuple #[v,.slice ao (C:List Int).length cc,.int .i64 s])∧DrawnC w w' v L ao cc C∧(-9223372036854775808≤s∧s≤9223372036854775807):=by
 go_enter Tryz.func30,Tryz.ntmps30
 go_wp2_with fail
 refine(drawFirm HD HDC a len cap _ hl hc).mono ?_;rintro e w1 ⟨v,L,ao,cc,C,s,k,rfl,hD,hs⟩;go_wp2;refine bodyPost_ret (v:=.tuple #[v,.slice ao C.length cc,.int .i64 s]) (by simp [results,Tryz.f30,go_sem]) rfl ?_;exact⟨v,L,ao,cc,C,s,rfl,hD,hs⟩
end Rm
namespace Lc
open Kn (K okK)
open Bit (bit withB)
theorem pow60(n:Nat)(hn:n≤60):(1:Int)≤2 ^ n∧(2:Int) ^ n≤1152921504606846976:=by
 have hp:1≤2 ^ n:=Nat.one_le_two_pow;have hq:2 ^ n≤2 ^ 60:=Nat.pow_le_pow_right (by decide) hn;have hpc:((2 ^ n:Nat):Int)=(2:Int) ^ n:=by simp
 omega
theorem wrap60(n:Nat)(hn:n≤60):IntKind.i64.wrap (2 ^ n)=2 ^ n:=by
 have:=pow60 n hn;rw [IntKind.wrap_i64];omega
def inL(n:Nat)(s:Int):Bool:=decide (0≤s)&&decide (s / 2 ^ n=0)
theorem all(a:Option Addr)(cap n:Nat)(w:World)(hn:n≤60):Calls Tryz.prog 75 #[.slice a n cap] w fun e w'=>e=.returned (.int .i64 (2 ^ n-1))∧w=w':=by
 have h1:=wrap60 n hn;have h2:=pow60 n hn;go_enter Tryz.func75,Tryz.ntmps75
 go_wp2;go_ret;exact⟨rfl,rfl⟩
theorem holds(a:Option Addr)(cap n:Nat)(s:Int)(w:World)(hn:n≤60)(h0:-9223372036854775808≤s)(h1:s≤9223372036854775807):Calls Tryz.prog 63 #[.slice a n cap,.int .i64 s] w fun e w'=>e=.returned (.bool (inL n s))∧w=w':=by
 have HA:Hid ((bits .andNot .i64 s (2 ^ n-1) == 0)=inL n s):=andNot_zero s n hn h0 h1;go_enter Tryz.func63,Tryz.ntmps63
 go_wp2_with fail
 refine(all _ _ _ _ hn).mono ?_;rintro e w1 ⟨rfl,rfl⟩;go_wp2;go_ret;exact⟨by rw [← HA.out];rfl,rfl⟩
theorem setB_eq(L:List K)(s:Int):setB L s=(laceB L&&inL L.length s):=rfl
end Lc
end Go.Proofs.YtbkeldfbllhlbaaGreat
