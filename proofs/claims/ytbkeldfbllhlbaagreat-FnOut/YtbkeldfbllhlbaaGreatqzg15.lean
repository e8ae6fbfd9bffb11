/-
 What the program's own Nods and Nodders answer, in the words of NodM; for lists of knots whose words have at most 2^40 bytes.
-/
import Derived.Test.YtbkeldfbllhlbaaGreatqzg14
import Derived.ChangeKeysEq
set_option linter.unusedVariables false
set_option maxRecDepth 100000
set_option maxHeartbeats 1600000
namespace Go.Proofs.YtbkeldfbllhlbaaGreat
open Go.RowKit
section
namespace Ch
open Kn (K okK)
open Lc (at' laceB RdK WordsOk)
open Sg (isB)
open Rm (coinsB coinsTo)
open Db (RowI)
def led(C:List Int)(j i:Nat):Int:=if i<j then C.getD i 0 else (i:Int) % 4
theorem led_all(C:List Int)(i:Nat):led C C.length i=leadI C (i:Int):=by
 unfold led leadI;by_cases h:i<C.length
 ·rw [if_pos h,if_pos (by omega),Int.toNat_natCast]
 ·rw [if_neg h,if_neg (by omega)]
theorem led_zero(C:List Int):led C 0=fun i:Nat=>(i:Int) % 4:=by funext i;unfold led;rw [if_neg (by omega)]
theorem led_step(C:List Int)(j:Nat):(fun i=>if i=j then C.getD j 0 else led C j i)=led C (j+1):=by
 funext i
 unfold led;by_cases h:i=j
 ·subst h;rw [if_pos rfl,if_pos (by omega)]
 ·rw [if_neg h];by_cases h2:i<j
  ·rw [if_pos h2,if_pos (by omega)]
  ·rw [if_neg h2,if_neg (by omega)]
def own4(j i:Nat):Int:=if i<j then (i:Int) % 4 else 0
theorem own4_zero:own4 0=fun _=>0:=by funext i;unfold own4;rw [if_neg (by omega)]
theorem own4_step(j:Nat):(fun i=>if i=j then (j:Int) % 4 else own4 j i)=own4 (j+1):=by
 funext i
 unfold own4;by_cases h:i=j
 ·subst h;rw [if_pos rfl,if_pos (by omega)]
 ·rw [if_neg h];by_cases h2:i<j
  ·rw [if_pos h2,if_pos (by omega)]
  ·rw [if_neg h2,if_neg (by omega)]
theorem rowI_seven(w:World)(t:TypeId)(f:Nat→Int):RowI (w.alloc (.cells #[.int .i64 (f 0),.int .i64 (f 1),.int .i64 (f 2),.int .i64 (f 3),.int .i64 (f 4),.int .i64 (f 5),.int .i64 (f 6)] t)) w.heap.size 7 f where
 lt:=by simp
 rd:=fun i hi=>by
  match i,hi with
  | 0,_=>simp
  | 1,_=>simp
  | 2,_=>simp
  | 3,_=>simp
  | 4,_=>simp
  | 5,_=>simp
  | 6,_=>simp
 fr:=fun i hi=>by
  match i,hi with
  | 0,_=>simp
  | 1,_=>simp
  | 2,_=>simp
  | 3,_=>simp
  | 4,_=>simp
  | 5,_=>simp
  | 6,_=>simp
theorem put7{w0 wr:World}{b:Nat}{D:Nat→Int}(h:RowI wr b 7 D)(n:Nat)(hn:n≤b)(hB:Below n w0 wr)(x0 x1 x2 x3 x4 x5 x6:Int) :
  ∃W7,W7=(((((((wr.setCell ⟨b,0,none⟩ (.int .i64 x0)).setCell ⟨b,1,none⟩ (.int .i64 x1)).setCell ⟨b,2,none⟩ (.int .i64 x2)).setCell ⟨b,3,none⟩ (.int .i64 x3)).setCell ⟨b,4,none⟩ (.int .i64 x4)).setCell ⟨b,5,none⟩ (.int .i64 x5)).setCell ⟨b,6,none⟩ (.int .i64 x6)) ∧
   W7.cell? ⟨b,0,none⟩=some (.int .i64 x0)∧W7.cell? ⟨b,1,none⟩=some (.int .i64 x1)∧W7.cell? ⟨b,2,none⟩=some (.int .i64 x2)∧W7.cell? ⟨b,3,none⟩=some (.int .i64 x3)∧W7.cell? ⟨b,4,none⟩=some (.int .i64 x4)∧W7.cell? ⟨b,5,none⟩=some (.int .i64 x5)∧W7.cell? ⟨b,6,none⟩=some (.int .i64 x6) ∧
   (∀i,i<7→W7.frozen? ⟨b,i,none⟩=false)∧Below n w0 W7:=by
 have h1:=((((((h.put 0 (by omega) x0).put 1 (by omega) x1).put 2 (by omega) x2).put 3 (by omega) x3).put 4 (by omega) x4).put 5 (by omega) x5).put 6 (by omega) x6;refine⟨_,rfl,h1.rd 0 (by omega),h1.rd 1 (by omega),h1.rd 2 (by omega),h1.rd 3 (by omega),h1.rd 4 (by omega),h1.rd 5 (by omega),h1.rd 6 (by omega),h1.fr,?_⟩;exact((((((hB.setCell (p:=⟨b,0,none⟩) hn _).setCell (p:=⟨b,1,none⟩) hn _).setCell (p:=⟨b,2,none⟩) hn _).setCell (p:=⟨b,3,none⟩) hn _).setCell (p:=⟨b,4,none⟩) hn _).setCell (p:=⟨b,5,none⟩) hn _).setCell (p:=⟨b,6,none⟩) hn _
theorem coins_long{C:List Int}(h:¬ C.length≤6):coinsB C=false:=by unfold Rm.coinsB;rw [decide_eq_false h];simp
theorem coins_done{C:List Int}(h:C.length≤6)(h2:coinsTo C C.length=true):coinsB C=true:=by unfold Rm.coinsB;rw [h2,decide_eq_true h];rfl
theorem rd_low{w w':World}{ao:Option Addr}{l:List Int}(h:Lst.Rd w ao l)(hao:∀c,ao=some ⟨c,0,none⟩→c<w.heap.size)(hb:Below w.heap.size w w'):Lst.Rd w' ao l:=by
 rcases h with h | ⟨g,rfl,hc⟩
 ·exact .inl h
 ·exact .inr ⟨g,rfl,fun j hj=>(hb.cell (p:=⟨g,j,none⟩) (hao g rfl)).trans (hc j hj)⟩
def LedPost(C:List Int)(w:World)(e:Ending)(w':World):Prop:=
 (coinsB C=true∧e=.returned (.tuple #[.agg #[.int .i64 (leadI C 0),.int .i64 (leadI C 1),.int .i64 (leadI C 2),.int .i64 (leadI C 3),.int .i64 (leadI C 4),.int .i64 (leadI C 5),.int .i64 (leadI C 6)],.bool true])∧Below w.heap.size w w') ∨
 (coinsB C=false∧e=.returned (.tuple #[.agg #[.int .i64 0,.int .i64 0,.int .i64 0,.int .i64 0,.int .i64 0,.int .i64 0,.int .i64 0],.bool false])∧Below w.heap.size w w')
theorem leadersOf(ao:Option Addr)(cap:Nat)(C:List Int)(w:World)(hl:C.length≤1048576)(hrd:Lst.Rd w ao C)(hao:∀c,ao=some ⟨c,0,none⟩→c<w.heap.size) :
   Calls Tryz.prog 62 #[.slice ao C.length cap] w (LedPost C w):=by
 by_cases h6:C.length≤6
 · have h6':¬ (6:Int)<(C.length:Int):=by omega
   have P0 : Hid (RowI ((w.alloc (.cells #[.int .i64 0,.int .i64 0,.int .i64 0,.int .i64 0,.int .i64 0,.int .i64 0,.int .i64 0] 58)).alloc (.cells #[.int .i64 0,.int .i64 0,.int .i64 0,.int .i64 0,.int .i64 0,.int .i64 0,.int .i64 0] 58)) w.heap.size 7 (fun _=>0) ∧
       RowI ((w.alloc (.cells #[.int .i64 0,.int .i64 0,.int .i64 0,.int .i64 0,.int .i64 0,.int .i64 0,.int .i64 0] 58)).alloc (.cells #[.int .i64 0,.int .i64 0,.int .i64 0,.int .i64 0,.int .i64 0,.int .i64 0,.int .i64 0] 58)) (w.heap.size+1) 7 (own4 0) ∧
       Below w.heap.size w ((w.alloc (.cells #[.int .i64 0,.int .i64 0,.int .i64 0,.int .i64 0,.int .i64 0,.int .i64 0,.int .i64 0] 58)).alloc (.cells #[.int .i64 0,.int .i64 0,.int .i64 0,.int .i64 0,.int .i64 0,.int .i64 0,.int .i64 0] 58))):=
     ⟨Nd.rowI_alloc (rowI_seven w _ (fun _=>0)) _,by rw [own4_zero];have:=rowI_seven (w.alloc (.cells #[.int .i64 0,.int .i64 0,.int .i64 0,.int .i64 0,.int .i64 0,.int .i64 0,.int .i64 0] 58)) 58 (fun _=>0);simpa using this,((Below.refl _ w).alloc (Nat.le_refl _) _).alloc (by simp) _⟩
   go_enter Tryz.func62,Tryz.ntmps62
   go_wp2;go_loopw [12] (fun i wr=>∃j:Nat,j≤7∧i=.int .i64 j∧Hid (RowI wr w.heap.size 7 (fun _=>0))∧Hid (RowI wr (w.heap.size+1) 7 (own4 j))∧Hid (Below w.heap.size w wr)) (fun i _=>7-(intOf i).toNat)
   case atStart=>exact⟨0,by omega,rfl,P0.out.1,P0.out.2.1,P0.out.2.2⟩
   case round=>
     obtain⟨j,hj,rfl,HR,HF,HB⟩:=hrel;clear P0;by_cases hlt:j<7
     · have hlt':(j:Int)<7:=by omega
       have e1:=HF.out.rd j hlt;have f1:=HF.out.fr j hlt;have HR2:Hid (RowI (wr.setCell ⟨w.heap.size+1,j,none⟩ (.int .i64 ((j:Int) % 4))) w.heap.size 7 (fun _=>0)):=Nd.rowI_other HR.out _ _ (by omega) _;have HF2:Hid (RowI (wr.setCell ⟨w.heap.size+1,j,none⟩ (.int .i64 ((j:Int) % 4))) (w.heap.size+1) 7 (own4 (j+1))):=by
         show RowI _ _ _ _;rw [← own4_step];exact HF.out.put j hlt _
       have HB2:Hid (Below w.heap.size w (wr.setCell ⟨w.heap.size+1,j,none⟩ (.int .i64 ((j:Int) % 4)))):=HB.out.setCell (p:=⟨w.heap.size+1,j,none⟩) (by simp) _;clear HR HF HB;generalize own4 j j=y at e1;go_wp2;go_roundw
       case rel=>exact⟨j+1,by omega,by go_num,HR2,HF2,HB2⟩
       case measure=>simp [intOf];omega
     · obtain rfl:j=7:=by omega
       have HF':Hid (RowI wr (w.heap.size+1) 7 (led C 0)):=by
         rw [led_zero];exact⟨HF.out.lt,fun i hi=>by rw [HF.out.rd i hi];unfold own4;rw [if_pos hi],HF.out.fr⟩
       clear HF;rw [show((7:Nat):Int)=7 from rfl];go_wp2;go_loopw [22] (fun i wr=>∃j:Nat,j≤C.length∧i=.int .i64 j∧Hid (coinsTo C j=true)∧Hid (RowI wr w.heap.size 7 (fun _=>0))∧Hid (RowI wr (w.heap.size+1) 7 (led C j))∧Hid (Below w.heap.size w wr)) (fun i _=>C.length-(intOf i).toNat)
       case atStart=>exact⟨0,by omega,rfl,rfl,HR,HF',HB⟩
       case round=>
         clear HR HF' HB;obtain⟨j,hj,rfl,HC,HR,HF,HB⟩:=hrel;by_cases hlt:j<C.length
         · rcases hrd with hrd | ⟨b,rfl,hcell⟩
           · rw [hrd] at hlt;simp at hlt
           have hb0:=hao b rfl;have cj:=(HB.out.cell (p:=⟨b,j,none⟩) hb0).trans (hcell j hlt);have HS:Hid (coinsTo C (j+1)=(coinsTo C j&&Kn.in3 (C.getD j 0))):=Rm.coins_step C j;have HN:Hid (Kn.in3 (C.getD j 0)=false→coinsB C=false):=Rm.coins_no C j hlt;have HL:Hid ((fun i=>if i=j then C.getD j 0 else led C j i)=led C (j+1)):=led_step C j;clear hcell hao;generalize C.getD j 0=y at cj HS HN HL
           cases hq:Kn.in3 y
           · have HT:Hid (coinsB C=false):=HN.out hq;have HQ:Hid (Kn.in3 y=false):=hq;obtain⟨W7,hW7,k0,k1,k2,k3,k4,k5,k6,_,hB7⟩:=put7 HR.out w.heap.size (Nat.le_refl _) HB.out 0 0 0 0 0 0 0;have HW:Hid (W7=_):=hW7;have q0:=HR.out.fr 0 (by omega);have q1:=HR.out.fr 1 (by omega);have q2:=HR.out.fr 2 (by omega);have q3:=HR.out.fr 3 (by omega);have q4:=HR.out.fr 4 (by omega);have q5:=HR.out.fr 5 (by omega);have q6:=HR.out.fr 6 (by omega);have r0:=HR.out.rd 0 (by omega);have r1:=HR.out.rd 1 (by omega);have r2:=HR.out.rd 2 (by omega);have r3:=HR.out.rd 3 (by omega);have r4:=HR.out.rd 4 (by omega);have r5:=HR.out.rd 5 (by omega);have r6:=HR.out.rd 6 (by omega);clear hq HS HN HL hW7;go_wp2_with (go_at_call 92;refine(Kn.known _ _).mono ?_;rintro e w' ⟨rfl,rfl⟩;rw [HQ.out])
             rw [← HW.out];refine bodyPost_ret (v:=.tuple #[.agg #[.int .i64 0,.int .i64 0,.int .i64 0,.int .i64 0,.int .i64 0,.int .i64 0,.int .i64 0],.bool false]) (by simp [results,Tryz.f62,go_sem,k0,k1,k2,k3,k4,k5,k6]) rfl ?_;exact .inr ⟨HT.out,rfl,hB7⟩
           · have HT:Hid (coinsTo C (j+1)=true):=by show _=_;rw [HS.out,HC.out,hq];rfl
             have HQ:Hid (Kn.in3 y=true):=hq;have e1:=HF.out.rd j (by omega);have f1:=HF.out.fr j (by omega);have hj7:(j:Int)<7:=by omega
             have HR2:Hid (RowI (wr.setCell ⟨w.heap.size+1,j,none⟩ (.int .i64 y)) w.heap.size 7 (fun _=>0)):=Nd.rowI_other HR.out _ _ (by omega) _;have HF2:Hid (RowI (wr.setCell ⟨w.heap.size+1,j,none⟩ (.int .i64 y)) (w.heap.size+1) 7 (led C (j+1))):=by
               show RowI _ _ _ _;rw [← HL.out];exact HF.out.put j (by omega) _
             have HB2:Hid (Below w.heap.size w (wr.setCell ⟨w.heap.size+1,j,none⟩ (.int .i64 y))):=HB.out.setCell (p:=⟨w.heap.size+1,j,none⟩) (by simp) _;clear hq HS HN HC HR HF HB HL;generalize led C j j=z at e1;go_wp2_with (go_at_call 92;refine(Kn.known _ _).mono ?_;rintro e w' ⟨rfl,rfl⟩;rw [HQ.out])
             go_roundw
             case rel=>exact⟨j+1,by omega,by go_num,HT,HR2,HF2,HB2⟩
             case measure=>simp [intOf];omega
         · obtain rfl:j=C.length:=by omega
           have HT:Hid (coinsB C=true):=coins_done h6 HC.out;have HF':Hid (RowI wr (w.heap.size+1) 7 (fun i=>leadI C (i:Int))):=⟨HF.out.lt,fun i hi=>by rw [HF.out.rd i hi,led_all],HF.out.fr⟩
           clear HF HC;have q0:=HR.out.fr 0 (by omega);have q1:=HR.out.fr 1 (by omega);have q2:=HR.out.fr 2 (by omega);have q3:=HR.out.fr 3 (by omega);have q4:=HR.out.fr 4 (by omega);have q5:=HR.out.fr 5 (by omega);have q6:=HR.out.fr 6 (by omega);have r0:=HR.out.rd 0 (by omega);have r1:=HR.out.rd 1 (by omega);have r2:=HR.out.rd 2 (by omega);have r3:=HR.out.rd 3 (by omega);have r4:=HR.out.rd 4 (by omega);have r5:=HR.out.rd 5 (by omega);have r6:=HR.out.rd 6 (by omega);have f0:=HF'.out.rd 0 (by omega);have f1:=HF'.out.rd 1 (by omega);have f2:=HF'.out.rd 2 (by omega);have f3:=HF'.out.rd 3 (by omega);have f4:=HF'.out.rd 4 (by omega);have f5:=HF'.out.rd 5 (by omega);have f6:=HF'.out.rd 6 (by omega);have HP:Hid (∀x0 x1 x2 x3 x4 x5 x6:Int,_):=put7 HR.out w.heap.size (Nat.le_refl _) HB.out;clear HR HB HF' hrd hao;go_wp2;obtain⟨W7,hW7,k0,k1,k2,k3,k4,k5,k6,_,hB7⟩:=HP.out (leadI C 0) (leadI C 1) (leadI C 2) (leadI C 3) (leadI C 4) (leadI C 5) (leadI C 6);rw [← hW7];refine bodyPost_ret (v:=.tuple #[.agg #[.int .i64 (leadI C 0),.int .i64 (leadI C 1),.int .i64 (leadI C 2),.int .i64 (leadI C 3),.int .i64 (leadI C 4),.int .i64 (leadI C 5),.int .i64 (leadI C 6)],.bool true]) (by simp [results,Tryz.f62,go_sem,k0,k1,k2,k3,k4,k5,k6]) rfl ?_;exact .inl ⟨HT.out,rfl,hB7⟩
 · have HT:Hid (coinsB C=false):=coins_long h6;have h6':(6:Int)<(C.length:Int):=by omega
   clear hrd hao;go_enter Tryz.func62,Tryz.ntmps62
   go_wp2;refine bodyPost_ret (v:=.tuple #[.agg #[.int .i64 0,.int .i64 0,.int .i64 0,.int .i64 0,.int .i64 0,.int .i64 0,.int .i64 0],.bool false]) (by simp [results,Tryz.f62,go_sem]) rfl ?_;exact .inr ⟨HT.out,rfl,(Below.refl _ w).alloc (Nat.le_refl _) _⟩
def ledB(L:List K)(f:Nat→Int)(k:Int):Bool:=(decide (0≤k)&&decide (k<(L.length:Int)))&&(decide ((at' L k.toNat).round % 3=0)&&decide ((at' L k.toNat).hand=f ((at' L k.toNat).round / 3).toNat))
theorem ledB_leads{L:List K}(hlc:laceB L=true){C:List Int}(hc:coinsB C=true)(f:Nat→Int)(hf:∀i,i<7→f i=leadI C (i:Int))(k:Int):ledB L f k=leadsB L C k:=by
 unfold ledB leadsB leadK;rw [Db.isB_lace hlc,hc];by_cases hk:0≤k∧k<(L.length:Int)
 ·obtain⟨p,rfl⟩:=Int.eq_ofNat_of_zero_le hk.1;have hrb:=Lc.ok_round (Lc.can_ok (Lc.lace_upTo hlc p (by omega)));rw [Int.toNat_natCast] at *;rw [hf _ (by omega),show((((at' L p).round / 3).toNat:Nat):Int)=(at' L p).round / 3 by omega];simp
 ·have:(decide (0≤k)&&decide (k<(L.length:Int)))=false:=by
   rw [Bool.eq_false_iff];intro h;rw [Bool.and_eq_true,decide_eq_true_eq,decide_eq_true_eq] at h;exact hk h
  rw [this];rfl
theorem beginsWave(r:Int)(w:World)(h0:0≤r)(h1:r≤1000):Calls Tryz.prog 162 #[.int .i64 r] w fun e w'=>e=.returned (.bool (decide (r % 3=0)))∧w=w':=by
 have HD:Hid ((r % 3 == 0)=decide (r % 3=0)):=rfl;go_enter Tryz.func162,Tryz.ntmps162
 go_wp2;go_ret;exact⟨by rw [← HD.out];rfl,rfl⟩
theorem waveOf(r:Int)(w:World)(h0:0≤r)(h1:r≤1000):Calls Tryz.prog 163 #[.int .i64 r] w fun e w'=>e=.returned (.int .i64 (r / 3))∧w=w':=by
 go_enter Tryz.func163,Tryz.ntmps163
 go_wp2;go_ret;exact⟨rfl,rfl⟩
theorem leads(g off cap:Nat)(L:List K)(f:Nat→Int)(k:Int)(w:World)(hlc:laceB L=true)(hg:g<w.heap.size)(hr:RdK w (some ⟨g,off,none⟩) L) :
  Calls Tryz.prog 142 #[.slice (some ⟨g,off,none⟩) L.length cap,.agg #[.int .i64 (f 0),.int .i64 (f 1),.int .i64 (f 2),.int .i64 (f 3),.int .i64 (f 4),.int .i64 (f 5),.int .i64 (f 6)],.int .i64 k] w fun e w'=>e=.returned (.bool (ledB L f k))∧Below w.heap.size w w':=by
 have h60:=((Lc.lace_iff L).1 hlc).1;have P0:Hid (Below w.heap.size w (w.alloc (.cells #[.int .i64 (f 0),.int .i64 (f 1),.int .i64 (f 2),.int .i64 (f 3),.int .i64 (f 4),.int .i64 (f 5),.int .i64 (f 6)] 58))∧RowI (w.alloc (.cells #[.int .i64 (f 0),.int .i64 (f 1),.int .i64 (f 2),.int .i64 (f 3),.int .i64 (f 4),.int .i64 (f 5),.int .i64 (f 6)] 58)) w.heap.size 7 f):=⟨(Below.refl _ _).alloc (Nat.le_refl _) _,rowI_seven w _ f⟩
 have HA:Hid (∀W:World,Calls Tryz.prog 65 #[.int .i64 (2 ^ L.length-1),.int .i64 k] W fun e w'=>e=.returned (.bool (decide (0≤k)&&decide (k<(L.length:Int))))∧W=w'):=fun W=>by
  have:=Base.has (2 ^ L.length-1) k W;rw [Sg.all_has h60 k] at this;exact this
 by_cases hk:0≤k∧k<(L.length:Int)
 ·have HI:Hid ((decide (0≤k)&&decide (k<(L.length:Int)))=true):=by show _=_;rw [decide_eq_true hk.1,decide_eq_true hk.2];rfl
  have HT:Hid (ledB L f k=(decide ((at' L k.toNat).round % 3=0)&&decide ((at' L k.toNat).hand=f ((at' L k.toNat).round / 3).toNat))):=by show _=_;unfold ledB;rw [HI.out];rfl
  rw [HI.out] at HA;obtain⟨p,rfl⟩:=Int.eq_ofNat_of_zero_le hk.1;have hp:p<L.length:=by omega
  rw [Int.toNat_natCast] at HT;have hrb:=Lc.ok_round (Lc.can_ok (Lc.lace_upTo hlc p hp));obtain⟨_,hcs⟩:=hr.on p hp;have hcs':=hcs.below P0.out.1 hg;obtain⟨c0,c1,_,_⟩:=hcs';clear HI hk hlc hcs hr;generalize at' L p=kk at c0 c1 HT hrb;obtain⟨kh,kr,kf,kw⟩:=kk;dsimp only at c0 c1 HT hrb;have HBW:Hid (∀W:World,Calls Tryz.prog 162 #[.int .i64 kr] W fun e w'=>e=.returned (.bool (decide (kr % 3=0)))∧W=w'):=fun W=>beginsWave kr W hrb.1 (by omega)
  have HWO:Hid (∀W:World,Calls Tryz.prog 163 #[.int .i64 kr] W fun e w'=>e=.returned (.int .i64 (kr / 3))∧W=w'):=fun W=>waveOf kr W hrb.1 (by omega)
  by_cases hz:kr % 3=0
  ·obtain⟨q,hq⟩:=Int.eq_ofNat_of_zero_le (show 0≤kr / 3 by omega);have hq7:q<7:=by omega
   have hq7':(q:Int)<7:=by omega
   rw [hq] at HWO HT;rw [decide_eq_true hz] at HBW HT;rw [Int.toNat_natCast,Bool.true_and] at HT;have HE:Hid ((kh == f q)=decide (kh=f q)):=rfl;clear hz hrb hq;have HP:=P0;clear P0;go_enter Tryz.func142,Tryz.ntmps142
   go_wp2_with fail
   generalize w.alloc (.cells #[.int .i64 (f 0),.int .i64 (f 1),.int .i64 (f 2),.int .i64 (f 3),.int .i64 (f 4),.int .i64 (f 5),.int .i64 (f 6)] 58)=V at HP c0 c1 ⊢;have HB:Hid (Below w.heap.size w V):=HP.out.1;have cq:=HP.out.2.rd q hq7;clear HP;generalize f q=y at cq HT HE;go_quiet (first | (go_at_call 75;exact(Lc.all _ _ _ _ h60).mono fun _ _ h=>⟨h.1,_,h.2.symm⟩) | (go_at_call 65;exact(HA.out _).mono fun _ _ h=>⟨h.1,_,h.2.symm⟩) | (go_at_call 162;exact(HBW.out _).mono fun _ _ h=>⟨h.1,_,h.2.symm⟩) | (go_at_call 163;exact(HWO.out _).mono fun _ _ h=>⟨h.1,_,h.2.symm⟩))
   go_wp2;go_ret;exact⟨by rw [HT.out,← HE.out];rfl,Db.below_drewN HB.out _⟩
  ·rw [decide_eq_false hz] at HBW HT;rw [Bool.false_and] at HT;have HP:=P0;clear P0 hz hrb HWO;go_enter Tryz.func142,Tryz.ntmps142
   go_wp2_with fail
   generalize w.alloc (.cells #[.int .i64 (f 0),.int .i64 (f 1),.int .i64 (f 2),.int .i64 (f 3),.int .i64 (f 4),.int .i64 (f 5),.int .i64 (f 6)] 58)=V at HP c0 c1 ⊢;have HB:Hid (Below w.heap.size w V):=HP.out.1;clear HP;go_quiet (first | (go_at_call 75;exact(Lc.all _ _ _ _ h60).mono fun _ _ h=>⟨h.1,_,h.2.symm⟩) | (go_at_call 65;exact(HA.out _).mono fun _ _ h=>⟨h.1,_,h.2.symm⟩) | (go_at_call 162;exact(HBW.out _).mono fun _ _ h=>⟨h.1,_,h.2.symm⟩))
   go_wp2;go_ret;exact⟨by rw [HT.out];rfl,Db.below_drewN HB.out _⟩
 ·have HI:Hid ((decide (0≤k)&&decide (k<(L.length:Int)))=false):=by
   show _=_;rw [Bool.eq_false_iff];intro h;rw [Bool.and_eq_true,decide_eq_true_eq,decide_eq_true_eq] at h;exact hk h
  have HT:Hid (ledB L f k=false):=by show _=_;unfold ledB;rw [HI.out];rfl
  rw [HI.out] at HA;clear HI hk hlc hr;go_enter Tryz.func142,Tryz.ntmps142
  go_wp2_with fail
  generalize w.alloc (.cells #[.int .i64 (f 0),.int .i64 (f 1),.int .i64 (f 2),.int .i64 (f 3),.int .i64 (f 4),.int .i64 (f 5),.int .i64 (f 6)] 58)=V at P0 ⊢;have HB:Hid (Below w.heap.size w V):=P0.out.1;clear P0;go_quiet (first | (go_at_call 75;exact(Lc.all _ _ _ _ h60).mono fun _ _ h=>⟨h.1,_,h.2.symm⟩) | (go_at_call 65;exact(HA.out _).mono fun _ _ h=>⟨h.1,_,h.2.symm⟩))
  go_wp2;go_ret;exact⟨by rw [HT.out];rfl,Db.below_drewN HB.out _⟩
end Ch
end
section
namespace Ak
open Kn (K okK)
open Bit (bit withB memTo)
open Lc (at' RdK WordsOk laceB setB)
open Sg (isB bel)
def onlyF(P:Int→Bool)(l:List Int):Int:=l.foldl (fun x a=>if P a then withB x a.toNat else x) 0
theorem onlyF_snoc(P:Int→Bool)(l:List Int)(a:Int):onlyF P (l++[a])=if P a then withB (onlyF P l) a.toNat else onlyF P l:=by
 unfold onlyF;rw [List.foldl_append];rfl
theorem onlyF_bits(P:Int→Bool)(l:List Int)(hl:∀a∈l,0≤a∧a<60):(0≤onlyF P l∧onlyF P l<1152921504606846976)∧∀j:Nat,bit (onlyF P l) j=true↔((j:Int)∈l∧P (j:Int)=true):=by
 suffices H:∀(l:List Int) (x:Int),(∀a∈l,0≤a∧a<60)→(0≤x∧x<1152921504606846976) →
   (0≤l.foldl (fun x a=>if P a then withB x a.toNat else x) x∧l.foldl (fun x a=>if P a then withB x a.toNat else x) x<1152921504606846976) ∧
   ∀j:Nat,bit (l.foldl (fun x a=>if P a then withB x a.toNat else x) x) j=true↔(bit x j=true∨((j:Int)∈l∧P (j:Int)=true)) by
  have:=H l 0 hl ⟨Int.le_refl 0,by decide⟩;refine⟨this.1,fun j=>?_⟩;rw [show onlyF P l=l.foldl (fun x a=>if P a then withB x a.toNat else x) 0 from rfl,this.2 j,Lc.bit_zero];simp
 intro l;induction l with
 | nil=>intro x _ hx;exact⟨hx,fun j=>by simp⟩
 | cons a l ih=>
  intro x hl hx;have ha:=hl a (by simp);obtain⟨p,rfl⟩:=Int.eq_ofNat_of_zero_le ha.1;simp only [List.foldl_cons]
  cases hn:P (p:Int)
  ·rw [if_neg (by simp)];have:=ih x (fun a h=>hl a (by simp [h])) hx;refine⟨this.1,fun j=>?_⟩;rw [this.2 j];constructor
   ·rintro(h | ⟨h1,h2⟩)
    ·exact .inl h
    ·exact .inr ⟨by simp [h1],h2⟩
   ·rintro(h | ⟨h1,h2⟩)
    ·exact .inl h
    ·rcases List.mem_cons.1 h1 with e | e
     ·rw [e,hn] at h2;exact Bool.noConfusion h2
     ·exact .inr ⟨e,h2⟩
  ·rw [if_pos rfl,Int.toNat_natCast];have:=ih (withB x p) (fun a h=>hl a (by simp [h])) (Bit.withB_bd x hx.1 hx.2 p (by omega));refine⟨this.1,fun j=>?_⟩;rw [this.2 j,Bit.bit_withB x hx.1];constructor
   ·rintro(h | ⟨h1,h2⟩)
    ·rw [Bool.or_eq_true,decide_eq_true_eq] at h;rcases h with h | h
     ·subst h;exact .inr ⟨by simp,hn⟩
     ·exact .inl h
    ·exact .inr ⟨by simp [h1],h2⟩
   ·rintro(h | ⟨h1,h2⟩)
    ·exact .inl (by rw [h];simp)
    ·rcases List.mem_cons.1 h1 with e | e
     ·exact .inl (by rw [Bool.or_eq_true,decide_eq_true_eq];exact .inl (by omega))
     ·exact .inr ⟨e,h2⟩
theorem mem_memI{s:Int}{x:Int}(h:x∈Memb.memI s):0≤x∧x<60:=by
 unfold Memb.memI at h;split at h
 ·obtain⟨j,hj,rfl,_⟩:=(Bit.mem_memTo s 60 x).1 h;omega
 ·exact absurd h (by simp)
theorem mem_bit{s:Int}(q0:0≤s)(q1:s<1152921504606846976)(j:Nat):(j:Int)∈Memb.memI s↔bit s j=true:=by
 unfold Memb.memI;rw [(Base.okB_iff s).2 ⟨q0,q1⟩,if_pos rfl,Bit.mem_memTo];constructor
 ·rintro⟨i,_,e,h⟩;obtain rfl:j=i:=by omega
  exact h
 ·intro h;refine⟨j,?_,rfl,h⟩;apply Classical.byContradiction;intro hn;rw [Lc.bit_hi s 60 q0 (by omega) j (by omega)] at h;exact Bool.noConfusion h
theorem bit_all{n:Nat}(hn:n≤60)(k:Nat):bit (2 ^ n-1) k=decide (k<n):=by
 have hp:=Lc.pow60 n hn;have e:((2:Int) ^ n-1)=((2 ^ n-1:Nat):Int):=by rw [Int.ofNat_sub Nat.one_le_two_pow];simp
 rw [Bit.bit_testBit _ (by omega),e,Int.toNat_natCast,Nat.testBit_two_pow_sub_one]
theorem only(fid:Nat)(eg:∀args w,(callFunc fid args).run Tryz.prog w=.ok (.enter fid args) w)(c1 c2:Value)(P:Int→Bool)(s:Int)(w:World)
  (HC:∀(W:World) (a:Int),Below w.heap.size w W→0≤a→a<60→Calls Tryz.prog fid #[.int .i64 a,c1,c2] W fun e w'=>e=.returned (.bool (P a))∧Below W.heap.size W w') :
  Calls Tryz.prog 125 #[.int .i64 s,.func (.func fid) #[] #[c1,c2]] w fun e w'=>e=.returned (.int .i64 (onlyF P (Memb.memI s)))∧Below w.heap.size w w':=by
 have HCC:Hid (∀(W:World) (a:Int),Below w.heap.size w W→0≤a→a<60→Calls Tryz.prog fid #[.int .i64 a,c1,c2] W fun e w'=>e=.returned (.bool (P a))∧Below W.heap.size W w'):=HC;clear HC;go_enter Tryz.func125,Tryz.ntmps125
 go_wp2_with fail
 refine(Memb.picked s _).mono ?_;rintro e w2 ⟨ao,ca,rfl,hown,hb2⟩;have hrd:=Lst.own_rd hown;have HBO:Hid (∀c,ao=some ⟨c,0,none⟩→c<w2.heap.size):=fun c e=>by subst e;exact(World.ownsRow.lt hown c rfl).2
 have hle:(Memb.memI s).length≤60:=by unfold Memb.memI;split;exact Bit.memTo_le s 60;simp
 have HI:Hid (∀i∈Memb.memI s,0≤i∧i<60):=fun i h=>mem_memI h
 have HB2:Hid (Below w.heap.size w w2):=hb2;clear hown hb2;generalize hml:Memb.memI s=l at hrd hle HI ⊢;have HML:Hid (Memb.memI s=l):=hml;clear hml;go_wp2;go_loopw [5,12] (fun o i wr=>∃j:Nat,j≤l.length∧i=.int .i64 j∧o=.int .i64 (onlyF P (l.take j))∧Hid (Below w2.heap.size w2 wr)) (fun _ i _=>l.length-(intOf i).toNat)
 case atStart=>exact⟨0,by omega,rfl,rfl,Below.refl _ _⟩
 case round=>
  obtain⟨j,hj,rfl,rfl,HB⟩:=hrel;by_cases hlt:j<l.length
  ·rcases hrd with hrd | ⟨bb,rfl,hcell⟩
   ·rw [hrd] at hlt;simp at hlt
   have hbb:=HBO.out bb rfl;have cj:=(HB.out.cell (p:=⟨bb,j,none⟩) hbb).trans (hcell j hlt);have hx:=HI.out (l.getD j 0) (by simp [List.getD,List.getElem?_eq_getElem hlt]);have hF:=(onlyF_bits P (l.take j) (fun a h=>HI.out a (List.mem_of_mem_take h))).1;have HS:Hid (onlyF P (l.take (j+1))=if P (l.getD j 0) then withB (onlyF P (l.take j)) (l.getD j 0).toNat else onlyF P (l.take j)):=by
    show _=_;rw [Lc.take_snocI l j hlt,onlyF_snoc]
   generalize l.getD j 0=x at cj hx HS;generalize onlyF P (l.take j)=fo at hF HS ⊢;have hcall:=HCC.out wr x (HB2.out.trans (HB.out.mono HB2.out.size)) hx.1 hx.2;clear hcell;have HW:Hid (Base.withI fo x=withB fo x.toNat):=by
    show _=_;unfold Base.withI;rw [(Base.okB_iff _).2 hF,(Base.inB_iff _).2 hx];simp
   generalize hpx:P x=px at hcall;have HPX:Hid (P x=px):=hpx;clear hpx;go_wp2_with fail
   refine hcall.mono ?_;rintro e w3 ⟨rfl,hb3⟩;have HB3:Hid (Below w2.heap.size w2 w3):=HB.out.trans (hb3.mono HB.out.size);clear hcall hb3 HB cj
   cases px
   ·have HD:Hid (onlyF P (l.take (j+1))=fo):=by show _=_;rw [HS.out,HPX.out];rfl
    clear HPX HS;go_wp2;go_roundw
    case rel=>exact⟨j+1,by omega,by go_num,by rw [HD.out],HB3⟩
    case measure=>simp [intOf];omega
   ·have HD:Hid (onlyF P (l.take (j+1))=withB fo x.toNat):=by show _=_;rw [HS.out,HPX.out];rfl
    clear HPX HS;go_wp2_with (go_at_call 148;refine(Base.withM _ _ _).mono ?_;rintro e w' ⟨rfl,rfl⟩;rw [HW.out])
    go_roundw
    case rel=>exact⟨j+1,by omega,by go_num,by rw [HD.out],HB3⟩
    case measure=>simp [intOf];omega
  ·obtain rfl:j=l.length:=by omega
   have e:l.take l.length=l:=List.take_length;rw [e];have HBE:Hid (Below w.heap.size w wr):=HB2.out.trans (HB.out.mono HB2.out.size);clear HB HB2;go_wp2;go_ret;exact⟨by rw [HML.out];rfl,HBE.out⟩
end Ak
end
section
namespace Nd
open Kn (K okK)
open Bit (bit withB memTo)
open Lc (at' RdK WordsOk laceB setB amongI HandsOk)
open Sg (isB bel belows seesB metI)
open Db (dblN dblS doubledB)
theorem infoSet:(Tryz.prog.info? 62).map (fun i=>(i.zero,i.size,i.bytes))=some (some (.int .i64 0),1,8):=by kernel_rfl
theorem eqHand(a0 a1 a2 a3 b0 b1 b2 b3:Int)(W:World):(binOp .eql 203 (.agg #[.int .i64 a0,.int .i64 a1,.int .i64 a2,.int .i64 a3]) (.agg #[.int .i64 b0,.int .i64 b1,.int .i64 b2,.int .i64 b3])).run Tryz.prog W=.ok (.bool (a0 == b0&&(a1 == b1&&(a2 == b2&&a3 == b3)))) W:=by
 obtain⟨i0,hi,hz0,hz1,hz2⟩:=info_parts infoSet;rw [run_eql_struct,run_equalIn_array W 9999 _ _ (by kernel_rfl:Tryz.prog.underlying 203=some (.array 4 62)) hi];rw [show List.range 4=[0,1,2,3] from rfl,show Tryz.prog.cellsOf 62=1 from by kernel_rfl];have hu:Tryz.prog.underlying 62=some (.int .i64):=by kernel_rfl
 have hp:∀(xs:Array Value) (i:Nat) (v:Value),xs[i]? = some v→(part 62 xs i).run Tryz.prog W=.ok v W:=fun xs i v h=>by
  simp [part,isAgg,run_underlying hu,h]
 have he:∀x y:Int,(Op.equalIn 9999 62 (.int .i64 x) (.int .i64 y)).run Tryz.prog W=.ok (x == y) W:=fun x y=>run_equalIn_int W 9998 62 .i64 .i64 x y hu
 simp only [Op.eqItems,Sem.run_bind,Nat.mul_one];rw [hp #[.int .i64 a0,.int .i64 a1,.int .i64 a2,.int .i64 a3] 0 (.int .i64 a0) rfl,Result.andThen_ok,hp #[.int .i64 b0,.int .i64 b1,.int .i64 b2,.int .i64 b3] 0 (.int .i64 b0) rfl,Result.andThen_ok,he,Result.andThen_ok];by_cases h0:a0=b0
 ·rw [show(a0 == b0)=true from by simpa using h0];simp only [Bool.not_true,Bool.false_eq_true,if_false,Sem.run_bind,Bool.true_and];rw [hp #[.int .i64 a0,.int .i64 a1,.int .i64 a2,.int .i64 a3] 1 (.int .i64 a1) rfl,Result.andThen_ok,hp #[.int .i64 b0,.int .i64 b1,.int .i64 b2,.int .i64 b3] 1 (.int .i64 b1) rfl,Result.andThen_ok,he,Result.andThen_ok];by_cases h1:a1=b1
  ·rw [show(a1 == b1)=true from by simpa using h1];simp only [Bool.not_true,Bool.false_eq_true,if_false,Sem.run_bind,Bool.true_and];rw [hp #[.int .i64 a0,.int .i64 a1,.int .i64 a2,.int .i64 a3] 2 (.int .i64 a2) rfl,Result.andThen_ok,hp #[.int .i64 b0,.int .i64 b1,.int .i64 b2,.int .i64 b3] 2 (.int .i64 b2) rfl,Result.andThen_ok,he,Result.andThen_ok];by_cases h2:a2=b2
   ·rw [show(a2 == b2)=true from by simpa using h2];simp only [Bool.not_true,Bool.false_eq_true,if_false,Sem.run_bind,Bool.true_and];rw [hp #[.int .i64 a0,.int .i64 a1,.int .i64 a2,.int .i64 a3] 3 (.int .i64 a3) rfl,Result.andThen_ok,hp #[.int .i64 b0,.int .i64 b1,.int .i64 b2,.int .i64 b3] 3 (.int .i64 b3) rfl,Result.andThen_ok,he,Result.andThen_ok]
    cases (a3 == b3) <;> simp
   ·rw [show(a2 == b2)=false from by simpa using h2];simp
  ·rw [show(a1 == b1)=false from by simpa using h1];simp
 ·rw [show(a0 == b0)=false from by simpa using h0];simp
theorem hands_same{L:List K}(hl:laceB L=true)(x d:Int)(h0:0≤x)(h1:x<1152921504606846976)(hx:∀i,bit x i=true→i<L.length)(h2:0≤d)(h3:d<1152921504606846976) :
  (hf L x 0 L.length == hf L (bits .andNot .i64 x d) 0 L.length&&(hf L x 1 L.length == hf L (bits .andNot .i64 x d) 1 L.length&&(hf L x 2 L.length == hf L (bits .andNot .i64 x d) 2 L.length&&hf L x 3 L.length == hf L (bits .andNot .i64 x d) 3 L.length)))=(bits .and .i64 x d == 0):=by
 have h60:=((Lc.lace_iff L).1 hl).1;have hz:=Lc.and_zero_iff x d h0 (by omega) h2 (by omega);rw [Bool.eq_iff_iff];simp only [Bool.and_eq_true,beq_iff_eq];constructor
 ·rintro⟨e0,e1,e2,e3⟩;apply Classical.byContradiction;intro hne;obtain⟨i,hi,hd⟩:=hz.1 hne;have hil:=hx i hi;have hh:=Lc.lace_hands hl _ (Lc.at_mem L i hil);have key:∀h:Int,(at' L i).hand=h→hf L x h L.length=hf L (bits .andNot .i64 x d) h L.length→False:=fun h hm e=>by
   have q1:bit (hf L x h L.length) i=true:=by
    unfold hf;rw [Lc.bit_among _ _ _ _ h60,decide_eq_true hil,hi];simp [hm]
   rw [e] at q1;unfold hf at q1;rw [Lc.bit_among _ _ _ _ h60,Sg.bit_andNot x d h0 h1 h2 h3,hd] at q1;simp at q1
  have hc:(at' L i).hand=0∨(at' L i).hand=1∨(at' L i).hand=2∨(at' L i).hand=3:=by omega
  rcases hc with h | h | h | h
  ·exact key 0 h e0
  ·exact key 1 h e1
  ·exact key 2 h e2
  ·exact key 3 h e3
 ·intro he;have hb:=Sg.andNot_bd' x d h0 h1;have:bits .andNot .i64 x d=x:=Lc.eq_of_bits _ _ hb.1 h0 fun i=>by
   rw [Sg.bit_andNot x d h0 h1 h2 h3]
   cases hxi:bit x i
   ·rfl
   ·cases hdi:bit d i
    ·rfl
    ·exact absurd he (hz.2 ⟨i,hxi,hdi⟩)
  rw [this];exact⟨rfl,rfl,rfl,rfl⟩
def agI(L:List K)(b:Int):Int:=if isB L b then dblS L b.toNat L.length else 0
theorem ag_bd{L:List K}(h60:L.length≤60)(b:Int):0≤agI L b∧agI L b<1152921504606846976:=by
 unfold agI;split
 ·exact Db.dblS_bd L _ _ h60
 ·exact⟨Int.le_refl 0,by decide⟩
theorem nods_sees{L:List K}{a b:Int}(hs:seesB L a b=true):nodsB L a b=(bits .and .i64 (metI L a) (agI L b) == 0):=by
 unfold Sg.seesB at hs;simp only [Bool.and_eq_true] at hs;obtain⟨ha,hb,hbit⟩:=hs;obtain⟨a0,a1,_⟩:=Sg.isB_parts ha;unfold nodsB nodN agI Sg.metI;rw [ha,hb,hbit,if_pos ⟨a0,a1⟩];rfl
theorem nods_blind{L:List K}{a b:Int}(hs:seesB L a b=false):nodsB L a b=false:=by
 unfold Sg.seesB at hs;unfold nodsB nodN
 cases ha:isB L a
 ·rfl
 ·cases hb:isB L b
  ·rfl
  ·rw [ha,hb] at hs;simp only [Bool.true_and] at hs;rw [hs];rfl
theorem met_bd{L:List K}(h60:L.length≤60)(a:Int):0≤metI L a∧metI L a<1152921504606846976:=by
 unfold Sg.metI;split
 ·exact Sg.bel_bd L _ (by omega)
 ·exact⟨Int.le_refl 0,by decide⟩
theorem met_in{L:List K}(hl:laceB L=true)(a:Int)(i:Nat)(h:bit (metI L a) i=true):i<L.length:=by
 unfold Sg.metI at h;split at h
 ·rename_i hc;apply Classical.byContradiction;intro hn;rw [Db.bel_hi hl (by omega:a.toNat<L.length) (by omega)] at h;exact Bool.noConfusion h
 ·rw [Lc.bit_zero] at h;exact Bool.noConfusion h
def nodF(L:List K)(b:Int)(l:List Int):Int:=l.foldl (fun x a=>if nodsB L a b then withB x a.toNat else x) 0
theorem nodF_snoc(L:List K)(b:Int)(l:List Int)(a:Int):nodF L b (l++[a])=if nodsB L a b then withB (nodF L b l) a.toNat else nodF L b l:=by
 unfold nodF;rw [List.foldl_append];rfl
theorem nodF_bits(L:List K)(b:Int)(l:List Int)(hl:∀a∈l,0≤a∧a<60):(0≤nodF L b l∧nodF L b l<1152921504606846976)∧∀j:Nat,bit (nodF L b l) j=true↔((j:Int)∈l∧nodsB L (j:Int) b=true):=by
 suffices H:∀(l:List Int) (x:Int),(∀a∈l,0≤a∧a<60)→(0≤x∧x<1152921504606846976) →
   (0≤l.foldl (fun x a=>if nodsB L a b then withB x a.toNat else x) x∧l.foldl (fun x a=>if nodsB L a b then withB x a.toNat else x) x<1152921504606846976) ∧
   ∀j:Nat,bit (l.foldl (fun x a=>if nodsB L a b then withB x a.toNat else x) x) j=true↔(bit x j=true∨((j:Int)∈l∧nodsB L (j:Int) b=true)) by
  have:=H l 0 hl ⟨Int.le_refl 0,by decide⟩;refine⟨this.1,fun j=>?_⟩;rw [show nodF L b l=l.foldl (fun x a=>if nodsB L a b then withB x a.toNat else x) 0 from rfl,this.2 j,Lc.bit_zero];simp
 intro l;induction l with
 | nil=>intro x _ hx;exact⟨hx,fun j=>by simp⟩
 | cons a l ih=>
  intro x hl hx;have ha:=hl a (by simp);obtain⟨p,rfl⟩:=Int.eq_ofNat_of_zero_le ha.1;simp only [List.foldl_cons]
  cases hn:nodsB L (p:Int) b
  ·rw [if_neg (by simp)];have:=ih x (fun a h=>hl a (by simp [h])) hx;refine⟨this.1,fun j=>?_⟩;rw [this.2 j];constructor
   ·rintro(h | ⟨h1,h2⟩)
    ·exact .inl h
    ·exact .inr ⟨by simp [h1],h2⟩
   ·rintro(h | ⟨h1,h2⟩)
    ·exact .inl h
    ·rcases List.mem_cons.1 h1 with e | e
     ·rw [e,hn] at h2;exact Bool.noConfusion h2
     ·exact .inr ⟨e,h2⟩
  ·rw [if_pos rfl,Int.toNat_natCast];have:=ih (withB x p) (fun a h=>hl a (by simp [h])) (Bit.withB_bd x hx.1 hx.2 p (by omega));refine⟨this.1,fun j=>?_⟩;rw [this.2 j,Bit.bit_withB x hx.1];constructor
   ·rintro(h | ⟨h1,h2⟩)
    ·rw [Bool.or_eq_true,decide_eq_true_eq] at h;rcases h with h | h
     ·subst h;exact .inr ⟨by simp,hn⟩
     ·exact .inl h
    ·exact .inr ⟨by simp [h1],h2⟩
   ·rintro(h | ⟨h1,h2⟩)
    ·exact .inl (by rw [h];simp)
    ·rcases List.mem_cons.1 h1 with e | e
     ·exact .inl (by rw [Bool.or_eq_true,decide_eq_true_eq];exact .inl (by omega))
     ·exact .inr ⟨e,h2⟩
theorem mem_memI{s:Int}{x:Int}(h:x∈Memb.memI s):0≤x∧x<60:=by
 unfold Memb.memI at h;split at h
 ·obtain⟨j,hj,rfl,_⟩:=(Bit.mem_memTo s 60 x).1 h;omega
 ·exact absurd h (by simp)
theorem nodF_one(L:List K)(h60:L.length≤60)(a b:Int):(Base.okB (nodF L b (Memb.memI (Sg.oneI a)))&&(Base.inB a&&bit (nodF L b (Memb.memI (Sg.oneI a))) a.toNat))=nodsB L a b:=by
 have hF:=nodF_bits L b (Memb.memI (Sg.oneI a)) (fun a h=>mem_memI h);rw [(Base.okB_iff _).2 hF.1,Bool.true_and];by_cases h:0≤a∧a<60
 ·rw [(Base.inB_iff a).2 h,Bool.true_and];obtain⟨p,rfl⟩:=Int.eq_ofNat_of_zero_le h.1;rw [Int.toNat_natCast,Bool.eq_iff_iff,hF.2 p];refine⟨fun q=>q.2,fun q=>⟨?_,q⟩⟩;unfold Memb.memI;rw [(Base.okB_iff _).2 (Sg.oneI_bd _),if_pos rfl];exact(Bit.mem_memTo _ _ _).2 ⟨p,by omega,rfl,(Sg.bit_oneI _ p).2 ⟨rfl,by omega⟩⟩
 ·have:Base.inB a=false:=by
   cases hb:Base.inB a
   ·rfl
   ·exact absurd ((Base.inB_iff a).1 hb) h
  rw [this,Bool.false_and];symm
  rw [Bool.eq_false_iff];intro hn;unfold nodsB at hn;rw [Bool.and_eq_true] at hn;obtain⟨a0,a1,_⟩:=Sg.isB_parts hn.1;exact h ⟨a0,by omega⟩
theorem not_dbl{L:List K}{a:Int}(ha:isB L a=false)(b:Int):doubledB L a b=false:=by unfold Db.doubledB;rw [ha];rfl
theorem doublesAny(g off cap:Nat)(L:List K)(a:Int)(w:World)(hlc:laceB L=true)(hg:g<w.heap.size)(hr:RdK w (some ⟨g,off,none⟩) L) :
  Calls Tryz.prog 172 #[.slice (some ⟨g,off,none⟩) L.length cap,.int .i64 a] w fun e w'=>e=.returned (.int .i64 (agI L a))∧Below w.heap.size w w':=by
 cases ha:isB L a
 ·have HT:Hid (agI L a=0):=by show _=_;unfold agI;rw [ha];rfl
  have h60:=((Lc.lace_iff L).1 hlc).1;rw [HT.out];go_enter Tryz.func172,Tryz.ntmps172
  go_wp2;go_loopw [5,9] (fun o i wr=>∃j:Nat,j≤L.length∧i=.int .i64 j∧o=.int .i64 0∧Hid (Below w.heap.size w wr)) (fun _ i _=>L.length-(intOf i).toNat)
  case atStart=>exact⟨0,by omega,rfl,rfl,Below.refl _ _⟩
  case round=>
   obtain⟨j,hj,rfl,rfl,HB⟩:=hrel;by_cases hlt:j<L.length
   ·have hg1:g<wr.heap.size:=Nat.lt_of_lt_of_le hg HB.out.size;have hcall:=Db.doubled g off cap L a (j:Int) wr hlc hg1 (hr.below HB.out);rw [not_dbl ha] at hcall;go_wp2_with fail
    refine hcall.mono ?_;rintro e w1 ⟨rfl,hb1⟩;have HB1:Hid (Below w.heap.size w w1):=HB.out.trans (hb1.mono HB.out.size);clear hcall hb1 HB hg1;go_wp2;go_roundw
    case rel=>exact⟨j+1,by omega,by go_num,rfl,HB1⟩
    case measure=>simp [intOf];omega
   ·obtain rfl:j=L.length:=by omega
    go_wp2;go_ret;exact⟨rfl,HB.out⟩
 ·have HT:Hid (agI L a=dblS L a.toNat L.length):=by show _=_;unfold agI;rw [ha];rfl
  rw [HT.out];exact Db.doubles g off cap L a w hlc ha hg hr
theorem nodders(g off cap:Nat)(L:List K)(s b:Int)(w:World)(hlc:laceB L=true)(hg:g<w.heap.size)(hr:RdK w (some ⟨g,off,none⟩) L) :
  Calls Tryz.prog 151 #[.slice (some ⟨g,off,none⟩) L.length cap,.int .i64 s,.int .i64 b] w fun e w'=>e=.returned (.int .i64 (nodF L b (Memb.memI s)))∧Below w.heap.size w w':=by
 have HLC:Hid (laceB L=true):=hlc;have h60:=((Lc.lace_iff L).1 hlc).1;have hag:=ag_bd h60 b;clear hlc;go_enter Tryz.func151,Tryz.ntmps151
 go_wp2_with fail
 refine(doublesAny g off cap L b _ HLC.out hg hr).mono ?_;rintro e w1 ⟨rfl,hb1⟩;generalize hag':agI L b=ag at hag ⊢;have HAG:Hid (agI L b=ag):=hag';clear hag';go_wp2_with fail
 refine(Memb.picked s _).mono ?_;rintro e w2 ⟨ao,ca,rfl,hown,hb2⟩;have hrd:=Lst.own_rd hown;have HBO:Hid (∀c,ao=some ⟨c,0,none⟩→c<w2.heap.size):=fun c e=>by subst e;exact(World.ownsRow.lt hown c rfl).2
 have hle:(Memb.memI s).length≤60:=by unfold Memb.memI;split;exact Bit.memTo_le s 60;simp
 have HI:Hid (∀i∈Memb.memI s,0≤i∧i<60):=fun i h=>mem_memI h
 have HB2:Hid (Below w.heap.size w w2):=hb1.trans (hb2.mono hb1.size);clear hown hb1 hb2;generalize hml:Memb.memI s=l at hrd hle HI ⊢;have HML:Hid (Memb.memI s=l):=hml;clear hml;have hg2:g<w2.heap.size:=Nat.lt_of_lt_of_le hg HB2.out.size;have HR2:Hid (RdK w2 (some ⟨g,off,none⟩) L):=hr.below HB2.out;have HH:Hid (HandsOk L):=Lc.lace_hands HLC.out;go_wp2;go_loopw [8,19] (fun o i wr=>∃j:Nat,j≤l.length∧i=.int .i64 j∧o=.int .i64 (nodF L b (l.take j))∧Hid (Below w2.heap.size w2 wr)) (fun _ i _=>l.length-(intOf i).toNat)
 case atStart=>exact⟨0,by omega,rfl,rfl,Below.refl _ _⟩
 case round=>
  obtain⟨j,hj,rfl,rfl,HB⟩:=hrel;by_cases hlt:j<l.length
  ·rcases hrd with hrd | ⟨bb,rfl,hcell⟩
   ·rw [hrd] at hlt;simp at hlt
   have hbb:=HBO.out bb rfl;have cj:=(HB.out.cell (p:=⟨bb,j,none⟩) hbb).trans (hcell j hlt);have hx:=HI.out (l.getD j 0) (by simp [List.getD,List.getElem?_eq_getElem hlt]);have hF:=(nodF_bits L b (l.take j) (fun a h=>HI.out a (List.mem_of_mem_take h))).1;have HS:Hid (nodF L b (l.take (j+1))=if nodsB L (l.getD j 0) b then withB (nodF L b (l.take j)) (l.getD j 0).toNat else nodF L b (l.take j)):=by
    show _=_;rw [Lc.take_snocI l j hlt,nodF_snoc]
   generalize l.getD j 0=x at cj hx HS;generalize nodF L b (l.take j)=fo at hF HS ⊢;have HT:Hid ((Base.okB (metI L x)&&(Base.inB b&&bit (metI L x) b.toNat))=seesB L x b):=Sg.met_sees HLC.out x b;have hmb:=met_bd h60 x;have hok:Base.okB (metI L x)=true:=(Base.okB_iff _).2 hmb;have hok2:Base.okB (bits .andNot .i64 (metI L x) ag)=true:=(Base.okB_iff _).2 (Sg.andNot_bd' _ _ hmb.1 hmb.2);have HSM:Hid (_):=hands_same HLC.out (metI L x) ag hmb.1 hmb.2 (met_in HLC.out x) hag.1 hag.2;have hgr:g<wr.heap.size:=Nat.lt_of_lt_of_le hg2 HB.out.size;have HHF:Hid (∀(W:World) (y:Int),Below w2.heap.size w2 W→Base.okB y=true→Calls Tryz.prog 173 #[.slice (some ⟨g,off,none⟩) L.length cap,.int .i64 y] W fun e w'=>e=.returned (.agg #[.int .i64 (hf L y 0 L.length),.int .i64 (hf L y 1 L.length),.int .i64 (hf L y 2 L.length),.int .i64 (hf L y 3 L.length)])∧Below w2.heap.size w2 w'):=fun W y hW hy=>by
    refine(handfulsOf g off cap L y W h60 hy HH.out (HR2.out.below hW)).mono ?_;rintro e w' ⟨h1,h2⟩;exact⟨h1,hW.trans (h2.mono hW.size)⟩
   have hcall:=Sg.below g off cap L x wr HLC.out hgr (HR2.out.below HB.out);clear hcell hgr hmb;go_wp2_with fail
   refine hcall.mono ?_;rintro e w3 ⟨rfl,hb3⟩;have HB3:Hid (Below w2.heap.size w2 w3):=HB.out.trans (hb3.mono HB.out.size);clear hcall hb3 HB cj
   cases hs:seesB L x b
   ·have HD:Hid (nodF L b (l.take (j+1))=fo):=by show _=_;rw [HS.out,nods_blind hs];rfl
    have HT2:Hid ((Base.okB (metI L x)&&(Base.inB b&&bit (metI L x) b.toNat))=false):=HT.out.trans hs;clear hs HT HS HSM hok hok2;generalize metI L x=sn at HT2 ⊢;go_wp2_with (go_at_call 65;refine(Base.has _ _ _).mono ?_;rintro e w' ⟨rfl,rfl⟩;rw [HT2.out])
    go_roundw
    case rel=>exact⟨j+1,by omega,by go_num,by rw [HD.out],HB3⟩
    case measure=>simp [intOf];omega
   ·have HN:Hid (nodsB L x b=(bits .and .i64 (metI L x) ag == 0)):=by show _=_;rw [nods_sees hs,HAG.out]
    have HT2:Hid ((Base.okB (metI L x)&&(Base.inB b&&bit (metI L x) b.toNat))=true):=HT.out.trans hs;clear hs HT;generalize metI L x=sn at HT2 HN HSM hok hok2 ⊢;generalize hy:bits .andNot .i64 sn ag=yy at HSM hok2;have HY:Hid (bits .andNot .i64 sn ag=yy):=hy;clear hy;have hE:=eqHand (hf L sn 0 L.length) (hf L sn 1 L.length) (hf L sn 2 L.length) (hf L sn 3 L.length) (hf L yy 0 L.length) (hf L yy 1 L.length) (hf L yy 2 L.length) (hf L yy 3 L.length);rw [HSM.out] at hE;have HC1:Hid (∀W:World,Below w2.heap.size w2 W→Calls Tryz.prog 173 #[.slice (some ⟨g,off,none⟩) L.length cap,.int .i64 sn] W fun e w'=>e=.returned (.agg #[.int .i64 (hf L sn 0 L.length),.int .i64 (hf L sn 1 L.length),.int .i64 (hf L sn 2 L.length),.int .i64 (hf L sn 3 L.length)])∧Below w2.heap.size w2 w'):=fun W hW=>HHF.out W sn hW hok
    have HC2:Hid (∀W:World,Below w2.heap.size w2 W→Calls Tryz.prog 173 #[.slice (some ⟨g,off,none⟩) L.length cap,.int .i64 yy] W fun e w'=>e=.returned (.agg #[.int .i64 (hf L yy 0 L.length),.int .i64 (hf L yy 1 L.length),.int .i64 (hf L yy 2 L.length),.int .i64 (hf L yy 3 L.length)])∧Below w2.heap.size w2 w'):=fun W hW=>HHF.out W yy hW hok2
    clear HHF hok hok2 HSM;generalize hf L sn 0 L.length=a0 at hE HC1;generalize hf L sn 1 L.length=a1 at hE HC1;generalize hf L sn 2 L.length=a2 at hE HC1;generalize hf L sn 3 L.length=a3 at hE HC1;generalize hf L yy 0 L.length=b0 at hE HC2;generalize hf L yy 1 L.length=b1 at hE HC2;generalize hf L yy 2 L.length=b2 at hE HC2;generalize hf L yy 3 L.length=b3 at hE HC2;have HW:Hid (Base.withI fo x=withB fo x.toNat):=by
     show _=_;unfold Base.withI;rw [(Base.okB_iff _).2 hF,(Base.inB_iff _).2 hx];simp
    go_wp2_with (first | (go_at_call 65;refine(Base.has _ _ _).mono ?_;rintro e w' ⟨rfl,rfl⟩;rw [HT2.out]) | fail)
    refine(HC1.out _ HB3.out).mono ?_;rintro e w4 ⟨rfl,hb4⟩;have HB4:Hid (Below w2.heap.size w2 w4):=hb4;clear hb4 HB3 HC1 HT2;go_wp2_with fail
    rw [HY.out];refine(HC2.out _ HB4.out).mono ?_;rintro e w5 ⟨rfl,hb5⟩;have HB5:Hid (Below w2.heap.size w2 w5):=hb5;clear hb5 HB4 HC2
    cases hz:(bits .and .i64 sn ag == 0)
    ·have HD:Hid (nodF L b (l.take (j+1))=fo):=by show _=_;rw [HS.out,HN.out,hz];rfl
     rw [hz] at hE;clear hz HN HS;go_wp2;go_roundw
     case rel=>exact⟨j+1,by omega,by go_num,by rw [HD.out],HB5⟩
     case measure=>simp [intOf];omega
    ·have HD:Hid (nodF L b (l.take (j+1))=withB fo x.toNat):=by show _=_;rw [HS.out,HN.out,hz];rfl
     rw [hz] at hE;clear hz HN HS;go_wp2_with (go_at_call 148;refine(Base.withM _ _ _).mono ?_;rintro e w' ⟨rfl,rfl⟩;rw [HW.out])
     go_roundw
     case rel=>exact⟨j+1,by omega,by go_num,by rw [HD.out],HB5⟩
     case measure=>simp [intOf];omega
  ·obtain rfl:j=l.length:=by omega
   have e:l.take l.length=l:=List.take_length;rw [e];have HBE:Hid (Below w.heap.size w wr):=HB2.out.trans (HB.out.mono HB2.out.size);clear HB HB2;go_wp2;go_ret;exact⟨by rw [HML.out];rfl,HBE.out⟩
theorem nods(g off cap:Nat)(L:List K)(a b:Int)(w:World)(hlc:laceB L=true)(hg:g<w.heap.size)(hr:RdK w (some ⟨g,off,none⟩) L) :
  Calls Tryz.prog 127 #[.slice (some ⟨g,off,none⟩) L.length cap,.int .i64 a,.int .i64 b] w fun e w'=>e=.returned (.bool (nodsB L a b))∧Below w.heap.size w w':=by
 have h60:=((Lc.lace_iff L).1 hlc).1;have HT:Hid ((Base.okB (nodF L b (Memb.memI (Sg.oneI a)))&&(Base.inB a&&bit (nodF L b (Memb.memI (Sg.oneI a))) a.toNat))=nodsB L a b):=nodF_one L h60 a b;go_enter Tryz.func127,Tryz.ntmps127
 go_wp2_with (first | (go_at_call 148;refine(Base.withM _ _ _).mono ?_;rintro e w' ⟨rfl,rfl⟩;rw [Sg.with_one]) | fail)
 refine(nodders g off cap L (Sg.oneI a) b _ hlc hg hr).mono ?_;rintro e w1 ⟨rfl,hb1⟩;generalize nodF L b (Memb.memI (Sg.oneI a))=y at HT ⊢;go_wp2_with (go_at_call 65;refine(Base.has _ _ _).mono ?_;rintro e w' ⟨rfl,rfl⟩;rw [HT.out])
 go_ret;exact⟨rfl,hb1⟩
end Nd
end
end Go.Proofs.YtbkeldfbllhlbaaGreat
