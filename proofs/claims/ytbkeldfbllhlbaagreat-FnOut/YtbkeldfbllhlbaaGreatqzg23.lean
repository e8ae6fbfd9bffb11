/-
 A range over an iterator that writes memory of its own: whatever lay there when the loop began is the caller's alone; all from there on is the iterator's and the loop's.
-/
import Derived.Test.YtbkeldfbllhlbaaGreatqzg22
import Derived.Test.YtbkeldfbllhlbaaGreatqzg19
set_option linter.unusedVariables false
set_option maxRecDepth 100000
set_option maxHeartbeats 6400000
namespace Go.Proofs.YtbkeldfbllhlbaaGreat
open Go.RowKit
section
namespace So
open Kn (K okK)
open Bit (bit withB memTo)
open Lc (at' RdK laceB)
open Memb (memK memI)
theorem row_some{B:Nat}{w:World}{v:Value}{l:List Int}(h:w.ownsRow B 2 1 v l.length (l.map (Value.int .i64)))(hn:¬ v=.slice none 0 0):∃g cap,v=.slice (some ⟨g,0,none⟩) l.length cap∧Memb.Own B w (some ⟨g,0,none⟩) cap l:=by
 have h':=h;obtain⟨_,⟨hv,_⟩ | ⟨g,cap,cur,hv,_⟩⟩:=h'
 ·exact absurd hv hn
 ·refine⟨g,cap,hv,?_⟩;unfold Memb.Own;rw [← hv];exact h
theorem pickedN(s:Int)(w:World):Calls Tryz.prog 141 #[.func (.func 65) #[.int .i64 s] #[]] w fun e w'=>
  ∃g cap,e=.returned (.slice (some ⟨g,0,none⟩) (memI s).length cap)∧Memb.Own w.heap.size w' (some ⟨g,0,none⟩) cap (memI s)∧Below w.heap.size w w':=by
 obtain⟨i0,hi,hz0,hz1,hz2⟩:=info_parts Memb.info2;go_enter Tryz.func141,Tryz.ntmps141
 go_wp2;go_loopw [3,6] (fun v i wr=>∃k:Nat,k≤60∧i=.int .i64 k∧wr.ownsRow w.heap.size 2 1 v (memK s k).length ((memK s k).map (Value.int .i64))∧Below w.heap.size w wr∧w.heap.size≤wr.heap.size∧Hid (¬ v=.slice none 0 0))
  (fun _ i _=>60-(intOf i).toNat)
 case atStart=>exact⟨0,by omega,rfl,by have:=Memb.own_empty w;simpa [memK,Bit.memTo] using this,(Below.refl _ _).alloc (Nat.le_refl _) _,by simp,show ¬ _=_ by simp⟩
 case round=>
  obtain⟨k,hk,rfl,hown,hnx,hB,HNN⟩:=hrel;have hle:=Memb.memK_le s k;by_cases hlt:k<60
  ·cases hb:(Base.okB s&&(Base.inB (k:Int)&&Bit.bit s k))
   ·have HM:Hid (memK s (k+1)=memK s k):=Memb.memK_miss s k hlt hb;have HB:Hid ((Base.okB s&&(Base.inB (k:Int)&&Bit.bit s k))=false):=hb;clear hb;go_wp2_with (go_at_call 65;refine(Base.has _ _ _).mono ?_;rintro e w' ⟨rfl,rfl⟩;rw [Int.toNat_natCast,HB.out])
    go_roundw
    case rel=>exact⟨k+1,by omega,by go_num,by rw [HM.out];exact hown,hnx,hB,HNN⟩
    case measure=>simp [intOf];omega
   ·have HM:Hid (memK s (k+1)=memK s k++[(k:Int)]):=Memb.memK_hit s k hb;have HB:Hid ((Base.okB s&&(Base.inB (k:Int)&&Bit.bit s k))=true):=hb;clear hb;go_wp2_with (first | (go_at_call 65;refine(Base.has _ _ _).mono ?_;rintro e w' ⟨rfl,rfl⟩;rw [Int.toNat_natCast,HB.out]) | (at_builtin;refine wpList_append_own _ rfl _ _ 25 rfl w.heap.size 2 i0 (.int .i64 0) 1 8 Tryz.underlying25 hi hz0 hz1 hz2 rfl (by decide) _ _ _ rfl (hown.alloc _) ⟨wr.heap.size,0,none⟩ 1 1 [.int .i64 (k:Int)] rfl rfl ?c1 ?c2 ?c3 ?c4 ?c5 ?_))
    case c1=>
     intro j u hj;match j,hj with
     | 0,hj=>simp at hj;subst hj;simp [Addr.add]
    case c2=>intro u hu;simp at hu;subst hu;rfl
    case c3=>unfold maxLen;omega
    case c4=>omega
    case c5=>simp;omega
    intro v' w1 hown' hgrow hnil;have R:=Memb.rel_put HM.out hB hown hnx hown' hgrow;have HN2:Hid (¬ v'=.slice none 0 0):=hnil;clear hown' hgrow hown hnil HNN;go_wp2;go_roundw
    case rel=>exact⟨k+1,by omega,by go_num,R.1,R.2.1,R.2.2,HN2⟩
    case measure=>simp [intOf];omega
  ·obtain rfl:k=60:=by omega
   have hown2:wr.ownsRow w.heap.size 2 1 u3 (memI s).length ((memI s).map (Value.int .i64)):=hown;obtain⟨g,cap,hv,ho⟩:=row_some hown2 HNN.out;have HV:Hid (u3=.slice (some ⟨g,0,none⟩) (memI s).length cap):=hv;clear hv hown hown2 HNN;go_wp2;go_ret;exact⟨g,cap,by rw [← HV.out];rfl,ho,hnx⟩
theorem eqlNil(a:Addr)(n c:Nat)(w:World):(binOp .eql 173 (.slice (some a) n c) (.slice none 0 0)).run Tryz.prog w=.ok (.bool false) w:=by kernel_rfl
theorem clone(g cap:Nat)(l:List Int)(w:World)(hl:l.length≤1048576)(hlt:g<w.heap.size)(hrd:Lst.Rd w (some ⟨g,0,none⟩) l):Calls Tryz.prog 167 #[.slice (some ⟨g,0,none⟩) l.length cap] w fun e w'=>
  ∃g' cap',e=.returned (.slice (some ⟨g',0,none⟩) l.length cap')∧Memb.Own w.heap.size w' (some ⟨g',0,none⟩) cap' l∧Below w.heap.size w w':=by
 obtain⟨i0,hi,hz0,hz1,hz2⟩:=info_parts Memb.info2;have hrd0:Lst.Rd (w.alloc (.cells #[] 2)) (some ⟨g,0,none⟩) l:=by
  rcases hrd with h | ⟨b,hb,hc⟩
  ·exact .inl h
  ·injection hb with hb;injection hb with hb;subst hb;exact .inr ⟨g,rfl,fun j hj=>(World.cell?_alloc_lt w _ ⟨g,j,none⟩ hlt).trans (hc j hj)⟩
 have heq:=eqlNil ⟨g,0,none⟩ l.length cap;go_enter Tryz.func167,Tryz.ntmps167
 go_wp2_with (at_builtin;refine wpList_append_own _ rfl _ _ 173 rfl w.heap.size 2 i0 (.int .i64 0) 1 8 Tryz.underlying173 hi hz0 hz1 hz2 rfl (by decide) _ 0 [] rfl (Memb.own_empty w) ⟨g,0,none⟩ l.length cap (l.map (Value.int .i64)) rfl (by simp) (Rm.rd_nums hrd0 rfl) (Rm.nums_one l) ?c3 ?c4 ?c5 ?_)
 case c3=>unfold maxLen;omega
 case c4=>omega
 case c5=>simp
 intro v' w5 hown' hgrow hnil;have HR:Hid (w5.ownsRow w.heap.size 2 1 v' l.length (l.map (Value.int .i64))∧Below w.heap.size w w5):=
  ⟨by simpa using hown',((Below.refl w.heap.size w).alloc (Nat.le_refl _) _).grown hgrow (by simp) (fun i hi=>by simp [Value.ownBlock] at hi;omega)⟩
 obtain⟨g',ca,hv,ho⟩:=row_some HR.out.1 (by first | exact hnil | (intro e;have:=(hnil.1 e).1;simp at this));clear hown' hgrow hi hz0 hz1 hz2 hnil;subst hv;go_wp2;go_ret;exact⟨g',ca,rfl,ho,HR.out.2⟩
theorem sorted(g cap:Nat)(lv:Value)(cf:Int→Int→Int)(S:Int→Prop)(l:List Int)(w:World)(hl:l.length≤1048576)(hlt:g<w.heap.size)(hrd:Lst.Rd w (some ⟨g,0,none⟩) l)(ho:Ord cf S)(hg:Good S l)
  (hc:∀(W:World) (x y:Int),Below w.heap.size w W→S x→S y→Calls Tryz.prog 150 #[lv,.int .i64 x,.int .i64 y] W fun e w'=>e=.returned (.int .i64 (cf x y))∧Below W.heap.size W w') :
  Calls Tryz.prog 149 #[.slice (some ⟨g,0,none⟩) l.length cap,.func (.func 150) #[lv] #[]] w fun e w'=>
   ∃(g' cap':Nat) (m:List Int),e=.returned (.slice (some ⟨g',0,none⟩) m.length cap')∧Memb.Own w.heap.size w' (some ⟨g',0,none⟩) cap' m∧m.Perm l∧Up cf 0 m.length m∧Below w.heap.size w w':=by
 have HK:Hid (∀(w1:World) (g' cap':Nat),Memb.Own w.heap.size w1 (some ⟨g',0,none⟩) cap' l→Below w.heap.size w w1→Calls Tryz.prog 168 #[.slice (some ⟨g',0,none⟩) l.length cap',.func (.func 150) #[lv] #[]] w1 fun e w'=>e=.returned (.tuple #[])∧∃m:List Int,m.length=l.length∧Memb.Own w.heap.size w' (some ⟨g',0,none⟩) cap' m∧m.Perm l∧Up cf 0 m.length m∧Below w.heap.size w w'):=fun w1 g' cap' hO hB=>by
  have hgg:=World.ownsRow.lt hO g' rfl;refine(sortFunc w.heap.size g' cap' lv cf S l w1 ⟨fun W x y hW hx hy=>hc W x y (hB.grown hW hB.size (fun k hk=>by injection hk with hk;omega)) hx hy,ho⟩ hO hg hl).mono ?_;rintro e w2 ⟨he,m,hm,hu⟩;exact⟨he,m,hm.len,hm.row.own,hm.mix.perm,by rw [hm.len];exact hu,hB.grown hm.row.gr hB.size (fun k hk=>by injection hk with hk;omega)⟩
 have hcl:=clone g cap l w hl hlt hrd;clear hc hrd ho hg;go_enter Tryz.func149,Tryz.ntmps149
 go_wp2_with fail
 refine hcl.mono ?_;rintro e w1 ⟨g',cap',rfl,hO,hB⟩;have hcall:=HK.out w1 g' cap' hO hB;clear hcl HK hO hB;go_wp2_with fail
 refine hcall.mono ?_;rintro e w2 ⟨rfl,m,hlen,hO,hp,hu,hB⟩;have HM:Hid (m.length=l.length∧Memb.Own w.heap.size w2 (some ⟨g',0,none⟩) cap' m∧m.Perm l∧Up cf 0 m.length m∧Below w.heap.size w w2):=⟨hlen,hO,hp,hu,hB⟩
 clear hlen hO hp hu hB hcall;go_wp2;go_ret;exact⟨g',cap',m,by rw [HM.out.1];rfl,HM.out.2⟩
theorem ordered(g off cap:Nat)(L:List K)(s:Int)(w:World)(hl:laceB L=true)(hg:g<w.heap.size)(hr:RdK w (some ⟨g,off,none⟩) L)(hin:∀x∈memI s,0≤x∧x<(L.length:Int)) :
   Calls Tryz.prog 124 #[.slice (some ⟨g,off,none⟩) L.length cap,.int .i64 s] w (Sg.NumsPost (Tl.ordL L (memI s)) w):=by
 have h60:=((Lc.lace_iff L).1 hl).1;have hle:(memI s).length≤60:=by unfold Memb.memI;split;exact Bit.memTo_le s 60;simp
 have HR : Hid (memI s = memI s ∧ (memI s).Pairwise (· < ·)):=⟨rfl,memI_rises s⟩
 have HS:Hid (∀(w1:World) (g' cap':Nat),Memb.Own w.heap.size w1 (some ⟨g',0,none⟩) cap' (memI s)→Below w.heap.size w w1→Calls Tryz.prog 149 #[.slice (some ⟨g',0,none⟩) (memI s).length cap',.func (.func 150) #[.slice (some ⟨g,off,none⟩) L.length cap] #[]] w1 fun e w'=>∃(g2 cap2:Nat),e=.returned (.slice (some ⟨g2,0,none⟩) (Tl.ordL L (memI s)).length cap2)∧Memb.Own w.heap.size w' (some ⟨g2,0,none⟩) cap2 (Tl.ordL L (memI s))∧Below w.heap.size w w'):=fun w1 g' cap' hO hB=>by
   have hgg:=World.ownsRow.lt hO g' rfl;refine(sorted g' cap' (.slice (some ⟨g,off,none⟩) L.length cap) (cfL L) (fun x=>0≤x∧x<(L.length:Int)) (memI s) w1 (by omega) hgg.2 (Lst.own_rd hO) (ord_cf L _) ⟨hin,(memI_rises s).imp (fun h=>by omega)⟩ (fun W x y hW hx hy=>?_)).mono ?_
   · obtain⟨p,rfl⟩:=Int.eq_ofNat_of_zero_le hx.1;obtain⟨q,rfl⟩:=Int.eq_ofNat_of_zero_le hy.1;exact compare g off cap L p q W h60 (by omega) (by omega) (hr.below (hB.trans (hW.mono hB.size)))
   · rintro e w2 ⟨g2,cap2,m,he,hO2,hp,hu,hB2⟩;obtain rfl:=is_ord L (memI_rises s) hp hu;refine⟨g2,cap2,he,?_,hB.trans (hB2.mono hB.size)⟩;obtain⟨h1,⟨h2,h3⟩ | ⟨g3,c3,cur,e3,hB3,hrest⟩⟩:=hO2
     · exact⟨h1,.inl ⟨h2,h3⟩⟩
     · exact⟨h1,.inr ⟨g3,c3,cur,e3,Nat.le_trans hB.size hB3,hrest⟩⟩
 have hpk:=pickedN s w;clear hr hin hl;generalize Tl.ordL L (memI s)=r at HS;clear HR;generalize memI s=m at HS hpk hle;go_enter Tryz.func124,Tryz.ntmps124
 go_wp2_with fail
 refine hpk.mono ?_;rintro e w1 ⟨g',cap',rfl,hO,hB⟩;have hcall:=HS.out w1 g' cap' hO hB;clear hO hB hpk HS;go_wp2_with fail
 refine hcall.mono ?_;rintro e w2 ⟨g2,cap2,rfl,hO,hB⟩;have HM:Hid (Memb.Own w.heap.size w2 (some ⟨g2,0,none⟩) cap2 r∧Below w.heap.size w w2):=⟨hO,hB⟩
 clear hO hB hcall;go_wp2;go_ret;exact⟨some ⟨g2,0,none⟩,cap2,rfl,HM.out.1,HM.out.2⟩
end So
namespace Tl
open Kn (K okK)
open Bit (bit withB memTo)
open Lc (at' RdK WordsOk laceB setB)
open Sg (isB bel belows)
def inR(L:List K)(x:Int):Bool:=decide (0≤x)&&decide (x<(L.length:Int))
theorem inR_iff(L:List K)(x:Int):inR L x=true↔0≤x∧x<(L.length:Int):=by
 unfold inR;rw [Bool.and_eq_true,decide_eq_true_eq,decide_eq_true_eq]
end Tl
namespace So
open Kn (K okK)
open Bit (bit withB memTo)
open Lc (at' RdK WordsOk laceB setB)
open Sg (isB bel metI)
open Nd (nodsB)
open Ak (onlyF)
open Memb (memI)
theorem fresh1(bl ba g off cap:Nat)(L:List K)(a b:Int)(w:World)(hlc:laceB L=true)(hg:g<w.heap.size)(hr:RdK w (some ⟨g,off,none⟩) L)
  (hbl:bl<w.heap.size) (hba:ba<w.heap.size) (cl:w.cell? ⟨bl,0,none⟩=some (.slice (some ⟨g,off,none⟩) L.length cap)) (ca:w.cell? ⟨ba,0,none⟩=some (.int .i64 a)) :
  Calls Tryz.prog 126 #[.int .i64 b,.pointer (some ⟨bl,0,none⟩),.pointer (some ⟨ba,0,none⟩)] w fun e w'=>e=.returned (.bool (nodsB L a b))∧Below w.heap.size w w':=by
 have hcall:=Nd.nods g off cap L a b w hlc hg hr;clear hlc;go_enter Tryz.func126,Tryz.ntmps126
 go_wp2_with fail
 refine hcall.mono ?_;rintro e w2 ⟨rfl,hb2⟩;clear hcall;go_wp2;go_ret;exact⟨rfl,hb2⟩
theorem box2(w:World)(v:Value)(a:Int)(t u:TypeId):Below w.heap.size w ((w.alloc (.cells #[v] t)).alloc (.cells #[.int .i64 a] u))∧((w.alloc (.cells #[v] t)).alloc (.cells #[.int .i64 a] u)).cell? ⟨w.heap.size,0,none⟩=some v∧((w.alloc (.cells #[v] t)).alloc (.cells #[.int .i64 a] u)).cell? ⟨w.heap.size+1,0,none⟩=some (.int .i64 a)∧w.heap.size+1<((w.alloc (.cells #[v] t)).alloc (.cells #[.int .i64 a] u)).heap.size:=by
 have c1:=Sg.boxNew (w.alloc (.cells #[v] t)) (.int .i64 a) u;simp only [World.size_alloc] at c1;exact⟨((Below.refl _ _).alloc (Nat.le_refl _) _).alloc (by simp) _,Sg.boxCell _ (Sg.boxNew w v t).1,c1.1,by simp⟩
theorem only_fresh{L:List K}(hl:laceB L=true){k:Nat}(hk:k<L.length){e:Int}(he0:-1≤e)(he:e<(L.length:Int)):onlyF (fun b=>nodsB L (k:Int) b) (memI (bits .andNot .i64 (metI L (k:Int)) (metI L e)))=Tl.frS L k e L.length:=by
 have h60:=((Lc.lace_iff L).1 hl).1;have hmk:metI L (k:Int)=bel L k:=by unfold Sg.metI;rw [if_pos ⟨by omega,by omega⟩,Int.toNat_natCast]
 have hme:(0≤metI L e∧metI L e<1152921504606846976)∧∀j,bit (metI L e) j=(decide (0≤e)&&bit (bel L e.toNat) j):=by
  unfold Sg.metI;by_cases h0:0≤e
  ·rw [if_pos ⟨h0,he⟩];exact⟨Sg.bel_bd L e.toNat (by omega),fun j=>by rw [decide_eq_true h0,Bool.true_and]⟩
  ·rw [if_neg (by omega)];exact⟨⟨by omega,by omega⟩,fun j=>by rw [Lc.bit_zero,decide_eq_false h0,Bool.false_and]⟩
 have h1:=Sg.bel_bd L k (by omega);have hbd:=Sg.andNot_bd' (bel L k) (metI L e) h1.1 h1.2;rw [hmk];have ho:=Ak.onlyF_bits (fun b=>nodsB L (k:Int) b) (memI (bits .andNot .i64 (bel L k) (metI L e))) (fun a h=>Ak.mem_memI h);refine Lc.eq_of_bits _ _ ho.1.1 (Tl.frS_bd L k e _ h60).1 fun j=>?_
 rw [Bool.eq_iff_iff,ho.2 j,Ak.mem_bit hbd.1 hbd.2,Sg.bit_andNot _ _ h1.1 h1.2 hme.1.1 hme.1.2,hme.2 j,Tl.bit_frS L k e _ h60];unfold Tl.fresN Nd.nodsB;have hik:isB L (k:Int)=true:=by unfold Sg.isB;rw [hl];simp;omega
 rw [hik,Int.toNat_natCast,Int.toNat_natCast];simp only [Bool.and_eq_true,Bool.true_and,decide_eq_true_eq];constructor
 ·rintro⟨⟨a1,a2⟩,a3,a4⟩;have hj:j<L.length:=by have:=Ag.sees_le hl hk a1;omega
  exact⟨hj,a1,a2,a4⟩
 ·rintro⟨a0,a1,a2,a3⟩;refine⟨⟨a1,a2⟩,?_,a3⟩;unfold Sg.isB;rw [hl];simp;omega
theorem memI_of{s:Int}(h0:0≤s)(h1:s<1152921504606846976):memI s=memTo s 60:=by
 unfold Memb.memI;rw [(Base.okB_iff s).2 ⟨h0,h1⟩,if_pos rfl]
theorem memI_in{L:List K}(h60:L.length≤60){s:Int}(hin:∀i,bit s i=true→i<L.length):∀x∈memI s,0≤x∧x<(L.length:Int):=fun x hx=>by
 unfold Memb.memI at hx;split at hx
 ·obtain⟨j,_,rfl,hb⟩:=(Bit.mem_memTo s 60 x).1 hx;have:=hin j hb;omega
 ·simp at hx
theorem fresh(g off cap:Nat)(L:List K)(k:Nat)(e:Int)(w:World)(hl:laceB L=true)(hk:k<L.length)(he0:-1≤e)(he:e<(L.length:Int))(hg:g<w.heap.size)(hr:RdK w (some ⟨g,off,none⟩) L) :
   Calls Tryz.prog 98 #[.slice (some ⟨g,off,none⟩) L.length cap,.int .i64 (k:Int),.int .i64 e] w (Sg.NumsPost (Tl.freshL L (k:Int) e) w):=by
 have h60:=((Lc.lace_iff L).1 hl).1;have HLC:Hid (laceB L=true):=hl;have HFR:Hid (onlyF (fun b=>nodsB L (k:Int) b) (memI (bits .andNot .i64 (metI L (k:Int)) (metI L e)))=Tl.frS L k e L.length):=only_fresh hl hk he0 he;have HFL:Hid (Tl.freshL L (k:Int) e=Tl.ordL L (memI (Tl.frS L k e L.length))):=by
   show _=_;unfold Tl.freshL;have:=Tl.frS_bd L k e L.length h60;rw [Int.toNat_natCast,memI_of this.1 this.2]
 have HIN:Hid (∀x∈memI (Tl.frS L k e L.length),0≤x∧x<(L.length:Int)):=memI_in h60 (Tl.frS_in h60 k e);have P0:Hid (_):=box2 w (.slice (some ⟨g,off,none⟩) L.length cap) (k:Int) 55 2;clear hl;go_enter Tryz.func98,Tryz.ntmps98
 go_wp2_with fail
 generalize (w.alloc (.cells #[.slice (some ⟨g,off,none⟩) L.length cap] 55)).alloc (.cells #[.int .i64 (k:Int)] 2)=w0 at P0 ⊢;obtain⟨B0,C0,D0,S0⟩:=P0;generalize hb:w.heap.size=bl at *;have hbl:bl<w0.heap.size:=by omega
 have hg0:g<w0.heap.size:=by omega
 have HR0:Hid (RdK w0 (some ⟨g,off,none⟩) L):=hr.below (hb ▸ B0);have HBE:Hid (∀(W:World) (x:Int),Below w0.heap.size w0 W→Calls Tryz.prog 123 #[.slice (some ⟨g,off,none⟩) L.length cap,.int .i64 x] W fun e w'=>e=.returned (.int .i64 (metI L x))∧Below W.heap.size W w'):=fun W x hW=>Sg.below g off cap L x W HLC.out (Nat.lt_of_lt_of_le hg0 hW.size) (HR0.out.below hW)
 clear hr;obtain⟨X,_,F,HF,HG⟩:=Fam.fam w0;have hc0:∀z,(F z).cell? ⟨bl,0,none⟩=some (.slice (some ⟨g,off,none⟩) L.length cap):=fun z=>((HF.out z).cell (p:=⟨bl,0,none⟩) hbl).trans C0
 have hd0:∀z,(F z).cell? ⟨bl+1,0,none⟩=some (.int .i64 (k:Int)):=fun z=>((HF.out z).cell (p:=⟨bl+1,0,none⟩) S0).trans D0
 refine Fam.region (F:=F) (by kernel_rfl) (by kernel_rfl) (HG.out _ (Below.refl _ w0).drew) ?_
 repeat (go_big_quiet_step (first
   | (go_at_call 123;exact(HBE.out _ _ (HF.out _)).mono fun _ _ h=>⟨h.1,HG.out _ ((HF.out _).trans (h.2.mono (HF.out _).size))⟩)))
 refine wpQuiet_nil ?_;intro w2 hw2;obtain⟨z,rfl⟩:=hw2;have BV:Below w0.heap.size w0 (F z):=HF.out z;have cV:=hc0 z;have dV:=hd0 z;clear hc0 hd0 HG HF HBE C0 D0;generalize F z=V at BV cV dV ⊢;have hblV:bl<V.heap.size:=Nat.lt_of_lt_of_le hbl BV.size;have hbaV:bl+1<V.heap.size:=Nat.lt_of_lt_of_le S0 BV.size;have hgV:g<V.heap.size:=Nat.lt_of_lt_of_le hg0 BV.size;have HRV:Hid (RdK V (some ⟨g,off,none⟩) L):=HR0.out.below BV;have HBV:Hid (Below bl w V):=B0.trans (BV.mono (by omega));have HON:Hid (∀W:World,Below V.heap.size V W→Calls Tryz.prog 125 #[.int .i64 (bits .andNot .i64 (metI L (k:Int)) (metI L e)),.func (.func 126) #[] #[.pointer (some ⟨bl,0,none⟩),.pointer (some ⟨bl+1,0,none⟩)]] W fun en w'=>en=.returned (.int .i64 (Tl.frS L k e L.length))∧Below W.heap.size W w'):=fun W hW=>by
   have := Ak.only 126 (enters_of Tryz.func126 (by kernel_rfl) rfl) (.pointer (some ⟨bl, 0, none⟩)) (.pointer (some ⟨bl + 1, 0, none⟩)) (fun b => nodsB L (k : Int) b) (bits .andNot .i64 (metI L (k : Int)) (metI L e)) W (fun U b hU _ _=>
     have hVU:Below V.heap.size V U:=hW.trans (hU.mono hW.size);fresh1 bl (bl+1) g off cap L (k:Int) b U HLC.out (Nat.lt_of_lt_of_le hgV hVU.size) (HRV.out.below hVU) (Nat.lt_of_lt_of_le hblV hVU.size) (Nat.lt_of_lt_of_le hbaV hVU.size) ((hVU.cell (p:=⟨bl,0,none⟩) hblV).trans cV) ((hVU.cell (p:=⟨bl+1,0,none⟩) hbaV).trans dV))
   rw [HFR.out] at this;exact this
 have HOR:Hid (∀W:World,Below V.heap.size V W→Calls Tryz.prog 124 #[.slice (some ⟨g,off,none⟩) L.length cap,.int .i64 (Tl.frS L k e L.length)] W (Sg.NumsPost (Tl.freshL L (k:Int) e) W)):=fun W hW=>by
   have:=ordered g off cap L (Tl.frS L k e L.length) W HLC.out (Nat.lt_of_lt_of_le hgV hW.size) (HRV.out.below hW) HIN.out;rw [← HFL.out] at this;exact this
 have HSV:Hid (∀W:World,Below V.heap.size V W→W.cell? ⟨bl,0,none⟩=some (.slice (some ⟨g,off,none⟩) L.length cap)):=fun W hW=>(hW.cell (p:=⟨bl,0,none⟩) hblV).trans cV
 have HEND:Hid (∀(W U:World) (ao:Option Addr) (ca:Nat),Below V.heap.size V W→Memb.Own W.heap.size U ao ca (Tl.freshL L (k:Int) e)→Below W.heap.size W U→Memb.Own bl U ao ca (Tl.freshL L (k:Int) e)∧Below bl w U):=fun W U ao ca hW hO hB=>by
   have hsz:bl≤W.heap.size:=Nat.le_trans (Nat.le_of_lt hblV) hW.size;refine⟨?_,HBV.out.trans ((hW.mono (Nat.le_of_lt hblV)).trans (hB.mono hsz))⟩;obtain⟨h1,⟨h2,h3⟩ | ⟨g3,c3,cur,e3,hB3,hrest⟩⟩:=hO
   · exact⟨h1,.inl ⟨h2,h3⟩⟩
   · exact⟨h1,.inr ⟨g3,c3,cur,e3,Nat.le_trans hsz hB3,hrest⟩⟩
 clear HFR HFL HIN HR0 HRV HBV B0 BV dV S0;generalize hrr:Tl.freshL L (k:Int) e=r at HOR HEND;have HRR:Hid (Tl.freshL L (k:Int) e=r):=hrr;clear hrr;generalize Tl.frS L k e L.length=fr at HON HOR;generalize bits .andNot .i64 (metI L (k:Int)) (metI L e)=lf at HON ⊢;clear hk he0 he h60 hg hbl hg0 hblV hbaV hgV HLC;go_wp2_with fail
 go_region_with (first
     | (go_at_call 125
        refine(HON.out _ (Below.refl _ _).drew).mono ?_;rintro e V1 ⟨rfl,b1⟩;have B1:Below V.heap.size V V1:=(Below.refl _ V).drew.trans (b1.mono (Nat.le_refl _));have c1:=HSV.out _ B1)
     | (go_at_call 124
        refine(HOR.out _ B1).mono ?_;rintro e V2 ⟨ao,ca,rfl,hO,b2⟩;have B2:Hid (_):=HEND.out _ _ _ _ B1 hO b2;clear hO b2))
 all_goals (go_wp2)
 all_goals go_ret
 all_goals rw [HRR.out]
 all_goals refine⟨ao,ca,rfl,?_,?_⟩
 all_goals rw [hb]
 all_goals first | exact B2.out.1 | exact B2.out.2
end So
namespace Tp
open Kn (K okK)
open Lc (at' RdK WordsOk laceB)
open Ch (chainL)
open Tl (taleF taleL freshL TlSt)
theorem tale(g off cap:Nat)(L:List K)(C:List Int)(k:Nat)(w:World)(hlc:laceB L=true)(hc:Rm.coinsB C=true)(hg:g<w.heap.size)(hr:RdK w (some ⟨g,off,none⟩) L)(hk:k<L.length) :
  Calls Tryz.prog 67 #[.slice (some ⟨g,off,none⟩) L.length cap,.agg #[.int .i64 (Ch.leadI C 0),.int .i64 (Ch.leadI C 1),.int .i64 (Ch.leadI C 2),.int .i64 (Ch.leadI C 3),.int .i64 (Ch.leadI C 4),.int .i64 (Ch.leadI C 5),.int .i64 (Ch.leadI C 6)],.int .i64 (k:Int)] w (Sg.NumsPost (taleL L C (k:Int)) w):=by
 obtain⟨i0,hi,hz0,hz1,hz2⟩:=info_parts Memb.info2;have h60:=((Lc.lace_iff L).1 hlc).1;have HCH:Hid (∀W:World,Below w.heap.size w W→Calls Tryz.prog 97 #[.slice (some ⟨g,off,none⟩) L.length cap,.agg #[.int .i64 (Ch.leadI C 0),.int .i64 (Ch.leadI C 1),.int .i64 (Ch.leadI C 2),.int .i64 (Ch.leadI C 3),.int .i64 (Ch.leadI C 4),.int .i64 (Ch.leadI C 5),.int .i64 (Ch.leadI C 6)],.int .i64 (k:Int)] W fun e w'=>∃ao ca,e=.returned (.slice ao (chainL L C (k:Int)).length ca)∧Memb.Own W.heap.size w' ao ca (chainL L C (k:Int))∧Below W.heap.size W w'):=fun W hW=>Cn.chain g off cap L C k W hlc hc (Nat.lt_of_lt_of_le hg hW.size) (hr.below hW) hk
 have HFR:Hid (∀(W:World) (q:Nat) (e:Int),q<L.length→-1≤e→e<(L.length:Int)→Below w.heap.size w W→Calls Tryz.prog 98 #[.slice (some ⟨g,off,none⟩) L.length cap,.int .i64 (q:Int),.int .i64 e] W (Sg.NumsPost (freshL L (q:Int) e) W)):=fun W q e hq h0 h1 hW=>So.fresh g off cap L q e W hlc hq h0 h1 (Nat.lt_of_lt_of_le hg hW.size) (hr.below hW)
 have hcl:=Ch.chain_len L C (k:Int);have HCM:Hid (∀x∈chainL L C (k:Int),0≤x∧x<(L.length:Int)):=fun x hx=>by
  have:=Tl.chF_mem L C _ _ _ hx;omega
 have hcl2:(chainL L C (k:Int)).length≤60:=by omega
 have HTL:Hid (taleL L C (k:Int)=taleF L (-1) (chainL L C (k:Int))):=rfl;obtain⟨V0,hV0⟩:∃V0,V0=w.alloc (.cells #[.int .i64 (Ch.leadI C 0),.int .i64 (Ch.leadI C 1),.int .i64 (Ch.leadI C 2),.int .i64 (Ch.leadI C 3),.int .i64 (Ch.leadI C 4),.int .i64 (Ch.leadI C 5),.int .i64 (Ch.leadI C 6)] 58):=⟨_,rfl⟩
 have HV0:Hid (V0=w.alloc (.cells #[.int .i64 (Ch.leadI C 0),.int .i64 (Ch.leadI C 1),.int .i64 (Ch.leadI C 2),.int .i64 (Ch.leadI C 3),.int .i64 (Ch.leadI C 4),.int .i64 (Ch.leadI C 5),.int .i64 (Ch.leadI C 6)] 58)):=hV0;have HB0:Hid (Below w.heap.size w (V0.alloc (.cells #[] 2))):=by rw [hV0];exact((Below.refl _ _).alloc (Nat.le_refl _) _).alloc (by simp) _
 have hs0:V0.heap.size=w.heap.size+1:=by rw [hV0];simp
 have HR7:Hid (Db.RowI V0 w.heap.size 7 (fun i=>Ch.leadI C (i:Int))):=by rw [hV0];exact Ch.rowI_seven w 58 (fun i=>Ch.leadI C (i:Int))
 have HE0:Hid ((V0.alloc (.cells #[] 2)).ownsRow w.heap.size 2 1 (.slice (some ⟨V0.heap.size,0,none⟩) 0 0) 0 []):=by
  obtain⟨a1,a2⟩:=Memb.own_empty V0;refine⟨a1,?_⟩;rcases a2 with a2 | ⟨g2,c2,cur,e1,e2,rest⟩
  ·exact .inl a2
  ·exact .inr ⟨g2,c2,cur,e1,Nat.le_trans (by omega) e2,rest⟩
 have f:∀i:Nat,i<7→(V0.alloc (.cells #[] 2)).cell? ⟨w.heap.size,i,none⟩=some (.int .i64 (Ch.leadI C (i:Int))):=fun i hi=>((Below.refl V0.heap.size V0).alloc (Nat.le_refl _) _ |>.cell (p:=⟨w.heap.size,i,none⟩) (by show w.heap.size<V0.heap.size;omega)).trans (HR7.out.rd i hi)
 have p0:=f 0 (by omega);have p1:=f 1 (by omega);have p2:=f 2 (by omega);have p3:=f 3 (by omega);have p4:=f 4 (by omega);have p5:=f 5 (by omega);have p6:=f 6 (by omega);have hsz1:V0.heap.size<(V0.alloc (.cells #[] 2)).heap.size:=by simp
 clear hlc hr hcl hV0 HR7 f;go_enter Tryz.func67,Tryz.ntmps67
 go_wp2_with fail
 rw [← HV0.out];clear HV0;generalize V0.alloc (.cells #[] 2)=w2 at HB0 HE0 hsz1 p0 p1 p2 p3 p4 p5 p6 ⊢;rw [hs0] at HE0 hsz1;have hch:=HCH.out w2 HB0.out;clear HCH hs0;go_wp2_with fail
 refine hch.mono ?_;rintro en w3 ⟨co,ccp,rfl,hoc,hb3⟩;have HS3:Hid (TlSt w w3 w3 (w.heap.size+1) (w.heap.size+1) 0 []):=⟨Fm.row_below HE0.out hb3,HB0.out.trans (hb3.mono HB0.out.size),World.grownBy.refl _ _,.inl rfl⟩
 have HCO:Hid (Ch.chainL L C (k:Int)=[]∨∃cb,co=some ⟨cb,0,none⟩∧cb≠(w.heap.size+1)∧cb<w3.heap.size∧∀j,j<(Ch.chainL L C (k:Int)).length→w3.cell? ⟨cb,j,none⟩=some (.int .i64 ((Ch.chainL L C (k:Int)).getD j 0))):=by
  rcases Lst.own_rd hoc with e | ⟨cb,e,hc⟩
  ·exact .inl e
  ·subst e;have:=World.ownsRow.lt hoc cb rfl;exact .inr ⟨cb,rfl,by omega,this.2,hc⟩
 clear hoc hb3 HB0 HE0 hch p0 p1 p2 p3 p4 p5 p6 hsz1;generalize Ch.chainL L C (k:Int)=ch at HCM HTL hcl2 HCO ⊢;go_wp2;go_loopw [7,8,17] (fun v ev iv wr=>∃(i og cp:Nat),i≤ch.length∧iv=.int .i64 (i:Int)∧ev=.int .i64 ((ch.take i).getLastD (-1))∧v=.slice (some ⟨og,0,none⟩) (taleF L (-1) (ch.take i)).length cp∧(taleF L (-1) (ch.take i)).length≤60*i∧Hid (TlSt w w3 wr (w.heap.size+1) og cp (taleF L (-1) (ch.take i)))) (fun _ _ iv _=>ch.length-(intOf iv).toNat)
 case atStart=>exact⟨0,(w.heap.size+1),0,by omega,rfl,rfl,rfl,by simp [taleF],HS3⟩
 case round=>
  obtain⟨i,og,cp,hil,rfl,hev,hv,hln,HS⟩:=hrel;clear HS3;by_cases hlt:i<ch.length
  ·subst hv hev;have hii:(i:Int)<(ch.length:Int):=by omega
   rcases HCO.out with e | ⟨cb,rfl,hcb0,hcb3,hcc⟩
   ·rw [e] at hlt;simp at hlt
   have HST:Hid (taleF L (-1) (ch.take (i+1))=taleF L (-1) (ch.take i)++freshL L (ch.getD i 0) ((ch.take i).getLastD (-1))):=by
    show _=_;rw [Lc.take_snocI ch i hlt,Tl.taleF_snoc]
   have HLST:Hid ((ch.take (i+1)).getLastD (-1)=ch.getD i 0):=by
    show _=_;rw [Lc.take_snocI ch i hlt];simp
   have hmem:=HCM.out (ch.getD i 0) (by simp [List.getD,List.getElem?_eq_getElem hlt]);have hlast:-1≤(ch.take i).getLastD (-1)∧(ch.take i).getLastD (-1)<(L.length:Int):=by
    rcases hh:(ch.take i) with _ | ⟨y,ys⟩
    ·simp;omega
    ·have hm:(y :: ys).getLastD (-1)∈ch.take i:=by rw [hh,List.getLastD_eq_getLast?,List.getLast?_eq_some_getLast (by simp)];simp
     have:=HCM.out _ (List.mem_of_mem_take hm);omega
   have cj:=World.grownBy.cell HS.out.gr (hcc i hlt) (by intro q;injection q with q;exact hcb0 q);have hfl60:=Tl.fresh_len L (ch.getD i 0) ((ch.take i).getLastD (-1));generalize taleF L (-1) (ch.take i)=tl at HST HS hln ⊢;generalize (ch.take i).getLastD (-1)=el at HST hlast hfl60 ⊢;generalize ch.getD i 0=cx at HST HLST hmem cj hfl60;obtain⟨q,rfl⟩:=Int.eq_ofNat_of_zero_le hmem.1;have hfr:=HFR.out wr q el (by omega) hlast.1 hlast.2 HS.out.bel;clear hcc HFR;generalize freshL L (q:Int) el=fl at HST hfr hfl60;go_wp2_with fail
   refine hfr.mono ?_;rintro en w6 ⟨fo,fc,rfl,hof,hb6⟩;have HS6:Hid (TlSt w w3 w6 (w.heap.size+1) og cp tl):=HS.out.below hb6;have cj6:=(hb6.cell (p:=⟨cb,i,none⟩) (Nat.lt_of_lt_of_le hcb3 HS.out.gr.size)).trans cj;have hcb6:cb<w6.heap.size:=Nat.lt_of_lt_of_le (Nat.lt_of_lt_of_le hcb3 HS.out.gr.size) hb6.size;have hogw:=World.ownsRow.lt HS.out.own og rfl;have hcog:cb≠og:=by
    rcases HS.out.at' with q1 | q1
    ·rw [q1];exact hcb0
    ·omega
   have HLN2:Hid ((taleF L (-1) (ch.take (i+1))).length≤60*(i+1)):=by show _≤_;rw [HST.out];simp;omega
   have hwsz6:w.heap.size≤w6.heap.size:=HS6.out.bel.size;clear hfr hb6 cj HS
   cases fo with
   | none=>
    obtain⟨_,⟨hq,hq2⟩ | ⟨fb,fcap,cur,hq,_⟩⟩:=hof
    ·injection hq with _ _ hq3;subst hq3;have hfn:fl=[]:=List.eq_nil_of_length_eq_zero hq2;subst hfn;have HST2:Hid (taleF L (-1) (ch.take (i+1))=tl):=by show _=_;rw [HST.out,List.append_nil]
     have HSN:Hid (TlSt w w3 w6 (w.heap.size+1) og cp (taleF L (-1) (ch.take (i+1)))):=by show TlSt _ _ _ _ _ _ _;rw [HST2.out];exact HS6.out
     clear HST hq2;go_wp2_with (first | (at_builtin;refine wpList_append_own_none rfl _ _ 25 rfl w.heap.size 2 i0 1 Tryz.underlying25 hi (.slice (some ⟨og,0,none⟩) tl.length cp) tl.length (tl.map (Value.int .i64)) (by first | rfl | simp [Act.eval]) HS6.out.own (by first | rfl | simp [Act.eval]) ?_) | fail)
     go_wp2;go_roundw
     case rel=>exact⟨i+1,og,cp,by omega,by go_num,by rw [HLST.out],by rw [HST2.out],HLN2.out,HSN⟩
     case measure=>simp [intOf];omega
    ·injection hq with hq _ _;exact absurd hq (by simp)
   | some fa=>
    obtain⟨fb,hfa,hfcell,hfb6⟩:∃fb,fa=⟨fb,0,none⟩∧(∀j,j<fl.length→w6.cell? ⟨fb,j,none⟩=some (.int .i64 (fl.getD j 0)))∧fb<w6.heap.size:=by
     have hrdf:=Lst.own_rd hof;have hltf:=World.ownsRow.lt hof fa.block rfl;obtain⟨_,⟨hq,_⟩ | ⟨fb,fcap,cur,hq,_⟩⟩:=hof
     ·injection hq with hq _ _;exact absurd hq (by simp)
     ·injection hq with hq _ _;injection hq with hq;subst hq;refine⟨fb,rfl,fun j hj=>?_,hltf.2⟩;rcases hrdf with e | ⟨g5,e,hc5⟩
      ·rw [e] at hj;simp at hj
      ·injection e with e;injection e with e;subst e;exact hc5 j hj
    subst hfa;have HNEW:Hid (∀(j:Nat) u,(fl.map (Value.int .i64))[j]? = some u→w6.cell? ((⟨fb,0,none⟩:Addr).add j)=some u):=fun j u hu=>by
     rw [List.getElem?_map] at hu;rcases hj:fl[j]? with _ | y
     ·rw [hj] at hu;simp at hu
     ·rw [hj] at hu;simp at hu;subst hu;have hjl:j<fl.length:=(List.getElem?_eq_some_iff.1 hj).1;have:=hfcell j hjl;rw [show fl.getD j 0=y by simp [List.getD,hj]] at this;rw [show(⟨fb,0,none⟩:Addr).add j=⟨fb,j,none⟩ by simp [Addr.add];intro e;exact e.symm];exact this
    have HONE:Hid (∀u∈fl.map (Value.int .i64),u.oneCell'=true):=fun u hu=>by
     obtain⟨y,_,rfl⟩:=List.mem_map.1 hu;rfl
    clear hof hfcell;go_wp2_with (first | (at_builtin;refine wpList_append_own_at _ rfl _ _ 25 rfl w.heap.size 2 i0 (.int .i64 0) 1 8 Tryz.underlying25 hi hz0 hz1 hz2 rfl (by decide) (.slice (some ⟨og,0,none⟩) tl.length cp) tl.length (tl.map (Value.int .i64)) (by first | rfl | simp [Act.eval]) HS6.out.own ⟨fb,0,none⟩ fl.length fc (fl.map (Value.int .i64)) (by first | rfl | simp [Act.eval]) (by simp) HNEW.out HONE.out ?c3 ?c4 ?c5 ?_) | fail)
    case c3=>unfold maxLen;omega
    case c4=>omega
    case c5=>exact hwsz6
    intro v' w7 hown' hgrow hnil hat;obtain⟨g2,c2,rfl,hS7⟩:=HS6.out.app hown' hgrow (by first | exact hnil | exact fun e=>by have:=hnil.1 e;simp at this) (by simpa [Value.ownBlock] using hat);have cj7:=World.grownBy.cell hgrow cj6 (by intro q1;injection q1 with q1;exact hcog q1);have HSN:Hid (TlSt w w3 w7 (w.heap.size+1) g2 c2 (taleF L (-1) (ch.take (i+1)))):=by show TlSt _ _ _ _ _ _ _;rw [HST.out];exact hS7
    have HLE:Hid ((taleF L (-1) (ch.take (i+1))).length=tl.length+fl.length):=by show _=_;rw [HST.out];simp
    clear hown' hgrow hnil hat HS6 HNEW HONE hS7 cj6 HST;go_wp2;go_roundw
    case rel=>exact⟨i+1,g2,c2,by omega,by go_num,by rw [HLST.out],by rw [HLE.out],HLN2.out,HSN⟩
    case measure=>simp [intOf];omega
  ·obtain rfl:i=ch.length:=by omega
   have e:ch.take ch.length=ch:=List.take_length;rw [e] at HS hv;have HV:Hid (u7=.slice (some ⟨og,0,none⟩) (taleF L (-1) ch).length cp):=hv;have HF:Hid (Memb.Own w.heap.size wr (some ⟨og,0,none⟩) cp (taleF L (-1) ch)∧Below w.heap.size w wr):=⟨HS.out.own,HS.out.bel⟩
   clear hv HS e hln hev;go_wp2;go_ret;exact⟨some ⟨og,0,none⟩,cp,by rw [HTL.out,← HV.out];rfl,by rw [HTL.out];exact HF.out.1,HF.out.2⟩
end Tp
end
section
open Go.RowKit Go.Shelf
namespace Fw
open Kn (K okK)
open Bit (bit withB)
open Lc (at' RdK WordsOk laceB setB handsN roundS)
def LedLace(L:List K)(C:List Int)(w:World)(e:Ending)(w':World):Prop:=
 (laceB L=true∧Rm.coinsB C=true∧∃g,e=.returned (.tuple #[.slice (some ⟨g,0,none⟩) L.length L.length,.agg #[.int .i64 (Ch.leadI C 0),.int .i64 (Ch.leadI C 1),.int .i64 (Ch.leadI C 2),.int .i64 (Ch.leadI C 3),.int .i64 (Ch.leadI C 4),.int .i64 (Ch.leadI C 5),.int .i64 (Ch.leadI C 6)],.bool true])∧g<w'.heap.size∧RdK w' (some ⟨g,0,none⟩) L∧Below w.heap.size w w') ∨
 ((laceB L&&Rm.coinsB C)=false∧∃(v:Value) (y0 y1 y2 y3 y4 y5 y6:Int),e=.returned (.tuple #[v,.agg #[.int .i64 y0,.int .i64 y1,.int .i64 y2,.int .i64 y3,.int .i64 y4,.int .i64 y5,.int .i64 y6],.bool false])∧Below w.heap.size w w')
theorem two7{W:World}{b:Nat}(hb:Db.RowI W b 7 (fun _=>0))(f:Nat→Int):∃W1,W1=W.alloc (.cells #[.int .i64 (f 0),.int .i64 (f 1),.int .i64 (f 2),.int .i64 (f 3),.int .i64 (f 4),.int .i64 (f 5),.int .i64 (f 6)] 58)∧Db.RowI W1 b 7 (fun _=>0)∧Db.RowI W1 W.heap.size 7 f∧Below W.heap.size W W1∧W.heap.size≠b:=
 ⟨_,rfl,Nd.rowI_alloc hb _,Ch.rowI_seven W 58 f,(Below.refl _ _).alloc (Nat.le_refl _) _,by have:=hb.lt;omega⟩
theorem rowI_kept{W W':World}{b:Nat}{f:Nat→Int}(h:Db.RowI W b 7 f)(hb:Below W.heap.size W W'):Db.RowI W' b 7 f:=
 ⟨Nat.lt_of_lt_of_le h.lt hb.size,fun i hi=>(hb.cell (p:=⟨b,i,none⟩) h.lt).trans (h.rd i hi),fun i hi=>(hb.frozen (p:=⟨b,i,none⟩) h.lt).trans (h.fr i hi)⟩
theorem cell_put7(W:World)(b:Nat)(x0 x1 x2 x3 x4 x5 x6:Int)(p:Addr)(hp:p.block≠b):(((((((W.setCell ⟨b,0,none⟩ (.int .i64 x0)).setCell ⟨b,1,none⟩ (.int .i64 x1)).setCell ⟨b,2,none⟩ (.int .i64 x2)).setCell ⟨b,3,none⟩ (.int .i64 x3)).setCell ⟨b,4,none⟩ (.int .i64 x4)).setCell ⟨b,5,none⟩ (.int .i64 x5)).setCell ⟨b,6,none⟩ (.int .i64 x6)).cell? p=W.cell? p:=by
 refine World.cell?_of_block ?_;rw [Below.heap_setCell _ ⟨b,6,none⟩ _ _ hp,Below.heap_setCell _ ⟨b,5,none⟩ _ _ hp,Below.heap_setCell _ ⟨b,4,none⟩ _ _ hp,Below.heap_setCell _ ⟨b,3,none⟩ _ _ hp,Below.heap_setCell _ ⟨b,2,none⟩ _ _ hp,Below.heap_setCell _ ⟨b,1,none⟩ _ _ hp,Below.heap_setCell _ ⟨b,0,none⟩ _ _ hp]
theorem rdK_put7{W:World}{b g:Nat}{L:List K}(hb:Db.RowI W b 7 (fun _=>0))(h:RdK W (some ⟨g,0,none⟩) L)(x0 x1 x2 x3 x4 x5 x6:Int):RdK (((((((W.setCell ⟨b,0,none⟩ (.int .i64 x0)).setCell ⟨b,1,none⟩ (.int .i64 x1)).setCell ⟨b,2,none⟩ (.int .i64 x2)).setCell ⟨b,3,none⟩ (.int .i64 x3)).setCell ⟨b,4,none⟩ (.int .i64 x4)).setCell ⟨b,5,none⟩ (.int .i64 x5)).setCell ⟨b,6,none⟩ (.int .i64 x6)) (some ⟨g,0,none⟩) L:=by
 by_cases hL:0<L.length
 ·obtain⟨hg,_,_,_,c3⟩:=h.on 0 hL;have hne:g≠b:=fun e=>by
   subst e;have:=hb.rd 3 (by omega);rw [show 0+0*4+3=3 from rfl,this] at c3
   cases c3
  refine .inr ⟨g,0,rfl,by simpa using hg,fun i hi=>?_⟩;obtain⟨_,d0,d1,d2,d3⟩:=h.on i hi;exact⟨(cell_put7 W b x0 x1 x2 x3 x4 x5 x6 _ hne).trans d0,(cell_put7 W b x0 x1 x2 x3 x4 x5 x6 _ hne).trans d1,(cell_put7 W b x0 x1 x2 x3 x4 x5 x6 _ hne).trans d2,(cell_put7 W b x0 x1 x2 x3 x4 x5 x6 _ hne).trans d3⟩
 ·exact .inl (List.length_eq_zero_iff.1 (by omega))
theorem ledLace(g off cap:Nat)(L:List K)(ao:Option Addr)(cc:Nat)(C:List Int)(w:World)(hlen:L.length≤1099511627776)(hw:WordsOk L)(hr:RdK w (some ⟨g,off,none⟩) L)(hl:C.length≤1048576)(hrd:Lst.Rd w ao C)(hao:∀c,ao=some ⟨c,0,none⟩→c<w.heap.size) :
  Calls Tryz.prog 31 #[.slice (some ⟨g,off,none⟩) L.length cap,.slice ao C.length cc] w (LedLace L C w):=by
 have HZ:Hid (Db.RowI (w.alloc (.cells #[.int .i64 0,.int .i64 0,.int .i64 0,.int .i64 0,.int .i64 0,.int .i64 0,.int .i64 0] 58)) w.heap.size 7 (fun _=>0)):=Ch.rowI_seven w 58 (fun _=>0);have HBZ:Hid (Below w.heap.size w (w.alloc (.cells #[.int .i64 0,.int .i64 0,.int .i64 0,.int .i64 0,.int .i64 0,.int .i64 0,.int .i64 0] 58))):=(Below.refl _ _).alloc (Nat.le_refl _) _;have hrZ:=hr.below HBZ.out;have hrdZ:=Ch.rd_low hrd hao HBZ.out;have haoZ:∀c,ao=some ⟨c,0,none⟩→c<(w.alloc (.cells #[.int .i64 0,.int .i64 0,.int .i64 0,.int .i64 0,.int .i64 0,.int .i64 0,.int .i64 0] 58)).heap.size:=fun c e=>Nat.lt_of_lt_of_le (hao c e) HBZ.out.size
 clear hr hrd hao;go_enter Tryz.func31,Tryz.ntmps31
 go_wp2_with fail
 generalize w.alloc (.cells #[.int .i64 0,.int .i64 0,.int .i64 0,.int .i64 0,.int .i64 0,.int .i64 0,.int .i64 0] 58)=wz at HZ HBZ hrZ hrdZ haoZ ⊢;generalize hbb:w.heap.size=b at *;have HBB:Hid (b=w.heap.size):=hbb.symm;clear hbb;refine(Lc.laceOf g off cap L _ hlen hw hrZ).mono ?_;intro e w1 hpost;obtain⟨B0,v0,g',HL0,hb1,rfl⟩:∃(B0:Bool) (v0:Value) (g':Nat),Hid (B0=laceB L∧(B0=true→v0=.slice (some ⟨g',0,none⟩) L.length L.length∧g'<w1.heap.size∧RdK w1 (some ⟨g',0,none⟩) L))∧Below wz.heap.size wz w1∧e=.returned (.tuple #[v0,.bool B0]):=by
  rcases hpost with⟨h1,g',rfl,h2,h3,h4⟩ | ⟨h1,rfl,h4⟩
  ·exact⟨true,_,g',⟨h1.symm,fun _=>⟨rfl,h2,h3⟩⟩,h4,rfl⟩
  ·exact⟨false,_,0,⟨h1.symm,fun h=>by cases h⟩,h4,rfl⟩
 have HZ1:Hid (Db.RowI w1 b 7 (fun _=>0)):=rowI_kept HZ.out hb1;have HB1:Hid (Below b w w1):=HBZ.out.trans (hb1.mono (Nat.le_of_lt HZ.out.lt));have hrd1:=Ch.rd_low hrdZ haoZ hb1;have hao1:∀c,ao=some ⟨c,0,none⟩→c<w1.heap.size:=fun c e=>Nat.lt_of_lt_of_le (haoZ c e) hb1.size
 clear hpost HZ hrZ hrdZ haoZ HBZ hb1;go_wp2_with fail
 refine(Ch.leadersOf ao cc C _ hl hrd1 hao1).mono ?_;intro e w2 hpost;obtain⟨B1,f,HL1,hb2,rfl⟩:∃(B1:Bool) (f:Nat→Int),Hid (B1=Rm.coinsB C∧(B1=true→∀i,f i=Ch.leadI C (i:Int)))∧Below w1.heap.size w1 w2∧e=.returned (.tuple #[.agg #[.int .i64 (f 0),.int .i64 (f 1),.int .i64 (f 2),.int .i64 (f 3),.int .i64 (f 4),.int .i64 (f 5),.int .i64 (f 6)],.bool B1]):=by
  rcases hpost with⟨h1,rfl,h4⟩ | ⟨h1,rfl,h4⟩
  ·exact⟨true,fun i=>Ch.leadI C (i:Int),⟨h1.symm,fun _ _=>rfl⟩,h4,rfl⟩
  ·exact⟨false,fun _=>0,⟨h1.symm,fun h=>by cases h⟩,h4,rfl⟩
 have HZ2:=rowI_kept HZ1.out hb2;have HB2:Hid (Below b w w2):=HB1.out.trans (hb2.mono (by have:=HZ1.out.lt;omega));have HR2:Hid (B0=true→v0=.slice (some ⟨g',0,none⟩) L.length L.length∧g'<w2.heap.size∧RdK w2 (some ⟨g',0,none⟩) L):=fun h=>by
  obtain⟨q1,q2,q3⟩:=HL0.out.2 h;exact⟨q1,Nat.lt_of_lt_of_le q2 hb2.size,q3.below hb2⟩
 obtain⟨W3,hW3,k1,k2,k3,k4⟩:=two7 HZ2 f;have HB3:Hid (Below b w W3):=HB2.out.trans (k3.mono (by have:=HZ2.lt;omega));have HR3:Hid (B0=true→v0=.slice (some ⟨g',0,none⟩) L.length L.length∧g'<W3.heap.size∧RdK W3 (some ⟨g',0,none⟩) L):=fun h=>by
  obtain⟨q1,q2,q3⟩:=HR2.out h;exact⟨q1,Nat.lt_of_lt_of_le q2 k3.size,q3.below k3⟩
 obtain⟨W7,hW7,m0,m1,m2,m3,m4,m5,m6,_,hB7⟩:=Ch.put7 k1 b (Nat.le_refl _) HB3.out (f 0) (f 1) (f 2) (f 3) (f 4) (f 5) (f 6);have HE:Hid (LedLace L C w (.returned (.tuple #[v0,.agg #[.int .i64 (f 0),.int .i64 (f 1),.int .i64 (f 2),.int .i64 (f 3),.int .i64 (f 4),.int .i64 (f 5),.int .i64 (f 6)],.bool (B0&&B1)])) W7.drew):=by
  show LedLace _ _ _ _ _;have hbw:b=w.heap.size:=HBB.out
  cases hb0:B0
  ·exact .inr ⟨by rw [← HL0.out.1,hb0];rfl,v0,_,_,_,_,_,_,_,rfl,by rw [← hbw];exact hB7.drew⟩
  ·cases hb1:B1
   ·exact .inr ⟨by rw [← HL1.out.1,hb1];simp,v0,_,_,_,_,_,_,_,rfl,by rw [← hbw];exact hB7.drew⟩
   ·obtain⟨q1,q2,q3⟩:=HR3.out hb0;have hf:=HL1.out.2 hb1;refine .inl ⟨by rw [← HL0.out.1,hb0],by rw [← HL1.out.1,hb1],g',?_,?_,?_,by rw [← hbw];exact hB7.drew⟩
    ·rw [q1,hf 0,hf 1,hf 2,hf 3,hf 4,hf 5,hf 6];rfl
    ·rw [hW7];simpa using q2
    ·have:=rdK_put7 k1 q3 (f 0) (f 1) (f 2) (f 3) (f 4) (f 5) (f 6);rw [← hW7] at this;rcases this with h | ⟨a,o,e1,e2,e3⟩
     ·exact .inl h
     ·exact .inr ⟨a,o,e1,e2,fun i hi=>⟨(e3 i hi).c0,(e3 i hi).c1,(e3 i hi).c2,(e3 i hi).c3⟩⟩
 have p0:=k2.rd 0 (by omega);have p1:=k2.rd 1 (by omega);have p2:=k2.rd 2 (by omega);have p3:=k2.rd 3 (by omega);have p4:=k2.rd 4 (by omega);have p5:=k2.rd 5 (by omega);have p6:=k2.rd 6 (by omega);have q0:=k1.fr 0 (by omega);have q1:=k1.fr 1 (by omega);have q2:=k1.fr 2 (by omega);have q3:=k1.fr 3 (by omega);have q4:=k1.fr 4 (by omega);have q5:=k1.fr 5 (by omega);have q6:=k1.fr 6 (by omega);have r0:=k1.rd 0 (by omega);have r1:=k1.rd 1 (by omega);have r2:=k1.rd 2 (by omega);have r3:=k1.rd 3 (by omega);have r4:=k1.rd 4 (by omega);have r5:=k1.rd 5 (by omega);have r6:=k1.rd 6 (by omega);have HW3:Hid (W3=_):=hW3;have HW7:Hid (W7=_):=hW7;clear HL0 HL1 HR2 HR3 HB1 HB2 HB3 HZ1 HZ2 hb2 hrd1 hao1 hpost k1 k2 k3 hB7 hW3 hW7;go_wp2_with fail
 rw [← HW3.out]
 cases B0 <;> cases B1
 all_goals go_region
 all_goals go_wp2
 all_goals rw [← HW7.out]
 ·refine bodyPost_ret (v:=.tuple #[v0,.agg #[.int .i64 (f 0),.int .i64 (f 1),.int .i64 (f 2),.int .i64 (f 3),.int .i64 (f 4),.int .i64 (f 5),.int .i64 (f 6)],.bool false]) (by simp [results,Tryz.f31,go_sem,m0,m1,m2,m3,m4,m5,m6]) rfl ?_;exact HE.out
 ·refine bodyPost_ret (v:=.tuple #[v0,.agg #[.int .i64 (f 0),.int .i64 (f 1),.int .i64 (f 2),.int .i64 (f 3),.int .i64 (f 4),.int .i64 (f 5),.int .i64 (f 6)],.bool false]) (by simp [results,Tryz.f31,go_sem,m0,m1,m2,m3,m4,m5,m6]) rfl ?_;exact HE.out
 ·refine bodyPost_ret (v:=.tuple #[v0,.agg #[.int .i64 (f 0),.int .i64 (f 1),.int .i64 (f 2),.int .i64 (f 3),.int .i64 (f 4),.int .i64 (f 5),.int .i64 (f 6)],.bool false]) (by simp [results,Tryz.f31,go_sem,m0,m1,m2,m3,m4,m5,m6]) rfl ?_;exact HE.out
 ·refine bodyPost_ret (v:=.tuple #[v0,.agg #[.int .i64 (f 0),.int .i64 (f 1),.int .i64 (f 2),.int .i64 (f 3),.int .i64 (f 4),.int .i64 (f 5),.int .i64 (f 6)],.bool true]) (by simp [results,Tryz.f31,go_sem,m0,m1,m2,m3,m4,m5,m6]) rfl ?_;exact HE.out
end Fw
end
section
namespace Ov
variable {F:Fence} {n:Nat} {P:Program} {α:Type}
def Low(m:Nat)(I:World→Prop):Prop:=∀A B:World,I A→Below m A B→I B
def SeqLow(F:Fence)(n:Nat)(P:Program)(g:Nat)(lb:Array Value)(encs:α→Array Value)(Kp:World→World→Prop)(S Sp:List α→Prop)(N:Nat)(w:World):Prop:=
 ∀(l:Nat) (J Jx:List α→World→Prop) (W:World),Below w.heap.size w W→(∀s,Low W.heap.size (J s))→(∀s,Low W.heap.size (Jx s)) →
  (∀pre x V,J pre V→pre.length<N→YieldAt F (n-1) P l (encs x) V fun e V'=>(e=.returned (.bool true)∧J (pre++[x]) V'∧Kp V V')∨(e=.returned (.bool false)∧Jx (pre++[x]) V')) →
  J [] W→CallsIn F n P g (#[.func (.yield l) #[] #[]]++lb) W fun e V=>(∃v,e=.returned v)∧((∃xs,S xs∧J xs V)∨(∃pre,Sp pre∧Jx pre V))
def Bk(m:Nat)(r:Loop)(W:World):Prop:=W.heap[m+1]? = some (.loop r)∧W.heap[m]? = some (.deferred (some []))
theorem bk_low{m:Nat}{r:Loop}:Low (m+2) (Bk m r):=fun A B h hb=>⟨(hb.block _ (by omega)).trans h.1,(hb.block _ (by omega)).trans h.2⟩
theorem bk_put{m:Nat}{r:Loop}(r':Loop){A:World}(h:Bk m r A):Bk m r' (A.putObj (m+1) (.loop r')):=
 ⟨World.putObj_heap_same (Array.getElem?_eq_some_iff.1 h.1).1,(World.putObj_heap_other (by omega)).trans h.2⟩
theorem bk_keeps{m:Nat}{r:Loop}{A B:World}(h:Bk m r A)(hk:KeepsOthers A B):Bk m r B:=⟨hk.same _ _ h.1 rfl,hk.same _ _ h.2 rfl⟩
theorem low_put(m:Nat)(A:World)(o:Obj):Below m A (A.putObj (m+1) o):=⟨rfl,rfl,rfl,by simp,fun k hk=>World.putObj_heap_other (by omega)⟩
theorem over{g:Operand}{ps:Array Tmp}{assign body:Code}{Q:Exit→Act→World→Prop}{a:Act}{w:World}
   (hro:F.round=none) (h1:1≤n) {gf:Nat} {lb:Array Value} (hg:a.eval g=.func (.func gf) #[] lb) (hFg:F.fn gf) (eg:∀args w,(callFunc gf args).run P w=.ok (.enter gf args) w)
   {encs:α→Array Value} {Kp:World→World→Prop} {S Sp:List α→Prop} {N:Nat} (hseq:SeqLow F (n-1) P gf lb encs Kp S Sp N w)
   (hKt:∀{A B C:World},Kp A B→Kp B C→Kp A C) (hKb:∀(A:World) (r r':Loop),A.heap[w.heap.size+1]? = some (.loop r)→Kp A (A.putObj (w.heap.size+1) (.loop r')))
   (hps:∀x,(encs x).size=ps.size) (I:List α→World→Prop) (Ix:Code→List α→World→Prop) (hI:∀s,Low w.heap.size (I s)) (hIx:∀c s,Low w.heap.size (Ix c s)) (h0:I [] w) (a₁:α→Act)
   (hassign:∀(l:Nat) (x:α) (W:World) (K:Act→World→Prop),K (a₁ x) W →
     assign.wpIn (F.inRound l) (n-1-1) P (Exit.then K (fun _ _ _=>False)) { tmps:=(ps.zip (encs x)).foldl (fun t (p,v)=>t.setIfInBounds p v) a.tmps,defers:=[] } W)
   (hbody:∀(l:Nat) (pre:List α) (x:α) (W:World),I pre W→pre.length<N→body.wpIn (F.inRound l) (n-1-1) P (ownPostK Kp I Ix (pre++[x]) W) (a₁ x) W)
   (hdone:∀(xs:List α) (W:World),S xs→I xs W→W.heap[w.heap.size]? = some (.deferred (some []))→Q .normal { a with defers:={ target:=.collected w.heap.size,args:=#[] } :: a.defers } W)
   (hstop:∀(c:Code) (pre:List α) (W:World),Sp pre→Ix c pre W→W.heap[w.heap.size]? = some (.deferred (some []))→c.wpIn F n P Q { a with defers:={ target:=.collected w.heap.size,args:=#[] } :: a.defers } W) :
   (Code.rangeFunc g ps assign body).wpIn F n P Q a w:=by
 refine wpIn_rangeFunc fun fn hfn=>?_
 rw [hro];generalize hm:w.heap.size=m at *;obtain⟨r0,hr0⟩:∃r:Loop,r={ state:=.ready,pending:=none,fn:=fn,tmps:=a.tmps,params:=ps,assign:=assign,body:=body,defers:=m }:=⟨_,rfl⟩
 have b1:Bk m r0 ((w.alloc (.deferred (some []))).alloc (.loop r0)):=by
   constructor
   · have:=World.alloc_heap_new (w.alloc (.deferred (some []))) (.loop r0);rwa [World.size_alloc,hm] at this
   · have h2:=World.alloc_heap_new w (.deferred (some []));rw [hm] at h2;exact(Below.heap_alloc _ _ _ (by simp;omega)).trans h2
 have s1:((w.alloc (.deferred (some []))).alloc (.loop r0)).heap.size=m+2:=by simp [hm]
 have q1:Below m w ((w.alloc (.deferred (some []))).alloc (.loop r0)):=((Below.refl m w).alloc (by omega) _).alloc (by simp;omega) _;have en:=run_enterLoop_outer (P:=P) (w:=w) fn a.tmps ps assign body;rw [hm,← hr0] at en;generalize (w.alloc (.deferred (some []))).alloc (.loop r0)=W1 at b1 s1 q1 en;refine⟨m+1,_,W1,{ target:=.fn (.func gf) lb,args:=#[.func (.yield (m+1)) #[] #[]] },W1,gf,#[.func (.yield (m+1)) #[] #[]]++lb,W1,en,by simp only [resolve,hg];simp [go_sem],fun f' hf'=>?_,by simp [invoke,go_sem,eg],fun _=>h1,?_⟩
 · simp [Target.leads] at hf';subst hf';exact hFg
 have lowJ:∀s,Low W1.heap.size (fun W=>I s W∧Bk m r0 W):=fun s A B h hb=>⟨hI s A B h.1 (hb.mono (by omega)),bk_low A B h.2 (hb.mono (by omega))⟩
 have lowX:∀s,Low W1.heap.size (fun W=>∃c,Ix c s W∧Bk m { r0 with state:=.done,pending:=some c } W):=fun s A B h hb=>by
   obtain⟨c,h1,h2⟩:=h;exact⟨c,hIx c s A B h1 (hb.mono (by omega)),bk_low A B h2 (hb.mono (by omega))⟩
 have start:=hseq (m+1) (fun pre W=>I pre W∧Bk m r0 W) (fun pre W=>∃c,Ix c pre W∧Bk m { r0 with state:=.done,pending:=some c } W) W1 (by rw [hm];exact q1) lowJ lowX;refine(start ?_ ⟨hI [] w W1 h0 q1,b1⟩).mono ?_
 · intro pre x V hJ hl;obtain⟨hi,hb⟩:=hJ;have hy:=run_yield (P:=P) (args:=encs x) hb.1 (by rw [hr0];exact hps x);have hb2:=bk_put { r0 with state:=.busy } hb;have hi2:=hI pre V _ hi (low_put m V (.loop { r0 with state:=.busy }));have k2:=hKb V r0 { r0 with state:=.busy } hb.1;have hbeg:=run_beginRound (P:=P) hb.1 (by rw [hr0]);rw [hr0] at hy;refine⟨_,_,_,_,hy,roundIn_of_wpIn hfn (hassign _ x V _ ⟨_,hbeg,wpIn_mono (hbody _ pre x _ hi2 hl) ?_⟩)⟩;have fin:∀(c:Code) (X:World),KeepsOthers (V.putObj (m+1) (.loop { r0 with state:=.busy })) X→Ix c (pre++[x]) X→∃v X',(Instr.endRound (m+1) (some c)).run P X=.ok v X'∧v=.bool false∧∃c',Ix c' (pre++[x]) X'∧Bk m { r0 with state:=.done,pending:=some c' } X':=fun c X hk hx=>by
     have hb3:=bk_keeps hb2 hk;exact⟨_,_,run_endRound (some c) hb3.1,rfl,c,hIx c _ X _ hx (low_put m X _),bk_put _ hb3⟩
   intro e a3 X hp
   cases e with
   | normal=>
     obtain⟨hk,hkp,hx⟩:=hp;have hb3:=bk_keeps hb2 hk;refine⟨_,_,run_endRound none hb3.1,.inl ⟨rfl,⟨hI _ X _ hx (low_put m X _),?_⟩,hKt (hKt k2 hkp) (hKb X _ _ hb3.1)⟩⟩;have:=bk_put r0 hb3;rw [hr0] at this ⊢;exact this
   | ret=>
     obtain⟨v,X',hrun,rfl,hx⟩:=fin .ret X hp.1 hp.2;exact⟨_,_,hrun,.inr ⟨rfl,hx⟩⟩
   | exit id=>
     obtain⟨v,X',hrun,rfl,hx⟩:=fin (.exit id) X hp.1 hp.2;exact⟨_,_,hrun,.inr ⟨rfl,hx⟩⟩
   | goto t=>
     obtain⟨v,X',hrun,rfl,hx⟩:=fin (.goto t) X hp.1 hp.2;exact⟨_,_,hrun,.inr ⟨rfl,hx⟩⟩
   | panic ch=>exact hp.elim
   | outgrown=>exact hp.elim
 · rintro e X ⟨⟨v,rfl⟩,h⟩;rcases h with⟨xs,hS,hi,hb⟩ | ⟨pre,hS,c,hi,hb⟩
   · have hrun:=run_endLoop (P:=P) hb.1 (by rw [hr0];simp);refine⟨none,_,by rw [hrun,hr0],hdone xs _ hS (hI _ X _ hi (low_put m X _)) (bk_put _ hb).2⟩
   · exact⟨some c,_,run_endLoop (P:=P) hb.1 (by simp),hstop c pre _ hS (hIx c _ X _ hi (low_put m X _)) (bk_put _ hb).2⟩
end Ov
end
end Go.Proofs.YtbkeldfbllhlbaaGreat
