/-
 Marks in a list of texts and in a list of numbers, told by the one block that they change.
-/
import Derived.Test.YtadbafppodhfpaaGreatDoorRows
import Derived.ProofKit
import Derived.OpenShut
import Derived.ChangeOld
import Derived.Deep.Slices
import Derived.Test.YtadbafppodhfpaaGreatDoorqzg5
set_option linter.unusedVariables false
set_option maxRecDepth 100000
set_option maxHeartbeats 1600000
namespace Go.Proofs.YtadbafppodhfpaaGreatDoor
section
open Go.ChangeShapes Go.WideShapes Go.ChangeAt Go.RowKit Go.Joins
namespace Tx
def RdS(w:World)(ao:Option Addr)(S:List ByteArray):Prop:=S=[]∨∃g off,ao=some ⟨g,off,none⟩∧g<w.heap.size∧∀i,i<S.length→w.cell? ⟨g,off+i,none⟩=some (.string (S.getD i ⟨#[]⟩))
theorem RdS.below{w w':World}{ao:Option Addr}{S:List ByteArray}(h:RdS w ao S)(hb:Below w.heap.size w w'):RdS w' ao S:=by
 rcases h with h | ⟨g,off,e,hl,hc⟩
 ·exact .inl h
 ·exact .inr ⟨g,off,e,Nat.lt_of_lt_of_le hl hb.size,fun i hi=>(hb.cell (p:=⟨g,off+i,none⟩) hl).trans (hc i hi)⟩
def SmallS(S:List ByteArray):Prop:=S.length≤1048576∧∀x∈S,x.size≤1048576
def SzPost(S:List ByteArray)(left:Int)(w:World)(e:Ending)(w':World):Prop:=∃r:Int,e=.returned (.int .i64 r)∧-1≤r∧r≤left∧(0≤r→SmallS S)∧Below w.heap.size w w'
theorem take_snocT(S:List ByteArray)(i:Nat)(h:i<S.length):S.take (i+1)=S.take i++[S.getD i ⟨#[]⟩]:=by
 rw [List.take_add_one,List.getD,List.getElem?_eq_getElem h];rfl
theorem getT_mem(S:List ByteArray)(i:Nat)(h:i<S.length):S.getD i ⟨#[]⟩∈S:=by
 rw [List.getD,List.getElem?_eq_getElem h];exact List.getElem_mem h
theorem szStringS(ao:Option Addr)(cap:Nat)(S:List ByteArray)(left:Int)(w:World)(hl:S.length≤maxLen)(hws:∀x∈S,x.size≤maxLen)(hl0:0≤left)(hl1:left≤1048576)(hr:RdS w ao S) :
  Calls Tryz.prog 15 #[.slice ao S.length cap,.int .i64 left] w (SzPost S left w):=by
 unfold maxLen at hl;by_cases hbig:left<(S.length:Int)
 ·have hb':left-(S.length:Int)<0:=by omega
  go_enter Tryz.func15,Tryz.ntmps15
  go_wp2;go_ret;exact⟨-1,rfl,by omega,by omega,fun h=>by omega,Below.refl _ _⟩
 ·have hb':¬ left-(S.length:Int)<0:=by omega
  have hlen:S.length≤1048576:=by omega
  clear hbig;go_enter Tryz.func15,Tryz.ntmps15
  go_wp2;go_loopw [1,5] (fun x i wr=>∃(j:Nat) (y:Int),j≤S.length∧i=.int .i64 j∧x=.int .i64 y∧0≤y∧y≤left∧Hid (∀k∈S.take j,k.size≤1048576)∧Hid (Below w.heap.size w wr)) (fun _ i _=>S.length-(intOf i).toNat)
  case atStart=>exact⟨0,left-(S.length:Int),by omega,rfl,rfl,by omega,by omega,fun k hk=>by simp at hk,Below.refl _ _⟩
  case round=>
   obtain⟨j,y,hj,rfl,rfl,hy0,hy1,HW,HB⟩:=hrel;by_cases hlt:j<S.length
   ·obtain⟨g,off,rfl,hg,c0⟩:∃g off,ao=some ⟨g,off,none⟩∧g<w.heap.size∧w.cell? ⟨g,off+j,none⟩=some (.string (S.getD j ⟨#[]⟩)):=by
     rcases hr with h | ⟨g,off,e,hg,hc⟩
     ·exfalso;rw [h] at hlt;simp at hlt
     ·exact⟨g,off,e,hg,hc j hlt⟩
    replace c0:=(HB.out.cell (p:=⟨g,off+j,none⟩) hg).trans c0;have hwm:=hws _ (getT_mem S j hlt);unfold maxLen at hwm;have HW1:Hid (∀k∈S.take j,k.size≤1048576):=HW;by_cases hq:y<((S.getD j ⟨#[]⟩).size:Int)
    ·have hq':y-((S.getD j ⟨#[]⟩).size:Int)<0:=by omega
     clear HW;generalize S.getD j ⟨#[]⟩=x at *;go_wp2;go_ret;exact⟨-1,rfl,by omega,by omega,fun h=>by omega,HB.out⟩
    ·have hq':¬ y-((S.getD j ⟨#[]⟩).size:Int)<0:=by omega
     have HW2:Hid (∀k∈S.take (j+1),k.size≤1048576):=by
      intro k hk;rw [take_snocT S j hlt,List.mem_append] at hk;rcases hk with hk | hk
      ·exact HW.out k hk
      ·simp only [List.mem_singleton] at hk;rw [hk];omega
     clear hq HW HW1;generalize S.getD j ⟨#[]⟩=x at c0 hwm hq' ⊢;go_wp2;go_roundw
     case rel=>exact⟨j+1,_,by omega,by go_num,rfl,by omega,by omega,HW2,HB⟩
     case measure=>simp [intOf];omega
   ·obtain rfl:j=S.length:=by omega
    have HS:Hid (SmallS S):=⟨hlen,by have:=HW.out;rwa [List.take_length] at this⟩
    clear HW;go_wp2;go_ret;exact⟨y,rfl,by omega,hy1,fun _=>HS.out,HB.out⟩
def filT(S:List ByteArray)(j:Nat):List ByteArray:=S.take j++List.replicate (S.length-j) ⟨#[]⟩
theorem filT_len(S:List ByteArray)(j:Nat)(h:j≤S.length):(filT S j).length=S.length:=by simp [filT];omega
theorem filT_step(S:List ByteArray)(j:Nat)(h:j<S.length):(filT S j).set j (S.getD j ⟨#[]⟩)=filT S (j+1):=by
 have e:S.length-j=(S.length-(j+1))+1:=by omega
 unfold filT;rw [take_snocT S j h,e,List.replicate_succ,List.set_append_right _ _ (by simp;omega)];simp [Nat.min_eq_left (Nat.le_of_lt h)]
theorem filT_end(S:List ByteArray):filT S S.length=S:=by simp [filT]
def ToPost(S:List ByteArray)(w:World)(e:Ending)(w':World):Prop:=e=.returned (.slice (some ⟨w.heap.size,0,none⟩) S.length S.length)∧OwnT w.heap.size w' (some ⟨w.heap.size,0,none⟩) S.length S∧Below w.heap.size w w'
theorem toStringS(ao:Option Addr)(cap:Nat)(S:List ByteArray)(w:World)(hl:S.length≤1048576)(hr:RdS w ao S) :
   Calls Tryz.prog 16 #[.slice ao S.length cap] w (ToPost S w):=by
 have hmk:∀W:World,(Instr.makeSlice 24 (.int .i64 (S.length:Int)) (.int .i64 (S.length:Int))).run Tryz.prog W=.ok (.slice (some ⟨W.heap.size,0,none⟩) S.length S.length) (W.alloc (.cells (madeCells #[.string ⟨#[]⟩] S.length) 9)):=
   fun W=>run_make_row' (P:=Tryz.prog) 24 9 (.string ⟨#[]⟩) 16 Tryz.underlying24 infoT rfl .i64 .i64 S.length (by omega) (by omega) W
 have HP : Hid ((w.alloc (.cells (madeCells #[.string ⟨#[]⟩] S.length) 9)).ownsRow w.heap.size 9 1 (.slice (some ⟨w.heap.size, 0, none⟩) S.length S.length) S.length ((filT S 0).map Value.string) ∧ Below w.heap.size w (w.alloc (.cells (madeCells #[.string ⟨#[]⟩] S.length) 9))) := ⟨by
   have:=World.ownsRow_lit (e:=9) (size:=1) w (madeCells #[.string ⟨#[]⟩] S.length) S.length (Nat.le_refl _) (by unfold maxLen;omega) (by rw [size_madeCells];simp);rw [toList_madeCells_one] at this;simpa [filT] using this,(Below.refl _ _).alloc (Nat.le_refl _) _⟩
 generalize madeCells #[Value.string ⟨#[]⟩] S.length=mc at hmk HP;go_enter Tryz.func16,Tryz.ntmps16
 go_wp2;clear hmk;go_loopw [4] (fun i wr=>∃j:Nat,j≤S.length∧i=.int .i64 j∧Hid (wr.ownsRow w.heap.size 9 1 (.slice (some ⟨w.heap.size,0,none⟩) S.length S.length) S.length ((filT S j).map Value.string))∧Hid (Below w.heap.size w wr)) (fun i _=>S.length-(intOf i).toNat)
 case atStart=>exact⟨0,by omega,rfl,HP.out.1,HP.out.2⟩
 case round=>
   obtain⟨j,hj,rfl,HO,HB⟩:=hrel;clear HP;by_cases hlt:j<S.length
   · obtain⟨g,off,rfl,hg,c0⟩:∃g off,ao=some ⟨g,off,none⟩∧g<w.heap.size∧w.cell? ⟨g,off+j,none⟩=some (.string (S.getD j ⟨#[]⟩)):=by
       rcases hr with h | ⟨g,off,e,hg,hc⟩
       · exfalso;rw [h] at hlt;simp at hlt
       · exact⟨g,off,e,hg,hc j hlt⟩
     replace c0:=(HB.out.cell (p:=⟨g,off+j,none⟩) hg).trans c0;have hst:=World.ownsRow.stored HO.out j (.string (S.getD j ⟨#[]⟩));have HO2:Hid ((wr.setCell ⟨w.heap.size,j,none⟩ (.string (S.getD j ⟨#[]⟩))).ownsRow w.heap.size 9 1 (.slice (some ⟨w.heap.size,0,none⟩) S.length S.length) S.length ((filT S (j+1)).map Value.string)):=by
       show World.ownsRow _ _ _ _ _ _ _;rw [← filT_step S j hlt,List.map_set];exact hst.1
     have HB2:Hid (Below w.heap.size w (wr.setCell ⟨w.heap.size,j,none⟩ (.string (S.getD j ⟨#[]⟩)))):=HB.out.setCell (p:=⟨w.heap.size,j,none⟩) (Nat.le_refl _) _;have fz:=World.ownsRow.frozenAt HO.out j;obtain⟨u,cu⟩:∃u,wr.cell? ⟨w.heap.size,j,none⟩=some u:=by
       have hl:=filT_len S j hj;have:=World.ownsRow.cellAt HO.out j (by omega);rw [this,List.getElem?_map,List.getElem?_eq_getElem (by omega)];exact⟨_,rfl⟩
     clear hst HO HB;generalize S.getD j ⟨#[]⟩=x at c0 HO2 HB2 ⊢;go_wp2;go_roundw
     case rel=>exact⟨j+1,by omega,by go_num,HO2,HB2⟩
     case measure=>simp [intOf];omega
   · obtain rfl:j=S.length:=by omega
     have HT:Hid (OwnT w.heap.size wr (some ⟨w.heap.size,0,none⟩) S.length S):=by
       show OwnT _ _ _ _ _;have:=HO.out;rw [filT_end] at this;exact this
     clear HO;go_wp2;go_ret;exact⟨rfl,HT.out,HB.out⟩
theorem cellsTS:Tryz.prog.cellsOf 9=1:=by kernel_rfl
theorem openS{H:Type}{enc:TypeId × Value→H}{W:World}{spare:Nat→Bool}{held:Bool}{a0:Option Addr}{len0 cap0 fuel:Nat}{x:DataW H × List MemPlace}
  (h:DataW.trod enc Tryz.prog W 0 spare held fuel 24 [.slice a0 len0 cap0]=some x):∃S:List ByteArray,S.length=len0∧RdS W a0 S∧(∀k∈S,k.size≤maxLen)∧len0≤maxLen:=by
 rcases Deep.open_slice Tryz.underlying24 h with⟨hcs,_⟩ | ⟨a,l,c,m,n,D,Pl,hcs,_,hl,hm,hmm,_,hx⟩
 ·simp at hcs;obtain⟨rfl,rfl,rfl⟩:=hcs;exact⟨[],rfl,.inl rfl,by simp,by simp⟩
 ·simp at hcs;obtain⟨rfl,rfl,rfl⟩:=hcs;have hk:∀i,i<len0→∃k:ByteArray,k.size≤maxLen∧W.cell? ((a.add (i*1)).add 0)=some (.string k):=by
   intro i hi;obtain⟨cs',h1,h2⟩:=hx i (by rw [hmm];split <;> omega);rw [cellsTS] at h1;obtain⟨_,hlen,hcell⟩:=World.cells?_some h1;match cs',hlen with
   | [x0],_=>
    obtain⟨b0,e0,_,w0⟩:=DataW.trod_string Tryz.underlying9 h2;simp at e0;subst e0;exact⟨b0,w0,(hcell 0 (by omega)).trans rfl⟩
  obtain⟨f,hf⟩:=Deep.choose_lt hk;have hlenL:((List.range len0).map f).length=len0:=by simp
  have hat:∀i,i<len0→((List.range len0).map f).getD i ⟨#[]⟩=f i:=by
   intro i hi;rw [List.getD,List.getElem?_eq_getElem (by simpa using hi)];simp
  refine⟨(List.range len0).map f,hlenL,?_,?_,by omega⟩
  ·by_cases h0:len0=0
   ·subst h0;exact .inl rfl
   ·obtain⟨b,off,spot⟩:=a;have hc0:=(hf 0 (by omega)).2;have hspot:spot=none:=by simpa [Addr.add] using World.cell?_spot hc0
    subst hspot;refine .inr ⟨b,off,rfl,?_,fun i hi=>?_⟩
    ·have:=block_lt_of_cell hc0;simpa [Addr.add] using this
    ·have hi':i<len0:=by simpa using hi
     obtain⟨_,d0⟩:=hf i hi';rw [hat i hi'];rw [Deep.add_add,WideShapes.add_plain] at d0;simpa using d0
  ·intro k hk';rw [List.mem_map] at hk';obtain⟨i,hi,rfl⟩:=hk';exact(hf i (by simpa using hi)).1
end Tx
end
section
open Go.RowKit
namespace Lc
end Lc
end
section
open Go.RowKit
namespace Lc
end Lc
end
section
open Go.RowKit
namespace Lc
end Lc
end
section
open Go.RowKit
namespace Lc
end Lc
end
section
open Go.RowKit
namespace Lc
end Lc
end
section
open Go.RowKit
namespace Sg
end Sg
end
section
open Go.RowKit
namespace Tl
end Tl
end
section
open Go.RowKit
namespace Tx
end Tx
end
section
open Go.RowKit
namespace Tx
open Lc (markS)
theorem own_far{B:Nat}{w:World}{ao:Option Addr}{cap:Nat}{l:List ByteArray}(h:OwnT B w ao cap l):∀g,ao=some ⟨g,0,none⟩→B≤g∧g<w.heap.size:=fun g e=>by
 subst e;exact World.ownsRow.lt h g rfl
theorem eqT(S:List ByteArray)(a b:Option Addr)(ca cb:Nat)(w:World)(hn:S.length≤1048576)(ha:RdT w a S)(hb:RdT w b S) :
  Calls Tryz.prog 19 #[.slice a S.length ca,.slice b S.length cb] w fun e w'=>e=.returned (.bool true)∧Below w.heap.size w w':=by
 go_enter Tryz.func19,Tryz.ntmps19
 go_wp2;go_loopw [5] (fun i wr=>∃k n:Nat,k≤S.length∧i=.int .i64 k∧wr=w.drewN n) (fun i _=>S.length-(intOf i).toNat)
 case atStart=>exact⟨0,0,by omega,rfl,rfl⟩
 case round=>
  obtain⟨k,n,hk,rfl,rfl⟩:=hrel;by_cases hlt:k<S.length
  ·have hlti:(k:Int)<(S.length:Int):=by omega
   rcases ha with ha | ⟨ga,rfl,_,hca⟩
   ·rw [ha] at hlt;simp at hlt
   rcases hb with hb | ⟨gb,rfl,_,hcb⟩
   ·rw [hb] at hlt;simp at hlt
   have c1:=hca k hlt;have c2:=hcb k hlt;clear hca hcb;generalize S.getD k ⟨#[]⟩=x at c1 c2;go_wp2_with fail
   go_quiet (fail)
   go_wp2;go_roundw
   case rel=>exact⟨k+1,_,by omega,by go_num,rfl⟩
   case measure=>simp [intOf];omega
  ·obtain rfl:k=S.length:=by omega
   have hlti:¬ (S.length:Int)<(S.length:Int):=by omega
   go_wp2;go_ret;exact⟨rfl,⟨rfl,rfl,rfl,Nat.le_refl _,fun _ _=>rfl⟩⟩
end Tx
end
section
open Go.RowKit
namespace Bk
open Lc (markS markText)
open Tx (OwnT)
structure Row1(w:World)(q n:Nat):Prop where
 lt:q<w.heap.size
 rd:∀i,i<n→∃u,w.cell? ⟨q,i,none⟩=some u
 fr:∀i,i<n→w.frozen? ⟨q,i,none⟩=false
theorem Row1.below{w w':World}{q n:Nat}(h:Row1 w q n)(hb:Below w.heap.size w w'):Row1 w' q n:=
 ⟨Nat.lt_of_lt_of_le h.lt hb.size,fun i hi=>by obtain⟨u,e⟩:=h.rd i hi;exact⟨u,(hb.cell (p:=⟨q,i,none⟩) h.lt).trans e⟩,fun i hi=>(hb.frozen (p:=⟨q,i,none⟩) h.lt).trans (h.fr i hi)⟩
theorem Row1.put{w:World}{q n:Nat}(h:Row1 w q n)(m:Nat)(v:Value):Row1 (w.setCell ⟨q,m,none⟩ v) q n where
 lt:=by simpa using h.lt
 rd:=fun i hi=>by
  obtain⟨u,e⟩:=h.rd i hi;by_cases c:i=m
  ·subst c;exact⟨v,by simpa using World.cell?_setCell_same _ _ _ e⟩
  ·exact⟨u,(World.cell?_setCell_other _ _ _ _ (by intro z;injection z with _ z;exact c z.symm)).trans e⟩
 fr:=fun i hi=>by simpa using h.fr i hi
theorem row1_own{B q c:Nat}{w:World}{S:List ByteArray}(h:OwnT B w (some ⟨q,0,none⟩) c S):Row1 w q S.length:=
 ⟨(Tx.own_far h q rfl).2,fun i hi=>by
   have:=World.ownsRow.cellAt h i (by omega);rw [this,List.getElem?_map,List.getElem?_eq_getElem hi];exact⟨_,rfl⟩,fun i _=>World.ownsRow.frozenAt h i⟩
theorem markTG(q n cap:Nat)(w:World)(hn:n≤1048576)(h:Row1 w q n) :
  Calls Tryz.prog 20 #[.slice (some ⟨q,0,none⟩) n cap,.int .i64 1] w fun e w'=>e=.returned (.int .i64 (1+(n:Int)))∧w.grownBy w' (some q):=by
 have HR0:Hid (Row1 w q n):=h;clear h;go_enter Tryz.func20,Tryz.ntmps20
 go_wp2;go_loopw [1,5] (fun k i wr=>∃j:Nat,j≤n∧i=.int .i64 j∧k=.int .i64 (1+(j:Int))∧Hid (Row1 wr q n)∧Hid (w.grownBy wr (some q))) (fun _ i _=>n-(intOf i).toNat)
 case atStart=>exact⟨0,by omega,rfl,rfl,HR0,World.grownBy.refl _ _⟩
 case round=>
  obtain⟨j,hj,rfl,rfl,HO,HG⟩:=hrel;clear HR0;by_cases hlt:j<n
  ·have hlti:(j:Int)<(n:Int):=by omega
   have hk1:((1+j:Nat):Int)=1+(j:Int):=by omega
   have hmt:=markText (1+j) (by omega) (by omega) wr;rw [hk1] at hmt;have hwr:IntKind.i64.wrap (1+(j:Int)+1)=1+((j+1:Nat):Int):=by rw [IntKind.wrap_i64];omega
   go_wp2_with fail
   refine hmt.mono ?_;rintro e w1 ⟨rfl,hb1⟩;have R1:=HO.out.below hb1;have G1:Hid (w.grownBy w1 (some q)):=grown_trans HG.out (grown_of_below hb1 _);obtain⟨u,cu⟩:=R1.rd j hlt;have fz:=R1.fr j hlt;have HO2:Hid (Row1 (w1.setCell ⟨q,j,none⟩ (.string (markS (1+j)))) q n):=R1.put j _;have HG2:Hid (w.grownBy (w1.setCell ⟨q,j,none⟩ (.string (markS (1+j)))) (some q)):=grown_set G1.out _ _;clear hmt hb1 R1 G1 HO HG;generalize markS (1+j)=mk at HO2 HG2 ⊢;go_wp2;go_roundw
   case rel=>exact⟨j+1,by omega,by go_num,by first | rfl | rw [hwr] | (congr 1;omega),HO2,HG2⟩
   case measure=>simp [intOf];omega
  ·obtain rfl:j=n:=by omega
   have hlti:¬ (j:Int)<(j:Int):=by omega
   go_wp2;go_ret;exact⟨rfl,HG.out⟩
theorem markO(B:Nat)(l:List Int)(bo:Option Addr)(cap:Nat)(k0:Int)(w:World)(hk:0≤k0)(hk':k0≤1048576)(hn:l.length≤1048576)(h:Memb.Own B w bo cap l) :
   Calls Tryz.prog 22 #[.slice bo l.length cap,.int .i64 k0] w fun e w'=>e=.returned (.int .i64 (k0+(l.length:Int)))∧Lst.Rd w' bo (Lsx.marks k0 l.length)∧∃r:Option Nat,(∀b,r=some b→bo=some ⟨b,0,none⟩)∧w.grownBy w' r:=by
 rcases h.2 with⟨hv,hz⟩ | ⟨g,cap',cur,hv,_⟩
 · injection hv with hv1 hv2 hv3;subst hv1 hv3;obtain rfl:l=[]:=List.length_eq_zero_iff.1 hz;refine(Lsx.mark k0 [] none 0 w.heap.size w hk hk' (by simp) (World.ownsRow_nil w w.heap.size 2 1)).mono ?_;rintro e w' ⟨rfl,_,hb⟩;exact⟨rfl,.inl (by simp [Lsx.marks]),none,(fun b e=>by cases e),⟨hb.os,hb.tape,hb.output,hb.size,fun k hk _=>hb.block k hk⟩⟩
 · injection hv with hv1 hv2 hv3;subst hv1;have hf:=Nu.own_far h g rfl;have hr : Db.RowI w g l.length (fun i => l.getD i 0) := ⟨hf.2,fun i hi=>by
     have:=World.ownsRow.cellAt h i (by omega);rw [this,List.getElem?_map,List.getElem?_eq_getElem hi];simp [List.getD,List.getElem?_eq_getElem hi],fun i _=>World.ownsRow.frozenAt h i⟩
   refine(Nu.markInts g l.length cap _ k0 w hn hk (by omega) hr).mono ?_;rintro e w' ⟨rfl,hm,hg⟩;exact⟨rfl,.inr ⟨g,rfl,fun j hj=>by rw [Lsx.marks_length] at hj;rw [Lsx.marks_get _ _ _ hj];exact hm.rd j hj⟩,some g,(fun b e=>by injection e with e;subst e;rfl),hg⟩
end Bk
end
end Go.Proofs.YtadbafppodhfpaaGreatDoor
