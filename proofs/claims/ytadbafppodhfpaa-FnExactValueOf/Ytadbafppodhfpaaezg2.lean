/-
 What the model's bending of a text answers: some text that is at most two bytes longer; it writes into nothing that was there but the cursor; for codes of at most 4096 bytes.
-/
import Derived.Test.Ytadbafppodhfpaaezg1
import Derived.Lib.Bytealg
import Derived.Lib.ConvBytes
import Derived.Lib.AtoiErrMem
set_option linter.unusedVariables false
set_option maxRecDepth 100000
set_option maxHeartbeats 3200000
namespace Go.Proofs.Ytadbafppodhfpaa
open Go.RowKit
section
namespace Bk
theorem flatE_take(L:List En)(i:Nat):flatE (L.take i)=(flatE L).take (i*2):=by
 induction L generalizing i with
 | nil=>simp [flatE]
 | cons a L ih=>
  cases i with
  | zero=>simp [flatE]
  | succ i=>
   have e:∀(a:En) (L:List En),flatE (a :: L)=.string a.key :: .int .i64 a.val :: flatE L:=fun a L=>by unfold flatE;simp [cellsE]
   rw [List.take_succ_cons,e,e,ih,show(i+1)*2=i*2+1+1 by omega,List.take_succ_cons,List.take_succ_cons]
theorem take_at{X:List Value}{L:List En}(h:X.take (L.length*2)=flatE L)(i:Nat)(hi:i≤L.length):X.take (i*2)=flatE (L.take i):=by
 rw [flatE_take,← h,List.take_take];congr 1
 omega
theorem take_three{A B C R:List Value}{n:Nat}(h:n=A.length+B.length+C.length):(A++(B++(C++R))).take n=A++B++C:=by
 subst h;rw [← List.append_assoc,← List.append_assoc];exact List.take_left' (by simp;omega)
theorem ins_here{X:List Value}{L:List En}{x:En}{i:Nat}(h:X.take (L.length*2)=flatE L)(hi:i≤L.length)(hc:(L.length+1)*2≤X.length) :
  (splice (splice X ((i+1)*2) (flatE (L.drop i))) (i*2) (flatE [x])).take ((L.take i++[x]++L.drop i).length*2)=flatE (L.take i++[x]++L.drop i):=by
 have hx:(flatE [x]).length=2:=by rw [flatE_len];rfl
 have hd:(flatE (L.drop i)).length=(L.length-i)*2:=by rw [flatE_len,List.length_drop]
 have hX:X.length≥(i+1)*2:=by omega
 have e1:(splice X ((i+1)*2) (flatE (L.drop i))).take (i*2)=flatE (L.take i):=by
  unfold splice;rw [List.take_append_of_le_length (by simp;omega),List.take_take,show min (i*2) ((i+1)*2)=i*2 by omega];exact take_at h i hi
 have e2:(splice X ((i+1)*2) (flatE (L.drop i))).drop (i*2+2)=flatE (L.drop i)++X.drop ((i+1)*2+(flatE (L.drop i)).length):=by
  unfold splice;exact List.drop_left' (by simp;omega)
 conv=>lhs;rw [splice,hx,e1,e2]
 rw [flatE_app,flatE_app];refine take_three ?_;simp only [flatE_len,List.length_append];omega
theorem ins_new{Y:List Value}{L:List En}{x:En}{i:Nat}(h:Y.take (i*2)=flatE (L.take i))(hi:i≤L.length)(hc:(L.length+1)*2≤Y.length) :
  (splice (splice Y (i*2) (flatE [x])) ((i+1)*2) (flatE (L.drop i))).take ((L.take i++[x]++L.drop i).length*2)=flatE (L.take i++[x]++L.drop i):=by
 have hx:(flatE [x]).length=2:=by rw [flatE_len];rfl
 have ht:(flatE (L.take i)).length=i*2:=by rw [flatE_len,List.length_take];omega
 have e1:(splice Y (i*2) (flatE [x])).take ((i+1)*2)=flatE (L.take i)++flatE [x]:=by
  unfold splice;rw [h,← List.append_assoc];exact List.take_left' (by simp [ht,hx];omega)
 conv=>lhs;rw [splice,e1]
 rw [flatE_app,flatE_app,← List.append_assoc];refine List.take_left' ?_;simp only [flatE_len,List.length_append];omega
theorem del_here{X:List Value}{L:List En}{i:Nat}(h:X.take (L.length*2)=flatE L)(hi:i<L.length)(hc:L.length*2≤X.length) :
  (splice (splice X (i*2) (flatE (L.drop (i+1)))) ((L.length-1)*2) (flatE [e0])).take ((L.take i++L.drop (i+1)).length*2)=flatE (L.take i++L.drop (i+1)):=by
 have hd:(flatE (L.drop (i+1))).length=(L.length-(i+1))*2:=by rw [flatE_len,List.length_drop]
 have ht:(flatE (L.take i)).length=i*2:=by rw [flatE_len,List.length_take];omega
 have hl:(L.take i++L.drop (i+1)).length=L.length-1:=by simp;omega
 have hs:(splice X (i*2) (flatE (L.drop (i+1)))).length=X.length:=length_splice _ _ _ (by rw [hd];omega);rw [hl];conv=>lhs;rw [splice]
 rw [List.take_append_of_le_length (by simp;omega),List.take_take,Nat.min_self];unfold splice;rw [take_at h i (by omega),flatE_app,← List.append_assoc];exact List.take_left' (by simp [ht,hd];omega)
theorem row_drew{w:World}{g cap:Nat}{X:List Value}(h:Row w g cap X):Row w.drew g cap X:=⟨h.at_,h.len,h.max⟩
theorem growB_drew{w w':World}{r:Option Nat}(h:w.drew.grownBy w' r):w.grownBy w' r:=⟨h.os,h.tape,h.output,h.size,h.block⟩
theorem del_append{w:World}{g cap:Nat}{X:List Value}{L:List En}(R:Row w g cap X)(ht:X.take (L.length*2)=flatE L)(hc:L.length≤cap)(i:Nat)(hi:i<L.length)(ty:TypeId) :
  ∃A w',(if cap=i+1 then some (⟨g,0,none⟩:Addr) else some ⟨g,(i+1)*2,none⟩)=some A∧(Builtin.append_ #[56,56] ty #[.slice (some ⟨g,0,none⟩) i cap,.slice (some A) (L.length-(i+1)) (cap-(i+1))]).run Try.prog w=.ok (.slice (some ⟨g,0,none⟩) (L.length-1) cap) w' ∧
   Row w' g cap (splice X (i*2) (flatE (L.drop (i+1))))∧w.grownBy w' (some g):=by
 obtain⟨i0,hi0,hz0,hz1,hz2⟩:=info_parts infoE;have hown:OwE 0 w g cap L:=R.own ht hc (Nat.zero_le _);obtain⟨A,hA,hrd⟩:=RdE.drop (cap:=cap) hown.rd (i+1) (by omega) hc;rw [Nat.zero_add] at hA;have hl:(flatE (L.drop (i+1))).length=(L.length-(i+1))*2:=by rw [flatE_len,List.length_drop]
 have hX:(flatE (L.drop (i+1))).length+i*2+2≤X.length:=by rw [hl,R.len];omega
 have hcell:∀j,j<X.length→(w.cell? ⟨g,j,none⟩).isSome=true∧w.frozen? ⟨g,j,none⟩=false:=fun j hj=>by
  constructor
  ·simp [World.cell?,R.at_,hj]
  ·simp [World.frozen?,R.at_]
 have hr:=run_append_room_cells (P:=Try.prog) w 56 ty 38 i0 Try.underlying56 hi0 g 0 i cap A (L.length-(i+1)) (cap-(i+1)) (flatE (L.drop (i+1))) (by rw [hz1];exact hl)
  (rdE_news' hrd) (flatE_one _) (by omega) (fun j hj=>by rw [hz1];exact(hcell _ (by omega)).1) (fun j hj=>by rw [hz1];exact(hcell _ (by omega)).2)
 rw [hz1,Nat.zero_add,show i+(L.length-(i+1))=L.length-1 by omega] at hr;obtain⟨h1,h2⟩:=setCells_row R (i*2) (flatE (L.drop (i+1))) (by omega) (flatE_one _);exact⟨A,_,hA,hr,h1,h2⟩
def DelPost(B g cap:Nat)(L:List En)(i:Nat)(w:World)(e:Ending)(w':World):Prop:=e=.returned (.slice (some ⟨g,0,none⟩) (L.take i++L.drop (i+1)).length cap)∧OwE B w' g cap (L.take i++L.drop (i+1))∧w.grownBy w' (some g)
theorem delete{B g cap:Nat}{L:List En}{w:World}(h:OwE B w g cap L)(i:Nat)(hi:i<L.length) :
  Calls Try.prog 62 #[.slice (some ⟨g,0,none⟩) L.length cap,.int .i64 i,.int .i64 ((i:Int)+1)] w (DelPost B g cap L i w):=by
 obtain⟨X,R,ht,hc,hB⟩:=h.row;have hmx:=R.max;unfold maxLen at hmx;obtain⟨A,W1,hA,HR0,R1,g1⟩:=del_append (row_drew R) ht hc i hi 56;obtain⟨W2,HC0,R2,g2⟩:=run_clearE 56 56 Try.underlying56 R1 ((L.length-1)*2) (cap-(L.length-1)) (by omega);have HD:Hid (DelPost B g cap L i w (.returned (.slice (some ⟨g,0,none⟩) (L.length-1) cap)) W2):=by
  have hl:(L.take i++L.drop (i+1)).length=L.length-1:=by simp;omega
  refine⟨by rw [hl],?_,growB_trans (growB_drew g1) g2⟩;exact R2.own (del_here ht hi (by rw [R.len];omega)) (by rw [hl];omega) hB
 have HR:Hid (∀ty,(Builtin.append_ #[56,56] ty #[.slice (some ⟨g,0,none⟩) i cap,.slice (some A) (L.length-(i+1)) (cap-(i+1))]).run Try.prog w.drew=.ok (.slice (some ⟨g,0,none⟩) (L.length-1) cap) W1):=fun ty=>HR0
 have HC:Hid (∀ty,(Builtin.clear_ #[56] ty #[.slice (some ⟨g,(L.length-1)*2,none⟩) 1 (cap-(L.length-1))]).run Try.prog W1=.ok (.tuple #[]) W2):=fun ty=>HC0
 clear HR0 HC0 R1 R2 g1 g2 R ht h;have i1:(0:Int)≤(i:Int)+1:=by omega
 have i2:(i:Int)+1≤(L.length:Int):=by omega
 have i3:(L.length:Int)≤(cap:Int):=by omega
 have i4:((i:Int)+1).toNat=i+1:=by omega
 have i5:(i:Int)≤(i:Int)+1:=by omega
 have i6:¬ ((i:Int)=(i:Int)+1):=by omega
 have i7:i≤cap:=by omega
 have i8:i+1≤L.length:=by omega
 have i9:L.length-1≤L.length:=by omega
 have i10:L.length-(L.length-1)=1:=by omega
 have i11:¬ (cap=L.length-1):=by omega
 go_enter Try.func62,Try.ntmps62
 go_wp2_with fail
 go_region_law (refine step_run_append rfl (.tmp 22) (.tmp 25) 56 56 rfl _ _ (by simp [Act.eval,Act.put]) (by simp [Act.eval,Act.put]) (HR.out _) ?_)
 have hcl:=HC.out;go_wp2;go_ret;exact HD.out
def InsPost(B g:Nat)(L:List En)(i:Nat)(x:En)(w:World)(e:Ending)(w':World):Prop:=∃g' c',e=.returned (.slice (some ⟨g',0,none⟩) (L.take i++[x]++L.drop i).length c')∧OwE B w' g' c' (L.take i++[x]++L.drop i)∧w.grownBy w' (some g)∧(g'=g∨g'=w.heap.size)
theorem rd_one{w:World}{b:Nat}{x:En}(h:CellsE w b 0 x)(hb:b<w.heap.size):RdE w (some ⟨b,0,none⟩) [x]:=
 .inr ⟨b,0,rfl,hb,fun i hi=>by
   obtain rfl:i=0:=by simpa using hi
   exact h⟩
theorem ins_end{B g cap:Nat}{L:List En}{w:World}(h:OwE B w g cap L)(hBw:B≤w.heap.size)(h8:L.length≤1000)(x:En)(vb:Nat)(hv:CellsE w vb 0 x)(hvl:vb<w.heap.size) :
  Calls Try.prog 61 #[.slice (some ⟨g,0,none⟩) L.length cap,.int .i64 (L.length:Int),.slice (some ⟨vb,0,none⟩) 1 1] w (InsPost B g L L.length x w):=by
 obtain⟨g',c',W1,hr,ho,hg,hn⟩:=run_appendE 56 24 56 Try.underlying56 Try.underlying24 h ⟨vb,0,none⟩ 1 1 [x] rfl (rdE_news (rd_one hv hvl)) (by omega) hBw;have HR:Hid (∀ty,(Builtin.append_ #[56,24] ty #[.slice (some ⟨g,0,none⟩) L.length cap,.slice (some ⟨vb,0,none⟩) 1 1]).run Try.prog w=.ok (.slice (some ⟨g',0,none⟩) (L++[x]).length c') W1):=fun ty=>hr
 have HD:Hid (InsPost B g L L.length x w (.returned (.slice (some ⟨g',0,none⟩) (L++[x]).length c')) W1):=by
  have e:L.take L.length++[x]++L.drop L.length=L++[x]:=by simp
  rw [← e] at ho ⊢;exact⟨g',c',rfl,ho,hg,hn⟩
 have hc:=h.shape.1;clear hr ho hg hn h;generalize (L++[x]).length=n' at HR HD;go_enter Try.func61,Try.ntmps61
 go_wp2_with (at_builtin;refine wpList_run_append rfl _ _ _ _ rfl _ _ rfl rfl (HR.out _) ?_)
 all_goals (go_ret;exact HD.out)
theorem ins_shift{B g cap:Nat}{L:List En}{w:World}(h:OwE B w g cap L)(i:Nat)(hi:i<L.length)(hroom:L.length+1≤cap)(x:En)(vb:Nat)(hv:CellsE w vb 0 x)(hvl:vb<w.heap.size)(hne:vb≠g)(tA:TypeId)(kA:Nat)(hsa:w.shape? vb=some (tA,kA))(hfa:w.frozen? ⟨vb,0,none⟩=false)(hfe:w.frozen? ⟨vb,kA,none⟩=false) :
   Calls Try.prog 61 #[.slice (some ⟨g,0,none⟩) L.length cap,.int .i64 (i:Int),.slice (some ⟨vb,0,none⟩) 1 1] w (InsPost B g L i x w):=by
 obtain⟨X,R,ht,hc,hB⟩:=h.row;have hmx:=R.max;unfold maxLen at hmx;have hxl:=R.len;have hdl:(L.drop i).length=L.length-i:=List.length_drop;have hrd:∀(j:Nat) u,(flatE (L.drop i))[j]? = some u→w.cell? ((⟨g,i*2,none⟩:Addr).add j)=some u:=by
   obtain⟨A,hA,hrd⟩:=RdE.drop (cap:=cap) h.rd i (by omega) hc;rw [if_neg (by omega),Nat.zero_add] at hA;obtain rfl:=Option.some.inj hA;exact rdE_news' hrd
 obtain⟨W1,HR1,R1,g1⟩:=run_copyE (w:=w.drew) 56 56 3 Try.underlying56 (row_drew R) ((i+1)*2) (L.length+1-(i+1)) (cap-(i+1)) ⟨g,i*2,none⟩ (L.length+1-i) (cap-i) (L.drop i) (by rw [hdl];simp only [Nat.min_def];split <;> omega) hrd (by rw [hdl];omega);have hv1:CellsE W1 vb 0 x:=⟨(g1.cell_far ⟨vb,0,none⟩ hvl (by simpa using hne)).trans hv.c0,(g1.cell_far ⟨vb,1,none⟩ hvl (by simpa using hne)).trans hv.c1⟩
 obtain⟨W2,HR2,R2,g2⟩:=run_copyE (w:=W1) 56 24 3 Try.underlying56 R1 (i*2) (L.length+1-i) (cap-i) ⟨vb,0,none⟩ 1 1 [x] (by simp only [Nat.min_def];split <;> simp;omega) (rdE_news (rd_one hv1 (Nat.lt_of_lt_of_le hvl g1.size))) (by simp;omega);have HD:Hid (InsPost B g L i x w (.returned (.slice (some ⟨g,0,none⟩) (L.length+1) cap)) W2):=by
   have hl:(L.take i++[x]++L.drop i).length=L.length+1:=by simp;omega
   refine⟨g,cap,by rw [hl],?_,growB_trans (growB_drew g1) g2,.inl rfl⟩;exact R2.own (ins_here ht (by omega) (by rw [R.len];omega)) (by rw [hl];omega) hB
 have HC1:Hid (∀ty,(Builtin.copy_ #[56,56] ty #[.slice (some ⟨g,(i+1)*2,none⟩) (L.length+1-(i+1)) (cap-(i+1)),.slice (some ⟨g,i*2,none⟩) (L.length+1-i) (cap-i)]).run Try.prog w.drew=.ok (goInt (L.drop i).length) W1):=fun ty=>HR1
 have HC2:Hid (∀ty,(Builtin.copy_ #[56,24] ty #[.slice (some ⟨g,i*2,none⟩) (L.length+1-i) (cap-i),.slice (some ⟨vb,0,none⟩) 1 1]).run Try.prog W1=.ok (goInt 1) W2):=fun ty=>HR2
 have hov:∀lb cb,(callFunc 64 #[.slice (some ⟨vb,0,none⟩) 1 1,.slice (some ⟨g,(i+1)*2,none⟩) lb cb]).run Try.prog w=.ok (.value (.bool false)) w:=fun lb cb=>by
   rw [run_callFunc_extern Try.func64 (by kernel_rfl) (by kernel_rfl) (by kernel_rfl) (e:=Extern.SlicesOverlaps.overlaps #[24,24] #[4]) (by kernel_rfl),
     Lib.run_overlaps_apart w 24 4 38 Try.underlying24 2 (fun w=>by rw [sizeE]) ⟨vb,0,none⟩ ⟨g,(i+1)*2,none⟩ 1 1 lb cb hne tA 38 kA (cap*2) hsa (by simp [World.shape?,R.at_,hxl]) (by omega) hfa hfe]
   rfl
 clear HR1 HR2 R1 R2 g1 g2 R ht h hv hv1 hrd hsa hfa hfe;have hw1:IntKind.i64.wrap ((i:Int)+1)=(i:Int)+1:=by rw [IntKind.wrap_i64];omega
 have hw2:IntKind.i64.wrap ((L.length:Int)+1)=(L.length:Int)+1:=by rw [IntKind.wrap_i64];omega
 have i0:¬ ((i:Int)=(L.length:Int)):=by omega
 have i1:(0:Int)≤(i:Int)+1:=by omega
 have i2:(i:Int)≤(L.length:Int):=by omega
 have i3:(L.length:Int)+1≤(cap:Int):=by omega
 have i4:((i:Int)+1).toNat=i+1:=by omega
 have i5:((L.length:Int)+1).toNat=L.length+1:=by omega
 have i6:¬ ((cap:Int)<(L.length:Int)+1):=by omega
 have i7:¬ (cap=i):=by omega
 have i8:¬ (cap=i+1):=by omega
 have i9:i≤L.length:=by omega
 have i10:i+1≤L.length+1:=by omega
 have i11:i≤L.length+1:=by omega
 have i12:(i:Int)+1≤(L.length:Int)+1:=by omega
 have i13:(i:Int)≤(L.length:Int)+1:=by omega
 have i14:(0:Int)≤(L.length:Int)+1:=by omega
 go_enter Try.func61,Try.ntmps61
 go_wp2_with (simp only [hov])
 go_region_law (refine step_run_copy rfl _ _ 56 56 rfl _ _ (by simp [Act.eval,Act.put]) (by simp [Act.eval,Act.put]) (HC1.out _) ?_)
 have hc2:=HC2.out;go_wp2;go_ret;exact HD.out
theorem ins_zeros{w:World}{g cap:Nat}{X:List Value}{L:List En}(R:Row w g cap X)(ht:X.take (L.length*2)=flatE L)(i:Nat)(hi:i<L.length)(hc:L.length≤cap)(hroom:cap<L.length+1)(h8:L.length≤1000) :
  ∃G Y W1,(∀ty,(Builtin.append_ #[56,3] ty #[.slice (some ⟨g,0,none⟩) i cap,.int .i64 ((L.length:Int)+1-(i:Int))]).run Try.prog w=.ok (.slice (some ⟨w.heap.size,0,none⟩) (L.length+1) G) W1) ∧
   Row W1 w.heap.size G Y∧Y.take (i*2)=flatE (L.take i)∧L.length+1≤G∧Below w.heap.size w W1:=by
 obtain⟨i0,hi0,hz0,hz1,hz2⟩:=info_parts infoE;have hown:OwE 0 w g cap L:=R.own ht hc (Nat.zero_le _);have hrd:=rdE_news ((hown.rd).take i);have hold:(Builtin.firstCells i0.size i (.slice (some ⟨g,0,none⟩) i cap)).run Try.prog w.drew=.ok (flatE (L.take i)).toArray w.drew:=by
  rw [hz1];exact run_firstCells_some w.drew 2 i ⟨g,0,none⟩ i cap (flatE (L.take i)) (by rw [flatE_len,List.length_take];omega) hrd
 have hk:i+(L.length+1-i)=L.length+1:=by omega
 have hr:∀ty,_:=fun ty=>Lib.run_append_grow_zeros w 56 3 ty 38 i0 _ .i64 .i64 Try.underlying56 Try.underlying3 hi0 hz0 (some ⟨g,0,none⟩) i cap (flatE (L.take i)) hold (L.length+1-i) (by omega) (by rw [hz1];omega) (by omega) (by omega) (by rw [hz2];omega) (by rw [hz2,hk];exact growslice_fits hroom (by omega))
 rw [hk] at hr;have hge:=grownCap_ge w (L.length+1) cap 38;have hmx:=grownCap_le_maxLen w (L.length+1) cap 38 (by unfold maxLen;omega);have hl:(flatE (L.take i)).length=i*2:=by rw [flatE_len,List.length_take];omega
 generalize grownCap w (L.length+1) cap 38=G at hr hge hmx;rw [show((L.length+1-i:Nat):Int)=(L.length:Int)+1-(i:Int) by omega] at hr;refine⟨G,(flatE (L.take i))++((Builtin.zeroCells (Value.agg #[.string ⟨#[]⟩,.int .i64 0]).cells (L.length+1-i)).toList++(Builtin.zeroCells (Value.agg #[.string ⟨#[]⟩,.int .i64 0]).cells (G-(L.length+1))).toList),_,hr,⟨?_,?_,hmx⟩,?_,hge,?_⟩
 ·show(w.drew.heap.push _)[w.heap.size]? = _;rw [show w.heap.size=w.drew.heap.size from rfl,Array.getElem?_push_size];simp
 ·have hzc:(Value.agg #[.string ⟨#[]⟩,.int .i64 0]).cells.size=2:=rfl;simp only [List.length_append,Array.length_toList,size_zeroCells,hl,hzc];omega
 ·exact List.take_left' hl
 ·exact(Below.refl w.heap.size w).trans ⟨rfl,rfl,rfl,by simp,fun k hk=>heap_alloc_old w.drew _ hk⟩
theorem ins_grow{B g cap:Nat}{L:List En}{w:World}(h:OwE B w g cap L)(hBw:B≤w.heap.size)(i:Nat)(hi:i<L.length)(hroom:cap<L.length+1)(h8:L.length≤1000)(x:En)(vb:Nat)(hv:CellsE w vb 0 x)(hvl:vb<w.heap.size) :
  Calls Try.prog 61 #[.slice (some ⟨g,0,none⟩) L.length cap,.int .i64 (i:Int),.slice (some ⟨vb,0,none⟩) 1 1] w (InsPost B g L i x w):=by
 obtain⟨X,R,ht,hc,hB⟩:=h.row;have hmx:=R.max;unfold maxLen at hmx;have hdl:(L.drop i).length=L.length-i:=List.length_drop;have hgl:=h.shape.2.2.2;obtain⟨G,Y,W1,HA0,R1,hY,hG,b1⟩:=ins_zeros R ht i hi hc hroom h8;have hmG:=R1.max;unfold maxLen at hmG;obtain⟨W2,HR1,R2,g2⟩:=run_copyE (w:=W1) 56 24 3 Try.underlying56 R1 (i*2) (L.length+1-i) (G-i) ⟨vb,0,none⟩ 1 1 [x] (by simp only [Nat.min_def];split <;> simp;omega) (rdE_news (rd_one (hv.below b1 hvl) (Nat.lt_of_lt_of_le hvl b1.size))) (by simp;omega);have hrd:∀(j:Nat) u,(flatE (L.drop i))[j]? = some u→W2.drew.cell? ((⟨g,i*2,none⟩:Addr).add j)=some u:=by
  obtain⟨A,hA,hrd⟩:=RdE.drop (cap:=cap) h.rd i (by omega) hc;rw [if_neg (by omega),Nat.zero_add] at hA;obtain rfl:=Option.some.inj hA;intro j u hj;have h0:=rdE_news' hrd j u hj;rw [WideShapes.add_plain] at h0 ⊢;exact(g2.cell_far _ (Nat.lt_of_lt_of_le hgl b1.size) (by simp;omega)).trans ((b1.cell hgl).trans h0)
 obtain⟨W3,HR2,R3,g3⟩:=run_copyE (w:=W2.drew) 56 56 3 Try.underlying56 (row_drew R2) ((i+1)*2) (L.length+1-(i+1)) (G-(i+1)) ⟨g,i*2,none⟩ (L.length-i) (cap-i) (L.drop i) (by rw [hdl];simp only [Nat.min_def];split <;> omega) hrd (by rw [hdl];omega);have HD:Hid (InsPost B g L i x w (.returned (.slice (some ⟨w.heap.size,0,none⟩) (L.length+1) G)) W3):=by
  have hl:(L.take i++[x]++L.drop i).length=L.length+1:=by simp;omega
  refine⟨w.heap.size,G,by rw [hl],R3.own (ins_new hY (by omega) (by rw [R1.len];omega)) (by rw [hl];omega) hBw,?_,.inr rfl⟩;have g23:=growB_trans g2 (growB_drew g3);refine⟨g23.os.trans b1.os,g23.tape.trans b1.tape,g23.output.trans b1.output,Nat.le_trans b1.size g23.size,fun k hk _=>?_⟩;exact(g23.block k (Nat.lt_of_lt_of_le hk b1.size) (by simp;omega)).trans (b1.block k hk)
 have HA:Hid (∀ty,(Builtin.append_ #[56,3] ty #[.slice (some ⟨g,0,none⟩) i cap,.int .i64 ((L.length:Int)+1-(i:Int))]).run Try.prog w=.ok (.slice (some ⟨w.heap.size,0,none⟩) (L.length+1) G) W1):=HA0;have HC1:Hid (∀ty,(Builtin.copy_ #[56,24] ty #[.slice (some ⟨w.heap.size,i*2,none⟩) (L.length+1-i) (G-i),.slice (some ⟨vb,0,none⟩) 1 1]).run Try.prog W1=.ok (goInt 1) W2):=fun ty=>HR1
 have HC2:Hid (∀ty,(Builtin.copy_ #[56,56] ty #[.slice (some ⟨w.heap.size,(i+1)*2,none⟩) (L.length+1-(i+1)) (G-(i+1)),.slice (some ⟨g,i*2,none⟩) (L.length-i) (cap-i)]).run Try.prog W2.drew=.ok (goInt (L.drop i).length) W3):=fun ty=>HR2
 clear HA0 HR1 HR2 R1 R2 R3 g2 g3 R ht h hv hrd b1 hY;generalize w.heap.size=gn at HA HC1 HC2 HD;have hw1:IntKind.i64.wrap ((i:Int)+1)=(i:Int)+1:=by rw [IntKind.wrap_i64];omega
 have hw2:IntKind.i64.wrap ((L.length:Int)+1)=(L.length:Int)+1:=by rw [IntKind.wrap_i64];omega
 have i0:¬ ((i:Int)=(L.length:Int)):=by omega
 have i1:(0:Int)≤(i:Int)+1:=by omega
 have i2:(i:Int)≤(L.length:Int):=by omega
 have i4:((i:Int)+1).toNat=i+1:=by omega
 have i6:(cap:Int)<(L.length:Int)+1:=by omega
 have i7:¬ (cap=i):=by omega
 have i8:¬ (G=i+1):=by omega
 have i9:i≤L.length:=by omega
 have i10:i+1≤L.length+1:=by omega
 have i11:i≤L.length+1:=by omega
 have i12:(i:Int)+1≤(L.length:Int)+1:=by omega
 have i13:(i:Int)≤(L.length:Int)+1:=by omega
 have i14:¬ (G=i):=by omega
 have i15:i≤cap:=by omega
 have hc1:=HC1.out;go_enter Try.func61,Try.ntmps61
 go_wp2_with (at_builtin;refine wpList_run_append rfl _ _ _ _ rfl _ _ rfl rfl (HA.out _) ?_)
 go_region_law (refine step_run_copy rfl _ _ 56 56 rfl _ _ (by simp [Act.eval,Act.put]) (by simp [Act.eval,Act.put]) (HC2.out _) ?_)
 go_wp2;go_ret;exact HD.out
end Bk
namespace Bk
def cmpB(a b:ByteArray):Int:=Lib.compareBytes a.data.toList b.data.toList
theorem cmp_less:∀a b:List UInt8,(Lib.compareBytes a b<0↔Op.bytesLess a b=true)∧(Lib.compareBytes a b=0↔a=b):=by
 intro a;induction a with
 | nil=>intro b;cases b <;> simp [Lib.compareBytes,Op.bytesLess]
 | cons x a ih=>
  intro b
  cases b with
  | nil=>simp [Lib.compareBytes,Op.bytesLess]
  | cons y b=>
   obtain⟨h1,h2⟩:=ih b;unfold Lib.compareBytes;simp only [Op.bytesLess,Bool.or_eq_true,Bool.and_eq_true,decide_eq_true_eq,beq_iff_eq,List.cons.injEq];by_cases hlt:x<y
   ·have hne:x≠y:=fun e=>by subst e;exact UInt8.lt_irrefl x hlt
    simp [hlt,hne]
   ·by_cases hgt:y<x
    ·have hne:x≠y:=fun e=>by subst e;exact UInt8.lt_irrefl x hgt
     simp [hlt,hgt,hne]
    ·have he:x=y:=UInt8.le_antisymm (UInt8.not_lt.1 hgt) (UInt8.not_lt.1 hlt);subst he;simp [hlt,h1,h2]
theorem cmp_lt(a b:ByteArray):cmpB a b<0↔lt a b=true:=by
 unfold lt;rw [ByteArray.toList_eq,ByteArray.toList_eq];exact(cmp_less _ _).1
theorem cmp_same(a b:ByteArray):cmpB a b=0↔same a b=true:=by
 unfold same;rw [ByteArray.toList_eq,ByteArray.toList_eq,beq_iff_eq];exact(cmp_less _ _).2
theorem compareString(a b:ByteArray)(w:World):Calls Try.prog 59 #[.string a,.string b] w fun e w'=>e=.returned (.int .i64 (cmpB a b))∧w'=w:=by
 have hx:∀W:World,(callFunc 63 #[.string a,.string b]).run Try.prog W=.ok (.value (.int .i64 (cmpB a b))) W:=fun W=>by
  rw [run_callFunc_extern Try.func63 (by kernel_rfl) (by kernel_rfl) (by kernel_rfl) (e:=Extern.BytealgCompare.compare) (by kernel_rfl),Lib.run_compareString];rfl
 generalize cmpB a b=z at hx ⊢;go_enter Try.func59,Try.ntmps59
 go_wp2_with (simp only [hx])
 go_ret;exact⟨rfl,rfl⟩
theorem compare(a b:ByteArray)(w:World):Calls Try.prog 51 #[.string a,.string b] w fun e w'=>e=.returned (.int .i64 (cmpB a b))∧w'=w:=by
 go_enter Try.func51,Try.ntmps51
 go_wp2_with (go_at_call 59;refine(compareString a b _).mono ?_;rintro e w' ⟨rfl,rfl⟩)
 go_ret;exact⟨rfl,rfl⟩
theorem place1(k key:ByteArray)(v:Int)(w:World):Calls Try.prog 50 #[.agg #[.string k,.int .i64 v],.string key] w fun e w'=>e=.returned (.int .i64 (cmpB k key))∧Below w.heap.size w w':=by
 have HB:Hid (∀o:Obj,Below w.heap.size w (w.alloc o)):=fun o=>(Below.refl _ _).alloc (Nat.le_refl _) o
 go_enter Try.func50,Try.ntmps50
 go_wp2_with (go_at_call 51;refine(compare k key _).mono ?_;rintro e w' ⟨rfl,rfl⟩)
 go_ret;exact⟨rfl,HB.out _⟩
theorem rises_lt{L:List En}(h:Rises L){a b:Nat}(hab:a<b)(hb:b<L.length):lt (atE L a).key (atE L b).key=true:=by
 rw [atE_get L a (by omega),atE_get L b hb];have:=(List.pairwise_iff_getElem.1 h) a b (by simp;omega) (by simpa using hb) hab;simpa using this
theorem rises_below{L:List En}(h:Rises L){key:ByteArray}{a b:Nat}(hab:a≤b)(hb:b<L.length)(hk:lt (atE L b).key key=true):lt (atE L a).key key=true:=by
 by_cases e:a=b
 ·rw [e];exact hk
 ·exact lt_trans (rises_lt h (by omega) hb) hk
theorem search(ao:Option Addr)(cap:Nat)(L:List En)(key:ByteArray)(w:World)(hl:L.length≤1048600)(hr:RdE w ao L)(hs:Rises L) :
  Calls Try.prog 49 #[.slice ao L.length cap,.string key,.func (.func 50) #[] #[]] w fun e w'=>e=.returned (.tuple #[.int .i64 (findN L key:Int),.bool (hasB L key)])∧Below w.heap.size w w':=by
 have HS:Hid (Rises L):=hs;clear hs;go_enter Try.func49,Try.ntmps49
 go_wp2;go_loopw [9,10] (fun s9 s10 wr=>∃lo hi:Nat,lo≤hi∧hi≤L.length∧s9=.int .i64 lo∧s10=.int .i64 hi∧Hid (∀i,i<lo→lt (atE L i).key key=true)∧Hid (∀i,hi≤i→i<L.length→lt (atE L i).key key=false)∧Hid (Below w.heap.size w wr)) (fun s9 s10 _=>(intOf s10-intOf s9).toNat)
 case atStart=>exact⟨0,L.length,by omega,Nat.le_refl _,rfl,rfl,fun i hi=>absurd hi (Nat.not_lt_zero i),fun i h1 h2=>by omega,Below.refl _ _⟩
 case round=>
  obtain⟨lo,hi,hlh,hin,rfl,rfl,HA,HZ,HB⟩:=hrel;by_cases hlt:lo<hi
  ·obtain⟨m,hm⟩:∃m,m=(lo+hi) / 2:=⟨_,rfl⟩
   have hmi:((lo:Int)+(hi:Int)) / 2=(m:Int):=by omega
   have hml:m<L.length:=by omega
   have HM:Hid (lo≤m∧m<hi):=by constructor <;> omega
   clear hm;obtain⟨g,off,rfl,hg,hc⟩:=hr.at m hml;obtain⟨c0,c1⟩:=hc.below HB.out hg;clear hc;have HP:Hid (_):=fun W=>place1 (atE L m).key key (atE L m).val W
   have HX:Hid (_):=cmp_lt (atE L m).key key;generalize cmpB (atE L m).key key=z at HP HX;by_cases hz:z<0
   ·have HA1:Hid (∀i,i<m+1→lt (atE L i).key key=true):=fun i hi=>rises_below HS.out (by omega) hml (HX.out.1 hz)
    clear HX HA;go_wp2_with (go_at_call 50;refine(HP.out wr).mono ?_;rintro e w1 ⟨rfl,b1⟩)
    have HB1:Hid (Below w.heap.size w w1):=HB.out.trans (b1.mono HB.out.size);clear HP HB b1 c0 c1;go_wp2;go_roundw
    case rel=>exact⟨m+1,hi,by have:=HM.out;omega,hin,by go_num,rfl,HA1,HZ,HB1⟩
    case measure=>have:=HM.out;simp [intOf];omega
   ·have HZ1:Hid (∀i,m≤i→i<L.length→lt (atE L i).key key=false):=fun i h1 h2=>by
     cases hq:lt (atE L i).key key
     ·rfl
     ·exact absurd (HX.out.2 (rises_below HS.out h1 h2 hq)) hz
    clear HX HZ;go_wp2_with (go_at_call 50;refine(HP.out wr).mono ?_;rintro e w1 ⟨rfl,b1⟩)
    have HB1:Hid (Below w.heap.size w w1):=HB.out.trans (b1.mono HB.out.size);clear HP HB b1 c0 c1;go_wp2;go_roundw
    case rel=>exact⟨lo,m,by have:=HM.out;omega,by omega,rfl,rfl,HA,HZ1,HB1⟩
    case measure=>have:=HM.out;simp [intOf];omega
  ·obtain rfl:hi=lo:=by omega
   by_cases hn:hi<L.length
   ·obtain⟨e1,e2⟩:=findN_stop hn HA.out (HZ.out hi (Nat.le_refl _) hn);obtain⟨g,off,rfl,hg,hc⟩:=hr.at hi hn;obtain⟨c0,c1⟩:=hc.below HB.out hg;have HP:Hid (_):=fun W=>place1 (atE L hi).key key (atE L hi).val W
    have HX:Hid (_):=cmp_same (atE L hi).key key;have H1:Hid (findN L key=hi):=e1;have H2:Hid (hasB L key=same (atE L hi).key key):=e2;generalize cmpB (atE L hi).key key=z at HP HX;clear hc e1 e2 HA HZ;by_cases hz:z=0
    ·have H3:Hid (hasB L key=true):=H2.out.trans (HX.out.1 hz);clear HX H2;go_wp2_with (go_at_call 50;refine(HP.out wr).mono ?_;rintro e w1 ⟨rfl,b1⟩)
     have HB1:Hid (Below w.heap.size w w1):=HB.out.trans (b1.mono HB.out.size);clear HP HB b1 c0 c1;go_wp2;go_ret2
     exact⟨ret_ib (congrArg Int.ofNat H1.out.symm) H3.out.symm,HB1.out⟩
    ·have H3:Hid (hasB L key=false):=by
      show _=_;rw [H2.out]
      cases hq:same (atE L hi).key key
      ·rfl
      ·exact absurd (HX.out.2 hq) hz
     clear HX H2;go_wp2_with (go_at_call 50;refine(HP.out wr).mono ?_;rintro e w1 ⟨rfl,b1⟩)
     have HB1:Hid (Below w.heap.size w w1):=HB.out.trans (b1.mono HB.out.size);clear HP HB b1 c0 c1;go_wp2;go_ret2
     exact⟨ret_ib (congrArg Int.ofNat H1.out.symm) (by rw [H3.out];simpa using hz),HB1.out⟩
   ·obtain rfl:hi=L.length:=by omega
    obtain⟨e1,e2⟩:=findN_full HA.out;have H1:Hid (findN L key=L.length):=e1;have H2:Hid (hasB L key=false):=e2;clear e1 e2 HA HZ;go_wp2;go_ret2
    exact⟨ret_ib (congrArg Int.ofNat H1.out.symm) H2.out.symm,HB.out⟩
theorem place(ao:Option Addr)(cap:Nat)(L:List En)(key:ByteArray)(w:World)(hl:L.length≤1048600)(hr:RdE w ao L)(hs:Rises L) :
  Calls Try.prog 33 #[.slice ao L.length cap,.string key] w fun e w'=>e=.returned (.tuple #[.int .i64 (findN L key:Int),.bool (hasB L key)])∧Below w.heap.size w w':=by
 have H:Hid (Calls Try.prog 49 #[.slice ao L.length cap,.string key,.func (.func 50) #[] #[]] w fun e w'=>e=.returned (.tuple #[.int .i64 (findN L key:Int),.bool (hasB L key)])∧Below w.heap.size w w'):=search ao cap L key w hl hr hs;generalize findN L key=n at H ⊢;generalize hasB L key=b at H ⊢;go_enter Try.func33,Try.ntmps33
 go_wp2_with (go_at_call 49;refine Calls.mono H.out ?_;rintro e w1 ⟨rfl,b1⟩)
 have HB:Hid (Below w.heap.size w w1):=b1;clear b1 H;go_wp2;go_ret2
 exact⟨rfl,HB.out⟩
end Bk
namespace De
theorem isKey(s:ByteArray)(w:World)(hs:s.size≤1099511627776):Calls Try.prog 46 #[.string s] w fun e w'=>e=.returned (.bool (keyB s))∧w=w':=by
 by_cases h1:s.size<1
 ·have H:Hid (keyB s=false):=by
   show _=false;have:decide (1≤s.size)=false:=decide_eq_false (by omega);unfold keyB;rw [this,Bool.false_and,Bool.and_false]
  have h1':(s.size:Int)<1:=by omega
  go_enter Try.func46,Try.ntmps46
  go_wp2;go_ret;exact⟨Base.ret_bool H.out.symm,rfl⟩
 have h1':¬ (s.size:Int)<1:=by omega
 by_cases h3:3<s.size
 ·have H:Hid (keyB s=false):=by
   show _=false;have:decide (s.size≤3)=false:=decide_eq_false (by omega);unfold keyB;rw [this,Bool.and_false,Bool.and_false]
  have h3':(3:Int)<(s.size:Int):=by omega
  go_enter Try.func46,Try.ntmps46
  go_wp2;go_ret;exact⟨Base.ret_bool H.out.symm,rfl⟩
 have h3':¬ (3:Int)<(s.size:Int):=by omega
 go_enter Try.func46,Try.ntmps46
 go_wp2;go_loop [14] (fun i=>∃k:Nat,k≤s.size∧i=.int .i64 k∧Hid ((s.data.toList.take k).all okL=true)) (fun i=>s.size-(intOf i).toNat)
 case atStart=>exact⟨0,Nat.zero_le _,rfl,rfl⟩
 case round=>
  obtain⟨k,hk,rfl,HA⟩:=hrel;by_cases hlt:k<s.size
  ·have HS:Hid ((s.data.toList.take (k+1)).all okL=((s.data.toList.take k).all okL&&okL s[k])):=allL_snoc s k hlt;have HO:Hid (okL s[k]=true↔(97≤(s[k].toNat:Int)∧(s[k].toNat:Int)≤122)):=by
    show _↔_;simp [okL];omega
   have HB:Hid (okL s[k]=false→keyB s=false):=by
    intro h;have hm:s[k]∈s.data.toList:=by
     have hk2:k<s.data.toList.length:=by simpa using hlt
     have e:s[k]=s.data.toList[k]:=rfl;rw [e];exact List.getElem_mem hk2
    unfold keyB;have:s.data.toList.all okL=false:=by
     rw [List.all_eq_false];exact⟨s[k],hm,by simp [h]⟩
    rw [this];rfl
   by_cases c1:(97:Int)≤(s[k].toNat:Int)∧(s[k].toNat:Int)≤122
   ·have HC:Hid ((s.data.toList.take (k+1)).all okL=true):=by
     show _=true;rw [HS.out,HA.out,HO.out.2 c1];rfl
    obtain⟨c1,c1'⟩:=c1;clear HS HO HB;go_wp2;go_round
    case rel=>exact⟨k+1,by omega,by go_num,HC⟩
    case measure=>simp [intOf];omega
   ·have HC:Hid (keyB s=false):=by
     apply HB.out
     cases h:okL s[k]
     ·rfl
     ·exfalso;exact c1 (HO.out.1 h)
    clear HS HO HB HA;by_cases d1:(s[k].toNat:Int)<97
    ·clear c1;go_wp2;go_ret;exact⟨Base.ret_bool HC.out.symm,rfl⟩
    ·have d4:122<(s[k].toNat:Int):=by omega
     clear c1;go_wp2;go_ret;exact⟨Base.ret_bool HC.out.symm,rfl⟩
  ·have hk':k=s.size:=by omega
   have HT:Hid (keyB s=true):=by
    show _=_;unfold keyB;have:=HA.out;rw [hk',Kn.take_all] at this;rw [this,Bool.true_and];simp;omega
   go_wp2;go_ret;exact⟨Base.ret_bool HT.out.symm,rfl⟩
def numB(n:Int):Bool:=decide (0≤n)&&decide (n≤99)
theorem isNumber(n:Int)(w:World):Calls Try.prog 47 #[.int .i64 n] w fun e w'=>e=.returned (.bool (numB n))∧w=w':=by
 by_cases h1:0≤n
 ·go_enter Try.func47,Try.ntmps47
  go_wp2;go_ret;exact⟨Base.ret_bool (by simp [numB,h1]),rfl⟩
 ·go_enter Try.func47,Try.ntmps47
  go_wp2;go_ret;exact⟨Base.ret_bool (by simp [numB];omega),rfl⟩
theorem implDeedOk(kind:Int)(key:ByteArray)(val new:Int)(w:World)(hs:key.size≤1099511627776):Calls Try.prog 31 #[.agg #[.int .i64 kind,.string key,.int .i64 val,.int .i64 new]] w fun e w'=>
  e=.returned (.bool (okD ⟨kind,key,val,new⟩))∧Below w.heap.size w w':=by
 have HO:Hid (okD ⟨kind,key,val,new⟩=((decide (1≤kind)&&decide (kind≤4))&&(keyB key&&(numB val&&(numB new&&(((kind != 2) || (val == 0))&&((kind == 4) || (new == 0)))))))):=rfl;have HK:Hid (∀W:World,Calls Try.prog 46 #[.string key] W fun e w'=>e=.returned (.bool (keyB key))∧W=w'):=fun W=>isKey key W hs
 have HN:Hid (∀(n:Int) (W:World),Calls Try.prog 47 #[.int .i64 n] W fun e w'=>e=.returned (.bool (numB n))∧W=w'):=fun n W=>isNumber n W
 have B1:Hid (∀o:Obj,Below w.heap.size w (w.alloc o)):=fun o=>(Below.refl _ _).alloc (Nat.le_refl _) o
 generalize okD ⟨kind,key,val,new⟩=ok at HO ⊢;generalize keyB key=b2 at HO HK;have E6:Hid ((val == 0) = !(val != 0)):=by show _=_;simp [bne]
 have E8:Hid ((new == 0) = !(new != 0)):=by show _=_;simp [bne]
 generalize h6:(val != 0)=b6 at E6;generalize h8:(new != 0)=b8 at E8;generalize h3:numB val=b3 at HO;generalize h4:numB new=b4 at HO;have H3:Hid (numB val=b3):=h3;have H4:Hid (numB new=b4):=h4;clear hs h3 h4;rcases(show kind=1∨kind=2∨kind=3∨kind=4∨(kind<1∨4<kind) by omega) with rfl | rfl | rfl | rfl | hk
 case inr.inr.inr.inr=>
  have HF:Hid (ok=false):=by
   show _=_;rw [HO.out];rcases hk with h | h
   ·rw [show decide (1≤kind)=false from by simp;omega];rfl
   ·rw [show decide (kind≤4)=false from by simp;omega,Bool.and_false];rfl
  have k1:(kind == 1)=false:=by simp;omega
  have k2:(kind == 2)=false:=by simp;omega
  have k3:(kind == 3)=false:=by simp;omega
  have k4:(kind == 4)=false:=by simp;omega
  clear HO hk HK HN;go_enter Try.func31,Try.ntmps31
  go_wp2;go_ret;exact⟨Base.ret_bool HF.out.symm,B1.out _⟩
 case inl=>
  rcases(show(b8=true)∨(b8=false∧b2=false)∨(b8=false∧b2=true∧b3=false)∨(b8=false∧b2=true∧b3=true∧b4=false)∨(b8=false∧b2=true∧b3=true∧b4=true) by cases b8 <;> cases b2 <;> cases b3 <;> cases b4 <;> simp) with rfl | ⟨rfl,rfl⟩ | ⟨rfl,rfl,rfl⟩ | ⟨rfl,rfl,rfl,rfl⟩ | ⟨rfl,rfl,rfl,rfl⟩
  all_goals
   go_enter Try.func31,Try.ntmps31
   go_wp2_with (first | (go_at_call 46;refine(HK.out _).mono ?_;rintro e w' ⟨rfl,rfl⟩) | (go_at_call 47;refine(HN.out _ _).mono ?_;rintro e w' ⟨rfl,rfl⟩;first | rw [H3.out] | rw [H4.out]))
   go_ret;exact⟨Base.ret_bool (by rw [HO.out,E6.out,E8.out];first | rfl | simp),B1.out _⟩
 case inr.inl=>
  rcases(show(b6=true)∨(b6=false∧b8=true)∨(b6=false∧b8=false∧b2=false)∨(b6=false∧b8=false∧b2=true∧b3=false)∨(b6=false∧b8=false∧b2=true∧b3=true∧b4=false)∨(b6=false∧b8=false∧b2=true∧b3=true∧b4=true) by cases b6 <;> cases b8 <;> cases b2 <;> cases b3 <;> cases b4 <;> simp) with rfl | ⟨rfl,rfl⟩ | ⟨rfl,rfl,rfl⟩ | ⟨rfl,rfl,rfl,rfl⟩ | ⟨rfl,rfl,rfl,rfl,rfl⟩ | ⟨rfl,rfl,rfl,rfl,rfl⟩
  all_goals
   go_enter Try.func31,Try.ntmps31
   go_wp2_with (first | (go_at_call 46;refine(HK.out _).mono ?_;rintro e w' ⟨rfl,rfl⟩) | (go_at_call 47;refine(HN.out _ _).mono ?_;rintro e w' ⟨rfl,rfl⟩;first | rw [H3.out] | rw [H4.out]))
   go_ret;exact⟨Base.ret_bool (by rw [HO.out,E6.out,E8.out];first | rfl | simp),B1.out _⟩
 case inr.inr.inl=>
  rcases(show(b8=true)∨(b8=false∧b2=false)∨(b8=false∧b2=true∧b3=false)∨(b8=false∧b2=true∧b3=true∧b4=false)∨(b8=false∧b2=true∧b3=true∧b4=true) by cases b8 <;> cases b2 <;> cases b3 <;> cases b4 <;> simp) with rfl | ⟨rfl,rfl⟩ | ⟨rfl,rfl,rfl⟩ | ⟨rfl,rfl,rfl,rfl⟩ | ⟨rfl,rfl,rfl,rfl⟩
  all_goals
   go_enter Try.func31,Try.ntmps31
   go_wp2_with (first | (go_at_call 46;refine(HK.out _).mono ?_;rintro e w' ⟨rfl,rfl⟩) | (go_at_call 47;refine(HN.out _ _).mono ?_;rintro e w' ⟨rfl,rfl⟩;first | rw [H3.out] | rw [H4.out]))
   go_ret;exact⟨Base.ret_bool (by rw [HO.out,E6.out,E8.out];first | rfl | simp),B1.out _⟩
 case inr.inr.inr.inl=>
  rcases(show(b2=false)∨(b2=true∧b3=false)∨(b2=true∧b3=true∧b4=false)∨(b2=true∧b3=true∧b4=true) by cases b2 <;> cases b3 <;> cases b4 <;> simp) with rfl | ⟨rfl,rfl⟩ | ⟨rfl,rfl,rfl⟩ | ⟨rfl,rfl,rfl⟩
  all_goals
   go_enter Try.func31,Try.ntmps31
   go_wp2_with (first | (go_at_call 46;refine(HK.out _).mono ?_;rintro e w' ⟨rfl,rfl⟩) | (go_at_call 47;refine(HN.out _ _).mono ?_;rintro e w' ⟨rfl,rfl⟩;first | rw [H3.out] | rw [H4.out]))
   go_ret;exact⟨Base.ret_bool (by rw [HO.out,E6.out,E8.out];first | rfl | simp),B1.out _⟩
end De
namespace Bk
open De (D okD keyB)
def valOk(v:Int):Bool:=decide (0≤v)&&decide (v≤9999)
theorem isValue(v:Int)(w:World):Calls Try.prog 52 #[.int .i64 v] w fun e w'=>e=.returned (.bool (valOk v))∧w=w':=by
 by_cases h1:0≤v
 ·go_enter Try.func52,Try.ntmps52
  go_wp2;go_ret;exact⟨Base.ret_bool (by simp [valOk,h1]),rfl⟩
 ·go_enter Try.func52,Try.ntmps52
  go_wp2;go_ret;exact⟨Base.ret_bool (by simp [valOk];omega),rfl⟩
theorem isEntry(k:ByteArray)(v:Int)(w:World)(hk:k.size≤1099511627776):Calls Try.prog 45 #[.agg #[.string k,.int .i64 v]] w fun e w'=>e=.returned (.bool (keyB k&&valOk v))∧Below w.heap.size w w':=by
 have HK:Hid (∀W:World,Calls Try.prog 46 #[.string k] W fun e w'=>e=.returned (.bool (keyB k))∧W=w'):=fun W=>De.isKey k W hk
 have HV:Hid (∀W:World,Calls Try.prog 52 #[.int .i64 v] W fun e w'=>e=.returned (.bool (valOk v))∧W=w'):=fun W=>isValue v W
 have HB:Hid (∀o:Obj,Below w.heap.size w (w.alloc o)):=fun o=>(Below.refl _ _).alloc (Nat.le_refl _) o
 clear hk;generalize keyB k=b1 at HK ⊢;generalize valOk v=b2 at HV ⊢
 cases b1 <;> cases b2
 all_goals
  go_enter Try.func45,Try.ntmps45
  go_wp2_with (first | (go_at_call 46;refine(HK.out _).mono ?_;rintro e w' ⟨rfl,rfl⟩) | (go_at_call 52;refine(HV.out _).mono ?_;rintro e w' ⟨rfl,rfl⟩))
  go_ret;exact⟨rfl,HB.out _⟩
theorem step_is(L:List En)(j:Nat):stepB L j=((keyB (atE L j).key&&valOk (atE L j).val)&&(decide (j=0) || lt (atE L (j-1)).key (atE L j).key)):=by
 have e:(!(lt (atE L j).key (atE L (j-1)).key || same (atE L j).key (atE L (j-1)).key))=lt (atE L (j-1)).key (atE L j).key:=by
  rw [Bool.eq_iff_iff];exact step_lt
 unfold stepB valOk;rw [e]
def LookPost(L:List En)(w:World)(e:Ending)(w':World):Prop:=Below w.heap.size w w' ∧
 ((okBook L=false∧e=.returned (.tuple #[.slice none 0 0,.bool false]))∨(okBook L=true∧∃g c,e=.returned (.tuple #[.slice (some ⟨g,0,none⟩) L.length c,.bool true])∧OwE w.heap.size w' g c L))
theorem run_append_noneE{w:World}(t tx ty:TypeId)(ht:Try.prog.underlying t=some (.slice 38))(htx:Try.prog.underlying tx=some (.slice 38)){B g c:Nat}{A:List En}(hown:OwE B w g c A)(c0:Nat) :
  (Builtin.append_ #[t,tx] ty #[.slice (some ⟨g,0,none⟩) A.length c,.slice none 0 c0]).run Try.prog w=.ok (.slice (some ⟨g,0,none⟩) A.length c) w:=by
 obtain⟨i0,hi,hz0,hz1,hz2⟩:=info_parts infoE;have hnc:=hown.shape.1;simp [Builtin.append_,run_underlying ht,run_underlying htx,sizeOf,typeInfo,hi,Builtin.lenOf,Builtin.firstCells,hnc,storeCells]
theorem copy_own{w:World}(ao:Option Addr)(cap:Nat)(L:List En)(hl:L.length≤1048600)(hr:RdE w ao L) :
  ∃g c w',(Builtin.append_ #[56,24] 56 #[.slice (some ⟨w.heap.size,0,none⟩) 0 0,.slice ao L.length cap]).run Try.prog (w.alloc (.cells #[] 38))=.ok (.slice (some ⟨g,0,none⟩) L.length c) w'∧OwE w.heap.size w' g c L∧Below w.heap.size w w':=by
 have b0:Below w.heap.size w (w.alloc (.cells #[] 38)):=(Below.refl _ _).alloc (Nat.le_refl _) _
 cases ao with
 | none=>
  obtain rfl:L=[]:=by
   rcases hr with h | ⟨_,_,h,_⟩
   ·exact h
   ·cases h
  have h:=run_append_noneE (w:=w.alloc (.cells #[] 38)) 56 24 56 Try.underlying56 Try.underlying24 (B:=w.heap.size) (g:=w.heap.size) (c:=0) (A:=[]) (owE_new w) cap;rw [List.length_nil] at h ⊢;exact⟨w.heap.size,0,_,h,owE_new w,b0⟩
 | some ad=>
  obtain⟨g,c,w',h1,h2,h3,_⟩:=run_appendE 56 24 56 Try.underlying56 Try.underlying24 (owE_new w) ad L.length cap L rfl (rdE_news' (hr.below b0)) (by simp;omega) b0.size;rw [List.nil_append] at h1 h2;exact⟨g,c,w',h1,h2,b0.grown h3 b0.size (fun k hk=>by simp at hk;omega)⟩
theorem bookOf(ao:Option Addr)(cap:Nat)(L:List En)(w:World)(hl:L.length≤1048600)(hk:∀e∈L,e.key.size≤1099511627776)(hr:RdE w ao L) :
  Calls Try.prog 30 #[.slice ao L.length cap] w (LookPost L w):=by
 by_cases h8:8<L.length
 ·have h8':(8:Int)<(L.length:Int):=by omega
  have HF:Hid (LookPost L w (.returned (.tuple #[.slice none 0 0,.bool false])) w):=⟨Below.refl _ _,.inl ⟨by unfold okBook;rw [show decide (L.length≤8)=false from decide_eq_false (by omega),Bool.and_false],rfl⟩⟩
  clear hk hr;go_enter Try.func30,Try.ntmps30
  go_wp2;go_ret2
  exact HF.out
 have h8':¬ (8:Int)<(L.length:Int):=by omega
 have HKY:Hid (∀j,j<L.length→∀W:World,Calls Try.prog 45 #[.agg #[.string (atE L j).key,.int .i64 (atE L j).val]] W fun e w'=>e=.returned (.bool (keyB (atE L j).key&&valOk (atE L j).val))∧Below W.heap.size W w'):=fun j hj W=>isEntry _ _ W (hk _ (atE_mem L j hj))
 have HLN:Hid (okBook L=(okTo L L.length&&true)):=by
  show _=_;unfold okBook;rw [show decide (L.length≤8)=true from decide_eq_true (by omega)]
 have HBAD:Hid (∀j w',j<L.length→stepB L j=false→Below w.heap.size w w'→LookPost L w (.returned (.tuple #[.slice none 0 0,.bool false])) w'):=fun j w' hj hs hb=>⟨hb,.inl ⟨by rw [HLN.out,okTo_stop hj hs];rfl,rfl⟩⟩
 have HEND:Hid (∀W:World,okTo L L.length=true→Below w.heap.size w W→∃g c w',(Builtin.append_ #[56,24] 56 #[.slice (some ⟨W.heap.size,0,none⟩) 0 0,.slice ao L.length cap]).run Try.prog (W.alloc (.cells #[] 38))=.ok (.slice (some ⟨g,0,none⟩) L.length c) w'∧LookPost L w (.returned (.tuple #[.slice (some ⟨g,0,none⟩) L.length c,.bool true])) w'):=fun W ho hb=>by
  obtain⟨g,c,w',h1,h2,h3⟩:=copy_own ao cap L hl (hr.below hb);exact⟨g,c,w',h1,hb.trans (h3.mono hb.size),.inr ⟨by rw [HLN.out,ho];rfl,g,c,rfl,h2.mono hb.size⟩⟩
 clear hk HLN;go_enter Try.func30,Try.ntmps30
 go_wp2;go_loopw [11] (fun i wr=>∃j:Nat,j≤L.length∧i=.int .i64 j∧Hid (okTo L j=true)∧Hid (Below w.heap.size w wr)) (fun i _=>L.length-(intOf i).toNat)
 case atStart=>exact⟨0,by omega,rfl,rfl,Below.refl _ _⟩
 case round=>
  obtain⟨j,hj,rfl,HA,HB⟩:=hrel;by_cases hlt:j<L.length
  ·obtain⟨g,off,rfl,hg,hc⟩:=hr.at j hlt;have HKJ:Hid (_):=HKY.out j hlt;have HN:Hid (∀w',stepB L j=false→Below w.heap.size w w'→LookPost L w (.returned (.tuple #[.slice none 0 0,.bool false])) w'):=fun w'=>HBAD.out j w' hlt
   have HY:Hid (stepB L j=true→okTo L (j+1)=true):=fun h=>by rw [okTo_succ,HA.out,h];rfl
   have HS:Hid (_):=step_is L j;have HP:Hid (0<j→∀z,Below wr.heap.size wr z→z.cell? ⟨g,off+(j-1)*2,none⟩=some (.string (atE L (j-1)).key)):=fun h z hz=>(((hr.on (j-1) (by omega)).2.below HB.out hg).below hz (Nat.lt_of_lt_of_le hg HB.out.size)).c0
   obtain⟨c0,c1⟩:=hc.below HB.out hg;clear hc HA HKY HBAD HEND hr;have HQ:Hid (lt (atE L (j-1)).key (atE L j).key=Op.bytesLess (atE L (j-1)).key.toList (atE L j).key.toList):=rfl;generalize stepB L j=sj at HN HY HS;generalize (keyB (atE L j).key&&valOk (atE L j).val)=b1 at HKJ HS;generalize lt (atE L (j-1)).key (atE L j).key=b2 at HS HQ;generalize (atE L (j-1)).key=kp at HP HQ;generalize (atE L j).key=kj at c0 HKJ HQ;generalize (atE L j).val=vj at c1 HKJ;have HB7:Hid (Below wr.heap.size wr (wr.alloc (.cells #[.string kj,.int .i64 vj] 38))):=(Below.refl _ _).alloc (Nat.le_refl _) _;have HB6:Hid (Below w.heap.size w (wr.alloc (.cells #[.string kj,.int .i64 vj] 38))):=HB.out.trans (HB7.out.mono HB.out.size)
   cases b1
   ·have HR:Hid (sj=false):=by show _=_;rw [HS.out];rfl
    obtain⟨X,_,F,HF,HG⟩:=Fam.fam (wr.alloc (.cells #[.string kj,.int .i64 vj] 38));have p0:∀z,(F z).cell? ⟨wr.heap.size,0,none⟩=some (.string kj):=fun z=>((HF.out z).cell (p:=⟨wr.heap.size,0,none⟩) (by simp)).trans (by simp)
    have p1:∀z,(F z).cell? ⟨wr.heap.size,1,none⟩=some (.int .i64 vj):=fun z=>((HF.out z).cell (p:=⟨wr.heap.size,1,none⟩) (by simp)).trans (by simp)
    go_upto_region 6 with fail
    refine Fam.region (F:=F) (by kernel_rfl) (by kernel_rfl) (HG.out _ (Below.refl _ (wr.alloc (.cells #[.string kj,.int .i64 vj] 38))).drew) ?_
    repeat (go_big_quiet_step (first | (go_at_call 45;exact(HKJ.out _).mono fun _ _ q=>⟨q.1,HG.out _ ((HF.out _).trans (q.2.mono (HF.out _).size))⟩)))
    refine wpQuiet_nil ?_;intro w2 hw2;obtain⟨z,rfl⟩:=hw2;have HB2:Hid (Below w.heap.size w (F z)):=HB6.out.trans ((HF.out z).mono HB6.out.size);clear p0 p1 HKJ HP HB;go_wp2;go_ret2
    exact HN.out _ HR.out HB2.out
   by_cases hj0:0<j
   ·have hj0':(0:Int)<(j:Int):=by omega
    have hm1:IntKind.i64.wrap ((j:Int)-1)=((j-1:Nat):Int):=by rw [IntKind.wrap_i64];omega
    have hm2:(j:Int)-1=((j-1:Nat):Int):=by omega
    have hm3:j-1<L.length:=by omega
    have hj1:decide (j=0)=false:=decide_eq_false (by omega)
    cases b2
    ·have hq:Op.bytesLess kp.toList kj.toList=false:=HQ.out.symm;have HR:Hid (sj=false):=by show _=_;rw [HS.out,hj1];rfl
     obtain⟨X,_,F,HF,HG⟩:=Fam.fam (wr.alloc (.cells #[.string kj,.int .i64 vj] 38));have p0:∀z,(F z).cell? ⟨wr.heap.size,0,none⟩=some (.string kj):=fun z=>((HF.out z).cell (p:=⟨wr.heap.size,0,none⟩) (by simp)).trans (by simp)
     have p1:∀z,(F z).cell? ⟨wr.heap.size,1,none⟩=some (.int .i64 vj):=fun z=>((HF.out z).cell (p:=⟨wr.heap.size,1,none⟩) (by simp)).trans (by simp)
     have d0:∀z,(F z).cell? ⟨g,off+(j-1)*2,none⟩=some (.string kp):=fun z=>HP.out hj0 _ (HB7.out.trans ((HF.out z).mono (by simp)))
     go_upto_region 6 with fail
     refine Fam.region (F:=F) (by kernel_rfl) (by kernel_rfl) (HG.out _ (Below.refl _ (wr.alloc (.cells #[.string kj,.int .i64 vj] 38))).drew) ?_
     repeat (go_big_quiet_step (first | (go_at_call 45;exact(HKJ.out _).mono fun _ _ q=>⟨q.1,HG.out _ ((HF.out _).trans (q.2.mono (HF.out _).size))⟩)))
     refine wpQuiet_nil ?_;intro w2 hw2;obtain⟨z,rfl⟩:=hw2;have HB2:Hid (Below w.heap.size w (F z)):=HB6.out.trans ((HF.out z).mono HB6.out.size);clear p0 p1 HKJ HP HB d0;go_wp2;go_ret2
     exact HN.out _ HR.out HB2.out
    ·have hq:Op.bytesLess kp.toList kj.toList=true:=HQ.out.symm;have HR:Hid (sj=true):=by show _=_;rw [HS.out,hj1];rfl
     obtain⟨X,_,F,HF,HG⟩:=Fam.fam (wr.alloc (.cells #[.string kj,.int .i64 vj] 38));have p0:∀z,(F z).cell? ⟨wr.heap.size,0,none⟩=some (.string kj):=fun z=>((HF.out z).cell (p:=⟨wr.heap.size,0,none⟩) (by simp)).trans (by simp)
     have p1:∀z,(F z).cell? ⟨wr.heap.size,1,none⟩=some (.int .i64 vj):=fun z=>((HF.out z).cell (p:=⟨wr.heap.size,1,none⟩) (by simp)).trans (by simp)
     have d0:∀z,(F z).cell? ⟨g,off+(j-1)*2,none⟩=some (.string kp):=fun z=>HP.out hj0 _ (HB7.out.trans ((HF.out z).mono (by simp)))
     go_upto_region 6 with fail
     refine Fam.region (F:=F) (by kernel_rfl) (by kernel_rfl) (HG.out _ (Below.refl _ (wr.alloc (.cells #[.string kj,.int .i64 vj] 38))).drew) ?_
     repeat (go_big_quiet_step (first | (go_at_call 45;exact(HKJ.out _).mono fun _ _ q=>⟨q.1,HG.out _ ((HF.out _).trans (q.2.mono (HF.out _).size))⟩)))
     refine wpQuiet_nil ?_;intro w2 hw2;obtain⟨z,rfl⟩:=hw2;have HB2:Hid (Below w.heap.size w (F z)):=HB6.out.trans ((HF.out z).mono HB6.out.size);clear p0 p1 HKJ HP HB d0;go_wp2;go_roundw
     case rel=>exact⟨j+1,by omega,by go_num,HY.out HR.out,HB2⟩
     case measure=>simp [intOf];omega
   ·have hj0':¬ (0:Int)<(j:Int):=by omega
    have hj1:decide (j=0)=true:=decide_eq_true (by omega);have HR:Hid (sj=true):=by show _=_;rw [HS.out,hj1];rfl
    obtain⟨X,_,F,HF,HG⟩:=Fam.fam (wr.alloc (.cells #[.string kj,.int .i64 vj] 38));have p0:∀z,(F z).cell? ⟨wr.heap.size,0,none⟩=some (.string kj):=fun z=>((HF.out z).cell (p:=⟨wr.heap.size,0,none⟩) (by simp)).trans (by simp)
    have p1:∀z,(F z).cell? ⟨wr.heap.size,1,none⟩=some (.int .i64 vj):=fun z=>((HF.out z).cell (p:=⟨wr.heap.size,1,none⟩) (by simp)).trans (by simp)
    go_upto_region 6 with fail
    refine Fam.region (F:=F) (by kernel_rfl) (by kernel_rfl) (HG.out _ (Below.refl _ (wr.alloc (.cells #[.string kj,.int .i64 vj] 38))).drew) ?_
    repeat (go_big_quiet_step (first | (go_at_call 45;exact(HKJ.out _).mono fun _ _ q=>⟨q.1,HG.out _ ((HF.out _).trans (q.2.mono (HF.out _).size))⟩)))
    refine wpQuiet_nil ?_;intro w2 hw2;obtain⟨z,rfl⟩:=hw2;have HB2:Hid (Below w.heap.size w (F z)):=HB6.out.trans ((HF.out z).mono HB6.out.size);clear p0 p1 HKJ HP HB;go_wp2;go_roundw
    case rel=>exact⟨j+1,by omega,by go_num,HY.out HR.out,HB2⟩
    case measure=>simp [intOf];omega
  ·obtain rfl:j=L.length:=by omega
   obtain⟨g,c,w2,hrun,hpost⟩:=HEND.out wr HA.out HB.out;have HRUN:Hid (_):=hrun;have HPO:Hid (_):=hpost;clear hrun hpost HEND HKY HBAD hr HA HB;go_wp2_with (at_builtin;refine wpList_run_append rfl _ _ _ _ rfl _ _ rfl rfl HRUN.out ?_)
   go_ret2
   exact HPO.out
end Bk
namespace Bk
open De (D okD keyB)
theorem insert{B g cap:Nat}{L:List En}{V0:World}(h:OwE B V0 g cap L)(hBw:B≤V0.heap.size)(i:Nat)(hi:i≤L.length)(h8:L.length≤1000)(x:En)(V:World)(hne:V.heap.size≠g)(hV:V0=V.alloc (.cells #[.string x.key,.int .i64 x.val] 38):=by rfl) :
  Calls Try.prog 61 #[.slice (some ⟨g,0,none⟩) L.length cap,.int .i64 (i:Int),.slice (some ⟨V.heap.size,0,none⟩) 1 1] V0 (InsPost B g L i x V0):=by
 subst hV;have hv:CellsE (V.alloc (.cells #[.string x.key,.int .i64 x.val] 38)) V.heap.size 0 x:=⟨by simp,by simp⟩
 have hvl:V.heap.size<(V.alloc (.cells #[.string x.key,.int .i64 x.val] 38)).heap.size:=by simp
 have hat:(V.alloc (.cells #[.string x.key,.int .i64 x.val] 38)).heap[V.heap.size]? = some (.cells #[.string x.key,.int .i64 x.val] 38 (0,0)):=by
  show(V.heap.push _)[V.heap.size]? = _;rw [Array.getElem?_push_size]
 by_cases he:i=L.length
 ·subst he;exact ins_end h hBw h8 x _ hv hvl
 ·by_cases hr:L.length+1≤cap
  ·exact ins_shift h i (by omega) hr x _ hv hvl hne 38 2 (by unfold World.shape?;rw [hat];rfl) (by unfold World.frozen?;rw [hat];rfl) (by unfold World.frozen?;rw [hat];rfl)
  ·exact ins_grow h hBw i (by omega) (by omega) h8 x _ hv hvl
def ActPost(B g:Nat)(M:List En × Int)(w:World)(e:Ending)(w':World):Prop:=
 ∃g' c',e=.returned (.tuple #[.slice (some ⟨g',0,none⟩) M.1.length c',.int .i64 M.2])∧OwE B w' g' c' M.1∧w.grownBy w' (some g)∧(g'=g∨w.heap.size≤g')
theorem below_grown{w V V':World}{r:Option Nat}(h:Below w.heap.size w V)(hg:V.grownBy V' r):w.grownBy V' r:=
 ⟨hg.os.trans h.os,hg.tape.trans h.tape,hg.output.trans h.output,Nat.le_trans h.size hg.size,fun k hk hr=>(hg.block k (Nat.lt_of_lt_of_le hk h.size) hr).trans (h.block k hk)⟩
theorem ActPost.behind{B g:Nat}{M:List En × Int}{w V V':World}{e:Ending}(h:ActPost B g M V e V')(hb:Below w.heap.size w V):ActPost B g M w e V':=by
 obtain⟨g',c',h1,h2,h3,h4⟩:=h;exact⟨g',c',h1,h2,below_grown hb h3,h4.imp id (fun q=>Nat.le_trans hb.size q)⟩
theorem act_stay{B g c:Nat}{L:List En}{w V:World}{k:Int}(h:OwE B w g c L)(hb:Below w.heap.size w V):ActPost B g (L,k) w (.returned (.tuple #[.slice (some ⟨g,0,none⟩) L.length c,.int .i64 k])) V:=
 ⟨g,c,rfl,h.below hb,below_grown hb ⟨rfl,rfl,rfl,Nat.le_refl _,fun _ _ _=>rfl⟩,.inl rfl⟩
def giveB(L:List En)(n:Nat)(v:Int):List En × Int:=if valOk v then (L.set n ⟨(atE L n).key,v⟩,0) else (L,3)
theorem give{B g c:Nat}{L:List En}{w:World}(h:OwE B w g c L)(n:Nat)(hn:n<L.length)(v:Int) :
  Calls Try.prog 60 #[.slice (some ⟨g,0,none⟩) L.length c,.int .i64 n,.int .i64 v] w (ActPost B g (giveB L n v) w):=by
 have HV:Hid (∀W:World,Calls Try.prog 52 #[.int .i64 v] W fun e w'=>e=.returned (.bool (valOk v))∧W=w'):=fun W=>isValue v W
 have HG:Hid (giveB L n v=if valOk v then (L.set n ⟨(atE L n).key,v⟩,0) else (L,3)):=rfl;generalize giveB L n v=M at HG ⊢;generalize valOk v=b at HV HG;obtain⟨hgl,hc⟩:=h.rd.on n hn;rw [Nat.zero_add] at hc;obtain⟨c0,c1⟩:=hc;have f1:=h.frozen (n*2+1)
 cases b
 ·have HP:Hid (ActPost B g M w (.returned (.tuple #[.slice (some ⟨g,0,none⟩) L.length c,.int .i64 3])) w):=by rw [HG.out];exact act_stay h (Below.refl _ _)
  clear HG h;go_enter Try.func60,Try.ntmps60
  go_wp2_with (go_at_call 52;refine(HV.out _).mono ?_;rintro e w' ⟨rfl,rfl⟩)
  go_ret2
  exact HP.out
 ·have HP:Hid (ActPost B g M w (.returned (.tuple #[.slice (some ⟨g,0,none⟩) L.length c,.int .i64 0])) (w.setCell ⟨g,n*2+1,none⟩ (.int .i64 v))):=by
   have hp:=h.put n hn v;rw [HG.out,if_pos rfl];have hl:(L.set n ⟨(atE L n).key,v⟩).length=L.length:=List.length_set;refine⟨g,c,by show _=Ending.returned (.tuple #[.slice _ (L.set n _).length _,_]);rw [hl],hp,(World.ownsRow.stored h (n*2+1) (.int .i64 v)).2,.inl rfl⟩
  clear HG h;go_enter Try.func60,Try.ntmps60
  go_wp2_with (go_at_call 52;refine(HV.out _).mono ?_;rintro e w' ⟨rfl,rfl⟩)
  go_ret2
  exact HP.out
section
variable {B g c:Nat} {L:List En} {w:World} (h:OwE B w g c L) (n:Nat) (d:D)
include h
theorem actRewrite(hn:n<L.length):Calls Try.prog 53 #[.slice (some ⟨g,0,none⟩) L.length c,.int .i64 n,.agg #[.int .i64 d.kind,.string d.key,.int .i64 d.val,.int .i64 d.new]] w (ActPost B g (giveB L n d.val) w):=by
 have P0:Hid (_):=De.box4 w (.int .i64 d.kind) (.string d.key) (.int .i64 d.val) (.int .i64 d.new) 26;have HG:Hid (∀V,Below w.heap.size w V→Calls Try.prog 60 #[.slice (some ⟨g,0,none⟩) L.length c,.int .i64 n,.int .i64 d.val] V fun e w'=>ActPost B g (giveB L n d.val) w e w'):=fun V hV=>(give (h.below hV) n hn d.val).mono fun e w' q=>q.behind hV
 clear h;go_enter Try.func53,Try.ntmps53
 go_upto_region 1 with fail
 generalize w.alloc (.cells #[.int .i64 d.kind,.string d.key,.int .i64 d.val,.int .i64 d.new] 26)=W0 at P0 ⊢;obtain⟨B0,x0,x1,x2,x3,hlt⟩:=P0;go_wp2_with fail
 refine(HG.out W0 B0).mono ?_;rintro e W1 ⟨g',c',rfl,rest⟩;have HR:Hid (_):=rest;clear rest HG B0;go_wp2;go_ret2
 exact⟨g',c',rfl,HR.out⟩
theorem actAdd(hn:n<L.length)(hv:-100000≤(atE L n).val∧(atE L n).val≤100000)(hd:0≤d.val∧d.val≤99):Calls Try.prog 57 #[.slice (some ⟨g,0,none⟩) L.length c,.int .i64 n,.agg #[.int .i64 d.kind,.string d.key,.int .i64 d.val,.int .i64 d.new]] w (ActPost B g (giveB L n ((atE L n).val+d.val)) w):=by
 have P0:Hid (_):=De.box4 w (.int .i64 d.kind) (.string d.key) (.int .i64 d.val) (.int .i64 d.new) 26;have HG:Hid (∀V,Below w.heap.size w V→Calls Try.prog 60 #[.slice (some ⟨g,0,none⟩) L.length c,.int .i64 n,.int .i64 ((atE L n).val+d.val)] V fun e w'=>ActPost B g (giveB L n ((atE L n).val+d.val)) w e w'):=fun V hV=>(give (h.below hV) n hn _).mono fun e w' q=>q.behind hV
 have HC:Hid (∀V,Below w.heap.size w V→V.cell? ⟨g,n*2+1,none⟩=some (.int .i64 (atE L n).val)):=fun V hV=>by
  have:=((h.below hV).rd.on n hn).2.c1;rwa [Nat.zero_add] at this
 clear h;generalize (atE L n).val=ev at *;have hw:IntKind.i64.wrap (ev+d.val)=ev+d.val:=by rw [IntKind.wrap_i64];omega
 go_enter Try.func57,Try.ntmps57
 go_upto_region 1 with fail
 generalize w.alloc (.cells #[.int .i64 d.kind,.string d.key,.int .i64 d.val,.int .i64 d.new] 26)=W0 at P0 ⊢;obtain⟨B0,x0,x1,x2,x3,hlt⟩:=P0;have e1:=HC.out W0 B0;go_region_law (rw [if_pos (by simp [Region.wanted])];go_simp;refine(HG.out _ B0.drew).mono ?_;rintro e W1 ⟨g',c',rfl,rest⟩;have HR:Hid (_):=rest;clear rest)
 all_goals
  go_wp2;go_ret2
  exact⟨g',c',rfl,HR.out⟩
def swapB(L:List En)(n:Nat)(val new:Int):List En × Int:=if (atE L n).val≠val then (L,2) else giveB L n new
theorem actSwap(hn:n<L.length):Calls Try.prog 58 #[.slice (some ⟨g,0,none⟩) L.length c,.int .i64 n,.agg #[.int .i64 d.kind,.string d.key,.int .i64 d.val,.int .i64 d.new]] w (ActPost B g (swapB L n d.val d.new) w):=by
 have P0:Hid (_):=De.box4 w (.int .i64 d.kind) (.string d.key) (.int .i64 d.val) (.int .i64 d.new) 26;have HG:Hid (∀V,Below w.heap.size w V→Calls Try.prog 60 #[.slice (some ⟨g,0,none⟩) L.length c,.int .i64 n,.int .i64 d.new] V fun e w'=>ActPost B g (giveB L n d.new) w e w'):=fun V hV=>(give (h.below hV) n hn _).mono fun e w' q=>q.behind hV
 have HC:Hid (∀V,Below w.heap.size w V→V.cell? ⟨g,n*2+1,none⟩=some (.int .i64 (atE L n).val)):=fun V hV=>by
  have:=((h.below hV).rd.on n hn).2.c1;rwa [Nat.zero_add] at this
 have HS:Hid (∀V,Below w.heap.size w V→ActPost B g (L,2) w (.returned (.tuple #[.slice (some ⟨g,0,none⟩) L.length c,.int .i64 2])) V):=fun V hV=>act_stay h hV
 have HM:Hid (swapB L n d.val d.new=if (atE L n).val≠d.val then (L,2) else giveB L n d.new):=rfl;clear h;generalize swapB L n d.val d.new=M at HM ⊢;generalize (atE L n).val=ev at *;by_cases he:ev=d.val
 ·have HM2:Hid (M=giveB L n d.new):=by show _=_;rw [HM.out,if_neg (by simpa using he)]
  go_enter Try.func58,Try.ntmps58
  go_upto_region 1 with fail
  generalize w.alloc (.cells #[.int .i64 d.kind,.string d.key,.int .i64 d.val,.int .i64 d.new] 26)=W0 at P0 ⊢;obtain⟨B0,x0,x1,x2,x3,hlt⟩:=P0;have e1:=HC.out W0 B0;have B1:=B0.drew;go_region
  go_wp2_with (go_at_call 60;refine(HG.out _ B1).mono ?_;rintro e W1 ⟨g',c',rfl,rest⟩;have HR:Hid (_):=rest;clear rest)
  go_ret2
  rw [HM2.out];exact⟨g',c',rfl,HR.out⟩
 ·have HM2:Hid (M=(L,2)):=by show _=_;rw [HM.out,if_pos he]
  go_enter Try.func58,Try.ntmps58
  go_upto_region 1 with fail
  generalize w.alloc (.cells #[.int .i64 d.kind,.string d.key,.int .i64 d.val,.int .i64 d.new] 26)=W0 at P0 ⊢;obtain⟨B0,x0,x1,x2,x3,hlt⟩:=P0;have e1:=HC.out W0 B0;have HE:Hid (_):=HS.out _ B0.drew;go_region
  go_wp2;go_ret2
  rw [HM2.out];exact HE.out
theorem actNone:Calls Try.prog 56 #[.slice (some ⟨g,0,none⟩) L.length c,.int .i64 n,.agg #[.int .i64 d.kind,.string d.key,.int .i64 d.val,.int .i64 d.new]] w (ActPost B g (L,1) w):=by
 have HS:Hid (∀V,Below w.heap.size w V→ActPost B g (L,1) w (.returned (.tuple #[.slice (some ⟨g,0,none⟩) L.length c,.int .i64 1])) V):=fun V hV=>act_stay h hV
 have HB:Hid (∀o:Obj,Below w.heap.size w (w.alloc o)):=fun o=>(Below.refl _ _).alloc (Nat.le_refl _) o
 clear h;go_enter Try.func56,Try.ntmps56
 go_wp2;go_ret2
 exact HS.out _ (by first | exact HB.out _ | exact Below.refl _ _)
theorem actCut(hn:n<L.length)(h8:L.length≤1000):Calls Try.prog 55 #[.slice (some ⟨g,0,none⟩) L.length c,.int .i64 n,.agg #[.int .i64 d.kind,.string d.key,.int .i64 d.val,.int .i64 d.new]] w (ActPost B g (L.take n++L.drop (n+1),0) w):=by
 have HB:Hid (∀o:Obj,Below w.heap.size w (w.alloc o)):=fun o=>(Below.refl _ _).alloc (Nat.le_refl _) o
 have HD:Hid (∀V,Below w.heap.size w V→Calls Try.prog 62 #[.slice (some ⟨g,0,none⟩) L.length c,.int .i64 n,.int .i64 ((n:Int)+1)] V fun e w'=>e=.returned (.slice (some ⟨g,0,none⟩) (L.take n++L.drop (n+1)).length c)∧OwE B w' g c (L.take n++L.drop (n+1))∧V.grownBy w' (some g)):=fun V hV=>delete (h.below hV) n hn
 generalize L.take n++L.drop (n+1)=M at HD ⊢;have hw:IntKind.i64.wrap ((n:Int)+1)=(n:Int)+1:=by rw [IntKind.wrap_i64];omega
 clear h;go_enter Try.func55,Try.ntmps55
 go_wp2_with (go_at_call 62;refine(HD.out _ (HB.out _)).mono ?_;rintro e W1 ⟨rfl,ho,hg⟩;have HR:Hid (_):=And.intro ho (below_grown (HB.out _) hg);clear ho hg)
 go_ret2
 exact⟨g,c,rfl,HR.out.1,HR.out.2,.inl rfl⟩
def enterB(L:List En)(n:Nat)(key:ByteArray)(val:Int):List En × Int:=if 8≤L.length then (L,3) else (L.take n++[⟨key,val⟩]++L.drop n,0)
theorem actEnter(hB:B≤w.heap.size)(hn:n≤L.length):Calls Try.prog 54 #[.slice (some ⟨g,0,none⟩) L.length c,.int .i64 n,.agg #[.int .i64 d.kind,.string d.key,.int .i64 d.val,.int .i64 d.new]] w (ActPost B g (enterB L n d.key d.val) w):=by
 have P0:Hid (_):=De.box4 w (.int .i64 d.kind) (.string d.key) (.int .i64 d.val) (.int .i64 d.new) 26;have HE:Hid (enterB L n d.key d.val=if 8≤L.length then (L,3) else (L.take n++[(⟨d.key,d.val⟩:En)]++L.drop n,0)):=rfl;by_cases h8:8≤L.length
 ·have h8':(8:Int)≤(L.length:Int):=by omega
  have HS:Hid (∀V,Below w.heap.size w V→ActPost B g (enterB L n d.key d.val) w (.returned (.tuple #[.slice (some ⟨g,0,none⟩) L.length c,.int .i64 3])) V):=fun V hV=>by
   rw [HE.out,if_pos h8];exact act_stay h hV
  clear h HE;generalize enterB L n d.key d.val=M at HS ⊢;go_enter Try.func54,Try.ntmps54
  go_wp2;go_ret2
  exact HS.out _ P0.out.1
 ·have h8':¬ (8:Int)≤(L.length:Int):=by omega
  have HI:Hid (∀V:World,Below w.heap.size w V→Calls Try.prog 61 #[.slice (some ⟨g,0,none⟩) L.length c,.int .i64 n,.slice (some ⟨V.heap.size,0,none⟩) 1 1] (V.alloc (.cells #[.string d.key,.int .i64 d.val] 38)) fun e w'=>∃g' c',e=.returned (.slice (some ⟨g',0,none⟩) (L.take n++[(⟨d.key,d.val⟩:En)]++L.drop n).length c')∧OwE B w' g' c' (L.take n++[(⟨d.key,d.val⟩:En)]++L.drop n)∧w.grownBy w' (some g)∧(g'=g∨w.heap.size≤g')):=fun V hV=>by
   have b1:Below w.heap.size w (V.alloc (.cells #[.string d.key,.int .i64 d.val] 38)):=hV.alloc hV.size _;have hgl:=h.shape.2.2.2;refine(insert (h.below b1) (Nat.le_trans hB b1.size) n hn (by omega) ⟨d.key,d.val⟩ V (Nat.ne_of_gt (Nat.lt_of_lt_of_le hgl hV.size))).mono ?_;rintro e w' ⟨g',c',h1,h2,h3,h4⟩;exact⟨g',c',h1,h2,below_grown b1 h3,h4.imp id (fun q=>by rw [q];exact b1.size)⟩
  have HM:Hid (enterB L n d.key d.val=(L.take n++[(⟨d.key,d.val⟩:En)]++L.drop n,0)):=by show _=_;rw [HE.out,if_neg h8]
  clear h HE;generalize enterB L n d.key d.val=M at HM ⊢;generalize L.take n++[(⟨d.key,d.val⟩:En)]++L.drop n=N at HM HI;go_enter Try.func54,Try.ntmps54
  go_upto_region 1 with fail
  generalize w.alloc (.cells #[.int .i64 d.kind,.string d.key,.int .i64 d.val,.int .i64 d.new] 26)=W0 at P0 ⊢;obtain⟨B0,x0,x1,x2,x3,hlt⟩:=P0;go_wp2_with (go_at_call 61;refine(HI.out W0 B0).mono ?_;rintro e W1 ⟨g',c',rfl,rest⟩;have HR:Hid (_):=rest;clear rest)
  go_ret2
  rw [HM.out];exact⟨g',c',rfl,HR.out⟩
end
end Bk
namespace Bk
open De (D okD keyB)
def WayPost(f1 f2:Nat)(w:World)(e:Ending)(w':World):Prop:=e=.returned (.agg #[.func (.func f1) #[] #[],.func (.func f2) #[] #[]])∧Below w.heap.size w w'
def wayF(kind:Int):Nat × Nat:=if kind=1 then (53,54) else if kind=2 then (55,56) else if kind=3 then (57,56) else (58,56)
theorem wayOf(kind:Int)(hk:1≤kind∧kind≤4)(w:World):Calls Try.prog 48 #[.int .i64 kind] w (WayPost (wayF kind).1 (wayF kind).2 w):=by
 have hs0:∀(a:Addr) (m:Mode) (W:World),Sem.run Try.prog (store a Value.nilFunc m) W=stored Try.prog W a Value.nilFunc m:=fun a m W=>run_store Try.prog W a _ m rfl
 have hs1:∀(f:Nat) (a:Addr) (m:Mode) (W:World),Sem.run Try.prog (store a (.func (.func f) #[] #[]) m) W=stored Try.prog W a (.func (.func f) #[] #[]) m:=fun f a m W=>run_store Try.prog W a _ m rfl
 rcases(show kind=1∨kind=2∨kind=3∨kind=4 by omega) with rfl | rfl | rfl | rfl
 ·go_enter Try.func48,Try.ntmps48
  go_wp2;exact bodyPost_ret (v:=.agg #[.func (.func (wayF 1).1) #[] #[],.func (.func (wayF 1).2) #[] #[]]) (by simp [results,Try.f48,go_sem,wayF]) rfl ⟨rfl,((Below.refl w.heap.size w).alloc (Nat.le_refl _) _).alloc (by simp) _⟩
 ·go_enter Try.func48,Try.ntmps48
  go_wp2;exact bodyPost_ret (v:=.agg #[.func (.func (wayF 2).1) #[] #[],.func (.func (wayF 2).2) #[] #[]]) (by simp [results,Try.f48,go_sem,wayF]) rfl ⟨rfl,((Below.refl w.heap.size w).alloc (Nat.le_refl _) _).alloc (by simp) _⟩
 ·go_enter Try.func48,Try.ntmps48
  go_wp2;exact bodyPost_ret (v:=.agg #[.func (.func (wayF 3).1) #[] #[],.func (.func (wayF 3).2) #[] #[]]) (by simp [results,Try.f48,go_sem,wayF]) rfl ⟨rfl,((Below.refl w.heap.size w).alloc (Nat.le_refl _) _).alloc (by simp) _⟩
 ·go_enter Try.func48,Try.ntmps48
  go_wp2;exact bodyPost_ret (v:=.agg #[.func (.func (wayF 4).1) #[] #[],.func (.func (wayF 4).2) #[] #[]]) (by simp [results,Try.f48,go_sem,wayF]) rfl ⟨rfl,((Below.refl w.heap.size w).alloc (Nat.le_refl _) _).alloc (by simp) _⟩
theorem doneF{B g c:Nat}{L:List En}{w:World}{f1 f2:Nat}{M:List En × Int}(d:D)(h:OwE B w g c L)(hs:Rises L)(h8:L.length≤1000)
   (eg1:∀args W,(callFunc f1 args).run Try.prog W=.ok (.enter f1 args) W) (eg2:∀args W,(callFunc f2 args).run Try.prog W=.ok (.enter f2 args) W)
   (HW:∀W:World,Calls Try.prog 48 #[.int .i64 d.kind] W (WayPost f1 f2 W))
   (H1:hasB L d.key=true→∀V:World,Below w.heap.size w V→Calls Try.prog f1 #[.slice (some ⟨g,0,none⟩) L.length c,.int .i64 (findN L d.key:Int),.agg #[.int .i64 d.kind,.string d.key,.int .i64 d.val,.int .i64 d.new]] V (ActPost B g M w))
   (H2:hasB L d.key=false→∀V:World,Below w.heap.size w V→Calls Try.prog f2 #[.slice (some ⟨g,0,none⟩) L.length c,.int .i64 (findN L d.key:Int),.agg #[.int .i64 d.kind,.string d.key,.int .i64 d.val,.int .i64 d.new]] V (ActPost B g M w)) :
   Calls Try.prog 32 #[.slice (some ⟨g,0,none⟩) L.length c,.agg #[.int .i64 d.kind,.string d.key,.int .i64 d.val,.int .i64 d.new]] w (ActPost B g M w):=by
 have P0:Hid (_):=De.box4 w (.int .i64 d.kind) (.string d.key) (.int .i64 d.val) (.int .i64 d.new) 26;have HP:Hid (∀V:World,Below w.heap.size w V→Calls Try.prog 33 #[.slice (some ⟨g,0,none⟩) L.length c,.string d.key] V fun e w'=>e=.returned (.tuple #[.int .i64 (findN L d.key:Int),.bool (hasB L d.key)])∧Below V.heap.size V w'):=fun V hV=>place (some ⟨g,0,none⟩) c L d.key V (by omega) (h.below hV).rd hs
 have HW:Hid (∀W:World,Calls Try.prog 48 #[.int .i64 d.kind] W fun e w'=>e=.returned (.agg #[.func (.func f1) #[] #[],.func (.func f2) #[] #[]])∧Below W.heap.size W w'):=HW;have H1:Hid (_):=H1;have H2:Hid (_):=H2;have hf1:∀W:World,Sem.run Try.prog (Instr.field 82 (.agg #[.func (.func f1) #[] #[],.func (.func f2) #[] #[]]) 0) W=.ok (.func (.func f1) #[] #[]) W:=fun W=>by simp [Instr.field,part,run_underlying Try.underlying82,asAgg,go_sem]
 have hf2:∀W:World,Sem.run Try.prog (Instr.field 82 (.agg #[.func (.func f1) #[] #[],.func (.func f2) #[] #[]]) 1) W=.ok (.func (.func f2) #[] #[]) W:=fun W=>by simp [Instr.field,part,run_underlying Try.underlying82,asAgg,go_sem]
 clear h hs;generalize findN L d.key=n at HP H1 H2;generalize hasB L d.key=is at HP H1 H2
 cases is
 · have HA:Hid (_):=H2.out rfl;clear H1 H2;go_enter Try.func32,Try.ntmps32
   go_upto_region 1 with fail
   generalize w.alloc (.cells #[.int .i64 d.kind,.string d.key,.int .i64 d.val,.int .i64 d.new] 26)=W0 at P0 ⊢;obtain⟨B0,x0,x1,x2,x3,hlt⟩:=P0;go_wp2_with (go_at_call 33;refine(HP.out W0 B0).mono ?_;rintro e W1 ⟨rfl,b1⟩)
   have HY:Hid (∀V:World,Below W1.heap.size W1 V→V.cell? ⟨w.heap.size,0,none⟩=some (.int .i64 d.kind)∧V.cell? ⟨w.heap.size,1,none⟩=some (.string d.key)∧V.cell? ⟨w.heap.size,2,none⟩=some (.int .i64 d.val)∧V.cell? ⟨w.heap.size,3,none⟩=some (.int .i64 d.new)):=fun V hV=>by
     have hl:w.heap.size<W1.heap.size:=Nat.lt_of_lt_of_le hlt b1.size;exact⟨(hV.cell (p:=⟨w.heap.size,0,none⟩) hl).trans ((b1.cell (p:=⟨w.heap.size,0,none⟩) hlt).trans x0),(hV.cell (p:=⟨w.heap.size,1,none⟩) hl).trans ((b1.cell (p:=⟨w.heap.size,1,none⟩) hlt).trans x1),(hV.cell (p:=⟨w.heap.size,2,none⟩) hl).trans ((b1.cell (p:=⟨w.heap.size,2,none⟩) hlt).trans x2),(hV.cell (p:=⟨w.heap.size,3,none⟩) hl).trans ((b1.cell (p:=⟨w.heap.size,3,none⟩) hlt).trans x3)⟩
   have HB1:Hid (Below w.heap.size w W1):=B0.trans (b1.mono B0.size);clear x0 x1 x2 x3 b1 B0 HP;obtain⟨y0,y1,y2,y3⟩:=HY.out W1 (Below.refl _ _);go_region_law (first
     | (rw [if_pos (by simp [Region.wanted])]
        go_simp
        refine(HW.out _).mono ?_;rintro e W2 ⟨rfl,b2⟩;have b12:Below W1.heap.size W1 W2:=(Below.refl _ W1).drew.trans b2;obtain⟨z0,z1,z2,z3⟩:=HY.out W2 b12;have HB2:Hid (Below w.heap.size w W2):=HB1.out.trans (b12.mono HB1.out.size);clear b2 b12)
     | (rw [if_pos (by simp [Region.wanted])]
        go_simp
        refine(HA.out W2 HB2.out).mono ?_;rintro e W3 ⟨g',c',rfl,rest⟩;have HR:Hid (_):=rest;clear rest))
   all_goals
     go_wp2;go_ret2
     exact⟨g',c',rfl,HR.out⟩
 · have HA:Hid (_):=H1.out rfl;clear H1 H2;go_enter Try.func32,Try.ntmps32
   go_upto_region 1 with fail
   generalize w.alloc (.cells #[.int .i64 d.kind,.string d.key,.int .i64 d.val,.int .i64 d.new] 26)=W0 at P0 ⊢;obtain⟨B0,x0,x1,x2,x3,hlt⟩:=P0;go_wp2_with (go_at_call 33;refine(HP.out W0 B0).mono ?_;rintro e W1 ⟨rfl,b1⟩)
   have HY:Hid (∀V:World,Below W1.heap.size W1 V→V.cell? ⟨w.heap.size,0,none⟩=some (.int .i64 d.kind)∧V.cell? ⟨w.heap.size,1,none⟩=some (.string d.key)∧V.cell? ⟨w.heap.size,2,none⟩=some (.int .i64 d.val)∧V.cell? ⟨w.heap.size,3,none⟩=some (.int .i64 d.new)):=fun V hV=>by
     have hl:w.heap.size<W1.heap.size:=Nat.lt_of_lt_of_le hlt b1.size;exact⟨(hV.cell (p:=⟨w.heap.size,0,none⟩) hl).trans ((b1.cell (p:=⟨w.heap.size,0,none⟩) hlt).trans x0),(hV.cell (p:=⟨w.heap.size,1,none⟩) hl).trans ((b1.cell (p:=⟨w.heap.size,1,none⟩) hlt).trans x1),(hV.cell (p:=⟨w.heap.size,2,none⟩) hl).trans ((b1.cell (p:=⟨w.heap.size,2,none⟩) hlt).trans x2),(hV.cell (p:=⟨w.heap.size,3,none⟩) hl).trans ((b1.cell (p:=⟨w.heap.size,3,none⟩) hlt).trans x3)⟩
   have HB1:Hid (Below w.heap.size w W1):=B0.trans (b1.mono B0.size);clear x0 x1 x2 x3 b1 B0 HP;obtain⟨y0,y1,y2,y3⟩:=HY.out W1 (Below.refl _ _);go_region_law (first
     | (rw [if_pos (by simp [Region.wanted])]
        go_simp
        refine(HW.out _).mono ?_;rintro e W2 ⟨rfl,b2⟩;have b12:Below W1.heap.size W1 W2:=(Below.refl _ W1).drew.trans b2;obtain⟨z0,z1,z2,z3⟩:=HY.out W2 b12;have HB2:Hid (Below w.heap.size w W2):=HB1.out.trans (b12.mono HB1.out.size);clear b2 b12)
     | (rw [if_pos (by simp [Region.wanted])]
        go_simp
        refine(HA.out W2 HB2.out).mono ?_;rintro e W3 ⟨g',c',rfl,rest⟩;have HR:Hid (_):=rest;clear rest))
   all_goals
     go_wp2;go_ret2
     exact⟨g',c',rfl,HR.out⟩
end Bk
end
section
namespace Kn
structure Zero(b:Nat)(w:World):Prop where
 lt:b<w.heap.size
 r0:w.cell? ⟨b,0,none⟩=some (.int .i64 0)
 r1:w.cell? ⟨b,1,none⟩=some (.int .i64 0)
 r2:w.cell? ⟨b,2,none⟩=some (.int .i64 0)
 r3:w.cell? ⟨b,3,none⟩=some (.string ⟨#[]⟩)
 f0:w.frozen? ⟨b,0,none⟩=false
 f1:w.frozen? ⟨b,1,none⟩=false
 f2:w.frozen? ⟨b,2,none⟩=false
 f3:w.frozen? ⟨b,3,none⟩=false
theorem Zero.below{b:Nat}{w w':World}(z:Zero b w)(hb:Below w.heap.size w w'):Zero b w' where
 lt:=Nat.lt_of_lt_of_le z.lt hb.size
 r0:=(hb.cell (p:=⟨b,0,none⟩) z.lt).trans z.r0
 r1:=(hb.cell (p:=⟨b,1,none⟩) z.lt).trans z.r1
 r2:=(hb.cell (p:=⟨b,2,none⟩) z.lt).trans z.r2
 r3:=(hb.cell (p:=⟨b,3,none⟩) z.lt).trans z.r3
 f0:=(hb.frozen (p:=⟨b,0,none⟩) z.lt).trans z.f0
 f1:=(hb.frozen (p:=⟨b,1,none⟩) z.lt).trans z.f1
 f2:=(hb.frozen (p:=⟨b,2,none⟩) z.lt).trans z.f2
 f3:=(hb.frozen (p:=⟨b,3,none⟩) z.lt).trans z.f3
end Kn
end
section
namespace Kn
open Cur (At)
theorem lit_str{w w2:World}{c:Nat}{t:TypeId}{l:List ByteArray}(hc:c<w.heap.size)(hG:(w.alloc (.cells (l.map Value.string).toArray t)).grownBy w2 (some c))(j:Nat)(hj:j<l.length)(n:Nat)
  (hl:∀x∈l,x.size≤n):∃v:ByteArray,w2.cell? ⟨w.heap.size,j,none⟩=some (.string v)∧v.size≤n:=by
 refine⟨l[j],Draw.kept_cell hG (by omega) ?_,hl _ (List.getElem_mem hj)⟩;rw [World.cell?_alloc_new];simp [hj]
theorem grown_put{c kb:Nat}{w0 w:World}(h:w0.grownBy w (some c))(hk:w0.heap.size≤kb)(j:Nat)(v:Value):w0.grownBy (w.setCell ⟨kb,j,none⟩ v) (some c) where
 os:=h.os
 tape:=h.tape
 output:=h.output
 size:=by simpa using h.size
 block:=fun i hi hne=>(heap_setCell_other w ⟨kb,j,none⟩ i v (fun e=>by have:kb=i:=e.symm;omega)).trans (h.block i hi hne)
theorem At.put{c kb:Nat}{a:Option Addr}{len cap:Nat}{w:World}(h:At c a len cap w)(hn:kb≠c){n0:Nat}(hb:len=0∨∃b off,a=some ⟨b,off,none⟩∧b<n0)(hk:n0≤kb)(j:Nat)(v:Value):At c a len cap (w.setCell ⟨kb,j,none⟩ v) where
 lt:=by simpa using h.lt
 b:=(World.cell?_setCell_other _ _ _ _ (by intro e;injection e with e _;exact hn e)).trans h.b
 i:=by obtain⟨i,hi,hh⟩:=h.i;exact⟨i,(World.cell?_setCell_other _ _ _ _ (by intro e;injection e with e _;exact hn e)).trans hi,hh⟩
 h:=by obtain⟨i,hi,hh⟩:=h.h;exact⟨i,(World.cell?_setCell_other _ _ _ _ (by intro e;injection e with e _;exact hn e)).trans hi,hh⟩
 f1:=by simpa using h.f1
 f2:=by simpa using h.f2
 bytes:=by
  rcases h.bytes with h0 | ⟨b,off,ha,hne,hlt,hcell⟩
  ·exact .inl h0
  ·rcases hb with h0 | ⟨b',off',ha',hlt'⟩
   ·exact .inl h0
   ·have eb:b=b':=by rw [ha] at ha';injection ha' with e;injection e
    refine .inr ⟨b,off,ha,hne,by simpa using hlt,fun i hi=>?_⟩;obtain⟨z,hz,hz'⟩:=hcell i hi;exact⟨z,(World.cell?_setCell_other _ _ _ _ (by intro e;injection e with e _;omega)).trans hz,hz'⟩
theorem code_lt{c:Nat}{a:Option Addr}{len cap:Nat}{w:World}(h:At c a len cap w):len=0∨∃b off,a=some ⟨b,off,none⟩∧b<w.heap.size:=by
 rcases h.bytes with h0 | ⟨b,off,ha,_,hlt,_⟩
 ·exact .inl h0
 ·exact .inr ⟨b,off,ha,hlt⟩
end Kn
end
section
namespace Bend
open Cur (At)
def Row(base:Nat)(w:World)(v:Value)(m:Nat)(xs:List Int):Prop:=w.ownsRow base 5 1 v m (xs.map (Value.int .u8))∧v≠.slice none 0 0∧∀z∈xs,0≤z∧z≤(255:Int)
theorem At.below'{c:Nat}{a:Option Addr}{len cap lo hi:Nat}{w7 w8:World}(h:At c a len cap w7)(hb:Below hi w7 w8)(hc:c<hi)(hcode:len=0∨∃b off,a=some ⟨b,off,none⟩∧b<lo)(hlo:lo≤hi):At c a len cap w8 where
 lt:=Nat.lt_of_lt_of_le h.lt hb.size
 b:=(hb.cell (p:=⟨c,0,none⟩) hc).trans h.b
 i:=by obtain⟨i,h1,h2⟩:=h.i;exact⟨i,(hb.cell (p:=⟨c,1,none⟩) hc).trans h1,h2⟩
 h:=by obtain⟨i,h1,h2⟩:=h.h;exact⟨i,(hb.cell (p:=⟨c,2,none⟩) hc).trans h1,h2⟩
 f1:=(hb.frozen (p:=⟨c,1,none⟩) hc).trans h.f1
 f2:=(hb.frozen (p:=⟨c,2,none⟩) hc).trans h.f2
 bytes:=by
  rcases h.bytes with h0 | ⟨b,off,ha,hne,hlt,hcell⟩
  ·exact .inl h0
  ·rcases hcode with h0 | ⟨b',off',ha',hlt'⟩
   ·exact .inl h0
   ·have eb:b=b':=by rw [ha] at ha';injection ha' with e;injection e
    refine .inr ⟨b,off,ha,hne,Nat.lt_of_lt_of_le hlt hb.size,fun j hj=>?_⟩;obtain⟨z,h1,h2⟩:=hcell j hj;exact⟨z,(hb.cell (p:=⟨b,off+j,none⟩) (by show b<hi;omega)).trans h1,h2⟩
theorem grown_far{c lo:Nat}{w w7 w8:World}(h:w.grownBy w7 (some c))(hb:Below lo w7 w8)(hlo:w.heap.size≤lo):w.grownBy w8 (some c) where
 os:=hb.os.trans h.os
 tape:=hb.tape.trans h.tape
 output:=hb.output.trans h.output
 size:=Nat.le_trans h.size hb.size
 block:=fun j hj hne=>(hb.block j (by omega)).trans (h.block j hj hne)
end Bend
end
end Go.Proofs.Ytadbafppodhfpaa
