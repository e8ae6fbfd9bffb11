/-
 What the model's bending of a text answers: some text that is at most two bytes longer; it writes into nothing that was there but the cursor; for codes of at most 4096 bytes.
-/
import Derived.Test.YtadbafppodhfpaaGreatDoorqzg3
import Derived.Lib.Bytealg
import Derived.Lib.ConvBytes
import Derived.Lib.AtoiErrMem
set_option linter.unusedVariables false
set_option maxRecDepth 100000
set_option maxHeartbeats 6400000
namespace Go.Proofs.YtadbafppodhfpaaGreatDoor
open Go.RowKit
section
namespace Bk
def cmpB(a b:ByteArray):Int:=Lib.compareBytes a.data.toList b.data.toList
theorem cmp_less:∀a b:List UInt8,(Lib.compareBytes a b<0↔Op.bytesLess a b=true)∧(Lib.compareBytes a b=0↔a=b):=by
 intro a;induction a with
 | nil=>intro b;cases b <;> simp [Lib.compareBytes,Op.bytesLess]
 | cons x a ih=>
  intro b
  cases b with
  | nil=>simp [Lib.compareBytes,Op.bytesLess]
  | cons y b=>
   obtain⟨h1,h2⟩:=ih b;unfold Lib.compareBytes;simp only [Op.bytesLess,Bool.or_eq_true,Bool.and_eq_true,decide_eq_true_eq,beq_iff_eq,List.cons.injEq];by_cases hlt:x<y
   ·have hne:x≠y:=fun e=>by subst e;exact UInt8.lt_irrefl x hlt
    simp [hlt,hne]
   ·by_cases hgt:y<x
    ·have hne:x≠y:=fun e=>by subst e;exact UInt8.lt_irrefl x hgt
     simp [hlt,hgt,hne]
    ·have he:x=y:=UInt8.le_antisymm (UInt8.not_lt.1 hgt) (UInt8.not_lt.1 hlt);subst he;simp [hlt,h1,h2]
theorem cmp_lt(a b:ByteArray):cmpB a b<0↔lt a b=true:=by
 unfold lt;rw [ByteArray.toList_eq,ByteArray.toList_eq];exact(cmp_less _ _).1
theorem cmp_same(a b:ByteArray):cmpB a b=0↔same a b=true:=by
 unfold same;rw [ByteArray.toList_eq,ByteArray.toList_eq,beq_iff_eq];exact(cmp_less _ _).2
theorem compareString(a b:ByteArray)(w:World):Calls Tryz.prog 70 #[.string a,.string b] w fun e w'=>e=.returned (.int .i64 (cmpB a b))∧w'=w:=by
 have hx:∀W:World,(callFunc 81 #[.string a,.string b]).run Tryz.prog W=.ok (.value (.int .i64 (cmpB a b))) W:=fun W=>by
  rw [run_callFunc_extern Tryz.func81 (by kernel_rfl) (by kernel_rfl) (by kernel_rfl) (e:=Extern.BytealgCompare.compare) (by kernel_rfl),Lib.run_compareString];rfl
 generalize cmpB a b=z at hx ⊢;go_enter Tryz.func70,Tryz.ntmps70
 go_wp2_with (simp only [hx])
 go_ret;exact⟨rfl,rfl⟩
theorem compare(a b:ByteArray)(w:World):Calls Tryz.prog 59 #[.string a,.string b] w fun e w'=>e=.returned (.int .i64 (cmpB a b))∧w'=w:=by
 go_enter Tryz.func59,Tryz.ntmps59
 go_wp2_with (go_at_call 70;refine(compareString a b _).mono ?_;rintro e w' ⟨rfl,rfl⟩)
 go_ret;exact⟨rfl,rfl⟩
theorem place1(k key:ByteArray)(v:Int)(w:World):Calls Tryz.prog 58 #[.agg #[.string k,.int .i64 v],.string key] w fun e w'=>e=.returned (.int .i64 (cmpB k key))∧Below w.heap.size w w':=by
 have HB:Hid (∀o:Obj,Below w.heap.size w (w.alloc o)):=fun o=>(Below.refl _ _).alloc (Nat.le_refl _) o
 go_enter Tryz.func58,Tryz.ntmps58
 go_wp2_with (go_at_call 59;refine(compare k key _).mono ?_;rintro e w' ⟨rfl,rfl⟩)
 go_ret;exact⟨rfl,HB.out _⟩
theorem rises_lt{L:List En}(h:Rises L){a b:Nat}(hab:a<b)(hb:b<L.length):lt (atE L a).key (atE L b).key=true:=by
 rw [atE_get L a (by omega),atE_get L b hb];have:=(List.pairwise_iff_getElem.1 h) a b (by simp;omega) (by simpa using hb) hab;simpa using this
theorem rises_below{L:List En}(h:Rises L){key:ByteArray}{a b:Nat}(hab:a≤b)(hb:b<L.length)(hk:lt (atE L b).key key=true):lt (atE L a).key key=true:=by
 by_cases e:a=b
 ·rw [e];exact hk
 ·exact lt_trans (rises_lt h (by omega) hb) hk
theorem search(ao:Option Addr)(cap:Nat)(L:List En)(key:ByteArray)(w:World)(hl:L.length≤1048600)(hr:RdE w ao L)(hs:Rises L) :
  Calls Tryz.prog 57 #[.slice ao L.length cap,.string key,.func (.func 58) #[] #[]] w fun e w'=>e=.returned (.tuple #[.int .i64 (findN L key:Int),.bool (hasB L key)])∧Below w.heap.size w w':=by
 have HS:Hid (Rises L):=hs;clear hs;go_enter Tryz.func57,Tryz.ntmps57
 go_wp2;go_loopw [9,10] (fun s9 s10 wr=>∃lo hi:Nat,lo≤hi∧hi≤L.length∧s9=.int .i64 lo∧s10=.int .i64 hi∧Hid (∀i,i<lo→lt (atE L i).key key=true)∧Hid (∀i,hi≤i→i<L.length→lt (atE L i).key key=false)∧Hid (Below w.heap.size w wr)) (fun s9 s10 _=>(intOf s10-intOf s9).toNat)
 case atStart=>exact⟨0,L.length,by omega,Nat.le_refl _,rfl,rfl,fun i hi=>absurd hi (Nat.not_lt_zero i),fun i h1 h2=>by omega,Below.refl _ _⟩
 case round=>
  obtain⟨lo,hi,hlh,hin,rfl,rfl,HA,HZ,HB⟩:=hrel;by_cases hlt:lo<hi
  ·obtain⟨m,hm⟩:∃m,m=(lo+hi) / 2:=⟨_,rfl⟩
   have hmi:((lo:Int)+(hi:Int)) / 2=(m:Int):=by omega
   have hml:m<L.length:=by omega
   have HM:Hid (lo≤m∧m<hi):=by constructor <;> omega
   clear hm;obtain⟨g,off,rfl,hg,hc⟩:=hr.at m hml;obtain⟨c0,c1⟩:=hc.below HB.out hg;clear hc;have HP:Hid (_):=fun W=>place1 (atE L m).key key (atE L m).val W
   have HX:Hid (_):=cmp_lt (atE L m).key key;generalize cmpB (atE L m).key key=z at HP HX;by_cases hz:z<0
   ·have HA1:Hid (∀i,i<m+1→lt (atE L i).key key=true):=fun i hi=>rises_below HS.out (by omega) hml (HX.out.1 hz)
    clear HX HA;go_wp2_with (go_at_call 58;refine(HP.out wr).mono ?_;rintro e w1 ⟨rfl,b1⟩)
    have HB1:Hid (Below w.heap.size w w1):=HB.out.trans (b1.mono HB.out.size);clear HP HB b1 c0 c1;go_wp2;go_roundw
    case rel=>exact⟨m+1,hi,by have:=HM.out;omega,hin,by go_num,rfl,HA1,HZ,HB1⟩
    case measure=>have:=HM.out;simp [intOf];omega
   ·have HZ1:Hid (∀i,m≤i→i<L.length→lt (atE L i).key key=false):=fun i h1 h2=>by
     cases hq:lt (atE L i).key key
     ·rfl
     ·exact absurd (HX.out.2 (rises_below HS.out h1 h2 hq)) hz
    clear HX HZ;go_wp2_with (go_at_call 58;refine(HP.out wr).mono ?_;rintro e w1 ⟨rfl,b1⟩)
    have HB1:Hid (Below w.heap.size w w1):=HB.out.trans (b1.mono HB.out.size);clear HP HB b1 c0 c1;go_wp2;go_roundw
    case rel=>exact⟨lo,m,by have:=HM.out;omega,by omega,rfl,rfl,HA,HZ1,HB1⟩
    case measure=>have:=HM.out;simp [intOf];omega
  ·obtain rfl:hi=lo:=by omega
   by_cases hn:hi<L.length
   ·obtain⟨e1,e2⟩:=findN_stop hn HA.out (HZ.out hi (Nat.le_refl _) hn);obtain⟨g,off,rfl,hg,hc⟩:=hr.at hi hn;obtain⟨c0,c1⟩:=hc.below HB.out hg;have HP:Hid (_):=fun W=>place1 (atE L hi).key key (atE L hi).val W
    have HX:Hid (_):=cmp_same (atE L hi).key key;have H1:Hid (findN L key=hi):=e1;have H2:Hid (hasB L key=same (atE L hi).key key):=e2;generalize cmpB (atE L hi).key key=z at HP HX;clear hc e1 e2 HA HZ;by_cases hz:z=0
    ·have H3:Hid (hasB L key=true):=H2.out.trans (HX.out.1 hz);clear HX H2;go_wp2_with (go_at_call 58;refine(HP.out wr).mono ?_;rintro e w1 ⟨rfl,b1⟩)
     have HB1:Hid (Below w.heap.size w w1):=HB.out.trans (b1.mono HB.out.size);clear HP HB b1 c0 c1;go_wp2;go_ret2
     exact⟨ret_ib (congrArg Int.ofNat H1.out.symm) H3.out.symm,HB1.out⟩
    ·have H3:Hid (hasB L key=false):=by
      show _=_;rw [H2.out]
      cases hq:same (atE L hi).key key
      ·rfl
      ·exact absurd (HX.out.2 hq) hz
     clear HX H2;go_wp2_with (go_at_call 58;refine(HP.out wr).mono ?_;rintro e w1 ⟨rfl,b1⟩)
     have HB1:Hid (Below w.heap.size w w1):=HB.out.trans (b1.mono HB.out.size);clear HP HB b1 c0 c1;go_wp2;go_ret2
     exact⟨ret_ib (congrArg Int.ofNat H1.out.symm) (by rw [H3.out];simpa using hz),HB1.out⟩
   ·obtain rfl:hi=L.length:=by omega
    obtain⟨e1,e2⟩:=findN_full HA.out;have H1:Hid (findN L key=L.length):=e1;have H2:Hid (hasB L key=false):=e2;clear e1 e2 HA HZ;go_wp2;go_ret2
    exact⟨ret_ib (congrArg Int.ofNat H1.out.symm) H2.out.symm,HB.out⟩
theorem place(ao:Option Addr)(cap:Nat)(L:List En)(key:ByteArray)(w:World)(hl:L.length≤1048600)(hr:RdE w ao L)(hs:Rises L) :
  Calls Tryz.prog 46 #[.slice ao L.length cap,.string key] w fun e w'=>e=.returned (.tuple #[.int .i64 (findN L key:Int),.bool (hasB L key)])∧Below w.heap.size w w':=by
 have H:Hid (Calls Tryz.prog 57 #[.slice ao L.length cap,.string key,.func (.func 58) #[] #[]] w fun e w'=>e=.returned (.tuple #[.int .i64 (findN L key:Int),.bool (hasB L key)])∧Below w.heap.size w w'):=search ao cap L key w hl hr hs;generalize findN L key=n at H ⊢;generalize hasB L key=b at H ⊢;go_enter Tryz.func46,Tryz.ntmps46
 go_wp2_with (go_at_call 57;refine Calls.mono H.out ?_;rintro e w1 ⟨rfl,b1⟩)
 have HB:Hid (Below w.heap.size w w1):=b1;clear b1 H;go_wp2;go_ret2
 exact⟨rfl,HB.out⟩
end Bk
namespace Bk
open De (D okD keyB)
def valOk(v:Int):Bool:=decide (0≤v)&&decide (v≤9999)
theorem isValue(v:Int)(w:World):Calls Tryz.prog 82 #[.int .i64 v] w fun e w'=>e=.returned (.bool (valOk v))∧w=w':=by
 by_cases h1:0≤v
 ·go_enter Tryz.func82,Tryz.ntmps82
  go_wp2;go_ret;exact⟨Base.ret_bool (by simp [valOk,h1]),rfl⟩
 ·go_enter Tryz.func82,Tryz.ntmps82
  go_wp2;go_ret;exact⟨Base.ret_bool (by simp [valOk];omega),rfl⟩
end Bk
namespace Bk
open De (D okD keyB)
theorem insert{B g cap:Nat}{L:List En}{V0:World}(h:OwE B V0 g cap L)(hBw:B≤V0.heap.size)(i:Nat)(hi:i≤L.length)(h8:L.length≤1000)(x:En)(V:World)(hne:V.heap.size≠g)(hV:V0=V.alloc (.cells #[.string x.key,.int .i64 x.val] 56):=by rfl) :
  Calls Tryz.prog 72 #[.slice (some ⟨g,0,none⟩) L.length cap,.int .i64 (i:Int),.slice (some ⟨V.heap.size,0,none⟩) 1 1] V0 (InsPost B g L i x V0):=by
 subst hV;have hv:CellsE (V.alloc (.cells #[.string x.key,.int .i64 x.val] 56)) V.heap.size 0 x:=⟨by simp,by simp⟩
 have hvl:V.heap.size<(V.alloc (.cells #[.string x.key,.int .i64 x.val] 56)).heap.size:=by simp
 have hat:(V.alloc (.cells #[.string x.key,.int .i64 x.val] 56)).heap[V.heap.size]? = some (.cells #[.string x.key,.int .i64 x.val] 56 (0,0)):=by
  show(V.heap.push _)[V.heap.size]? = _;rw [Array.getElem?_push_size]
 by_cases he:i=L.length
 ·subst he;exact ins_end h hBw h8 x _ hv hvl
 ·by_cases hr:L.length+1≤cap
  ·exact ins_shift h i (by omega) hr x _ hv hvl hne 56 2 (by unfold World.shape?;rw [hat];rfl) (by unfold World.frozen?;rw [hat];rfl) (by unfold World.frozen?;rw [hat];rfl)
  ·exact ins_grow h hBw i (by omega) (by omega) h8 x _ hv hvl
def ActPost(B g:Nat)(M:List En × Int)(w:World)(e:Ending)(w':World):Prop:=
 ∃g' c',e=.returned (.tuple #[.slice (some ⟨g',0,none⟩) M.1.length c',.int .i64 M.2])∧OwE B w' g' c' M.1∧w.grownBy w' (some g)∧(g'=g∨w.heap.size≤g')
theorem below_grown{w V V':World}{r:Option Nat}(h:Below w.heap.size w V)(hg:V.grownBy V' r):w.grownBy V' r:=
 ⟨hg.os.trans h.os,hg.tape.trans h.tape,hg.output.trans h.output,Nat.le_trans h.size hg.size,fun k hk hr=>(hg.block k (Nat.lt_of_lt_of_le hk h.size) hr).trans (h.block k hk)⟩
theorem ActPost.behind{B g:Nat}{M:List En × Int}{w V V':World}{e:Ending}(h:ActPost B g M V e V')(hb:Below w.heap.size w V):ActPost B g M w e V':=by
 obtain⟨g',c',h1,h2,h3,h4⟩:=h;exact⟨g',c',h1,h2,below_grown hb h3,h4.imp id (fun q=>Nat.le_trans hb.size q)⟩
theorem act_stay{B g c:Nat}{L:List En}{w V:World}{k:Int}(h:OwE B w g c L)(hb:Below w.heap.size w V):ActPost B g (L,k) w (.returned (.tuple #[.slice (some ⟨g,0,none⟩) L.length c,.int .i64 k])) V:=
 ⟨g,c,rfl,h.below hb,below_grown hb ⟨rfl,rfl,rfl,Nat.le_refl _,fun _ _ _=>rfl⟩,.inl rfl⟩
def giveB(L:List En)(n:Nat)(v:Int):List En × Int:=if valOk v then (L.set n ⟨(atE L n).key,v⟩,0) else (L,3)
theorem give{B g c:Nat}{L:List En}{w:World}(h:OwE B w g c L)(n:Nat)(hn:n<L.length)(v:Int) :
  Calls Tryz.prog 71 #[.slice (some ⟨g,0,none⟩) L.length c,.int .i64 n,.int .i64 v] w (ActPost B g (giveB L n v) w):=by
 have HV:Hid (∀W:World,Calls Tryz.prog 82 #[.int .i64 v] W fun e w'=>e=.returned (.bool (valOk v))∧W=w'):=fun W=>isValue v W
 have HG:Hid (giveB L n v=if valOk v then (L.set n ⟨(atE L n).key,v⟩,0) else (L,3)):=rfl;generalize giveB L n v=M at HG ⊢;generalize valOk v=b at HV HG;obtain⟨hgl,hc⟩:=h.rd.on n hn;rw [Nat.zero_add] at hc;obtain⟨c0,c1⟩:=hc;have f1:=h.frozen (n*2+1)
 cases b
 ·have HP:Hid (ActPost B g M w (.returned (.tuple #[.slice (some ⟨g,0,none⟩) L.length c,.int .i64 3])) w):=by rw [HG.out];exact act_stay h (Below.refl _ _)
  clear HG h;go_enter Tryz.func71,Tryz.ntmps71
  go_wp2_with (go_at_call 82;refine(HV.out _).mono ?_;rintro e w' ⟨rfl,rfl⟩)
  go_ret2
  exact HP.out
 ·have HP:Hid (ActPost B g M w (.returned (.tuple #[.slice (some ⟨g,0,none⟩) L.length c,.int .i64 0])) (w.setCell ⟨g,n*2+1,none⟩ (.int .i64 v))):=by
   have hp:=h.put n hn v;rw [HG.out,if_pos rfl];have hl:(L.set n ⟨(atE L n).key,v⟩).length=L.length:=List.length_set;refine⟨g,c,by show _=Ending.returned (.tuple #[.slice _ (L.set n _).length _,_]);rw [hl],hp,(World.ownsRow.stored h (n*2+1) (.int .i64 v)).2,.inl rfl⟩
  clear HG h;go_enter Tryz.func71,Tryz.ntmps71
  go_wp2_with (go_at_call 82;refine(HV.out _).mono ?_;rintro e w' ⟨rfl,rfl⟩)
  go_ret2
  exact HP.out
section
variable {B g c:Nat} {L:List En} {w:World} (h:OwE B w g c L) (n:Nat) (d:D)
include h
theorem actRewrite(hn:n<L.length):Calls Tryz.prog 60 #[.slice (some ⟨g,0,none⟩) L.length c,.int .i64 n,.agg #[.int .i64 d.kind,.string d.key,.int .i64 d.val,.int .i64 d.new]] w (ActPost B g (giveB L n d.val) w):=by
 have P0:Hid (_):=De.box4 w (.int .i64 d.kind) (.string d.key) (.int .i64 d.val) (.int .i64 d.new) 34;have HG:Hid (∀V,Below w.heap.size w V→Calls Tryz.prog 71 #[.slice (some ⟨g,0,none⟩) L.length c,.int .i64 n,.int .i64 d.val] V fun e w'=>ActPost B g (giveB L n d.val) w e w'):=fun V hV=>(give (h.below hV) n hn d.val).mono fun e w' q=>q.behind hV
 clear h;go_enter Tryz.func60,Tryz.ntmps60
 go_upto_region 1 with fail
 generalize w.alloc (.cells #[.int .i64 d.kind,.string d.key,.int .i64 d.val,.int .i64 d.new] 34)=W0 at P0 ⊢;obtain⟨B0,x0,x1,x2,x3,hlt⟩:=P0;go_wp2_with fail
 refine(HG.out W0 B0).mono ?_;rintro e W1 ⟨g',c',rfl,rest⟩;have HR:Hid (_):=rest;clear rest HG B0;go_wp2;go_ret2
 exact⟨g',c',rfl,HR.out⟩
theorem actAdd(hn:n<L.length)(hv:-100000≤(atE L n).val∧(atE L n).val≤100000)(hd:0≤d.val∧d.val≤99):Calls Tryz.prog 64 #[.slice (some ⟨g,0,none⟩) L.length c,.int .i64 n,.agg #[.int .i64 d.kind,.string d.key,.int .i64 d.val,.int .i64 d.new]] w (ActPost B g (giveB L n ((atE L n).val+d.val)) w):=by
 have P0:Hid (_):=De.box4 w (.int .i64 d.kind) (.string d.key) (.int .i64 d.val) (.int .i64 d.new) 34;have HG:Hid (∀V,Below w.heap.size w V→Calls Tryz.prog 71 #[.slice (some ⟨g,0,none⟩) L.length c,.int .i64 n,.int .i64 ((atE L n).val+d.val)] V fun e w'=>ActPost B g (giveB L n ((atE L n).val+d.val)) w e w'):=fun V hV=>(give (h.below hV) n hn _).mono fun e w' q=>q.behind hV
 have HC:Hid (∀V,Below w.heap.size w V→V.cell? ⟨g,n*2+1,none⟩=some (.int .i64 (atE L n).val)):=fun V hV=>by
  have:=((h.below hV).rd.on n hn).2.c1;rwa [Nat.zero_add] at this
 clear h;generalize (atE L n).val=ev at *;have hw:IntKind.i64.wrap (ev+d.val)=ev+d.val:=by rw [IntKind.wrap_i64];omega
 go_enter Tryz.func64,Tryz.ntmps64
 go_upto_region 1 with fail
 generalize w.alloc (.cells #[.int .i64 d.kind,.string d.key,.int .i64 d.val,.int .i64 d.new] 34)=W0 at P0 ⊢;obtain⟨B0,x0,x1,x2,x3,hlt⟩:=P0;have e1:=HC.out W0 B0;go_region_law (rw [if_pos (by simp [Region.wanted])];go_simp;refine(HG.out _ B0.drew).mono ?_;rintro e W1 ⟨g',c',rfl,rest⟩;have HR:Hid (_):=rest;clear rest)
 all_goals
  go_wp2;go_ret2
  exact⟨g',c',rfl,HR.out⟩
def swapB(L:List En)(n:Nat)(val new:Int):List En × Int:=if (atE L n).val≠val then (L,2) else giveB L n new
theorem actSwap(hn:n<L.length):Calls Tryz.prog 65 #[.slice (some ⟨g,0,none⟩) L.length c,.int .i64 n,.agg #[.int .i64 d.kind,.string d.key,.int .i64 d.val,.int .i64 d.new]] w (ActPost B g (swapB L n d.val d.new) w):=by
 have P0:Hid (_):=De.box4 w (.int .i64 d.kind) (.string d.key) (.int .i64 d.val) (.int .i64 d.new) 34;have HG:Hid (∀V,Below w.heap.size w V→Calls Tryz.prog 71 #[.slice (some ⟨g,0,none⟩) L.length c,.int .i64 n,.int .i64 d.new] V fun e w'=>ActPost B g (giveB L n d.new) w e w'):=fun V hV=>(give (h.below hV) n hn _).mono fun e w' q=>q.behind hV
 have HC:Hid (∀V,Below w.heap.size w V→V.cell? ⟨g,n*2+1,none⟩=some (.int .i64 (atE L n).val)):=fun V hV=>by
  have:=((h.below hV).rd.on n hn).2.c1;rwa [Nat.zero_add] at this
 have HS:Hid (∀V,Below w.heap.size w V→ActPost B g (L,2) w (.returned (.tuple #[.slice (some ⟨g,0,none⟩) L.length c,.int .i64 2])) V):=fun V hV=>act_stay h hV
 have HM:Hid (swapB L n d.val d.new=if (atE L n).val≠d.val then (L,2) else giveB L n d.new):=rfl;clear h;generalize swapB L n d.val d.new=M at HM ⊢;generalize (atE L n).val=ev at *;by_cases he:ev=d.val
 ·have HM2:Hid (M=giveB L n d.new):=by show _=_;rw [HM.out,if_neg (by simpa using he)]
  go_enter Tryz.func65,Tryz.ntmps65
  go_upto_region 1 with fail
  generalize w.alloc (.cells #[.int .i64 d.kind,.string d.key,.int .i64 d.val,.int .i64 d.new] 34)=W0 at P0 ⊢;obtain⟨B0,x0,x1,x2,x3,hlt⟩:=P0;have e1:=HC.out W0 B0;have B1:=B0.drew;go_region
  go_wp2_with (go_at_call 71;refine(HG.out _ B1).mono ?_;rintro e W1 ⟨g',c',rfl,rest⟩;have HR:Hid (_):=rest;clear rest)
  go_ret2
  rw [HM2.out];exact⟨g',c',rfl,HR.out⟩
 ·have HM2:Hid (M=(L,2)):=by show _=_;rw [HM.out,if_pos he]
  go_enter Tryz.func65,Tryz.ntmps65
  go_upto_region 1 with fail
  generalize w.alloc (.cells #[.int .i64 d.kind,.string d.key,.int .i64 d.val,.int .i64 d.new] 34)=W0 at P0 ⊢;obtain⟨B0,x0,x1,x2,x3,hlt⟩:=P0;have e1:=HC.out W0 B0;have HE:Hid (_):=HS.out _ B0.drew;go_region
  go_wp2;go_ret2
  rw [HM2.out];exact HE.out
theorem actNone:Calls Tryz.prog 63 #[.slice (some ⟨g,0,none⟩) L.length c,.int .i64 n,.agg #[.int .i64 d.kind,.string d.key,.int .i64 d.val,.int .i64 d.new]] w (ActPost B g (L,1) w):=by
 have HS:Hid (∀V,Below w.heap.size w V→ActPost B g (L,1) w (.returned (.tuple #[.slice (some ⟨g,0,none⟩) L.length c,.int .i64 1])) V):=fun V hV=>act_stay h hV
 have HB:Hid (∀o:Obj,Below w.heap.size w (w.alloc o)):=fun o=>(Below.refl _ _).alloc (Nat.le_refl _) o
 clear h;go_enter Tryz.func63,Tryz.ntmps63
 go_wp2;go_ret2
 exact HS.out _ (by first | exact HB.out _ | exact Below.refl _ _)
theorem actCut(hn:n<L.length)(h8:L.length≤1000):Calls Tryz.prog 62 #[.slice (some ⟨g,0,none⟩) L.length c,.int .i64 n,.agg #[.int .i64 d.kind,.string d.key,.int .i64 d.val,.int .i64 d.new]] w (ActPost B g (L.take n++L.drop (n+1),0) w):=by
 have HB:Hid (∀o:Obj,Below w.heap.size w (w.alloc o)):=fun o=>(Below.refl _ _).alloc (Nat.le_refl _) o
 have HD:Hid (∀V,Below w.heap.size w V→Calls Tryz.prog 73 #[.slice (some ⟨g,0,none⟩) L.length c,.int .i64 n,.int .i64 ((n:Int)+1)] V fun e w'=>e=.returned (.slice (some ⟨g,0,none⟩) (L.take n++L.drop (n+1)).length c)∧OwE B w' g c (L.take n++L.drop (n+1))∧V.grownBy w' (some g)):=fun V hV=>delete (h.below hV) n hn
 generalize L.take n++L.drop (n+1)=M at HD ⊢;have hw:IntKind.i64.wrap ((n:Int)+1)=(n:Int)+1:=by rw [IntKind.wrap_i64];omega
 clear h;go_enter Tryz.func62,Tryz.ntmps62
 go_wp2_with (go_at_call 73;refine(HD.out _ (HB.out _)).mono ?_;rintro e W1 ⟨rfl,ho,hg⟩;have HR:Hid (_):=And.intro ho (below_grown (HB.out _) hg);clear ho hg)
 go_ret2
 exact⟨g,c,rfl,HR.out.1,HR.out.2,.inl rfl⟩
def enterB(L:List En)(n:Nat)(key:ByteArray)(val:Int):List En × Int:=if 8≤L.length then (L,3) else (L.take n++[⟨key,val⟩]++L.drop n,0)
theorem actEnter(hB:B≤w.heap.size)(hn:n≤L.length):Calls Tryz.prog 61 #[.slice (some ⟨g,0,none⟩) L.length c,.int .i64 n,.agg #[.int .i64 d.kind,.string d.key,.int .i64 d.val,.int .i64 d.new]] w (ActPost B g (enterB L n d.key d.val) w):=by
 have P0:Hid (_):=De.box4 w (.int .i64 d.kind) (.string d.key) (.int .i64 d.val) (.int .i64 d.new) 34;have HE:Hid (enterB L n d.key d.val=if 8≤L.length then (L,3) else (L.take n++[(⟨d.key,d.val⟩:En)]++L.drop n,0)):=rfl;by_cases h8:8≤L.length
 ·have h8':(8:Int)≤(L.length:Int):=by omega
  have HS:Hid (∀V,Below w.heap.size w V→ActPost B g (enterB L n d.key d.val) w (.returned (.tuple #[.slice (some ⟨g,0,none⟩) L.length c,.int .i64 3])) V):=fun V hV=>by
   rw [HE.out,if_pos h8];exact act_stay h hV
  clear h HE;generalize enterB L n d.key d.val=M at HS ⊢;go_enter Tryz.func61,Tryz.ntmps61
  go_wp2;go_ret2
  exact HS.out _ P0.out.1
 ·have h8':¬ (8:Int)≤(L.length:Int):=by omega
  have HI:Hid (∀V:World,Below w.heap.size w V→Calls Tryz.prog 72 #[.slice (some ⟨g,0,none⟩) L.length c,.int .i64 n,.slice (some ⟨V.heap.size,0,none⟩) 1 1] (V.alloc (.cells #[.string d.key,.int .i64 d.val] 56)) fun e w'=>∃g' c',e=.returned (.slice (some ⟨g',0,none⟩) (L.take n++[(⟨d.key,d.val⟩:En)]++L.drop n).length c')∧OwE B w' g' c' (L.take n++[(⟨d.key,d.val⟩:En)]++L.drop n)∧w.grownBy w' (some g)∧(g'=g∨w.heap.size≤g')):=fun V hV=>by
   have b1:Below w.heap.size w (V.alloc (.cells #[.string d.key,.int .i64 d.val] 56)):=hV.alloc hV.size _;have hgl:=h.shape.2.2.2;refine(insert (h.below b1) (Nat.le_trans hB b1.size) n hn (by omega) ⟨d.key,d.val⟩ V (Nat.ne_of_gt (Nat.lt_of_lt_of_le hgl hV.size))).mono ?_;rintro e w' ⟨g',c',h1,h2,h3,h4⟩;exact⟨g',c',h1,h2,below_grown b1 h3,h4.imp id (fun q=>by rw [q];exact b1.size)⟩
  have HM:Hid (enterB L n d.key d.val=(L.take n++[(⟨d.key,d.val⟩:En)]++L.drop n,0)):=by show _=_;rw [HE.out,if_neg h8]
  clear h HE;generalize enterB L n d.key d.val=M at HM ⊢;generalize L.take n++[(⟨d.key,d.val⟩:En)]++L.drop n=N at HM HI;go_enter Tryz.func61,Tryz.ntmps61
  go_upto_region 1 with fail
  generalize w.alloc (.cells #[.int .i64 d.kind,.string d.key,.int .i64 d.val,.int .i64 d.new] 34)=W0 at P0 ⊢;obtain⟨B0,x0,x1,x2,x3,hlt⟩:=P0;go_wp2_with (go_at_call 72;refine(HI.out W0 B0).mono ?_;rintro e W1 ⟨g',c',rfl,rest⟩;have HR:Hid (_):=rest;clear rest)
  go_ret2
  rw [HM.out];exact⟨g',c',rfl,HR.out⟩
end
end Bk
namespace Bk
open De (D okD keyB)
def WayPost(f1 f2:Nat)(w:World)(e:Ending)(w':World):Prop:=e=.returned (.agg #[.func (.func f1) #[] #[],.func (.func f2) #[] #[]])∧Below w.heap.size w w'
def wayF(kind:Int):Nat × Nat:=if kind=1 then (60,61) else if kind=2 then (62,63) else if kind=3 then (64,63) else (65,63)
theorem wayOf(kind:Int)(hk:1≤kind∧kind≤4)(w:World):Calls Tryz.prog 47 #[.int .i64 kind] w (WayPost (wayF kind).1 (wayF kind).2 w):=by
 have hs0:∀(a:Addr) (m:Mode) (W:World),Sem.run Tryz.prog (store a Value.nilFunc m) W=stored Tryz.prog W a Value.nilFunc m:=fun a m W=>run_store Tryz.prog W a _ m rfl
 have hs1:∀(f:Nat) (a:Addr) (m:Mode) (W:World),Sem.run Tryz.prog (store a (.func (.func f) #[] #[]) m) W=stored Tryz.prog W a (.func (.func f) #[] #[]) m:=fun f a m W=>run_store Tryz.prog W a _ m rfl
 rcases(show kind=1∨kind=2∨kind=3∨kind=4 by omega) with rfl | rfl | rfl | rfl
 ·go_enter Tryz.func47,Tryz.ntmps47
  go_wp2;exact bodyPost_ret (v:=.agg #[.func (.func (wayF 1).1) #[] #[],.func (.func (wayF 1).2) #[] #[]]) (by simp [results,Tryz.f47,go_sem,wayF]) rfl ⟨rfl,((Below.refl w.heap.size w).alloc (Nat.le_refl _) _).alloc (by simp) _⟩
 ·go_enter Tryz.func47,Tryz.ntmps47
  go_wp2;exact bodyPost_ret (v:=.agg #[.func (.func (wayF 2).1) #[] #[],.func (.func (wayF 2).2) #[] #[]]) (by simp [results,Tryz.f47,go_sem,wayF]) rfl ⟨rfl,((Below.refl w.heap.size w).alloc (Nat.le_refl _) _).alloc (by simp) _⟩
 ·go_enter Tryz.func47,Tryz.ntmps47
  go_wp2;exact bodyPost_ret (v:=.agg #[.func (.func (wayF 3).1) #[] #[],.func (.func (wayF 3).2) #[] #[]]) (by simp [results,Tryz.f47,go_sem,wayF]) rfl ⟨rfl,((Below.refl w.heap.size w).alloc (Nat.le_refl _) _).alloc (by simp) _⟩
 ·go_enter Tryz.func47,Tryz.ntmps47
  go_wp2;exact bodyPost_ret (v:=.agg #[.func (.func (wayF 4).1) #[] #[],.func (.func (wayF 4).2) #[] #[]]) (by simp [results,Tryz.f47,go_sem,wayF]) rfl ⟨rfl,((Below.refl w.heap.size w).alloc (Nat.le_refl _) _).alloc (by simp) _⟩
theorem doneF{B g c:Nat}{L:List En}{w:World}{f1 f2:Nat}{M:List En × Int}(d:D)(h:OwE B w g c L)(hs:Rises L)(h8:L.length≤1000)
   (eg1:∀args W,(callFunc f1 args).run Tryz.prog W=.ok (.enter f1 args) W) (eg2:∀args W,(callFunc f2 args).run Tryz.prog W=.ok (.enter f2 args) W)
   (HW:∀W:World,Calls Tryz.prog 47 #[.int .i64 d.kind] W (WayPost f1 f2 W))
   (H1:hasB L d.key=true→∀V:World,Below w.heap.size w V→Calls Tryz.prog f1 #[.slice (some ⟨g,0,none⟩) L.length c,.int .i64 (findN L d.key:Int),.agg #[.int .i64 d.kind,.string d.key,.int .i64 d.val,.int .i64 d.new]] V (ActPost B g M w))
   (H2:hasB L d.key=false→∀V:World,Below w.heap.size w V→Calls Tryz.prog f2 #[.slice (some ⟨g,0,none⟩) L.length c,.int .i64 (findN L d.key:Int),.agg #[.int .i64 d.kind,.string d.key,.int .i64 d.val,.int .i64 d.new]] V (ActPost B g M w)) :
   Calls Tryz.prog 31 #[.slice (some ⟨g,0,none⟩) L.length c,.agg #[.int .i64 d.kind,.string d.key,.int .i64 d.val,.int .i64 d.new]] w (ActPost B g M w):=by
 have P0:Hid (_):=De.box4 w (.int .i64 d.kind) (.string d.key) (.int .i64 d.val) (.int .i64 d.new) 34;have HP:Hid (∀V:World,Below w.heap.size w V→Calls Tryz.prog 46 #[.slice (some ⟨g,0,none⟩) L.length c,.string d.key] V fun e w'=>e=.returned (.tuple #[.int .i64 (findN L d.key:Int),.bool (hasB L d.key)])∧Below V.heap.size V w'):=fun V hV=>place (some ⟨g,0,none⟩) c L d.key V (by omega) (h.below hV).rd hs
 have HW:Hid (∀W:World,Calls Tryz.prog 47 #[.int .i64 d.kind] W fun e w'=>e=.returned (.agg #[.func (.func f1) #[] #[],.func (.func f2) #[] #[]])∧Below W.heap.size W w'):=HW;have H1:Hid (_):=H1;have H2:Hid (_):=H2;have hf1:∀W:World,Sem.run Tryz.prog (Instr.field 75 (.agg #[.func (.func f1) #[] #[],.func (.func f2) #[] #[]]) 0) W=.ok (.func (.func f1) #[] #[]) W:=fun W=>by simp [Instr.field,part,run_underlying Tryz.underlying75,asAgg,go_sem]
 have hf2:∀W:World,Sem.run Tryz.prog (Instr.field 75 (.agg #[.func (.func f1) #[] #[],.func (.func f2) #[] #[]]) 1) W=.ok (.func (.func f2) #[] #[]) W:=fun W=>by simp [Instr.field,part,run_underlying Tryz.underlying75,asAgg,go_sem]
 clear h hs;generalize findN L d.key=n at HP H1 H2;generalize hasB L d.key=is at HP H1 H2
 cases is
 · have HA:Hid (_):=H2.out rfl;clear H1 H2;go_enter Tryz.func31,Tryz.ntmps31
   go_upto_region 1 with fail
   generalize w.alloc (.cells #[.int .i64 d.kind,.string d.key,.int .i64 d.val,.int .i64 d.new] 34)=W0 at P0 ⊢;obtain⟨B0,x0,x1,x2,x3,hlt⟩:=P0;go_wp2_with (go_at_call 46;refine(HP.out W0 B0).mono ?_;rintro e W1 ⟨rfl,b1⟩)
   have HY:Hid (∀V:World,Below W1.heap.size W1 V→V.cell? ⟨w.heap.size,0,none⟩=some (.int .i64 d.kind)∧V.cell? ⟨w.heap.size,1,none⟩=some (.string d.key)∧V.cell? ⟨w.heap.size,2,none⟩=some (.int .i64 d.val)∧V.cell? ⟨w.heap.size,3,none⟩=some (.int .i64 d.new)):=fun V hV=>by
     have hl:w.heap.size<W1.heap.size:=Nat.lt_of_lt_of_le hlt b1.size;exact⟨(hV.cell (p:=⟨w.heap.size,0,none⟩) hl).trans ((b1.cell (p:=⟨w.heap.size,0,none⟩) hlt).trans x0),(hV.cell (p:=⟨w.heap.size,1,none⟩) hl).trans ((b1.cell (p:=⟨w.heap.size,1,none⟩) hlt).trans x1),(hV.cell (p:=⟨w.heap.size,2,none⟩) hl).trans ((b1.cell (p:=⟨w.heap.size,2,none⟩) hlt).trans x2),(hV.cell (p:=⟨w.heap.size,3,none⟩) hl).trans ((b1.cell (p:=⟨w.heap.size,3,none⟩) hlt).trans x3)⟩
   have HB1:Hid (Below w.heap.size w W1):=B0.trans (b1.mono B0.size);clear x0 x1 x2 x3 b1 B0 HP;obtain⟨y0,y1,y2,y3⟩:=HY.out W1 (Below.refl _ _);go_region_law (first
     | (rw [if_pos (by simp [Region.wanted])]
        go_simp
        refine(HW.out _).mono ?_;rintro e W2 ⟨rfl,b2⟩;have b12:Below W1.heap.size W1 W2:=(Below.refl _ W1).drew.trans b2;obtain⟨z0,z1,z2,z3⟩:=HY.out W2 b12;have HB2:Hid (Below w.heap.size w W2):=HB1.out.trans (b12.mono HB1.out.size);clear b2 b12)
     | (rw [if_pos (by simp [Region.wanted])]
        go_simp
        refine(HA.out W2 HB2.out).mono ?_;rintro e W3 ⟨g',c',rfl,rest⟩;have HR:Hid (_):=rest;clear rest))
   all_goals
     go_wp2;go_ret2
     exact⟨g',c',rfl,HR.out⟩
 · have HA:Hid (_):=H1.out rfl;clear H1 H2;go_enter Tryz.func31,Tryz.ntmps31
   go_upto_region 1 with fail
   generalize w.alloc (.cells #[.int .i64 d.kind,.string d.key,.int .i64 d.val,.int .i64 d.new] 34)=W0 at P0 ⊢;obtain⟨B0,x0,x1,x2,x3,hlt⟩:=P0;go_wp2_with (go_at_call 46;refine(HP.out W0 B0).mono ?_;rintro e W1 ⟨rfl,b1⟩)
   have HY:Hid (∀V:World,Below W1.heap.size W1 V→V.cell? ⟨w.heap.size,0,none⟩=some (.int .i64 d.kind)∧V.cell? ⟨w.heap.size,1,none⟩=some (.string d.key)∧V.cell? ⟨w.heap.size,2,none⟩=some (.int .i64 d.val)∧V.cell? ⟨w.heap.size,3,none⟩=some (.int .i64 d.new)):=fun V hV=>by
     have hl:w.heap.size<W1.heap.size:=Nat.lt_of_lt_of_le hlt b1.size;exact⟨(hV.cell (p:=⟨w.heap.size,0,none⟩) hl).trans ((b1.cell (p:=⟨w.heap.size,0,none⟩) hlt).trans x0),(hV.cell (p:=⟨w.heap.size,1,none⟩) hl).trans ((b1.cell (p:=⟨w.heap.size,1,none⟩) hlt).trans x1),(hV.cell (p:=⟨w.heap.size,2,none⟩) hl).trans ((b1.cell (p:=⟨w.heap.size,2,none⟩) hlt).trans x2),(hV.cell (p:=⟨w.heap.size,3,none⟩) hl).trans ((b1.cell (p:=⟨w.heap.size,3,none⟩) hlt).trans x3)⟩
   have HB1:Hid (Below w.heap.size w W1):=B0.trans (b1.mono B0.size);clear x0 x1 x2 x3 b1 B0 HP;obtain⟨y0,y1,y2,y3⟩:=HY.out W1 (Below.refl _ _);go_region_law (first
     | (rw [if_pos (by simp [Region.wanted])]
        go_simp
        refine(HW.out _).mono ?_;rintro e W2 ⟨rfl,b2⟩;have b12:Below W1.heap.size W1 W2:=(Below.refl _ W1).drew.trans b2;obtain⟨z0,z1,z2,z3⟩:=HY.out W2 b12;have HB2:Hid (Below w.heap.size w W2):=HB1.out.trans (b12.mono HB1.out.size);clear b2 b12)
     | (rw [if_pos (by simp [Region.wanted])]
        go_simp
        refine(HA.out W2 HB2.out).mono ?_;rintro e W3 ⟨g',c',rfl,rest⟩;have HR:Hid (_):=rest;clear rest))
   all_goals
     go_wp2;go_ret2
     exact⟨g',c',rfl,HR.out⟩
end Bk
end
section
namespace Draw
open Cur (At)
theorem kept_cell{w w1:World}{c g j:Nat}{v:Value}(hG:w.grownBy w1 (some c))(hg:g≠c)(h:w.cell? ⟨g,j,none⟩=some v):w1.cell? ⟨g,j,none⟩=some v:=
 hG.cell h (by simpa using hg)
theorem at_alloc{c:Nat}{a:Option Addr}{len cap:Nat}{w:World}(h:At c a len cap w)(o:Obj):At c a len cap (w.alloc o):=h.below ((Below.refl _ _).alloc (Nat.le_refl _) _)
theorem lit_int{w w2:World}{c:Nat}{t:TypeId}{l:List Int}(hc:c<w.heap.size)(hG:(w.alloc (.cells (l.map (Value.int .i64)).toArray t)).grownBy w2 (some c))(j:Nat)(hj:j<l.length)
  (hl:∀x∈l,-9223372036854775808≤x∧x≤9223372036854775807):∃v:Int,w2.cell? ⟨w.heap.size,j,none⟩=some (.int .i64 v)∧-9223372036854775808≤v∧v≤9223372036854775807:=by
 refine⟨l[j],kept_cell hG (by omega) ?_,hl _ (List.getElem_mem hj)⟩;rw [World.cell?_alloc_new];simp [hj]
theorem below_of_grown{w w1 w2:World}{c:Nat}(h:Below w.heap.size w w1)(hc:w.heap.size≤c)(hg:w1.grownBy w2 (some c)):Below w.heap.size w w2:=
 h.grown hg h.size (fun k hk=>by simp at hk;omega)
end Draw
namespace Bk
open De (D okD keyB)
def DoPost(base g:Nat)(M:List En × Int)(w:World)(e:Ending)(w':World):Prop:=∃g' c',e=.returned (.tuple #[.slice (some ⟨g',0,none⟩) M.1.length c',.int .i64 M.2])∧OwE base w' g' c' M.1∧w.grownBy w' (some g)
theorem grown_of_below{w w':World}(h:Below w.heap.size w w')(r:Option Nat):w.grownBy w' r:=⟨h.os,h.tape,h.output,h.size,fun j hj _=>h.block j hj⟩
theorem grown_trans{a b c:World}{r:Option Nat}(h:a.grownBy b r)(k:b.grownBy c r):a.grownBy c r:=⟨k.os.trans h.os,k.tape.trans h.tape,k.output.trans h.output,Nat.le_trans h.size k.size,fun i hi hne=>(k.block i (Nat.lt_of_lt_of_le hi h.size) hne).trans (h.block i hi hne)⟩
theorem grown_set{w V:World}{g:Nat}(h:w.grownBy V (some g))(j:Nat)(u:Value):w.grownBy (V.setCell ⟨g,j,none⟩ u) (some g) where
 os:=h.os
 tape:=h.tape
 output:=h.output
 size:=by simpa using h.size
 block:=fun i hi hne=>(heap_setCell_other V ⟨g,j,none⟩ i u (fun e=>hne (by rw [e]))).trans (h.block i hi hne)
theorem grown_drew{a b:World}{r:Option Nat}(h:a.grownBy b r):a.grownBy b.drew r:=⟨h.os,h.tape,h.output,h.size,h.block⟩
theorem ret_len{n n' g c:Nat}{k:Int}(h:n=n'):Ending.returned (.tuple #[.slice (some ⟨g,0,none⟩) n c,.int .i64 k])=.returned (.tuple #[.slice (some ⟨g,0,none⟩) n' c,.int .i64 k]):=by rw [h]
theorem cell_alloc_old{W:World}{a:Addr}{u:Value}{o:Obj}(h:W.cell? a=some u):(W.alloc o).cell? a=some u:=(World.cell?_alloc_lt _ _ a (block_lt_of_cell h)).trans h
theorem news_grown{U V:World}{b g0:Nat}{l:List Value}(hg:U.grownBy V (some g0))(h:∀(j:Nat) u,l[j]? = some u→U.cell? ((⟨b,0,none⟩:Addr).add j)=some u)(hne:b≠g0):∀(j:Nat) u,l[j]? = some u→V.cell? ((⟨b,0,none⟩:Addr).add j)=some u:=by
 intro j u hj;have:=h j u hj;rw [WideShapes.add_plain] at this ⊢;exact Draw.kept_cell hg hne this
theorem l17Do(g cap:Nat)(L:List En)(d:D)(base:Nat)(w:World)(hb:base≤w.heap.size)(h:OwE base w g cap L)(hl:L.length≤100)(hv:∀e∈L,-100000≤e.val∧e.val≤100000)(hd:-100000≤d.val∧d.val≤100000) :
   Calls Tryz.prog 32 #[.slice (some ⟨g,0,none⟩) L.length cap,.agg #[.int .i64 d.kind,.string d.key,.int .i64 d.val,.int .i64 d.new]] w (DoPost base g (doB L d) w):=by
 obtain⟨kind,key,val,new⟩:=d;dsimp only at hd ⊢;have HD:Hid (doB L ⟨kind,key,val,new⟩=doC L (findN L key) (hasB L key) kind key val new):=rfl;generalize doB L ⟨kind,key,val,new⟩=R at HD ⊢;have P0:Hid (_):=De.box4 w (.int .i64 kind) (.string key) (.int .i64 val) (.int .i64 new) 34;have HO:Hid (OwE base (w.alloc (.cells #[.int .i64 kind,.string key,.int .i64 val,.int .i64 new] 34)) g cap L):=h.alloc _;go_enter Tryz.func32,Tryz.ntmps32
 go_upto_region 1 with fail
 generalize w.alloc (.cells #[.int .i64 kind,.string key,.int .i64 val,.int .i64 new] 34)=W0 at P0 HO ⊢;obtain⟨B0,x0,x1,x2,x3,hlt⟩:=P0;go_wp2_with fail
 refine(l17Find (some ⟨g,0,none⟩) cap L key W0 (by omega) HO.out.rd).mono ?_;rintro e W1 ⟨rfl,b1⟩;have y0:=(b1.cell (p:=⟨w.heap.size,0,none⟩) hlt).trans x0;have y1:=(b1.cell (p:=⟨w.heap.size,1,none⟩) hlt).trans x1;have y2:=(b1.cell (p:=⟨w.heap.size,2,none⟩) hlt).trans x2;have y3:=(b1.cell (p:=⟨w.heap.size,3,none⟩) hlt).trans x3;have HO1:Hid (OwE base W1 g cap L):=HO.out.below b1;have HB1:Hid (Below w.heap.size w W1):=B0.trans (b1.mono B0.size);have HL:Hid (w.heap.size<W1.heap.size):=Nat.lt_of_lt_of_le hlt b1.size;have HG:Hid (w.grownBy W1 (some g)):=grown_of_below HB1.out _;clear x0 x1 x2 x3 b1 B0 HO hlt h;have hn:=findN_le L key;have HA:Hid (hasB L key=true→findN L key<L.length):=fun q=>by unfold hasB at q;simp at q;exact q.1
 generalize findN L key=n at *;generalize hasB L key=is at *;have hsh:=HO1.out.shape;by_cases k1:kind=1
 · subst k1
   cases is
   · by_cases h8:L.length=8
     · have h8':((L.length:Int) == 8)=true:=by simp;omega
       have HR:Hid (R=(L,3)):=by show _=_;rw [HD.out];unfold doC;simp [h8]
       go_wp2;go_ret2
       rw [HR.out];rw [← h8];exact⟨g,cap,rfl,HO1.out,HG.out⟩
     · have h8':((L.length:Int) == 8)=false:=by simp;omega
       have HR:Hid (R=(L.take n++[⟨key,val⟩]++L.drop n,0)):=by show _=_;rw [HD.out];unfold doC;simp [h8]
       clear HD HA;obtain⟨hc1,hc2,hc3,hc4⟩:=hsh;have hnI:(n:Int)≤(L.length:Int):=by omega
       have hnc:n≤cap:=by omega
       obtain⟨Aa,hAa,hrd⟩:=HO1.out.rd.drop n hn hc1;rw [Nat.zero_add] at hAa;have HRD:Hid (RdE W1 (some Aa) (L.drop n)):=hrd;clear hrd;go_upto_region 8 with fail
       go_wp2_with (at_builtin;refine list_E rfl _ _ rfl W1.heap.size W1.heap.size 0 [] (L.drop n) rfl (owE_new W1) Aa (L.length-n) (cap-n) (by simp) (by simp [Act.eval]) ?_ (by simp;omega) (by simp) ?_)
       · exact rdE_news' (HRD.out.below ((Below.refl _ _).alloc (Nat.le_refl _) _))
       intro gr cr W2 hor hgr;have hb2:Below W1.heap.size W1 W2:=((Below.refl _ W1).alloc (Nat.le_refl _) _).grown hgr (by simp) (fun j hj=>by simp at hj;omega);have HR2:Hid (OwE W1.heap.size W2 gr cr (L.drop n)):=hor;have HO2:Hid (OwE base W2 g cap L):=HO1.out.below hb2;have HG2:Hid (w.grownBy W2 (some g)):=grown_trans HG.out (grown_of_below hb2 _);replace y1:=(hb2.cell (p:=⟨w.heap.size,1,none⟩) HL.out).trans y1;replace y2:=(hb2.cell (p:=⟨w.heap.size,2,none⟩) HL.out).trans y2;clear hor hgr hb2 HRD HO1 HG HB1 y0 y3 hAa;go_upto_region 9 with fail
       have HT2:Hid (∀V,Below W2.heap.size W2 V→RdE V (some ⟨g,0,none⟩) (L.take n)):=fun V hV=>(HO2.out.rd.take n).below hV
       have HR3:Hid (∀V,Below W2.heap.size W2 V→RdE V (some ⟨gr,0,none⟩) (L.drop n)):=fun V hV=>HR2.out.rd.below hV
       have HBA:Hid (∀V o,Below W2.heap.size W2 V→Below W2.heap.size W2 (V.alloc o)):=fun V o hV=>hV.alloc hV.size o
       have HY:Hid (∀V,Below W2.heap.size W2 V→V.cell? ⟨w.heap.size,1,none⟩=some (.string key)∧V.cell? ⟨w.heap.size,2,none⟩=some (.int .i64 val)):=fun V hV=>⟨(hV.cell (p:=⟨w.heap.size,1,none⟩) (block_lt_of_cell y1)).trans y1,(hV.cell (p:=⟨w.heap.size,2,none⟩) (block_lt_of_cell y2)).trans y2⟩
       clear HR2 HO2;have hmin:min n L.length=n:=by omega
       have HWC:Hid (OwE W2.heap.size ((W2.alloc (.cells #[.string key,.int .i64 val] 56)).alloc (.cells #[] 56)) (W2.heap.size+1) 0 []):=by
         have:=OwE.mono (owE_new (W2.alloc (.cells #[.string key,.int .i64 val] 56))) (b:=W2.heap.size) (by simp);have e:(W2.alloc (.cells #[.string key,.int .i64 val] 56)).heap.size=W2.heap.size+1:=by simp
         rw [e] at this;exact this
       have HOB:Hid (∀(j:Nat) u,(flatE [⟨key,val⟩])[j]? = some u→((W2.alloc (.cells #[] 56)).alloc (.cells #[.string key,.int .i64 val] 56)).cell? ((⟨W2.heap.size+1,0,none⟩:Addr).add j)=some u):=by
         have:=one_cells (W2.alloc (.cells #[] 56)) ⟨key,val⟩ 56;intro j u hj;have:=this j u hj;simpa using this
       have HOC:Hid (∀(j:Nat) u,(flatE [⟨key,val⟩])[j]? = some u→((W2.alloc (.cells #[.string key,.int .i64 val] 56)).alloc (.cells #[] 56)).cell? ((⟨W2.heap.size,0,none⟩:Addr).add j)=some u):=fun j u hj=>cell_alloc_old (one_cells W2 ⟨key,val⟩ 56 j u hj)
       have q1:∀o,(W2.alloc o).cell? ⟨w.heap.size,1,none⟩=some (.string key):=fun o=>(HY.out _ (HBA.out W2 o (Below.refl _ _))).1
       have q2:∀o,(W2.alloc o).cell? ⟨w.heap.size,2,none⟩=some (.int .i64 val):=fun o=>(HY.out _ (HBA.out W2 o (Below.refl _ _))).2
       go_region_law (first
         | (refine step_E rfl (.tmp 36) (.tmp 39) rfl W2.heap.size W2.heap.size 0 [] (L.take n) (by first | rfl | simp [Act.eval,Act.put]) (owE_new W2) ⟨g,0,none⟩ n cap (by simp;omega) (by first | rfl | simp [Act.eval,Act.put]) (rdE_news (HT2.out _ (HBA.out W2 _ (Below.refl _ _)).drew)) (by simp;omega) (by first | (simp;done) | (simp;omega)) ?_
            intro g1 c1 W3 ho1 hg1;have hb3:Below W2.heap.size W2 W3:=(HBA.out W2 _ (Below.refl _ _)).drew.grown hg1 (by first | (simp;done) | (simp;omega)) (fun j hj=>by simp at hj;omega);rw [List.nil_append] at ho1 ⊢;obtain⟨z1,z2⟩:=HY.out _ hb3;clear hg1)
         | (refine step_E rfl (.tmp 36) (.tmp 39) rfl W2.heap.size W2.heap.size 0 [] (L.take n) (by first | rfl | simp [Act.eval,Act.put]) ((owE_new W2).alloc _) ⟨g,0,none⟩ n cap (by simp;omega) (by first | rfl | simp [Act.eval,Act.put]) (rdE_news (HT2.out _ (HBA.out _ _ (HBA.out W2 _ (Below.refl _ _))).drew)) (by simp;omega) (by first | (simp;done) | (simp;omega)) ?_
            intro g1 c1 W3 ho1 hg1;have hb3:Below W2.heap.size W2 W3:=(HBA.out _ _ (HBA.out W2 _ (Below.refl _ _))).drew.grown hg1 (by first | (simp;done) | (simp;omega)) (fun j hj=>by simp at hj;omega);have hce:=news_grown hg1 HOB.out (by simp);rw [List.nil_append] at ho1 ⊢;obtain⟨z1,z2⟩:=HY.out _ hb3;clear hg1)
         | (refine step_E rfl (.tmp 36) (.tmp 39) rfl W2.heap.size (W2.heap.size+1) 0 [] (L.take n) (by first | rfl | simp [Act.eval,Act.put]) HWC.out ⟨g,0,none⟩ n cap (by simp;omega) (by first | rfl | simp [Act.eval,Act.put]) (rdE_news (HT2.out _ (HBA.out _ _ (HBA.out W2 _ (Below.refl _ _))).drew)) (by simp;omega) (by first | (simp;done) | (simp;omega)) ?_
            intro g1 c1 W3 ho1 hg1;have hb3:Below W2.heap.size W2 W3:=(HBA.out _ _ (HBA.out W2 _ (Below.refl _ _))).drew.grown hg1 (by first | (simp;done) | (simp;omega)) (fun j hj=>by simp at hj;omega);have hce:=news_grown hg1 HOC.out (by simp);rw [List.nil_append] at ho1 ⊢;obtain⟨z1,z2⟩:=HY.out _ hb3;clear hg1)
         | (refine step_E rfl (.tmp 40) (.tmp 46) rfl W2.heap.size g1 c1 (L.take n) [⟨key,val⟩] (by first | rfl | simp [Act.eval,hmin] | simp [Act.eval,Act.put,hmin]) (ho1.alloc _) ⟨W3.heap.size,0,none⟩ 1 1 rfl (by first | rfl | simp [Act.eval,Act.put]) (one_cells W3 ⟨key,val⟩ _) (by simp;omega) (by have:=hb3.size;simp;omega) ?_
            intro g2 c2 W4 ho2 hg2;have hb4:Below W2.heap.size W2 W4:=(HBA.out W3 _ hb3).grown hg2 (by have:=hb3.size;simp;omega) (fun j hj=>by have:=ho1.shape.2.2.1;simp at hj;omega);clear hg2)
         | (refine step_E rfl (.tmp 40) (.tmp 46) rfl W2.heap.size g1 c1 (L.take n) [⟨key,val⟩] (by first | rfl | simp [Act.eval,hmin] | simp [Act.eval,Act.put,hmin]) ho1 _ 1 1 rfl (by rfl) hce (by simp;omega) hb3.size ?_
            intro g2 c2 W4 ho2 hg2;have hb4:Below W2.heap.size W2 W4:=hb3.grown hg2 hb3.size (fun j hj=>by have:=ho1.shape.2.2.1;simp at hj;omega);clear hg2)
         | (refine step_E rfl (.tmp 47) (.tmp 48) rfl W2.heap.size g2 c2 (L.take n++[⟨key,val⟩]) (L.drop n) (by first | rfl | simp [Act.eval,hmin] | simp [Act.eval,Act.put,hmin]) ho2 ⟨gr,0,none⟩ (L.length-n) cr (by simp) (by first | rfl | simp [Act.eval,Act.put]) (rdE_news (HR3.out _ hb4)) (by simp;omega) hb4.size ?_
            intro g3 c3 W5 ho3 hg3;have hb5:Below W2.heap.size W2 W5:=hb4.grown hg3 hb4.size (fun j hj=>by have:=ho2.shape.2.2.1;simp at hj;omega);clear hg3))
       all_goals
         have HF:Hid (OwE base W5 g3 c3 (L.take n++[⟨key,val⟩]++L.drop n)∧w.grownBy W5 (some g)):=⟨ho3.mono (by have:=HG2.out.size;omega),grown_trans HG2.out (grown_of_below hb5 _)⟩
         clear ho1 ho2 ho3 hb3 hb4 hb5 HOB HOC HWC HY HBA HT2 HR3 q1 q2;go_wp2;go_ret2
         rw [HR.out];exact⟨g3,c3,ret_len (by simp <;> omega),HF.out.1,HF.out.2⟩
   · have hnl:=HA.out rfl;obtain⟨_,hc⟩:=HO1.out.rd.on n hnl;obtain⟨c0,c1⟩:=hc;rw [Nat.zero_add] at c0 c1;have ff:=HO1.out.frozen (n*2+1);have HR:Hid (R=(L.set n ⟨(atE L n).key,val⟩,0)):=by show _=_;rw [HD.out];unfold doC;simp
     have HP:Hid (OwE base (W1.setCell ⟨g,n*2+1,none⟩ (.int .i64 val)) g cap (L.set n ⟨(atE L n).key,val⟩)):=HO1.out.put n hnl val;have HG2:Hid (w.grownBy (W1.setCell ⟨g,n*2+1,none⟩ (.int .i64 val)) (some g)):=grown_set HG.out _ _;clear HD HA;go_wp2;go_ret2
     rw [HR.out];exact⟨g,cap,ret_len (by simp),HP.out,HG2.out⟩
 · have kb1:(kind == 1)=false:=by simpa using k1
   cases is
   · have HR:Hid (R=(L,1)):=by show _=_;rw [HD.out];unfold doC;simp [k1]
     clear HD HA;go_wp2;go_ret2
     rw [HR.out];exact⟨g,cap,rfl,HO1.out,HG.out⟩
   · have hnl:=HA.out rfl;obtain⟨_,hc⟩:=HO1.out.rd.on n hnl;obtain⟨c0,c1⟩:=hc;rw [Nat.zero_add] at c0 c1;have ff:=HO1.out.frozen (n*2+1);obtain⟨hv0,hv1⟩:=hv _ (atE_mem L n hnl);have HPS:Hid (∀x:Int,OwE base (W1.setCell ⟨g,n*2+1,none⟩ (.int .i64 x)) g cap (L.set n ⟨(atE L n).key,x⟩)∧w.grownBy (W1.setCell ⟨g,n*2+1,none⟩ (.int .i64 x)) (some g)):=fun x=>⟨HO1.out.put n hnl x,grown_set HG.out _ _⟩
     by_cases k2:kind=2
     · subst k2;have HR:Hid (R=(L.take n++L.drop (n+1),0)):=by show _=_;rw [HD.out];unfold doC;simp
       clear HD HA HPS c0 c1 ff;obtain⟨hc1,hc2,hc3,hc4⟩:=hsh;have hnI:(n:Int)≤(L.length:Int):=by omega
       have hnc:n≤cap:=by omega
       have hn1:(n:Int)+1≤(L.length:Int):=by omega
       have hn0:(0:Int)≤(n:Int)+1:=by omega
       have e1:((n:Int)+1).toNat=n+1:=by omega
       have hwr:IntKind.i64.wrap ((n:Int)+1)=(n:Int)+1:=by rw [IntKind.wrap_i64];omega
       have hmin:min n L.length=n:=by omega
       obtain⟨Aa,hAa,hrd⟩:=HO1.out.rd.drop (n+1) hnl hc1;rw [Nat.zero_add] at hAa;have HR3:Hid (∀V,Below W1.heap.size W1 V→RdE V (some Aa) (L.drop (n+1))):=fun V hV=>hrd.below hV
       have HT2:Hid (∀V,Below W1.heap.size W1 V→RdE V (some ⟨g,0,none⟩) (L.take n)):=fun V hV=>(HO1.out.rd.take n).below hV
       have HBA:Hid (∀V o,Below W1.heap.size W1 V→Below W1.heap.size W1 (V.alloc o)):=fun V o hV=>hV.alloc hV.size o
       clear hrd HO1;go_upto_region 14 with fail
       go_region_law (first
         | (refine step_E rfl (.tmp 57) (.tmp 60) rfl W1.heap.size W1.heap.size 0 [] (L.take n) (by first | rfl | simp [Act.eval,Act.put]) (owE_new W1) ⟨g,0,none⟩ n cap (by simp;omega) (by first | rfl | simp [Act.eval,Act.put]) (rdE_news (HT2.out _ (HBA.out W1 _ (Below.refl _ _)).drew)) (by simp;omega) (by first | (simp;done) | (simp;omega)) ?_
            intro g1 c1 W3 ho1 hg1;have hb3:Below W1.heap.size W1 W3:=(HBA.out W1 _ (Below.refl _ _)).drew.grown hg1 (by first | (simp;done) | (simp;omega)) (fun j hj=>by simp at hj;omega);rw [List.nil_append] at ho1 ⊢;clear hg1)
         | (refine step_E rfl (.tmp 61) (.tmp 65) rfl W1.heap.size g1 c1 (L.take n) (L.drop (n+1)) (by first | rfl | simp [Act.eval,hmin] | simp [Act.eval,Act.put,hmin]) ho1 Aa (L.length-(n+1)) (cap-(n+1)) (by simp) (by first | rfl | simp [Act.eval,Act.put,hAa]) (rdE_news' (HR3.out _ hb3)) (by simp;omega) hb3.size ?_
            intro g3 c3 W5 ho3 hg3;have hb5:Below W1.heap.size W1 W5:=hb3.grown hg3 hb3.size (fun j hj=>by have:=ho1.shape.2.2.1;simp at hj;omega);clear hg3))
       all_goals
         have HF:Hid (OwE base W5 g3 c3 (L.take n++L.drop (n+1))∧w.grownBy W5 (some g)):=⟨ho3.mono (by have:=HG.out.size;omega),grown_trans HG.out (grown_of_below hb5 _)⟩
         clear ho1 ho3 hb3 hb5 HBA HT2 HR3;go_wp2;go_ret2
         rw [HR.out];exact⟨g3,c3,ret_len (by simp <;> omega),HF.out.1,HF.out.2⟩
     · have kb2:(kind == 2)=false:=by simpa using k2
       by_cases k3:kind=3
       · subst k3;by_cases h9:(atE L n).val+val > 9999
         · have HR:Hid (R=(L,3)):=by show _=_;rw [HD.out];unfold doC;simp [h9]
           have h9':9999<(atE L n).val+val:=h9;have HOD:Hid (OwE base W1 g cap L):=HO1.out;clear HD HA HPS;generalize (atE L n).val=vn at *;go_wp2_with fail
           go_region
           go_wp2;go_ret2
           rw [HR.out];exact⟨g,cap,rfl,HOD.out,grown_drew HG.out⟩
         · have HR:Hid (R=(L.set n ⟨(atE L n).key,(atE L n).val+val⟩,0)):=by show _=_;rw [HD.out];unfold doC;simp [h9]
           have h9':¬ 9999<(atE L n).val+val:=h9;have HPX:Hid (_):=HPS.out ((atE L n).val+val);clear HD HA HPS h9;generalize (atE L n).key=kn at *;generalize (atE L n).val=vn at *;go_wp2_with fail
           go_region
           go_wp2_with fail
           go_region
           go_wp2;go_ret2
           rw [HR.out];exact⟨g,cap,ret_len (by simp),HPX.out.1,by first | exact grown_drew HPX.out.2 | exact grown_drew (grown_drew HPX.out.2)⟩
       · have kb3:(kind == 3)=false:=by simpa using k3
         by_cases h9:(atE L n).val=val
         · have HR:Hid (R=(L.set n ⟨(atE L n).key,new⟩,0)):=by show _=_;rw [HD.out];unfold doC;simp [h9,k1,k2,k3]
           have h9':((atE L n).val != val)=false:=by simp [h9]
           have HPX:Hid (_):=HPS.out new;clear HD HA HPS h9;generalize (atE L n).key=kn at *;generalize (atE L n).val=vn at *;go_wp2_with fail
           go_region
           go_wp2;go_ret2
           rw [HR.out];exact⟨g,cap,ret_len (by simp),HPX.out.1,by first | exact grown_drew HPX.out.2 | exact grown_drew (grown_drew HPX.out.2)⟩
         · have HR:Hid (R=(L,2)):=by show _=_;rw [HD.out];unfold doC;simp [h9,k1,k2,k3]
           have h9':((atE L n).val != val)=true:=by simpa using h9
           have HOD:Hid (OwE base W1 g cap L):=HO1.out;clear HD HA HPS h9;generalize (atE L n).val=vn at *;go_wp2_with fail
           go_region
           go_wp2;go_ret2
           rw [HR.out];exact⟨g,cap,rfl,HOD.out,grown_drew HG.out⟩
end Bk
namespace Bk
open De (D okD keyB)
theorem step_N{ops:Array Oper}{o:Oper}{a:Act}{w:World}{K:Act→World→Prop}{Q:Exit→Act→World→Prop}{E:Prop}
  (hg:o.guard=none) (s x:Operand) (hop:o.op=Op.call { callee:=Callee.builtin Builtin.append,args:=#[s,x],argTypes:=#[26,26] })
  (B g c:Nat) (A:List En) (hs:a.eval s=.slice (some ⟨g,0,none⟩) A.length c) (hown:OwE B w g c A) (hx:a.eval x=.slice none 0 0)
  (hK:K (a.put o.dst (.slice (some ⟨g,0,none⟩) A.length c)) w):if Region.wanted o (yielded ops a.tmps)=true then Oper.wp Tryz.prog o a w K Q else E:=by
 obtain⟨i0,hi,hz0,hz1,hz2⟩:=info_parts infoE;have hr:=run_append_owned_none (P:=Tryz.prog) (w:=w) B 26 o.type 56 i0 2 Tryz.underlying26 hi _ _ _ hown;rw [if_pos (by simp [Region.wanted,hg])];unfold Oper.wp;simp [hop,hs,hx,hr,execOp,resolve,invoke,builtin,Result.andThen];exact hK
def DonePost(M:List En × Int)(w:World)(e:Ending)(w':World):Prop:=∃g' c',e=.returned (.tuple #[.slice (some ⟨g',0,none⟩) M.1.length c',.int .i64 M.2])∧OwE w.heap.size w' g' c' M.1∧Below w.heap.size w w'
theorem okBook_parts{L:List En}(h:okBook L=true):L.length≤8∧∀i,i<L.length→keyB (atE L i).key=true∧0≤(atE L i).val∧(atE L i).val≤9999:=by
 unfold okBook okTo at h;rw [Bool.and_eq_true,decide_eq_true_eq,List.all_eq_true] at h;refine⟨h.2,fun i hi=>?_⟩;have:=h.1 i (by simpa using hi);unfold stepB at this;simp only [Bool.and_eq_true,decide_eq_true_eq] at this;exact⟨this.1.1,this.1.2⟩
theorem okBook_vals{L:List En}(h:okBook L=true):∀e∈L,-100000≤e.val∧e.val≤100000:=by
 intro e he;obtain⟨i,hi,rfl⟩:=List.getElem_of_mem he;have:=(okBook_parts h).2 i hi;rw [atE_get L i hi] at this;omega
theorem specDone(ao:Option Addr)(cap:Nat)(L:List En)(d:D)(w:World)(hl:L.length≤1048600)(hk:∀e∈L,e.key.size≤1099511627776)(hr:RdE w ao L)(hcap:ao=none→cap=0)(hdk:d.key.size≤1099511627776) :
   Calls Tryz.prog 13 #[.slice ao L.length cap,.agg #[.int .i64 d.kind,.string d.key,.int .i64 d.val,.int .i64 d.new]] w (DonePost (doneB L d) w):=by
 have HD:Hid (doneB L d=if okBook L&&okD d then doB L d else ([],4)):=rfl;have HDO:Hid (okD d=true→0≤d.val∧d.val≤99):=fun h=>by
   have o:=(De.okD_iff d).1 h;exact⟨o.v0,o.v1⟩
 have HOK:Hid (∀W:World,Calls Tryz.prog 35 #[.agg #[.int .i64 d.kind,.string d.key,.int .i64 d.val,.int .i64 d.new]] W fun e w'=>e=.returned (.bool (okD d))∧Below W.heap.size W w'):=fun W=>De.specDeedOk d.kind d.key d.val d.new W hdk
 have P0:Hid (_):=De.box4 w (.int .i64 d.kind) (.string d.key) (.int .i64 d.val) (.int .i64 d.new) 34;generalize doneB L d=R at HD ⊢;go_enter Tryz.func13,Tryz.ntmps13
 go_upto_region 1 with fail
 generalize w.alloc (.cells #[.int .i64 d.kind,.string d.key,.int .i64 d.val,.int .i64 d.new] 34)=W0 at P0 ⊢;obtain⟨B0,x0,x1,x2,x3,hlt⟩:=P0;go_wp2_with fail
 refine(specBookOk ao cap L W0 hl hk (hr.below (B0))).mono ?_;rintro e W1 ⟨rfl,b1⟩;have HB1:Hid (Below w.heap.size w W1):=B0.trans (b1.mono B0.size);have y0:=(b1.cell (p:=⟨w.heap.size,0,none⟩) hlt).trans x0;have y1:=(b1.cell (p:=⟨w.heap.size,1,none⟩) hlt).trans x1;have y2:=(b1.cell (p:=⟨w.heap.size,2,none⟩) hlt).trans x2;have y3:=(b1.cell (p:=⟨w.heap.size,3,none⟩) hlt).trans x3;have hlt1:w.heap.size<W1.heap.size:=Nat.lt_of_lt_of_le hlt b1.size;clear x0 x1 x2 x3 b1 B0 hlt
 cases hbk:okBook L
 · have HR:Hid (R=([],4)):=by show _=_;rw [HD.out,hbk];rfl
   have HN:Hid (OwE w.heap.size (W1.alloc (.cells #[] 56)) W1.heap.size 0 []):=(owE_new W1).mono HB1.out.size;have HBN:Hid (Below w.heap.size w (W1.alloc (.cells #[] 56))):=HB1.out.alloc HB1.out.size _;clear HD HOK hbk HDO;go_wp2;go_ret2
   rw [HR.out];exact⟨W1.heap.size,0,rfl,HN.out,HBN.out⟩
 · have hvl:=okBook_vals hbk;have h8:=(okBook_parts hbk).1;go_wp2_with fail
   refine(HOK.out W1).mono ?_;rintro e W2 ⟨rfl,b2⟩;have HB2:Hid (Below w.heap.size w W2):=HB1.out.trans (b2.mono HB1.out.size);have z0:=(b2.cell (p:=⟨w.heap.size,0,none⟩) hlt1).trans y0;have z1:=(b2.cell (p:=⟨w.heap.size,1,none⟩) hlt1).trans y1;have z2:=(b2.cell (p:=⟨w.heap.size,2,none⟩) hlt1).trans y2;have z3:=(b2.cell (p:=⟨w.heap.size,3,none⟩) hlt1).trans y3;have hlt2:w.heap.size<W2.heap.size:=Nat.lt_of_lt_of_le hlt1 b2.size;clear y0 y1 y2 y3 b2 HB1 HOK
   cases hok:okD d
   · have HR:Hid (R=([],4)):=by show _=_;rw [HD.out,hbk,hok];rfl
     have HN:Hid (OwE w.heap.size (W2.alloc (.cells #[] 56)) W2.heap.size 0 []):=(owE_new W2).mono HB2.out.size;have HBN:Hid (Below w.heap.size w (W2.alloc (.cells #[] 56))):=HB2.out.alloc HB2.out.size _;clear HD hbk HDO hok;go_wp2;go_ret2
     rw [HR.out];exact⟨W2.heap.size,0,rfl,HN.out,HBN.out⟩
   · have HR:Hid (R=doB L d):=by show _=_;rw [HD.out,hbk,hok];rfl
     obtain⟨dv0,dv1⟩:=HDO.out hok;have HY:Hid (∀V,Below W2.heap.size W2 V→V.cell? ⟨w.heap.size,0,none⟩=some (.int .i64 d.kind)∧V.cell? ⟨w.heap.size,1,none⟩=some (.string d.key)∧V.cell? ⟨w.heap.size,2,none⟩=some (.int .i64 d.val)∧V.cell? ⟨w.heap.size,3,none⟩=some (.int .i64 d.new)):=fun V hV=>
       ⟨(hV.cell (p:=⟨w.heap.size,0,none⟩) hlt2).trans z0,(hV.cell (p:=⟨w.heap.size,1,none⟩) hlt2).trans z1,(hV.cell (p:=⟨w.heap.size,2,none⟩) hlt2).trans z2,(hV.cell (p:=⟨w.heap.size,3,none⟩) hlt2).trans z3⟩
     have HRL:Hid (∀V,Below W2.heap.size W2 V→RdE V ao L):=fun V hV=>(hr.below HB2.out).below hV
     have HBA:Hid (∀V o,Below W2.heap.size W2 V→Below W2.heap.size W2 (V.alloc o)):=fun V o hV=>hV.alloc hV.size o
     have q0:∀o,(W2.alloc o).cell? ⟨w.heap.size,0,none⟩=some (.int .i64 d.kind):=fun o=>(HY.out _ (HBA.out W2 o (Below.refl _ _))).1
     have q1:∀o,(W2.alloc o).cell? ⟨w.heap.size,1,none⟩=some (.string d.key):=fun o=>(HY.out _ (HBA.out W2 o (Below.refl _ _))).2.1
     have q2:∀o,(W2.alloc o).cell? ⟨w.heap.size,2,none⟩=some (.int .i64 d.val):=fun o=>(HY.out _ (HBA.out W2 o (Below.refl _ _))).2.2.1
     have q3:∀o,(W2.alloc o).cell? ⟨w.heap.size,3,none⟩=some (.int .i64 d.new):=fun o=>(HY.out _ (HBA.out W2 o (Below.refl _ _))).2.2.2
     have HDO2:Hid (∀(V:World) (g c:Nat),W2.heap.size≤V.heap.size→OwE W2.heap.size V g c L→Calls Tryz.prog 32 #[.slice (some ⟨g,0,none⟩) L.length c,.agg #[.int .i64 d.kind,.string d.key,.int .i64 d.val,.int .i64 d.new]] V (DoPost W2.heap.size g (doB L d) V)):=fun V g c hV ho=>l17Do g c L d W2.heap.size V hV ho (by omega) hvl (by omega)
     have HFI:Hid (∀(V V':World) (g:Nat),Below W2.heap.size W2 V→W2.heap.size≤g→V.grownBy V' (some g)→Below w.heap.size w V'):=fun V V' g hV hg hgr=>HB2.out.trans ((hV.grown hgr hV.size (fun j hj=>by simp at hj;omega)).mono HB2.out.size)
     have hsz2:=HB2.out.size;clear HD HDO hok hbk hr hk HB2 hvl;generalize doB L d=M at *;obtain rfl:=HR.out;clear HR
     cases ao with
     | none=>
       obtain rfl:L=[]:=by
         rcases HRL.out W2 (Below.refl _ _) with h | ⟨_,_,h,_⟩
         · exact h
         · cases h
       obtain rfl:=hcap rfl;have hon:=owE_new W2;have hbn:Below W2.heap.size W2 (W2.alloc (.cells #[] 56)).drew:=(HBA.out W2 _ (Below.refl _ _)).drew;go_upto_region 3 with fail
       go_region_law (first
         | (refine step_N rfl (.tmp 15) (.tmp 16) rfl W2.heap.size W2.heap.size 0 [] (by first | rfl | simp [Act.eval,Act.put]) hon (by first | rfl | simp [Act.eval,Act.put]) ?_)
         | (rw [if_pos (by simp [Region.wanted])]
            go_simp
            refine(HDO2.out (W2.alloc (.cells #[] 56)).drew W2.heap.size 0 hbn.size hon).mono ?_;rintro e W4 ⟨g4,c4,rfl,ho4,hg4⟩;have HF:Hid (OwE w.heap.size W4 g4 c4 R.1∧Below w.heap.size w W4):=⟨ho4.mono hsz2,HFI.out _ W4 W2.heap.size hbn (Nat.le_refl _) hg4⟩
            clear ho4 hg4))
       all_goals
         clear hon hbn q0 q1 q2 q3 HY HRL HBA HDO2 HFI;go_wp2;go_ret2
         exact⟨g4,c4,rfl,HF.out.1,HF.out.2⟩
     | some ad=>
       clear hcap;go_upto_region 3 with fail
       go_region_law (first
         | (refine step_E rfl (.tmp 15) (.tmp 16) rfl W2.heap.size W2.heap.size 0 [] L (by first | rfl | simp [Act.eval,Act.put]) (owE_new W2) ad L.length cap rfl (by first | rfl | simp [Act.eval,Act.put]) (rdE_news' (HRL.out _ (HBA.out W2 _ (Below.refl _ _)).drew)) (by simp;omega) (by first | (simp;done) | (simp;omega)) ?_
            intro g1 c1 W3 ho1 hg1;have hb3:Below W2.heap.size W2 W3:=(HBA.out W2 _ (Below.refl _ _)).drew.grown hg1 (by first | (simp;done) | (simp;omega)) (fun j hj=>by simp at hj;omega);rw [List.nil_append] at ho1 ⊢;obtain⟨z0,z1,z2,z3⟩:=HY.out _ hb3;clear hg1)
         | (rw [if_pos (by simp [Region.wanted])]
            go_simp
            refine(HDO2.out W3 g1 c1 hb3.size ho1).mono ?_;rintro e W4 ⟨g4,c4,rfl,ho4,hg4⟩;have HF:Hid (OwE w.heap.size W4 g4 c4 R.1∧Below w.heap.size w W4):=⟨ho4.mono hsz2,HFI.out W3 W4 g1 hb3 ho1.shape.2.2.1 hg4⟩
            clear ho4 hg4))
       all_goals
         clear ho1 hb3 z0 z1 z2 z3 q0 q1 q2 q3 HY HRL HBA HDO2 HFI;go_wp2;go_ret2
         exact⟨g4,c4,rfl,HF.out.1,HF.out.2⟩
end Bk
namespace Tx
theorem infoT:(Tryz.prog.info? 9).map (fun i=>(i.zero,i.size,i.bytes))=some (some (.string ⟨#[]⟩),1,16):=by kernel_rfl
def OwnT(B:Nat)(w:World)(ao:Option Addr)(cap:Nat)(S:List ByteArray):Prop:=w.ownsRow B 9 1 (.slice ao S.length cap) S.length (S.map Value.string)
def RdT(w:World)(ao:Option Addr)(S:List ByteArray):Prop:=S=[]∨∃g,ao=some ⟨g,0,none⟩∧g<w.heap.size∧∀j,j<S.length→w.cell? ⟨g,j,none⟩=some (.string (S.getD j ⟨#[]⟩))
theorem own_rd{B:Nat}{w:World}{ao:Option Addr}{cap:Nat}{S:List ByteArray}(h:OwnT B w ao cap S):RdT w ao S:=by
 have hlt:=World.ownsRow.lt h;have hcells:=@World.ownsRow.cells _ _ _ _ _ _ _ h;obtain⟨_,⟨hv,hn⟩ | ⟨g,cap',cur,hv,_⟩⟩:=h
 ·exact .inl (List.eq_nil_of_length_eq_zero hn)
 ·injection hv with hv _ _;subst hv;refine .inr ⟨g,rfl,(hlt g rfl).2,fun j hj=>?_⟩;have:=hcells (g:=g) rfl j (.string (S.getD j ⟨#[]⟩)) (by simp [List.getD,hj]);by_cases hj0:j=0
  ·subst hj0;simpa [Addr.add] using this
  ·simpa [Addr.add,hj0] using this
theorem own_below{B:Nat}{w w':World}{ao:Option Addr}{cap:Nat}{S:List ByteArray}(h:OwnT B w ao cap S)(hb:Below w.heap.size w w'):OwnT B w' ao cap S:=by
 have hlt:=World.ownsRow.lt h;obtain⟨h1,h2⟩:=h;refine⟨h1,?_⟩;rcases h2 with h2 | ⟨g,cap',cur,hv,hB,hg,rest⟩
 ·exact .inl h2
 ·refine .inr ⟨g,cap',cur,hv,hB,?_,rest⟩;rw [hb.block g (hlt g (by rw [hv];rfl)).2];exact hg
theorem own_empty(w:World):(w.alloc (.cells #[] 9)).ownsRow w.heap.size 9 1 (.slice (some ⟨w.heap.size,0,none⟩) 0 0) 0 []:=
 ⟨rfl,.inr ⟨w.heap.size,0,#[],rfl,Nat.le_refl _,by show(w.heap.push _)[w.heap.size]? = _;rw [Array.getElem?_push_size],Nat.le_refl _,by unfold maxLen;omega,rfl,rfl⟩⟩
end Tx
namespace Bk
open De (D okD keyB ReadsD)
open Tx (RdT)
theorem infoN:(Tryz.prog.info? 2).map (fun i=>(i.zero,i.size,i.bytes))=some (some (.int .i64 0),1,8):=by kernel_rfl
def OwI(B:Nat)(w:World)(g c:Nat)(l:List Int):Prop:=w.ownsRow B 2 1 (.slice (some ⟨g,0,none⟩) l.length c) l.length (l.map (Value.int .i64))
section
variable {B g c:Nat} {w w':World} {l:List Int}
theorem OwI.lt(h:OwI B w g c l):B≤g∧g<w.heap.size:=World.ownsRow.lt h g rfl
theorem OwI.below(h:OwI B w g c l)(hb:Below w.heap.size w w'):OwI B w' g c l:=by
 have hlt:=h.lt;obtain⟨h1,h2⟩:=h;refine⟨h1,?_⟩;rcases h2 with h2 | ⟨g',cap',cur,hv,hB,hg,rest⟩
 ·exact .inl h2
 ·have e:g=g':=by injection hv with hv;injection hv with hv;injection hv
  subst e;exact .inr ⟨g,cap',cur,hv,hB,(hb.block g hlt.2).trans hg,rest⟩
theorem OwI.grown{q:Nat}(h:OwI B w g c l)(hg:w.grownBy w' (some q))(hne:g≠q):OwI B w' g c l:=
 World.ownsRow.kept h hg (.inr (fun e=>hne (by simpa [Value.ownBlock] using e)))
theorem OwI.alloc(h:OwI B w g c l)(o:Obj):OwI B (w.alloc o) g c l:=World.ownsRow.alloc h o
end
theorem owI_new(w:World):OwI w.heap.size (w.alloc (.cells #[] 2)) w.heap.size 0 []:=World.ownsRow_lit w #[] 0 (Nat.le_refl _) (by unfold maxLen;omega) rfl
theorem OwE.keep{B q g c:Nat}{w w':World}{L:List En}(h:OwE B w g c L)(hg:w.grownBy w' (some q))(hne:g≠q):OwE B w' g c L:=
 World.ownsRow.kept h hg (.inr (fun e=>hne (by simpa [Value.ownBlock] using e)))
theorem apart{B B' g c g' c':Nat}{w:World}{L:List En}{l:List Int}(h:OwE B w g c L)(k:OwI B' w g' c' l):g'≠g:=by
 obtain⟨_,⟨h0,_⟩ | ⟨a,_,_,ha,_,hc,_⟩⟩:=h
 ·simp at h0
 ·obtain⟨_,⟨k0,_⟩ | ⟨b,_,_,hb,_,kc,_⟩⟩:=k
  ·simp at k0
  ·have e1:g=a:=by injection ha with ha;injection ha with ha;injection ha
   have e2:g'=b:=by injection hb with hb;injection hb with hb;injection hb
   subst e1 e2;intro e;subst e;rw [hc] at kc;injection kc with kc;injection kc with _ kc;exact absurd kc (by decide)
theorem list_I{ops:Array Oper}{rest:List Oper}{o:Oper}{a:Act}{w:World}{Q:Exit→Act→World→Prop}
  (hg:o.guard=none) (s x:Operand) (hop:o.op=Op.call { callee:=Callee.builtin Builtin.append,args:=#[s,x],argTypes:=#[27,27] })
  (B g c:Nat) (l:List Int) (k:Int) (b:Nat) (hs:a.eval s=.slice (some ⟨g,0,none⟩) l.length c) (hown:OwI B w g c l) (hx:a.eval x=.slice (some ⟨b,0,none⟩) 1 1) (hc:w.cell? ⟨b,0,none⟩=some (.int .i64 k))
  (hsz:l.length≤4000000) (hB:B≤w.heap.size)
  (hK:∀g' c' w',OwI B w' g' c' (l++[k])→w.grownBy w' (some g)→wpList Tryz.prog ops Q rest (a.put o.dst (.slice (some ⟨g',0,none⟩) (l++[k]).length c')) w') :
  wpList Tryz.prog ops Q (o :: rest) a w:=by
 obtain⟨i0,hi,hz0,hz1,hz2⟩:=info_parts infoN;refine wpList_append_own w hg s x 27 hop B 2 i0 (.int .i64 0) 1 8 Tryz.underlying27 hi hz0 hz1 hz2 rfl (by decide) _ l.length (l.map (Value.int .i64)) hs hown ⟨b,0,none⟩ 1 1 [.int .i64 k] hx rfl (fun j u hj=>?_) (fun u hu=>by simp at hu;subst hu;rfl) (by unfold maxLen;omega) (by omega) hB ?_
 ·match j,hj with
  | 0,hj=>simp at hj;subst hj;simpa [Addr.add] using hc
 intro v' w' hown' hgrow hnil;obtain⟨hl,⟨hv0,_⟩ | ⟨g',cap',cur,hvs,rest'⟩⟩:=id hown'
 ·have:=(hnil.1 hv0).1;simp at this
 ·subst hvs;have e:l.length+1=(l++[k]).length:=by simp
  rw [e] at hown' ⊢;exact hK g' cap' w' (by unfold OwI;rw [List.map_append];exact hown') hgrow
def ReadPost(R:List En × List Int)(w:World)(e:Ending)(w':World):Prop:=∃g c g' c',e=.returned (.tuple #[.slice (some ⟨g,0,none⟩) R.1.length c,.slice (some ⟨g',0,none⟩) R.2.length c'])∧OwE w.heap.size w' g c R.1∧OwI w.heap.size w' g' c' R.2∧Below w.heap.size w w'
theorem code_bd{L:List En}{d:D}:-10≤(doB L d).2∧(doB L d).2≤10:=by
 unfold doB doC;split
 ·split
  ·simp
  ·split <;> simp
 ·split
  ·simp
  ·split
   ·simp
   ·split
    ·split <;> simp
    ·split <;> simp
theorem specRead(ao:Option Addr)(cap:Nat)(S:List ByteArray)(w:World)(hl:S.length≤1048600)(hw:∀s∈S,s.size≤1073741824)(hr:RdT w ao S) :
   Calls Tryz.prog 8 #[.slice ao S.length cap] w (ReadPost (readB S) w):=by
 have HEnd:Hid (readB (S.take S.length)=readB S):=by show _=_;rw [List.take_length]
 generalize readB S=R at HEnd ⊢;have HE0:Hid (OwE w.heap.size (w.alloc (.cells #[] 56)) w.heap.size 0 []):=owE_new w;have HI0:Hid (OwI w.heap.size ((w.alloc (.cells #[] 56)).alloc (.cells #[] 2)) (w.heap.size+1) 0 []):=by
   have:=owI_new (w.alloc (.cells #[] 56));have e:(w.alloc (.cells #[] 56)).heap.size=w.heap.size+1:=by simp
   rw [e] at this;exact Go.Joins.ownsRow_le this (by omega)
 have HB0:Hid (Below w.heap.size w ((w.alloc (.cells #[] 56)).alloc (.cells #[] 2))):=((Below.refl _ _).alloc (Nat.le_refl _) _).alloc (by simp) _;go_enter Tryz.func8,Tryz.ntmps8
 go_wp2;go_loopw [4, 5, 6] (fun bv cv i wr=>∃(j gb cb gc cc:Nat),j≤S.length∧i=.int .i64 j∧bv=.slice (some ⟨gb,0,none⟩) (readB (S.take j)).1.length cb∧cv=.slice (some ⟨gc,0,none⟩) (readB (S.take j)).2.length cc ∧
   Hid (OwE w.heap.size wr gb cb (readB (S.take j)).1)∧Hid (OwI w.heap.size wr gc cc (readB (S.take j)).2)∧Hid (Below w.heap.size w wr)) (fun _ _ i _=>S.length-(intOf i).toNat)
 case atStart=>exact⟨0,w.heap.size,0,w.heap.size+1,0,by omega,rfl,rfl,by first | rfl | simp,HE0.out.alloc _,HI0,HB0⟩
 case round=>
   obtain⟨j,gb,cb,gc,cc,hj,rfl,rfl,rfl,HE,HI,HB⟩:=hrel;clear HE0 HI0 HB0;obtain⟨hok,hcl⟩:=readB_ok (S.take j);have hcl2:(readB (S.take j)).2.length≤1048600:=by rw [hcl];simp;omega
   by_cases hlt:j<S.length
   · have HS:Hid (readB (S.take (j+1))=((readStep (readB (S.take j)).1 S[j]).1,(readB (S.take j)).2++[(readStep (readB (S.take j)).1 S[j]).2])):=by
       show _=_;rw [List.take_succ_eq_append_getElem hlt,readB_snoc]
     have hwj:S[j].size≤1073741824:=hw _ (List.getElem_mem hlt);obtain⟨g,rfl,hgw,hcell⟩:∃g,ao=some ⟨g,0,none⟩∧g<w.heap.size∧w.cell? ⟨g,j,none⟩=some (.string S[j]):=by
       rcases hr with h | ⟨g,ha,hg,hc⟩
       · rw [h] at hlt;simp at hlt
       · refine⟨g,ha,hg,?_⟩;have:=hc j hlt;rwa [show S.getD j ⟨#[]⟩=S[j] from by simp [List.getD,hlt]] at this
     have c0:=(HB.out.cell (p:=⟨g,j,none⟩) hgw).trans hcell;clear hcell;generalize S[j]=sj at *;generalize readB (S.take j)=Rj at *;obtain⟨Lj,Cj⟩:=Rj;dsimp only at hok hcl hcl2 HE HI HS ⊢;go_wp2_with fail
     refine(De.specReadDeed sj wr hwj).mono ?_;rintro e W1 ⟨d,is,rfl,hrd,b1⟩;have H1:Hid (d=(readD sj).1):=(reads_is hrd).1;have H2:Hid (is=(readD sj).2):=(reads_is hrd).2;have HB1:Hid (Below w.heap.size w (W1.alloc (.cells #[.int .i64 d.kind,.string d.key,.int .i64 d.val,.int .i64 d.new] 34))):=(HB.out.trans (b1.mono HB.out.size)).alloc (HB.out.trans (b1.mono HB.out.size)).size _;have bA:=(Below.refl W1.heap.size W1).alloc (Nat.le_refl _) (.cells #[.int .i64 d.kind,.string d.key,.int .i64 d.val,.int .i64 d.new] 34);have HE1:Hid (OwE w.heap.size (W1.alloc (.cells #[.int .i64 d.kind,.string d.key,.int .i64 d.val,.int .i64 d.new] 34)) gb cb Lj):=(HE.out.below b1).below bA;have HI1:Hid (OwI w.heap.size (W1.alloc (.cells #[.int .i64 d.kind,.string d.key,.int .i64 d.val,.int .i64 d.new] 34)) gc cc Cj):=(HI.out.below b1).below bA;have k0:(W1.alloc (.cells #[.int .i64 d.kind,.string d.key,.int .i64 d.val,.int .i64 d.new] 34)).cell? ⟨W1.heap.size,0,none⟩=some (.int .i64 d.kind):=by simp
     have k1:(W1.alloc (.cells #[.int .i64 d.kind,.string d.key,.int .i64 d.val,.int .i64 d.new] 34)).cell? ⟨W1.heap.size,1,none⟩=some (.string d.key):=by simp
     have k2:(W1.alloc (.cells #[.int .i64 d.kind,.string d.key,.int .i64 d.val,.int .i64 d.new] 34)).cell? ⟨W1.heap.size,2,none⟩=some (.int .i64 d.val):=by simp
     have k3:(W1.alloc (.cells #[.int .i64 d.kind,.string d.key,.int .i64 d.val,.int .i64 d.new] 34)).cell? ⟨W1.heap.size,3,none⟩=some (.int .i64 d.new):=by simp
     clear b1 bA HE HI HB c0 hrd hr;dsimp only;go_upto_region 7 with fail
     generalize W1.alloc (.cells #[.int .i64 d.kind,.string d.key,.int .i64 d.val,.int .i64 d.new] 34)=V at HB1 HE1 HI1 k0 k1 k2 k3 ⊢;generalize W1.heap.size=x at k0 k1 k2 k3 ⊢
     cases his:is
     · have HST:Hid (readB (S.take (j+1))=(Lj,Cj++[4])):=by
         show _=_;rw [HS.out];unfold readStep;rw [← H2.out,his];rfl
       clear HS H1 H2 his;go_wp2_with (at_builtin;refine list_I rfl _ _ rfl w.heap.size gc cc Cj 4 V.heap.size (by first | rfl | simp [Act.eval]) (HI1.out.alloc _) (by first | rfl | simp [Act.eval]) (by simp) (by omega) (by have:=HB1.out.size;simp;omega) ?_)
       intro g2 c2 V2 hi2 hg2;have HB2:Hid (Below w.heap.size w V2):=(HB1.out.alloc HB1.out.size _).grown hg2 (by have:=HB1.out.size;simp;omega) (fun q hq=>by have:=HI1.out.lt;simp at hq;omega);have HE2:Hid (OwE w.heap.size V2 gb cb Lj):=(HE1.out.alloc _).keep hg2 (apart HE1.out HI1.out).symm;have HI2:Hid (OwI w.heap.size V2 g2 c2 (Cj++[4])):=hi2;clear hi2 hg2 HE1 HI1 HB1 k0 k1 k2 k3;go_wp2;go_roundw
       case rel=>exact⟨j+1,gb,cb,g2,c2,by omega,by go_num,by rw [HST.out],by rw [HST.out];simp [hcl];try omega,by rw [HST.out];exact HE2,by rw [HST.out];exact HI2,HB2⟩
       case measure=>simp [intOf];omega
     · have hdo:okD d=true:=by rw [H1.out];exact readD_ok (by rw [← H2.out,his])
       have hdv:=(De.okD_iff d).1 hdo;have dv0:=hdv.v0;have dv1:=hdv.v1;have hvl:=okBook_vals hok;have h8:=(okBook_parts hok).1;have HST:Hid (readB (S.take (j+1))=((doB Lj d).1,Cj++[(doB Lj d).2])):=by
         show _=_;rw [HS.out];unfold readStep;rw [← H2.out,his,← H1.out];rfl
       have hcb:=code_bd (L:=Lj) (d:=d);clear HS H1 H2 hdv hdo his;go_wp2_with fail
       refine(l17Do gb cb Lj d w.heap.size V HB1.out.size HE1.out (by omega) hvl (by omega)).mono ?_;rintro e V1 ⟨g3,c3,rfl,he3,hg3⟩;have hbl:=HE1.out.shape.2.2.1;have HI3:Hid (OwI w.heap.size V1 gc cc Cj):=HI1.out.grown hg3 (apart HE1.out HI1.out);have HE3:Hid (OwE w.heap.size V1 g3 c3 (doB Lj d).1):=he3;have HB3:Hid (Below w.heap.size w V1):=HB1.out.grown hg3 HB1.out.size (fun q hq=>by simp at hq;omega);clear he3 hg3 HE1 HI1 HB1 k0 k1 k2 k3 hok hvl;generalize doB Lj d=M at *;obtain⟨M1,k⟩:=M;dsimp only at hcb HI3 HE3 HST ⊢;go_wp2_with (at_builtin;refine list_I rfl _ _ rfl w.heap.size gc cc Cj k V1.heap.size (by first | rfl | simp [Act.eval]) (HI3.out.alloc _) (by first | rfl | simp [Act.eval]) (by simp) (by omega) (by have:=HB3.out.size;simp;omega) ?_)
       intro g2 c2 V2 hi2 hg2;have HB2:Hid (Below w.heap.size w V2):=(HB3.out.alloc HB3.out.size _).grown hg2 (by have:=HB3.out.size;simp;omega) (fun q hq=>by have:=HI3.out.lt;simp at hq;omega);have HE2:Hid (OwE w.heap.size V2 g3 c3 M1):=(HE3.out.alloc _).keep hg2 (apart HE3.out HI3.out).symm;have HI2:Hid (OwI w.heap.size V2 g2 c2 (Cj++[k])):=hi2;clear hi2 hg2 HE3 HI3 HB3;go_wp2;go_roundw
       case rel=>exact⟨j+1,g3,c3,g2,c2,by omega,by go_num,by rw [HST.out],by rw [HST.out];simp [hcl];try omega,by rw [HST.out];exact HE2,by rw [HST.out];exact HI2,HB2⟩
       case measure=>simp [intOf];omega
   · obtain rfl:j=S.length:=by omega
     rw [HEnd.out] at HE HI ⊢;go_wp2;go_ret2
     exact⟨gb,cb,gc,cc,rfl,HE.out,HI.out,HB.out⟩
end Bk
end
section
namespace Kn
end Kn
end
section
namespace Kn
open Cur (At)
theorem lit_str{w w2:World}{c:Nat}{t:TypeId}{l:List ByteArray}(hc:c<w.heap.size)(hG:(w.alloc (.cells (l.map Value.string).toArray t)).grownBy w2 (some c))(j:Nat)(hj:j<l.length)(n:Nat)
  (hl:∀x∈l,x.size≤n):∃v:ByteArray,w2.cell? ⟨w.heap.size,j,none⟩=some (.string v)∧v.size≤n:=by
 refine⟨l[j],Draw.kept_cell hG (by omega) ?_,hl _ (List.getElem_mem hj)⟩;rw [World.cell?_alloc_new];simp [hj]
theorem grown_put{c kb:Nat}{w0 w:World}(h:w0.grownBy w (some c))(hk:w0.heap.size≤kb)(j:Nat)(v:Value):w0.grownBy (w.setCell ⟨kb,j,none⟩ v) (some c) where
 os:=h.os
 tape:=h.tape
 output:=h.output
 size:=by simpa using h.size
 block:=fun i hi hne=>(heap_setCell_other w ⟨kb,j,none⟩ i v (fun e=>by have:kb=i:=e.symm;omega)).trans (h.block i hi hne)
theorem At.put{c kb:Nat}{a:Option Addr}{len cap:Nat}{w:World}(h:At c a len cap w)(hn:kb≠c){n0:Nat}(hb:len=0∨∃b off,a=some ⟨b,off,none⟩∧b<n0)(hk:n0≤kb)(j:Nat)(v:Value):At c a len cap (w.setCell ⟨kb,j,none⟩ v) where
 lt:=by simpa using h.lt
 b:=(World.cell?_setCell_other _ _ _ _ (by intro e;injection e with e _;exact hn e)).trans h.b
 i:=by obtain⟨i,hi,hh⟩:=h.i;exact⟨i,(World.cell?_setCell_other _ _ _ _ (by intro e;injection e with e _;exact hn e)).trans hi,hh⟩
 h:=by obtain⟨i,hi,hh⟩:=h.h;exact⟨i,(World.cell?_setCell_other _ _ _ _ (by intro e;injection e with e _;exact hn e)).trans hi,hh⟩
 f1:=by simpa using h.f1
 f2:=by simpa using h.f2
 bytes:=by
  rcases h.bytes with h0 | ⟨b,off,ha,hne,hlt,hcell⟩
  ·exact .inl h0
  ·rcases hb with h0 | ⟨b',off',ha',hlt'⟩
   ·exact .inl h0
   ·have eb:b=b':=by rw [ha] at ha';injection ha' with e;injection e
    refine .inr ⟨b,off,ha,hne,by simpa using hlt,fun i hi=>?_⟩;obtain⟨z,hz,hz'⟩:=hcell i hi;exact⟨z,(World.cell?_setCell_other _ _ _ _ (by intro e;injection e with e _;omega)).trans hz,hz'⟩
theorem code_lt{c:Nat}{a:Option Addr}{len cap:Nat}{w:World}(h:At c a len cap w):len=0∨∃b off,a=some ⟨b,off,none⟩∧b<w.heap.size:=by
 rcases h.bytes with h0 | ⟨b,off,ha,_,hlt,_⟩
 ·exact .inl h0
 ·exact .inr ⟨b,off,ha,hlt⟩
end Kn
end
section
namespace Bend
open Cur (At)
theorem At.below'{c:Nat}{a:Option Addr}{len cap lo hi:Nat}{w7 w8:World}(h:At c a len cap w7)(hb:Below hi w7 w8)(hc:c<hi)(hcode:len=0∨∃b off,a=some ⟨b,off,none⟩∧b<lo)(hlo:lo≤hi):At c a len cap w8 where
 lt:=Nat.lt_of_lt_of_le h.lt hb.size
 b:=(hb.cell (p:=⟨c,0,none⟩) hc).trans h.b
 i:=by obtain⟨i,h1,h2⟩:=h.i;exact⟨i,(hb.cell (p:=⟨c,1,none⟩) hc).trans h1,h2⟩
 h:=by obtain⟨i,h1,h2⟩:=h.h;exact⟨i,(hb.cell (p:=⟨c,2,none⟩) hc).trans h1,h2⟩
 f1:=(hb.frozen (p:=⟨c,1,none⟩) hc).trans h.f1
 f2:=(hb.frozen (p:=⟨c,2,none⟩) hc).trans h.f2
 bytes:=by
  rcases h.bytes with h0 | ⟨b,off,ha,hne,hlt,hcell⟩
  ·exact .inl h0
  ·rcases hcode with h0 | ⟨b',off',ha',hlt'⟩
   ·exact .inl h0
   ·have eb:b=b':=by rw [ha] at ha';injection ha' with e;injection e
    refine .inr ⟨b,off,ha,hne,Nat.lt_of_lt_of_le hlt hb.size,fun j hj=>?_⟩;obtain⟨z,h1,h2⟩:=hcell j hj;exact⟨z,(hb.cell (p:=⟨b,off+j,none⟩) (by show b<hi;omega)).trans h1,h2⟩
end Bend
end
end Go.Proofs.YtadbafppodhfpaaGreatDoor
