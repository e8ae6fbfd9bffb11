/-
 A slice of entries that came in, opened: the list that lies there; for every slice.
-/
import Derived.Test.YtadbafppodhfpaaRows
import Derived.Test.Ytadbafppodhfpaaezg1
import Derived.ProofKit
import Derived.OpenShut
import Derived.ChangeOld
import Derived.Deep.Slices
set_option linter.unusedVariables false
set_option maxRecDepth 100000
namespace Go.Proofs.Ytadbafppodhfpaa
open Go.ChangeShapes Go.WideShapes Go.ChangeAt Go.RowKit Go.Joins
namespace Bk
theorem cellsEn:Try.prog.cellsOf 69=2:=by kernel_rfl
theorem cellsEI:Try.prog.cellsOf 2=1:=by kernel_rfl
theorem cellsES:Try.prog.cellsOf 9=1:=by kernel_rfl
instance:Inhabited En:=⟨e0⟩
theorem openE{H:Type}{enc:TypeId × Value→H}{W:World}{spare:Nat→Bool}{held:Bool}{a0:Option Addr}{len0 cap0 fuel:Nat}{x:DataW H × List MemPlace}
  (h:DataW.trod enc Try.prog W 0 spare held fuel 39 [.slice a0 len0 cap0]=some x):∃L:List En,L.length=len0∧RdE W a0 L∧(∀k∈L,k.key.size≤maxLen)∧len0≤maxLen:=by
 rcases Deep.open_slice Try.underlying39 h with⟨hcs,_⟩ | ⟨a,l,c,m,n,D,Pl,hcs,_,hl,hm,hmm,_,hx⟩
 ·simp at hcs;obtain⟨rfl,rfl,rfl⟩:=hcs;exact⟨[],rfl,.inl rfl,by simp,by simp⟩
 ·simp at hcs;obtain⟨rfl,rfl,rfl⟩:=hcs;have hk:∀i,i<len0→∃k:En,k.key.size≤maxLen∧W.cell? ((a.add (i*2)).add 0)=some (.string k.key)∧W.cell? ((a.add (i*2)).add 1)=some (.int .i64 k.val):=by
   intro i hi;obtain⟨cs',h1,h2⟩:=hx i (by rw [hmm];split <;> omega);rw [cellsEn] at h1;obtain⟨_,hlen,hcell⟩:=World.cells?_some h1;obtain⟨y0,y1,n',_,_,h20,h21⟩:=trod_struct2 Try.underlying69 h2;match cs',hlen with
   | [x0,x1],_=>
    simp only [cellsEI,cellsES] at h20 h21;obtain⟨b0,e0,_,w0⟩:=DataW.trod_string Try.underlying9 h20;obtain⟨b1,e1,_,_⟩:=DataW.trod_int Try.underlying2 h21;simp at e0 e1;subst e0 e1;exact⟨⟨b0,b1⟩,w0,(hcell 0 (by omega)).trans rfl,(hcell 1 (by omega)).trans rfl⟩
  obtain⟨f,hf⟩:=Deep.choose_lt hk;have hlenL:((List.range len0).map f).length=len0:=by simp
  have hat:∀i,i<len0→atE ((List.range len0).map f) i=f i:=by
   intro i hi;rw [atE_get _ i (by simpa using hi)];simp
  refine⟨(List.range len0).map f,hlenL,?_,?_,by omega⟩
  ·by_cases h0:len0=0
   ·subst h0;exact .inl rfl
   ·obtain⟨b,off,spot⟩:=a;have hc0:=(hf 0 (by omega)).2.1;have hspot:spot=none:=by simpa [Addr.add] using World.cell?_spot hc0
    subst hspot;refine .inr ⟨b,off,rfl,?_,fun i hi=>?_⟩
    ·have:=block_lt_of_cell hc0;simpa [Addr.add] using this
    ·have hi':i<len0:=by simpa using hi
     obtain⟨_,d0,d1⟩:=hf i hi';rw [hat i hi'];rw [Deep.add_add,WideShapes.add_plain] at d0 d1;exact⟨d0,by rw [Nat.add_assoc];exact d1⟩
  ·intro k hk';rw [List.mem_map] at hk';obtain⟨i,hi,rfl⟩:=hk';exact(hf i (by simpa using hi)).1
end Bk
end Go.Proofs.Ytadbafppodhfpaa
