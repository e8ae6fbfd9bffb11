/-
 Plain mathematics of what hangs on what: for each knot of a list the set of it and of all it hangs on, thread by thread; whether a set is closed; its tips; no program in it.
-/
import Derived.Laws.BitsAllLaws
import Derived.Laws.Bits128
import Derived.WalkKit
import Derived.Test.YtbkeldfbllhlbaaGreatChecked
import Derived.BigQuiet
namespace Go.Proofs.YtbkeldfbllhlbaaGreat.Bit
def bit(s:Int)(k:Nat):Bool:=decide (s / 2 ^ k % 2=1)
def memTo(s:Int):Nat→List Int
 | 0=>[]
 | k+1=>memTo s k++if bit s k then [(k:Int)] else []
theorem memTo_succ(s:Int)(k:Nat):memTo s (k+1)=memTo s k++if bit s k then [(k:Int)] else []:=rfl
theorem memTo_le(s:Int)(k:Nat):(memTo s k).length≤k:=by
 induction k with
 | zero=>simp [memTo]
 | succ k ih=>rw [memTo_succ];by_cases h:bit s k <;> simp [h] <;> omega
theorem pow_pos'(k:Nat):(0:Int)<2 ^ k:=Int.pow_pos (by decide)
theorem div_zero_up(s:Int)(k j:Nat)(h:s / 2 ^ k=0):s / 2 ^ (k+j)=0:=by
 rw [Int.pow_add,← Int.ediv_ediv_of_nonneg (Int.le_of_lt (pow_pos' k)),h];simp
theorem bit_up(s:Int)(k j:Nat)(h:s / 2 ^ k=0):bit s (k+j)=false:=by
 simp [bit,div_zero_up s k j h]
theorem memTo_up(s:Int)(k j:Nat)(h:s / 2 ^ k=0):memTo s (k+j)=memTo s k:=by
 induction j with
 | zero=>rfl
 | succ j ih=>rw [← Nat.add_assoc,memTo_succ,bit_up s k j h,ih];simp
theorem div_big(s:Int)(h0:0≤s)(h1:s<1152921504606846976)(k:Nat)(hk:60≤k):s / 2 ^ k=0:=by
 have h:s / 2 ^ 60=0:=by
  have e:(2:Int) ^ 60=1152921504606846976:=by decide
  rw [e];omega
 have:=div_zero_up s 60 (k-60) h;rwa [show 60+(k-60)=k from by omega] at this
theorem memTo_all(s:Int)(h0:0≤s)(h1:s<1152921504606846976)(k:Nat)(h:s / 2 ^ k=0):memTo s k=memTo s 60:=by
 by_cases hk:k≤60
 ·have:=memTo_up s k (60-k) h;rw [show k+(60-k)=60 from by omega] at this;exact this.symm
 ·have h60:=div_big s h0 h1 60 (Nat.le_refl _);have:=memTo_up s 60 (k-60) h60;rwa [show 60+(k-60)=k from by omega] at this
theorem mem_memTo(s:Int)(k:Nat)(x:Int):x∈memTo s k↔∃j:Nat,j<k∧x=(j:Int)∧bit s j=true:=by
 induction k with
 | zero=>simp [memTo]
 | succ k ih=>
  rw [memTo_succ,List.mem_append,ih];constructor
  ·rintro(⟨j,hj,rfl,hb⟩ | h)
   ·exact⟨j,by omega,rfl,hb⟩
   ·by_cases hb:bit s k
    ·simp [hb] at h;exact⟨k,by omega,h,hb⟩
    ·simp [hb] at h
  ·rintro⟨j,hj,rfl,hb⟩;by_cases e:j=k
   ·subst e;right;simp [hb]
   ·left;exact⟨j,by omega,rfl,hb⟩
/-! ### the bits of the walk -/
theorem i64_and1(x:Int)(h0:0≤x)(h1:x<9223372036854775808):bits .and .i64 x 1=x % 2:=by
 obtain⟨A,rfl⟩:=Int.eq_ofNat_of_zero_le h0;show IntKind.i64.wrap ((BitVec.ofInt 64 (A:Int) &&& BitVec.ofInt 64 (1:Int)).toNat:Int)=_;have e1:(BitVec.ofInt 64 (1:Int)).toNat=1:=by decide
 have hA:A<18446744073709551616:=by omega
 rw [BitVec.toNat_and,ofInt_u64 A hA,e1,Nat.and_one_is_mod];simp [IntKind.wrap,IntKind.bits,IntKind.signed];omega
theorem i64_or(a b:Int)(h1:0≤a)(h2:a<9223372036854775808)(h3:0≤b)(h4:b<9223372036854775808):bits .or .i64 a b=((a.toNat ||| b.toNat:Nat):Int):=by
 obtain⟨A,rfl⟩:=Int.eq_ofNat_of_zero_le h1;obtain⟨B,rfl⟩:=Int.eq_ofNat_of_zero_le h3;have hx:A ||| B<2 ^ 63:=Nat.or_lt_two_pow (by omega) (by omega)
 show IntKind.i64.wrap ((BitVec.ofInt 64 (A:Int) ||| BitVec.ofInt 64 (B:Int)).toNat:Int)=_;have hA:A<18446744073709551616:=by omega
 have hB:B<18446744073709551616:=by omega
 rw [BitVec.toNat_or,ofInt_u64 A hA,ofInt_u64 B hB];simp [IntKind.wrap,IntKind.bits,IntKind.signed];omega
def withB(s:Int)(i:Nat):Int:=((s.toNat ||| 2 ^ i:Nat):Int)
theorem withB_bd(s:Int)(h0:0≤s)(h1:s<1152921504606846976)(i:Nat)(hi:i<60):0≤withB s i∧withB s i<1152921504606846976:=by
 unfold withB;have hp:2 ^ i<2 ^ 60:=Nat.pow_lt_pow_right (by decide) hi;have hx:s.toNat ||| 2 ^ i<2 ^ 60:=Nat.or_lt_two_pow (by omega) hp
 omega
theorem bit_testBit(s:Int)(h0:0≤s)(k:Nat):bit s k=s.toNat.testBit k:=by
 obtain⟨A,rfl⟩:=Int.eq_ofNat_of_zero_le h0;unfold bit;rw [Int.toNat_natCast,Nat.testBit_eq_decide_div_mod_eq];have:((A:Int) / 2 ^ k % 2=1)↔(A / 2 ^ k % 2=1):=by
  rw [show((2:Int) ^ k)=((2 ^ k:Nat):Int) from by simp];omega
 simp only [this]
theorem bit_withB(s:Int)(h0:0≤s)(i k:Nat):bit (withB s i) k=(decide (k=i) || bit s k):=by
 rw [bit_testBit _ (by unfold withB;omega),bit_testBit s h0];unfold withB;rw [Int.toNat_natCast,Nat.testBit_or,Nat.testBit_two_pow,Bool.or_comm];congr 1
 simp [eq_comm]
/-! ### OnesCount64 -/
def pop:Nat→Nat→Nat
 | _,0=>0
 | x,n+1=>x % 2+pop (x / 2) n
theorem pop_byte(r q n:Nat)(hr:r<256):pop (r+256*q) (n+8)=pop r 8+pop q n:=by
 simp only [pop];rw [show(r+256*q) / 2 / 2 / 2 / 2 / 2 / 2 / 2 / 2=q from by omega];omega
theorem and_split(k a b c d:Nat)(ha:a<2 ^ k)(hc:c<2 ^ k):(a+2 ^ k*b) &&& (c+2 ^ k*d)=(a &&& c)+2 ^ k*(b &&& d):=by
 apply Nat.eq_of_testBit_eq;intro j;have hac:a &&& c<2 ^ k:=Nat.and_lt_two_pow _ hc;rw [Nat.testBit_and,Nat.add_comm a,Nat.add_comm c,Nat.add_comm (a &&& c),Nat.testBit_two_pow_mul_add _ ha,Nat.testBit_two_pow_mul_add _ hc,Nat.testBit_two_pow_mul_add _ hac];split <;> simp [Nat.testBit_and]
theorem and_byte(a b c d:Nat)(ha:a<256)(hc:c<256):(a+256*b) &&& (c+256*d)=(a &&& c)+256*(b &&& d):=and_split 8 a b c d ha hc
theorem byte1:∀r:Nat,r<256→(r / 2 &&& 85)+(r &&& 85)<171:=by decide +kernel
theorem byte_all:∀r:Nat,r<256→((((r / 2 &&& 85)+(r &&& 85)) / 4 &&& 51)+(((r / 2 &&& 85)+(r &&& 85)) &&& 51)) / 16≤4∧((((r / 2 &&& 85)+(r &&& 85)) / 4 &&& 51)+(((r / 2 &&& 85)+(r &&& 85)) &&& 51)) % 16≤4 ∧
  ((((r / 2 &&& 85)+(r &&& 85)) / 4 &&& 51)+(((r / 2 &&& 85)+(r &&& 85)) &&& 51)) / 16+((((r / 2 &&& 85)+(r &&& 85)) / 4 &&& 51)+(((r / 2 &&& 85)+(r &&& 85)) &&& 51)) % 16=pop r 8:=by decide +kernel
theorem up1:∀r:Nat,r<128→∀c,c<2→(r+128*c) &&& 85=r &&& 85:=by decide +kernel
theorem up2:∀r:Nat,r<64→∀c,c<4→(r+64*c) &&& 51=r &&& 51:=by decide +kernel
theorem sh1(r q m:Nat)(hr:r<256):(r+256*q) / 2 &&& (85+256*m)=(r / 2 &&& 85)+256*(q / 2 &&& m):=by
 have e:(r+256*q) / 2=(r / 2+128*(q % 2))+256*(q / 2):=by omega
 rw [e,and_byte _ _ _ _ (by omega) (by omega),up1 _ (by omega) _ (by omega)]
theorem sh2(r q m:Nat)(hr:r<256):(r+256*q) / 4 &&& (51+256*m)=(r / 4 &&& 51)+256*(q / 4 &&& m):=by
 have e:(r+256*q) / 4=(r / 4+64*(q % 4))+256*(q / 4):=by omega
 rw [e,and_byte _ _ _ _ (by omega) (by omega),up2 _ (by omega) _ (by omega)]
def mk(m:Nat):Nat→Nat
 | 0=>0
 | n+1=>m+256*mk m n
def s1(n x:Nat):Nat:=(x / 2 &&& mk 85 n)+(x &&& mk 85 n)
def s2(n x:Nat):Nat:=(x / 4 &&& mk 51 n)+(x &&& mk 51 n)
def s3(n x:Nat):Nat:=(x / 16+x) &&& mk 15 n
def byts:Nat→Nat→List Nat
 | 0,_=>[]
 | n+1,x=>pop (x % 256) 8 :: byts n (x / 256)
def ofB:List Nat→Nat
 | []=>0
 | b :: l=>b+256*ofB l
theorem s1_byte(n r q:Nat)(hr:r<256):s1 (n+1) (r+256*q)=((r / 2 &&& 85)+(r &&& 85))+256*s1 n q:=by
 unfold s1;rw [mk,sh1 r q _ hr,and_byte r q 85 _ hr (by omega)];omega
theorem s2_byte(n r q:Nat)(hr:r<256):s2 (n+1) (r+256*q)=((r / 4 &&& 51)+(r &&& 51))+256*s2 n q:=by
 unfold s2;rw [mk,sh2 r q _ hr,and_byte r q 51 _ hr (by omega)];omega
theorem mask15:∀h:Nat,h<9→∀l,l<9→(l+16*h) &&& 15=l:=by decide +kernel
theorem s3_byte(n r q:Nat)(h1:r / 16≤4)(h2:r % 16≤4)(h3:q % 16≤4):s3 (n+1) (r+256*q)=(r / 16+r % 16)+256*s3 n q:=by
 unfold s3;have e:(r+256*q) / 16+(r+256*q)=((r / 16+r % 16)+16*(r / 16+q % 16))+256*(q / 16+q):=by omega
 rw [e,mk,and_byte _ _ 15 _ (by omega) (by omega),mask15 _ (by omega) _ (by omega)]
theorem s21_low(n x:Nat):s2 n (s1 n x) % 16≤4:=by
 cases n with
 | zero=>simp [s2,mk]
 | succ n=>
  have e:x=x % 256+256*(x / 256):=by omega
  have hr:x % 256<256:=by omega
  have hb1:=byte1 _ hr;have hb:=byte_all _ hr;rw [e,s1_byte n _ _ hr,s2_byte n _ _ (by omega)];omega
theorem s321(n x:Nat):s3 n (s2 n (s1 n x))=ofB (byts n x):=by
 induction n generalizing x with
 | zero=>simp [s3,mk,byts,ofB]
 | succ n ih=>
  have hr:x % 256<256:=by omega
  have hb1:=byte1 _ hr;have hb:=byte_all _ hr;have hlow:=s21_low n (x / 256);have e:s1 (n+1) x=_:=(congrArg (s1 (n+1)) (show x=x % 256+256*(x / 256) from by omega)).trans (s1_byte n _ _ hr);rw [e,s2_byte n _ _ (by omega),s3_byte n _ _ hb.1 hb.2.1 hlow,ih,hb.2.2];rfl
theorem pop8_le:∀r:Nat,r<256→pop r 8≤8:=by decide +kernel
theorem pop_bytes(n x:Nat):pop x (8*n)=(byts n x).sum:=by
 induction n generalizing x with
 | zero=>simp [pop,byts]
 | succ n ih=>
  have e:x=x % 256+256*(x / 256):=by omega
  rw [show 8*(n+1)=8*n+8 from by omega];conv=>lhs;rw [e]
  rw [pop_byte _ _ _ (by omega),ih];simp [byts]
theorem dv1(a q:Nat)(ha:a<256):(a+256*q) / 256=q:=by omega
theorem dv2(a b q:Nat)(ha:a<256)(hb:b<256):(a+256*(b+256*q)) / 65536=q:=by omega
theorem dv4(a b c d q:Nat)(ha:a<256)(hb:b<256)(hc:c<256)(hd:d<256):(a+256*(b+256*(c+256*(d+256*q)))) / 4294967296=q:=by omega
theorem low7(a p b q:Nat)(h:a+b≤64):(a+256*p+(b+256*q)) % 128=a+b:=by omega
theorem fold_y(a b c d e f g h:Nat)(ha:a≤8):(a+256*(b+256*(c+256*(d+256*(e+256*(f+256*(g+256*h)))))))+(a+256*(b+256*(c+256*(d+256*(e+256*(f+256*(g+256*h))))))) / 256
  = (a+b)+256*((b+c)+256*((c+d)+256*((d+e)+256*((e+f)+256*((f+g)+256*((g+h)+256*h)))))):=by
 rw [dv1 _ _ (by omega)];omega
theorem fold_z(a b c d e f g h:Nat)(ha:a≤8)(hb:b≤8)(hc:c≤8) :
  ((a+b)+256*((b+c)+256*((c+d)+256*((d+e)+256*((e+f)+256*((f+g)+256*((g+h)+256*h)))))))+((a+b)+256*((b+c)+256*((c+d)+256*((d+e)+256*((e+f)+256*((f+g)+256*((g+h)+256*h))))))) / 65536
  = (a+b+c+d)+256*((b+c+d+e)+256*((c+d+e+f)+256*((d+e+f+g)+256*((e+f+g+h)+256*((f+g+h)+256*((g+h)+256*h)))))):=by
 rw [dv2 _ _ _ (by omega) (by omega)];omega
theorem fold_end(a b c d e f g h:Nat)(ha:a≤8)(hb:b≤8)(hc:c≤8)(hd:d≤8)(he:e≤8)(hf:f≤8)(hg:g≤8)(hh:h≤8)(z:Nat)
  (hz:z=(a+b+c+d)+256*((b+c+d+e)+256*((c+d+e+f)+256*((d+e+f+g)+256*((e+f+g+h)+256*((f+g+h)+256*((g+h)+256*h))))))) :
  (z+z / 4294967296) % 128=a+(b+(c+(d+(e+(f+(g+h)))))):=by
 have hq:z / 4294967296=(e+f+g+h)+256*((f+g+h)+256*((g+h)+256*h)):=by
  rw [hz];exact dv4 _ _ _ _ _ (by omega) (by omega) (by omega) (by omega)
 rw [hq,hz,low7 _ _ _ _ (by omega)];omega
theorem mk85:mk 85 8=6148914691236517205:=by decide
theorem mk51:mk 51 8=3689348814741910323:=by decide
theorem mk15:mk 15 8=1085102592571150095:=by decide
theorem and_le'(a b:Nat):a &&& b≤b:=Nat.and_le_right
theorem ones_nat(x x1 x2 x3 y z:Nat)(h1:x1=(x / 2 &&& 6148914691236517205)+(x &&& 6148914691236517205))(h2:x2=(x1 / 4 &&& 3689348814741910323)+(x1 &&& 3689348814741910323))
  (h3:x3=(x2 / 16+x2) &&& 1085102592571150095) (hy:y=x3+x3 / 256) (hz:z=y+y / 65536):(z+z / 4294967296) % 128=pop x 64:=by
 have e:x3=s3 8 (s2 8 (s1 8 x)):=by rw [h3,h2,h1];unfold s3 s2 s1;rw [mk85,mk51,mk15]
 rw [s321] at e;rw [show(64:Nat)=8*8 from rfl,pop_bytes];simp only [byts,ofB,Nat.mul_zero,Nat.add_zero] at e;simp only [byts,List.sum_cons,List.sum_nil,Nat.add_zero];have b0:=pop8_le (x % 256) (by omega);have b1:=pop8_le (x / 256 % 256) (by omega);have b2:=pop8_le (x / 256 / 256 % 256) (by omega);have b3:=pop8_le (x / 256 / 256 / 256 % 256) (by omega);have b4:=pop8_le (x / 256 / 256 / 256 / 256 % 256) (by omega);have b5:=pop8_le (x / 256 / 256 / 256 / 256 / 256 % 256) (by omega);have b6:=pop8_le (x / 256 / 256 / 256 / 256 / 256 / 256 % 256) (by omega);have b7:=pop8_le (x / 256 / 256 / 256 / 256 / 256 / 256 / 256 % 256) (by omega);generalize pop (x % 256) 8=t0 at *;generalize pop (x / 256 % 256) 8=t1 at *;generalize pop (x / 256 / 256 % 256) 8=t2 at *;generalize pop (x / 256 / 256 / 256 % 256) 8=t3 at *;generalize pop (x / 256 / 256 / 256 / 256 % 256) 8=t4 at *;generalize pop (x / 256 / 256 / 256 / 256 / 256 % 256) 8=t5 at *;generalize pop (x / 256 / 256 / 256 / 256 / 256 / 256 % 256) 8=t6 at *;generalize pop (x / 256 / 256 / 256 / 256 / 256 / 256 / 256 % 256) 8=t7 at *;clear h1 h2 h3;rw [e,fold_y _ _ _ _ _ _ _ _ b0] at hy;rw [hy,fold_z _ _ _ _ _ _ _ _ b0 b1 b2] at hz;exact fold_end _ _ _ _ _ _ _ _ b0 b1 b2 b3 b4 b5 b6 b7 z hz
theorem pop_top(x n:Nat):pop x (n+1)=pop x n+x / 2 ^ n % 2:=by
 induction n generalizing x with
 | zero=>simp [pop]
 | succ n ih=>
  rw [pop,ih (x / 2),pop,Nat.div_div_eq_div_mul,← Nat.pow_succ',Nat.add_assoc]
theorem len_memTo(x k:Nat):(memTo (x:Int) k).length=pop x k:=by
 induction k with
 | zero=>simp [memTo,pop]
 | succ k ih=>
  rw [memTo_succ,List.length_append,ih,pop_top];have hb:bit (x:Int) k=decide (x / 2 ^ k % 2=1):=by
   rw [bit_testBit _ (by omega),Int.toNat_natCast,Nat.testBit_eq_decide_div_mod_eq]
  rw [hb];by_cases h:x / 2 ^ k % 2=1
  ·simp [h]
  ·have h0:x / 2 ^ k % 2=0:=by omega
   simp [h0]
theorem pop_64(x:Nat)(h:x<1152921504606846976):pop x 64=(memTo (x:Int) 60).length:=by
 rw [← memTo_all (x:Int) (by omega) (by omega) 64 (div_big (x:Int) (by omega) (by omega) 64 (by omega)),len_memTo]
end Go.Proofs.YtbkeldfbllhlbaaGreat.Bit
set_option linter.unusedVariables false
set_option maxRecDepth 100000
set_option maxHeartbeats 1600000
namespace Go.Proofs.YtbkeldfbllhlbaaGreat
open Go.RowKit
section
namespace Base
def okB(s:Int):Bool:=decide (0≤s)&&decide (s<1152921504606846976)
def inB(i:Int):Bool:=decide (0≤i)&&decide (i<60)
theorem okB_iff(s:Int):okB s=true↔0≤s∧s<1152921504606846976:=by simp [okB]
theorem inB_iff(s:Int):inB s=true↔0≤s∧s<60:=by simp [inB]
theorem ret_bool{a b:Bool}(h:a=b):Ending.returned (.bool a)=.returned (.bool b):=by rw [h]
theorem ret_int{k:IntKind}{a b:Int}(h:a=b):Ending.returned (.int k a)=.returned (.int k b):=by rw [h]
theorem l1In(x lo hi:Int)(w:World):Calls Tryz.prog 44 #[.int .i64 x,.int .i64 lo,.int .i64 hi] w fun e w'=>e=.returned (.bool (decide (lo≤x)&&decide (x≤hi)))∧w=w':=by
 by_cases h1:lo≤x
 ·go_enter Tryz.func44,Tryz.ntmps44
  go_wp2;go_ret;exact⟨ret_bool (by simp [h1]),rfl⟩
 ·go_enter Tryz.func44,Tryz.ntmps44
  go_wp2;go_ret;exact⟨ret_bool (by simp;omega),rfl⟩
theorem right(s:Int)(w:World):Calls Tryz.prog 94 #[.int .i64 s] w fun e w'=>e=.returned (.bool (okB s))∧w=w':=by
 by_cases h1:0≤s
 ·go_enter Tryz.func94,Tryz.ntmps94
  go_wp2;go_ret;exact⟨ret_bool (by simp [okB,h1]),rfl⟩
 ·go_enter Tryz.func94,Tryz.ntmps94
  go_wp2;go_ret;exact⟨ret_bool (by simp [okB];omega),rfl⟩
theorem fits(s:Int)(w:World):Calls Tryz.prog 95 #[.int .i64 s] w fun e w'=>e=.returned (.bool (inB s))∧w=w':=by
 by_cases h1:0≤s
 ·go_enter Tryz.func95,Tryz.ntmps95
  go_wp2;go_ret;exact⟨ret_bool (by simp [inB,h1]),rfl⟩
 ·go_enter Tryz.func95,Tryz.ntmps95
  go_wp2;go_ret;exact⟨ret_bool (by simp [inB];omega),rfl⟩
theorem specOk(s:Int)(w:World):Calls Tryz.prog 43 #[.int .i64 s] w fun e w'=>e=.returned (.bool (okB s))∧w=w':=by
 go_enter Tryz.func43,Tryz.ntmps43
 go_wp2_with (go_at_call 44;refine(l1In _ _ _ _).mono ?_;rintro e w' ⟨rfl,rfl⟩)
 go_ret;exact⟨ret_bool (by unfold okB;congr 1;simp only [decide_eq_decide];omega),rfl⟩
theorem sh_bd(s:Int)(k:Nat)(h0:0≤s)(h1:s<1152921504606846976):0≤s / 2 ^ k∧s / 2 ^ k<9223372036854775808:=by
 have hp:=Bit.pow_pos' k;have:=Int.ediv_nonneg h0 (Int.le_of_lt hp);have:=Int.ediv_le_self (2 ^ k) h0;omega
theorem has_bit(s:Int)(k:Nat)(h0:0≤s)(h1:s<1152921504606846976):(bits .and .i64 (s / 2 ^ k) 1 == 1)=Bit.bit s k:=by
 have h:=sh_bd s k h0 h1;rw [Bit.i64_and1 _ h.1 h.2];rw [Bool.eq_iff_iff];simp [Bit.bit]
theorem l1Has(s:Int)(i:Int)(w:World)(h0:0≤s)(h1:s<1152921504606846976)(h2:0≤i)(h3:i≤64):Calls Tryz.prog 45 #[.int .i64 s,.int .i64 i] w fun e w'=>e=.returned (.bool (Bit.bit s i.toNat))∧w=w':=by
 have HB:Hid ((bits .and .i64 (s / 2 ^ i.toNat) 1 == 1)=Bit.bit s i.toNat):=has_bit s i.toNat h0 h1;go_enter Tryz.func45,Tryz.ntmps45
 go_wp2;go_ret;exact⟨ret_bool HB.out,rfl⟩
theorem has(s:Int)(i:Int)(w:World):Calls Tryz.prog 65 #[.int .i64 s,.int .i64 i] w fun e w'=>e=.returned (.bool (okB s&&(inB i&&Bit.bit s i.toNat)))∧w=w':=by
 cases ho:okB s
 ·go_enter Tryz.func65,Tryz.ntmps65
  go_wp2_with (first | (go_at_call 94;refine(right _ _).mono ?_;rintro e w' ⟨rfl,rfl⟩) | (go_at_call 95;refine(fits _ _).mono ?_;rintro e w' ⟨rfl,rfl⟩))
  go_ret;exact⟨rfl,rfl⟩
 ·cases hi:inB i
  ·go_enter Tryz.func65,Tryz.ntmps65
   go_wp2_with (first | (go_at_call 94;refine(right _ _).mono ?_;rintro e w' ⟨rfl,rfl⟩) | (go_at_call 95;refine(fits _ _).mono ?_;rintro e w' ⟨rfl,rfl⟩))
   go_ret;exact⟨rfl,rfl⟩
  ·have hs:=(okB_iff s).1 ho;have hi':=(inB_iff i).1 hi;obtain⟨h0,h1⟩:=hs;obtain⟨h2,h3⟩:=hi';have HB:Hid ((bits .and .i64 (s / 2 ^ i.toNat) 1 == 1)=Bit.bit s i.toNat):=has_bit s i.toNat h0 h1;go_enter Tryz.func65,Tryz.ntmps65
   go_wp2_with (first | (go_at_call 94;refine(right _ _).mono ?_;rintro e w' ⟨rfl,rfl⟩) | (go_at_call 95;refine(fits _ _).mono ?_;rintro e w' ⟨rfl,rfl⟩))
   go_ret;exact⟨ret_bool (by simpa using HB.out),rfl⟩
theorem l1In_in(s:Int):(decide (0≤s)&&decide (s≤59))=inB s:=by
 unfold inB;congr 1;simp only [decide_eq_decide];omega
theorem l1In59(x:Int)(w:World):Calls Tryz.prog 44 #[.int .i64 x,.int .i64 0,.int .i64 59] w fun e w'=>e=.returned (.bool (inB x))∧w=w':=by
 have h:=l1In x 0 59 w;rw [l1In_in] at h;exact h
theorem specIn(s:Int)(i:Int)(w:World):Calls Tryz.prog 15 #[.int .i64 s,.int .i64 i] w fun e w'=>e=.returned (.bool (okB s&&(inB i&&Bit.bit s i.toNat)))∧w=w':=by
 cases ho:okB s
 ·go_enter Tryz.func15,Tryz.ntmps15
  go_wp2_with (first | (go_at_call 43;refine(specOk _ _).mono ?_;rintro e w' ⟨rfl,rfl⟩) | (go_at_call 44;refine(l1In59 _ _).mono ?_;rintro e w' ⟨rfl,rfl⟩))
  go_ret;exact⟨rfl,rfl⟩
 ·cases hi:inB i
  ·go_enter Tryz.func15,Tryz.ntmps15
   go_wp2_with (first | (go_at_call 43;refine(specOk _ _).mono ?_;rintro e w' ⟨rfl,rfl⟩) | (go_at_call 44;refine(l1In59 _ _).mono ?_;rintro e w' ⟨rfl,rfl⟩))
   go_ret;exact⟨rfl,rfl⟩
  ·have hs:=(okB_iff s).1 ho;have hi':=(inB_iff i).1 hi;obtain⟨h0,h1⟩:=hs;obtain⟨h2,h3⟩:=hi';go_enter Tryz.func15,Tryz.ntmps15
   go_wp2_with (first | (go_at_call 43;refine(specOk _ _).mono ?_;rintro e w' ⟨rfl,rfl⟩) | (go_at_call 44;refine(l1In59 _ _).mono ?_;rintro e w' ⟨rfl,rfl⟩) | (go_at_call 45;refine(l1Has _ _ _ h0 h1 h2 (by omega)).mono ?_;rintro e w' ⟨rfl,rfl⟩))
   go_ret;exact⟨rfl,rfl⟩
def withI(s i:Int):Int:=if okB s&&inB i then Bit.withB s i.toNat else s
theorem shl_or(s:Int)(k:Nat)(h0:0≤s)(h1:s<1152921504606846976)(hk:k<60):bits .or .i64 s (2 ^ k)=Bit.withB s k:=by
 have hp:=Bit.pow_pos' k;have e:(2:Int) ^ k=((2 ^ k:Nat):Int):=by simp
 have hl:2 ^ k<2 ^ 60:=Nat.pow_lt_pow_right (by decide) hk;rw [Bit.i64_or _ _ h0 (by omega) (by omega) (by rw [e];omega)];unfold Bit.withB;rw [e,Int.toNat_natCast]
theorem pow_bd(k:Nat)(hk:k<60):(0:Int)<2 ^ k∧(2:Int) ^ k<1152921504606846976:=by
 have e:(2:Int) ^ k=((2 ^ k:Nat):Int):=by simp
 have hl:2 ^ k<2 ^ 60:=Nat.pow_lt_pow_right (by decide) hk;have hp:=Bit.pow_pos' k;constructor
 ·exact hp
 ·rw [e];omega
theorem wrap_pow(k:Nat)(hk:k<60):IntKind.i64.wrap (2 ^ k)=2 ^ k:=by
 have h:=pow_bd k hk;simp only [IntKind.wrap,IntKind.bits,IntKind.signed];generalize (2:Int) ^ k=x at h;simp;omega
theorem l1Bit(i:Int)(w:World)(h2:0≤i)(h3:i<60):Calls Tryz.prog 82 #[.int .i64 i] w fun e w'=>e=.returned (.int .i64 (2 ^ i.toNat))∧w=w':=by
 have hb:=pow_bd i.toNat (by omega);have hw:=wrap_pow i.toNat (by omega);go_enter Tryz.func82,Tryz.ntmps82
 go_wp2;go_ret;exact⟨ret_int (by simp),rfl⟩
theorem withM(s:Int)(i:Int)(w:World):Calls Tryz.prog 148 #[.int .i64 s,.int .i64 i] w fun e w'=>e=.returned (.int .i64 (withI s i))∧w=w':=by
 cases ho:okB s
 ·go_enter Tryz.func148,Tryz.ntmps148
  go_wp2_with (first | (go_at_call 94;refine(right _ _).mono ?_;rintro e w' ⟨rfl,rfl⟩) | (go_at_call 95;refine(fits _ _).mono ?_;rintro e w' ⟨rfl,rfl⟩))
  go_ret;exact⟨ret_int (by simp [withI,ho]),rfl⟩
 ·cases hi:inB i
  ·go_enter Tryz.func148,Tryz.ntmps148
   go_wp2_with (first | (go_at_call 94;refine(right _ _).mono ?_;rintro e w' ⟨rfl,rfl⟩) | (go_at_call 95;refine(fits _ _).mono ?_;rintro e w' ⟨rfl,rfl⟩))
   go_ret;exact⟨ret_int (by simp [withI,hi]),rfl⟩
  ·have hs:=(okB_iff s).1 ho;have hi':=(inB_iff i).1 hi;obtain⟨h0,h1⟩:=hs;obtain⟨h2,h3⟩:=hi';have hw:=wrap_pow i.toNat (by omega);have HB:Hid (bits .or .i64 s (2 ^ i.toNat)=withI s i):=(shl_or s i.toNat h0 h1 (by omega)).trans (by simp [withI,ho,hi]);go_enter Tryz.func148,Tryz.ntmps148
   go_wp2_with (first | (go_at_call 94;refine(right _ _).mono ?_;rintro e w' ⟨rfl,rfl⟩) | (go_at_call 95;refine(fits _ _).mono ?_;rintro e w' ⟨rfl,rfl⟩))
   go_ret;exact⟨ret_int (by simpa using HB.out),rfl⟩
end Base
end
section
namespace Kn
def okC(c:UInt8):Bool:=(decide (97≤c.toNat)&&decide (c.toNat≤122)) || ((decide (48≤c.toNat)&&decide (c.toNat≤57)) || decide (c.toNat=32))
def okW(s:ByteArray):Bool:=s.data.toList.all okC&&decide (s.size≤12)
theorem take_snoc(s:ByteArray)(k:Nat)(h:k<s.size):s.data.toList.take (k+1)=s.data.toList.take k++[s[k]]:=by
 rw [List.take_succ_eq_append_getElem (by simpa using h)];rfl
theorem take_all(s:ByteArray):s.data.toList.take s.size=s.data.toList:=List.take_of_length_le (by simp)
theorem all_snoc(s:ByteArray)(k:Nat)(h:k<s.size):(s.data.toList.take (k+1)).all okC=((s.data.toList.take k).all okC&&okC s[k]):=by
 rw [take_snoc s k h];simp
theorem l2Word(s:ByteArray)(w:World)(hs:s.size≤1099511627776):Calls Tryz.prog 137 #[.string s] w fun e w'=>e=.returned (.bool (okW s))∧w=w':=by
 go_enter Tryz.func137,Tryz.ntmps137
 go_wp2;go_loop [3] (fun i=>∃k:Nat,k≤s.size∧i=.int .i64 k∧(s.data.toList.take k).all okC=true) (fun i=>s.size-(intOf i).toNat)
 case atStart=>exact⟨0,Nat.zero_le _,rfl,rfl⟩
 case round=>
  obtain⟨k,hk,rfl,hall⟩:=hrel;have HA:Hid ((s.data.toList.take k).all okC=true):=hall;clear hall;by_cases hlt:k<s.size
  ·have HS:Hid ((s.data.toList.take (k+1)).all okC=((s.data.toList.take k).all okC&&okC s[k])):=all_snoc s k hlt;have HO:Hid (okC s[k]=true↔((97≤(s[k].toNat:Int)∧(s[k].toNat:Int)≤122)∨(48≤(s[k].toNat:Int)∧(s[k].toNat:Int)≤57)∨(s[k].toNat:Int)=32)):=by
    show _↔_;simp [okC];omega
   have HB:Hid (okC s[k]=false→okW s=false):=by
    intro h;have hm:s[k]∈s.data.toList:=by
     have hk2:k<s.data.toList.length:=by simpa using hlt
     have e:s[k]=s.data.toList[k]:=rfl;rw [e];exact List.getElem_mem hk2
    unfold okW;have:s.data.toList.all okC=false:=by
     rw [List.all_eq_false];exact⟨s[k],hm,by simp [h]⟩
    rw [this];rfl
   by_cases c1:(97:Int)≤(s[k].toNat:Int)∧(s[k].toNat:Int)≤122
   ·have HC:Hid ((s.data.toList.take (k+1)).all okC=true):=by
     show _=true;rw [HS.out,HA.out,HO.out.2 (.inl c1)];rfl
    obtain⟨c1,c1'⟩:=c1;go_wp2;go_round
    case rel=>exact⟨k+1,by omega,by go_num,HC.out⟩
    case measure=>simp [intOf];omega
   ·by_cases c2:(48:Int)≤(s[k].toNat:Int)∧(s[k].toNat:Int)≤57
    ·have HC:Hid ((s.data.toList.take (k+1)).all okC=true):=by
      show _=true;rw [HS.out,HA.out,HO.out.2 (.inr (.inl c2))];rfl
     obtain⟨c2,c2'⟩:=c2;have c1':(s[k].toNat:Int)<97:=by omega
     clear c1;go_wp2;go_round
     case rel=>exact⟨k+1,by omega,by go_num,HC.out⟩
     case measure=>simp [intOf];omega
    ·by_cases c3:(s[k].toNat:Int)=32
     ·have HC:Hid ((s.data.toList.take (k+1)).all okC=true):=by
       show _=true;rw [HS.out,HA.out,HO.out.2 (.inr (.inr c3))];rfl
      have c1':(s[k].toNat:Int)<97:=by omega
      have c2':(s[k].toNat:Int)<48:=by omega
      have c3':((s[k].toNat:Int) != 32)=false:=by simpa using c3
      clear c1 c2 c3;go_wp2;go_round
      case rel=>exact⟨k+1,by omega,by go_num,HC.out⟩
      case measure=>simp [intOf];omega
     ·have HC:Hid (okW s=false):=by
       apply HB.out
       cases h:okC s[k]
       ·rfl
       ·exfalso;have:=HO.out.1 h;omega
      have c3':((s[k].toNat:Int) != 32)=true:=by simpa using c3
      clear HS HO HB HA;by_cases d1:(s[k].toNat:Int)<97
      ·clear c1 c3;by_cases d2:(s[k].toNat:Int)<48
       ·clear c2;go_wp2;go_ret;exact⟨Base.ret_bool HC.out.symm,rfl⟩
       ·have d3:57<(s[k].toNat:Int):=by omega
        clear c2;go_wp2;go_ret;exact⟨Base.ret_bool HC.out.symm,rfl⟩
      ·have d4:122<(s[k].toNat:Int):=by omega
       clear c1 c2 c3;go_wp2;go_ret;exact⟨Base.ret_bool HC.out.symm,rfl⟩
  ·go_wp2;go_ret;have hk':k=s.size:=by omega
   refine⟨Base.ret_bool ?_,rfl⟩;unfold okW;have:=HA.out;rw [hk',take_all] at this;rw [this,Bool.true_and];exact decide_eq_decide.2 (by omega)
structure K where
 hand:Int
 round:Int
 frm:Int
 word:ByteArray
def in3(x:Int):Bool:=decide (0≤x)&&decide (x≤3)
def in19(x:Int):Bool:=decide (0≤x)&&decide (x≤19)
def both0(r f:Int):Bool:=(r == 0) == (f == 0)
def okK(k:K):Bool:=in3 k.hand&&(in19 k.round&&(Base.okB k.frm&&(both0 k.round k.frm&&okW k.word)))
theorem l1In3(x:Int)(w:World):Calls Tryz.prog 44 #[.int .i64 x,.int .i64 0,.int .i64 3] w fun e w'=>e=.returned (.bool (in3 x))∧w=w':=Base.l1In x 0 3 w
theorem l1In19(x:Int)(w:World):Calls Tryz.prog 44 #[.int .i64 x,.int .i64 0,.int .i64 19] w fun e w'=>e=.returned (.bool (in19 x))∧w=w':=Base.l1In x 0 19 w
theorem specKnotOk(h r f:Int)(s:ByteArray)(w:World)(hs:s.size≤1099511627776):Calls Tryz.prog 110 #[.agg #[.int .i64 h,.int .i64 r,.int .i64 f,.string s]] w fun e w'=>
  e=.returned (.bool (okK ⟨h,r,f,s⟩))∧Below w.heap.size w w':=by
 have B1:∀o:Obj,Below w.heap.size w (w.alloc o):=fun o=>(Below.refl _ _).alloc (Nat.le_refl _) o
 cases h1:in3 h
 ·have HO:Hid (okK ⟨h,r,f,s⟩=false):=by show _=false;simp [okK,h1]
  have H1:Hid (in3 h=false):=h1;clear h1;go_enter Tryz.func110,Tryz.ntmps110
  go_wp2_with fail
  refine(l1In3 _ _).mono ?_;rintro e w1 ⟨rfl,rfl⟩;rw [H1.out];go_wp2;go_ret;exact⟨Base.ret_bool HO.out.symm,B1 _⟩
 ·have H1:Hid (in3 h=true):=h1;clear h1
  cases h2:in19 r
  ·have HO:Hid (okK ⟨h,r,f,s⟩=false):=by show _=false;simp [okK,h2]
   have H2:Hid (in19 r=false):=h2;clear h2;go_enter Tryz.func110,Tryz.ntmps110
   go_wp2_with fail
   refine(l1In3 _ _).mono ?_;rintro e w1 ⟨rfl,rfl⟩;rw [H1.out];go_wp2_with fail
   refine(l1In19 _ _).mono ?_;rintro e w1 ⟨rfl,rfl⟩;rw [H2.out];go_wp2;go_ret;exact⟨Base.ret_bool HO.out.symm,B1 _⟩
  ·have H2:Hid (in19 r=true):=h2;clear h2
   cases h3:Base.okB f
   ·have HO:Hid (okK ⟨h,r,f,s⟩=false):=by show _=false;simp [okK,h3]
    have H3:Hid (Base.okB f=false):=h3;clear h3;go_enter Tryz.func110,Tryz.ntmps110
    go_wp2_with fail
    refine(l1In3 _ _).mono ?_;rintro e w1 ⟨rfl,rfl⟩;rw [H1.out];go_wp2_with fail
    refine(l1In19 _ _).mono ?_;rintro e w1 ⟨rfl,rfl⟩;rw [H2.out];go_wp2_with fail
    refine(Base.specOk _ _).mono ?_;rintro e w1 ⟨rfl,rfl⟩;rw [H3.out];go_wp2;go_ret;exact⟨Base.ret_bool HO.out.symm,B1 _⟩
   ·have H3:Hid (Base.okB f=true):=h3;clear h3
    cases h4:both0 r f
    ·have HO:Hid (okK ⟨h,r,f,s⟩=false):=by show _=false;simp [okK,h4]
     have h4':((r == 0) == (f == 0))=false:=h4;clear h4;go_enter Tryz.func110,Tryz.ntmps110
     go_wp2_with fail
     refine(l1In3 _ _).mono ?_;rintro e w1 ⟨rfl,rfl⟩;rw [H1.out];go_wp2_with fail
     refine(l1In19 _ _).mono ?_;rintro e w1 ⟨rfl,rfl⟩;rw [H2.out];go_wp2_with fail
     refine(Base.specOk _ _).mono ?_;rintro e w1 ⟨rfl,rfl⟩;rw [H3.out];go_wp2;go_ret;exact⟨Base.ret_bool HO.out.symm,B1 _⟩
    ·have HO:Hid (okK ⟨h,r,f,s⟩=okW s):=by show _=okW s;simp [okK,H1.out,H2.out,H3.out,h4]
     have h4':((r == 0) == (f == 0))=true:=h4;clear h4;go_enter Tryz.func110,Tryz.ntmps110
     go_wp2_with fail
     refine(l1In3 _ _).mono ?_;rintro e w1 ⟨rfl,rfl⟩;rw [H1.out];go_wp2_with fail
     refine(l1In19 _ _).mono ?_;rintro e w1 ⟨rfl,rfl⟩;rw [H2.out];go_wp2_with fail
     refine(Base.specOk _ _).mono ?_;rintro e w1 ⟨rfl,rfl⟩;rw [H3.out];go_wp2_with fail
     refine(l2Word _ _ hs).mono ?_;rintro e w1 ⟨rfl,rfl⟩;go_wp2;go_ret;exact⟨Base.ret_bool HO.out.symm,B1 _⟩
end Kn
end
section
namespace Lc
open Kn (K okK)
open Bit (bit withB)
def k0:K:=⟨0,0,0,⟨#[]⟩⟩
def at'(L:List K)(i:Nat):K:=L.getD i k0
theorem at_take(L:List K)(m i:Nat)(h:i<m):at' (L.take m) i=at' L i:=by
 unfold at';simp [List.getD,h]
theorem at_mem(L:List K)(i:Nat)(h:i<L.length):at' L i∈L:=by
 unfold at';simp [List.getD,List.getElem?_eq_getElem h]
theorem at_get(L:List K)(i:Nat)(h:i<L.length):at' L i=L[i]:=by
 unfold at';simp [List.getD,List.getElem?_eq_getElem h]
theorem take_snoc(L:List K)(i:Nat)(h:i<L.length):L.take (i+1)=L.take i++[at' L i]:=by
 rw [at_get L i h,List.take_succ_eq_append_getElem h]
theorem at_left(L M:List K)(i:Nat)(h:i<L.length):at' (L++M) i=at' L i:=by
 unfold at';simp [List.getD,List.getElem?_append_left h]
theorem at_end(L:List K)(k:K):at' (L++[k]) L.length=k:=by
 unfold at';simp [List.getD]
def amongI(p:K→Bool)(L:List K)(s:Int):Nat→Int
 | 0=>0
 | n+1=>if bit s n&&p (at' L n) then withB (amongI p L s n) n else amongI p L s n
theorem among_bd(p:K→Bool)(L:List K)(s:Int)(n:Nat)(hn:n≤60):0≤amongI p L s n∧amongI p L s n<1152921504606846976:=by
 induction n with
 | zero=>simp [amongI]
 | succ n ih=>
  have:=ih (by omega);unfold amongI;split
  ·exact Bit.withB_bd _ this.1 this.2 n (by omega)
  ·exact this
theorem bit_zero(k:Nat):bit 0 k=false:=by simp [bit]
theorem bit_among(p:K→Bool)(L:List K)(s:Int)(n:Nat)(hn:n≤60)(i:Nat):bit (amongI p L s n) i=(decide (i<n)&&(bit s i&&p (at' L i))):=by
 induction n with
 | zero=>simp [amongI,bit_zero]
 | succ n ih=>
  have hb:=among_bd p L s n (by omega);have ih:=ih (by omega);unfold amongI;by_cases he:i=n
  ·subst he
   cases hc:bit s i&&p (at' L i)
   ·simp [ih]
   ·simp [Bit.bit_withB _ hb.1]
  ·have:decide (i<n+1)=decide (i<n):=decide_eq_decide.2 (by omega);split
   ·rw [Bit.bit_withB _ hb.1,ih,this];simp [he]
   ·rw [ih,this]
theorem eq_of_bits(a b:Int)(ha:0≤a)(hb:0≤b)(h:∀i,bit a i=bit b i):a=b:=by
 have:a.toNat=b.toNat:=by
  apply Nat.eq_of_testBit_eq;intro i;rw [← Bit.bit_testBit a ha,← Bit.bit_testBit b hb];exact h i
 omega
theorem bit_hi(s:Int)(n:Nat)(_h0:0≤s)(h:s / 2 ^ n=0)(i:Nat)(hi:n≤i):bit s i=false:=by
 have:=Bit.bit_up s n (i-n) h;rwa [show n+(i-n)=i by omega] at this
theorem div_of_bits(s:Int)(n:Nat)(h0:0≤s)(h:∀i,n≤i→bit s i=false):s / 2 ^ n=0:=by
 have hp:=Bit.pow_pos' n;have hd:0≤s / 2 ^ n:=Int.ediv_nonneg h0 (by omega);apply eq_of_bits _ 0 hd (by omega);intro i;rw [bit_zero];have:=h (n+i) (by omega);unfold bit at this ⊢;rwa [Int.ediv_ediv_of_nonneg (Int.le_of_lt hp),← Int.pow_add]
theorem among_same(p:K→Bool)(L:List K)(s:Int)(hL:L.length≤60)(h0:0≤s):amongI p L s L.length=s↔s / 2 ^ L.length=0∧∀i,i<L.length→bit s i=true→p (at' L i)=true:=by
 have hb:=among_bd p L s L.length hL;constructor
 ·intro h;have hbit:=fun i=>bit_among p L s L.length hL i
  rw [h] at hbit;refine⟨div_of_bits s _ h0 fun i hi=>?_,fun i hi hs=>?_⟩
  ·rw [hbit i];simp;omega
  ·have:=hbit i;rw [hs] at this;simp at this;exact this.2
 ·rintro⟨hd,hp⟩;apply eq_of_bits _ _ hb.1 h0;intro i;rw [bit_among p L s _ hL];by_cases hi:i<L.length
  ·cases hs:bit s i
   ·simp
   ·simp [hi,hp i hi hs]
  ·rw [bit_hi s _ h0 hd i (by omega)];simp
def roundS(L:List K)(s r:Int):Int:=amongI (fun k=>decide (k.round=r)) L s L.length
def hasHand(L:List K)(s h:Int):Bool:=(List.range L.length).any fun i=>bit s i&&decide ((at' L i).hand=h)
def handsN(L:List K)(s:Int):Int:=(if hasHand L s 0 then 1 else 0)+(if hasHand L s 1 then 1 else 0)+(if hasHand L s 2 then 1 else 0)+(if hasHand L s 3 then 1 else 0)
theorem handsN_bd(L:List K)(s:Int):0≤handsN L s∧handsN L s≤4:=by
 unfold handsN;constructor <;> (split <;> split <;> split <;> split <;> omega)
theorem hasHand_iff(L:List K)(s h:Int):hasHand L s h=true↔∃i,i<L.length∧bit s i=true∧(at' L i).hand=h:=by
 unfold hasHand;rw [List.any_eq_true];constructor
 ·rintro⟨i,hi,hx⟩;simp at hi hx;exact⟨i,hi,hx.1,hx.2⟩
 ·rintro⟨i,hi,h1,h2⟩;exact⟨i,by simpa using hi,by simp [h1,h2]⟩
def ALL:Int:=1152921504606846975
theorem bit_ALL(i:Nat)(hi:i<60):bit ALL i=true:=by
 have:∀i:Nat,i<60→bit ALL i=true:=by decide +kernel
 exact this i hi
def ofH(L:List K)(h:Int)(n:Nat):Int:=amongI (fun k=>decide (k.hand=h)) L ALL n
theorem ofH_bd(L:List K)(h:Int)(n:Nat)(hn:n≤60):0≤ofH L h n∧ofH L h n<1152921504606846976:=among_bd _ _ _ _ hn
theorem ofH_succ(L:List K)(h:Int)(n:Nat)(hn:n<60):ofH L h (n+1)=if (at' L n).hand=h then withB (ofH L h n) n else ofH L h n:=by
 unfold ofH;show(if bit ALL n&&decide ((at' L n).hand=h) then _ else _)=_;rw [bit_ALL n hn];simp
theorem i64_and(a b:Int)(h1:0≤a)(h2:a<9223372036854775808)(h3:0≤b)(h4:b<9223372036854775808):bits .and .i64 a b=((a.toNat &&& b.toNat:Nat):Int):=by
 obtain⟨A,rfl⟩:=Int.eq_ofNat_of_zero_le h1;obtain⟨B,rfl⟩:=Int.eq_ofNat_of_zero_le h3;have hx:A &&& B≤A:=Nat.and_le_left;show IntKind.i64.wrap ((BitVec.ofInt 64 (A:Int) &&& BitVec.ofInt 64 (B:Int)).toNat:Int)=_;have hA:A<18446744073709551616:=by omega
 have hB:B<18446744073709551616:=by omega
 rw [BitVec.toNat_and,ofInt_u64 A hA,ofInt_u64 B hB];simp [IntKind.wrap,IntKind.bits,IntKind.signed];omega
theorem and_zero_iff(a b:Int)(h1:0≤a)(h2:a<9223372036854775808)(h3:0≤b)(h4:b<9223372036854775808):bits .and .i64 a b≠0↔∃i,bit a i=true∧bit b i=true:=by
 rw [i64_and a b h1 h2 h3 h4];constructor
 ·intro h;apply Classical.byContradiction;intro hn;apply h;have:a.toNat &&& b.toNat=0:=by
   apply Nat.eq_of_testBit_eq;intro i;rw [Nat.testBit_and,Nat.zero_testBit]
   cases e1:a.toNat.testBit i
   ·rfl
   ·cases e2:b.toNat.testBit i
    ·rfl
    ·exact absurd ⟨i,by rw [Bit.bit_testBit a h1];exact e1,by rw [Bit.bit_testBit b h3];exact e2⟩ hn
  rw [this];rfl
 ·rintro⟨i,h5,h6⟩ h;rw [Bit.bit_testBit a h1] at h5;rw [Bit.bit_testBit b h3] at h6;have:(a.toNat &&& b.toNat).testBit i=true:=by rw [Nat.testBit_and,h5,h6];rfl
  have hz:a.toNat &&& b.toNat=0:=by omega
  rw [hz,Nat.zero_testBit] at this;exact Bool.noConfusion this
theorem of_and(L:List K)(h s:Int)(hL:L.length≤60)(h0:0≤s)(h1:s<9223372036854775808):(bits .and .i64 (ofH L h L.length) s != 0)=hasHand L s h:=by
 have hb:=ofH_bd L h L.length hL;rw [Bool.eq_iff_iff,bne_iff_ne,hasHand_iff,and_zero_iff _ _ hb.1 (by omega) h0 h1];constructor
 ·rintro⟨i,h2,h3⟩;unfold ofH at h2;rw [bit_among _ _ _ _ hL] at h2;simp at h2;exact⟨i,h2.1,h3,h2.2.2⟩
 ·rintro⟨i,h2,h3,h4⟩;refine⟨i,?_,h3⟩;unfold ofH;rw [bit_among _ _ _ _ hL,bit_ALL i (by omega)];simp [h2,h4]
def found(L:List K)(l:List Int):Int:=l.foldl (fun acc i=>withB acc (at' L i.toNat).hand.toNat) 0
theorem found_snoc(L:List K)(l:List Int)(i:Int):found L (l++[i])=withB (found L l) (at' L i.toNat).hand.toNat:=by
 unfold found;simp
def HandsOk(L:List K):Prop:=∀k∈L,0≤k.hand∧k.hand≤3
theorem found_bd(L:List K)(l:List Int)(hh:HandsOk L)(hl:∀i∈l,0≤i∧i<(L.length:Int)):0≤found L l∧found L l<16:=by
 have key:∀acc:Int,0≤acc→acc<16→0≤l.foldl (fun acc i=>withB acc (at' L i.toNat).hand.toNat) acc∧l.foldl (fun acc i=>withB acc (at' L i.toNat).hand.toNat) acc<16:=by
  induction l with
  | nil=>intro acc h1 h2;exact⟨h1,h2⟩
  | cons x l ih=>
   intro acc h1 h2;have hx:=hl x (by simp);have hk:=hh _ (at_mem L x.toNat (by omega));have hw:0≤withB acc (at' L x.toNat).hand.toNat∧withB acc (at' L x.toNat).hand.toNat<16:=by
    unfold Bit.withB;have hp:2 ^ (at' L x.toNat).hand.toNat<2 ^ 4:=Nat.pow_lt_pow_right (by decide) (by omega);have hx:acc.toNat ||| 2 ^ (at' L x.toNat).hand.toNat<2 ^ 4:=Nat.or_lt_two_pow (by omega) hp
    omega
   exact ih (fun i hi=>hl i (by simp [hi])) _ hw.1 hw.2
 exact key 0 (by omega) (by omega)
theorem bit_found(L:List K)(l:List Int)(h:Nat):bit (found L l) h=l.any (fun i=>decide ((at' L i.toNat).hand.toNat=h)):=by
 have key:∀acc:Int,0≤acc→bit (l.foldl (fun acc i=>withB acc (at' L i.toNat).hand.toNat) acc) h=(bit acc h || l.any (fun i=>decide ((at' L i.toNat).hand.toNat=h))):=by
  induction l with
  | nil=>intro acc _;simp
  | cons x l ih=>
   intro acc h1;rw [List.foldl_cons,ih _ (by unfold Bit.withB;omega),Bit.bit_withB _ h1,List.any_cons];have:decide (h=(at' L x.toNat).hand.toNat)=decide ((at' L x.toNat).hand.toNat=h):=decide_eq_decide.2 eq_comm;rw [this]
   cases bit acc h <;> cases decide ((at' L x.toNat).hand.toNat=h) <;> simp
 have:=key 0 (by omega);rw [bit_zero] at this;simpa [found] using this
theorem len4(s:Int)(h0:0≤s)(h1:s<16):((Bit.memTo s 60).length:Int)=(if bit s 0 then 1 else 0)+(if bit s 1 then 1 else 0)+(if bit s 2 then 1 else 0)+(if bit s 3 then 1 else 0):=by
 have h:s / 2 ^ 4=0:=by omega
 rw [show(60:Nat)=4+56 from rfl,Bit.memTo_up s 4 56 h];simp only [Bit.memTo,List.length_append,List.length_nil]
 cases bit s 0 <;> cases bit s 1 <;> cases bit s 2 <;> cases bit s 3 <;> rfl
theorem found_hands(L:List K)(s:Int)(hL:L.length≤60)(hh:HandsOk L)(h0:0≤s)(hd:s / 2 ^ L.length=0):((Bit.memTo (found L (Bit.memTo s 60)) 60).length:Int)=handsN L s:=by
 have hin:∀i∈Bit.memTo s 60,0≤i∧i<(L.length:Int):=by
  intro i hi;obtain⟨j,_,rfl,hj⟩:=(Bit.mem_memTo s 60 i).1 hi;refine⟨by omega,?_⟩;apply Classical.byContradiction;intro hc;rw [bit_hi s _ h0 hd j (by omega)] at hj;exact Bool.noConfusion hj
 have hb:=found_bd L _ hh hin;have hbit:∀h:Nat,bit (found L (Bit.memTo s 60)) h=hasHand L s (h:Int):=by
  intro h;rw [bit_found,Bool.eq_iff_iff,List.any_eq_true,hasHand_iff];constructor
  ·rintro⟨i,hi,hx⟩;have hb:=hin i hi;obtain⟨j,_,rfl,hj⟩:=(Bit.mem_memTo s 60 i).1 hi;have hk:=hh _ (at_mem L j (by omega));simp at hx;exact⟨j,by omega,hj,by omega⟩
  ·rintro⟨j,hj,h1,h2⟩;refine⟨(j:Int),(Bit.mem_memTo s 60 _).2 ⟨j,by omega,rfl,h1⟩,?_⟩;simp;omega
 rw [len4 _ hb.1 hb.2,hbit 0,hbit 1,hbit 2,hbit 3];rfl
def lesserB(L:List K)(f r:Int)(n:Nat):Bool:=(List.range n).all fun i=>!bit f i || decide ((at' L i).round<r)
theorem lesser_iff(L:List K)(f r:Int)(n:Nat):lesserB L f r n=true↔∀i,i<n→bit f i=true→(at' L i).round<r:=by
 unfold lesserB;rw [List.all_eq_true];constructor
 ·intro h i hi hb;have:=h i (by simpa using hi);rw [hb] at this;simpa using this
 ·intro h i hi;have hi':i<n:=by simpa using hi
  cases hb:bit f i
  ·rfl
  ·simpa using h i hi' hb
theorem lesser_take(L:List K)(f r:Int)(n m:Nat)(h:n≤m):lesserB (L.take m) f r n=lesserB L f r n:=by
 rw [Bool.eq_iff_iff,lesser_iff,lesser_iff];constructor
 ·intro h1 i hi hb;have:=h1 i hi hb;rwa [at_take L m i (by omega)] at this
 ·intro h1 i hi hb;rw [at_take L m i (by omega)];exact h1 i hi hb
def handsB(L:List K)(k:K):Bool:=decide (k.round=0) || decide (3≤handsN L (roundS L k.frm (k.round-1)))
def canB(L:List K)(k:K):Bool:=okK k&&(decide (k.frm / 2 ^ L.length=0)&&(lesserB L k.frm k.round L.length&&handsB L k))
def laceB(L:List K):Bool:=decide (L.length≤60)&&(List.range L.length).all fun i=>canB (L.take i) (at' L i)
theorem lace_iff(L:List K):laceB L=true↔L.length≤60∧∀i,i<L.length→canB (L.take i) (at' L i)=true:=by
 unfold laceB;simp
theorem lace_no{L:List K}(i:Nat)(hi:i<L.length)(h:canB (L.take i) (at' L i)=false):laceB L=false:=by
 cases hl:laceB L
 ·rfl
 ·rw [((lace_iff L).1 hl).2 i hi] at h;exact Bool.noConfusion h
theorem lace_long{L:List K}(h:60<L.length):laceB L=false:=by
 cases hl:laceB L
 ·rfl
 ·have:=((lace_iff L).1 hl).1;omega
theorem can_ok{L:List K}{k:K}(h:canB L k=true):okK k=true:=by
 unfold canB at h;rw [Bool.and_eq_true] at h;exact h.1
theorem ok_hand{k:K}(h:okK k=true):0≤k.hand∧k.hand≤3:=by
 simp [okK,Kn.in3] at h;exact h.1
theorem ok_frm{k:K}(h:okK k=true):0≤k.frm∧k.frm<1152921504606846976:=by
 simp [okK,Base.okB] at h;exact h.2.2.1
theorem ok_round{k:K}(h:okK k=true):0≤k.round∧k.round≤19:=by
 simp [okK,Kn.in19] at h;exact h.2.1
theorem ok_zero{k:K}(h:okK k=true)(hr:k.round=0):k.frm=0:=by
 have:Kn.both0 k.round k.frm=true:=by
  simp [okK] at h;exact h.2.2.2.1
 unfold Kn.both0 at this;rw [hr] at this;simpa using this
def UpTo(L:List K)(n:Nat):Prop:=∀i,i<n→canB (L.take i) (at' L i)=true
theorem upTo_hands{L:List K}{n:Nat}(h:UpTo L n):HandsOk (L.take n):=by
 intro k hk;obtain⟨i,hi,rfl⟩:=List.getElem_of_mem hk;have hi':i<n∧i<L.length:=by simp at hi;omega
 have:=ok_hand (can_ok (h i hi'.1));rw [at_get L i hi'.2] at this;simpa using this
theorem lace_upTo{L:List K}(h:laceB L=true):UpTo L L.length:=((lace_iff L).1 h).2
theorem lace_of_upTo{L:List K}(hl:L.length≤60)(h:UpTo L L.length):laceB L=true:=(lace_iff L).2 ⟨hl,h⟩
theorem lace_hands{L:List K}(h:laceB L=true):HandsOk L:=by
 have:=upTo_hands (lace_upTo h);rwa [List.take_length] at this
def bearsB(L:List K)(k:K):Bool:=decide (k.round=0) || (decide (amongI (fun x=>decide (x.round<k.round)) L k.frm L.length=k.frm)&&decide (3≤handsN L (roundS L k.frm (k.round-1))))
theorem takes_can(L:List K)(k:K)(hL:L.length≤60):(okK k&&bearsB L k)=canB L k:=by
 unfold canB
 cases ho:okK k
 ·rfl
 ·have hf:=ok_frm ho;rw [Bool.true_and,Bool.true_and];by_cases hr:k.round=0
  ·have hz:=ok_zero ho hr;have h1:lesserB L k.frm k.round L.length=true:=(lesser_iff _ _ _ _).2 fun i _ hb=>by rw [hz,bit_zero] at hb;exact Bool.noConfusion hb
   rw [h1];unfold bearsB handsB;rw [hz];simp [hr]
  ·unfold bearsB handsB;rw [Bool.eq_iff_iff];have hs:=among_same (fun x=>decide (x.round<k.round)) L k.frm hL hf.1;have hl:=lesser_iff L k.frm k.round L.length;simp only [hr,decide_false,Bool.false_or,Bool.and_eq_true,decide_eq_true_eq];rw [hs,hl];simp only [decide_eq_true_eq];exact⟨fun h=>⟨h.1.1,h.1.2,h.2⟩,fun h=>⟨⟨h.1,h.2.1⟩,h.2.2⟩⟩
end Lc
end
section
namespace Sg
open Kn (K okK)
open Bit (bit)
open Lc (at')
def orB(a b:Int):Int:=((a.toNat ||| b.toNat:Nat):Int)
theorem orB_bd(a b:Int)(h0:0≤a)(h1:a<1152921504606846976)(h2:0≤b)(h3:b<1152921504606846976):0≤orB a b∧orB a b<1152921504606846976:=by
 have hx:a.toNat ||| b.toNat<2 ^ 60:=Nat.or_lt_two_pow (by omega) (by omega)
 unfold orB;omega
theorem or_eq(a b:Int)(h0:0≤a)(h1:a<1152921504606846976)(h2:0≤b)(h3:b<1152921504606846976):bits .or .i64 a b=orB a b:=Bit.i64_or a b h0 (by omega) h2 (by omega)
theorem bit_orB(a b:Int)(h0:0≤a)(h2:0≤b)(i:Nat):bit (orB a b) i=(bit a i || bit b i):=by
 rw [Bit.bit_testBit _ (by unfold orB;omega),Bit.bit_testBit a h0,Bit.bit_testBit b h2];unfold orB;rw [Int.toNat_natCast,Nat.testBit_or]
def accB(f:Int)(l:List Int)(i:Nat):Nat→Int
 | 0=>2 ^ i
 | k+1=>if bit f k then orB (accB f l i k) (l.getD k 0) else accB f l i k
def Within(l:List Int):Prop:=∀x∈l,0≤x∧x<1152921504606846976
theorem within_get{l:List Int}(h:Within l)(k:Nat):0≤l.getD k 0∧l.getD k 0<1152921504606846976:=by
 by_cases hk:k<l.length
 ·exact h _ (by simp [List.getD,List.getElem?_eq_getElem hk])
 ·simp [List.getD,List.getElem?_eq_none (Nat.le_of_not_lt hk)]
theorem accB_bd(f:Int)(l:List Int)(i k:Nat)(hi:i<60)(hl:Within l):0≤accB f l i k∧accB f l i k<1152921504606846976:=by
 induction k with
 | zero=>have:=Base.pow_bd i hi;exact⟨by unfold accB;omega,this.2⟩
 | succ k ih=>
  unfold accB;split
  ·have:=within_get hl k;exact orB_bd _ _ ih.1 ih.2 this.1 this.2
  ·exact ih
def belows(L:List K):Nat→List Int
 | 0=>[]
 | n+1=>belows L n++[accB (at' L n).frm (belows L n) n n]
theorem belows_len(L:List K)(n:Nat):(belows L n).length=n:=by
 induction n with
 | zero=>rfl
 | succ n ih=>unfold belows;simp [ih]
theorem belows_in(L:List K)(n:Nat)(hn:n≤60):Within (belows L n):=by
 induction n with
 | zero=>intro x hx;simp [belows] at hx
 | succ n ih=>
  have ih:=ih (by omega);intro x hx;unfold belows at hx;rw [List.mem_append] at hx;rcases hx with hx | hx
  ·exact ih x hx
  ·simp at hx;rw [hx];exact accB_bd _ _ _ _ (by omega) ih
def closedTo(l:List Int)(s:Int)(n:Nat):Bool:=(List.range n).all fun i=>!bit s i || (bits .andNot .i64 (l.getD i 0) s == 0)
theorem closed_step(l:List Int)(s:Int)(n:Nat):closedTo l s (n+1)=(closedTo l s n&&(!bit s n || (bits .andNot .i64 (l.getD n 0) s == 0))):=by
 unfold closedTo;rw [List.range_succ];simp
theorem closed_no(l:List Int)(s:Int)(n m:Nat)(h:n<m)(hb:bit s n=true)(hq:(bits .andNot .i64 (l.getD n 0) s == 0)=false):closedTo l s m=false:=by
 unfold closedTo;rw [List.all_eq_false];exact⟨n,by simpa using h,by rw [hb,hq];decide⟩
def tipsTo(l:List Int)(s:Int):Nat→Int
 | 0=>s
 | n+1=>if bit s n then bits .andNot .i64 (tipsTo l s n) (bits .andNot .i64 (l.getD n 0) (2 ^ n)) else tipsTo l s n
def FrmOk(L:List K):Prop:=∀k∈L,0≤k.frm∧k.frm<1152921504606846976
theorem frm_lace{L:List K}(h:Lc.laceB L=true):FrmOk L:=by
 intro k hk;obtain⟨i,hi,rfl⟩:=List.getElem_of_mem hk;have:=Lc.ok_frm (Lc.can_ok (Lc.lace_upTo h i hi));rwa [Lc.at_get L i hi] at this
end Sg
end
end Go.Proofs.YtbkeldfbllhlbaaGreat
