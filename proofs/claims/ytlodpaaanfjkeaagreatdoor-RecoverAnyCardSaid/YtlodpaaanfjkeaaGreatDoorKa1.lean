/- Texts laid together: BmMath, PackMath, PackStep, PackPack, PackSplit, PackLives, PackSame, PackFields, BmMem, BmSmall, BmHas, BmPut, BmNext, BmRange. -/
import Derived.Lib.TrailingZeros
import Derived.Laws.BitsAllLaws
import Derived.Test.YtlodpaaanfjkeaaGreatDoorRows
import Derived.WalkKit
import Derived.ProofKit
import Derived.Maps.AppendAt
import Derived.MapKept
import Derived.Lib.Hide
import Derived.Deep.OwnRows
import Derived.Deep.QuietTactic
import Derived.BigQuiet
import Derived.OwnWalk
import Derived.Lib.OwnKind
import Derived.RegionTactic
import Derived.ChangeAlike
import Derived.Shelf.Spec.TrailingZeros
import Derived.Deep.RegionWith
set_option maxRecDepth 100000
set_option maxHeartbeats 2000000
namespace Go.Proofs.YtlodpaaanfjkeaaGreatDoor
section
namespace Bm
def bt (f:Nat→Bool) (s:Nat):Nat→Nat
 | 0=>0
 | n+1=>bt f s n+if f (s+n) then 2 ^ n else 0
def wd (f:Nat→Bool) (k:Nat):Nat:=bt f (64 * k) 64
theorem bt_lt (f:Nat→Bool) (s:Nat):∀ n,bt f s n < 2 ^ n
 | 0=>by simp[bt]
 | n+1=>by
   have:=bt_lt f s n
   rw[bt,Nat.pow_succ]
   split<;>omega
theorem bt_bit (f:Nat→Bool) (s i:Nat):∀ n,(bt f s n).testBit i=(decide (i < n) && f (s+i))
 | 0=>by simp[bt]
 | n+1=>by
   have ih:=bt_bit f s i n;have hl:=bt_lt f s n;rw[bt]
   cases hf:f (s+n) with
   | false=>
     simp only[Bool.false_eq_true,if_false,Nat.add_zero,ih];by_cases h:i=n
     · subst h;simp[hf]
     · have:decide (i < n+1)=decide (i < n):=by rw[decide_eq_decide];omega
       rw[this]
   | true=>
     simp only[if_true];rw[Nat.add_comm]
     rcases Nat.lt_trichotomy i n with h | h | h
     · rw[Nat.testBit_two_pow_add_gt h,ih]
       simp[h,Nat.lt_succ_of_lt h]
     · subst h
       rw[Nat.testBit_two_pow_add_eq,ih];simp[hf]
     · have:2 ^ n+bt f s n < 2 ^ i:=Nat.lt_of_lt_of_le (show 2 ^ n+bt f s n < 2 ^ (n+1) by rw[Nat.pow_succ];omega) (Nat.pow_le_pow_right (by omega) h)
       rw[Nat.testBit_lt_two_pow this]
       simp;omega
theorem wd_lt (f:Nat→Bool) (k:Nat):wd f k < 18446744073709551616:=bt_lt f (64 * k) 64
theorem wd_bit (f:Nat→Bool) (k i:Nat):(wd f k).testBit i=(decide (i < 64) && f (64 * k+i)):=bt_bit f (64 * k) i 64
theorem is_wd {f:Nat→Bool} {k x:Nat} (h:∀ i,x.testBit i=(decide (i < 64) && f (64 * k+i))):x=wd f k:=by
 apply Nat.eq_of_testBit_eq;intro i;rw[h,wd_bit]
theorem wd_congr {f g:Nat→Bool} {k:Nat} (h:∀ i,i < 64→f (64 * k+i)=g (64 * k+i)):wd f k=wd g k:=by
 apply is_wd;intro i;rw[wd_bit];by_cases hi:i < 64
 · rw[h i hi]
 · simp[hi]
theorem wd_none (k:Nat):wd (fun _=>false) k=0:=by
 apply Nat.eq_of_testBit_eq;intro i;rw[wd_bit];simp
def upd (f:Nat→Bool) (b:Nat) (v:Bool) (x:Nat):Bool:=if x=b then v else f x
theorem top_bit (i:Nat):(18446744073709551615:Nat).testBit i=decide (i < 64):=Nat.testBit_two_pow_sub_one 64 i
theorem not_bit (x i:Nat) (h:x < 18446744073709551616):(18446744073709551615 - x).testBit i=(decide (i < 64) && !x.testBit i):=by
 have:18446744073709551615 - x=2 ^ 64 - (x+1):=by omega
 rw[this,Nat.testBit_two_pow_sub_succ h]
theorem pow_bit (j i:Nat):(2 ^ j).testBit i=decide (j=i):=Nat.testBit_two_pow
theorem pow_lt64 {j:Nat} (h:j < 64):2 ^ j < 18446744073709551616:=Nat.pow_lt_pow_right (a:=2) (m:=j) (n:=64) (by omega) h
theorem wd_or (f:Nat→Bool) (b:Nat):wd f (b / 64) ||| 2 ^ (b % 64)=wd (upd f b true) (b / 64):=by
 apply is_wd;intro i;rw[Nat.testBit_or,wd_bit,pow_bit];unfold upd;by_cases h:64 * (b / 64)+i=b
 · have e:b % 64=i:=by omega
   have e2:i < 64:=by omega
   simp[h,e,e2]
 · by_cases hi:i < 64
   · have e:¬ b % 64=i:=by omega
     simp[h,e]
   · have e:¬ b % 64=i:=by omega
     simp[e,hi]
theorem wd_upd_other (f:Nat→Bool) (b k:Nat) (v:Bool) (h:k≠b / 64):wd (upd f b v) k=wd f k:=by
 apply wd_congr;intro i hi;unfold upd;rw[if_neg (by omega)]
theorem wd_has (f:Nat→Bool) (b:Nat):wd f (b / 64) &&& 2 ^ (b % 64)=if f b then 2 ^ (b % 64) else 0:=by
 apply Nat.eq_of_testBit_eq;intro i;have e:64 * (b / 64)+b % 64=b:=by omega
 have e2:b % 64 < 64:=Nat.mod_lt _ (by omega);rw[Nat.testBit_and,wd_bit,pow_bit];by_cases h:b % 64=i
 · subst h
   rw[e]
   cases f b<;>simp[e2]
 · cases f b<;>simp[h]
def cnt (f:Nat→Bool):Nat→Nat
 | 0=>0
 | n+1=>cnt f n+if f n then 1 else 0
def pop (x:Nat):Nat→Nat
 | 0=>0
 | n+1=>pop x n+if x.testBit n then 1 else 0
theorem cnt_le (f:Nat→Bool):∀ n,cnt f n≤n
 | 0=>by simp[cnt]
 | n+1=>by have:=cnt_le f n;rw[cnt];split<;>omega
theorem cnt_congr {f g:Nat→Bool}:∀ {n:Nat},(∀ i,i < n→f i=g i)→cnt f n=cnt g n
 | 0,_=>rfl
 | n+1,h=>by rw[cnt,cnt,cnt_congr (fun i hi=>h i (by omega)),h n (by omega)]
theorem pop_wd (f:Nat→Bool) (k:Nat):∀ n,n≤64→cnt f (64 * k+n)=cnt f (64 * k)+pop (wd f k) n
 | 0,_=>rfl
 | n+1,h=>by
   have ih:=pop_wd f k n (by omega);rw[← Nat.add_assoc,cnt,ih,pop,wd_bit,Nat.add_assoc]
   have:n < 64:=by omega
   simp[this]
theorem cnt_word (f:Nat→Bool) (k:Nat):cnt f (64 * (k+1))=cnt f (64 * k)+pop (wd f k) 64:=by
 have:=pop_wd f k 64 (Nat.le_refl _)
 rwa [show 64 * (k+1)=64 * k+64 by omega]
theorem cnt_far {f:Nat→Bool} {n:Nat} (h:∀ b,n≤b→f b=false):∀ m,n≤m→cnt f m=cnt f n
 | 0,hm=>by obtain rfl:n=0:=by omega
            rfl
 | m+1,hm=>by
   by_cases e:n=m+1
   · rw[e]
   · rw[cnt,cnt_far h m (by omega),h m (by omega)]
     simp
theorem pop_le (x:Nat):∀ n,pop x n≤n
 | 0=>by simp[pop]
 | n+1=>by have:=pop_le x n;rw[pop];split<;>omega
def le:List Nat→Nat
 | []=>0
 | b :: l=>b+256 * le l
theorem and_cons (b m y z:Nat) (hb:b < 256) (hm:m < 256):(b+256 * y) &&& (m+256 * z)=(b &&& m)+256 * (y &&& z):=by
 have e:∀ a c:Nat,a < 256→a+256 * c=2 ^ 8 * c+a:=fun a c _=>by omega
 have hbm:b &&& m < 256:=Nat.and_lt_two_pow (n:=8) _ hm;rw[e b y hb,e m z hm,e _ _ hbm];apply Nat.eq_of_testBit_eq;intro i;rw[Nat.testBit_and,Nat.testBit_two_pow_mul_add _ (show b < 2 ^ 8 from hb),Nat.testBit_two_pow_mul_add _ (show m < 2 ^ 8 from hm),Nat.testBit_two_pow_mul_add _ (show b &&& m < 2 ^ 8 from hbm)]
 split
 · rw[Nat.testBit_and]
 · rw[Nat.testBit_and]
def msk (m:Nat):Nat→Nat
 | 0=>0
 | n+1=>m+256 * msk m n
def s1 (b:Nat):Nat:=(b / 2 &&& 85)+(b &&& 85)
def s2 (b:Nat):Nat:=(b / 4 &&& 51)+(b &&& 51)
theorem s1_low:∀ b,b < 256→∀ y,y < 2→(b / 2+128 * y) &&& 85=b / 2 &&& 85:=by decide +kernel
theorem s2_low:∀ b,b < 256→∀ y,y < 4→(b / 4+64 * y) &&& 51=b / 4 &&& 51:=by decide +kernel
theorem s1_all (l:List Nat) (h:∀ b∈l,b < 256):(le l / 2 &&& msk 85 l.length)+(le l &&& msk 85 l.length)=le (l.map s1):=by
 induction l with
 | nil=>rfl
 | cons b l ih=>
   have ih:=ih (fun x hx=>h x (List.mem_cons_of_mem _ hx));have hb:=h b (List.mem_cons_self ..);simp only[List.length_cons,List.map_cons,le,msk];have e:(b+256 * le l) / 2=(b / 2+128 * (le l % 2))+256 * (le l / 2):=by omega
   rw[e,and_cons _ _ _ _ (by omega) (by omega),and_cons _ _ _ _ hb (by omega),s1_low b hb _ (by omega),← ih];unfold s1;omega
theorem s2_all (l:List Nat) (h:∀ b∈l,b < 256):(le l / 4 &&& msk 51 l.length)+(le l &&& msk 51 l.length)=le (l.map s2):=by
 induction l with
 | nil=>rfl
 | cons b l ih=>
   have ih:=ih (fun x hx=>h x (List.mem_cons_of_mem _ hx));have hb:=h b (List.mem_cons_self ..);simp only[List.length_cons,List.map_cons,le,msk];have e:(b+256 * le l) / 4=(b / 4+64 * (le l % 4))+256 * (le l / 4):=by omega
   rw[e,and_cons _ _ _ _ (by omega) (by omega),and_cons _ _ _ _ hb (by omega),s2_low b hb _ (by omega),← ih];unfold s2;omega
def Nib (b:Nat):Prop:=b % 16≤4∧b / 16≤4
theorem le_low (l:List Nat) (h:∀ b∈l,Nib b):le l % 16≤4:=by
 cases l with
 | nil=>simp[le]
 | cons b l=>have:=(h b (List.mem_cons_self ..)).1;rw[le];omega
theorem s3_all (l:List Nat) (h:∀ b∈l,Nib b):(le l / 16+le l) &&& msk 15 l.length=le (l.map fun b=>b % 16+b / 16):=by
 induction l with
 | nil=>rfl
 | cons b l ih=>
   have hl:=fun x hx=>h x (List.mem_cons_of_mem _ hx)
   have ih:=ih hl;have hb:=h b (List.mem_cons_self ..);have hlow:=le_low l hl;simp only[List.length_cons,List.map_cons,le,msk]
   obtain⟨h1,h2⟩:=hb
   have e:(b+256 * le l) / 16+(b+256 * le l)=(b / 16+b+16 * (le l % 16))+256 * (le l / 16+le l):=by omega
   rw[e,and_cons _ _ _ _ (by omega) (by omega),ih]
   have e2:(b / 16+b+16 * (le l % 16)) &&& 15=b % 16+b / 16:=by
    rw[show (15:Nat)=2 ^ 4 - 1 from rfl,Nat.and_two_pow_sub_one_eq_mod];omega
   rw[e2]
theorem tb (b y:Nat) (hb:b < 256) (i:Nat):(b+256 * y).testBit i=if i < 8 then b.testBit i else y.testBit (i - 8):=by
 rw[show b+256 * y=2 ^ 8 * y+b by omega,Nat.testBit_two_pow_mul_add _ (show b < 2 ^ 8 from hb)]
theorem pop_low (b y:Nat) (hb:b < 256):∀ n,n≤8→pop (b+256 * y) n=pop b n
 | 0,_=>rfl
 | n+1,h=>by
   rw[pop,pop,pop_low b y hb n (by omega),tb b y hb,if_pos (show n < 8 by omega)]
theorem pop_cons (b y:Nat) (hb:b < 256):∀ n,pop (b+256 * y) (n+8)=pop b 8+pop y n
 | 0=>by rw[Nat.zero_add,pop_low b y hb 8 (Nat.le_refl _)];rfl
 | n+1=>by
   have e:pop (b+256 * y) (n+1+8)=pop (b+256 * y) (n+8)+if (b+256 * y).testBit (n+8) then 1 else 0:=rfl
   have e2:pop y (n+1)=pop y n+if y.testBit n then 1 else 0:=rfl
   rw[e,e2,pop_cons b y hb n,tb b y hb,if_neg (show ¬ n+8 < 8 by omega),show n+8 - 8=n by omega];omega
theorem byte_all:∀ b,b < 256→s1 b < 256∧s2 (s1 b) % 16≤4∧s2 (s1 b) / 16≤4∧s2 (s1 b) % 16+s2 (s1 b) / 16=pop b 8∧pop b 8≤8:=by decide +kernel
theorem bytes_of (x:Nat) (h:x < 18446744073709551616):∃ b0 b1 b2 b3 b4 b5 b6 b7:Nat,(b0 < 256∧b1 < 256∧b2 < 256∧b3 < 256∧b4 < 256∧b5 < 256∧b6 < 256∧b7 < 256)∧x=le [b0,b1,b2,b3,b4,b5,b6,b7]:=by
 refine⟨x % 256,x / 256 % 256,x / 256 / 256 % 256,x / 256 / 256 / 256 % 256,x / 256 / 256 / 256 / 256 % 256,x / 256 / 256 / 256 / 256 / 256 % 256,x / 256 / 256 / 256 / 256 / 256 / 256 % 256,x / 256 / 256 / 256 / 256 / 256 / 256 / 256,by omega,?_⟩
 simp only[le];omega
theorem le8 (b0 b1 b2 b3 b4 b5 b6 b7:Nat) (h:b0 < 256∧b1 < 256∧b2 < 256∧b3 < 256∧b4 < 256∧b5 < 256∧b6 < 256∧b7 < 256):le [b0,b1,b2,b3,b4,b5,b6,b7] < 18446744073709551616:=by
 simp only[le];omega
theorem le8' (b0 b1 b2 b3 b4 b5 b6 b7:Nat) (h:b0 < 256∧b1 < 256∧b2 < 256∧b3 < 256∧b4 < 256∧b5 < 256∧b6 < 256∧b7 < 128):le [b0,b1,b2,b3,b4,b5,b6,b7] < 9223372036854775808:=by
 simp only[le];omega
def o1 (x:Nat):Nat:=(x / 2 &&& 6148914691236517205)+(x &&& 6148914691236517205)
def o2 (x:Nat):Nat:=(x / 4 &&& 3689348814741910323)+(x &&& 3689348814741910323)
def o3 (x:Nat):Nat:=(x / 16+x) &&& 1085102592571150095
theorem ones (x:Nat) (h:x < 18446744073709551616):o1 x < 18446744073709551616∧o2 (o1 x) < 18446744073709551616∧o2 (o1 x) / 16+o2 (o1 x) < 18446744073709551616 ∧
 ∃ e0 e1 e2 e3 e4 e5 e6 e7:Nat,(e0≤8∧e1≤8∧e2≤8∧e3≤8∧e4≤8∧e5≤8∧e6≤8∧e7≤8)∧o3 (o2 (o1 x))=le [e0,e1,e2,e3,e4,e5,e6,e7]∧e0+e1+e2+e3+e4+e5+e6+e7=pop x 64:=by
 obtain⟨b0,b1,b2,b3,b4,b5,b6,b7,⟨h0,h1,h2,h3,h4,h5,h6,h7⟩,rfl⟩:=bytes_of x h
 have a1:=s1_all [b0,b1,b2,b3,b4,b5,b6,b7] (by simp only[List.mem_cons,List.not_mem_nil,or_false];omega);have k0:=byte_all b0 h0;have k1:=byte_all b1 h1;have k2:=byte_all b2 h2;have k3:=byte_all b3 h3;have k4:=byte_all b4 h4;have k5:=byte_all b5 h5;have k6:=byte_all b6 h6;have k7:=byte_all b7 h7;have e1:o1 (le [b0,b1,b2,b3,b4,b5,b6,b7])=le [s1 b0,s1 b1,s1 b2,s1 b3,s1 b4,s1 b5,s1 b6,s1 b7]:=a1;have a2:=s2_all [s1 b0,s1 b1,s1 b2,s1 b3,s1 b4,s1 b5,s1 b6,s1 b7] (by simp only[List.mem_cons,List.not_mem_nil,or_false];omega);have e2:o2 (le [s1 b0,s1 b1,s1 b2,s1 b3,s1 b4,s1 b5,s1 b6,s1 b7])=le [s2 (s1 b0),s2 (s1 b1),s2 (s1 b2),s2 (s1 b3),s2 (s1 b4),s2 (s1 b5),s2 (s1 b6),s2 (s1 b7)]:=a2
 have a3:=s3_all [s2 (s1 b0),s2 (s1 b1),s2 (s1 b2),s2 (s1 b3),s2 (s1 b4),s2 (s1 b5),s2 (s1 b6),s2 (s1 b7)] (by
  simp only[List.mem_cons,List.not_mem_nil,or_false,Nib];rintro b (rfl | rfl | rfl | rfl | rfl | rfl | rfl | rfl)
  · exact⟨k0.2.1,k0.2.2.1⟩
  · exact⟨k1.2.1,k1.2.2.1⟩
  · exact⟨k2.2.1,k2.2.2.1⟩
  · exact⟨k3.2.1,k3.2.2.1⟩
  · exact⟨k4.2.1,k4.2.2.1⟩
  · exact⟨k5.2.1,k5.2.2.1⟩
  · exact⟨k6.2.1,k6.2.2.1⟩
  · exact⟨k7.2.1,k7.2.2.1⟩)
 have p0:=pop_cons b0 (le [b1,b2,b3,b4,b5,b6,b7]) h0 56;have p1:=pop_cons b1 (le [b2,b3,b4,b5,b6,b7]) h1 48;have p2:=pop_cons b2 (le [b3,b4,b5,b6,b7]) h2 40;have p3:=pop_cons b3 (le [b4,b5,b6,b7]) h3 32;have p4:=pop_cons b4 (le [b5,b6,b7]) h4 24;have p5:=pop_cons b5 (le [b6,b7]) h5 16;have p6:=pop_cons b6 (le [b7]) h6 8;have p7:=pop_cons b7 (le []) h7 0
 have hp:pop (le [b0,b1,b2,b3,b4,b5,b6,b7]) 64=pop b0 8+(pop b1 8+(pop b2 8+(pop b3 8+(pop b4 8+(pop b5 8+(pop b6 8+(pop b7 8+0))))))):=
  p0.trans (congrArg _ (p1.trans (congrArg _ (p2.trans (congrArg _ (p3.trans (congrArg _ (p4.trans (congrArg _ (p5.trans (congrArg _ (p6.trans (congrArg _ p7)))))))))))))
 have e3:o3 (le [s2 (s1 b0),s2 (s1 b1),s2 (s1 b2),s2 (s1 b3),s2 (s1 b4),s2 (s1 b5),s2 (s1 b6),s2 (s1 b7)])=le [pop b0 8,pop b1 8,pop b2 8,pop b3 8,pop b4 8,pop b5 8,pop b6 8,pop b7 8]:=by
  refine a3.trans ?_;simp only[List.map_cons,List.map_nil,k0.2.2.2.1,k1.2.2.2.1,k2.2.2.2.1,k3.2.2.2.1,k4.2.2.2.1,k5.2.2.2.1,k6.2.2.2.1,k7.2.2.2.1]
 rw[e1,e2,e3]
 refine⟨?_,?_,?_,pop b0 8,pop b1 8,pop b2 8,pop b3 8,pop b4 8,pop b5 8,pop b6 8,pop b7 8,⟨k0.2.2.2.2,k1.2.2.2.2,k2.2.2.2.2,k3.2.2.2.2,k4.2.2.2.2,k5.2.2.2.2,k6.2.2.2.2,k7.2.2.2.2⟩,rfl,?_⟩
 · exact le8 _ _ _ _ _ _ _ _ ⟨k0.1,k1.1,k2.1,k3.1,k4.1,k5.1,k6.1,k7.1⟩
 · clear a1 a2 a3 e1 e2 e3 hp p0 p1 p2 p3 p4 p5 p6 p7 h
   exact le8 _ _ _ _ _ _ _ _ (by omega)
 · have hh:=le8' (s2 (s1 b0)) (s2 (s1 b1)) (s2 (s1 b2)) (s2 (s1 b3)) (s2 (s1 b4)) (s2 (s1 b5)) (s2 (s1 b6)) (s2 (s1 b7)) (by
    clear a1 a2 a3 e1 e2 e3 hp p0 p1 p2 p3 p4 p5 p6 p7 h
    omega)
   clear a1 a2 a3 e1 e2 e3 hp p0 p1 p2 p3 p4 p5 p6 p7 h;generalize le [s2 (s1 b0),s2 (s1 b1),s2 (s1 b2),s2 (s1 b3),s2 (s1 b4),s2 (s1 b5),s2 (s1 b6),s2 (s1 b7)]=Z at *;omega
 · rw[hp];simp only[Nat.add_assoc,Nat.add_zero]
theorem div1 (a r:Nat) (ha:a < 256):(a+256 * r) / 256=r:=by omega
theorem div2 (a b r:Nat) (ha:a < 256) (hb:b < 256):(a+256 * (b+256 * r)) / 65536=r:=by omega
theorem div4 (a b c d r:Nat) (ha:a < 256) (hb:b < 256) (hc:c < 256) (hd:d < 256):(a+256 * (b+256 * (c+256 * (d+256 * r)))) / 4294967296=r:=by omega
theorem fold8 (e0 e1 e2 e3 e4 e5 e6 e7:Nat) (h:e0≤8∧e1≤8∧e2≤8∧e3≤8∧e4≤8∧e5≤8∧e6≤8∧e7≤8) :
 ∃ y z u:Nat,y=le [e0,e1,e2,e3,e4,e5,e6,e7]+le [e0,e1,e2,e3,e4,e5,e6,e7] / 256∧z=y+y / 65536∧u=z+z / 4294967296∧u < 9223372036854775808∧u % 128=e0+e1+e2+e3+e4+e5+e6+e7:=by
 refine⟨(e0+e1)+256 * ((e1+e2)+256 * ((e2+e3)+256 * ((e3+e4)+256 * ((e4+e5)+256 * ((e5+e6)+256 * ((e6+e7)+256 * ((e7)))))))),(e0+e1+e2+e3)+256 * ((e1+e2+e3+e4)+256 * ((e2+e3+e4+e5)+256 * ((e3+e4+e5+e6)+256 * ((e4+e5+e6+e7)+256 * ((e5+e6+e7)+256 * ((e6+e7)+256 * ((e7)))))))),(e0+e1+e2+e3+e4+e5+e6+e7)+256 * ((e1+e2+e3+e4+e5+e6+e7)+256 * ((e2+e3+e4+e5+e6+e7)+256 * ((e3+e4+e5+e6+e7)+256 * ((e4+e5+e6+e7)+256 * ((e5+e6+e7)+256 * ((e6+e7)+256 * ((e7)))))))),?_,?_,?_,?_,?_⟩
 · simp only[le]
   rw[div1 _ _ (by omega)];omega
 · rw[div2 _ _ _ (by omega) (by omega)]
   omega
 · rw[div4 _ _ _ _ _ (by omega) (by omega) (by omega) (by omega)]
   omega
 · omega
 · omega
def nxt (f:Nat→Bool) (u:Bool):Nat→Nat→Int
 | 0,_=>-1
 | k+1,b=>if f b=u then (b:Int) else nxt f u k (b+1)
def next (f:Nat→Bool) (u:Bool) (n s:Nat):Int:=nxt f u (n - s) s
def Nx (f:Nat→Bool) (u:Bool) (n s:Nat) (r:Int):Prop:=
 (r = -1∧∀ b,s≤b→b < n→f b≠u)∨∃ b:Nat,r=(b:Int)∧s≤b∧b < n∧f b=u∧∀ c,s≤c→c < b→f c≠u
theorem nxt_is (f:Nat→Bool) (u:Bool):∀ k s,Nx f u (s+k) s (nxt f u k s)
 | 0,s=>.inl ⟨rfl,fun b h1 h2=>by omega⟩
 | k+1,s=>by
   rw[nxt];by_cases h:f s=u
   · rw[if_pos h]
     exact .inr ⟨s,rfl,Nat.le_refl _,by omega,h,fun c h1 h2=>by omega⟩
   · rw[if_neg h]
     rcases nxt_is f u k (s+1) with ⟨e,h2⟩ | ⟨b,e,h1,h2,h3,h4⟩
     · refine .inl ⟨e,fun b h3 h4=>?_⟩
       by_cases hb:b=s
       · subst hb;exact h
       · exact h2 b (by omega) (by omega)
     · refine .inr ⟨b,e,by omega,by omega,h3,fun c h5 h6=>?_⟩
       by_cases hb:c=s
       · subst hb;exact h
       · exact h4 c (by omega) h6
theorem next_is (f:Nat→Bool) (u:Bool) (n s:Nat):Nx f u n s (next f u n s):=by
 by_cases h:s≤n
 · have:=nxt_is f u (n - s) s
   rwa [show s+(n - s)=n by omega] at this
 · unfold next
   rw[show n - s=0 by omega];exact .inl ⟨rfl,fun b h1 h2=>by omega⟩
theorem Nx.eq {f:Nat→Bool} {u:Bool} {n s:Nat} {r r':Int} (h:Nx f u n s r) (h':Nx f u n s r'):r=r':=by
 rcases h with ⟨e,h⟩ | ⟨b,e,h1,h2,h3,h4⟩<;>rcases h' with ⟨e',g⟩ | ⟨c,e',g1,g2,g3,g4⟩
 · rw[e,e']
 · exact absurd g3 (h c g1 g2)
 · exact absurd h3 (g b h1 h2)
 · rcases Nat.lt_trichotomy b c with hl | hl | hl
   · exact absurd h3 (g4 b h1 hl)
   · rw[e,e',hl]
   · exact absurd g3 (h4 c g1 hl)
theorem Nx.next {f:Nat→Bool} {u:Bool} {n s:Nat} {r:Int} (h:Nx f u n s r):r=next f u n s:=h.eq (next_is f u n s)
theorem next_lt (f:Nat→Bool) (u:Bool) (n s:Nat):-1≤next f u n s∧next f u n s < n∨next f u n s = -1:=by
 rcases next_is f u n s with ⟨e,_⟩ | ⟨b,e,h1,h2,_⟩
 · exact .inr e
 · exact .inl (by omega)
theorem ctz_bit (x:Nat) (h0:x≠0) (h:x < 18446744073709551616):x.testBit (Lib.ctz 64 x)=true∧(∀ j,j < Lib.ctz 64 x→x.testBit j=false)∧Lib.ctz 64 x < 64:=by
 obtain⟨m,hm,hk⟩:=Lib.ctzFrom_spec 64 x (by omega) h
 have e:Lib.ctz 64 x=Lib.ctzFrom 64 x:=by simp[Lib.ctz,h0]
 rw[e];generalize Lib.ctzFrom 64 x=c at *;subst hm
 refine⟨?_,fun j hj=>?_,hk⟩
 · rw[Nat.mul_comm,Nat.testBit_mul_two_pow]
   simp[Nat.testBit_zero]
 · rw[Nat.mul_comm,Nat.testBit_mul_two_pow]
   simp;omega
def fro (f:Nat→Bool) (u:Bool) (s:Nat) (b:Nat):Bool:=(f b == u) && decide (s≤b)
theorem wd_fro (f:Nat→Bool) (u:Bool) (s k:Nat) (h:s - 64 * k < 64):wd (fun b=>f b == u) k &&& (18446744073709551615 - (2 ^ (s - 64 * k) - 1))=wd (fro f u s) k:=by
 apply is_wd;intro i;have hl:2 ^ (s - 64 * k) - 1 < 18446744073709551616:=by have:=pow_lt64 h;omega
 rw[Nat.testBit_and,wd_bit,not_bit _ _ hl,Nat.testBit_two_pow_sub_one];unfold fro;by_cases hi:i < 64
 · have:(!decide (i < s - 64 * k))=decide (s≤64 * k+i):=by
    rw[← decide_not,decide_eq_decide];omega
   simp[hi,this]
 · simp[hi]
theorem wd_used (f:Nat→Bool) (k:Nat):wd (fun b=>f b == true) k=wd f k:=wd_congr (fun i _=>by simp)
theorem wd_free (f:Nat→Bool) (k:Nat):18446744073709551615 - wd f k=wd (fun b=>f b == false) k:=by
 apply is_wd;intro i;rw[not_bit _ _ (wd_lt f k),wd_bit];by_cases hi:i < 64<;>simp[hi]
theorem fro_none {f:Nat→Bool} {u:Bool} {s k:Nat} (h:wd (fro f u s) k=0) (b:Nat) (h1:64 * k≤b) (h2:b < 64 * (k+1)) (h3:s≤b):f b≠u:=by
 have:=congrArg (fun x=>Nat.testBit x (b - 64 * k)) h
 simp only[wd_bit,Nat.zero_testBit] at this;rw[show 64 * k+(b - 64 * k)=b by omega] at this;unfold fro at this;have e:b - 64 * k < 64:=by omega
 simpa [e,h3] using this
theorem fro_some {f:Nat→Bool} {u:Bool} {n s k:Nat} (hp:∀ b,s≤b→b < 64 * k→b < n→f b≠u) (h:wd (fro f u s) k≠0):Nx f u n s (if 64 * k+Lib.ctz 64 (wd (fro f u s) k) < n then ((64 * k+Lib.ctz 64 (wd (fro f u s) k):Nat):Int) else -1)∧Lib.ctz 64 (wd (fro f u s) k) < 64:=by
 obtain⟨h1,h2,h3⟩:=ctz_bit _ h (wd_lt _ _)
 refine⟨?_,h3⟩
 rw[wd_bit] at h1;generalize Lib.ctz 64 (wd (fro f u s) k)=c at *;simp only[h3,decide_true,Bool.true_and,fro,Bool.and_eq_true,beq_iff_eq,decide_eq_true_eq] at h1
 have hq:∀ b,s≤b→b < 64 * k+c→b < n→f b≠u:=by
  intro b g1 g2 g3;by_cases hb:b < 64 * k
  · exact hp b g1 hb g3
  · have:=h2 (b - 64 * k) (by omega)
    rw[wd_bit,show 64 * k+(b - 64 * k)=b by omega] at this;have e:b - 64 * k < 64:=by omega
    unfold fro at this
    simpa [e,g1] using this
 split
 · rename_i hlt
   exact .inr ⟨_,rfl,h1.2,hlt,h1.1,fun d g1 g2=>hq d g1 g2 (by omega)⟩
 · rename_i hlt
   exact .inl ⟨rfl,fun b g1 g2=>hq b g1 (by omega) g2⟩
end Bm
end
section
namespace Pack
def tot:Nat→List Int→Option Nat
 | a,[]=>some a
 | a,n :: l=>if 1≤n∧n≤64 - (a:Int) then tot (a+n.toNat) l else none
structure Fld where
 n:Int
 v:Nat
def pk:Nat→Nat→List Fld→Option (Nat × Nat)
 | x,a,[]=>some (x,a)
 | x,a,f :: l=>if (1≤f.n∧f.n≤64 - (a:Int))∧f.v < 2 ^ f.n.toNat then pk (x+f.v * 2 ^ a) (a+f.n.toNat) l else none
def sp:Nat→List Int→List Nat
 | _,[]=>[]
 | x,n :: l=>x % 2 ^ n.toNat :: sp (x / 2 ^ n.toNat) l
def rest:Nat→List Int→Nat
 | x,[]=>x
 | x,n :: l=>rest (x / 2 ^ n.toNat) l
theorem tot_append (l m:List Int):∀ a,tot a (l++m)=(tot a l).bind fun t=>tot t m:=by
 induction l with
 | nil=>intro a;rfl
 | cons n l ih=>
   intro a;simp only[List.cons_append,tot]
   split
   · exact ih _
   · rfl
theorem tot_le {l:List Int}:∀ {a t:Nat},a≤64→tot a l=some t→a+l.length≤t∧t≤64:=by
 induction l with
 | nil=>intro a t h e;simp only[tot,Option.some.injEq] at e;subst e;simpa using h
 | cons n l ih=>
   intro a t h e;simp only[tot] at e
   split at e
   · have:=ih (by omega) e
     simp only[List.length_cons];omega
   · cases e
theorem pk_append (l m:List Fld):∀ x a,pk x a (l++m)=(pk x a l).bind fun q=>pk q.1 q.2 m:=by
 induction l with
 | nil=>intro x a;rfl
 | cons f l ih=>
   intro x a;simp only[List.cons_append,pk]
   split
   · exact ih _ _
   · rfl
theorem sp_append (l m:List Int):∀ x,sp x (l++m)=sp x l++sp (rest x l) m:=by
 induction l with
 | nil=>intro x;rfl
 | cons n l ih=>intro x;simp only[List.cons_append,sp,rest,ih]
theorem rest_append (l m:List Int):∀ x,rest x (l++m)=rest (rest x l) m:=by
 induction l with
 | nil=>intro x;rfl
 | cons n l ih=>intro x;simp only[List.cons_append,rest,ih]
theorem sp_len (l:List Int):∀ x,(sp x l).length=l.length:=by
 induction l with
 | nil=>intro x;rfl
 | cons n l ih=>intro x;simp only[sp,List.length_cons,ih]
theorem rest_le (l:List Int):∀ x,rest x l≤x:=by
 induction l with
 | nil=>intro x;exact Nat.le_refl _
 | cons n l ih=>intro x;exact Nat.le_trans (ih _) (Nat.div_le_self _ _)
theorem sp_le (l:List Int):∀ x,∀ y∈sp x l,y≤x:=by
 induction l with
 | nil=>intro x y h;cases h
 | cons n l ih=>
   intro x y h
   rcases List.mem_cons.1 h with rfl | h
   · exact Nat.mod_le _ _
   · exact Nat.le_trans (ih _ y h) (Nat.div_le_self _ _)
theorem rest_tot {l:List Int}:∀ {a t x:Nat},tot a l=some t→a≤t∧rest x l=x / 2 ^ (t - a):=by
 induction l with
 | nil=>intro a t x e;simp only[tot,Option.some.injEq] at e;subst e;simp[rest]
 | cons n l ih=>
   intro a t x e;simp only[tot] at e
   split at e
   · obtain⟨h1,h2⟩:=ih (x:=x / 2 ^ n.toNat) e
     refine⟨by omega,?_⟩
     rw[rest,h2,Nat.div_div_eq_div_mul,← Nat.pow_add]
     congr 2
     omega
   · cases e
theorem pk_split {l:List Fld}:∀ {y a x t:Nat},pk y a l=some (x,t)→tot a (l.map Fld.n)=some t∧a≤t∧∃ z,x=y+z * 2 ^ a∧z < 2 ^ (t - a)∧sp z (l.map Fld.n)=l.map Fld.v:=by
 induction l with
 | nil=>
   intro y a x t e;simp only[pk,Option.some.injEq,Prod.mk.injEq] at e
   obtain⟨rfl,rfl⟩:=e
   exact⟨rfl,Nat.le_refl _,0,by simp,Nat.two_pow_pos _,rfl⟩
 | cons f l ih=>
   intro y a x t e;simp only[pk] at e
   split at e
   · rename_i hc
     obtain⟨h1,h2,z,rfl,hz,hs⟩:=ih e
     have hp:0 < 2 ^ f.n.toNat:=Nat.two_pow_pos _
     refine⟨?_,by omega,f.v+z * 2 ^ f.n.toNat,?_,?_,?_⟩
     · simp only[List.map_cons,tot]
       rw[if_pos hc.1];exact h1
     · rw[Nat.add_mul,Nat.mul_assoc,← Nat.pow_add,Nat.add_comm f.n.toNat a,Nat.add_assoc]
     · have e2:t - a=(t - (a+f.n.toNat))+f.n.toNat:=by omega
       rw[e2,Nat.pow_add]
       calc f.v+z * 2 ^ f.n.toNat < 2 ^ f.n.toNat+z * 2 ^ f.n.toNat:=Nat.add_lt_add_right hc.2 _
        _=(z+1) * 2 ^ f.n.toNat:=by rw[Nat.add_mul,Nat.one_mul,Nat.add_comm]
        _≤2 ^ (t - (a+f.n.toNat)) * 2 ^ f.n.toNat:=Nat.mul_le_mul_right _ hz
     · simp only[List.map_cons,sp]
       rw[Nat.add_mul_mod_self_right,Nat.mod_eq_of_lt hc.2,Nat.add_mul_div_right _ _ hp,Nat.div_eq_of_lt hc.2,Nat.zero_add,hs]
   · cases e
theorem pk_lt {l:List Fld} {x t:Nat} (h:pk 0 0 l=some (x,t)):x < 2 ^ t∧t≤64:=by
 obtain⟨h1,_,z,rfl,hz,_⟩:=pk_split h
 have:=(tot_le (by omega) h1).2
 simp at hz ⊢
 exact⟨hz,this⟩
theorem pk_step {l:List Fld} {m:Nat} (h:m < l.length) {x t:Nat} (e:pk 0 0 (l.take m)=some (x,t)):pk 0 0 (l.take (m+1))=if (1≤l[m].n∧l[m].n≤64 - (t:Int))∧l[m].v < 2 ^ l[m].n.toNat then some (x+l[m].v * 2 ^ t,t+l[m].n.toNat) else none:=by
 rw[List.take_succ_eq_append_getElem h,pk_append,e];rfl
theorem pk_none {l:List Fld} {m:Nat} (e:pk 0 0 (l.take m)=none):pk 0 0 l=none:=by
 rw[← List.take_append_drop m l,pk_append,e];rfl
theorem tot_step {l:List Int} {m:Nat} (h:m < l.length) {t:Nat} (e:tot 0 (l.take m)=some t):tot 0 (l.take (m+1))=if 1≤l[m]∧l[m]≤64 - (t:Int) then some (t+l[m].toNat) else none:=by
 rw[List.take_succ_eq_append_getElem h,tot_append,e];rfl
theorem tot_none {l:List Int} {m:Nat} (e:tot 0 (l.take m)=none):tot 0 l=none:=by
 rw[← List.take_append_drop m l,tot_append,e];rfl
theorem tot_take {l:List Int} {t:Nat} (e:tot 0 l=some t) (m:Nat):∃ s,tot 0 (l.take m)=some s∧s≤t:=by
 rw[← List.take_append_drop m l,tot_append] at e
 cases h:tot 0 (l.take m) with
 | none=>rw[h] at e;cases e
 | some s=>rw[h] at e;exact⟨s,rfl,(rest_tot (x:=0) e).1⟩
theorem sp_step {l:List Int} {m:Nat} (h:m < l.length) (x:Nat):sp x (l.take (m+1))=sp x (l.take m)++[rest x (l.take m) % 2 ^ l[m].toNat]:=by
 rw[List.take_succ_eq_append_getElem h,sp_append];rfl
theorem rest_step {l:List Int} {m:Nat} (h:m < l.length) (x:Nat):rest x (l.take (m+1))=rest x (l.take m) / 2 ^ l[m].toNat:=by
 rw[List.take_succ_eq_append_getElem h,rest_append];rfl
def split (x:Nat) (l:List Int):Option (List Nat):=
 match tot 0 l with
 | none=>none
 | some t=>if x / 2 ^ t=0 then some (sp x l) else none
end Pack
end
section
open Lib (hid)
open Go.RowKit Go.MapKept
namespace Pack
theorem fits_any (w:World) (n:Int) (t:Nat) (h1:-9223372036854775808≤n) (h2:n≤9223372036854775807) (ht:t≤64) :
 Calls Tryz.prog 184 #[.int .i64 n,.int .i64 (t:Int)] w fun e w'=>e = .returned (.bool (decide (1≤n∧n≤64 - (t:Int))))∧w=w':=by
 go_enter Tryz.func184,Tryz.ntmps184
 go_wp2
 · rename_i h
   go_ret
   exact⟨by simp[h],rfl⟩
 · rename_i h
   go_ret
   refine⟨?_,rfl⟩
   have:¬ 1≤n:=by omega
   simp[this]
theorem mask_low (x n:Nat) (hx:x < 18446744073709551616) (hn:n≤64):bits .andNot .u64 (x:Int) (IntKind.wrap .u64 (18446744073709551615 * 2 ^ n))=((x % 2 ^ n:Nat):Int):=by
 have hp:0 < 2 ^ n:=Nat.two_pow_pos _;have hq:2 ^ n≤18446744073709551616:=Nat.pow_le_pow_right (n:=2) (by omega) hn
 have h1:IntKind.wrap .u64 (18446744073709551615 * 2 ^ n)=((18446744073709551616 - 2 ^ n:Nat):Int):=by
  have e:(18446744073709551615 * 2 ^ n:Int)=((18446744073709551615 * 2 ^ n:Nat):Int):=by simp
  rw[e,IntKind.wrap_u64];generalize 2 ^ n=q at *;omega
 rw[h1,u64_andNot_nat _ _ hx (by omega)];have e:18446744073709551615 - (18446744073709551616 - 2 ^ n)=2 ^ n - 1:=by omega
 rw[e,Nat.and_two_pow_sub_one_eq_mod]
theorem lowest_any (w:World) (x n:Nat) (hx:x < 18446744073709551616) (hn:n≤64) :
 Calls Tryz.prog 119 #[.int .u64 (x:Int),.int .i64 (n:Int)] w fun e w'=>e = .returned (.int .u64 ((x % 2 ^ n:Nat):Int))∧w=w':=by
 have HE:=hid (mask_low x n hx hn);go_enter Tryz.func119,Tryz.ntmps119
 go_wp2
 go_ret
 exact⟨by rw[HE.out];rfl,rfl⟩
structure Nts (w:World) (A:Option Addr) (l:List Int):Prop where
 i64:∀ n∈l,-9223372036854775808≤n∧n≤9223372036854775807
 len:l.length≤9223372036854775807
 at':∀ j (h:j < l.length),∃ b o,A=some ⟨b,o,none⟩∧b < w.heap.size∧w.cell? ⟨b,o+j,none⟩=some (.int .i64 l[j])
theorem Nts.keep {w w':World} {A:Option Addr} {l:List Int} (h:Nts w A l) (hb:Below w.heap.size w w'):Nts w' A l:=
 ⟨h.i64,h.len,fun j hj=>by
   obtain⟨b,o,e,hlt,hc⟩:=h.at' j hj
   exact⟨b,o,e,Nat.lt_of_lt_of_le hlt hb.size,(hb.cell (p:=⟨b,o+j,none⟩) hlt).trans hc⟩⟩
section
variable {w : World}
theorem total_any (A:Option Addr) (c:Nat) (l:List Int) (h:Nts w A l) :
 Calls Tryz.prog 118 #[.slice A l.length c] w fun e w'=>e = .returned (.tuple #[.int .i64 ((tot 0 l).getD 0:Nat),.bool (tot 0 l).isSome])∧w=w':=by
 have hn:=h.len;have H:=hid h;clear h;have HF:=hid (fun n t h1 h2 ht=>fits_any w n t h1 h2 ht);go_enter Tryz.func118,Tryz.ntmps118
 go_wp2
 go_loopw [4,9] (fun s i wr=>∃ (m t:Nat),m≤l.length∧i = .int .i64 (m:Int)∧s = .int .i64 (t:Int)∧tot 0 (l.take m)=some t∧w=wr) (fun _ i _=>l.length - (intOf i).toNat)
 case atStart=>exact⟨0,0,Nat.zero_le _,rfl,rfl,rfl,rfl⟩
 case round=>
  obtain⟨m,t,hm,rfl,rfl,ht,rfl⟩:=hrel
  have htl:=(tot_le (by omega) ht).2;by_cases hlt:m < l.length
  · obtain⟨b,o,rfl,hb,hcell⟩:=H.out.at' m hlt
    have hx:=H.out.i64 _ (List.getElem_mem hlt);have HS:=hid (tot_step hlt ht);generalize l[m]=n at *;clear ht;have HN:=hid (HF.out n t hx.1 hx.2 htl);go_wp2_with fail
    refine HN.out.mono ?_;rintro e w' ⟨rfl,rfl⟩;by_cases hc:1≤n∧n≤64 - (t:Int)
    · have hs:=HS.out
      rw[if_pos hc] at hs;have HS2:=hid hs;clear hs;rw[decide_eq_true hc]
      obtain⟨q,rfl⟩:=Int.eq_ofNat_of_zero_le (show 0≤n by omega)
      go_wp2
      refine⟨⟨m+1,t+q,by omega,by go_num,by go_num,?_,trivial⟩,by simp[intOf];omega⟩
      simpa using HS2.out
    · have hs:=HS.out
      rw[if_neg hc] at hs;have HS2:=hid (tot_none hs);clear hs;rw[decide_eq_false hc];go_wp2
      go_ret2
      exact⟨by rw[HS2.out];rfl,rfl⟩
  · obtain rfl:m=l.length:=by omega
    rw[List.take_length] at ht;have HT:=hid ht;clear ht;go_wp2
    go_ret2
    exact⟨by rw[HT.out];rfl,rfl⟩
end
end Pack
end
section
open Lib (hid)
open Go.RowKit Go.MapKept
namespace Pack
structure Fds (w:World) (A:Option Addr) (l:List Fld):Prop where
 i64:∀ f∈l,-9223372036854775808≤f.n∧f.n≤9223372036854775807∧f.v < 18446744073709551616
 len:l.length≤9223372036854775807
 at':∀ j (h:j < l.length),∃ b o,A=some ⟨b,o,none⟩∧b < w.heap.size∧w.cell? ⟨b,o+j * 2,none⟩=some (.int .i64 l[j].n)∧w.cell? ⟨b,o+j * 2+1,none⟩=some (.int .u64 (l[j].v:Int))
theorem or_field (x v t q:Nat) (hx:x < 2 ^ t) (hv:v < 2 ^ q) (ht:t+q≤64):bits .or .u64 (x:Int) (IntKind.wrap .u64 ((v:Int) * 2 ^ t))=((x+v * 2 ^ t:Nat):Int):=by
 have hp:0 < 2 ^ t:=Nat.two_pow_pos _
 have hb:v * 2 ^ t < 18446744073709551616:=by
  have h1:v * 2 ^ t < 2 ^ q * 2 ^ t:=Nat.mul_lt_mul_of_pos_right hv hp;rw[← Nat.pow_add] at h1;exact Nat.lt_of_lt_of_le h1 (Nat.pow_le_pow_right (n:=2) (j:=64) (by omega) (by omega))
 have hxl:x < 18446744073709551616:=Nat.lt_of_lt_of_le hx (Nat.pow_le_pow_right (n:=2) (j:=64) (by omega) (by omega));have e:(v:Int) * 2 ^ t=((v * 2 ^ t:Nat):Int):=by simp
 have e2:IntKind.wrap .u64 ((v * 2 ^ t:Nat):Int)=((v * 2 ^ t:Nat):Int):=by rw[IntKind.wrap_u64];omega
 rw[e,e2,u64_or_nat _ _ hxl hb];have h3:=Nat.shiftLeft_add_eq_or_of_lt hx v;rw[Nat.shiftLeft_eq] at h3;rw[Nat.or_comm,← h3,Nat.add_comm]
section
variable {w : World}
theorem pack_any (A:Option Addr) (c:Nat) (l:List Fld) (h:Fds w A l) :
 Calls Tryz.prog 121 #[.slice A l.length c] w fun e w'=>e = .returned (.tuple #[.int .u64 (((pk 0 0 l).map Prod.fst).getD 0:Nat),.bool (pk 0 0 l).isSome])∧Below w.heap.size w w':=by
 have hn:=h.len;have H:=hid h;clear h;have HF:=hid (fun w n t h1 h2 ht=>fits_any w n t h1 h2 ht);go_enter Tryz.func121,Tryz.ntmps121
 go_wp2
 go_loopw [4,5,10] (fun s a i wr=>∃ (m x t:Nat),m≤l.length∧i = .int .i64 (m:Int)∧s = .int .u64 (x:Int)∧a = .int .i64 (t:Int)∧pk 0 0 (l.take m)=some (x,t)∧Below w.heap.size w wr) (fun _ _ i _=>l.length - (intOf i).toNat)
 case atStart=>exact⟨0,0,0,Nat.zero_le _,rfl,rfl,rfl,rfl,Below.refl _ _⟩
 case round=>
  obtain⟨m,x,t,hm,rfl,rfl,rfl,ht,hbel⟩:=hrel
  have hxt:=pk_lt ht;by_cases hlt:m < l.length
  · obtain⟨b,o,rfl,hb,hcell0,hcell1⟩:=H.out.at' m hlt
    have hx:=H.out.i64 _ (List.getElem_mem hlt);have HS:=hid (pk_step hlt ht);have hcell0:=(hbel.cell (p:=⟨b,o+m * 2,none⟩) hb).trans hcell0;have hcell1:=(hbel.cell (p:=⟨b,o+m * 2+1,none⟩) hb).trans hcell1;generalize l[m]=f at *
    obtain⟨n,v⟩:=f
    simp only at hx hcell0 hcell1 HS;clear ht;go_wp2_with fail
    refine (HF.out _ n t hx.1 hx.2.1 hxt.2).mono ?_;rintro e w' ⟨rfl,rfl⟩;have hbel2:=hbel.alloc hbel.size (.cells #[Value.int .i64 n,Value.int .u64 (v:Int)] 208);have HB:=hid hbel2;clear hbel2;by_cases hc:1≤n∧n≤64 - (t:Int)
    · obtain⟨q,rfl⟩:=Int.eq_ofNat_of_zero_le (show 0≤n by omega)
      rw[decide_eq_true hc];by_cases hv:v < 2 ^ q
      · have hs:=HS.out
        rw[if_pos ⟨hc,by simpa using hv⟩] at hs;have HS2:=hid hs;clear hs
        have hd:(v:Int) / 2 ^ q=0:=by
         have:(v:Int) / 2 ^ q=((v / 2 ^ q:Nat):Int):=by simp
         rw[this,Nat.div_eq_of_lt hv];rfl
        have ho:=or_field x v t q hxt.1 hv (by omega);go_wp2
        refine⟨⟨m+1,x+v * 2 ^ t,t+q,by omega,by go_num,by simp,by go_num,?_,HB.out⟩,by simp[intOf];omega⟩
        simpa using HS2.out
      · have hs:=HS.out
        rw[if_neg (fun h=>hv (by simpa using h.2))] at hs;have HS2:=hid (pk_none hs);clear hs;have hp:0 < 2 ^ q:=Nat.two_pow_pos _;have hd:(v:Int) / 2 ^ q=((v / 2 ^ q:Nat):Int):=by simp
        have hd0:0 < v / 2 ^ q:=Nat.div_pos (by omega) hp;generalize v / 2 ^ q=d at *;go_wp2
        go_ret2
        exact⟨by rw[HS2.out];rfl,HB.out⟩
    · have hs:=HS.out
      rw[if_neg (fun h=>hc h.1)] at hs;have HS2:=hid (pk_none hs);clear hs;rw[decide_eq_false hc];go_wp2
      go_ret2
      exact⟨by rw[HS2.out];rfl,HB.out⟩
  · obtain rfl:m=l.length:=by omega
    rw[List.take_length] at ht;have HT:=hid ht;have HB:=hid hbel;clear ht hbel;go_wp2
    go_ret2
    exact⟨by rw[HT.out];rfl,HB.out⟩
end
end Pack
end
section
open Lib (hid)
open Go.RowKit Go.MapKept
namespace Pack
structure Wds (w:World) (A:Option Addr) (l:List Nat):Prop where
 u64:∀ x∈l,x < 18446744073709551616
 len:l.length≤9223372036854775807
 at':∀ j (h:j < l.length),∃ b o,A=some ⟨b,o,none⟩∧b < w.heap.size∧w.cell? ⟨b,o+j,none⟩=some (.int .u64 (l[j]:Int))
theorem Wds.keep {w w':World} {A:Option Addr} {l:List Nat} (h:Wds w A l) (hb:Below w.heap.size w w'):Wds w' A l:=
 ⟨h.u64,h.len,fun j hj=>by
   obtain⟨b,o,e,hlt,hc⟩:=h.at' j hj
   exact⟨b,o,e,Nat.lt_of_lt_of_le hlt hb.size,(hb.cell (p:=⟨b,o+j,none⟩) hlt).trans hc⟩⟩
theorem wds_nil (W:World) (A:Option Addr):Wds W A []:=⟨fun _ h=>by simp at h,by simp,fun j h=>by simp at h⟩
theorem u64_info:(Tryz.prog.info? 50).map (fun i=>(i.zero,i.size,i.bytes))=some (some (.int .u64 0),1,8):=by kernel_rfl
def upto (l:List Nat) (m i:Nat):Value:=.int .u64 ((if i < m then l[i]?.getD 0 else 0:Nat):Int)
theorem upto_step {l:List Nat} {m:Nat} (j:Nat):(if j=m then Value.int .u64 ((l[m]?.getD 0:Nat):Int) else upto l m j)=upto l (m+1) j:=by
 unfold upto;by_cases h:j=m
 · subst h
   rw[if_pos rfl,if_pos (by omega)]
 · rw[if_neg h]
   by_cases h2:j < m
   · rw[if_pos h2,if_pos (by omega)]
   · rw[if_neg h2,if_neg (by omega)]
theorem row_wds {W:World} {g n:Nat} {l:List Nat} (h:W.rowIs g 50 n (upto l n)) (hl:l.length=n) (hn:n≤9223372036854775807) (hu:∀ x∈l,x < 18446744073709551616):Wds W (some ⟨g,0,none⟩) l:=
 ⟨hu,by omega,fun j hj=>⟨g,0,rfl,h.lt,by
   rw[Nat.zero_add,h.cell (by omega)];unfold upto;rw[if_pos (by omega),List.getElem?_eq_getElem hj]
   rfl⟩⟩
theorem sp_get {l:List Int} {m:Nat} (h:m < l.length) (x:Nat):(sp x l)[m]?.getD 0=rest x (l.take m) % 2 ^ l[m].toNat:=by
 have e:sp x l=sp x (l.take (m+1))++sp (rest x (l.take (m+1))) (l.drop (m+1)):=by rw[← sp_append,List.take_append_drop]
 rw[e,sp_step h,List.append_assoc,List.getElem?_append_right (by rw[sp_len,List.length_take];omega),sp_len,List.length_take,Nat.min_eq_left (by omega),Nat.sub_self];rfl
section
variable {w : World}
theorem split_any (x:Nat) (hx:x < 18446744073709551616) (A:Option Addr) (c:Nat) (l:List Int) (h:Nts w A l) :
 Calls Tryz.prog 65 #[.int .u64 (x:Int),.slice A l.length c] w fun e w'=>∃ (G:Option Addr) (gc:Nat),e = .returned (.tuple #[.slice G ((split x l).getD []).length gc,.bool (split x l).isSome])∧Wds w' G ((split x l).getD [])∧Below w.heap.size w w':=by
 have hn:=h.len;have H:=hid h;clear h;go_enter Tryz.func65,Tryz.ntmps65
 go_wp2_with fail
 refine (total_any A c l H.out).mono ?_;rintro e w' ⟨rfl,rfl⟩;have HL:=hid (fun w x n hx hn=>lowest_any w x n hx hn)
 cases ht:tot 0 l with
 | none=>
   have HS:=hid (show split x l=none by simp[split,ht]);go_wp2
   go_ret2
   refine⟨none,0,?_,?_,Below.refl _ _⟩
   · rw[HS.out]
     rfl
   · rw[HS.out]
     exact wds_nil _ _
 | some t=>
   have htl:=tot_le (by omega) ht;by_cases h0:x / 2 ^ t=0
   · have HS:=hid (show split x l=some (sp x l) by simp[split,ht,h0])
     have HT:=hid (fun m=>tot_take ht m);have HT2:=hid ht;clear ht
     have hd:(x:Int) / 2 ^ t=0:=by
      have:(x:Int) / 2 ^ t=((x / 2 ^ t:Nat):Int):=by simp
      rw[this,h0];rfl
     have hmk:=run_make_row' (P:=Tryz.prog) 22 50 _ 8 Tryz.underlying22 u64_info rfl .i64 .i64 l.length (by omega) hn w;have hrow:(w.alloc (.cells (madeCells #[.int .u64 0] l.length) 50)).rowIs w.heap.size 50 l.length (upto (sp x l) 0):=(World.rowIs_made w (.int .u64 0) l.length 50).congr (fun i _=>by simp[upto]);have hbel:Below w.heap.size w (w.alloc (.cells (madeCells #[.int .u64 0] l.length) 50)):=(Below.refl _ _).alloc (Nat.le_refl _) _;have HR:=hid hrow;have HB:=hid hbel;generalize w.alloc (.cells (madeCells #[.int .u64 0] l.length) 50)=w1 at *;clear hrow hbel;simp only[Option.getD_some,Option.isSome_some];go_wp2
     go_loopw [0,29] (fun s i wr=>∃ (m:Nat),m≤l.length∧i = .int .i64 (m:Int)∧s = .int .u64 ((rest x (l.take m):Nat):Int)∧wr.rowIs w.heap.size 50 l.length (upto (sp x l) m)∧Below w.heap.size w wr) (fun _ i _=>l.length - (intOf i).toNat)
     case atStart=>exact⟨0,Nat.zero_le _,rfl,rfl,HR.out,HB.out⟩
     case round=>
      obtain⟨m,hm,rfl,rfl,hrow,hbel⟩:=hrel
      by_cases hlt:m < l.length
      · obtain⟨b,o,rfl,hb,hcell⟩:=H.out.at' m hlt
        have hcell:=(hbel.cell (p:=⟨b,o+m,none⟩) hb).trans hcell;have hi:=H.out.i64 _ (List.getElem_mem hlt);have HG:=hid (sp_get hlt x);have HX:=hid (rest_step hlt x);have hxr:rest x (l.take m) < 18446744073709551616:=Nat.lt_of_le_of_lt (rest_le _ _) hx
        obtain⟨s,hs1,hs2⟩:=HT.out m
        obtain⟨s',hs3,_⟩:=HT.out (m+1)
        rw[tot_step hlt hs1] at hs3
        have hf:1≤l[m]∧l[m]≤64:=by
         split at hs3
         · omega
         · cases hs3
        clear hs1 hs3;generalize l[m]=n at *
        obtain⟨q,rfl⟩:=Int.eq_ofNat_of_zero_le (show 0≤n by omega)
        simp only[Int.toNat_natCast] at HG HX;generalize rest x (l.take m)=y at *;have hc0:=hrow.cell hlt;have hf0:=hrow.frozen m;have HW:=hid hrow;have HBW:=hid hbel;clear hrow;have HLL:=hid (HL.out wr y q hxr (by omega));go_wp2_with fail
        refine HLL.out.mono ?_;rintro e w' ⟨rfl,rfl⟩;go_wp2
        refine⟨⟨m+1,by omega,by go_num,by rw[HX.out];simp,?_,HBW.out.setCell (p:=⟨w.heap.size,m,none⟩) (Nat.le_refl _) _⟩,by simp[intOf];omega⟩
        have hst:=HW.out.set m (.int .u64 ((y % 2 ^ q:Nat):Int));rw[← HG.out] at hst;have h2:=hst.congr (fun j _=>upto_step j);rw[HG.out] at h2
        simpa using h2
      · obtain rfl:m=l.length:=by omega
        have HW:=hid (row_wds hrow (sp_len _ _) hn (fun y hy=>Nat.lt_of_le_of_lt (sp_le _ _ y hy) hx));have HBW:=hid hbel;clear hrow hbel;go_wp2
        go_ret2
        refine⟨some ⟨w.heap.size,0,none⟩,l.length,?_,?_,HBW.out⟩
        · rw[HS.out]
          simp[sp_len]
        · rw[HS.out]
          exact HW.out
   · have HS:=hid (show split x l=none by simp[split,ht,h0])
     have hd:(x:Int) / 2 ^ t=((x / 2 ^ t:Nat):Int):=by simp
     clear ht;simp only[Option.getD_some,Option.isSome_some];generalize x / 2 ^ t=d at *;go_wp2
     go_ret2
     refine⟨none,0,?_,?_,Below.refl _ _⟩
     · rw[HS.out]
       rfl
     · rw[HS.out]
       exact wds_nil _ _
end
end Pack
end
section
open Lib (hid)
open Go.RowKit Go.MapKept
namespace Pack
theorem Wds.alloc {w:World} {A:Option Addr} {l:List Nat} (h:Wds w A l) (o:Obj):Wds (w.alloc o) A l:=h.keep ((Below.refl _ _).alloc (Nat.le_refl _) o)
theorem alloc_cell (w:World) (C:Array Value) (t:TypeId) (j:Nat):(w.alloc (.cells C t)).cell? ⟨w.heap.size,j,none⟩=C[j]?:=World.cell?_alloc_mark w C t _ j
theorem fds_two (w:World):Fds (w.alloc (.cells #[.int .i64 4,.int .u64 5,.int .i64 8,.int .u64 7] 208)) (some ⟨w.heap.size,0,none⟩) [⟨4,5⟩,⟨8,7⟩]:=
 ⟨fun f hf=>by
   rcases List.mem_cons.1 hf with rfl | hf
   · exact⟨by decide,by decide,by decide⟩
   · obtain rfl:f=⟨8,7⟩:=by simpa using hf
     exact⟨by decide,by decide,by decide⟩,by decide,fun j hj=>by
   have:j < 2:=hj
   match j,this with
   | 0,_=>exact⟨w.heap.size,0,rfl,by simp,alloc_cell _ _ _ _,alloc_cell _ _ _ _⟩
   | 1,_=>exact⟨w.heap.size,0,rfl,by simp,alloc_cell _ _ _ _,alloc_cell _ _ _ _⟩⟩
theorem nts_two (w:World):Nts (w.alloc (.cells #[.int .i64 4,.int .i64 8] 3)) (some ⟨w.heap.size,0,none⟩) [4,8]:=
 ⟨fun f hf=>by
   rcases List.mem_cons.1 hf with rfl | hf
   · exact⟨by decide,by decide⟩
   · obtain rfl:f=8:=by simpa using hf
     exact⟨by decide,by decide⟩,by decide,fun j hj=>by
   have:j < 2:=hj
   match j,this with
   | 0,_=>exact⟨w.heap.size,0,rfl,by simp,alloc_cell _ _ _ _⟩
   | 1,_=>exact⟨w.heap.size,0,rfl,by simp,alloc_cell _ _ _ _⟩⟩
theorem pk_two:pk 0 0 [⟨4,5⟩,⟨8,7⟩]=some (117,12):=by decide
theorem split_two:split 117 [4,8]=some [5,7]:=by decide
theorem lives_any (w:World):Calls Tryz.prog 225 #[] w fun r w'=>r = .returned (.bool true)∧Below w.heap.size w w':=by
 have c1:=pack_any _ 2 _ (fds_two w);rw[pk_two] at c1;have C1:=hid c1;have C2:=hid (fun (w:World)=>split_any 117 (by decide) _ 2 _ (nts_two w));clear c1;have HB1:=hid ((Below.refl w.heap.size w).alloc (Nat.le_refl _) (.cells #[.int .i64 4,.int .u64 5,.int .i64 8,.int .u64 7] 208));go_enter Tryz.func225,Tryz.ntmps225
 go_wp2_with fail
 refine C1.out.mono ?_;rintro e w1 ⟨rfl,hb⟩;have HB2:=hid (HB1.out.trans (hb.mono HB1.out.size));clear hb HB1;go_wp2_with fail
 refine (C2.out w1).mono ?_;rintro e w2 ⟨G,gc,rfl,hw,hb⟩;have h3:=HB2.out.alloc HB2.out.size (.cells #[.int .i64 4,.int .i64 8] 3);have HB3:=hid (h3.trans (hb.mono h3.size));clear hb h3;rw[split_two] at hw ⊢;simp only[Option.getD_some] at hw
 obtain⟨b,o,rfl,hlt,hc0⟩:=hw.at' 0 (by decide)
 obtain⟨b',o',e,_,hc1⟩:=hw.at' 1 (by decide)
 injection e with e
 injection e with e1 e2
 subst e1 e2;clear hw;simp only[List.getElem_cons_zero,List.getElem_cons_succ,Nat.add_zero] at hc0 hc1;go_wp2
 go_ret
 exact⟨rfl,HB3.out⟩
end Pack
end
section
open Lib (hid)
open Go.RowKit Go.MapKept
namespace Pack
theorem below_drewN {B:Nat} {a w:World} (h:Below B a w) (n:Nat):Below B a (w.drewN n):=⟨h.os,h.tape,h.output,h.size,h.block⟩
section
variable {w : World}
theorem same_any (A B:Option Addr) (c d:Nat) (l m:List Nat) (h:Wds w A l) (g:Wds w B m) :
 Calls Tryz.prog 9 #[.slice A l.length c,.slice B m.length d] w fun e w'=>e = .returned (.bool (decide (l=m)))∧∃ n,w'=w.drewN n:=by
 have hn:=h.len;have hm:=g.len;have H:=hid h;have G:=hid g;clear h g;by_cases hlen:l.length=m.length
 · go_enter Tryz.func9,Tryz.ntmps9
   go_wp2
   go_loopw [13] (fun i wr=>∃ (k n:Nat),k≤l.length∧i = .int .i64 (k:Int)∧l.take k=m.take k∧wr=w.drewN n) (fun i _=>l.length - (intOf i).toNat)
   case atStart=>exact⟨0,0,Nat.zero_le _,rfl,rfl,rfl⟩
   case round=>
    obtain⟨k,n,hk,rfl,hs,rfl⟩:=hrel
    have HS:=hid hs;clear hs;by_cases hlt:k < l.length
    · have hlt2:k < m.length:=by omega
      obtain⟨b,o,rfl,hb,hcell⟩:=H.out.at' k hlt
      obtain⟨b2,o2,rfl,hb2,hcell2⟩:=G.out.at' k hlt2
      have hi0:(0:Int)≤(k:Int):=by omega
      have hi1:(k:Int) < (l.length:Int):=by omega
      have hi2:(k:Int) < (m.length:Int):=by omega
      have HE:=hid (show l.take (k+1)=m.take (k+1)↔l[k]=m[k] by
       rw[List.take_succ_eq_append_getElem hlt,List.take_succ_eq_append_getElem (l:=m) hlt2,HS.out,List.append_right_inj]
       simp)
      generalize l[k]=x at *;generalize m[k]=y at *;by_cases hxy:x=y
      · subst hxy
        have HE1:=hid (HE.out.2 rfl);clear HE;go_wp2
        go_quiet (fail)
        go_wp2
        refine⟨⟨k+1,n+nq,by omega,by go_num,HE1.out,rfl⟩,by simp[intOf];omega⟩
      · have hne:¬ (x:Int)=(y:Int):=by omega
        go_wp2
        go_quiet (fail)
        go_wp2
        go_ret
        refine⟨?_,n+nq,World.drewN_drewN _ _ _⟩
        have:¬ l=m:=fun h=>hxy (HE.out.1 (by rw[h]))
        rw[decide_eq_false this];rfl
    · obtain rfl:k=l.length:=by omega
      have he:l=m:=by
       have:=HS.out
       rwa [List.take_length,hlen,List.take_length] at this
      go_wp2
      go_ret
      refine⟨?_,n,rfl⟩
      rw[decide_eq_true he];rfl
 · have hne:¬ (l.length:Int)=(m.length:Int):=by omega
   have hlm:¬ l=m:=fun h=>hlen (by rw[h])
   go_enter Tryz.func9,Tryz.ntmps9
   go_wp2
   go_ret
   refine⟨?_,0,rfl⟩
   rw[decide_eq_false hlm];rfl
end
end Pack
end
section
open Go.RowKit Go.MapKept
namespace Pack
theorem own_cells {W:World} {B n c:Nat} {e:TypeId} {G:Option Addr} {xs:List Value} (h:W.ownsRow B e 1 (.slice G n c) n xs) (j:Nat) (hj:j < n):∃ g,G=some ⟨g,0,none⟩∧g < W.heap.size∧W.cell? ⟨g,0+j,none⟩=xs[j]?:=by
 rcases h.2 with ⟨e,h0⟩ | ⟨g,cap,cur,e,_,hh,_,_,_,ht⟩
 · omega
 · injection e with e
   subst e
   refine⟨g,rfl,(Array.getElem?_eq_some_iff.1 hh).1,?_⟩
   have:=congrArg (·[j]?) ht
   simp only[Nat.mul_one] at this;rw[List.getElem?_take,if_pos hj] at this;unfold World.cell?;rw[hh,Nat.zero_add];simp only;rw[← Array.getElem?_toList];exact this
theorem row_slice {B n:Nat} {W:World} {e:TypeId} {s:Nat} {v:Value} {xs:List Value} (h:W.ownsRow B e s v n xs):∃ G c,v = .slice G n c:=by
 rcases h.2 with ⟨e,h0⟩ | ⟨g,cap,cur,e,_⟩
 · exact⟨none,0,by rw[e,h0]⟩
 · exact⟨_,_,e⟩
theorem row_base_lt {w:World} {B:Nat} {e:TypeId} {s n:Nat} {v:Value} {xs:List Value} (h:w.ownsRow B e s v n xs) {g:Nat} (hg:v.ownBlock=some g):B≤g:=(h.lt g hg).1
theorem rows_apart {w:World} {B B':Nat} {e e':TypeId} {s s' n n':Nat} {v v':Value} {xs xs':List Value} (h:w.ownsRow B e s v n xs) (g:w.ownsRow B' e' s' v' n' xs') (he:e≠e'):v.ownBlock=none∨v.ownBlock≠v'.ownBlock:=by
 cases hv:v.ownBlock with
 | none=>exact .inl rfl
 | some k=>
   refine .inr (fun h2=>?_)
   obtain⟨c,fz,h3⟩:=Lib.ownsRow_kind h k hv
   obtain⟨c',fz',h4⟩:=Lib.ownsRow_kind g k h2.symm
   rw[h3] at h4;injection h4 with h4
   injection h4 with _ h4 _
   exact he h4
def i64s (l:List Int):List Value:=l.map (Value.int .i64)
def u64s (l:List Nat):List Value:=l.map fun x:Nat=>Value.int .u64 (x:Int)
theorem own_nts {W:World} {B n c:Nat} {G:Option Addr} {l:List Int} (h:W.ownsRow B 3 1 (.slice G n c) n (i64s l)) (hb:∀ n∈l,-9223372036854775808≤n∧n≤9223372036854775807) (hm:n≤9223372036854775807):Nts W G l:=by
 have hl:l.length=n:=by
  have:=h.1
  simpa [i64s] using this
 refine⟨hb,by omega,fun j hj=>?_⟩
 obtain⟨g,e,h1,h2⟩:=own_cells h j (by omega)
 refine⟨g,0,e,h1,?_⟩
 rw[h2,i64s,List.getElem?_map,List.getElem?_eq_getElem hj];rfl
theorem own_wds {W:World} {B n c:Nat} {G:Option Addr} {l:List Nat} (h:W.ownsRow B 50 1 (.slice G n c) n (u64s l)) (hb:∀ x∈l,x < 18446744073709551616) (hm:n≤9223372036854775807):Wds W G l:=by
 have hl:l.length=n:=by
  have:=h.1
  simpa [u64s] using this
 refine⟨hb,by omega,fun j hj=>?_⟩
 obtain⟨g,e,h1,h2⟩:=own_cells h j (by omega)
 refine⟨g,0,e,h1,?_⟩
 rw[h2,u64s,List.getElem?_map,List.getElem?_eq_getElem hj];rfl
theorem int_info:(Tryz.prog.info? 3).map (fun i=>(i.zero,i.size,i.bytes))=some (some (.int .i64 0),1,8):=by kernel_rfl
section
variable {w : World}
end
end Pack
end
section
open Go.RowKit Go.MapKept
namespace Bm
open Pack (Wds Nts)
def Row (w:World) (q:Nat) (t:TypeId) (n:Nat) (f:Nat→Value):Prop:=∃ (N:Nat) (g:Nat→Value),n≤N∧w.rowIs q t N g∧∀ i,i < n→g i=f i
section
variable {w w' : World} {q n : Nat} {t : TypeId} {f g : Nat → Value}
theorem Row.cell (h:Row w q t n f) {i:Nat} (hi:i < n):w.cell? ⟨q,i,none⟩=some (f i):=by
 obtain⟨N,g,hN,hr,he⟩:=h
 rw[hr.cell (by omega),he i hi]
theorem Row.frozen (h:Row w q t n f) (i:Nat):w.frozen? ⟨q,i,none⟩=false:=by
 obtain⟨_,_,_,hr,_⟩:=h
 exact hr.frozen i
theorem Row.lt (h:Row w q t n f):q < w.heap.size:=by
 obtain⟨_,_,_,hr,_⟩:=h
 exact hr.lt
theorem Row.congr (h:Row w q t n f) (e:∀ i,i < n→f i=g i):Row w q t n g:=by
 obtain⟨N,k,hN,hr,he⟩:=h
 exact⟨N,k,hN,hr,fun i hi=>(he i hi).trans (e i hi)⟩
theorem Row.of_block (h:Row w q t n f) (e:w'.heap[q]? = w.heap[q]?):Row w' q t n f:=by
 obtain⟨N,k,hN,hr,he⟩:=h
 exact⟨N,k,hN,hr.of_block e,he⟩
theorem Row.set (h:Row w q t n f) (i:Nat) (v:Value):Row (w.setCell ⟨q,i,none⟩ v) q t n (fun j=>if j=i then v else f j):=by
 obtain⟨N,k,hN,hr,he⟩:=h
 refine⟨N,_,hN,hr.set i v,fun j hj=>?_⟩
 by_cases e:j=i
 · simp[e]
 · simp[e,he j hj]
theorem Row.drew (h:Row w q t n f):Row w.drew q t n f:=h
theorem Row.drewN (h:Row w q t n f) (k:Nat):Row (w.drewN k) q t n f:=h
theorem row_of_is (h:w.rowIs q t n f):Row w q t n f:=⟨n,f,Nat.le_refl _,h,fun _ _=>rfl⟩
theorem row_of_own {B c:Nat} {G:Option Addr} {xs:List Value} (h:w.ownsRow B t 1 (.slice G n c) n xs) (hG:∀ i,i < n→xs[i]? = some (f i)) (hq:G=some ⟨q,0,none⟩):Row w q t n f:=by
 rcases h.2 with ⟨e,h0⟩ | ⟨g,cap,cur,e,_,hh,hc,_,hsz,ht⟩
 · injection e with e
   rw[hq] at e
   cases e
 · injection e with e _ _
   rw[hq] at e;injection e with e
   injection e with e
   subst e
   refine⟨cur.size,fun i=>cur[i]?.getD (.bool false),by omega,⟨cur,hh,rfl,fun i hi=>by simp[hi]⟩,fun i hi=>?_⟩
   have:=congrArg (·[i]?) ht
   simp only[Nat.mul_one] at this;rw[List.getElem?_take,if_pos hi,hG i hi,Array.getElem?_toList] at this;simp[this]
end
structure Chg (q:Nat) (w w':World):Prop where
 os:w'.os=w.os
 tape:w'.tape=w.tape
 output:w'.output=w.output
 size:w.heap.size≤w'.heap.size
 block:∀ k,k < w.heap.size→k≠q→w'.heap[k]? = w.heap[k]?
section
variable {q : Nat} {w w' w'' : World}
theorem Chg.refl (q:Nat) (w:World):Chg q w w:=⟨rfl,rfl,rfl,Nat.le_refl _,fun _ _ _=>rfl⟩
theorem Chg.trans (h:Chg q w w') (k:Chg q w' w''):Chg q w w'':=
 ⟨k.os.trans h.os,k.tape.trans h.tape,k.output.trans h.output,Nat.le_trans h.size k.size,
   fun b hb hn=>(k.block b (Nat.lt_of_lt_of_le hb h.size) hn).trans (h.block b hb hn)⟩
theorem Chg.drew (h:Chg q w w'):Chg q w w'.drew:=⟨h.os,h.tape,h.output,h.size,h.block⟩
theorem Chg.drewN (h:Chg q w w') (n:Nat):Chg q w (w'.drewN n):=⟨h.os,h.tape,h.output,h.size,h.block⟩
theorem Chg.alloc (h:Chg q w w') (o:Obj):Chg q w (w'.alloc o):=
 ⟨h.os,h.tape,h.output,Nat.le_trans h.size (by simp),fun b hb hn=>(Below.heap_alloc w' o b (Nat.lt_of_lt_of_le hb h.size)).trans (h.block b hb hn)⟩
theorem Chg.setCell (h:Chg q w w') {p:Addr} (hp:p.block=q) (u:Value):Chg q w (w'.setCell p u):=
 ⟨h.os,h.tape,h.output,Nat.le_trans h.size (by simp[World.setCell]),fun b hb hn=>(Below.heap_setCell w' p u b (fun e=>hn (by rw[e,hp]))).trans (h.block b hb hn)⟩
theorem chg_of_below (h:Below w.heap.size w w') (q:Nat):Chg q w w':=⟨h.os,h.tape,h.output,h.size,fun b hb _=>h.block b hb⟩
theorem Chg.below {B:Nat} (h:Chg q w w') (hB:B≤w.heap.size) (hq:B≤q):Below B w w':=
 ⟨h.os,h.tape,h.output,h.size,fun b hb=>h.block b (by omega) (by omega)⟩
theorem Chg.cell (h:Chg q w w') {p:Addr} (hp:p.block < w.heap.size) (hn:p.block≠q):w'.cell? p=w.cell? p:=World.cell?_of_block (w:=w) (h.block _ hp hn)
end
structure Mp (w:World) (p q K C n:Nat) (f:Nat→Bool):Prop where
 lt:p < w.heap.size
 c0:w.cell? ⟨p,0,none⟩=some (.int .i64 (n:Int))
 c1:w.cell? ⟨p,1,none⟩=some (.slice (some ⟨q,0,none⟩) K C)
 row:Row w q 50 K (fun k=>.int .u64 (wd f k:Int))
 ne:p≠q
 far:∀ b,n≤b→f b=false
 max:n≤65534
 hK:K=(n+63) / 64
 cap:K≤C
section
variable {w w' : World} {p q K C n : Nat} {f : Nat → Bool}
theorem Mp.kk (h:Mp w p q K C n f):64 * K < n+64∧n≤64 * K:=by have:=h.hK;omega
theorem Mp.chg {r:Nat} (h:Mp w p q K C n f) (hc:Chg r w w') (hp:p≠r) (hq:q≠r):Mp w' p q K C n f:=
 ⟨Nat.lt_of_lt_of_le h.lt hc.size,(hc.cell (p:=⟨p,0,none⟩) h.lt hp).trans h.c0,(hc.cell (p:=⟨p,1,none⟩) h.lt hp).trans h.c1,h.row.of_block (hc.block _ h.row.lt hq),h.ne,h.far,h.max,h.hK,h.cap⟩
theorem Mp.keep (h:Mp w p q K C n f) (hb:Below w.heap.size w w'):Mp w' p q K C n f:=
 h.chg (chg_of_below hb w.heap.size) (Nat.ne_of_lt h.lt) (Nat.ne_of_lt h.row.lt)
theorem Mp.drewN (h:Mp w p q K C n f) (k:Nat):Mp (w.drewN k) p q K C n f:=⟨h.lt,h.c0,h.c1,h.row,h.ne,h.far,h.max,h.hK,h.cap⟩
theorem Mp.drew (h:Mp w p q K C n f):Mp w.drew p q K C n f:=⟨h.lt,h.c0,h.c1,h.row,h.ne,h.far,h.max,h.hK,h.cap⟩
theorem Mp.congr {g:Nat→Bool} (h:Mp w p q K C n f) (e:∀ b,f b=g b):Mp w p q K C n g:=by
 obtain rfl:f=g:=funext e;exact h
theorem Mp.set (h:Mp w p q K C n f) (b:Nat) (hb:b < n) (v:Bool):Mp (w.setCell ⟨q,b / 64,none⟩ (.int .u64 (wd (upd f b v) (b / 64):Int))) p q K C n (upd f b v):=
 ⟨by simpa using h.lt,(World.cell?_of_block (w:=w) (a:=⟨p,0,none⟩) (Below.heap_setCell w _ _ p h.ne)).trans h.c0,(World.cell?_of_block (w:=w) (a:=⟨p,1,none⟩) (Below.heap_setCell w _ _ p h.ne)).trans h.c1,
  (h.row.set (b / 64) _).congr (fun k _=>by
    by_cases e:k=b / 64
    · subst e;rw[if_pos rfl]
    · rw[if_neg e,wd_upd_other f b k v e]),h.ne,fun x hx=>by
    unfold upd;rw[if_neg (by omega)];exact h.far x hx,h.max,h.hK,h.cap⟩
end
def wds (f:Nat→Bool) (K:Nat):List Nat:=(List.range K).map (wd f)
theorem wds_len (f:Nat→Bool) (K:Nat):(wds f K).length=K:=by simp[wds]
theorem wds_get (f:Nat→Bool) (K j:Nat) (h:j < (wds f K).length):(wds f K)[j]=wd f j:=by simp[wds]
theorem Row.wds {w:World} {q K:Nat} {f:Nat→Bool} (h:Row w q 50 K (fun k=>.int .u64 (wd f k:Int))) (hK:K≤9223372036854775807):Wds w (some ⟨q,0,none⟩) (wds f K):=
 ⟨fun x hx=>by
   obtain⟨k,_,rfl⟩:=List.mem_map.1 hx
   exact wd_lt f k,by rw[wds_len];exact hK,fun j hj=>⟨q,0,rfl,h.lt,by
   rw[wds_get];rw[wds_len] at hj;rw[Nat.zero_add,h.cell hj]⟩⟩
structure Bls (w:World) (q:Nat) (A:Option Addr) (n:Nat) (f:Nat→Bool):Prop where
 at':∀ j,j < n→∃ b o,A=some ⟨b,o,none⟩∧b < w.heap.size∧b≠q∧w.cell? ⟨b,o+j,none⟩=some (.bool (f j))
theorem Bls.congr {w:World} {q n:Nat} {A:Option Addr} {f g:Nat→Bool} (h:Bls w q A n f) (e:∀ j,j < n→f j=g j):Bls w q A n g:=
 ⟨fun j hj=>by rw[← e j hj];exact h.at' j hj⟩
def Tab (w:World):Prop:=∀ j,j < 64→w.cell? ⟨0,j,none⟩=some (.int .u8 ((Lib.deBruijn64tab.getD j 0:Nat):Int))
theorem Tab.lt {w:World} (h:Tab w):0 < w.heap.size:=by
 have:=h 0 (by decide)
 rcases Nat.lt_or_ge 0 w.heap.size with h1 | h1
 · exact h1
 · simp[World.cell?,Array.getElem?_eq_none h1] at this
theorem Tab.chg {w w':World} {q:Nat} (h:Tab w) (hc:Chg q w w') (hq:0≠q):Tab w':=fun j hj=>(hc.cell (p:=⟨0,j,none⟩) h.lt hq).trans (h j hj)
theorem Tab.below {w w':World} {B:Nat} (h:Tab w) (hb:Below B w w') (hB:0 < B):Tab w':=fun j hj=>(hb.cell (p:=⟨0,j,none⟩) hB).trans (h j hj)
theorem Tab.drewN {w:World} (h:Tab w) (k:Nat):Tab (w.drewN k):=h
end Bm
end
section
open Lib (hid)
open Go.RowKit Go.MapKept
namespace Bm
open Pack (Wds Nts)
section
variable {w : World}
theorem wordsOf_any (n:Nat) (hn:n≤65534) (w:World):Calls Tryz.prog 58 #[.int .i64 (n:Int)] w fun e w'=>e = .returned (.int .i64 (((n+63) / 64:Nat):Int))∧w=w':=by
 go_enter Tryz.func58,Tryz.ntmps58
 go_wp2
 go_ret
 exact⟨congrArg (fun x=>Ending.returned (.int .i64 x)) (by omega),rfl⟩
theorem bitOf_any (b:Nat) (hb:b≤9223372036854775807) (w:World):Calls Tryz.prog 183 #[.int .i64 (b:Int)] w fun e w'=>e = .returned (.int .u64 ((2 ^ (b % 64):Nat):Int))∧w=w':=by
 go_enter Tryz.func183,Tryz.ntmps183
 go_wp2
 go_ret
 refine⟨?_,rfl⟩
 have hp:=pow_lt64 (Nat.mod_lt b (show 64 > 0 by omega))
 have e:IntKind.u64.wrap ((2:Int) ^ (b % 64))=((2 ^ (b % 64):Nat):Int):=by
  rw[show ((2:Int) ^ (b % 64))=((2 ^ (b % 64):Nat):Int) by simp];generalize 2 ^ (b % 64)=y at *;rw[IntKind.wrap_u64];omega
 exact congrArg (fun x=>Ending.returned (.int .u64 x)) e
variable {p q K C n : Nat} {f : Nat → Bool}
theorem isBlock_yes (h:Mp w p q K C n f) (b:Nat) (hb:b < n):Calls Tryz.prog 181 #[.pointer (some ⟨p,0,none⟩),.int .i64 (b:Int)] w fun e w'=>e = .returned (.bool true)∧w=w':=by
 have hc:=h.c0;have h1:(0:Int)≤(b:Int):=by omega
 have h2:(b:Int) < (n:Int):=by omega
 clear h;go_enter Tryz.func181,Tryz.ntmps181
 go_wp2
 go_ret
 exact⟨rfl,rfl⟩
theorem isBlock_no (h:Mp w p q K C n f) (b:Int) (hb:b < 0∨(n:Int)≤b):Calls Tryz.prog 181 #[.pointer (some ⟨p,0,none⟩),.int .i64 b] w fun e w'=>e = .returned (.bool false)∧w=w':=by
 have hc:=h.c0;clear h;by_cases h0:b < 0
 · clear hb
   have h1:¬ (0:Int)≤b:=by omega
   go_enter Tryz.func181,Tryz.ntmps181
   go_wp2
   go_ret
   exact⟨rfl,rfl⟩
 · have h1:(0:Int)≤b:=by omega
   have h2:¬ b < (n:Int):=by omega
   clear hb;go_enter Tryz.func181,Tryz.ntmps181
   go_wp2
   go_ret
   exact⟨rfl,rfl⟩
theorem blockOrNone_any (h:Mp w p q K C n f) (b:Nat):Calls Tryz.prog 242 #[.pointer (some ⟨p,0,none⟩),.int .i64 (b:Int)] w fun e w'=>e = .returned (.int .i64 (if b < n then (b:Int) else -1))∧w=w':=by
 by_cases hb:b < n
 · rw[if_pos hb]
   have HC:=hid (isBlock_yes h b hb);clear h;go_enter Tryz.func242,Tryz.ntmps242
   go_wp2_with fail
   refine HC.out.mono ?_;rintro e w' ⟨rfl,rfl⟩;go_wp2
   go_ret
   exact⟨rfl,rfl⟩
 · rw[if_neg hb]
   have HC:=hid (isBlock_no h (b:Int) (.inr (by omega)));clear h;go_enter Tryz.func242,Tryz.ntmps242
   go_wp2_with fail
   refine HC.out.mono ?_;rintro e w' ⟨rfl,rfl⟩;go_wp2
   go_ret
   exact⟨rfl,rfl⟩
theorem len_any (h:Mp w p q K C n f):Calls Tryz.prog 33 #[.pointer (some ⟨p,0,none⟩)] w fun e w'=>e = .returned (.int .i64 (n:Int))∧w=w':=by
 have hc:=h.c0;clear h;go_enter Tryz.func33,Tryz.ntmps33
 go_wp2
 go_ret
 exact⟨rfl,rfl⟩
theorem tz_walk (w:World) (x i c:Nat) (hi:i < 64) (hc:c < 64) (hcell:w.cell? ⟨0,i,none⟩=some (.int .u8 (c:Int))) (hne:((x:Int) == 0)=false)
 (hkey:IntKind.u64.wrap (bits .and .u64 (x:Int) (IntKind.u64.wrap (-(x:Int))) * 285870213051353865) / 288230376151711744=(i:Int)) :
 Calls Tryz.prog 243 #[.int .u64 (x:Int)] w fun e w'=>e = .returned (.int .i64 (c:Int))∧w=w':=by
 go_enter Tryz.func243,Tryz.ntmps243
 go_wp2_with (simp only[hkey])
 go_ret
 exact⟨rfl,rfl⟩
theorem tz_any (x:Nat) (hx:x < 18446744073709551616) (hx0:x≠0) (w:World) (hT:Tab w):Calls Tryz.prog 243 #[.int .u64 (x:Int)] w fun e w'=>e = .returned (.int .i64 (Lib.ctz 64 x))∧w=w':=by
 have hl:=Lib.lowest_bit 64 x hx0 hx;have hd:=Lib.deBruijn64_at _ hl.2;have hcell:=hT _ hd.1;rw[hd.2] at hcell;exact tz_walk w x _ _ hd.1 hl.2 hcell (by simp;omega) (tz64_key x _ hx hx0 hl.1)
theorem ones_core (x a b c d e g:Nat) (w:World)
 (h1:IntKind.u64.wrap (bits BinOp.and IntKind.u64 ((x:Int) / 2) 6148914691236517205+bits BinOp.and IntKind.u64 (x:Int) 6148914691236517205)=(a:Int))
 (h2:IntKind.u64.wrap (bits BinOp.and IntKind.u64 ((a:Int) / 4) 3689348814741910323+bits BinOp.and IntKind.u64 (a:Int) 3689348814741910323)=(b:Int))
 (h3:bits BinOp.and IntKind.u64 (IntKind.u64.wrap ((b:Int) / 16+(b:Int))) 1085102592571150095=(c:Int))
 (h4:IntKind.u64.wrap ((c:Int)+(c:Int) / 256)=(d:Int)) (h5:IntKind.u64.wrap ((d:Int)+(d:Int) / 65536)=(e:Int)) (h6:IntKind.u64.wrap ((e:Int)+(e:Int) / 4294967296)=(g:Int))
 (hg:g < 9223372036854775808) :
 Calls Tryz.prog 143 #[.int .u64 (x:Int)] w fun r w'=>r = .returned (.int .i64 ((g:Int) % 128))∧w=w':=by
 have hw:IntKind.i64.wrap (g:Int)=(g:Int):=by rw[IntKind.wrap_i64];omega
 have h7:=i64_and127 (g:Int);clear hg;go_enter Tryz.func143,Tryz.ntmps143
 go_wp2
 go_ret
 exact⟨rfl,rfl⟩
theorem and_u64 (y m:Nat) (hy:y < 18446744073709551616) (hm:m < 18446744073709551616):bits BinOp.and IntKind.u64 (y:Int) (m:Int)=((y &&& m:Nat):Int):=u64_and_nat y m hy hm
theorem ones_any (x:Nat) (hx:x < 18446744073709551616) (w:World):Calls Tryz.prog 143 #[.int .u64 (x:Int)] w fun r w'=>r = .returned (.int .i64 (pop x 64:Int))∧w=w':=by
 obtain⟨q1,q2,q3,e0,e1,e2,e3,e4,e5,e6,e7,he,hz,hs⟩:=ones x hx
 obtain⟨y,z,u,hy,hz2,hu,hul,hum⟩:=fold8 e0 e1 e2 e3 e4 e5 e6 e7 he
 rw[← hz] at hy
 have hc3:o3 (o2 (o1 x)) < 18446744073709551616:=by
  unfold o3;exact Nat.and_lt_two_pow (n:=64) _ (by decide)
 refine (ones_core x (o1 x) (o2 (o1 x)) (o3 (o2 (o1 x))) y z u w ?_ ?_ ?_ ?_ ?_ ?_ hul).mono fun r w' ⟨hr,hw⟩=>⟨hr.trans ?_,hw⟩
 · have a1:=and_u64 (x / 2) 6148914691236517205 (by omega) (by omega)
   have a2:=and_u64 x 6148914691236517205 hx (by omega);rw[show ((x:Int) / 2)=((x / 2:Nat):Int) by omega];rw[show (6148914691236517205:Int)=((6148914691236517205:Nat):Int) from rfl,a1,a2,IntKind.wrap_u64];unfold o1 at *;omega
 · generalize o1 x=a at *
   have a1:=and_u64 (a / 4) 3689348814741910323 (by omega) (by omega);have a2:=and_u64 a 3689348814741910323 q1 (by omega);rw[show ((a:Int) / 4)=((a / 4:Nat):Int) by omega];rw[show (3689348814741910323:Int)=((3689348814741910323:Nat):Int) from rfl,a1,a2,IntKind.wrap_u64];unfold o2 at *;omega
 · generalize o2 (o1 x)=b at *
   have a1:=and_u64 (b / 16+b) 1085102592571150095 q3 (by omega);have e:IntKind.u64.wrap ((b:Int) / 16+(b:Int))=((b / 16+b:Nat):Int):=by rw[IntKind.wrap_u64];omega
   rw[e,show (1085102592571150095:Int)=((1085102592571150095:Nat):Int) from rfl,a1];rfl
 · generalize o3 (o2 (o1 x))=c at *
   rw[IntKind.wrap_u64];omega
 · rw[IntKind.wrap_u64]
   omega
 · rw[IntKind.wrap_u64]
   omega
 · refine congrArg (fun x=>Ending.returned (.int .i64 x)) ?_
   omega
end
end Bm
end
section
open Lib (hid)
open Go.RowKit Go.MapKept
namespace Bm
open Pack (Wds Nts)
section
variable {w : World}
theorem mp_new (w:World) (m K:Nat) (y:Int) (hy:y=(m:Int)) (hm:m≤65534) (hK:K=(m+63) / 64):Mp ((w.alloc (.cells (madeCells #[.int .u64 0] K) 50)).alloc (.cells #[.int .i64 y,.slice (some ⟨w.heap.size,0,none⟩) K K] 125)) (w.heap.size+1) w.heap.size K K m (fun _=>false):=by
 have hr:Row (w.alloc (.cells (madeCells #[.int .u64 0] K) 50)) w.heap.size 50 K (fun k=>.int .u64 (wd (fun _=>false) k:Int)):=
  (row_of_is (World.rowIs_made w (.int .u64 0) K 50)).congr (fun i _=>by rw[wd_none];rfl)
 have e:(w.alloc (.cells (madeCells #[.int .u64 0] K) 50)).heap.size=w.heap.size+1:=by simp
 subst hy
 refine⟨by simp,?_,?_,hr.of_block (Below.heap_alloc _ _ _ hr.lt),by omega,fun _ _=>rfl,hm,hK,Nat.le_refl _⟩
 · rw[← e,Pack.alloc_cell];rfl
 · rw[← e,Pack.alloc_cell];rfl
theorem wordsOf_int (y:Int) (m K:Nat) (hy:y=(m:Int)) (hm:m≤65534) (hK:K=(m+63) / 64) (w:World):Calls Tryz.prog 58 #[.int .i64 y] w fun e w'=>e = .returned (.int .i64 (K:Int))∧w=w':=by
 subst hy hK;exact wordsOf_any m hm w
theorem below_new (w:World) (K:Nat) (y:Int):Below w.heap.size w ((w.alloc (.cells (madeCells #[.int .u64 0] K) 50)).alloc (.cells #[.int .i64 y,.slice (some ⟨w.heap.size,0,none⟩) K K] 125)):=((Below.refl _ _).alloc (Nat.le_refl _) _).alloc (by simp) _
theorem new_any (x:Int) (m K:Nat) (hm:(m:Int)=min (max x 0) 65534) (hK:K=(m+63) / 64) (w:World):Calls Tryz.prog 28 #[.int .i64 x] w fun e w'=>
 e = .returned (.pointer (some ⟨w.heap.size+1,0,none⟩))∧Mp w' (w.heap.size+1) w.heap.size K K m (fun _=>false)∧Below w.heap.size w w':=by
 have hm2:m≤65534:=by omega
 have HC:=hid (fun w y hy=>wordsOf_int y m K hy hm2 hK w);have HM:=hid (fun y hy=>mp_new w m K y hy hm2 hK);have HB:=hid (fun y=>below_new w K y);have hmk:=run_make_row' (P:=Tryz.prog) 22 50 _ 8 Tryz.underlying22 Pack.u64_info rfl .i64 .i64 K (by omega) (by omega) w;clear hK
 rcases Int.lt_or_le x 0 with hn | hn
 · have hy:(0:Int)=(m:Int):=by omega
   have HY:=hid hy;clear hm hm2 hy;go_enter Tryz.func28,Tryz.ntmps28
   go_wp2_with (go_at_call 58;refine (HC.out _ _ HY.out).mono ?_;rintro e w' ⟨rfl,rfl⟩)
   go_ret
   exact⟨rfl,HM.out _ HY.out,HB.out _⟩
 · rcases Int.lt_or_le 65534 x with hn2 | hn2
   · have hy:(65534:Int)=(m:Int):=by omega
     have HY:=hid hy;clear hm hm2 hy;go_enter Tryz.func28,Tryz.ntmps28
     go_wp2_with (go_at_call 58;refine (HC.out _ _ HY.out).mono ?_;rintro e w' ⟨rfl,rfl⟩)
     go_ret
     exact⟨rfl,HM.out _ HY.out,HB.out _⟩
   · have hy:x=(m:Int):=by omega
     have HY:=hid hy;clear hm hm2 hy;go_enter Tryz.func28,Tryz.ntmps28
     go_wp2_with (go_at_call 58;refine (HC.out _ _ HY.out).mono ?_;rintro e w' ⟨rfl,rfl⟩)
     go_ret
     exact⟨rfl,HM.out _ HY.out,HB.out _⟩
variable {p q K C n : Nat} {f : Nat → Bool}
theorem has_yes (h:Mp w p q K C n f) (b:Nat) (hb:b < n):Calls Tryz.prog 182 #[.pointer (some ⟨p,0,none⟩),.int .i64 (b:Int)] w fun e w'=>e = .returned (.bool (f b))∧∃ k,w'=w.drewN k:=by
 have HC:=hid (fun k=>isBlock_yes (h.drewN k) b hb);have hc1:=h.c1;have hk:=h.kk;have hmx:=h.max;have HB:=hid (fun w=>bitOf_any b (by omega) w);have hrc:=h.row.cell (i:=b / 64) (by omega);have hx:=wd_has f b;have hl1:=wd_lt f (b / 64);have hl2:=pow_lt64 (Nat.mod_lt b (show 64 > 0 by omega));have ha:=and_u64 _ _ hl1 hl2;rw[hx] at ha;have hp0:0 < 2 ^ (b % 64):=Nat.pow_pos (by omega);clear hx h;generalize wd f (b / 64)=x at *;generalize 2 ^ (b % 64)=y at *;have hd1:b / 64 < K:=by omega
 have he:(b:Int) / 64=((b / 64:Nat):Int):=rfl;have ht:(b:Int).tdiv 64=((b / 64:Nat):Int):=rfl;have hwd:IntKind.wrap .i64 ((b / 64:Nat):Int)=((b / 64:Nat):Int):=by rw[IntKind.wrap_i64];omega
 generalize b / 64=d at *;have hd0:(0:Int)≤(d:Int):=by omega
 have hd2:(d:Int) < (K:Int):=by omega
 clear hk hl1 hl2 hd1 hmx
 cases hf:f b with
 | true=>
   rw[hf] at ha;simp only[if_true] at ha;have hne:((y:Int) == 0)=false:=by simp;omega
   have hne2:((y:Int) != 0)=true:=by simp;omega
   clear hf hp0;go_enter Tryz.func182,Tryz.ntmps182
   go_wp2
   go_quiet ((first
    | (go_at_call 181;exact Calls.quiet_of_same ((HC.out _).mono (fun _ _ h=>⟨h.1,h.2.symm⟩)))
    | (go_at_call 183;exact Calls.quiet_of_same ((HB.out _).mono (fun _ _ h=>⟨h.1,h.2.symm⟩)))))
   go_wp2
   go_ret
   exact⟨rfl,_,rfl⟩
 | false=>
   rw[hf] at ha;simp only[Bool.false_eq_true,if_false] at ha;clear hf hp0;go_enter Tryz.func182,Tryz.ntmps182
   go_wp2
   go_quiet ((first
    | (go_at_call 181;exact Calls.quiet_of_same ((HC.out _).mono (fun _ _ h=>⟨h.1,h.2.symm⟩)))
    | (go_at_call 183;exact Calls.quiet_of_same ((HB.out _).mono (fun _ _ h=>⟨h.1,h.2.symm⟩)))))
   go_wp2
   go_ret
   exact⟨rfl,_,rfl⟩
theorem Mp.cnt64 (h:Mp w p q K C n f):cnt f (64 * K)=cnt f n:=cnt_far h.far _ h.kk.2
theorem count_any (h:Mp w p q K C n f):Calls Tryz.prog 88 #[.pointer (some ⟨p,0,none⟩)] w fun e w'=>e = .returned (.int .i64 (cnt f n:Int))∧w=w':=by
 have HC:=hid h.cnt64;have hc1:=h.c1;have hk:=h.kk;have hmx:=h.max;have H:=hid h;clear h;go_enter Tryz.func88,Tryz.ntmps88
 go_wp2
 go_loop [3,11] (fun c i=>∃ k:Nat,k≤K∧i = .int .i64 (k:Int)∧c = .int .i64 (cnt f (64 * k):Int)) (fun _ i=>K - (intOf i).toNat)
 case atStart=>exact⟨0,Nat.zero_le _,rfl,rfl⟩
 case round=>
  obtain⟨k,hkK,rfl,rfl⟩:=hrel
  have hle:=cnt_le f (64 * k);by_cases hlt:k < K
  · have hrc:=H.out.row.cell hlt
    have HS:=hid (cnt_word f k);have hl:=wd_lt f k;have hpl:=pop_le (wd f k) 64;have HO:=hid (fun w=>ones_any (wd f k) hl w);clear hl;generalize wd f k=x at *;generalize pop x 64=y at *;generalize hcc:cnt f (64 * k)=z at *;clear hcc;have hi0:(0:Int)≤(k:Int):=by omega
    have hi1:(k:Int) < (K:Int):=by omega
    go_wp2_with fail
    refine (HO.out _).mono ?_;rintro e w' ⟨rfl,rfl⟩;go_wp2
    go_round
    case rel=>exact⟨k+1,by omega,by go_num,by rw[HS.out];go_num⟩
    case measure=>simp[intOf];omega
  · obtain rfl:k=K:=by omega
    go_wp2
    go_ret
    exact⟨by rw[← HC.out];rfl,rfl⟩
theorem free_any (h:Mp w p q K C n f):Calls Tryz.prog 90 #[.pointer (some ⟨p,0,none⟩)] w fun e w'=>e = .returned (.int .i64 ((n - cnt f n:Nat):Int))∧∃ k,w'=w.drewN k:=by
 have HC:=hid (fun k=>count_any (h.drewN k));have hc0:=h.c0;have hmx:=h.max;have hle:=cnt_le f n;clear h;generalize cnt f n=c at *;have hsub:IntKind.wrap .i64 ((n:Int) - (c:Int))=((n - c:Nat):Int):=by rw[IntKind.wrap_i64];omega
 go_enter Tryz.func90,Tryz.ntmps90
 go_wp2
 go_quiet ((go_at_call 88;exact Calls.quiet_of_same ((HC.out _).mono (fun _ _ h=>⟨h.1,h.2.symm⟩))))
 go_wp2
 go_ret
 exact⟨rfl,_,rfl⟩
end
end Bm
end
section
open Lib (hid)
open Go.RowKit Go.MapKept
namespace Bm
open Pack (Wds Nts)
def trd (n:Nat) (is:Bool) (f:Nat→Bool) (b:Int):Bool:=decide (0≤b∧b < (n:Int)) && (f b.toNat != is)
def trn (n:Nat) (is:Bool) (f:Nat→Bool) (b:Int):Nat→Bool:=if trd n is f b then upd f b.toNat is else f
def tnp (n:Nat) (is:Bool) (x:(Nat→Bool) × Nat) (b:Int):(Nat→Bool) × Nat:=(trn n is x.1 b,x.2+if trd n is x.1 b then 1 else 0)
def tn (n:Nat) (is:Bool) (f:Nat→Bool) (l:List Int):(Nat→Bool) × Nat:=l.foldl (tnp n is) (f,0)
theorem tn_step (n:Nat) (is:Bool) (f:Nat→Bool) (l:List Int) (k:Nat) (h:k < l.length):tn n is f (l.take (k+1))=tnp n is (tn n is f (l.take k)) l[k]:=by
 unfold tn;rw[List.take_succ_eq_append_getElem h,List.foldl_append];rfl
theorem tn_le (n:Nat) (is:Bool) (f:Nat→Bool) (l:List Int):∀ k,k≤l.length→(tn n is f (l.take k)).2≤k
 | 0,_=>by simp[tn]
 | k+1,h=>by
   have:=tn_le n is f l k (by omega)
   rw[tn_step n is f l k (by omega),tnp];simp only
   split<;>omega
theorem tnp_out {n:Nat} {is:Bool} {x:(Nat→Bool) × Nat} {b:Int} (h:b < 0∨(n:Int)≤b):tnp n is x b=x:=by
 have:trd n is x.1 b=false:=by unfold trd;rw[decide_eq_false (by omega)];rfl
 unfold tnp trn;simp[this]
theorem tnp_same {n:Nat} {is:Bool} {x:(Nat→Bool) × Nat} {b:Nat} (h:x.1 b=is):tnp n is x (b:Int)=x:=by
 have:trd n is x.1 (b:Int)=false:=by unfold trd;rw[Int.toNat_natCast,h];simp
 unfold tnp trn;simp[this]
theorem tnp_turn {n:Nat} {is:Bool} {x:(Nat→Bool) × Nat} {b:Nat} (hb:b < n) (h:x.1 b = !is):tnp n is x (b:Int)=(upd x.1 b is,x.2+1):=by
 have:trd n is x.1 (b:Int)=true:=by unfold trd;rw[Int.toNat_natCast,h,decide_eq_true (by omega)];cases is<;>rfl
 unfold tnp trn;simp[this]
theorem or_u64 (y m:Nat) (hy:y < 18446744073709551616) (hm:m < 18446744073709551616):bits BinOp.or IntKind.u64 (y:Int) (m:Int)=((y ||| m:Nat):Int):=u64_or_nat y m hy hm
theorem andNot_u64 (y m:Nat) (hy:y < 18446744073709551616) (hm:m < 18446744073709551616):bits BinOp.andNot IntKind.u64 (y:Int) (m:Int)=((y &&& (18446744073709551615 - m):Nat):Int):=u64_andNot_nat y m hy hm
section
variable {w : World} {p q K C n : Nat} {f : Nat → Bool}
theorem put_any (h:Mp w p q K C n f) (A:Option Addr) (c:Nat) (l:List Int) (hl:∀ w',Chg q w w'→Nts w' A l) :
 Calls Tryz.prog 117 #[.pointer (some ⟨p,0,none⟩),.slice A l.length c] w fun e w'=>e = .returned (.int .i64 ((tn n true f l).2:Int))∧Mp w' p q K C n (tn n true f l).1∧Chg q w w':=by
 have hlen:=(hl w (Chg.refl q w)).len;have H:=hid h;have HL:=hid hl;clear h hl;go_enter Tryz.func117,Tryz.ntmps117
 go_wp2
 go_loopw [5,10] (fun a i wr=>∃ k:Nat,k≤l.length∧i = .int .i64 (k:Int)∧a = .int .i64 ((tn n true f (l.take k)).2:Int)∧Mp wr p q K C n (tn n true f (l.take k)).1∧Chg q w wr) (fun _ i _=>l.length - (intOf i).toNat)
 case atStart=>exact⟨0,Nat.zero_le _,rfl,rfl,H.out,Chg.refl _ _⟩
 case round=>
  obtain⟨k,hk,rfl,rfl,hM,hC⟩:=hrel
  by_cases hlt:k < l.length
  · obtain⟨b,o,rfl,hb,hcell⟩:=(HL.out _ hC).at' k hlt
    have HS:=hid (tn_step n true f l k hlt);have hle:=tn_le n true f l k hk;have HM:=hid hM;have HC:=hid hC;generalize tn n true f (l.take k)=X at *;generalize l[k]=x at *;clear hM hC;have hi0:(0:Int)≤(k:Int):=by omega
    have hi1:(k:Int) < (l.length:Int):=by omega
    obtain⟨g,cn⟩:=X
    simp only at hle HM HS;by_cases hin:x < 0∨(n:Int)≤x
    · have HS2:=hid (HS.out.trans (tnp_out hin))
      have HI:=hid (isBlock_no HM.out x hin);clear hin;go_wp2_with fail
      refine HI.out.mono ?_;rintro e w' ⟨rfl,rfl⟩;go_wp2
      refine⟨⟨k+1,by omega,by go_num,by rw[HS2.out],by rw[HS2.out];exact HM.out,HC.out⟩,by simp[intOf];omega⟩
    · obtain⟨d,rfl⟩:=Int.eq_ofNat_of_zero_le (show 0≤x by omega)
      have hd:d < n:=by omega
      clear hin;have HI:=hid (isBlock_yes HM.out d hd);have HH:=hid (has_yes HM.out d hd)
      cases hgd:g d with
      | true=>
        rw[hgd] at HH;have HS2:=hid (HS.out.trans (tnp_same (b:=d) (x:=(g,cn)) hgd));clear hgd;go_wp2_with fail
        refine HI.out.mono ?_;rintro e w' ⟨rfl,rfl⟩;go_wp2_with fail
        refine HH.out.mono ?_;rintro e w' ⟨rfl,kk,rfl⟩;go_wp2
        refine⟨⟨k+1,by omega,by go_num,by rw[HS2.out],by rw[HS2.out];exact HM.out.drewN kk,HC.out.drewN kk⟩,by simp[intOf];omega⟩
      | false=>
        rw[hgd] at HH;have HS2:=hid (HS.out.trans (tnp_turn (b:=d) (x:=(g,cn)) hd hgd));clear hgd;go_wp2_with fail
        refine HI.out.mono ?_;rintro e w' ⟨rfl,rfl⟩;go_wp2_with fail
        refine HH.out.mono ?_;rintro e w' ⟨rfl,kk,rfl⟩;have HM2:=hid (HM.out.drewN kk);have HC2:=hid (HC.out.drewN kk);generalize wr.drewN kk=w2 at *;clear HM HC HI HH hcell hb;have hc1:=HM2.out.c1;have hkk:=HM2.out.kk;have hmx:=HM2.out.max;have HB:=hid (fun w=>bitOf_any d (by omega) w);have hrc:=HM2.out.row.cell (i:=d / 64) (by omega);have hrf:=HM2.out.row.frozen (d / 64);have hor:=or_u64 _ _ (wd_lt g (d / 64)) (pow_lt64 (Nat.mod_lt d (show 64 > 0 by omega)));rw[wd_or] at hor;have HN:=hid (HM2.out.set d hd true);have HN2:=hid (HC2.out.setCell (p:=⟨q,d / 64,none⟩) rfl (.int .u64 (wd (upd g d true) (d / 64):Int)));have hd1:d / 64 < K:=by omega
        have he:(d:Int) / 64=((d / 64:Nat):Int):=rfl;have ht:(d:Int).tdiv 64=((d / 64:Nat):Int):=rfl;have hwd:IntKind.wrap .i64 ((d / 64:Nat):Int)=((d / 64:Nat):Int):=by rw[IntKind.wrap_i64];omega
        generalize wd (upd g d true) (d / 64)=z at *;generalize wd g (d / 64)=y at *;generalize 2 ^ (d % 64)=u at *;generalize d / 64=dd at *;have hd0:(0:Int)≤(dd:Int):=by omega
        have hd2:(dd:Int) < (K:Int):=by omega
        clear hkk hd1 hmx;go_wp2_with fail
        go_region_with ((go_at_call 183;refine (HB.out _).mono ?_;rintro e w' ⟨rfl,rfl⟩))
        all_goals
         clear he ht hwd hor hd0 hd2 hc1 hrc hrf;go_wp2
         refine⟨⟨k+1,by omega,by go_num,by rw[HS2.out];go_num,by rw[HS2.out];exact HN.out.drew,HN2.out.drew⟩,by simp[intOf];omega⟩
  · obtain rfl:k=l.length:=by omega
    rw[List.take_length] at hM;have HM:=hid hM;have HC:=hid hC;clear hM hC;go_wp2
    go_ret
    refine⟨by rw[List.take_length];rfl,HM.out,HC.out⟩
end
end Bm
end
section
open Lib (hid)
open Go.RowKit Go.MapKept
namespace Bm
open Pack (Wds Nts)
theorem not_u64 (y:Nat) (hy:y < 18446744073709551616):bits BinOp.xor IntKind.u64 IntKind.u64.max (y:Int)=((18446744073709551615 - y:Nat):Int):=by
 have:=u64_xor_nat 18446744073709551615 y (by decide) hy
 rw[show IntKind.u64.max=((18446744073709551615:Nat):Int) from rfl,this]
 congr 1
 apply Nat.eq_of_testBit_eq;intro i;rw[Nat.testBit_xor,not_bit _ _ hy,top_bit];by_cases hi:i < 64
 · simp[hi]
 · have:y.testBit i=false:=Nat.testBit_lt_two_pow (Nat.lt_of_lt_of_le hy (Nat.pow_le_pow_right (n:=2) (i:=64) (by omega) (by omega)))
   simp[hi,this]
section
variable {w : World} {p q K C n : Nat} {f : Nat → Bool}
theorem next_true (h:Mp w p q K C n f) (hT:Tab w) (x:Int) (s:Nat) (hs:(s:Int)=max x 0) (hx:x≤9223372036854775807) :
 Calls Tryz.prog 226 #[.pointer (some ⟨p,0,none⟩),.int .i64 x,.bool true] w fun e w'=>e = .returned (.int .i64 (next f true n s))∧w=w':=by
 have hc1:=h.c1;have hkk:=h.kk;have hmx:=h.max;have hs2:s≤9223372036854775807:=by omega
 have HB:=hid (fun w=>bitOf_any s hs2 w);have hp0:0 < 2 ^ (s % 64):=Nat.pow_pos (by omega);have hpl:=pow_lt64 (Nat.mod_lt s (show 64 > 0 by omega));have H:=hid h;have HT:=hid hT;clear h hT
 obtain⟨a0,ha0⟩:∃ a0:Nat,a0=2 ^ (s % 64) - 1:=⟨_,rfl⟩
 have hsub:IntKind.u64.wrap (((2 ^ (s % 64):Nat):Int) - 1)=(a0:Int):=by
  subst ha0;generalize 2 ^ (s % 64)=y at *;rw[IntKind.wrap_u64];omega
 have HA:=hid (show a0=2 ^ (s - 64 * (s / 64)) - 1 by rw[ha0,show s - 64 * (s / 64)=s % 64 by omega]);generalize 2 ^ (s % 64)=y0 at *;clear ha0 hp0 hpl
 rcases Int.lt_or_le x 0 with hn | hn
 · have hs0:s=0:=by omega
   have HZ:=hid hs0;have HB2:=hid (fun w=>show Calls Tryz.prog 183 #[.int .i64 0] w _ from hs0 ▸ HB.out w);clear hs hs0 HB
   rename Hid (∀ (w:World),Calls _ _ #[.int .i64 0] w _)=>HB
   go_enter Tryz.func226,Tryz.ntmps226
   go_wp2_with (go_at_call 183;refine (HB.out _).mono ?_;rintro e w' ⟨rfl,rfl⟩)
   clear hsub
   go_loop [7,8] (fun a i=>∃ k:Nat,s / 64≤k∧i = .int .i64 (k:Int)∧a = .int .u64 ((2 ^ (s - 64 * k) - 1:Nat):Int)∧∀ b,s≤b→b < 64 * k→b < n→f b≠true) (fun _ i=>K - (intOf i).toNat)
   case atStart=>exact⟨s / 64,Nat.le_refl _,by rw[HZ.out];rfl,by rw[← HA.out],fun b h1 h2=>by omega⟩
   case round=>
    obtain⟨k,hk,rfl,rfl,hpre⟩:=hrel
    have HP:=hid hpre;clear hpre;by_cases hlt:k < K
    · have hrc:=H.out.row.cell hlt
      have hlt64:s - 64 * k < 64:=by omega
      have hal:2 ^ (s - 64 * k) - 1 < 18446744073709551616:=by have:=pow_lt64 hlt64;omega
      have han:=andNot_u64 _ _ (wd_lt (fun b=>f b == true) k) hal;rw[wd_fro f true s k hlt64,wd_used] at han;have hYl:=wd_lt (fro f true s) k;have HZ0:=hid (fun hz b h1 h2 h3=>fro_none (f:=f) (u:=true) (s:=s) (k:=k) hz b h1 h2 h3);have HZ1:=hid (fun hz=>fro_some (n:=n) (f:=f) (u:=true) (s:=s) (k:=k) HP.out hz);generalize wd (fro f true s) k=Y at *;generalize wd f k=y at *;have HA2:=hid (show 2 ^ (s - 64 * (k+1)) - 1=0 by rw[show s - 64 * (k+1)=0 by omega]);generalize 2 ^ (s - 64 * k) - 1=aa at *;clear hlt64 hal;have hi0:(0:Int)≤(k:Int):=by omega
      have hi1:(k:Int) < (K:Int):=by omega
      by_cases hY:Y=0
      · have HN:=hid (HZ0.out hY)
        have hz1:((Y:Int) == 0)=true:=by simp;omega
        have hz2:((Y:Int) != 0)=false:=by simp;omega
        clear hY;clear HZ0 HZ1 hYl;go_wp2
        go_round
        case rel=>
         refine⟨k+1,by omega,by go_num,by rw[HA2.out];rfl,fun b h1 h2 h3=>?_⟩
         by_cases hb:b < 64 * k
         · exact HP.out b h1 hb h3
         · exact HN.out b (by omega) h2 h1
        case measure=>simp[intOf];omega
      · obtain⟨hnx,hc64⟩:=HZ1.out hY
        have hne:((Y:Int) == 0)=false:=by simp;omega
        have hne2:((Y:Int) != 0)=true:=by simp;omega
        have HTZ:=hid (tz_any Y hYl hY w HT.out);have HX:=hid hnx.next;clear hnx HZ0 HZ1 hYl hY;generalize Lib.ctz 64 Y=c at *
        obtain⟨v,hv⟩:∃ v:Nat,v=64 * k+c:=⟨_,rfl⟩
        rw[← hv] at HX;have hsum:(k:Int) * 64+(c:Int)=(v:Int):=by omega
        have HBN:=hid (blockOrNone_any H.out v);rw[HX.out] at HBN;have hv2:v≤100000:=by omega
        clear hv;go_wp2_with fail
        refine HTZ.out.mono ?_;rintro e w' ⟨rfl,rfl⟩;go_wp2_with fail
        refine HBN.out.mono ?_;rintro e w' ⟨rfl,rfl⟩;go_wp2
        go_ret
        exact⟨rfl,rfl⟩
    · have HX:=hid (Nx.next (.inl ⟨rfl,fun b h1 h2=>HP.out b h1 (by omega) h2⟩:Nx f true n s (-1)))
      go_wp2
      go_ret
      exact⟨by rw[← HX.out];rfl,rfl⟩
 · obtain rfl:x=(s:Int):=by omega
   clear hs;go_enter Tryz.func226,Tryz.ntmps226
   go_wp2_with (go_at_call 183;refine (HB.out _).mono ?_;rintro e w' ⟨rfl,rfl⟩)
   clear hsub
   go_loop [7,8] (fun a i=>∃ k:Nat,s / 64≤k∧i = .int .i64 (k:Int)∧a = .int .u64 ((2 ^ (s - 64 * k) - 1:Nat):Int)∧∀ b,s≤b→b < 64 * k→b < n→f b≠true) (fun _ i=>K - (intOf i).toNat)
   case atStart=>exact⟨s / 64,Nat.le_refl _,rfl,by rw[← HA.out],fun b h1 h2=>by omega⟩
   case round=>
    obtain⟨k,hk,rfl,rfl,hpre⟩:=hrel
    have HP:=hid hpre;clear hpre;by_cases hlt:k < K
    · have hrc:=H.out.row.cell hlt
      have hlt64:s - 64 * k < 64:=by omega
      have hal:2 ^ (s - 64 * k) - 1 < 18446744073709551616:=by have:=pow_lt64 hlt64;omega
      have han:=andNot_u64 _ _ (wd_lt (fun b=>f b == true) k) hal;rw[wd_fro f true s k hlt64,wd_used] at han;have hYl:=wd_lt (fro f true s) k;have HZ0:=hid (fun hz b h1 h2 h3=>fro_none (f:=f) (u:=true) (s:=s) (k:=k) hz b h1 h2 h3);have HZ1:=hid (fun hz=>fro_some (n:=n) (f:=f) (u:=true) (s:=s) (k:=k) HP.out hz);generalize wd (fro f true s) k=Y at *;generalize wd f k=y at *;have HA2:=hid (show 2 ^ (s - 64 * (k+1)) - 1=0 by rw[show s - 64 * (k+1)=0 by omega]);generalize 2 ^ (s - 64 * k) - 1=aa at *;clear hlt64 hal;have hi0:(0:Int)≤(k:Int):=by omega
      have hi1:(k:Int) < (K:Int):=by omega
      by_cases hY:Y=0
      · have HN:=hid (HZ0.out hY)
        have hz1:((Y:Int) == 0)=true:=by simp;omega
        have hz2:((Y:Int) != 0)=false:=by simp;omega
        clear hY;clear HZ0 HZ1 hYl;go_wp2
        go_round
        case rel=>
         refine⟨k+1,by omega,by go_num,by rw[HA2.out];rfl,fun b h1 h2 h3=>?_⟩
         by_cases hb:b < 64 * k
         · exact HP.out b h1 hb h3
         · exact HN.out b (by omega) h2 h1
        case measure=>simp[intOf];omega
      · obtain⟨hnx,hc64⟩:=HZ1.out hY
        have hne:((Y:Int) == 0)=false:=by simp;omega
        have hne2:((Y:Int) != 0)=true:=by simp;omega
        have HTZ:=hid (tz_any Y hYl hY w HT.out);have HX:=hid hnx.next;clear hnx HZ0 HZ1 hYl hY;generalize Lib.ctz 64 Y=c at *
        obtain⟨v,hv⟩:∃ v:Nat,v=64 * k+c:=⟨_,rfl⟩
        rw[← hv] at HX;have hsum:(k:Int) * 64+(c:Int)=(v:Int):=by omega
        have HBN:=hid (blockOrNone_any H.out v);rw[HX.out] at HBN;have hv2:v≤100000:=by omega
        clear hv;go_wp2_with fail
        refine HTZ.out.mono ?_;rintro e w' ⟨rfl,rfl⟩;go_wp2_with fail
        refine HBN.out.mono ?_;rintro e w' ⟨rfl,rfl⟩;go_wp2
        go_ret
        exact⟨rfl,rfl⟩
    · have HX:=hid (Nx.next (.inl ⟨rfl,fun b h1 h2=>HP.out b h1 (by omega) h2⟩:Nx f true n s (-1)))
      go_wp2
      go_ret
      exact⟨by rw[← HX.out];rfl,rfl⟩
theorem next_false (h:Mp w p q K C n f) (hT:Tab w) (x:Int) (s:Nat) (hs:(s:Int)=max x 0) (hx:x≤9223372036854775807) :
 Calls Tryz.prog 226 #[.pointer (some ⟨p,0,none⟩),.int .i64 x,.bool false] w fun e w'=>e = .returned (.int .i64 (next f false n s))∧w=w':=by
 have hc1:=h.c1;have hkk:=h.kk;have hmx:=h.max;have hs2:s≤9223372036854775807:=by omega
 have HB:=hid (fun w=>bitOf_any s hs2 w);have hp0:0 < 2 ^ (s % 64):=Nat.pow_pos (by omega);have hpl:=pow_lt64 (Nat.mod_lt s (show 64 > 0 by omega));have H:=hid h;have HT:=hid hT;clear h hT
 obtain⟨a0,ha0⟩:∃ a0:Nat,a0=2 ^ (s % 64) - 1:=⟨_,rfl⟩
 have hsub:IntKind.u64.wrap (((2 ^ (s % 64):Nat):Int) - 1)=(a0:Int):=by
  subst ha0;generalize 2 ^ (s % 64)=y at *;rw[IntKind.wrap_u64];omega
 have HA:=hid (show a0=2 ^ (s - 64 * (s / 64)) - 1 by rw[ha0,show s - 64 * (s / 64)=s % 64 by omega]);generalize 2 ^ (s % 64)=y0 at *;clear ha0 hp0 hpl
 rcases Int.lt_or_le x 0 with hn | hn
 · have hs0:s=0:=by omega
   have HZ:=hid hs0;have HB2:=hid (fun w=>show Calls Tryz.prog 183 #[.int .i64 0] w _ from hs0 ▸ HB.out w);clear hs hs0 HB
   rename Hid (∀ (w:World),Calls _ _ #[.int .i64 0] w _)=>HB
   go_enter Tryz.func226,Tryz.ntmps226
   go_wp2_with (go_at_call 183;refine (HB.out _).mono ?_;rintro e w' ⟨rfl,rfl⟩)
   clear hsub
   go_loop [7,8] (fun a i=>∃ k:Nat,s / 64≤k∧i = .int .i64 (k:Int)∧a = .int .u64 ((2 ^ (s - 64 * k) - 1:Nat):Int)∧∀ b,s≤b→b < 64 * k→b < n→f b≠false) (fun _ i=>K - (intOf i).toNat)
   case atStart=>exact⟨s / 64,Nat.le_refl _,by rw[HZ.out];rfl,by rw[← HA.out],fun b h1 h2=>by omega⟩
   case round=>
    obtain⟨k,hk,rfl,rfl,hpre⟩:=hrel
    have HP:=hid hpre;clear hpre;by_cases hlt:k < K
    · have hrc:=H.out.row.cell hlt
      have hlt64:s - 64 * k < 64:=by omega
      have hal:2 ^ (s - 64 * k) - 1 < 18446744073709551616:=by have:=pow_lt64 hlt64;omega
      have han:=andNot_u64 _ _ (wd_lt (fun b=>f b == false) k) hal;rw[wd_fro f false s k hlt64] at han;have hnot:=not_u64 (wd f k) (wd_lt f k);rw[wd_free] at hnot;have hnot2:bits BinOp.xor IntKind.u64 (if IntKind.u64.signed=true then -1 else IntKind.u64.max) (wd f k:Int)=(wd (fun b=>f b == false) k:Int):=hnot;generalize wd (fun b=>f b == false) k=nx at *;have hYl:=wd_lt (fro f false s) k;have HZ0:=hid (fun hz b h1 h2 h3=>fro_none (f:=f) (u:=false) (s:=s) (k:=k) hz b h1 h2 h3);have HZ1:=hid (fun hz=>fro_some (n:=n) (f:=f) (u:=false) (s:=s) (k:=k) HP.out hz);generalize wd (fro f false s) k=Y at *;generalize wd f k=y at *;have HA2:=hid (show 2 ^ (s - 64 * (k+1)) - 1=0 by rw[show s - 64 * (k+1)=0 by omega]);generalize 2 ^ (s - 64 * k) - 1=aa at *;clear hlt64 hal;have hi0:(0:Int)≤(k:Int):=by omega
      have hi1:(k:Int) < (K:Int):=by omega
      by_cases hY:Y=0
      · have HN:=hid (HZ0.out hY)
        have hz1:((Y:Int) == 0)=true:=by simp;omega
        have hz2:((Y:Int) != 0)=false:=by simp;omega
        clear hY;clear HZ0 HZ1 hYl;go_wp2
        go_round
        case rel=>
         refine⟨k+1,by omega,by go_num,by rw[HA2.out];rfl,fun b h1 h2 h3=>?_⟩
         by_cases hb:b < 64 * k
         · exact HP.out b h1 hb h3
         · exact HN.out b (by omega) h2 h1
        case measure=>simp[intOf];omega
      · obtain⟨hnx,hc64⟩:=HZ1.out hY
        have hne:((Y:Int) == 0)=false:=by simp;omega
        have hne2:((Y:Int) != 0)=true:=by simp;omega
        have HTZ:=hid (tz_any Y hYl hY w HT.out);have HX:=hid hnx.next;clear hnx HZ0 HZ1 hYl hY;generalize Lib.ctz 64 Y=c at *
        obtain⟨v,hv⟩:∃ v:Nat,v=64 * k+c:=⟨_,rfl⟩
        rw[← hv] at HX;have hsum:(k:Int) * 64+(c:Int)=(v:Int):=by omega
        have HBN:=hid (blockOrNone_any H.out v);rw[HX.out] at HBN;have hv2:v≤100000:=by omega
        clear hv;go_wp2_with fail
        refine HTZ.out.mono ?_;rintro e w' ⟨rfl,rfl⟩;go_wp2_with fail
        refine HBN.out.mono ?_;rintro e w' ⟨rfl,rfl⟩;go_wp2
        go_ret
        exact⟨rfl,rfl⟩
    · have HX:=hid (Nx.next (.inl ⟨rfl,fun b h1 h2=>HP.out b h1 (by omega) h2⟩:Nx f false n s (-1)))
      go_wp2
      go_ret
      exact⟨by rw[← HX.out];rfl,rfl⟩
 · obtain rfl:x=(s:Int):=by omega
   clear hs;go_enter Tryz.func226,Tryz.ntmps226
   go_wp2_with (go_at_call 183;refine (HB.out _).mono ?_;rintro e w' ⟨rfl,rfl⟩)
   clear hsub
   go_loop [7,8] (fun a i=>∃ k:Nat,s / 64≤k∧i = .int .i64 (k:Int)∧a = .int .u64 ((2 ^ (s - 64 * k) - 1:Nat):Int)∧∀ b,s≤b→b < 64 * k→b < n→f b≠false) (fun _ i=>K - (intOf i).toNat)
   case atStart=>exact⟨s / 64,Nat.le_refl _,rfl,by rw[← HA.out],fun b h1 h2=>by omega⟩
   case round=>
    obtain⟨k,hk,rfl,rfl,hpre⟩:=hrel
    have HP:=hid hpre;clear hpre;by_cases hlt:k < K
    · have hrc:=H.out.row.cell hlt
      have hlt64:s - 64 * k < 64:=by omega
      have hal:2 ^ (s - 64 * k) - 1 < 18446744073709551616:=by have:=pow_lt64 hlt64;omega
      have han:=andNot_u64 _ _ (wd_lt (fun b=>f b == false) k) hal;rw[wd_fro f false s k hlt64] at han;have hnot:=not_u64 (wd f k) (wd_lt f k);rw[wd_free] at hnot;have hnot2:bits BinOp.xor IntKind.u64 (if IntKind.u64.signed=true then -1 else IntKind.u64.max) (wd f k:Int)=(wd (fun b=>f b == false) k:Int):=hnot;generalize wd (fun b=>f b == false) k=nx at *;have hYl:=wd_lt (fro f false s) k;have HZ0:=hid (fun hz b h1 h2 h3=>fro_none (f:=f) (u:=false) (s:=s) (k:=k) hz b h1 h2 h3);have HZ1:=hid (fun hz=>fro_some (n:=n) (f:=f) (u:=false) (s:=s) (k:=k) HP.out hz);generalize wd (fro f false s) k=Y at *;generalize wd f k=y at *;have HA2:=hid (show 2 ^ (s - 64 * (k+1)) - 1=0 by rw[show s - 64 * (k+1)=0 by omega]);generalize 2 ^ (s - 64 * k) - 1=aa at *;clear hlt64 hal;have hi0:(0:Int)≤(k:Int):=by omega
      have hi1:(k:Int) < (K:Int):=by omega
      by_cases hY:Y=0
      · have HN:=hid (HZ0.out hY)
        have hz1:((Y:Int) == 0)=true:=by simp;omega
        have hz2:((Y:Int) != 0)=false:=by simp;omega
        clear hY;clear HZ0 HZ1 hYl;go_wp2
        go_round
        case rel=>
         refine⟨k+1,by omega,by go_num,by rw[HA2.out];rfl,fun b h1 h2 h3=>?_⟩
         by_cases hb:b < 64 * k
         · exact HP.out b h1 hb h3
         · exact HN.out b (by omega) h2 h1
        case measure=>simp[intOf];omega
      · obtain⟨hnx,hc64⟩:=HZ1.out hY
        have hne:((Y:Int) == 0)=false:=by simp;omega
        have hne2:((Y:Int) != 0)=true:=by simp;omega
        have HTZ:=hid (tz_any Y hYl hY w HT.out);have HX:=hid hnx.next;clear hnx HZ0 HZ1 hYl hY;generalize Lib.ctz 64 Y=c at *
        obtain⟨v,hv⟩:∃ v:Nat,v=64 * k+c:=⟨_,rfl⟩
        rw[← hv] at HX;have hsum:(k:Int) * 64+(c:Int)=(v:Int):=by omega
        have HBN:=hid (blockOrNone_any H.out v);rw[HX.out] at HBN;have hv2:v≤100000:=by omega
        clear hv;go_wp2_with fail
        refine HTZ.out.mono ?_;rintro e w' ⟨rfl,rfl⟩;go_wp2_with fail
        refine HBN.out.mono ?_;rintro e w' ⟨rfl,rfl⟩;go_wp2
        go_ret
        exact⟨rfl,rfl⟩
    · have HX:=hid (Nx.next (.inl ⟨rfl,fun b h1 h2=>HP.out b h1 (by omega) h2⟩:Nx f false n s (-1)))
      go_wp2
      go_ret
      exact⟨by rw[← HX.out];rfl,rfl⟩
theorem next_any (h:Mp w p q K C n f) (hT:Tab w) (x:Int) (u:Bool) (hx:x≤9223372036854775807) :
 Calls Tryz.prog 226 #[.pointer (some ⟨p,0,none⟩),.int .i64 x,.bool u] w fun e w'=>e = .returned (.int .i64 (next f u n x.toNat))∧w=w':=by
 cases u
 · exact next_false h hT x x.toNat (by omega) hx
 · exact next_true h hT x x.toNat (by omega) hx
end
end Bm
end
section
open Lib (hid)
open Go.RowKit Go.MapKept
namespace Bm
open Pack (Wds Nts)
section
variable {w : World} {p q K C n : Nat} {f : Nat → Bool}
theorem nts_new (w:World) (x:Int) (h1:-9223372036854775808≤x) (h2:x≤9223372036854775807) (hq:q < w.heap.size):∀ w',Chg q (w.alloc (.cells #[.int .i64 x] 3)) w'→Nts w' (some ⟨w.heap.size,0,none⟩) [x]:=fun w' hc=>
 ⟨fun y hy=>by
   obtain rfl:y=x:=by simpa using hy
   exact⟨h1,h2⟩,by simp,fun j hj=>by
   obtain rfl:j=0:=by simpa using hj
   refine⟨w.heap.size,0,rfl,Nat.lt_of_lt_of_le (by simp) hc.size,?_⟩
   rw[hc.cell (p:=⟨w.heap.size,0+0,none⟩) (by simp) (by simp;omega)];exact Pack.alloc_cell _ _ _ _⟩
theorem tn_one (n:Nat) (is:Bool) (f:Nat→Bool) (x:Int):tn n is f [x]=(trn n is f x,if trd n is f x then 1 else 0):=by
 simp[tn,tnp]
theorem put1_any (h:Mp w p q K C n f) (x:Int) (h1:-9223372036854775808≤x) (h2:x≤9223372036854775807) (c:Nat) :
 Calls Tryz.prog 117 #[.pointer (some ⟨p,0,none⟩),.slice (some ⟨w.heap.size,0,none⟩) 1 c] (w.alloc (.cells #[.int .i64 x] 3)) fun e w'=>e = .returned (.int .i64 ((if trd n true f x then 1 else 0:Nat):Int))∧Mp w' p q K C n (trn n true f x)∧Chg q w w':=by
 have hm:=h.keep ((Below.refl _ _).alloc (Nat.le_refl _) (.cells #[.int .i64 x] 3))
 have:=put_any hm (some ⟨w.heap.size,0,none⟩) c [x] (nts_new w x h1 h2 h.row.lt)
 rw[tn_one] at this;exact this.mono fun e w' ⟨he,hM,hC⟩=>⟨he,hM,((Chg.refl q w).alloc _).trans hC⟩
def fill (f:Nat→Bool) (s e b:Nat):Bool:=f b || decide (s≤b∧b < e)
theorem trn_in {b:Nat} (hb:b < n) (is:Bool):trn n is f (b:Int)=upd f b is:=by
 funext x
 unfold trn
 split
 · rw[Int.toNat_natCast]
 · rename_i h
   unfold trd at h;rw[Int.toNat_natCast,decide_eq_true (by omega:(0:Int)≤(b:Int)∧(b:Int) < (n:Int))] at h;have h':f b=is:=by simpa using h
   unfold upd
   split
   · rename_i e;rw[e,h']
   · rfl
theorem fill_step (s b:Nat) (hs:s≤b):upd (fill f s b) b true=fill f s (b+1):=by
 funext x
 unfold upd fill;by_cases hx:x=b
 · subst hx
   rw[if_pos rfl,decide_eq_true (by omega)];simp
 · rw[if_neg hx]
   have:decide (s≤x∧x < b)=decide (s≤x∧x < b+1):=by rw[decide_eq_decide];omega
   rw[this]
theorem fill_none (s:Nat):fill f s s=f:=by
 funext x
 unfold fill;rw[decide_eq_false (by omega)];simp
def rgb (n:Nat) (f:Nat→Bool) (s c:Int):Bool:=decide (0≤s∧s < (n:Int)∧1≤c∧c≤(n:Int) - s) && decide (next f true n s.toNat = -1∨s+c≤next f true n s.toNat)
theorem rgb_iff {s c:Int}:rgb n f s c=true↔(0≤s∧1≤c∧s+c≤(n:Int))∧∀ b:Nat,s≤(b:Int)→(b:Int) < s+c→f b=false:=by
 unfold rgb;rw[Bool.and_eq_true,decide_eq_true_eq,decide_eq_true_eq]
 constructor
 · rintro ⟨h,h2⟩
   refine⟨by omega,fun b h3 h4=>?_⟩
   rcases next_is f true n s.toNat with ⟨e,g⟩ | ⟨d,e,_,_,_,g⟩
   · have:=g b (by omega) (by omega)
     simpa using this
   · have:=g b (by omega) (by omega)
     simpa using this
 · rintro ⟨h,g⟩
   refine⟨by omega,?_⟩
   rcases next_is f true n s.toNat with ⟨e,_⟩ | ⟨d,e,h1,h2,h3,_⟩
   · exact .inl e
   · refine .inr ?_
     rcases Int.lt_or_le (next f true n s.toNat) (s+c) with hl | hl
     · have:=g d (by omega) (by omega)
       rw[h3] at this
       cases this
     · exact hl
def rgf (n:Nat) (f:Nat→Bool) (s c:Int):Nat→Bool:=if rgb n f s c then fill f s.toNat (s+c).toNat else f
theorem range_any (h:Mp w p q K C n f) (hT:Tab w) (s c:Int) (hs1:-9223372036854775808≤s) (hs2:s≤9223372036854775807) (hc1:-9223372036854775808≤c) (hc2:c≤9223372036854775807) :
 Calls Tryz.prog 228 #[.pointer (some ⟨p,0,none⟩),.int .i64 s,.int .i64 c] w fun e w'=>e = .returned (.bool (rgb n f s c))∧Mp w' p q K C n (rgf n f s c)∧Chg q w w':=by
 have hmx:=h.max;have hc0:=h.c0;have H:=hid h;clear h;unfold rgf;by_cases hin:s < 0∨(n:Int)≤s
 · have hr:rgb n f s c=false:=by unfold rgb;rw[decide_eq_false (by omega)];rfl
   rw[hr];have HI:=hid (isBlock_no H.out s hin);clear hin hr hT;go_enter Tryz.func228,Tryz.ntmps228
   go_wp2_with fail
   refine HI.out.mono ?_;rintro e w' ⟨rfl,rfl⟩;go_wp2
   go_ret
   exact⟨rfl,H.out,Chg.refl _ _⟩
 · obtain⟨a,rfl⟩:=Int.eq_ofNat_of_zero_le (show 0≤s by omega)
   have ha:a < n:=by omega
   have HI:=hid (isBlock_yes H.out a ha);clear hin;by_cases hcc:1≤c∧c≤(n:Int) - (a:Int)
   · obtain⟨k,rfl⟩:=Int.eq_ofNat_of_zero_le (show 0≤c by omega)
     have hk1:¬ (k:Int) < 1:=by omega
     have hk2:¬ (n:Int) - (a:Int) < (k:Int):=by omega
     have hx:=next_lt f true n a;have HN:=hid (next_any H.out hT (a:Int) true (by omega));rw[Int.toNat_natCast] at HN
     have hrg:rgb n f (a:Int) (k:Int)=decide (next f true n a = -1∨(a:Int)+(k:Int)≤next f true n a):=by
      unfold rgb;rw[decide_eq_true (by omega),Int.toNat_natCast];rfl
     rw[hrg];clear hrg hT;generalize next f true n a=r at *;have hsum:(a:Int)+(k:Int)≤65534:=by omega
     by_cases hr:r = -1∨(a:Int)+(k:Int)≤r
     · rw[decide_eq_true hr,if_pos rfl]
       have HE:=hid (show ((a:Int)+(k:Int)).toNat=a+k by omega);go_enter Tryz.func228,Tryz.ntmps228
       go_wp2_with fail
       refine HI.out.mono ?_;rintro e w' ⟨rfl,rfl⟩;go_wp2_with fail
       refine HN.out.mono ?_;rintro e w' ⟨rfl,rfl⟩;by_cases hm1:r = -1
       · subst hm1
         clear hr hx;go_wp2
         go_loopw [9] (fun i wr=>∃ b:Nat,a≤b∧b≤a+k∧i = .int .i64 (b:Int)∧Mp wr p q K C n (fill f a b)∧Chg q w wr) (fun i _=>a+k - (intOf i).toNat)
         case atStart=>exact⟨a,Nat.le_refl _,by omega,rfl,by rw[fill_none];exact H.out,Chg.refl _ _⟩
         case round=>
          obtain⟨b,hb1,hb2,rfl,hM,hC⟩:=hrel
          by_cases hlt:b < a+k
          · have hb0:(b:Int) < (a:Int)+(k:Int):=by omega
            have hp:=put1_any hM (b:Int) (by omega) (by omega) 1;rw[trn_in (by omega:b < n),fill_step a b hb1] at hp;have HP:=hid hp;have HC:=hid hC;clear hM hC hp;go_wp2_with fail
            refine HP.out.mono ?_;rintro e w' ⟨rfl,hM,hC⟩;have HM2:=hid hM;have HC2:=hid (HC.out.trans hC);clear hM hC;go_wp2
            refine⟨⟨b+1,by omega,by omega,by go_num,HM2.out,HC2.out⟩,by simp[intOf];omega⟩
          · obtain rfl:b=a+k:=by omega
            have HM:=hid hM;have HC:=hid hC;clear hM hC;have hb0:¬ ((a+k:Nat):Int) < (a:Int)+(k:Int):=by omega
            go_wp2
            go_ret
            exact⟨rfl,by rw[HE.out];exact HM.out,HC.out⟩
       · have hm2:¬ r < (a:Int)+(k:Int):=by omega
         clear hr hx;go_wp2
         go_loopw [9] (fun i wr=>∃ b:Nat,a≤b∧b≤a+k∧i = .int .i64 (b:Int)∧Mp wr p q K C n (fill f a b)∧Chg q w wr) (fun i _=>a+k - (intOf i).toNat)
         case atStart=>exact⟨a,Nat.le_refl _,by omega,rfl,by rw[fill_none];exact H.out,Chg.refl _ _⟩
         case round=>
          obtain⟨b,hb1,hb2,rfl,hM,hC⟩:=hrel
          by_cases hlt:b < a+k
          · have hb0:(b:Int) < (a:Int)+(k:Int):=by omega
            have hp:=put1_any hM (b:Int) (by omega) (by omega) 1;rw[trn_in (by omega:b < n),fill_step a b hb1] at hp;have HP:=hid hp;have HC:=hid hC;clear hM hC hp;go_wp2_with fail
            refine HP.out.mono ?_;rintro e w' ⟨rfl,hM,hC⟩;have HM2:=hid hM;have HC2:=hid (HC.out.trans hC);clear hM hC;go_wp2
            refine⟨⟨b+1,by omega,by omega,by go_num,HM2.out,HC2.out⟩,by simp[intOf];omega⟩
          · obtain rfl:b=a+k:=by omega
            have HM:=hid hM;have HC:=hid hC;clear hM hC;have hb0:¬ ((a+k:Nat):Int) < (a:Int)+(k:Int):=by omega
            go_wp2
            go_ret
            exact⟨rfl,by rw[HE.out];exact HM.out,HC.out⟩
     · rw[decide_eq_false hr,if_neg (by simp)]
       have hm1:¬ r = -1:=by omega
       have hm2:r < (a:Int)+(k:Int):=by omega
       clear hr hx;go_enter Tryz.func228,Tryz.ntmps228
       go_wp2_with fail
       refine HI.out.mono ?_;rintro e w' ⟨rfl,rfl⟩;go_wp2_with fail
       refine HN.out.mono ?_;rintro e w' ⟨rfl,rfl⟩;go_wp2
       go_ret
       exact⟨rfl,H.out,Chg.refl _ _⟩
   · have hr:rgb n f (a:Int) c=false:=by unfold rgb;rw[decide_eq_false (by omega)];rfl
     rw[hr];by_cases hk1:c < 1
     · clear hr hT hcc
       go_enter Tryz.func228,Tryz.ntmps228
       go_wp2_with fail
       refine HI.out.mono ?_;rintro e w' ⟨rfl,rfl⟩;go_wp2
       go_ret
       exact⟨rfl,H.out,Chg.refl _ _⟩
     · have hk2:(n:Int) - (a:Int) < c:=by omega
       clear hr hT hcc;go_enter Tryz.func228,Tryz.ntmps228
       go_wp2_with fail
       refine HI.out.mono ?_;rintro e w' ⟨rfl,rfl⟩;go_wp2
       go_ret
       exact⟨rfl,H.out,Chg.refl _ _⟩
end
end Bm
end
end Go.Proofs.YtlodpaaanfjkeaaGreatDoor
