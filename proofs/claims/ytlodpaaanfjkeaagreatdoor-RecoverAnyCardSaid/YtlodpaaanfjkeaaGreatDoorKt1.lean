/- Texts laid together: VolMath, GeoMath, GeoStep, GeoAt, GeoSome, GeoMay, GeoCalls, GeoBits, GeoLives, GeoRef, CrcMath, CrcRev, CrcStep, CrcSum, CrcLives, CrcRef, CrcWords, CrcText, CrcTurn, PackNum. -/
import Derived.Test.YtlodpaaanfjkeaaGreatDoorRows
import Derived.WalkKit
import Derived.ProofKit
import Derived.Lib.Hide
import Derived.Lib.SlicesCompact
import Derived.Laws.BitsAllLaws
import Derived.IntWalk
import Derived.MapKept
import Derived.Deep.RegionHeld3
import Derived.BigCall
import Derived.KernelRfl
import Derived.Maps.AppendAt
import Derived.Laws.IdiomStrings
import Derived.Laws.BytesArg
import Derived.OwnWalk
import Derived.Test.YtlodpaaanfjkeaaGreatDoorKa1
set_option maxRecDepth 100000
set_option maxHeartbeats 2000000
namespace Go.Proofs.YtlodpaaanfjkeaaGreatDoor
section
open Go.RowKit Go.MapKept
namespace Vol
def puts (W:List Nat) (l:List (Nat × Nat)):List Nat:=l.foldl (fun W p=>W.set p.1 p.2) W
def sto (at0:Nat) (l:List Nat):List (Nat × Nat):=(List.range l.length).map fun k=>(at0+k,l[k]?.getD 0)
def rdw (W:List Nat) (at0 n:Nat):List Nat:=(List.range n).map fun i=>W[at0+i]?.getD 0
theorem puts_nil (W:List Nat):puts W []=W:=rfl
theorem puts_snoc (W:List Nat) (l:List (Nat × Nat)) (p:Nat × Nat):puts W (l++[p])=(puts W l).set p.1 p.2:=by
 unfold puts;rw[List.foldl_append];rfl
theorem puts_step (W:List Nat) (l:List (Nat × Nat)) (k:Nat) (h:k < l.length):puts W (l.take (k+1))=(puts W (l.take k)).set l[k].1 l[k].2:=by
 rw[List.take_succ_eq_append_getElem h,puts_snoc]
theorem puts_len (W:List Nat) (l:List (Nat × Nat)):(puts W l).length=W.length:=by
 induction l generalizing W with
 | nil=>rfl
 | cons p r ih=>
   show (puts (W.set p.1 p.2) r).length=_
   rw[ih,List.length_set]
theorem sto_len (at0:Nat) (l:List Nat):(sto at0 l).length=l.length:=by simp[sto]
theorem sto_get (at0:Nat) (l:List Nat) (k:Nat) (h:k < (sto at0 l).length):(sto at0 l)[k]=(at0+k,l[k]?.getD 0):=by simp[sto]
theorem sto_lt {at0 L:Nat} {l:List Nat} (h:at0+l.length≤L):∀ p∈sto at0 l,p.1 < L:=by
 intro p hp
 obtain⟨k,hk,rfl⟩:=List.mem_map.1 hp
 rw[List.mem_range] at hk;simp only;omega
theorem sto_u64 {at0:Nat} {l:List Nat} (h:∀ x∈l,x < 18446744073709551616):∀ p∈sto at0 l,p.2 < 18446744073709551616:=by
 intro p hp
 obtain⟨k,hk,rfl⟩:=List.mem_map.1 hp
 rw[List.mem_range] at hk;simp only;rw[List.getElem?_eq_getElem hk];exact h _ (List.getElem_mem hk)
theorem puts_get (W:List Nat) (at0:Nat) (l:List Nat) (h:at0+l.length≤W.length) (k:Nat) (hk:k≤l.length) (j:Nat) :
 (puts W ((sto at0 l).take k))[j]?.getD 0=if at0≤j∧j < at0+k then l[j - at0]?.getD 0 else W[j]?.getD 0:=by
 induction k with
 | zero=>rw[List.take_zero,puts_nil,if_neg (by omega)]
 | succ k ih=>
   have hk2:k < (sto at0 l).length:=by rw[sto_len];omega
   rw[puts_step W _ k hk2,sto_get];simp only;by_cases e:j=at0+k
   · subst e
     rw[List.getElem?_set_self (by rw[puts_len];omega),if_pos (by omega),Nat.add_sub_cancel_left];rfl
   · rw[List.getElem?_set_ne (by omega),ih (by omega)]
     by_cases h1:at0≤j∧j < at0+k
     · rw[if_pos h1,if_pos (by omega)]
     · rw[if_neg h1,if_neg (by omega)]
theorem putw_get (W:List Nat) (at0:Nat) (l:List Nat) (h:at0+l.length≤W.length) (j:Nat) :
 (puts W (sto at0 l))[j]?.getD 0=if at0≤j∧j < at0+l.length then l[j - at0]?.getD 0 else W[j]?.getD 0:=by
 have:=puts_get W at0 l h l.length (Nat.le_refl _) j
 rwa [List.take_of_length_le (by rw[sto_len];exact Nat.le_refl _)] at this
theorem rdw_len (W:List Nat) (at0 n:Nat):(rdw W at0 n).length=n:=by simp[rdw]
theorem rdw_get (W:List Nat) (at0 n k:Nat) (h:k < (rdw W at0 n).length):(rdw W at0 n)[k]=W[at0+k]?.getD 0:=by simp[rdw]
theorem rdw_u64 {W:List Nat} (h:∀ x∈W,x < 18446744073709551616) (at0 n:Nat):∀ x∈rdw W at0 n,x < 18446744073709551616:=by
 intro x hx
 obtain⟨k,_,rfl⟩:=List.mem_map.1 hx
 rcases Nat.lt_or_ge (at0+k) W.length with h1 | h1
 · rw[List.getElem?_eq_getElem h1]
   exact h _ (List.getElem_mem h1)
 · rw[List.getElem?_eq_none h1]
   decide
theorem rdw_slice {W:List Nat} {at0 n:Nat} (h:at0+n≤W.length):rdw W at0 n=(W.drop at0).take n:=by
 refine List.ext_getElem (by rw[rdw_len];simp;omega) (fun i h1 h2=>?_);rw[rdw_len] at h1;rw[rdw_get,List.getElem_take,List.getElem_drop,List.getElem?_eq_getElem (by omega)];rfl
def lin (l:List (Nat × Nat)):List Int:=l.map fun p=>((p.1 / 8:Nat):Int)
def lns (l:List (Nat × Nat)):List Int:=Lib.compact (lin l)
theorem lin_len (l:List (Nat × Nat)):(lin l).length=l.length:=by simp[lin]
theorem lin_get (l:List (Nat × Nat)) (k:Nat) (h:k < (lin l).length):(lin l)[k]=((l[k]'(by rwa [lin_len] at h)).1 / 8:Nat):=by simp[lin]
theorem upto_mem {α:Type} [Inhabited α] [DecidableEq α] (d:Array α):∀ m,m≤d.size→∀ x∈Lib.compactUpTo d m,x∈d.toList:=by
 intro m hm x hx;unfold Lib.compactUpTo at hx
 obtain⟨j,hj,rfl⟩:=List.mem_map.1 hx
 have hj:=List.mem_range.1 (List.mem_filter.1 hj).1;rw[getElem!_pos d j (by omega)];simp
theorem lns_mem (l:List (Nat × Nat)):∀ x∈lns l,∃ p∈l,x=((p.1 / 8:Nat):Int):=by
 intro x hx
 have:=upto_mem (lin l).toArray (lin l).length (by simp) x hx
 simp only at this
 obtain⟨p,hp,rfl⟩:=List.mem_map.1 this
 exact⟨p,hp,rfl⟩
theorem upto_has {α:Type} [Inhabited α] [DecidableEq α] (d:Array α) (m:Nat):∀ j,j < m→d[j]!∈Lib.compactUpTo d m:=by
 intro j
 induction j with
 | zero=>
   intro hj;exact List.mem_map.2 ⟨0,List.mem_filter.2 ⟨List.mem_range.2 hj,Lib.keeps_lt_one d 0 (by omega)⟩,rfl⟩
 | succ j ih=>
   intro hj;by_cases h:d[j+1]! = d[j+1 - 1]!
   · rw[h]
     exact ih (by omega)
   · exact List.mem_map.2 ⟨j+1,List.mem_filter.2 ⟨List.mem_range.2 hj,Lib.keeps_pos h⟩,rfl⟩
theorem lns_has {l:List (Nat × Nat)} {p:Nat × Nat} (h:p∈l):((p.1 / 8:Nat):Int)∈lns l:=by
 obtain⟨j,hj,rfl⟩:=List.getElem_of_mem h
 have h1:=upto_has (lin l).toArray (lin l).length j (by rw[lin_len];exact hj);rw[getElem!_pos _ _ (by rw[List.size_toArray,lin_len];exact hj),List.getElem_toArray,lin_get l j (by rw[lin_len];exact hj)] at h1;exact h1
theorem lns_le (l:List (Nat × Nat)):(lns l).length≤l.length:=by
 unfold lns Lib.compact Lib.compactUpTo;rw[List.length_map];refine Nat.le_trans (List.length_filter_le _ _) ?_;rw[List.length_range,lin_len];exact Nat.le_refl _
end Vol
end
section
namespace Geo
def Sz (s:Int):Prop:=s=64∨s=128∨s=256∨s=512∨s=1024∨s=2048∨s=4096
instance (s:Int):Decidable (Sz s):=by unfold Sz;infer_instance
def Num (n m s:Int):Prop:=(1≤n∧n≤65534)∧(1≤m∧m≤65534)∧Sz s
instance (n m s:Int):Decidable (Num n m s):=by unfold Num;infer_instance
def lines (c:Int):Int:=(c+7) / 8 * 8
def bmAt (n m:Int):Int:=16+m * 8+lines n
def bkAt (n m:Int):Int:=bmAt n m+lines ((n+63) / 64)
def fin (n m s:Int):Int:=bkAt n m+n * (s / 8)
def may (n m s:Int):Bool:=decide (Num n m s∧fin n m s≤4194304)
def prt (c e:Int):Int:=c / e+if c % e=0 then 0 else 1
theorem prt8 (c:Int):prt c 8 * 8=lines c:=by
 unfold prt lines
 split<;>omega
theorem prt64 (c:Int):prt c 64=(c+63) / 64:=by
 unfold prt
 split<;>omega
theorem Sz.bounds {s:Int} (h:Sz s):64≤s∧s≤4096∧8≤s / 8∧s / 8≤512∧s / 8 * 8=s:=by
 rcases h with rfl | rfl | rfl | rfl | rfl | rfl | rfl<;>decide
theorem bm_bounds {n m:Int} (h1:1≤n∧n≤65534) (h2:1≤m∧m≤65534):16+m * 8+n≤bmAt n m∧bmAt n m≤16+m * 8+n+7∧bmAt n m≤600000∧bmAt n m % 8=0:=by
 unfold bmAt lines;omega
theorem bk_bounds {n m:Int} (h1:1≤n∧n≤65534) (h2:1≤m∧m≤65534):bmAt n m+(n+63) / 64≤bkAt n m∧bkAt n m≤bmAt n m+(n+63) / 64+7∧bkAt n m≤610000∧bkAt n m % 8=0∧0≤bkAt n m:=by
 have:=bm_bounds h1 h2
 unfold bkAt lines;omega
theorem mul_bounds {i q a b:Int} (h1:0≤i) (h2:i≤a) (h3:0≤q) (h4:q≤b):0≤i * q∧i * q≤a * b:=
 ⟨Int.mul_nonneg h1 h3,Int.mul_le_mul h2 h4 h3 (Int.le_trans h1 h2)⟩
theorem fin_bounds {n m s:Int} (h1:1≤n∧n≤65534) (h2:1≤m∧m≤65534) (h3:Sz s):0≤fin n m s∧fin n m s≤40000000∧0≤n * (s / 8)∧n * (s / 8)≤33553408:=by
 have hs:=h3.bounds;have h4:=mul_bounds (i:=n) (a:=65534) (q:=s / 8) (b:=512) (by omega) (by omega) (by omega) (by omega);have h5:=bk_bounds h1 h2;unfold fin;omega
theorem may_num {n m s:Int} (h:may n m s=true):Num n m s∧fin n m s≤4194304:=of_decide_eq_true h
theorem may_yes {n m s:Int} (h:Num n m s∧fin n m s≤4194304):may n m s=true:=decide_eq_true h
theorem may_no {n m s:Int} (h:¬ (Num n m s∧fin n m s≤4194304)):may n m s=false:=decide_eq_false h
theorem prt_bounds {c e:Int} (h:0≤c) (he:0 < e):0≤c / e∧c / e≤c:=⟨Int.ediv_nonneg h (by omega),Int.ediv_le_self _ h⟩
theorem and_size':∀ (a:Fin 65) (b:Fin 64),(Nat.land (64 * a.val+b.val) (64 * a.val+b.val - 1)=0↔64 * a.val+b.val < 64∧Nat.land b.val (b.val - 1)=0∨(64 * a.val+b.val=64∨64 * a.val+b.val=128∨64 * a.val+b.val=256∨64 * a.val+b.val=512∨64 * a.val+b.val=1024∨64 * a.val+b.val=2048∨64 * a.val+b.val=4096)):=by decide +kernel
end Geo
end
section
open Lib (hid)
open Go.RowKit Go.MapKept
namespace Geo
def I64 (n:Int):Prop:=-9223372036854775808≤n∧n≤9223372036854775807
theorem within_any (w:World) (n a b:Int) :
 Calls Tryz.prog 125 #[.int .i64 n,.int .i64 a,.int .i64 b] w fun e w'=>e = .returned (.bool (decide (a≤n∧n≤b)))∧w=w':=by
 go_enter Tryz.func125,Tryz.ntmps125
 go_wp2
 · rename_i h
   go_ret
   exact⟨by simp[h],rfl⟩
 · rename_i h
   go_ret
   refine⟨?_,rfl⟩
   have:¬ a≤n:=by omega
   simp[this]
theorem size_bits (s:Int) (h1:64≤s) (h2:s≤4096):(bits .and .i64 s (s - 1)=0)↔Sz s:=by
 obtain⟨k,rfl⟩:=Int.eq_ofNat_of_zero_le (show 0≤s by omega)
 have hk:k < 4097:=by omega
 have e1:(BitVec.ofInt 64 (k:Int)).toNat=k:=by rw[BitVec.ofInt_natCast,BitVec.toNat_ofNat];exact Nat.mod_eq_of_lt (by omega)
 have e2:(BitVec.ofInt 64 ((k:Int) - 1)).toNat=k - 1:=by
  have:((k:Int) - 1)=((k - 1:Nat):Int):=by omega
  rw[this,BitVec.ofInt_natCast,BitVec.toNat_ofNat];exact Nat.mod_eq_of_lt (by omega)
 have e:bits .and .i64 (k:Int) ((k:Int) - 1)=((Nat.land k (k - 1):Nat):Int):=by
  show IntKind.i64.wrap ((BitVec.ofInt 64 (k:Int) &&& BitVec.ofInt 64 ((k:Int) - 1)).toNat:Int)=_
  rw[BitVec.toNat_and,e1,e2];have hl:k &&& (k - 1)≤k:=Nat.and_le_left;have hl':Nat.land k (k - 1)=k &&& (k - 1):=rfl;rw[hl',IntKind.wrap_i64];omega
 rw[e];have ha:=and_size' ⟨k / 64,by omega⟩ ⟨k % 64,by omega⟩;have hq:64 * (k / 64)+k % 64=k:=by omega
 simp only[hq] at ha;unfold Sz
 constructor
 · intro h
   have h':Nat.land k (k - 1)=0:=by omega
   rcases ha.1 h' with h | h
   · omega
   · omega
 · intro h
   have:=ha.2 (.inr (by omega))
   omega
theorem size_any (w:World) (s:Int) :
 Calls Tryz.prog 126 #[.int .i64 s] w fun e w'=>e = .returned (.bool (decide (Sz s)))∧w=w':=by
 have HW:=hid (within_any w s 64 4096);by_cases h:64≤s∧s≤4096
 · obtain⟨h1,h2⟩:=h
   have HS:=hid (size_bits s h1 h2);go_enter Tryz.func126,Tryz.ntmps126
   go_wp2_with fail
   refine HW.out.mono ?_;rintro e w' ⟨rfl,rfl⟩;rw[decide_eq_true (show 64≤s∧s≤4096 from ⟨h1,h2⟩)];go_wp2
   go_ret
   refine⟨?_,rfl⟩
   have:=HS.out
   by_cases hz:Sz s
   · rw[decide_eq_true hz,this.2 hz];rfl
   · rw[decide_eq_false hz]
     have h0:¬ bits .and .i64 s (s - 1)=0:=fun h=>hz (this.1 h)
     simp[h0]
 · have hn:¬ Sz s:=fun h'=>h ⟨h'.bounds.1,h'.bounds.2.1⟩
   go_enter Tryz.func126,Tryz.ntmps126
   go_wp2_with fail
   refine HW.out.mono ?_;rintro e w' ⟨rfl,rfl⟩;rw[decide_eq_false h];go_wp2
   go_ret
   exact⟨by rw[decide_eq_false hn];rfl,rfl⟩
theorem parts_any (w:World) (c e:Int) (h0:0≤c) (h1:c≤9223372036854775807) (he2:2≤e) :
 Calls Tryz.prog 116 #[.int .i64 c,.int .i64 e] w fun r w'=>r = .returned (.int .i64 (prt c e))∧w=w':=by
 have hq:=prt_bounds h0 (show 0 < e by omega)
 have hq2:c / e≤4611686018427387903:=by
  have h2:c / e * e≤c:=Int.ediv_mul_le c (by omega);have h3:c / e * 2≤c / e * e:=Int.mul_le_mul_of_nonneg_left he2 hq.1;omega
 by_cases hz:c % e=0
 · go_enter Tryz.func116,Tryz.ntmps116
   go_wp2
   go_ret
   exact⟨by unfold prt;rw[if_pos hz];simp,rfl⟩
 · go_enter Tryz.func116,Tryz.ntmps116
   go_wp2
   go_ret
   exact⟨by unfold prt;rw[if_neg hz];rfl,rfl⟩
theorem parts_some (w:World) (c e:Int) (h:I64 c) (he:e=8∨e=64) :
 Calls Tryz.prog 116 #[.int .i64 c,.int .i64 e] w fun r w'=>(∃ v,r = .returned (.int .i64 v)∧I64 v)∧w=w':=by
 obtain⟨h1,h2⟩:=h
 by_cases h0:0≤c
 · refine (parts_any w c e h0 h2 (by omega)).mono ?_
   rintro r w' ⟨rfl,rfl⟩
   refine⟨⟨_,rfl,?_⟩,rfl⟩
   unfold I64 prt
   rcases he with rfl | rfl<;>(split<;>omega)
 · have hd:-9223372036854775808≤c.tdiv e∧c.tdiv e≤0:=by
    obtain⟨k,rfl⟩:∃ k:Nat,c = -(k:Int):=⟨(-c).toNat,by omega⟩
    rw[Int.neg_tdiv]
    rcases he with rfl | rfl
    · have:((k:Int)).tdiv 8=(k:Int) / 8:=Int.tdiv_eq_ediv_of_nonneg (by omega)
      omega
    · have:((k:Int)).tdiv 64=(k:Int) / 64:=Int.tdiv_eq_ediv_of_nonneg (by omega)
      omega
   have he1:1≤e:=by omega
   have he2:¬ e=0:=by omega
   clear he;go_enter Tryz.func116,Tryz.ntmps116
   go_wp2
   · go_ret
     exact⟨⟨_,rfl,by unfold I64;omega⟩,rfl⟩
   · go_ret
     exact⟨⟨_,rfl,by unfold I64;omega⟩,rfl⟩
theorem filled_any (w:World) (c:Int) (h0:0≤c) (h1:c≤1000000) :
 Calls Tryz.prog 128 #[.int .i64 c] w fun r w'=>r = .returned (.int .i64 (lines c))∧w=w':=by
 have HP:=hid (parts_any w c 8 h0 (by omega) (by omega));have HE:=hid (prt8 c);have hb:0≤prt c 8∧prt c 8≤1000000:=by unfold prt;split<;>omega
 go_enter Tryz.func128,Tryz.ntmps128
 go_wp2_with fail
 refine HP.out.mono ?_;rintro e w' ⟨rfl,rfl⟩;go_wp2
 go_ret
 exact⟨by rw[← HE.out];rfl,rfl⟩
theorem i64_wrap (x:Int):I64 (IntKind.i64.wrap x):=by
 unfold I64;rw[IntKind.wrap_i64];omega
theorem filled_some (w:World) (c:Int) (h:I64 c) :
 Calls Tryz.prog 128 #[.int .i64 c] w fun r w'=>(∃ v,r = .returned (.int .i64 v)∧I64 v)∧w=w':=by
 have HP:=hid (parts_some w c 8 h (.inl rfl));go_enter Tryz.func128,Tryz.ntmps128
 go_wp2_with fail
 refine HP.out.mono ?_;rintro e w' ⟨⟨v,rfl,hv⟩,rfl⟩;go_wp2
 go_ret
 exact⟨⟨_,rfl,by unfold I64 wrap64;omega⟩,rfl⟩
end Geo
end
section
open Lib (hid)
open Go.RowKit Go.MapKept
namespace Geo
theorem blockWords_any (w:World) (n m s:Int) (h:0≤s) (h2:s≤9223372036854775807) :
 Calls Tryz.prog 176 #[.agg #[.int .i64 n,.int .i64 m,.int .i64 s]] w fun r w'=>r = .returned (.int .i64 (s / 8))∧Below w.heap.size w w':=by
 go_enter Tryz.func176,Tryz.ntmps176
 go_wp2
 go_ret
 exact⟨rfl,(Below.refl _ _).alloc (Nat.le_refl _) _⟩
theorem bitWords_any (w:World) (n m s:Int) (h:0≤n) (h2:n≤9223372036854775807) :
 Calls Tryz.prog 71 #[.agg #[.int .i64 n,.int .i64 m,.int .i64 s]] w fun r w'=>r = .returned (.int .i64 ((n+63) / 64))∧Below w.heap.size w w':=by
 have HE:=hid (prt64 n);go_enter Tryz.func71,Tryz.ntmps71
 go_wp2_with (go_at_call 116;refine (parts_any _ _ _ h h2 (by decide)).mono ?_;rintro e w' ⟨rfl,rfl⟩)
 go_ret
 exact⟨by rw[← HE.out];rfl,(Below.refl _ _).alloc (Nat.le_refl _) _⟩
theorem slotsAt_any (w:World) (n m s:Int) (h:0≤m) (h2:m≤1000000) :
 Calls Tryz.prog 127 #[.agg #[.int .i64 n,.int .i64 m,.int .i64 s]] w fun r w'=>r = .returned (.int .i64 (16+m * 8))∧Below w.heap.size w w':=by
 go_enter Tryz.func127,Tryz.ntmps127
 go_wp2
 go_ret
 exact⟨rfl,(Below.refl _ _).alloc (Nat.le_refl _) _⟩
structure Box (w:World) (b:Nat) (n m s:Int):Prop where
 lt:b < w.heap.size
 c0:w.cell? ⟨b,0,none⟩=some (.int .i64 n)
 c1:w.cell? ⟨b,1,none⟩=some (.int .i64 m)
 c2:w.cell? ⟨b,2,none⟩=some (.int .i64 s)
theorem Box.keep {w w':World} {b:Nat} {n m s:Int} (h:Box w b n m s) (hb:Below w.heap.size w w'):Box w' b n m s:=
 ⟨Nat.lt_of_lt_of_le h.lt hb.size,(hb.cell (p:=⟨b,0,none⟩) h.lt).trans h.c0,(hb.cell (p:=⟨b,1,none⟩) h.lt).trans h.c1,(hb.cell (p:=⟨b,2,none⟩) h.lt).trans h.c2⟩
theorem Box.drew {w:World} {b:Nat} {n m s:Int} (h:Box w b n m s):Box w.drew b n m s:=⟨h.lt,h.c0,h.c1,h.c2⟩
theorem boxed (w:World) (n m s:Int) (t:TypeId):Box (w.alloc (.cells #[.int .i64 n,.int .i64 m,.int .i64 s] t)) w.heap.size n m s:=
 ⟨by simp,World.cell?_alloc_mark w _ t _ 0,World.cell?_alloc_mark w _ t _ 1,World.cell?_alloc_mark w _ t _ 2⟩
theorem bitmapAt_any (w:World) (n m s:Int) (h1:1≤n∧n≤65534) (h2:1≤m∧m≤65534) :
 Calls Tryz.prog 70 #[.agg #[.int .i64 n,.int .i64 m,.int .i64 s]] w fun r w'=>r = .returned (.int .i64 (bmAt n m))∧Below w.heap.size w w':=by
 have hl:0≤lines n∧lines n≤70000:=by unfold lines;omega
 have HS:=hid (fun w=>slotsAt_any w n m s (by omega) (by omega));have HF:=hid (fun w=>filled_any w n (by omega) (by omega));have HW:=hid (show IntKind.i64.wrap (16+m * 8+lines n)=bmAt n m from IntWalk.i64_in _ (by omega));have HX:=hid (boxed w n m s 72);have HB:=hid ((Below.refl w.heap.size w).alloc (Nat.le_refl _) (.cells #[.int .i64 n,.int .i64 m,.int .i64 s] 72));go_enter Tryz.func70,Tryz.ntmps70
 go_wp2
 generalize w.alloc (.cells #[.int .i64 n,.int .i64 m,.int .i64 s] 72)=W at *;have hc0:=HX.out.c0;have hc1:=HX.out.c1;have hc2:=HX.out.c2
 go_region_held3 (fun W'=>W'.cell? ⟨w.heap.size,0,none⟩=some (.int .i64 n)∧W'.cell? ⟨w.heap.size,1,none⟩=some (.int .i64 m)∧W'.cell? ⟨w.heap.size,2,none⟩=some (.int .i64 s)) (go_keep)
  (first
  | (go_at_call 127
     with_reducible refine (HS.out _).mono ?_
     rintro e w1 ⟨rfl,hb⟩;have HY:=hid (HX.out.drew.keep hb);have hk0:=HY.out.c0;have hk1:=HY.out.c1;have hk2:=HY.out.c2;have HB1:=hid (HB.out.drew.trans (hb.mono HB.out.drew.size));clear hb)
  | (go_at_call 128
     with_reducible refine (HF.out _).mono ?_
     rintro e w1 ⟨rfl,rfl⟩))
 go_wp2
 go_ret
 exact⟨congrArg (fun x=>Ending.returned (.int .i64 x)) HW.out,HB1.out⟩
theorem blocksAt_any (w:World) (n m s:Int) (h1:1≤n∧n≤65534) (h2:1≤m∧m≤65534) :
 Calls Tryz.prog 175 #[.agg #[.int .i64 n,.int .i64 m,.int .i64 s]] w fun r w'=>r = .returned (.int .i64 (bkAt n m))∧Below w.heap.size w w':=by
 have hbm:=bm_bounds h1 h2;have hl:0≤lines ((n+63) / 64)∧lines ((n+63) / 64)≤70000:=by unfold lines;omega
 have HS:=hid (fun w=>bitmapAt_any w n m s h1 h2);have HN:=hid (fun w=>bitWords_any w n m s (by omega) (by omega));have HF:=hid (fun w=>filled_any w ((n+63) / 64) (by omega) (by omega));have HW:=hid (show IntKind.i64.wrap (bmAt n m+lines ((n+63) / 64))=bkAt n m from IntWalk.i64_in _ (by omega));have HX:=hid (boxed w n m s 72);have HB:=hid ((Below.refl w.heap.size w).alloc (Nat.le_refl _) (.cells #[.int .i64 n,.int .i64 m,.int .i64 s] 72));clear hbm;go_enter Tryz.func175,Tryz.ntmps175
 go_wp2
 generalize w.alloc (.cells #[.int .i64 n,.int .i64 m,.int .i64 s] 72)=W at *;have hc0:=HX.out.c0;have hc1:=HX.out.c1;have hc2:=HX.out.c2
 go_region_held3 (fun W'=>W'.cell? ⟨w.heap.size,0,none⟩=some (.int .i64 n)∧W'.cell? ⟨w.heap.size,1,none⟩=some (.int .i64 m)∧W'.cell? ⟨w.heap.size,2,none⟩=some (.int .i64 s)) (go_keep)
  (first
  | (go_at_call 70
     with_reducible refine (HS.out _).mono ?_
     rintro e w1 ⟨rfl,hb⟩;have HY:=hid (HX.out.drew.keep hb);have hk0:=HY.out.c0;have hk1:=HY.out.c1;have hk2:=HY.out.c2;have HB1:=hid (HB.out.drew.trans (hb.mono HB.out.drew.size));clear hb)
  | (go_at_call 71
     with_reducible refine (HN.out _).mono ?_
     rintro e w2 ⟨rfl,hb⟩;have HZ:=hid (HY.out.keep hb);have hl0:=HZ.out.c0;have hl1:=HZ.out.c1;have hl2:=HZ.out.c2;have HB2:=hid (HB1.out.trans (hb.mono HB1.out.size));clear hb)
  | (go_at_call 128
     with_reducible refine (HF.out _).mono ?_
     rintro e w3 ⟨rfl,rfl⟩))
 go_wp2
 go_ret
 exact⟨congrArg (fun x=>Ending.returned (.int .i64 x)) HW.out,HB2.out⟩
theorem end_any (w:World) (n m s:Int) (h1:1≤n∧n≤65534) (h2:1≤m∧m≤65534) (h3:Sz s) :
 Calls Tryz.prog 108 #[.agg #[.int .i64 n,.int .i64 m,.int .i64 s]] w fun r w'=>r = .returned (.int .i64 (fin n m s))∧Below w.heap.size w w':=by
 have hbk:=bk_bounds h1 h2;have hs:=h3.bounds;have hf:=fin_bounds h1 h2 h3;have HS:=hid (fun w=>blocksAt_any w n m s h1 h2);have HN:=hid (fun w=>blockWords_any w n m s (by omega) (by omega))
 have HW:=hid (show IntKind.i64.wrap (bkAt n m+IntKind.i64.wrap (n * (s / 8)))=fin n m s by
  rw[IntWalk.i64_in (n * (s / 8)) (by omega)];exact IntWalk.i64_in _ (by have:fin n m s=bkAt n m+n * (s / 8):=rfl;omega))
 have HX:=hid (boxed w n m s 72);have HB:=hid ((Below.refl w.heap.size w).alloc (Nat.le_refl _) (.cells #[.int .i64 n,.int .i64 m,.int .i64 s] 72));clear hbk hs hf h3;go_enter Tryz.func108,Tryz.ntmps108
 go_wp2
 generalize w.alloc (.cells #[.int .i64 n,.int .i64 m,.int .i64 s] 72)=W at *;have hc0:=HX.out.c0;have hc1:=HX.out.c1;have hc2:=HX.out.c2
 go_region_held3 (fun W'=>W'.cell? ⟨w.heap.size,0,none⟩=some (.int .i64 n)∧W'.cell? ⟨w.heap.size,1,none⟩=some (.int .i64 m)∧W'.cell? ⟨w.heap.size,2,none⟩=some (.int .i64 s)) (go_keep)
  (first
  | (go_at_call 175
     with_reducible refine (HS.out _).mono ?_
     rintro e w1 ⟨rfl,hb⟩;have HY:=hid (HX.out.drew.keep hb);have hk0:=HY.out.c0;have hk1:=HY.out.c1;have hk2:=HY.out.c2;have HB1:=hid (HB.out.drew.trans (hb.mono HB.out.drew.size));clear hb)
  | (go_at_call 176
     with_reducible refine (HN.out _).mono ?_
     rintro e w2 ⟨rfl,hb⟩;have HZ:=hid (HY.out.keep hb);have hl0:=HZ.out.c0;have hl1:=HZ.out.c1;have hl2:=HZ.out.c2;have HB2:=hid (HB1.out.trans (hb.mono HB1.out.size));clear hb))
 go_wp2
 go_ret
 exact⟨congrArg (fun x=>Ending.returned (.int .i64 x)) HW.out,HB2.out⟩
end Geo
end
section
open Lib (hid)
open Go.RowKit Go.MapKept
namespace Geo
def Some' (w:World) (r:Ending) (w':World):Prop:=∃ v,r = .returned (.int .i64 v)∧I64 v∧Below w.heap.size w w'
theorem blockWords_some (w:World) (n m s:Int) (h:I64 s) :
 Calls Tryz.prog 176 #[.agg #[.int .i64 n,.int .i64 m,.int .i64 s]] w (Some' w):=by
 by_cases h0:0≤s
 · refine (blockWords_any w n m s h0 h.2).mono ?_
   rintro r w' ⟨rfl,hb⟩
   have:=h.2
   exact⟨_,rfl,by unfold I64;omega,hb⟩
 · have hd:-9223372036854775808≤s.tdiv 8∧s.tdiv 8≤0:=by
    obtain⟨k,rfl⟩:∃ k:Nat,s = -(k:Int):=⟨(-s).toNat,by omega⟩
    rw[Int.neg_tdiv];have h1:=h.1
    have:((k:Int)).tdiv 8=(k:Int) / 8:=Int.tdiv_eq_ediv_of_nonneg (by omega)
    omega
   obtain⟨h1,h2⟩:=h
   go_enter Tryz.func176,Tryz.ntmps176
   go_wp2
   go_ret
   exact⟨_,rfl,by unfold I64;omega,(Below.refl _ _).alloc (Nat.le_refl _) _⟩
theorem bitWords_some (w:World) (n m s:Int) (h:I64 n) :
 Calls Tryz.prog 71 #[.agg #[.int .i64 n,.int .i64 m,.int .i64 s]] w (Some' w):=by
 have HP:=hid (fun w=>parts_some w n 64 h (.inr rfl));go_enter Tryz.func71,Tryz.ntmps71
 go_wp2_with (go_at_call 116;refine (HP.out _).mono ?_;rintro e w' ⟨⟨v,rfl,hv⟩,rfl⟩)
 go_ret
 exact⟨_,rfl,hv,(Below.refl _ _).alloc (Nat.le_refl _) _⟩
theorem slotsAt_some (w:World) (n m s:Int) :
 Calls Tryz.prog 127 #[.agg #[.int .i64 n,.int .i64 m,.int .i64 s]] w (Some' w):=by
 go_enter Tryz.func127,Tryz.ntmps127
 go_wp2
 go_ret
 exact⟨_,rfl,by unfold I64 wrap64;omega,(Below.refl _ _).alloc (Nat.le_refl _) _⟩
theorem bitmapAt_some (w:World) (n m s:Int) (h1:I64 n) :
 Calls Tryz.prog 70 #[.agg #[.int .i64 n,.int .i64 m,.int .i64 s]] w (Some' w):=by
 have HS:=hid (fun w=>slotsAt_some w n m s);have HF:=hid (fun w=>filled_some w n h1);have HX:=hid (boxed w n m s 72);have HB:=hid ((Below.refl w.heap.size w).alloc (Nat.le_refl _) (.cells #[.int .i64 n,.int .i64 m,.int .i64 s] 72));clear h1;go_enter Tryz.func70,Tryz.ntmps70
 go_wp2
 generalize w.alloc (.cells #[.int .i64 n,.int .i64 m,.int .i64 s] 72)=W at *;have hc0:=HX.out.c0;have hc1:=HX.out.c1;have hc2:=HX.out.c2
 go_region_held3 (fun W'=>W'.cell? ⟨w.heap.size,0,none⟩=some (.int .i64 n)∧W'.cell? ⟨w.heap.size,1,none⟩=some (.int .i64 m)∧W'.cell? ⟨w.heap.size,2,none⟩=some (.int .i64 s)) (go_keep)
  (first
  | (go_at_call 127
     with_reducible refine (HS.out _).mono ?_
     rintro e w1 ⟨v1,rfl,_,hb⟩;have HY:=hid (HX.out.drew.keep hb);have hk0:=HY.out.c0;have hk1:=HY.out.c1;have hk2:=HY.out.c2;have HB1:=hid (HB.out.drew.trans (hb.mono HB.out.drew.size));clear hb)
  | (go_at_call 128
     with_reducible refine (HF.out _).mono ?_
     rintro e w1 ⟨⟨v2,rfl,_⟩,rfl⟩))
 go_wp2
 go_ret
 exact⟨_,rfl,i64_wrap _,HB1.out⟩
theorem blocksAt_some (w:World) (n m s:Int) (h1:I64 n) :
 Calls Tryz.prog 175 #[.agg #[.int .i64 n,.int .i64 m,.int .i64 s]] w (Some' w):=by
 have HS:=hid (fun w=>bitmapAt_some w n m s h1);have HN:=hid (fun w=>bitWords_some w n m s h1);have HF:=hid (fun w n h=>filled_some w n h);have HX:=hid (boxed w n m s 72);have HB:=hid ((Below.refl w.heap.size w).alloc (Nat.le_refl _) (.cells #[.int .i64 n,.int .i64 m,.int .i64 s] 72));clear h1;go_enter Tryz.func175,Tryz.ntmps175
 go_wp2
 generalize w.alloc (.cells #[.int .i64 n,.int .i64 m,.int .i64 s] 72)=W at *;have hc0:=HX.out.c0;have hc1:=HX.out.c1;have hc2:=HX.out.c2
 go_region_held3 (fun W'=>W'.cell? ⟨w.heap.size,0,none⟩=some (.int .i64 n)∧W'.cell? ⟨w.heap.size,1,none⟩=some (.int .i64 m)∧W'.cell? ⟨w.heap.size,2,none⟩=some (.int .i64 s)) (go_keep)
  (first
  | (go_at_call 70
     with_reducible refine (HS.out _).mono ?_
     rintro e w1 ⟨v1,rfl,_,hb⟩;have HY:=hid (HX.out.drew.keep hb);have hk0:=HY.out.c0;have hk1:=HY.out.c1;have hk2:=HY.out.c2;have HB1:=hid (HB.out.drew.trans (hb.mono HB.out.drew.size));clear hb)
  | (go_at_call 71
     with_reducible refine (HN.out _).mono ?_
     rintro e w2 ⟨v2,rfl,hv2,hb⟩;have HV:=hid hv2;clear hv2;have HZ:=hid (HY.out.keep hb);have hl0:=HZ.out.c0;have hl1:=HZ.out.c1;have hl2:=HZ.out.c2;have HB2:=hid (HB1.out.trans (hb.mono HB1.out.size));clear hb)
  | (go_at_call 128
     with_reducible refine (HF.out _ _ HV.out).mono ?_
     rintro e w3 ⟨⟨v3,rfl,_⟩,rfl⟩))
 go_wp2
 go_ret
 exact⟨_,rfl,i64_wrap _,HB2.out⟩
end Geo
end
section
open Lib (hid)
open Go.RowKit Go.MapKept
namespace Geo
theorem may_any (w:World) (n m s:Int) :
 Calls Tryz.prog 69 #[.agg #[.int .i64 n,.int .i64 m,.int .i64 s]] w fun r w'=>r = .returned (.bool (may n m s))∧Below w.heap.size w w':=by
 have HI:=hid (fun w n=>within_any w n 1 65534);have HS:=hid (fun w=>size_any w s);have HB:=hid ((Below.refl w.heap.size w).alloc (Nat.le_refl _) (.cells #[.int .i64 n,.int .i64 m,.int .i64 s] 72));by_cases h1:1≤n∧n≤65534
 · by_cases h2:1≤m∧m≤65534
   · by_cases h3:Sz s
     · have HE:=hid (fun w=>end_any w n m s h1 h2 h3)
       have H1:=hid (decide_eq_true h1);have H2:=hid (decide_eq_true h2);have H3:=hid (decide_eq_true h3);have hf:=fin_bounds h1 h2 h3;have HM:=hid (show may n m s=decide (fin n m s≤4194304) by unfold may Num;simp[h1,h2,h3]);clear h1 h2 h3;go_enter Tryz.func69,Tryz.ntmps69
       go_wp2_with fail
       refine (HI.out _ _).mono ?_;rintro e w' ⟨rfl,rfl⟩;rw[H1.out];go_wp2_with fail
       refine (HI.out _ _).mono ?_;rintro e w' ⟨rfl,rfl⟩;rw[H2.out];go_wp2_with fail
       refine (HS.out _).mono ?_;rintro e w' ⟨rfl,rfl⟩;rw[H3.out];go_wp2_with fail
       refine (HE.out _).mono ?_;rintro e w' ⟨rfl,hb⟩;have HB1:=hid (HB.out.trans (hb.mono HB.out.size));clear hb;go_wp2
       go_ret
       exact⟨by rw[HM.out];rfl,HB1.out⟩
     · have H1:=hid (decide_eq_true h1)
       have H2:=hid (decide_eq_true h2);have H3:=hid (decide_eq_false h3);have HM:=hid (show may n m s=false from may_no (fun h=>h3 h.1.2.2));clear h1 h2 h3;go_enter Tryz.func69,Tryz.ntmps69
       go_wp2_with fail
       refine (HI.out _ _).mono ?_;rintro e w' ⟨rfl,rfl⟩;rw[H1.out];go_wp2_with fail
       refine (HI.out _ _).mono ?_;rintro e w' ⟨rfl,rfl⟩;rw[H2.out];go_wp2_with fail
       refine (HS.out _).mono ?_;rintro e w' ⟨rfl,rfl⟩;rw[H3.out];go_wp2
       go_ret
       exact⟨by rw[HM.out];rfl,HB.out⟩
   · have H1:=hid (decide_eq_true h1)
     have H2:=hid (decide_eq_false h2);have HM:=hid (show may n m s=false from may_no (fun h=>h2 h.1.2.1));clear h1 h2;go_enter Tryz.func69,Tryz.ntmps69
     go_wp2_with fail
     refine (HI.out _ _).mono ?_;rintro e w' ⟨rfl,rfl⟩;rw[H1.out];go_wp2_with fail
     refine (HI.out _ _).mono ?_;rintro e w' ⟨rfl,rfl⟩;rw[H2.out];go_wp2
     go_ret
     exact⟨by rw[HM.out];rfl,HB.out⟩
 · have H1:=hid (decide_eq_false h1)
   have HM:=hid (show may n m s=false from may_no (fun h=>h1 h.1.1));clear h1;go_enter Tryz.func69,Tryz.ntmps69
   go_wp2_with fail
   refine (HI.out _ _).mono ?_;rintro e w' ⟨rfl,rfl⟩;rw[H1.out];go_wp2
   go_ret
   exact⟨by rw[HM.out];rfl,HB.out⟩
theorem has_no (w:World) (n m s i c:Int) (hm:may n m s=false) :
 Calls Tryz.prog 124 #[.agg #[.int .i64 n,.int .i64 m,.int .i64 s],.int .i64 i,.int .i64 c] w fun r w'=>r = .returned (.bool false)∧Below w.heap.size w w':=by
 have HM:=hid (fun w=>may_any w n m s);have HE:=hid hm;clear hm;have HB:=hid ((Below.refl w.heap.size w).alloc (Nat.le_refl _) (.cells #[.int .i64 n,.int .i64 m,.int .i64 s] 72));go_enter Tryz.func124,Tryz.ntmps124
 go_wp2_with fail
 refine (HM.out _).mono ?_;rintro e w' ⟨rfl,hb⟩;rw[HE.out];have HB1:=hid (HB.out.trans (hb.mono HB.out.size));clear hb;go_wp2
 go_ret
 exact⟨rfl,HB1.out⟩
theorem has_yes (w:World) (n m s i c:Int) (hm:may n m s=true) (hc:1≤c) (hc2:c≤65534) :
 Calls Tryz.prog 124 #[.agg #[.int .i64 n,.int .i64 m,.int .i64 s],.int .i64 i,.int .i64 c] w fun r w'=>r = .returned (.bool (decide (0≤i∧i≤c - 1)))∧Below w.heap.size w w':=by
 have HM:=hid (fun w=>may_any w n m s);have HI:=hid (fun w=>within_any w i 0 (c - 1));have HE:=hid hm;clear hm;have HB:=hid ((Below.refl w.heap.size w).alloc (Nat.le_refl _) (.cells #[.int .i64 n,.int .i64 m,.int .i64 s] 72));go_enter Tryz.func124,Tryz.ntmps124
 go_wp2_with fail
 refine (HM.out _).mono ?_;rintro e w' ⟨rfl,hb⟩;rw[HE.out];have HB1:=hid (HB.out.trans (hb.mono HB.out.size));clear hb;go_wp2_with fail
 refine (HI.out _).mono ?_;rintro e w' ⟨rfl,rfl⟩;by_cases h:0≤i∧i≤c - 1
 · have H:=hid (decide_eq_true h)
   clear h;rw[H.out];go_wp2
   go_ret
   exact⟨by rw[H.out];rfl,HB1.out⟩
 · have H:=hid (decide_eq_false h)
   clear h;rw[H.out];go_wp2
   go_ret
   exact⟨by rw[H.out];rfl,HB1.out⟩
def plc (n m s i c a e:Int):Int:=if may n m s=true∧0≤i∧i < c then a+i * e else -1
theorem plc_yes {n m s i c a e:Int} (h1:may n m s=true) (h2:0≤i) (h3:i < c):plc n m s i c a e=a+i * e:=if_pos ⟨h1,h2,h3⟩
theorem plc_no {n m s i c a e:Int} (h:may n m s=false):plc n m s i c a e = -1:=if_neg (fun h'=>by simp[h] at h')
theorem plc_out {n m s i c a e:Int} (h:¬ (0≤i∧i < c)):plc n m s i c a e = -1:=if_neg (fun h'=>h h'.2)
theorem place_any (w:World) (n m s i c a e:Int) (hc:may n m s=true→1≤c∧c≤65534) (ha:may n m s=true→0≤a∧a≤1000000) (he:may n m s=true→0≤e∧e≤512) :
 Calls Tryz.prog 68 #[.agg #[.int .i64 n,.int .i64 m,.int .i64 s],.int .i64 i,.int .i64 c,.int .i64 a,.int .i64 e] w fun r w'=>r = .returned (.int .i64 (plc n m s i c a e))∧Below w.heap.size w w':=by
 have HB:=hid ((Below.refl w.heap.size w).alloc (Nat.le_refl _) (.cells #[.int .i64 n,.int .i64 m,.int .i64 s] 72))
 cases hm:may n m s with
 | false=>
   have HH:=hid (fun w=>has_no w n m s i c hm);have HP:=hid (plc_no (i:=i) (c:=c) (a:=a) (e:=e) hm);clear hm hc ha he;go_enter Tryz.func68,Tryz.ntmps68
   go_wp2_with fail
   refine (HH.out _).mono ?_;rintro e w' ⟨rfl,hb⟩;have HB1:=hid (HB.out.trans (hb.mono HB.out.size));clear hb;go_wp2
   go_ret
   exact⟨by rw[HP.out];rfl,HB1.out⟩
 | true=>
   obtain⟨hc1,hc2⟩:=hc hm
   obtain⟨ha1,ha2⟩:=ha hm
   obtain⟨he1,he2⟩:=he hm
   have HH:=hid (fun w=>has_yes w n m s i c hm hc1 hc2);by_cases h:0≤i∧i≤c - 1
   · have HP:=hid (plc_yes (i:=i) (c:=c) (a:=a) (e:=e) hm h.1 (by omega))
     have HD:=hid (decide_eq_true h);have hx:=mul_bounds (i:=i) (a:=65534) (q:=e) (b:=512) (by omega) (by omega) he1 he2;clear hm hc ha he;go_enter Tryz.func68,Tryz.ntmps68
     go_wp2_with fail
     refine (HH.out _).mono ?_;rintro r w' ⟨rfl,hb⟩;rw[HD.out];have HB1:=hid (HB.out.trans (hb.mono HB.out.size));clear hb;go_wp2
     go_ret
     exact⟨by rw[HP.out];rfl,HB1.out⟩
   · have HP:=hid (plc_out (n:=n) (m:=m) (s:=s) (i:=i) (c:=c) (a:=a) (e:=e) (by omega))
     have HD:=hid (decide_eq_false h);clear hm hc ha he h;go_enter Tryz.func68,Tryz.ntmps68
     go_wp2_with fail
     refine (HH.out _).mono ?_;rintro r w' ⟨rfl,hb⟩;rw[HD.out];have HB1:=hid (HB.out.trans (hb.mono HB.out.size));clear hb;go_wp2
     go_ret
     exact⟨by rw[HP.out];rfl,HB1.out⟩
end Geo
end
section
open Lib (hid)
open Go.RowKit Go.MapKept
namespace Geo
def iff' (n m s x y:Int):Int:=if may n m s=true then x else y
theorem iff_yes {n m s x y:Int} (h:may n m s=true):iff' n m s x y=x:=if_pos h
theorem iff_no {n m s x y:Int} (h:may n m s=false):iff' n m s x y=y:=if_neg (by simp[h])
theorem words_any (w:World) (n m s:Int) :
 Calls Tryz.prog 56 #[.agg #[.int .i64 n,.int .i64 m,.int .i64 s]] w fun r w'=>r = .returned (.int .i64 (iff' n m s (fin n m s) 0))∧Below w.heap.size w w':=by
 have HM:=hid (fun w=>may_any w n m s);have HB:=hid ((Below.refl w.heap.size w).alloc (Nat.le_refl _) (.cells #[.int .i64 n,.int .i64 m,.int .i64 s] 72));have HX:=hid (boxed w n m s 72)
 cases hm:may n m s with
 | false=>
   have HE:=hid hm;have HI:=hid (iff_no (x:=fin n m s) (y:=0) hm);clear hm;go_enter Tryz.func56,Tryz.ntmps56
   go_wp2_with fail
   refine (HM.out _).mono ?_;rintro e w' ⟨rfl,hb⟩;rw[HE.out];have HB1:=hid (HB.out.trans (hb.mono HB.out.size));clear hb;go_wp2
   go_ret
   exact⟨by rw[HI.out];rfl,HB1.out⟩
 | true=>
   have HE:=hid hm;have HI:=hid (iff_yes (x:=fin n m s) (y:=0) hm)
   obtain⟨⟨h1,h2,h3⟩,_⟩:=may_num hm
   have HN:=hid (fun w=>end_any w n m s h1 h2 h3);clear hm h1 h2 h3;go_enter Tryz.func56,Tryz.ntmps56
   go_wp2_with fail
   refine (HM.out _).mono ?_;rintro e w1 ⟨rfl,hb⟩;rw[HE.out];have HB1:=hid (HB.out.trans (hb.mono HB.out.size));have HX1:=hid (HX.out.keep hb);clear hb;have hc0:=HX1.out.c0;have hc1:=HX1.out.c1;have hc2:=HX1.out.c2;go_wp2_with fail
   refine (HN.out _).mono ?_;rintro e w2 ⟨rfl,hb⟩;have HB2:=hid (HB1.out.trans (hb.mono HB1.out.size));clear hb;go_wp2
   go_ret
   exact⟨by rw[HI.out];rfl,HB2.out⟩
theorem each_any (w:World) (n m s:Int) :
 Calls Tryz.prog 162 #[.agg #[.int .i64 n,.int .i64 m,.int .i64 s]] w fun r w'=>r = .returned (.int .i64 (iff' n m s (s / 8) 0))∧Below w.heap.size w w':=by
 have HM:=hid (fun w=>may_any w n m s);have HB:=hid ((Below.refl w.heap.size w).alloc (Nat.le_refl _) (.cells #[.int .i64 n,.int .i64 m,.int .i64 s] 72));have HX:=hid (boxed w n m s 72)
 cases hm:may n m s with
 | false=>
   have HE:=hid hm;have HI:=hid (iff_no (x:=s / 8) (y:=0) hm);clear hm;go_enter Tryz.func162,Tryz.ntmps162
   go_wp2_with fail
   refine (HM.out _).mono ?_;rintro e w' ⟨rfl,hb⟩;rw[HE.out];have HB1:=hid (HB.out.trans (hb.mono HB.out.size));clear hb;go_wp2
   go_ret
   exact⟨by rw[HI.out];rfl,HB1.out⟩
 | true=>
   have HE:=hid hm;have HI:=hid (iff_yes (x:=s / 8) (y:=0) hm)
   obtain⟨⟨h1,h2,h3⟩,_⟩:=may_num hm
   have HN:=hid (fun w=>blockWords_any w n m s (by have:=h3.bounds;omega) (by have:=h3.bounds;omega));clear hm h1 h2 h3;go_enter Tryz.func162,Tryz.ntmps162
   go_wp2_with fail
   refine (HM.out _).mono ?_;rintro e w1 ⟨rfl,hb⟩;rw[HE.out];have HB1:=hid (HB.out.trans (hb.mono HB.out.size));have HX1:=hid (HX.out.keep hb);clear hb;have hc0:=HX1.out.c0;have hc1:=HX1.out.c1;have hc2:=HX1.out.c2;go_wp2_with fail
   refine (HN.out _).mono ?_;rintro e w2 ⟨rfl,hb⟩;have HB2:=hid (HB1.out.trans (hb.mono HB1.out.size));clear hb;go_wp2
   go_ret
   exact⟨by rw[HI.out];rfl,HB2.out⟩
theorem record_any (w:World) (n m s:Int) :
 Calls Tryz.prog 32 #[.agg #[.int .i64 n,.int .i64 m,.int .i64 s]] w fun r w'=>r = .returned (.int .i64 (plc n m s 0 1 8 8))∧Below w.heap.size w w':=by
 have HP:=hid (fun w=>place_any w n m s 0 1 8 8 (fun _=>by decide) (fun _=>by decide) (fun _=>by decide));have HB:=hid ((Below.refl w.heap.size w).alloc (Nat.le_refl _) (.cells #[.int .i64 n,.int .i64 m,.int .i64 s] 72));go_enter Tryz.func32,Tryz.ntmps32
 go_wp2_with fail
 refine (HP.out _).mono ?_;rintro e w1 ⟨rfl,hb⟩;have HB1:=hid (HB.out.trans (hb.mono HB.out.size));clear hb;go_wp2
 go_ret
 exact⟨rfl,HB1.out⟩
theorem inode_any (w:World) (n m s i:Int) :
 Calls Tryz.prog 109 #[.agg #[.int .i64 n,.int .i64 m,.int .i64 s],.int .i64 i] w fun r w'=>r = .returned (.int .i64 (plc n m s i m 16 8))∧Below w.heap.size w w':=by
 have HP:=hid (fun w=>place_any w n m s i m 16 8 (fun h=>(may_num h).1.2.1) (fun _=>by decide) (fun _=>by decide));have HB:=hid ((Below.refl w.heap.size w).alloc (Nat.le_refl _) (.cells #[.int .i64 n,.int .i64 m,.int .i64 s] 72));go_enter Tryz.func109,Tryz.ntmps109
 go_wp2_with fail
 refine (HP.out _).mono ?_;rintro e w1 ⟨rfl,hb⟩;have HB1:=hid (HB.out.trans (hb.mono HB.out.size));clear hb;go_wp2
 go_ret
 exact⟨rfl,HB1.out⟩
theorem slot_any (w:World) (n m s i:Int) :
 Calls Tryz.prog 178 #[.agg #[.int .i64 n,.int .i64 m,.int .i64 s],.int .i64 i] w fun r w'=>r = .returned (.int .i64 (plc n m s i n (16+m * 8) 1))∧Below w.heap.size w w':=by
 have HS:Hid (∀ w,Calls Tryz.prog 127 #[.agg #[.int .i64 n,.int .i64 m,.int .i64 s]] w fun r w'=>∃ v,r = .returned (.int .i64 v)∧(may n m s=true→v=16+m * 8)∧Below w.heap.size w w'):=hid (fun w=>by
  cases hm:may n m s with
  | false=>exact (slotsAt_some w n m s).mono fun r w' ⟨v,h1,_,h2⟩=>⟨v,h1,(fun h=>by cases h),h2⟩
  | true=>
    obtain⟨⟨_,h2,_⟩,_⟩:=may_num hm
    exact (slotsAt_any w n m s (by omega) (by omega)).mono fun r w' ⟨h1,h2⟩=>⟨_,h1,fun _=>rfl,h2⟩)
 have HP:Hid (∀ w v,(may n m s=true→v=16+m * 8)→Calls Tryz.prog 68 #[.agg #[.int .i64 n,.int .i64 m,.int .i64 s],.int .i64 i,.int .i64 n,.int .i64 v,.int .i64 1] w fun r w'=>r = .returned (.int .i64 (plc n m s i n (16+m * 8) 1))∧Below w.heap.size w w'):=hid (fun w v hv=>by
  refine (place_any w n m s i n v 1 (fun h=>(may_num h).1.1) (fun h=>by have:=hv h;have:=(may_num h).1.2.1;omega) (fun _=>by decide)).mono ?_;rintro r w' ⟨rfl,hb⟩
  refine⟨?_,hb⟩
  cases hm:may n m s with
  | false=>rw[plc_no hm,plc_no hm]
  | true=>rw[hv hm])
 have HB:=hid ((Below.refl w.heap.size w).alloc (Nat.le_refl _) (.cells #[.int .i64 n,.int .i64 m,.int .i64 s] 72));have HX:=hid (boxed w n m s 72);go_enter Tryz.func178,Tryz.ntmps178
 go_wp2
 generalize w.alloc (.cells #[.int .i64 n,.int .i64 m,.int .i64 s] 72)=W at *;have hc0:=HX.out.c0;have hc1:=HX.out.c1;have hc2:=HX.out.c2
 go_region_held3 (fun W'=>W'.cell? ⟨w.heap.size,0,none⟩=some (.int .i64 n)∧W'.cell? ⟨w.heap.size,1,none⟩=some (.int .i64 m)∧W'.cell? ⟨w.heap.size,2,none⟩=some (.int .i64 s)) (go_keep)
  (first
  | (go_at_call 127
     with_reducible refine (HS.out _).mono ?_
     rintro e w1 ⟨v1,rfl,hv,hb⟩;have HV:=hid hv;have HY:=hid (HX.out.drew.keep hb);have hk0:=HY.out.c0;have hk1:=HY.out.c1;have hk2:=HY.out.c2;have HB1:=hid (HB.out.drew.trans (hb.mono HB.out.drew.size));clear hb hv)
  | (go_at_call 68
     with_reducible refine (HP.out _ _ HV.out).mono ?_
     rintro e w2 ⟨rfl,hb⟩;have HZ:=hid (HY.out.keep hb);have hl0:=HZ.out.c0;have hl1:=HZ.out.c1;have hl2:=HZ.out.c2;have HB2:=hid (HB1.out.trans (hb.mono HB1.out.size));clear hb))
 go_wp2
 go_ret
 exact⟨rfl,HB2.out⟩
theorem block_any (w:World) (n m s i:Int) (hn:I64 n) (hs:I64 s) :
 Calls Tryz.prog 160 #[.agg #[.int .i64 n,.int .i64 m,.int .i64 s],.int .i64 i] w fun r w'=>r = .returned (.int .i64 (plc n m s i n (bkAt n m) (s / 8)))∧Below w.heap.size w w':=by
 have HS:Hid (∀ w,Calls Tryz.prog 175 #[.agg #[.int .i64 n,.int .i64 m,.int .i64 s]] w fun r w'=>∃ v,r = .returned (.int .i64 v)∧(may n m s=true→v=bkAt n m)∧Below w.heap.size w w'):=hid (fun w=>by
  cases hm:may n m s with
  | false=>exact (blocksAt_some w n m s hn).mono fun r w' ⟨v,h1,_,h2⟩=>⟨v,h1,(fun h=>by cases h),h2⟩
  | true=>
    obtain⟨⟨h1,h2,_⟩,_⟩:=may_num hm
    exact (blocksAt_any w n m s h1 h2).mono fun r w' ⟨h1,h2⟩=>⟨_,h1,fun _=>rfl,h2⟩)
 have HQ:Hid (∀ w,Calls Tryz.prog 176 #[.agg #[.int .i64 n,.int .i64 m,.int .i64 s]] w fun r w'=>∃ v,r = .returned (.int .i64 v)∧(may n m s=true→v=s / 8)∧Below w.heap.size w w'):=hid (fun w=>by
  cases hm:may n m s with
  | false=>exact (blockWords_some w n m s hs).mono fun r w' ⟨v,h1,_,h2⟩=>⟨v,h1,(fun h=>by cases h),h2⟩
  | true=>
    obtain⟨⟨_,_,h3⟩,_⟩:=may_num hm
    exact (blockWords_any w n m s (by have:=h3.bounds;omega) (by have:=h3.bounds;omega)).mono fun r w' ⟨h1,h2⟩=>⟨_,h1,fun _=>rfl,h2⟩)
 have HP:Hid (∀ w v q,(may n m s=true→v=bkAt n m)→(may n m s=true→q=s / 8)→Calls Tryz.prog 68 #[.agg #[.int .i64 n,.int .i64 m,.int .i64 s],.int .i64 i,.int .i64 n,.int .i64 v,.int .i64 q] w fun r w'=>r = .returned (.int .i64 (plc n m s i n (bkAt n m) (s / 8)))∧Below w.heap.size w w'):=hid (fun w v q hv hq=>by
  refine (place_any w n m s i n v q (fun h=>(may_num h).1.1) (fun h=>by have:=hv h;have:=bk_bounds (may_num h).1.1 (may_num h).1.2.1;omega) (fun h=>by have:=hq h;have:=(may_num h).1.2.2.bounds;omega)).mono ?_;rintro r w' ⟨rfl,hb⟩
  refine⟨?_,hb⟩
  cases hm:may n m s with
  | false=>rw[plc_no hm,plc_no hm]
  | true=>rw[hv hm,hq hm])
 have HB:=hid ((Below.refl w.heap.size w).alloc (Nat.le_refl _) (.cells #[.int .i64 n,.int .i64 m,.int .i64 s] 72));have HX:=hid (boxed w n m s 72);clear hn hs;go_enter Tryz.func160,Tryz.ntmps160
 go_wp2
 generalize w.alloc (.cells #[.int .i64 n,.int .i64 m,.int .i64 s] 72)=W at *;have hc0:=HX.out.c0;have hc1:=HX.out.c1;have hc2:=HX.out.c2
 go_region_held3 (fun W'=>W'.cell? ⟨w.heap.size,0,none⟩=some (.int .i64 n)∧W'.cell? ⟨w.heap.size,1,none⟩=some (.int .i64 m)∧W'.cell? ⟨w.heap.size,2,none⟩=some (.int .i64 s)) (go_keep)
  (first
  | (go_at_call 175
     with_reducible refine (HS.out _).mono ?_
     rintro e w1 ⟨v1,rfl,hv,hb⟩;have HV:=hid hv;have HY:=hid (HX.out.drew.keep hb);have hk0:=HY.out.c0;have hk1:=HY.out.c1;have hk2:=HY.out.c2;have HB1:=hid (HB.out.drew.trans (hb.mono HB.out.drew.size));clear hb hv)
  | (go_at_call 176
     with_reducible refine (HQ.out _).mono ?_
     rintro e w2 ⟨v2,rfl,hv,hb⟩;have HV2:=hid hv;have HZ:=hid (HY.out.keep hb);have hl0:=HZ.out.c0;have hl1:=HZ.out.c1;have hl2:=HZ.out.c2;have HB2:=hid (HB1.out.trans (hb.mono HB1.out.size));clear hb hv)
  | (go_at_call 68
     with_reducible refine (HP.out _ _ _ HV.out HV2.out).mono ?_
     rintro e w3 ⟨rfl,hb⟩;have HT:=hid (HZ.out.keep hb);have ho0:=HT.out.c0;have ho1:=HT.out.c1;have ho2:=HT.out.c2;have HB3:=hid (HB2.out.trans (hb.mono HB2.out.size));clear hb))
 go_wp2
 go_ret
 exact⟨rfl,HB3.out⟩
end Geo
end
section
open Lib (hid)
open Go.RowKit Go.MapKept
namespace Geo
theorem bitmap_any (w:World) (n m s:Int) :
 Calls Tryz.prog 34 #[.agg #[.int .i64 n,.int .i64 m,.int .i64 s]] w fun r w'=>r = .returned (.tuple #[.int .i64 (iff' n m s (bmAt n m) (-1)),.int .i64 (iff' n m s ((n+63) / 64) 0)])∧Below w.heap.size w w':=by
 have HM:=hid (fun w=>may_any w n m s);have HB:=hid ((Below.refl w.heap.size w).alloc (Nat.le_refl _) (.cells #[.int .i64 n,.int .i64 m,.int .i64 s] 72));have HX:=hid (boxed w n m s 72)
 cases hm:may n m s with
 | false=>
   have HE:=hid hm;have HI:=hid (iff_no (x:=bmAt n m) (y:=-1) hm);have HJ:=hid (iff_no (x:=(n+63) / 64) (y:=0) hm);clear hm;go_enter Tryz.func34,Tryz.ntmps34
   go_wp2_with fail
   refine (HM.out _).mono ?_;rintro e w' ⟨rfl,hb⟩;rw[HE.out];have HB1:=hid (HB.out.trans (hb.mono HB.out.size));clear hb;go_wp2
   go_ret2
   exact⟨by rw[HI.out,HJ.out];rfl,HB1.out⟩
 | true=>
   have HE:=hid hm;have HI:=hid (iff_yes (x:=bmAt n m) (y:=-1) hm);have HJ:=hid (iff_yes (x:=(n+63) / 64) (y:=0) hm)
   obtain⟨⟨h1,h2,h3⟩,_⟩:=may_num hm
   have HN:=hid (fun w=>bitmapAt_any w n m s h1 h2);have HW:=hid (fun w=>bitWords_any w n m s (by omega) (by omega));clear hm h1 h2 h3;go_enter Tryz.func34,Tryz.ntmps34
   go_wp2_with fail
   refine (HM.out _).mono ?_;rintro e w1 ⟨rfl,hb⟩;rw[HE.out];have HB1:=hid (HB.out.trans (hb.mono HB.out.size));have HX1:=hid (HX.out.keep hb);clear hb;have hc0:=HX1.out.c0;have hc1:=HX1.out.c1;have hc2:=HX1.out.c2;go_wp2
   go_region_held3 (fun W'=>W'.cell? ⟨w.heap.size,0,none⟩=some (.int .i64 n)∧W'.cell? ⟨w.heap.size,1,none⟩=some (.int .i64 m)∧W'.cell? ⟨w.heap.size,2,none⟩=some (.int .i64 s)) (go_keep)
    (first
    | (go_at_call 70
       with_reducible refine (HN.out _).mono ?_
       rintro e w2 ⟨rfl,hb⟩;have HY:=hid (HX1.out.drew.keep hb);have hk0:=HY.out.c0;have hk1:=HY.out.c1;have hk2:=HY.out.c2;have HB2:=hid (HB1.out.drew.trans (hb.mono HB1.out.drew.size));clear hb)
    | (go_at_call 71
       with_reducible refine (HW.out _).mono ?_
       rintro e w3 ⟨rfl,hb⟩;have HZ:=hid (HY.out.keep hb);have hl0:=HZ.out.c0;have hl1:=HZ.out.c1;have hl2:=HZ.out.c2;have HB3:=hid (HB2.out.trans (hb.mono HB2.out.size));clear hb))
   go_wp2
   go_ret2
   exact⟨by rw[HI.out,HJ.out];rfl,HB3.out⟩
def need (n m s b:Int):Int:=if may n m s=true∧0≤b then prt b s else 0
theorem need_yes {n m s b:Int} (h1:may n m s=true) (h2:0≤b):need n m s b=prt b s:=if_pos ⟨h1,h2⟩
theorem need_no {n m s b:Int} (h:may n m s=false):need n m s b=0:=if_neg (fun h'=>by simp[h] at h')
theorem need_neg {n m s b:Int} (h:¬ 0≤b):need n m s b=0:=if_neg (fun h'=>h h'.2)
theorem need_any (w:World) (n m s b:Int) (hb:b≤9223372036854775807) :
 Calls Tryz.prog 62 #[.agg #[.int .i64 n,.int .i64 m,.int .i64 s],.int .i64 b] w fun r w'=>r = .returned (.int .i64 (need n m s b))∧Below w.heap.size w w':=by
 have HB:=hid ((Below.refl w.heap.size w).alloc (Nat.le_refl _) (.cells #[.int .i64 n,.int .i64 m,.int .i64 s] 72));have HX:=hid (boxed w n m s 72);have HM:=hid (fun w=>may_any w n m s);by_cases h0:0≤b
 · cases hm:may n m s with
   | false=>
     have HE:=hid hm;have HI:=hid (need_no (b:=b) hm);clear hm;go_enter Tryz.func62,Tryz.ntmps62
     go_wp2_with fail
     refine (HM.out _).mono ?_;rintro e w1 ⟨rfl,hb⟩;rw[HE.out];have HB1:=hid (HB.out.trans (hb.mono HB.out.size));clear hb;go_wp2
     go_ret
     exact⟨by rw[HI.out];rfl,HB1.out⟩
   | true=>
     have HE:=hid hm;have HI:=hid (need_yes hm h0)
     obtain⟨⟨h1,h2,h3⟩,_⟩:=may_num hm
     have hs:=h3.bounds;have HP:=hid (fun w=>parts_any w b s h0 hb (by omega));clear hm h1 h2 h3 hs;go_enter Tryz.func62,Tryz.ntmps62
     go_wp2_with fail
     refine (HM.out _).mono ?_;rintro e w1 ⟨rfl,hb⟩;rw[HE.out];have HB1:=hid (HB.out.trans (hb.mono HB.out.size));have HX1:=hid (HX.out.keep hb);clear hb;have hc2:=HX1.out.c2;go_wp2_with fail
     refine (HP.out _).mono ?_;rintro e w2 ⟨rfl,rfl⟩;go_wp2
     go_ret
     exact⟨by rw[HI.out];rfl,HB1.out⟩
 · have HI:=hid (need_neg (n:=n) (m:=m) (s:=s) h0)
   go_enter Tryz.func62,Tryz.ntmps62
   go_wp2
   go_ret
   exact⟨by rw[HI.out];rfl,HB.out⟩
end Geo
end
section
open Lib (hid)
open Go.RowKit Go.MapKept
namespace Geo
theorem ex_inode:plc 10 3 64 2 3 16 8=32:=by decide
theorem ex_slot:plc 10 3 64 0 10 (16+3 * 8) 1=40:=by decide
theorem ex_first:iff' 10 3 64 (bmAt 10 3) (-1)=56:=by decide
theorem ex_bits:iff' 10 3 64 ((10+63) / 64) 0=1:=by decide
theorem ex_block:plc 10 3 64 0 10 (bkAt 10 3) (64 / 8)=64:=by decide
theorem ex_words:iff' 10 3 64 (fin 10 3 64) 0=144:=by decide
theorem lives_any (w:World):Calls Tryz.prog 230 #[] w fun r w'=>r = .returned (.bool true)∧Below w.heap.size w w':=by
 have HB:=hid ((Below.refl w.heap.size w).alloc (Nat.le_refl _) (.cells #[.int .i64 10,.int .i64 3,.int .i64 64] 72));have HX:=hid (boxed w 10 3 64 72);go_enter Tryz.func230,Tryz.ntmps230
 go_wp2_with fail
 refine (bitmap_any _ 10 3 64).mono ?_;rintro e w1 ⟨rfl,hb⟩;rw[ex_first,ex_bits];have HB1:=hid (HB.out.trans (hb.mono HB.out.size));have HX1:=hid (HX.out.keep hb);clear hb;have hc0:=HX1.out.c0;have hc1:=HX1.out.c1;have hc2:=HX1.out.c2;go_wp2_with fail
 refine (inode_any _ 10 3 64 2).mono ?_;rintro e w2 ⟨rfl,hb⟩;rw[ex_inode];have HB2:=hid (HB1.out.trans (hb.mono HB1.out.size));have HX2:=hid (HX1.out.keep hb);clear hb hc0 hc1 hc2;have hc0:=HX2.out.c0;have hc1:=HX2.out.c1;have hc2:=HX2.out.c2;go_wp2_with fail
 refine (slot_any _ 10 3 64 0).mono ?_;rintro e w3 ⟨rfl,hb⟩;rw[ex_slot];have HB3:=hid (HB2.out.trans (hb.mono HB2.out.size));have HX3:=hid (HX2.out.keep hb);clear hb hc0 hc1 hc2;have hc0:=HX3.out.c0;have hc1:=HX3.out.c1;have hc2:=HX3.out.c2;go_wp2_with fail
 refine (block_any _ 10 3 64 0 (by unfold I64;decide) (by unfold I64;decide)).mono ?_;rintro e w4 ⟨rfl,hb⟩;rw[ex_block];have HB4:=hid (HB3.out.trans (hb.mono HB3.out.size));have HX4:=hid (HX3.out.keep hb);clear hb hc0 hc1 hc2;have hc0:=HX4.out.c0;have hc1:=HX4.out.c1;have hc2:=HX4.out.c2;go_wp2_with fail
 refine (words_any _ 10 3 64).mono ?_;rintro e w5 ⟨rfl,hb⟩;rw[ex_words];have HB5:=hid (HB4.out.trans (hb.mono HB4.out.size));clear hb hc0 hc1 hc2;go_wp2
 go_ret
 exact⟨rfl,HB5.out⟩
end Geo
end
section
open Lib (hid)
open Go.RowKit Go.MapKept
namespace Geo
theorem fill_any (w:World) (n:Int) (h1:0≤n) (h2:n≤10000000) :
 Calls Tryz.prog 232 #[.int .i64 n] w fun r w'=>r = .returned (.int .i64 (lines n))∧w=w':=by
 have HL:=hid (show lines n=(n+7) / 8 * 8 from rfl);go_enter Tryz.func232,Tryz.ntmps232
 go_wp2
 go_loop [0] (fun v=>∃ p:Int,n≤p∧p≤(n+7) / 8 * 8∧v = .int .i64 p) (fun v=>((n+7) / 8 * 8 - intOf v).toNat)
 case atStart=>exact⟨n,by omega,by omega,rfl⟩
 case round=>
  obtain⟨p,hp1,hp2,rfl⟩:=hrel
  by_cases hz:p % 8=0
  · go_wp2
    go_ret;have e:p=(n+7) / 8 * 8:=by omega
    exact⟨by rw[HL.out,← e];rfl,rfl⟩
  · go_wp2
    go_round
    case rel=>exact⟨p+1,by omega,by omega,rfl⟩
    case measure=>simp[intOf];omega
def parts (n m s:Int):Value:=if may n m s=true then .agg #[.int .i64 16,.int .i64 (16+m * 8),.int .i64 (bmAt n m),.int .i64 (bkAt n m),.int .i64 (fin n m s)] else .agg #[.int .i64 0,.int .i64 0,.int .i64 0,.int .i64 0,.int .i64 0]
theorem parts_yes {n m s:Int} (h:may n m s=true):parts n m s = .agg #[.int .i64 16,.int .i64 (16+m * 8),.int .i64 (bmAt n m),.int .i64 (bkAt n m),.int .i64 (fin n m s)]:=if_pos h
theorem parts_no {n m s:Int} (h:may n m s=false):parts n m s = .agg #[.int .i64 0,.int .i64 0,.int .i64 0,.int .i64 0,.int .i64 0]:=if_neg (by simp[h])
theorem size_at {p s:Int} (h1:Sz p) (h2:p=64∨p < 2 * s) (h3:¬ (p < 4096∧p < s)) (h4:Sz s):p=s:=by
 unfold Sz at h1 h4;omega
theorem fill_bm (w:World) (n m:Int) (n1:1≤n) (n2:n≤65534) (m1:1≤m) (m2:m≤65534) :
 Calls Tryz.prog 232 #[.int .i64 (16+8 * m+n)] w fun r w'=>r = .returned (.int .i64 (bmAt n m))∧w=w':=by
 have e:lines (16+8 * m+n)=bmAt n m:=by unfold bmAt lines;omega
 have:=fill_any w (16+8 * m+n) (by omega) (by omega)
 rwa [e] at this
theorem fill_bk (w:World) (n m:Int) (n1:1≤n) (n2:n≤65534) (m1:1≤m) (m2:m≤65534) :
 Calls Tryz.prog 232 #[.int .i64 (bmAt n m+(n+63) / 64)] w fun r w'=>r = .returned (.int .i64 (bkAt n m))∧w=w':=by
 have e:lines (bmAt n m+(n+63) / 64)=bkAt n m:=by unfold bkAt bmAt lines;omega
 have hb:=bm_bounds ⟨n1,n2⟩ ⟨m1,m2⟩
 have:=fill_any w (bmAt n m+(n+63) / 64) (by omega) (by omega)
 rwa [e] at this
theorem of_any (w:World) (n m s:Int) :
 Calls Tryz.prog 209 #[.int .i64 n,.int .i64 m,.int .i64 s] w fun r w'=>r = .returned (.tuple #[parts n m s,.bool (may n m s)])∧Below w.heap.size w w':=by
 by_cases h:(1≤n∧n≤65534)∧(1≤m∧m≤65534)
 · obtain⟨⟨n1,n2⟩,m1,m2⟩:=h
   go_enter Tryz.func209,Tryz.ntmps209
   go_wp2
   go_loop [8] (fun v=>∃ p:Int,Sz p∧(p=64∨p < 2 * s)∧v = .int .i64 p) (fun v=>(4096 - intOf v).toNat)
   case atStart=>exact⟨64,.inl rfl,.inl rfl,rfl⟩
   case round=>
    obtain⟨p,hp1,hp2,rfl⟩:=hrel
    by_cases hc:p < 4096∧p < s
    · obtain⟨c1,c2⟩:=hc
      have hb:=hp1.bounds;have hq:Sz (2 * p):=by unfold Sz at hp1 ⊢;omega
      have HQ:=hid hq;clear hp1 hp2 hq;go_wp2
      go_round
      case rel=>exact⟨2 * p,HQ.out,.inr (by omega),rfl⟩
      case measure=>simp[intOf];omega
    · by_cases hs:Sz s
      · obtain rfl:=size_at hp1 hp2 hc hs
        have hl:¬ p < p:=by omega
        have hb:=hp1.bounds;have HS:=hid hp1;have hf:=fin_bounds ⟨n1,n2⟩ ⟨m1,m2⟩ hp1;have hbm:=bm_bounds ⟨n1,n2⟩ ⟨m1,m2⟩;have hbk:=bk_bounds ⟨n1,n2⟩ ⟨m1,m2⟩
        have e:n * p / 8=n * (p / 8):=by
         have:n * p=n * (p / 8) * 8:=by rw[Int.mul_assoc,hb.2.2.2.2]
         omega
        have hnp:0≤n * p∧n * p≤300000000:=by omega
        have hbm1:0≤bmAt n m:=by omega
        have hbm2:bmAt n m≤600000:=by omega
        have hbk1:0≤bkAt n m:=by omega
        have hbk2:bkAt n m≤610000:=by omega
        have HE:=hid (show bkAt n m+n * p / 8=fin n m p by rw[e];rfl);have HC:=hid (Int.mul_comm 8 m);have HF1:=hid (fun w=>fill_bm w n m n1 n2 m1 m2);have HF2:=hid (fun w=>fill_bk w n m n1 n2 m1 m2);clear hp1 hp2 hs hc hf hbm hbk e hb;by_cases hlt:fin n m p≤4194304
        · have HM:=hid (may_yes ⟨⟨⟨n1,n2⟩,⟨m1,m2⟩,HS.out⟩,hlt⟩)
          have hlt':¬ 4194304 < bkAt n m+n * p / 8:=by rw[HE.out];omega
          clear hlt
          go_wp2_with (first
           | (go_at_call 232;with_reducible refine (HF1.out _).mono ?_;rintro e w' ⟨rfl,rfl⟩)
           | (go_at_call 232;with_reducible refine (HF2.out _).mono ?_;rintro e w' ⟨rfl,rfl⟩))
          all_goals
           refine bodyPost_ret (v:=.tuple #[parts n m p,.bool (may n m p)]) ?_ rfl ⟨rfl,?_⟩
           · rw[parts_yes HM.out,HM.out,← HE.out,← HC.out];simp[results,Tryz.results209,go_sem]
           · exact ((Below.refl _ _).alloc (Nat.le_refl _) _).alloc (by simp) _
        · have HM:=hid (may_no (n:=n) (m:=m) (s:=p) (fun h=>hlt h.2))
          have hlt':4194304 < bkAt n m+n * p / 8:=by rw[HE.out];omega
          clear hlt
          go_wp2_with (first
           | (go_at_call 232;with_reducible refine (HF1.out _).mono ?_;rintro e w' ⟨rfl,rfl⟩)
           | (go_at_call 232;with_reducible refine (HF2.out _).mono ?_;rintro e w' ⟨rfl,rfl⟩))
          all_goals
           refine bodyPost_ret (v:=.tuple #[parts n m p,.bool (may n m p)]) ?_ rfl ⟨rfl,?_⟩
           · rw[parts_no HM.out,HM.out];simp[results,Tryz.results209,go_sem]
           · exact ((Below.refl _ _).alloc (Nat.le_refl _) _).alloc (by simp) _
      · have hne:¬ p=s:=fun e=>hs (e ▸ hp1)
        have HM:=hid (may_no (n:=n) (m:=m) (s:=s) (fun h=>hs h.1.2.2));clear hp1 hp2 hs;by_cases h4:p < 4096
        · have hs:¬ p < s:=by omega
          clear hc;go_wp2
          refine bodyPost_ret (v:=.tuple #[parts n m s,.bool (may n m s)]) ?_ rfl ⟨rfl,?_⟩
          · rw[parts_no HM.out,HM.out];simp[results,Tryz.results209,go_sem]
          · exact (((Below.refl _ _).alloc (Nat.le_refl _) _))
        · clear hc
          go_wp2
          refine bodyPost_ret (v:=.tuple #[parts n m s,.bool (may n m s)]) ?_ rfl ⟨rfl,?_⟩
          · rw[parts_no HM.out,HM.out];simp[results,Tryz.results209,go_sem]
          · exact (((Below.refl _ _).alloc (Nat.le_refl _) _))
 · have HM:=hid (may_no (n:=n) (m:=m) (s:=s) (fun h'=>h ⟨h'.1.1,h'.1.2.1⟩))
   by_cases h1:n < 1
   · go_enter Tryz.func209,Tryz.ntmps209
     go_wp2
     refine bodyPost_ret (v:=.tuple #[parts n m s,.bool (may n m s)]) ?_ rfl ⟨rfl,?_⟩
     · rw[parts_no HM.out,HM.out];simp[results,Tryz.results209,go_sem]
     · exact (((Below.refl _ _).alloc (Nat.le_refl _) _))
   · by_cases h2:65534 < n
     · go_enter Tryz.func209,Tryz.ntmps209
       go_wp2
       refine bodyPost_ret (v:=.tuple #[parts n m s,.bool (may n m s)]) ?_ rfl ⟨rfl,?_⟩
       · rw[parts_no HM.out,HM.out];simp[results,Tryz.results209,go_sem]
       · exact (((Below.refl _ _).alloc (Nat.le_refl _) _))
     · by_cases h3:m < 1
       · go_enter Tryz.func209,Tryz.ntmps209
         go_wp2
         refine bodyPost_ret (v:=.tuple #[parts n m s,.bool (may n m s)]) ?_ rfl ⟨rfl,?_⟩
         · rw[parts_no HM.out,HM.out];simp[results,Tryz.results209,go_sem]
         · exact (((Below.refl _ _).alloc (Nat.le_refl _) _))
       · have h4:65534 < m:=by omega
         clear h;go_enter Tryz.func209,Tryz.ntmps209
         go_wp2
         refine bodyPost_ret (v:=.tuple #[parts n m s,.bool (may n m s)]) ?_ rfl ⟨rfl,?_⟩
         · rw[parts_no HM.out,HM.out];simp[results,Tryz.results209,go_sem]
         · exact (((Below.refl _ _).alloc (Nat.le_refl _) _))
end Geo
end
section
namespace Crc
def A (p x:Nat):Nat:=x / 2 ^^^ (if x % 2=1 then p else 0)
def it (p:Nat):Nat→Nat→Nat
 | 0,x=>x
 | k+1,x=>it p k (A p x)
theorem half_xor (x y:Nat):(x ^^^ y) / 2=x / 2 ^^^ y / 2:=by
 apply Nat.eq_of_testBit_eq;intro i;rw[Nat.testBit_div_two,Nat.testBit_xor,Nat.testBit_xor,Nat.testBit_div_two,Nat.testBit_div_two]
theorem odd_xor (x y:Nat):(x ^^^ y) % 2=(x % 2+y % 2) % 2:=by
 have h:(x ^^^ y).testBit 0=(x.testBit 0 ^^ y.testBit 0):=Nat.testBit_xor ..;simp only[Nat.testBit_zero] at h
 rcases Nat.mod_two_eq_zero_or_one x with hx | hx<;>rcases Nat.mod_two_eq_zero_or_one y with hy | hy<;>rcases Nat.mod_two_eq_zero_or_one (x ^^^ y) with hz | hz<;>simp[hx,hy,hz] at h ⊢
theorem A_xor (p x y:Nat):A p (x ^^^ y)=A p x ^^^ A p y:=by
 unfold A;rw[half_xor,odd_xor];generalize x / 2=a;generalize y / 2=b;apply Nat.eq_of_testBit_eq;intro i
 rcases Nat.mod_two_eq_zero_or_one x with hx | hx<;>rcases Nat.mod_two_eq_zero_or_one y with hy | hy<;>simp[hx,hy,Nat.testBit_xor]<;>cases a.testBit i<;>cases b.testBit i<;>cases p.testBit i<;>rfl
theorem A_double (p x:Nat):A p (x * 2)=x:=by
 unfold A;simp
theorem it_xor (p k:Nat):∀ x y,it p k (x ^^^ y)=it p k x ^^^ it p k y:=by
 induction k with
 | zero=>exact fun _ _=>rfl
 | succ k ih=>exact fun x y=>by simp only[it];rw[A_xor,ih]
theorem it_add (p a b:Nat):∀ x,it p (a+b) x=it p b (it p a x):=by
 induction a with
 | zero=>intro x;rw[Nat.zero_add];rfl
 | succ a ih=>intro x;rw[Nat.succ_add];simp only[it];exact ih _
theorem it_last (p k x:Nat):it p (k+1) x=A p (it p k x):=by rw[it_add];rfl
theorem it_shift (p k:Nat):∀ x,it p k (x * 2 ^ k)=x:=by
 induction k with
 | zero=>intro x;simp[it]
 | succ k ih=>
   intro x;simp only[it];rw[Nat.pow_succ,← Nat.mul_assoc,A_double,ih]
theorem A_lt {p x w:Nat} (hp:p < 2 ^ w) (hx:x < 2 ^ w):A p x < 2 ^ w:=by
 unfold A;refine Nat.xor_lt_two_pow (by omega) ?_
 split<;>omega
theorem it_lt {p w:Nat} (hp:p < 2 ^ w) (k:Nat):∀ x,x < 2 ^ w→it p k x < 2 ^ w:=by
 induction k with
 | zero=>exact fun _ h=>h
 | succ k ih=>exact fun x h=>ih _ (A_lt hp h)
def nx (p r b:Nat):Nat:=it p 8 (r ^^^ b)
def sm (p r:Nat) (l:List Nat):Nat:=l.foldl (nx p) r
def le:List Nat→Nat
 | []=>0
 | b :: l=>b+256 * le l
def Byt (l:List Nat):Prop:=∀ b∈l,b < 256
theorem Byt.cons {b:Nat} {l:List Nat} (h:Byt (b :: l)):b < 256∧Byt l:=⟨h b (List.mem_cons_self ..),fun c hc=>h c (List.mem_cons_of_mem _ hc)⟩
theorem bit_cons {b:Nat} (hb:b < 256) (x i:Nat):(b+256 * x).testBit i=if i < 8 then b.testBit i else x.testBit (i - 8):=by
 rw[Nat.add_comm];exact Nat.testBit_two_pow_mul_add x (i:=8) (by omega) i
theorem cons_xor {b:Nat} (hb:b < 256) (x:Nat):b+256 * x=b ^^^ x * 2 ^ 8:=by
 apply Nat.eq_of_testBit_eq;intro i;rw[bit_cons hb,Nat.testBit_xor,Nat.testBit_mul_two_pow];by_cases h:i < 8
 · simp[h,Nat.not_le.2 h]
 · have h8:b.testBit i=false:=Nat.testBit_lt_two_pow (Nat.lt_of_lt_of_le hb (Nat.pow_le_pow_right (n:=2) (by omega) (by omega:8≤i)))
   simp[h,h8,Nat.not_lt.1 h]
theorem sm_eq (p:Nat) (l:List Nat):∀ r,Byt l→sm p r l=it p (8 * l.length) (r ^^^ le l):=by
 induction l with
 | nil=>intro r _;simp[sm,le,it]
 | cons b l ih=>
   intro r h;have hb:=h.cons;have e:sm p r (b :: l)=sm p (nx p r b) l:=rfl;rw[e,ih _ hb.2];have e2:8 * (b :: l).length=8+8 * l.length:=by rw[List.length_cons];omega
   rw[e2,it_add]
   congr 1
   show nx p r b ^^^ le l=it p 8 (r ^^^ (b+256 * le l))
   rw[cons_xor hb.1,← Nat.xor_assoc,it_xor,it_shift];rfl
theorem sm_append (p r:Nat) (l m:List Nat):sm p r (l++m)=sm p (sm p r l) m:=List.foldl_append ..
theorem bit_le (l:List Nat):∀ i,Byt l→i < 8 * l.length→(le l).testBit i=(l[i / 8]?.getD 0).testBit (i % 8):=by
 induction l with
 | nil=>intro i _ h;simp at h
 | cons b l ih=>
   intro i h hi;have hb:=h.cons;show (b+256 * le l).testBit i=_
   rw[bit_cons hb.1];by_cases h8:i < 8
   · have e0:i / 8=0:=by omega
     have e1:i % 8=i:=by omega
     simp[h8,e0,e1]
   · rw[List.length_cons] at hi
     have e0:i / 8=(i - 8) / 8+1:=by omega
     have e1:i % 8=(i - 8) % 8:=by omega
     rw[if_neg h8,ih _ hb.2 (by omega),e0,e1,List.getElem?_cons_succ]
theorem le_lt (l:List Nat):Byt l→le l < 2 ^ (8 * l.length):=by
 induction l with
 | nil=>intro _;simp[le]
 | cons b l ih=>
   intro h;have hb:=h.cons
   have:=ih hb.2
   show b+256 * le l < _
   have e2:8 * (b :: l).length=8+8 * l.length:=by rw[List.length_cons];omega
   rw[e2,Nat.pow_add]
   have:=hb.1
   have:2 ^ 8=256:=rfl
   omega
def ser (p r M:Nat):Nat→Nat
 | 0=>r
 | k+1=>A p (ser p r M k ^^^ (M / 2 ^ k % 2))
theorem ser_inv (p r M:Nat):∀ k,ser p r M k ^^^ M / 2 ^ k=it p k (r ^^^ M):=by
 intro k
 induction k with
 | zero=>simp[ser,it]
 | succ k ih=>
   rw[it_last,← ih]
   have e:M / 2 ^ k=(M / 2 ^ k % 2) ^^^ (M / 2 ^ (k+1)) * 2:=by
    rw[Nat.pow_succ,← Nat.div_div_eq_div_mul];generalize M / 2 ^ k=y;apply Nat.eq_of_testBit_eq;intro i;have h2:y / 2 * 2=y / 2 * 2 ^ 1:=rfl;rw[Nat.testBit_xor,h2,Nat.testBit_mul_two_pow,Nat.testBit_div_two]
    cases i with
    | zero=>simp[Nat.testBit_zero]
    | succ i=>
      have h3:(y % 2).testBit (i+1)=false:=Nat.testBit_lt_two_pow (Nat.lt_of_lt_of_le (Nat.mod_lt y (by omega)) (Nat.pow_le_pow_right (n:=2) (by omega) (by omega:1≤i+1)));simp[h3]
   show A p (ser p r M k ^^^ (M / 2 ^ k % 2)) ^^^ M / 2 ^ (k+1)=_
   conv=>rhs;rw[e]
   rw[← Nat.xor_assoc,A_xor p (_ ^^^ _),A_double]
theorem ser_sm (p r:Nat) (l:List Nat) (h:Byt l):ser p r (le l) (8 * l.length)=sm p r l:=by
 have:=ser_inv p r (le l) (8 * l.length)
 rw[Nat.div_eq_of_lt (le_lt l h),Nat.xor_zero] at this;rw[this,sm_eq p l r h]
end Crc
end
section
namespace Crc
def rev:Nat→Nat→Nat
 | 0,_=>0
 | w+1,x=>2 ^ w * (x % 2)+rev w (x / 2)
theorem rev_lt (w:Nat):∀ x,rev w x < 2 ^ w:=by
 induction w with
 | zero=>intro x;simp[rev]
 | succ w ih=>
   intro x;have h1:=ih (x / 2);have h2:x % 2 < 2:=Nat.mod_lt _ (by omega);simp only[rev];rw[Nat.pow_succ]
   rcases Nat.mod_two_eq_zero_or_one x with h | h<;>rw[h]<;>omega
theorem bit_rev (w:Nat):∀ x i,(rev w x).testBit i=(decide (i < w) && x.testBit (w - 1 - i)):=by
 induction w with
 | zero=>intro x i;simp[rev]
 | succ w ih=>
   intro x i;simp only[rev];rw[Nat.testBit_two_pow_mul_add _ (rev_lt w _),ih];by_cases h:i < w
   · have e:w+1 - 1 - i=w - 1 - i+1:=by omega
     have h1:i < w+1:=by omega
     rw[if_pos h,e,Nat.testBit_add_one];simp[h,h1]
   · rw[if_neg h]
     by_cases h1:i=w
     · subst h1
       simp
     · have h2:¬ i < w+1:=by omega
       have h3:(x % 2).testBit (i - w)=false:=Nat.testBit_lt_two_pow (Nat.lt_of_lt_of_le (Nat.mod_lt x (by omega)) (Nat.pow_le_pow_right (n:=2) (by omega) (by omega:1≤i - w)));simp[h2,h3]
theorem rev_xor (w x y:Nat):rev w (x ^^^ y)=rev w x ^^^ rev w y:=by
 apply Nat.eq_of_testBit_eq;intro i;simp only[bit_rev,Nat.testBit_xor];by_cases h:i < w<;>simp[h]
theorem rev_byte {b:Nat} (hb:b < 256):rev 16 (rev 8 b)=b * 256:=by
 apply Nat.eq_of_testBit_eq;intro i;have e:b * 256=b * 2 ^ 8:=rfl;rw[e,Nat.testBit_mul_two_pow];simp only[bit_rev];by_cases h:i < 16
 · by_cases h1:8≤i
   · have e1:8 - 1 - (16 - 1 - i)=i - 8:=by omega
     have h2:16 - 1 - i < 8:=by omega
     simp only[h,h1,h2,e1,decide_true,Bool.true_and]
   · have h2:¬ 16 - 1 - i < 8:=by omega
     simp only[h,h1,h2,decide_true,decide_false,Bool.true_and,Bool.false_and]
 · have h1:b.testBit (i - 8)=false:=Nat.testBit_lt_two_pow (Nat.lt_of_lt_of_le (show b < 2 ^ 8 from hb) (Nat.pow_le_pow_right (n:=2) (by omega) (by omega:8≤i - 8)))
   simp[h,h1]
theorem rev_half {q:Nat} (hq:q < 65536):rev 16 q * 2 % 65536=rev 16 (q / 2):=by
 apply Nat.eq_of_testBit_eq;intro i;have e0:(65536:Nat)=2 ^ 16:=rfl;have e1:rev 16 q * 2=rev 16 q * 2 ^ 1:=rfl;rw[e0,Nat.testBit_mod_two_pow,e1,Nat.testBit_mul_two_pow];simp only[bit_rev];by_cases h:i < 16
 · rw[Nat.testBit_div_two]
   cases i with
   | zero=>
     have h1:q.testBit 16=false:=Nat.testBit_lt_two_pow hq;simp[h1]
   | succ i=>
     have h1:i < 16:=by omega
     have e2:16 - 1 - i=16 - 1 - (i+1)+1:=by omega
     simp[h,h1,e2]
 · simp[h]
theorem rev_top (q:Nat):rev 16 q / 32768=q % 2:=by
 have h:=rev_lt 15 (q / 2);have e:rev 16 q=2 ^ 15 * (q % 2)+rev 15 (q / 2):=rfl;rw[e]
 have:(2:Nat) ^ 15=32768:=rfl
 omega
def P16:Nat:=33800
theorem step_rev {q:Nat} (hq:q < 65536):rev 16 q * 2 % 65536 ^^^ (if q % 2=1 then 4129 else 0)=rev 16 (A P16 q):=by
 unfold A;rw[rev_xor,rev_half hq]
 congr 1
 split<;>decide
end Crc
end
section
open Go.RowKit Go.MapKept
namespace Crc
def P32:Nat:=3988292384
theorem mask32 (p e:Nat) (hp:p < 4294967296) (he:e=0∨e=1):bits .and .u32 (p:Int) (IntKind.wrap .u32 (-(e:Int)))=(((if e=1 then p else 0:Nat)):Int):=by
 rcases he with rfl | rfl
 · have h:IntKind.wrap .u32 (-((0:Nat):Int))=((0:Nat):Int):=by rw[IntKind.wrap_u32'];rfl
   rw[h,u32_and_nat p 0 hp (by omega)];simp
 · have h:IntKind.wrap .u32 (-((1:Nat):Int))=((4294967295:Nat):Int):=by rw[IntKind.wrap_u32'];rfl
   have h2:p &&& 4294967295=p % 4294967296:=Nat.and_two_pow_sub_one_eq_mod p 32;rw[h,u32_and_nat p _ hp (by omega),h2,Nat.mod_eq_of_lt hp];simp
theorem mask16 (p e:Nat) (hp:p < 65536) (he:e=0∨e=1):bits .and .u16 (p:Int) (IntKind.wrap .u16 (-(e:Int)))=(((if e=1 then p else 0:Nat)):Int):=by
 rcases he with rfl | rfl
 · have h:IntKind.wrap .u16 (-((0:Nat):Int))=((0:Nat):Int):=by rw[IntKind.wrap_u16];rfl
   rw[h,u16_and_nat p 0 hp (by omega)];simp
 · have h:IntKind.wrap .u16 (-((1:Nat):Int))=((65535:Nat):Int):=by rw[IntKind.wrap_u16];rfl
   have h2:p &&& 65535=p % 65536:=Nat.and_two_pow_sub_one_eq_mod p 16;rw[h,u16_and_nat p _ hp (by omega),h2,Nat.mod_eq_of_lt hp];simp
theorem step32 (x:Nat) (hx:x < 4294967296):bits .xor .u32 ((x:Int) / 2) (bits .and .u32 3988292384 (IntKind.wrap .u32 (-(bits .and .u32 (x:Int) 1))))=((A P32 x:Nat):Int):=by
 have h1:bits .and .u32 (x:Int) 1=((x % 2:Nat):Int):=by
  have:=u32_and_nat x 1 hx (by omega)
  rw[nat_mask1] at this;exact this
 rw[h1];have h2:=mask32 3988292384 (x % 2) (by omega) (by omega);rw[show ((3988292384:Nat):Int)=(3988292384:Int) from rfl] at h2;rw[h2,show (x:Int) / 2=((x / 2:Nat):Int) from rfl,u32_xor_nat _ _ (by omega) (by split<;>omega)];rfl
theorem step16 (q:Nat) (hq:q < 65536):bits .xor .u16 (IntKind.wrap .u16 (((rev 16 q:Nat):Int) * 2)) (bits .and .u16 4129 (IntKind.wrap .u16 (-(((rev 16 q:Nat):Int) / 32768))))=((rev 16 (A P16 q):Nat):Int):=by
 have h1:((rev 16 q:Nat):Int) / 32768=((q % 2:Nat):Int):=by rw[← rev_top];rfl
 have h0:IntKind.wrap .u16 (((rev 16 q:Nat):Int) * 2)=((rev 16 q * 2 % 65536:Nat):Int):=by rw[IntKind.wrap_u16];omega
 have h2:=mask16 4129 (q % 2) (by omega) (by omega);rw[show ((4129:Nat):Int)=(4129:Int) from rfl] at h2;rw[h1,h2,h0,u16_xor_nat _ _ (by omega) (by split<;>omega),step_rev hq]
theorem it32_lt {x:Nat} (hx:x < 4294967296) (k:Nat):it P32 k x < 4294967296:=it_lt (w:=32) (by decide) k x hx
theorem it16_lt {x:Nat} (hx:x < 65536) (k:Nat):it P16 k x < 65536:=it_lt (w:=16) (by decide) k x hx
theorem next32_any (w:World) (r b:Nat) (hr:r < 4294967296) (hb:b < 256) :
 Calls Tryz.prog 187 #[.int .u32 (r:Int),.int .u8 (b:Int)] w fun e w'=>e = .returned (.int .u32 (nx P32 r b:Nat))∧w=w':=by
 have hx:bits .xor .u32 (r:Int) (b:Int)=((r ^^^ b:Nat):Int):=u32_xor_nat r b hr (by omega);have hlt:r ^^^ b < 4294967296:=Nat.xor_lt_two_pow (n:=32) hr (by omega);go_enter Tryz.func187,Tryz.ntmps187
 go_wp2
 go_loopw [0,9] (fun s i wr=>∃ m:Nat,m≤8∧i = .int .i64 (m:Int)∧s = .int .u32 ((it P32 m (r ^^^ b):Nat):Int)∧wr=w) (fun _ i _=>8 - (intOf i).toNat)
 case atStart=>exact⟨0,by omega,rfl,rfl,rfl⟩
 case round=>
  obtain⟨m,hm,rfl,rfl,rfl⟩:=hrel
  have hs:=step32 _ (it32_lt hlt m);rw[← it_last,IntKind.wrap_u32'] at hs;by_cases h8:m < 8
  · go_wp2
    exact⟨⟨m+1,by omega,by go_num,rfl,trivial⟩,by simp[intOf];omega⟩
  · obtain rfl:m=8:=by omega
    clear hs;go_wp2
    go_ret
    exact⟨rfl,rfl⟩
theorem next16_any (w:World) (q b:Nat) (hq:q < 65536) (hb:b < 256) :
 Calls Tryz.prog 208 #[.int .u16 ((rev 16 q:Nat):Int),.int .u8 (b:Int)] w fun e w'=>e = .returned (.int .u16 (rev 16 (nx P16 q (rev 8 b)):Nat))∧w=w':=by
 have hv:rev 8 b < 256:=rev_lt 8 b;have hlt:q ^^^ rev 8 b < 65536:=Nat.xor_lt_two_pow (n:=16) hq (by omega)
 have hx:bits .xor .u16 ((rev 16 q:Nat):Int) ((b:Int) * 256)=((rev 16 (q ^^^ rev 8 b):Nat):Int):=by
  have h0:(b:Int) * 256=((b * 256:Nat):Int):=by omega
  rw[h0,u16_xor_nat _ _ (rev_lt 16 q) (by omega),rev_xor,rev_byte hb]
 go_enter Tryz.func208,Tryz.ntmps208
 go_wp2
 go_loopw [0,10] (fun s i wr=>∃ m:Nat,m≤8∧i = .int .i64 (m:Int)∧s = .int .u16 ((rev 16 (it P16 m (q ^^^ rev 8 b)):Nat):Int)∧wr=w) (fun _ i _=>8 - (intOf i).toNat)
 case atStart=>exact⟨0,by omega,rfl,rfl,rfl⟩
 case round=>
  obtain⟨m,hm,rfl,rfl,rfl⟩:=hrel
  have hs:=step16 _ (it16_lt hlt m);rw[← it_last] at hs;by_cases h8:m < 8
  · go_wp2
    exact⟨⟨m+1,by omega,by go_num,rfl,trivial⟩,by simp[intOf];omega⟩
  · obtain rfl:m=8:=by omega
    clear hs;go_wp2
    go_ret
    exact⟨rfl,rfl⟩
end Crc
end
section
open Lib (hid)
open Go.RowKit Go.MapKept
namespace Crc
structure Bts (w:World) (A:Option Addr) (l:List Nat):Prop where
 byt:Byt l
 len:l.length≤9223372036854775807
 at':∀ j (h:j < l.length),∃ b o,A=some ⟨b,o,none⟩∧b < w.heap.size∧w.cell? ⟨b,o+j,none⟩=some (.int .u8 (l[j]:Int))
structure Prt where
 a:Option Addr
 c:Nat
 l:List Nat
structure Pts (w:World) (A:Option Addr) (ps:List Prt):Prop where
 len:ps.length≤9223372036854775807
 at':∀ i (h:i < ps.length),∃ b o,A=some ⟨b,o,none⟩∧b < w.heap.size∧w.cell? ⟨b,o+i,none⟩=some (.slice ps[i].a ps[i].l.length ps[i].c)
 bts:∀ i (h:i < ps.length),Bts w ps[i].a ps[i].l
def flat (ps:List Prt):List Nat:=ps.flatMap Prt.l
theorem flat_take {ps:List Prt} {m:Nat} (h:m < ps.length):flat (ps.take (m+1))=flat (ps.take m)++ps[m].l:=by
 unfold flat;rw[List.take_succ_eq_append_getElem h,List.flatMap_append];simp
theorem Pts.flat_byt {w:World} {A:Option Addr} {ps:List Prt} (h:Pts w A ps):Byt (flat ps):=by
 intro b hb
 obtain⟨q,hq,hb⟩:=List.mem_flatMap.1 hb
 obtain⟨i,hi,rfl⟩:=List.getElem_of_mem hq
 exact (h.bts i hi).byt b hb
theorem Byt.take {l:List Nat} (h:Byt l) (n:Nat):Byt (l.take n):=fun b hb=>h b (List.mem_of_mem_take hb)
theorem Byt.append {l m:List Nat} (h:Byt l) (g:Byt m):Byt (l++m):=fun b hb=>(List.mem_append.1 hb).elim (h b) (g b)
theorem nx32_lt {r b:Nat} (hr:r < 4294967296) (hb:b < 256):nx P32 r b < 4294967296:=it32_lt (Nat.xor_lt_two_pow (n:=32) hr (by omega)) 8
theorem nx16_lt {r b:Nat} (hr:r < 65536) (hb:b < 256):nx P16 r b < 65536:=it16_lt (Nat.xor_lt_two_pow (n:=16) hr (by omega)) 8
theorem sm32_lt (l:List Nat):∀ r,r < 4294967296→Byt l→sm P32 r l < 4294967296:=by
 induction l with
 | nil=>exact fun _ h _=>h
 | cons b l ih=>exact fun r h hl=>ih _ (nx32_lt h hl.cons.1) hl.cons.2
theorem sm16_lt (l:List Nat):∀ r,r < 65536→Byt l→sm P16 r l < 65536:=by
 induction l with
 | nil=>exact fun _ h _=>h
 | cons b l ih=>exact fun r h hl=>ih _ (nx16_lt h hl.cons.1) hl.cons.2
theorem sm_take {p r:Nat} {l:List Nat} {j:Nat} (h:j < l.length):sm p r (l.take (j+1))=nx p (sm p r (l.take j)) l[j]:=by
 rw[List.take_succ_eq_append_getElem h,sm_append];rfl
def S32 (l:List Nat):Nat:=4294967295 - sm P32 4294967295 l
def T16 (l:List Nat):Nat:=sm P16 65535 (l.map (rev 8))
def S16 (l:List Nat):Nat:=rev 16 (T16 l)
theorem inv32 (x:Nat) (hx:x < 4294967296):bits .xor .u32 IntKind.u32.max (x:Int)=((4294967295 - x:Nat):Int):=by
 have h:=u32_xor_nat 4294967295 x (by omega) hx
 have e:4294967295 ^^^ x=4294967295 - x:=by
  apply Nat.eq_of_testBit_eq;intro i;have e1:4294967295 - x=2 ^ 32 - (x+1):=by omega
  have e2:(4294967295:Nat)=2 ^ 32 - 1:=rfl;rw[Nat.testBit_xor,e1,Nat.testBit_two_pow_sub_succ (show x < 2 ^ 32 from hx),e2,Nat.testBit_two_pow_sub_one];by_cases hi:i < 32
  · simp[hi]
  · have:x.testBit i=false:=Nat.testBit_lt_two_pow (Nat.lt_of_lt_of_le (show x < 2 ^ 32 from hx) (Nat.pow_le_pow_right (n:=2) (by omega) (by omega:32≤i)))
    simp[hi,this]
 rw[e] at h;exact h
section
variable {w : World}
theorem sum32_any (A:Option Addr) (c:Nat) (ps:List Prt) (h:Pts w A ps) :
 Calls Tryz.prog 146 #[.slice A ps.length c] w fun e w'=>e = .returned (.int .u32 (S32 (flat ps):Nat))∧w=w':=by
 have hn:=h.len;have HF:=hid h.flat_byt;have H:=hid h;clear h;have HN:=hid (fun r b hr hb=>next32_any w r b hr hb);go_enter Tryz.func146,Tryz.ntmps146
 go_wp2
 go_loopw [3,10] (fun s i wr=>∃ m:Nat,m≤ps.length∧i = .int .i64 (m:Int)∧s = .int .u32 ((sm P32 4294967295 (flat (ps.take m)):Nat):Int)∧w=wr) (fun _ i _=>ps.length - (intOf i).toNat)
 case atStart=>exact⟨0,Nat.zero_le _,rfl,rfl,rfl⟩
 case round=>
  obtain⟨m,hm,rfl,rfl,rfl⟩:=hrel
  by_cases hlt:m < ps.length
  · obtain⟨b,o,rfl,hb,hcell⟩:=H.out.at' m hlt
    have hbt:=H.out.bts m hlt;have hbl:=hbt.len;have HB:=hid hbt
    have hr0:sm P32 4294967295 (flat (ps.take m)) < 4294967296:=sm32_lt _ _ (by omega) (fun x hx=>by
     obtain⟨q,hq,hx⟩:=List.mem_flatMap.1 hx
     obtain⟨i,hi,rfl⟩:=List.getElem_of_mem (List.mem_of_mem_take hq)
     exact (H.out.bts i hi).byt x hx)
    have HR:=hid (show sm P32 4294967295 (flat (ps.take (m+1)))=sm P32 (sm P32 4294967295 (flat (ps.take m))) (ps[m].l) by rw[flat_take hlt,sm_append]);generalize ps[m]=q at *;generalize sm P32 4294967295 (flat (ps.take m))=r0 at *
    obtain⟨qa,qc,ql⟩:=q
    simp only at hcell hbl HB HR;clear hbt;go_wp2
    go_loopw [3,16] (fun s i wr=>∃ j:Nat,j≤ql.length∧i = .int .i64 (j:Int)∧s = .int .u32 ((sm P32 r0 (ql.take j):Nat):Int)∧w=wr) (fun _ i _=>ql.length - (intOf i).toNat)
    case atStart=>exact⟨0,Nat.zero_le _,rfl,rfl,rfl⟩
    case round=>
     obtain⟨j,hj,rfl,rfl,rfl⟩:=hrel
     by_cases hjl:j < ql.length
     · obtain⟨b',o',rfl,hb',hc'⟩:=HB.out.at' j hjl
       have hbb:ql[j] < 256:=HB.out.byt _ (List.getElem_mem hjl);have hrj:sm P32 r0 (ql.take j) < 4294967296:=sm32_lt _ _ hr0 (HB.out.byt.take j);have hnx:=HN.out _ _ hrj hbb;have e:sm P32 r0 (ql.take (j+1))=nx P32 (sm P32 r0 (ql.take j)) (ql[j]):=sm_take hjl;rw[← e] at hnx;have HX:=hid hnx;clear hnx e;go_wp2_with fail
       refine HX.out.mono ?_;rintro e w' ⟨rfl,rfl⟩;go_wp2
       exact⟨⟨j+1,by omega,by go_num,rfl,trivial⟩,by simp[intOf];omega⟩
     · obtain rfl:j=ql.length:=by omega
       rw[List.take_length,← HR.out];go_wp2
       exact⟨⟨m+1,by omega,by go_num,rfl,trivial⟩,by simp[intOf];omega⟩
  · obtain rfl:m=ps.length:=by omega
    rw[List.take_length];have hi:=inv32 _ (sm32_lt (flat ps) 4294967295 (by omega) HF.out);go_wp2
    go_ret
    exact⟨rfl,rfl⟩
theorem sum16_gen (f g:Nat→Nat) (hf:f 65535=65535) (hg:∀ b,g b < 256) (hN:∀ r b:Nat,r < 65536→b < 256→Calls Tryz.prog 208 #[.int .u16 ((f r:Nat):Int),.int .u8 (b:Int)] w fun e w'=>e = .returned (.int .u16 (f (nx P16 r (g b)):Nat))∧w=w') (A:Option Addr) (c:Nat) (ps:List Prt) (h:Pts w A ps) :
 Calls Tryz.prog 147 #[.slice A ps.length c] w fun e w'=>e = .returned (.int .u16 (f (sm P16 65535 ((flat ps).map g)):Nat))∧w=w':=by
 have hn:=h.len;have hby:∀ l:List Nat,Byt (l.map g):=fun l b hb=>by obtain⟨x,_,rfl⟩:=List.mem_map.1 hb;exact hg x
 have HY:=hid hby;have H:=hid h;clear h;have HN:=hid hN;clear hN hg hby;go_enter Tryz.func147,Tryz.ntmps147
 go_wp2
 go_loopw [3,10] (fun s i wr=>∃ m:Nat,m≤ps.length∧i = .int .i64 (m:Int)∧s = .int .u16 ((f (sm P16 65535 ((flat (ps.take m)).map g)):Nat):Int)∧w=wr) (fun _ i _=>ps.length - (intOf i).toNat)
 case atStart=>
  refine⟨0,Nat.zero_le _,rfl,?_,rfl⟩
  rw[List.take_zero];show Value.int .u16 65535 = .int .u16 ((f 65535:Nat):Int)
  rw[hf];rfl
 case round=>
  obtain⟨m,hm,rfl,rfl,rfl⟩:=hrel
  by_cases hlt:m < ps.length
  · obtain⟨b,o,rfl,hb,hcell⟩:=H.out.at' m hlt
    have hbt:=H.out.bts m hlt;have hbl:=hbt.len;have HB:=hid hbt;have hr0:sm P16 65535 ((flat (ps.take m)).map g) < 65536:=sm16_lt _ _ (by omega) (HY.out _);have HR:=hid (show sm P16 65535 ((flat (ps.take (m+1))).map g)=sm P16 (sm P16 65535 ((flat (ps.take m)).map g)) ((ps[m].l).map g) by rw[flat_take hlt,List.map_append,sm_append]);generalize ps[m]=q at *;generalize sm P16 65535 ((flat (ps.take m)).map g)=r0 at *
    obtain⟨qa,qc,ql⟩:=q
    simp only at hcell hbl HB HR;clear hbt;go_wp2
    go_loopw [3,16] (fun s i wr=>∃ j:Nat,j≤ql.length∧i = .int .i64 (j:Int)∧s = .int .u16 ((f (sm P16 r0 ((ql.map g).take j)):Nat):Int)∧w=wr) (fun _ i _=>ql.length - (intOf i).toNat)
    case atStart=>exact⟨0,Nat.zero_le _,rfl,by rw[List.take_zero];rfl,rfl⟩
    case round=>
     obtain⟨j,hj,rfl,rfl,rfl⟩:=hrel
     by_cases hjl:j < ql.length
     · obtain⟨b',o',rfl,hb',hc'⟩:=HB.out.at' j hjl
       have hbb:ql[j] < 256:=HB.out.byt _ (List.getElem_mem hjl);have hrj:sm P16 r0 ((ql.map g).take j) < 65536:=sm16_lt _ _ hr0 ((HY.out _).take j);have hnx:=HN.out _ _ hrj hbb;have e:sm P16 r0 ((ql.map g).take (j+1))=nx P16 (sm P16 r0 ((ql.map g).take j)) (g ql[j]):=by rw[sm_take (by rw[List.length_map];exact hjl),List.getElem_map]
       rw[← e] at hnx;have HX:=hid hnx;clear hnx e;go_wp2_with fail
       refine HX.out.mono ?_;rintro e w' ⟨rfl,rfl⟩;go_wp2
       exact⟨⟨j+1,by omega,by go_num,rfl,trivial⟩,by simp[intOf];omega⟩
     · obtain rfl:j=ql.length:=by omega
       rw[List.take_of_length_le (by rw[List.length_map];exact Nat.le_refl _),← HR.out];go_wp2
       exact⟨⟨m+1,by omega,by go_num,rfl,trivial⟩,by simp[intOf];omega⟩
  · obtain rfl:m=ps.length:=by omega
    rw[List.take_length];go_wp2
    go_ret
    exact⟨rfl,rfl⟩
theorem sum16_any (A:Option Addr) (c:Nat) (ps:List Prt) (h:Pts w A ps) :
 Calls Tryz.prog 147 #[.slice A ps.length c] w fun e w'=>e = .returned (.int .u16 (S16 (flat ps):Nat))∧w=w':=
 sum16_gen (rev 16) (rev 8) (by decide) (rev_lt 8) (fun r b hr hb=>next16_any w r b hr hb) A c ps h
end
end Crc
end
section
open Lib (hid)
open Go.RowKit Go.MapKept
namespace Crc
theorem conv_new (w:World) (C:Array Value) (n c:Nat):(convert 112 112 (.slice (some ⟨w.heap.size,0,none⟩) n c)).run Tryz.prog (w.alloc (.cells C 5)) = .ok (.slice (some ⟨w.heap.size,0,none⟩) n c) (w.alloc (.cells C 5 (C.size,C.size+1))):=by
 have hsh:(w.alloc (.cells C 5)).shape? w.heap.size=some (5,C.size):=by
  have:(w.alloc (.cells C 5)).heap[w.heap.size]? = some (.cells C 5):=by
   show (w.heap.push (.cells C 5))[w.heap.size]? = _
   simp
  unfold World.shape?;rw[this]
 have hfr:(w.alloc (.cells C 5)).freeze ⟨w.heap.size,C.size,none⟩ 1=w.alloc (.cells C 5 (C.size,C.size+1)):=by
  have hm:∀ (a:Array Obj) (x:Obj) (f:Obj→Obj),(a.push x).modify a.size f=a.push (f x):=by
   intro a x f;apply Array.ext
   · simp
   · intro i h1 h2
     simp only[Array.getElem_modify,Array.getElem_push];by_cases h:a.size=i
     · subst h
       simp
     · have hi:i < a.size:=by simp at h1;omega
       simp[h,hi]
  unfold World.freeze;rw[if_neg (by decide)];show ({ w.alloc (.cells C 5) with heap:=(w.heap.push (.cells C 5)).modify w.heap.size _ }:World)=_
  rw[hm];rfl
 simp[convert,run_underlying Tryz.underlying112,run_underlying Tryz.underlying5,markStringish,hsh,hfr]
theorem Bts.keep {w w':World} {A:Option Addr} {l:List Nat} (h:Bts w A l) (hb:Below w.heap.size w w'):Bts w' A l:=
 ⟨h.byt,h.len,fun j hj=>by
   obtain⟨b,o,e,hlt,hc⟩:=h.at' j hj
   exact⟨b,o,e,Nat.lt_of_lt_of_le hlt hb.size,(hb.cell (p:=⟨b,o+j,none⟩) hlt).trans hc⟩⟩
theorem Bts.alloc {w:World} {A:Option Addr} {l:List Nat} (h:Bts w A l) (o:Obj):Bts (w.alloc o) A l:=h.keep ((Below.refl _ _).alloc (Nat.le_refl _) o)
def Prt.val (q:Prt):Value:=.slice q.a q.l.length q.c
theorem alloc_cell (w:World) (C:Array Value) (t:TypeId) (j:Nat):(w.alloc (.cells C t)).cell? ⟨w.heap.size,j,none⟩=C[j]?:=World.cell?_alloc_mark w C t _ j
theorem pts_new {w:World} (ps:List Prt) (t:TypeId) (hn:ps.length≤9223372036854775807) (h:∀ i (h:i < ps.length),Bts w ps[i].a ps[i].l):Pts (w.alloc (.cells (ps.map Prt.val).toArray t)) (some ⟨w.heap.size,0,none⟩) ps:=
 ⟨hn,fun i hi=>⟨w.heap.size,0,rfl,by simp,by
   rw[alloc_cell,Nat.zero_add,List.getElem?_toArray,List.getElem?_map,List.getElem?_eq_getElem hi]
   rfl⟩,fun i hi=>(h i hi).alloc _⟩
theorem pts_one {w:World} {A:Option Addr} {l:List Nat} (c:Nat) (h:Bts w A l):Pts (w.alloc (.cells #[.slice A l.length c] 112)) (some ⟨w.heap.size,0,none⟩) [⟨A,c,l⟩]:=
 pts_new [⟨A,c,l⟩] _ (by simp) (fun i hi=>by
  obtain rfl:i=0:=by simpa using hi
  exact h)
def L9:List Nat:=[49,50,51,52,53,54,55,56,57]
theorem bts_nine (w:World):Bts (w.alloc (.cells #[.int .u8 49,.int .u8 50,.int .u8 51,.int .u8 52,.int .u8 53,.int .u8 54,.int .u8 55,.int .u8 56,.int .u8 57] 5 (9,10))) (some ⟨w.heap.size,0,none⟩) L9:=
 ⟨by unfold Byt;decide,by decide,fun j hj=>⟨w.heap.size,0,rfl,by simp,by
   rw[World.cell?_alloc_mark,Nat.zero_add]
   have:j < 9:=hj
   match j,this with
   | 0,_=>rfl
   | 1,_=>rfl
   | 2,_=>rfl
   | 3,_=>rfl
   | 4,_=>rfl
   | 5,_=>rfl
   | 6,_=>rfl
   | 7,_=>rfl
   | 8,_=>rfl⟩⟩
theorem flat_one (a:Option Addr) (c:Nat) (l:List Nat):flat [⟨a,c,l⟩]=l:=by simp[flat]
theorem s32_nine:S32 L9=3421780262:=by decide +kernel
theorem s16_nine:S16 L9=10673:=by decide +kernel
theorem sum32_one {w:World} {A:Option Addr} {l:List Nat} (c cc:Nat) (h:Bts w A l) :
 Calls Tryz.prog 146 #[.slice (some ⟨w.heap.size,0,none⟩) 1 cc] (w.alloc (.cells #[.slice A l.length c] 112)) fun e w'=>e = .returned (.int .u32 (S32 l:Nat))∧w.alloc (.cells #[.slice A l.length c] 112)=w':=by
 have:=sum32_any _ cc _ (pts_one c h)
 rw[flat_one] at this;exact this
theorem sum16_one {w:World} {A:Option Addr} {l:List Nat} (c cc:Nat) (h:Bts w A l) :
 Calls Tryz.prog 147 #[.slice (some ⟨w.heap.size,0,none⟩) 1 cc] (w.alloc (.cells #[.slice A l.length c] 112)) fun e w'=>e = .returned (.int .u16 (S16 l:Nat))∧w.alloc (.cells #[.slice A l.length c] 112)=w':=by
 have:=sum16_any _ cc _ (pts_one c h)
 rw[flat_one] at this;exact this
theorem lives_any (w:World):Calls Tryz.prog 92 #[] w fun r w'=>r = .returned (.bool true)∧Below w.heap.size w w':=by
 have h1:=bts_nine w;have hcv:=conv_new w #[.int .u8 49,.int .u8 50,.int .u8 51,.int .u8 52,.int .u8 53,.int .u8 54,.int .u8 55,.int .u8 56,.int .u8 57] 9 9;have c1:=sum32_one 9 1 h1;have c2:=sum16_one 9 1 (h1.alloc (.cells #[.slice (some ⟨w.heap.size,0,none⟩) 9 9] 112));rw[s32_nine,World.size_alloc] at c1;rw[s16_nine,World.size_alloc,World.size_alloc] at c2
 have hb:Below w.heap.size w (((w.alloc (.cells #[.int .u8 49,.int .u8 50,.int .u8 51,.int .u8 52,.int .u8 53,.int .u8 54,.int .u8 55,.int .u8 56,.int .u8 57] 5 (9,10))).alloc (.cells #[.slice (some ⟨w.heap.size,0,none⟩) 9 9] 112)).alloc (.cells #[.slice (some ⟨w.heap.size,0,none⟩) 9 9] 112)):=
  (((Below.refl _ _).alloc (Nat.le_refl _) _).alloc (by simp) _).alloc (by simp;omega) _
 have C1:=hid c1;have C2:=hid c2;have HB:=hid hb;clear h1 c1 c2 hb;go_enter Tryz.func92,Tryz.ntmps92
 go_wp2_with fail
 refine C1.out.mono ?_;rintro e w' ⟨rfl,rfl⟩;go_wp2_with fail
 refine C2.out.mono ?_;rintro e w' ⟨rfl,rfl⟩;go_wp2
 go_ret
 exact⟨rfl,HB.out⟩
end Crc
end
section
open Lib (hid)
open Go.RowKit Go.MapKept
namespace Crc
def tx (s:ByteArray):List Nat:=s.data.toList.map UInt8.toNat
theorem tx_len (s:ByteArray):(tx s).length=s.size:=by
 unfold tx;rw[List.length_map,Array.length_toList];rfl
theorem tx_byt (s:ByteArray):Byt (tx s):=by
 intro b hb
 obtain⟨x,_,rfl⟩:=List.mem_map.1 hb
 exact x.toNat_lt
theorem tx_get {s:ByteArray} {i:Nat} (h:i < s.size):(tx s)[i]?.getD 0=(s[i]'h).toNat:=by
 have h':i < s.data.toList.length:=by rw[Array.length_toList];exact h
 simp only[tx,List.getElem?_map,List.getElem?_eq_getElem h',Option.map_some,Option.getD_some];rfl
theorem bit_div (x i:Nat):x / 2 ^ i % 2=(x.testBit i).toNat:=by
 rw[Nat.testBit_eq_decide_div_mod_eq]
 rcases Nat.mod_two_eq_zero_or_one (x / 2 ^ i) with h | h<;>simp[h]
theorem A_bit (p x e:Nat) (he:e < 2):A p (x ^^^ e)=if e=x % 2 then x / 2 else x / 2 ^^^ p:=by
 unfold A;rw[half_xor,odd_xor,Nat.div_eq_of_lt he,Nat.xor_zero]
 have:=Nat.mod_lt x (show 0 < 2 by omega)
 by_cases h:e=x % 2
 · have:¬ (x % 2+e % 2) % 2=1:=by omega
   rw[if_pos h,if_neg this,Nat.xor_zero]
 · have:(x % 2+e % 2) % 2=1:=by omega
   rw[if_neg h,if_pos this]
def bit (l:List Nat) (m:Nat):Nat:=le l / 2 ^ m % 2
theorem bit_lt (l:List Nat) (m:Nat):bit l m < 2:=Nat.mod_lt _ (by omega)
theorem ser_step (p r:Nat) (l:List Nat) (m:Nat):ser p r (le l) (m+1)=if bit l m=ser p r (le l) m % 2 then ser p r (le l) m / 2 else ser p r (le l) m / 2 ^^^ p:=A_bit p _ _ (bit_lt l m)
theorem ser32_lt (l:List Nat) (m:Nat):ser P32 4294967295 (le l) m < 4294967296:=by
 induction m with
 | zero=>show 4294967295 < _;omega
 | succ m ih=>
   rw[ser_step]
   split
   · omega
   · exact Nat.xor_lt_two_pow (n:=32) (by omega) (by decide)
theorem bit32 {s:ByteArray} {m:Nat} (h:m / 8 < s.size):bits .and .u32 (((s[m / 8]'h).toNat:Int) / 2 ^ (m % 8) % 4294967296) 1=((bit (tx s) m:Nat):Int):=by
 have h1:(((s[m / 8]'h).toNat:Int) / 2 ^ (m % 8) % 4294967296)=(((s[m / 8]'h).toNat / 2 ^ (m % 8) % 4294967296:Nat):Int):=by simp
 rw[h1];have h2:=u32_and_nat ((s[m / 8]'h).toNat / 2 ^ (m % 8) % 4294967296) 1 (by omega) (by omega);rw[nat_mask1] at h2;refine h2.trans ?_;unfold bit;rw[bit_div,bit_le _ _ (tx_byt s) (by rw[tx_len];omega),tx_get h,← bit_div];omega
theorem ref32_any (w:World) (s:ByteArray) (hs:s.size < 1000000000000) :
 Calls Tryz.prog 210 #[.string s] w fun e w'=>e = .returned (.int .u32 (S32 (tx s):Nat))∧w=w':=by
 have HE:=hid (ser_sm P32 4294967295 (tx s) (tx_byt s));go_enter Tryz.func210,Tryz.ntmps210
 go_wp2
 go_loopw [3,4] (fun t i wr=>∃ m:Nat,m≤8 * s.size∧i = .int .i64 (m:Int)∧t = .int .u32 ((ser P32 4294967295 (le (tx s)) m:Nat):Int)∧w=wr) (fun _ i _=>8 * s.size - (intOf i).toNat)
 case atStart=>exact⟨0,Nat.zero_le _,rfl,rfl,rfl⟩
 case round=>
  obtain⟨m,hm,rfl,rfl,rfl⟩:=hrel
  have hq:=ser32_lt (tx s) m;by_cases hlt:m < 8 * s.size
  · have h8:m / 8 < s.size:=by omega
    have hb:=bit32 h8;have hbl:=bit_lt (tx s) m;have HS:=hid (ser_step P32 4294967295 (tx s) m);generalize bit (tx s) m=e at *;generalize ser P32 4294967295 (le (tx s)) m=r at *
    have hr:bits .and .u32 (r:Int) 1=((r % 2:Nat):Int):=by
     have:=u32_and_nat r 1 hq (by omega)
     rw[nat_mask1] at this;exact this
    have hx:bits .xor .u32 ((r:Int) / 2) 3988292384=((r / 2 ^^^ P32:Nat):Int):=u32_xor_nat (r / 2) 3988292384 (by omega) (by omega);go_wp2
    · rename_i hc
      have hne:¬ e=r % 2:=by rintro rfl;simp at hc
      have hs':=HS.out;rw[if_neg hne] at hs'
      exact⟨⟨m+1,by omega,by go_num,by rw[hs'],trivial⟩,by simp[intOf];omega⟩
    · rename_i hc
      have hne:e=r % 2:=by simp at hc;omega
      have hs':=HS.out;rw[if_pos hne] at hs'
      exact⟨⟨m+1,by omega,by go_num,by rw[hs'];rfl,trivial⟩,by simp[intOf];omega⟩
  · obtain rfl:m=8 * s.size:=by omega
    rw[tx_len] at HE;have hE:=HE.out;have HS:=hid (show ((S32 (tx s):Nat):Int)=4294967295 - ((sm P32 4294967295 (tx s):Nat):Int) by unfold S32;rw[hE] at hq;omega);rw[hE];rw[hE] at hq;go_wp2
    go_ret
    refine⟨?_,rfl⟩
    rw[HS.out];rfl
end Crc
end
section
open Lib (hid)
open Go.RowKit Go.MapKept
namespace Crc
def wb (x:Nat):List Nat:=(List.range 8).map fun k=>x / 256 ^ k % 256
theorem wb_len (x:Nat):(wb x).length=8:=by simp[wb]
theorem wb_get {x k:Nat} (h:k < (wb x).length):(wb x)[k]=x / 256 ^ k % 256:=by simp[wb]
theorem wb_byt (x:Nat):Byt (wb x):=by
 intro b hb
 obtain⟨k,_,rfl⟩:=List.mem_map.1 hb
 exact Nat.mod_lt _ (by omega)
structure Wds (w:World) (A:Option Addr) (l:List Nat):Prop where
 u64:∀ x∈l,x < 18446744073709551616
 len:l.length≤9223372036854775807
 at':∀ j (h:j < l.length),∃ b o,A=some ⟨b,o,none⟩∧b < w.heap.size∧w.cell? ⟨b,o+j,none⟩=some (.int .u64 (l[j]:Int))
theorem Wds.keep {w w':World} {A:Option Addr} {l:List Nat} (h:Wds w A l) (hb:Below w.heap.size w w'):Wds w' A l:=
 ⟨h.u64,h.len,fun j hj=>by
   obtain⟨b,o,e,hlt,hc⟩:=h.at' j hj
   exact⟨b,o,e,Nat.lt_of_lt_of_le hlt hb.size,(hb.cell (p:=⟨b,o+j,none⟩) hlt).trans hc⟩⟩
def wflat (l:List Nat):List Nat:=l.flatMap wb
theorem wflat_take {l:List Nat} {m:Nat} (h:m < l.length):wflat (l.take (m+1))=wflat (l.take m)++wb l[m]:=by
 unfold wflat;rw[List.take_succ_eq_append_getElem h,List.flatMap_append];simp
theorem wflat_byt (l:List Nat):Byt (wflat l):=by
 intro b hb
 obtain⟨q,_,hb⟩:=List.mem_flatMap.1 hb
 exact wb_byt q b hb
theorem wordByte_any (w:World) (x k:Nat) (_hx:x < 18446744073709551616) (hk:k < 8) :
 Calls Tryz.prog 188 #[.int .u64 (x:Int),.int .i64 (k:Int)] w fun e w'=>e = .returned (.int .u8 (x / 256 ^ k % 256:Nat))∧w=w':=by
 have e:x / 256 ^ k % 256=x / 2 ^ (k * 8) % 256:=by
  rw[Nat.mul_comm k 8,Nat.pow_mul]
 have HE:=hid e;clear e;go_enter Tryz.func188,Tryz.ntmps188
 go_wp2
 go_ret
 refine⟨?_,rfl⟩
 rw[HE.out];simp
section
variable {w : World}
theorem words32_any (A:Option Addr) (c:Nat) (l:List Nat) (h:Wds w A l) :
 Calls Tryz.prog 123 #[.slice A l.length c] w fun e w'=>e = .returned (.int .u32 (S32 (wflat l):Nat))∧w=w':=by
 have hn:=h.len;have H:=hid h;clear h;have HN:=hid (fun r b hr hb=>next32_any w r b hr hb);have HW:=hid (fun x k hx hk=>wordByte_any w x k hx hk);go_enter Tryz.func123,Tryz.ntmps123
 go_wp2
 go_loopw [3,9] (fun s i wr=>∃ m:Nat,m≤l.length∧i = .int .i64 (m:Int)∧s = .int .u32 ((sm P32 4294967295 (wflat (l.take m)):Nat):Int)∧w=wr) (fun _ i _=>l.length - (intOf i).toNat)
 case atStart=>exact⟨0,Nat.zero_le _,rfl,rfl,rfl⟩
 case round=>
  obtain⟨m,hm,rfl,rfl,rfl⟩:=hrel
  by_cases hlt:m < l.length
  · obtain⟨b,o,rfl,hb,hcell⟩:=H.out.at' m hlt
    have hx:=H.out.u64 _ (List.getElem_mem hlt);have hr0:sm P32 4294967295 (wflat (l.take m)) < 4294967296:=sm32_lt _ _ (by omega) (wflat_byt _);have HR:=hid (show sm P32 4294967295 (wflat (l.take (m+1)))=sm P32 (sm P32 4294967295 (wflat (l.take m))) (wb l[m]) by rw[wflat_take hlt,sm_append]);generalize l[m]=x at *;generalize sm P32 4294967295 (wflat (l.take m))=r0 at *;go_wp2
    go_loopw [3,13] (fun s i wr=>∃ j:Nat,j≤8∧i = .int .i64 (j:Int)∧s = .int .u32 ((sm P32 r0 ((wb x).take j):Nat):Int)∧w=wr) (fun _ i _=>8 - (intOf i).toNat)
    case atStart=>exact⟨0,Nat.zero_le _,rfl,rfl,rfl⟩
    case round=>
     obtain⟨j,hj,rfl,rfl,rfl⟩:=hrel
     by_cases hjl:j < 8
     · have hjw:j < (wb x).length:=by rw[wb_len];exact hjl
       have hrj:sm P32 r0 ((wb x).take j) < 4294967296:=sm32_lt _ _ hr0 ((wb_byt x).take j);have hby:x / 256 ^ j % 256 < 256:=Nat.mod_lt _ (by omega);have hnx:=HN.out _ _ hrj hby;have e:sm P32 r0 ((wb x).take (j+1))=nx P32 (sm P32 r0 ((wb x).take j)) (x / 256 ^ j % 256):=by rw[sm_take hjw,wb_get]
       rw[← e] at hnx;have HX:=hid hnx;have HY:=hid (HW.out x j hx hjl);clear hnx e hby;go_wp2_with fail
       refine HY.out.mono ?_;generalize x / 256 ^ j % 256=y at *;rintro e w' ⟨rfl,rfl⟩;go_wp2_with fail
       refine HX.out.mono ?_;rintro e w' ⟨rfl,rfl⟩;go_wp2
       exact⟨⟨j+1,by omega,by go_num,rfl,trivial⟩,by simp[intOf];omega⟩
     · obtain rfl:j=8:=by omega
       rw[List.take_of_length_le (by rw[wb_len];exact Nat.le_refl _),← HR.out];go_wp2
       exact⟨⟨m+1,by omega,by go_num,rfl,trivial⟩,by simp[intOf];omega⟩
  · obtain rfl:m=l.length:=by omega
    rw[List.take_length];have hi:=inv32 _ (sm32_lt (wflat l) 4294967295 (by omega) (wflat_byt l));go_wp2
    go_ret
    exact⟨rfl,rfl⟩
end
end Crc
end
section
open Lib (hid)
open Go.RowKit Go.MapKept
namespace Crc
theorem ofNat_toNat {b:Nat} (h:b < 256):(UInt8.ofNat b).toNat=b:=by
 rw[UInt8.toNat_ofNat'];omega
def str (l:List Nat):ByteArray:=⟨(l.map UInt8.ofNat).toArray⟩
theorem str_size (l:List Nat):(str l).size=l.length:=by
 show ((l.map UInt8.ofNat).toArray).size=_
 rw[List.size_toArray,List.length_map]
theorem tx_str {l:List Nat} (h:Byt l):tx (str l)=l:=by
 unfold tx str;rw[List.map_map];refine (List.map_congr_left (fun b hb=>?_)).trans (List.map_id l);exact ofNat_toNat (h b hb)
theorem conv_str {W:World} {A:Option Addr} {l:List Nat} (c:Nat) (h:Bts W A l):(convert 112 9 (.slice A l.length c)).run Tryz.prog W = .ok (.string (str l)) W:=by
 cases A with
 | none=>
   have hl:l=[]:=by
    cases l with
    | nil=>rfl
    | cons b l=>
      obtain⟨_,_,e,_⟩:=h.at' 0 (by simp)
      cases e
   subst hl;exact run_convert_bytes_nil W _ _ Tryz.underlying112 Tryz.underlying5 0 c _ Tryz.underlying9
 | some a=>
   have hr:=run_convert_bytes_back (P:=Tryz.prog) W 112 9 5 a c (l.map UInt8.ofNat) Tryz.underlying112 Tryz.underlying5 Tryz.underlying9 (fun j hj=>by
    rw[List.length_map] at hj
    obtain⟨b,o,e,_,hc⟩:=h.at' j hj
    injection e with e
    subst e;rw[Go.WideShapes.add_plain,hc,List.getElem_map,ofNat_toNat (h.byt _ (List.getElem_mem hj))])
   rw[List.length_map] at hr;exact hr
def u8s (l:List Nat):List Value:=l.map fun b:Nat=>Value.int .u8 (b:Int)
theorem u8s_one (l:List Nat):∀ u∈u8s l,u.oneCell'=true:=by
 intro u hu
 obtain⟨x,_,rfl⟩:=List.mem_map.1 hu
 rfl
theorem own_bts {W:World} {B n c:Nat} {G:Option Addr} {bs:List Nat} (h:W.ownsRow B 5 1 (.slice G n c) n (u8s bs)) (hb:Byt bs) (hm:n≤9223372036854775807):Bts W G bs:=by
 have hl:bs.length=n:=by
  have:=h.1
  simpa [u8s] using this
 refine⟨hb,by omega,fun j hj=>?_⟩
 rcases h.2 with ⟨e,h0⟩ | ⟨g,cap,cur,e,_,hh,_,_,_,ht⟩
 · omega
 · injection e with e
   subst e
   refine⟨g,0,rfl,(Array.getElem?_eq_some_iff.1 hh).1,?_⟩
   have:=congrArg (·[j]?) ht
   simp only[Nat.mul_one,u8s] at this;rw[List.getElem?_take,if_pos (by omega),List.getElem?_map,List.getElem?_eq_getElem hj] at this;unfold World.cell?;rw[hh,Nat.zero_add];simp only;rw[← Array.getElem?_toList]
   simpa using this
theorem row_slice {B n:Nat} {W:World} {e:TypeId} {v:Value} {xs:List Value} (h:W.ownsRow B e 1 v n xs):∃ G c,v = .slice G n c:=by
 rcases h.2 with ⟨e,h0⟩ | ⟨g,cap,cur,e,_⟩
 · exact⟨none,0,by rw[e,h0]⟩
 · exact⟨_,_,e⟩
theorem row_base_lt {w:World} {B:Nat} {e:TypeId} {n:Nat} {v:Value} {xs:List Value} (h:w.ownsRow B e 1 v n xs) {g:Nat} (hg:v.ownBlock=some g):B≤g:=by
 rcases h.2 with ⟨e,_⟩ | ⟨g',cap,cur,e,hb,hh,_⟩
 · rw[e] at hg;simp[Value.ownBlock] at hg
 · rw[e] at hg
   simp only[Value.ownBlock,Option.some.injEq] at hg;omega
theorem u8_info:(Tryz.prog.info? 5).map (fun i=>(i.zero,i.size,i.bytes))=some (some (.int .u8 0),1,1):=by kernel_rfl
def Got (w wr:World) (G:Option Addr) (n gc:Nat) (bs:List Nat):Prop:=wr.ownsRow w.heap.size 5 1 (.slice G n gc) n (u8s bs)∧Below w.heap.size w wr
theorem wflat_len (l:List Nat):(wflat l).length=8 * l.length:=by
 unfold wflat
 induction l with
 | nil=>rfl
 | cons x l ih=>rw[List.flatMap_cons,List.length_append,ih,wb_len,List.length_cons];omega
theorem div_pow (x j:Nat):x / 256 ^ (j+1)=x / 256 ^ j / 256:=by rw[Nat.pow_succ,Nat.div_div_eq_div_mul]
section
variable {w : World}
theorem bytes_any (A:Option Addr) (c:Nat) (l:List Nat) (h:Wds w A l) (h60:l.length≤60) :
 Calls Tryz.prog 211 #[.slice A l.length c] w fun e w'=>e = .returned (.string (str (wflat l)))∧Below w.heap.size w w':=by
 have H:=hid h;clear h;go_enter Tryz.func211,Tryz.ntmps211
 go_wp2
 go_loopw [3,8] (fun v i wr=>∃ (m:Nat) (G:Option Addr) (gc:Nat),m≤l.length∧i = .int .i64 (m:Int)∧v = .slice G (8 * m) gc∧Got w wr G (8 * m) gc (wflat (l.take m))) (fun _ i _=>l.length - (intOf i).toNat)
 case atStart=>exact⟨0,none,0,Nat.zero_le _,rfl,rfl,⟨by rw[List.take_zero];rfl,.inl ⟨rfl,rfl⟩⟩,Below.refl _ _⟩
 case round=>
  obtain⟨m,G,gc,hm,rfl,rfl,hgot⟩:=hrel
  by_cases hlt:m < l.length
  · obtain⟨b,o,rfl,hb,hcell0⟩:=H.out.at' m hlt
    have hcell:=(hgot.2.cell (p:=⟨b,o+m,none⟩) hb).trans hcell0;have hx:=H.out.u64 _ (List.getElem_mem hlt);have HR:=hid (wflat_take hlt);have HG:=hid hgot;generalize l[m]=x at *;clear hgot hcell0;go_wp2
    go_loopw [3,5,12] (fun v y i w2=>∃ (j:Nat) (G:Option Addr) (gc:Nat),j≤8∧i = .int .i64 (j:Int)∧y = .int .u64 ((x / 256 ^ j:Nat):Int)∧v = .slice G (8 * m+j) gc∧Got w w2 G (8 * m+j) gc (wflat (l.take m)++(wb x).take j)) (fun _ _ i _=>8 - (intOf i).toNat)
    case atStart=>exact⟨0,G,gc,Nat.zero_le _,rfl,by simp,rfl,by simpa using HG.out⟩
    case round=>
     obtain⟨j,G2,gc2,hj,rfl,rfl,rfl,hgot2⟩:=hrel
     by_cases hjl:j < 8
     · have hjw:j < (wb x).length:=by rw[wb_len];exact hjl
       have e1:(wb x).take (j+1)=(wb x).take j++[x / 256 ^ j % 256]:=by rw[List.take_succ_eq_append_getElem hjw,wb_get]
       have e2:=div_pow x j;have hyl:x / 256 ^ j < 18446744073709551616:=Nat.lt_of_le_of_lt (Nat.div_le_self _ _) hx;have HE1:=hid e1;have HE2:=hid e2;generalize x / 256 ^ j=y at *
       obtain⟨i0,hi0,hz0,hz1,hz2⟩:=info_parts u8_info
       have HOWN:=hid (hgot2.1.alloc (.cells #[.int .u8 ((y:Int) % 256)] 5));have HB2:=hid hgot2.2;have HRW:=hid hgot2.1;clear hgot2 e1 e2 hx
       go_wp2_with (at_builtin;refine wpList_append_own_at _ rfl (.tmp 14) (.tmp 18) 112 rfl w.heap.size 5 i0 (.int .u8 0) 1 1 Tryz.underlying112 hi0 hz0 hz1 hz2 rfl (by decide) (.slice G2 (8 * m+j) gc2) (8 * m+j) (u8s (wflat (l.take m)++(wb x).take j)) rfl HOWN.out ⟨wr.heap.size,0,none⟩ 1 1 [.int .u8 ((y:Int) % 256)] rfl rfl (cell_one_new _ _ _) (by simp[Value.oneCell']) (by unfold maxLen;omega) (by omega) (by have:=HB2.out.size;simp;omega) ?_
                    intro v' w3 hown3 hgr3 _ _
                    obtain⟨G',gc',rfl⟩:=row_slice hown3
                    have HO3:=hid hown3;have HG3:=hid hgr3;clear hown3 hgr3)
       refine⟨⟨j+1,G',gc',by omega,by go_num,?_,rfl,?_,?_⟩,by simp[intOf];omega⟩
       · rw[HE2.out]
         rfl
       · have e:u8s (wflat (l.take m)++(wb x).take (j+1))=u8s (wflat (l.take m)++(wb x).take j)++[.int .u8 ((y:Int) % 256)]:=by
          rw[HE1.out,← List.append_assoc];simp only[u8s,List.map_append];rfl
         rw[e];exact HO3.out
       · exact (HB2.out.alloc HB2.out.size _).grown HG3.out (by have:=HB2.out.size;simp;omega) (fun k hk=>row_base_lt HRW.out hk)
     · obtain rfl:j=8:=by omega
       rw[List.take_of_length_le (l:=wb x) (by rw[wb_len];exact Nat.le_refl _),← HR.out] at hgot2;have HG2:=hid hgot2;clear hgot2;go_wp2
       exact⟨⟨m+1,G2,gc2,by omega,by go_num,rfl,HG2.out⟩,by simp[intOf];omega⟩
  · obtain rfl:m=l.length:=by omega
    rw[List.take_length] at hgot;have hcv:=conv_str gc (own_bts hgot.1 (wflat_byt l) (by omega));rw[wflat_len] at hcv;have HB:=hid hgot.2;clear hgot;go_wp2
    go_ret
    exact⟨rfl,HB.out⟩
end
end Crc
end
section
open Go.RowKit Go.MapKept
namespace Crc
structure Trn (l:List Nat) (f i m:Nat) (c:List Nat):Prop where
 byt:Byt c
 len:c.length=l.length
 lt:m < 2 ^ i
 eq:le c=le l ^^^ m * 2 ^ f
 zero:m=0→c=l
theorem Trn.skip {l c:List Nat} {f i m:Nat} (h:Trn l f i m c):Trn l f (i+1) m c:=⟨h.byt,h.len,by have:=h.lt;rw[Nat.pow_succ];omega,h.eq,h.zero⟩
end Crc
end
section
namespace Pack
def Byt (l:List Nat):Prop:=∀ b∈l,b < 256
theorem Byt.take {l:List Nat} (h:Byt l) (n:Nat):Byt (l.take n):=fun b hb=>h b (List.mem_of_mem_take hb)
def wb (x:Nat):List Nat:=(List.range 8).map fun k=>x / 256 ^ k % 256
theorem wb_len (x:Nat):(wb x).length=8:=by simp[wb]
theorem wb_get {x k:Nat} (h:k < (wb x).length):(wb x)[k]=x / 256 ^ k % 256:=by simp[wb]
theorem wb_byt (x:Nat):Byt (wb x):=by
 intro b hb
 obtain⟨k,_,rfl⟩:=List.mem_map.1 hb
 exact Nat.mod_lt _ (by omega)
def wflat (l:List Nat):List Nat:=l.flatMap wb
theorem wflat_take {l:List Nat} {m:Nat} (h:m < l.length):wflat (l.take (m+1))=wflat (l.take m)++wb l[m]:=by
 unfold wflat;rw[List.take_succ_eq_append_getElem h,List.flatMap_append];simp
theorem wflat_byt (l:List Nat):Byt (wflat l):=by
 intro b hb
 obtain⟨q,_,hb⟩:=List.mem_flatMap.1 hb
 exact wb_byt q b hb
theorem wflat_len (l:List Nat):(wflat l).length=8 * l.length:=by
 unfold wflat
 induction l with
 | nil=>rfl
 | cons x l ih=>rw[List.flatMap_cons,List.length_append,ih,wb_len,List.length_cons];omega
theorem div_pow (x j:Nat):x / 256 ^ (j+1)=x / 256 ^ j / 256:=by rw[Nat.pow_succ,Nat.div_div_eq_div_mul]
def at0 (b:List Nat) (k:Nat):Nat:=b[k]?.getD 0
theorem at0_lt {b:List Nat} (h:Byt b) (k:Nat):at0 b k < 256:=by
 unfold at0
 rcases Nat.lt_or_ge k b.length with h1 | h1
 · rw[List.getElem?_eq_getElem h1]
   exact h _ (List.getElem_mem h1)
 · rw[List.getElem?_eq_none h1]
   simp
theorem at0_get {b:List Nat} {k:Nat} (h:k < b.length):at0 b k=b[k]:=by
 unfold at0;rw[List.getElem?_eq_getElem h];rfl
theorem at0_none {b:List Nat} {k:Nat} (h:b.length≤k):at0 b k=0:=by
 unfold at0;rw[List.getElem?_eq_none h];rfl
def part (b:List Nat) (i:Nat):Nat→Nat
 | 0=>0
 | n+1=>part b i n+at0 b (8 * i+n) * 256 ^ n
theorem part_lt {b:List Nat} (h:Byt b) (i:Nat):∀ n,part b i n < 256 ^ n
 | 0=>by simp[part]
 | n+1=>by
   have h1:=part_lt h i n;have h2:=at0_lt h (8 * i+n);have h3:at0 b (8 * i+n) * 256 ^ n≤255 * 256 ^ n:=Nat.mul_le_mul_right _ (by omega);rw[part,Nat.pow_succ];omega
theorem part_end {b:List Nat} {i j:Nat} (h:b.length≤8 * i+j):∀ d,part b i (j+d)=part b i j
 | 0=>rfl
 | d+1=>by
   rw[← Nat.add_assoc,part,part_end h d,at0_none (by omega),Nat.zero_mul,Nat.add_zero]
def wrds (b:List Nat):List Nat:=(List.range ((b.length+7) / 8)).map fun i=>part b i 8
theorem wrds_len (b:List Nat):(wrds b).length=(b.length+7) / 8:=by simp[wrds]
theorem wrds_get {b:List Nat} {i:Nat} (h:i < (wrds b).length):(wrds b)[i]=part b i 8:=by simp[wrds]
theorem wrds_u64 {b:List Nat} (h:Byt b):∀ x∈wrds b,x < 18446744073709551616:=by
 intro x hx
 obtain⟨i,_,rfl⟩:=List.mem_map.1 hx
 exact part_lt h i 8
end Pack
end
end Go.Proofs.YtlodpaaanfjkeaaGreatDoor
