/- Texts laid together: VolSlot, InoMath, InoMay, InoEncode, LinEqual, InoDecode, InoRef, InoRefEnc, InoRefDec, InoLives, SloRef, SloRefDec, SloLives, LinFour, RecMath, RecMay, RecEncode, RecDecode, RecRef, RecRefDec, RecLives, VolLives, VolWrote, ChnMay. -/
import Derived.Test.YtdafimdfbnphaaaGreatDoorKb4
import Derived.Test.YtdafimdfbnphaaaGreatDoorKb1
import Derived.Test.YtdafimdfbnphaaaGreatDoorKb3
import Derived.Test.YtdafimdfbnphaaaGreatDoorKa2
import Derived.Test.YtdafimdfbnphaaaGreatDoorKa1
import Derived.Carry
import Derived.Test.YtdafimdfbnphaaaGreatDoorKb2
/- Texts. -/
namespace Go.Proofs.YtdafimdfbnphaaaGreatDoor
open Lib (hid)
open Go.RowKit Go.MapKept
namespace Vol
section
variable {Q Q' : Nat → Prop} {w w' : World} {vb a n m s : Nat} {W : List Nat} {st sn : Nat}
theorem Vo.num (h:Vo Q w vb a n m s W st sn):(1≤(n:Int)∧(n:Int)≤65534)∧(1≤(m:Int)∧(m:Int)≤65534)∧Geo.Sz s:=(Geo.may_num h.may).1
set_option maxHeartbeats 4000000 in
set_option maxRecDepth 100000 in
theorem slot_no (h:Vo Q w vb a n m s W st sn) (i:Int) (hi:i < 0∨(n:Int)≤i) :
 Calls Tryz.prog 119 #[.pointer (some ⟨vb,0,none⟩),.int .i64 i] w fun r w'=>r = .returned (.tuple #[.agg #[.int .i64 0,.int .i64 0,.int .i64 0],.int .i64 9])∧Below w.heap.size w w':=by
 obtain⟨c0,c1,c2,c3⟩:=h.cells
 have hlt:=h.lt
 have HP:=hid (fun w=>show Calls Tryz.prog 169 #[.agg #[.int .i64 n,.int .i64 m,.int .i64 s],.int .i64 i] w _ from by
  have hp:=Geo.slot_any w (n:Int) (m:Int) (s:Int) i
  rw[Geo.plc_out (by omega)] at hp
  exact hp)
 have HN:=hid (fun w=>isNone_any w (-1))
 have HX:=hid (Lin.owned w 0 0 0 170)
 have HB0:=hid ((Below.refl w.heap.size w).alloc (Nat.le_refl _) (.cells #[.int .i64 0,.int .i64 0,.int .i64 0] 170))
 clear h hi
 go_enter Tryz.func119,Tryz.ntmps119
 go_wp2_with fail
 generalize w.alloc (.cells #[.int .i64 0,.int .i64 0,.int .i64 0] 170)=w0 at *
 refine (HP.out _).mono ?_
 rintro r w1 ⟨rfl,hb⟩
 have HB:=hid (HB0.out.trans (hb.mono HB0.out.size))
 have HX1:=hid (HX.out.keep hb)
 clear hb HP HX
 go_wp2_with fail
 refine (HN.out _).mono ?_
 rintro r w2 ⟨rfl,rfl⟩
 have hc0:=HX1.out.box.c0
 have hc1:=HX1.out.box.c1
 have hc2:=HX1.out.box.c2
 have hf0:=HX1.out.f 0
 have hf1:=HX1.out.f 1
 have hf2:=HX1.out.f 2
 have hl1:=HX1.out.box.lt
 go_wp2
 refine bodyPost_ret (v:=.tuple #[.agg #[.int .i64 0,.int .i64 0,.int .i64 0],.int .i64 9]) ?_ rfl ⟨rfl,?_⟩
 · simp[results,Tryz.results119,go_sem,hc0,hc1,hc2]
 · exact ((HB.out.setCell (Nat.le_refl _) _).setCell (Nat.le_refl _) _).setCell (Nat.le_refl _) _
theorem gv_three (q:Option (Nat × Nat × Nat)):∃ x y z:Int,Slo.gv q = .agg #[.int .i64 x,.int .i64 y,.int .i64 z]:=by
 cases q with
 | none=>exact⟨0,0,0,rfl⟩
 | some t=>exact⟨_,_,_,rfl⟩
theorem at_lt {W:List Nat} (h:∀ x∈W,x < 18446744073709551616) (p:Nat):W[p]?.getD 0 < 18446744073709551616:=by
 rcases Nat.lt_or_ge p W.length with h1 | h1
 · rw[List.getElem?_eq_getElem h1]
   exact h _ (List.getElem_mem h1)
 · rw[List.getElem?_eq_none h1]
   decide
theorem pos_not (p:Nat):decide ((p:Int) < 0)=false:=decide_eq_false (by omega)
theorem slot_place (h:Vo Q w vb a n m s W st sn) (i:Nat) (hi:i < n) (w':World):Calls Tryz.prog 169 #[.agg #[.int .i64 n,.int .i64 m,.int .i64 s],.int .i64 (i:Int)] w' fun r w''=>r = .returned (.int .i64 ((16+m * 8+i:Nat):Int))∧Below w'.heap.size w' w'':=by
 have hp:=Geo.slot_any w' (n:Int) (m:Int) (s:Int) (i:Int)
 rw[Geo.plc_yes h.may (by omega) (by omega),show 16+(m:Int) * 8+(i:Int) * 1=((16+m * 8+i:Nat):Int) by omega] at hp
 exact hp
theorem slot_in (h:Vo Q w vb a n m s W st sn) {i:Nat} (hi:i < n):16+m * 8+i < W.length:=by
 obtain⟨h1,h2,h3⟩:=h.num
 have h4:=Geo.bm_bounds h1 h2
 have h5:=Geo.bk_bounds h1 h2
 have h6:=Geo.fin_bounds h1 h2 h3
 have h7:=h.len
 unfold Geo.fin at h7
 omega
set_option maxHeartbeats 4000000 in
set_option maxRecDepth 100000 in
theorem slot_yes (h:Vo Q w vb a n m s W st sn) (i:Nat) (hi:i < n) :
 Calls Tryz.prog 119 #[.pointer (some ⟨vb,0,none⟩),.int .i64 (i:Int)] w fun r w'=>
  r = .returned (.tuple #[Slo.gv (Slo.dec (W[16+m * 8+i]?.getD 0)),.int .i64 (Slo.ev (Slo.dec (W[16+m * 8+i]?.getD 0)))])∧Below w.heap.size w w':=by
 obtain⟨c0,c1,c2,c3⟩:=h.cells
 have hlt:=h.lt
 have HP:=hid (slot_place h i hi)
 have HX:=hid (Lin.owned w 0 0 0 170)
 have HB0:=hid ((Below.refl w.heap.size w).alloc (Nat.le_refl _) (.cells #[.int .i64 0,.int .i64 0,.int .i64 0] 170))
 have HL:=hid (fun w' (hb:Below w.heap.size w w')=>up_load (h.up.keep hb) (16+m * 8+i))
 have hx:=at_lt h.up.u64 (16+m * 8+i)
 have HD:=hid (fun w=>Slo.decode_any w _ hx)
 have hp0:=pos_not (16+m * 8+i)
 generalize 16+m * 8+i=p at *
 generalize W[p]?.getD 0=x at *
 have HN:=hid (fun w=>isNone_any w (p:Int))
 rw[hp0] at HN
 obtain⟨g0,g1,g2,hg⟩:=gv_three (Slo.dec x)
 rw[hg] at HD ⊢
 generalize Slo.ev (Slo.dec x)=e at *
 have H:=hid h
 clear h hi hg hp0 hx
 go_enter Tryz.func119,Tryz.ntmps119
 go_wp2_with fail
 generalize w.alloc (.cells #[.int .i64 0,.int .i64 0,.int .i64 0] 170)=w0 at *
 refine (HP.out _).mono ?_
 rintro r w1 ⟨rfl,hb⟩
 have HB:=hid (HB0.out.trans (hb.mono HB0.out.size))
 have HX1:=hid (HX.out.keep hb)
 clear hb HP HX c0 c1 c2 c3
 obtain⟨c0,_,_,_⟩:=(H.out.keep HB.out).cells
 go_wp2_with fail
 refine (HN.out _).mono ?_
 rintro r w2 ⟨rfl,rfl⟩
 go_wp2_with fail
 refine (HL.out _ HB.out).mono ?_
 rintro r w2 ⟨rfl,rfl⟩
 go_wp2_with fail
 refine (HD.out _).mono ?_
 rintro r w3 ⟨rfl,hb⟩
 have HB3:=hid (HB.out.trans (hb.mono HB.out.size))
 have HX3:=hid (HX1.out.keep hb)
 clear hb HX1 HB HD HL c0
 have hc0:=HX3.out.box.c0
 have hc1:=HX3.out.box.c1
 have hc2:=HX3.out.box.c2
 have hf0:=HX3.out.f 0
 have hf1:=HX3.out.f 1
 have hf2:=HX3.out.f 2
 go_wp2
 refine bodyPost_ret (v:=.tuple #[.agg #[.int .i64 g0,.int .i64 g1,.int .i64 g2],.int .i64 e]) ?_ rfl ⟨rfl,?_⟩
 · simp[results,Tryz.results119,go_sem,hc0,hc1,hc2]
 · exact ((HB3.out.setCell (Nat.le_refl _) _).setCell (Nat.le_refl _) _).setCell (Nat.le_refl _) _
theorem sts_one (w:World) (p x:Nat):Sts (w.alloc (.cells #[.int .i64 (p:Int),.int .u64 (x:Int)] 248)) w.heap.size [(p,x)]:=
 ⟨by simp,fun j hj=>by
   obtain rfl:j=0:=by simpa using hj
   exact⟨Pack.alloc_cell w _ _ 0,Pack.alloc_cell w _ _ 1⟩⟩
set_option maxHeartbeats 4000000 in
set_option maxRecDepth 100000 in
theorem setSlot_yes (h:Vo Q w vb a n m s W st sn) (i x y q:Nat) (z:Int) (hi:i < n) (hz:z=Slo.nx q) (hm:Slo.may x y (Slo.nx q)=true) (hs:st+2 < 100000000000) :
 Calls Tryz.prog 114 #[.pointer (some ⟨vb,0,none⟩),.int .i64 (i:Int),.agg #[.int .i64 (x:Int),.int .i64 (y:Int),.int .i64 z]] w fun r w'=>
  r = .returned (.int .i64 0)∧Vo Q w' vb a n m s (W.set (16+m * 8+i) (Slo.wd x y q)) (st+2) (sn+1)∧Kq Q w w':=by
 obtain⟨c0,c1,c2,c3⟩:=h.cells
 have hlt:=h.lt
 have HX:=hid (Lin.boxed w (x:Int) (y:Int) z 170)
 have HB0:=hid ((Below.refl w.heap.size w).alloc (Nat.le_refl _) (.cells #[.int .i64 (x:Int),.int .i64 (y:Int),.int .i64 z] 170))
 have HP:=hid (slot_place h i hi)
 have hin:=slot_in h hi
 have hp0:=pos_not (16+m * 8+i)
 generalize 16+m * 8+i=p at *
 have HN:=hid (fun w=>isNone_any w (p:Int))
 rw[hp0] at HN
 have HE:=hid (fun w=>Slo.encode_yes w x y q z hz hm)
 obtain⟨l1,l2,l3,l4⟩:=Slo.may_lt hm
 have hwl:=Slo.wd_lt (s:=x) (c:=y) (q:=q) (by omega) (by omega) l4
 generalize Slo.wd x y q=v at *
 have HI:=hid hin
 have HV:=hid hwl
 have H:=hid h
 clear h hi hm hp0 hz hin hwl l1 l2 l3 l4
 go_enter Tryz.func114,Tryz.ntmps114
 go_wp2_with fail
 generalize w.alloc (.cells #[.int .i64 (x:Int),.int .i64 (y:Int),.int .i64 z] 170)=w0 at *
 refine (HP.out _).mono ?_
 rintro r w1 ⟨rfl,hb⟩
 have HB:=hid (HB0.out.trans (hb.mono HB0.out.size))
 have HX1:=hid (HX.out.keep hb)
 clear hb HP HX HB0
 go_wp2_with fail
 refine (HN.out _).mono ?_
 rintro r w2 ⟨rfl,rfl⟩
 have x0:=HX1.out.c0
 have x1:=HX1.out.c1
 have x2:=HX1.out.c2
 have xl:=HX1.out.lt
 go_wp2_with fail
 refine (HE.out _).mono ?_
 rintro r w2 ⟨rfl,hb⟩
 have HB2:=hid (HB.out.trans (hb.mono HB.out.size))
 clear hb HB HE c0 c1 c2 c3
 obtain⟨c0,_,_,_⟩:=(H.out.keep HB2.out).cells
 have hlt2:=(H.out.keep HB2.out).lt
 go_wp2_with fail
 have hb3:=HB2.out.alloc HB2.out.size (.cells #[.int .i64 (p:Int),.int .u64 (v:Int)] 248)
 have hw:=write_any (H.out.up.grow hb3) w2.heap.size 1 [(p,v)] (sts_one w2 p v) (.inr ⟨HB2.out.size,by simp⟩) (fun t ht=>by
  obtain rfl:t=(p,v):=by simpa using ht
  exact⟨HI.out,HV.out⟩) (by simp;omega) (by simp)
 have HW:=hid hw
 have HB3:=hid hb3
 clear hw hb3
 refine HW.out.mono ?_
 rintro r w3 ⟨rfl,hu,hk⟩
 have HU:=hid (hu.sub (Q':=Q) (fun k h=>.inl h))
 have HK:=hid ((kq_below (Q:=Q) HB3.out).trans (hk.sub (fun k h=>.inl h)))
 clear hu hk HW
 go_wp2
 go_ret
 exact⟨rfl,H.out.next HU.out HK.out (List.length_set ..),HK.out⟩
end
end Vol
end Go.Proofs.YtdafimdfbnphaaaGreatDoor
/- Texts. -/
namespace Go.Proofs.YtdafimdfbnphaaaGreatDoor
open Go.RowKit Go.MapKept
namespace Ino
open Lin
def plc (h s:Int):Bool:=decide ((-1≤h∧h≤65533)∧(0≤s∧s≤268435456)∧(h = -1↔s=0))
def May (k h s:Int):Prop:=(k=0∧h = -1∧s=0)∨((k=1∨k=2∧s % 64=0)∧(-1≤h∧h≤65533)∧(0≤s∧s≤268435456)∧(h = -1↔s=0))
instance (k h s:Int):Decidable (May k h s):=by unfold May;infer_instance
def may (k h s:Int):Bool:=decide (May k h s)
def nums (k p:Nat):Nat:=k+65536 * p
def front (k p s:Nat):List Nat:=[nums k p,s,0,0,0,0,0]
def sum (k p s:Nat):Nat:=Crc.S32 (Crc.wflat (front k p s))
def zero:List Nat:=[0,0,0,0,0,0,0,0]
def full (k p s:Nat):List Nat:=[nums k p,s,0,0,0,0,0,sum k p s]
def ln (k p s:Nat):List Nat:=if k=0 then zero else full k p s
theorem front_len (k p s:Nat):(front k p s).length=7:=rfl
theorem ln_len (k p s:Nat):(ln k p s).length=8:=by
 unfold ln
 split<;>rfl
theorem ln_zero (p s:Nat):ln 0 p s=zero:=rfl
theorem ln_full {k:Nat} (h:k≠0) (p s:Nat):ln k p s=full k p s:=if_neg h
theorem nums_lt {k p:Nat} (hk:k < 65536) (hp:p < 65536):nums k p < 4294967296:=by unfold nums;omega
theorem sum_lt (k p s:Nat):sum k p s < 4294967296:=s32_lt _
theorem front_u64 {k p s:Nat} (hk:k < 65536) (hp:p < 65536) (hs:s < 18446744073709551616):∀ x∈front k p s,x < 18446744073709551616:=by
 intro x hx
 have h1:=nums_lt hk hp
 simp only[front,List.mem_cons,List.not_mem_nil,or_false] at hx
 rcases hx with rfl | rfl | rfl | rfl | rfl | rfl | rfl<;>omega
theorem full_u64 {k p s:Nat} (hk:k < 65536) (hp:p < 65536) (hs:s < 18446744073709551616):∀ x∈full k p s,x < 18446744073709551616:=by
 intro x hx
 have h1:=nums_lt hk hp
 have h2:=sum_lt k p s
 simp only[full,List.mem_cons,List.not_mem_nil,or_false] at hx
 rcases hx with rfl | rfl | rfl | rfl | rfl | rfl | rfl | rfl<;>omega
theorem zero_u64:∀ x∈zero,x < 18446744073709551616:=by decide
theorem may_lt {k p s:Nat} (h:may k ((p:Int) - 1) s=true):k < 3∧p < 65535∧s≤268435456:=by
 have h:=of_decide_eq_true h
 unfold May at h
 omega
theorem may_free {p s:Nat} (h:may ((0:Nat):Int) ((p:Int) - 1) s=true):p=0∧s=0:=by
 have h:=of_decide_eq_true h
 unfold May at h
 omega
theorem ln_u64 {k p s:Nat} (h:may k ((p:Int) - 1) s=true):∀ x∈ln k p s,x < 18446744073709551616:=by
 obtain⟨h1,h2,h3⟩:=may_lt h
 unfold ln
 split
 · exact zero_u64
 · exact full_u64 (by omega) (by omega) (by omega)
theorem pk_nums {k p:Nat} (hk:k < 65536) (hp:p < 65536):Pack.pk 0 0 [⟨16,k⟩,⟨16,p⟩]=some (nums k p,32):=by
 unfold nums
 simp[Pack.pk,hk,hp]
 omega
theorem split_nums (x:Nat):Pack.split x [16,16]=if x < 4294967296 then some [x % 65536,x / 65536 % 65536] else none:=by
 have h:Pack.tot 0 [16,16]=some 32:=by decide
 unfold Pack.split
 rw[h]
 have e:(2:Nat) ^ 32=4294967296:=rfl
 simp only[e]
 by_cases hx:x < 4294967296
 · have:x / 4294967296=0:=by omega
   simp[hx,this,Pack.sp]
 · have:¬ x / 4294967296=0:=by omega
   simp[hx,this]
def dec (l:List Nat):Option (Nat × Nat × Nat):=
 let x:Nat:=l[0]?.getD 0
 let s:Nat:=l[1]?.getD 0
 let k:Nat:=x % 65536
 let p:Nat:=x / 65536
 if l.length=8∧x < 4294967296∧may k ((p:Int) - 1) s=true∧l=ln k p s then some (k,p,s) else none
theorem dec_ln {k p s:Nat} (h:may k ((p:Int) - 1) s=true):dec (ln k p s)=some (k,p,s):=by
 obtain⟨h1,h2,h3⟩:=may_lt h
 by_cases hk:k=0
 · subst hk
   obtain⟨rfl,rfl⟩:=may_free h
   unfold dec
   exact if_pos ⟨rfl,by decide,h,rfl⟩
 · have h4:=nums_lt (k:=k) (p:=p) (by omega) (by omega)
   have e1:nums k p % 65536=k:=by unfold nums;omega
   have e2:nums k p / 65536=p:=by unfold nums;omega
   have e:(ln k p s)[0]?.getD 0=nums k p:=by rw[ln_full hk];rfl
   have e':(ln k p s)[1]?.getD 0=s:=by rw[ln_full hk];rfl
   unfold dec
   simp only[e,e',e1,e2]
   exact if_pos ⟨ln_len k p s,h4,h,trivial⟩
theorem dec_some {l:List Nat} {k p s:Nat} (h:dec l=some (k,p,s)):may k ((p:Int) - 1) s=true∧l=ln k p s:=by
 unfold dec at h
 simp only at h
 split at h
 · rename_i hc
   injection h with h
   injection h with h1 h2
   injection h2 with h2 h3
   subst h1 h2 h3
   exact hc.2.2
 · cases h
end Ino
end Go.Proofs.YtdafimdfbnphaaaGreatDoor
/- Texts. -/
namespace Go.Proofs.YtdafimdfbnphaaaGreatDoor
open Lib (hid)
open Go.RowKit Go.MapKept
namespace Ino
open Lin
theorem none_any (w:World):Calls Tryz.prog 40 #[] w fun r w'=>r = .returned (.agg #[.int .i64 0,.int .i64 (-1),.int .i64 0])∧Below w.heap.size w w':=by
 go_enter Tryz.func40,Tryz.ntmps40
 go_wp2
 refine bodyPost_ret (v:=.agg #[.int .i64 0,.int .i64 (-1),.int .i64 0]) ?_ rfl ⟨rfl,?_⟩
 · simp[results,Tryz.results40,go_sem]
 · first
   | exact (Below.refl _ _).alloc (Nat.le_refl _) _
   | exact ((((Below.refl _ _).alloc (Nat.le_refl _) _).setCell (by simp) _).setCell (by simp) _).setCell (by simp) _
theorem within_any (w:World) (n a b:Int) :
 Calls Tryz.prog 249 #[.int .i64 n,.int .i64 a,.int .i64 b] w fun e w'=>e = .returned (.bool (decide (a≤n∧n≤b)))∧w=w':=by
 go_enter Tryz.func249,Tryz.ntmps249
 go_wp2
 · rename_i h
   go_ret
   exact⟨by simp[h],rfl⟩
 · rename_i h
   go_ret
   refine⟨?_,rfl⟩
   have:¬ a≤n:=by omega
   simp[this]
set_option maxHeartbeats 1000000 in
theorem place_any (w:World) (k h s:Int) :
 Calls Tryz.prog 236 #[.agg #[.int .i64 k,.int .i64 h,.int .i64 s]] w fun r w'=>r = .returned (.bool (plc h s))∧Below w.heap.size w w':=by
 have HB:=hid ((Below.refl w.heap.size w).alloc (Nat.le_refl _) (.cells #[.int .i64 k,.int .i64 h,.int .i64 s] 84))
 have HH:=hid (fun w=>within_any w h (-1) 65533)
 have HS:=hid (fun w=>within_any w s 0 268435456)
 by_cases h1:-1≤h∧h≤65533
 · by_cases h2:0≤s∧s≤268435456
   · have HE:=hid (show plc h s=((h == -1) == (s == 0)) by
      unfold plc
      rw[Bool.eq_iff_iff]
      simp only[decide_eq_true_eq,beq_iff_eq]
      rw[Bool.eq_iff_iff]
      simp only[beq_iff_eq]
      constructor
      · exact fun h=>h.2.2
      · exact fun h=>⟨h1,h2,h⟩)
     have H1:=hid (decide_eq_true h1)
     have H2:=hid (decide_eq_true h2)
     clear h1 h2
     go_enter Tryz.func236,Tryz.ntmps236
     go_wp2_with fail
     refine (HH.out _).mono ?_
     rintro e w' ⟨rfl,rfl⟩
     rw[H1.out]
     go_wp2_with fail
     refine (HS.out _).mono ?_
     rintro e w' ⟨rfl,rfl⟩
     rw[H2.out]
     go_wp2
     go_ret
     exact⟨by rw[HE.out];rfl,HB.out⟩
   · have HE:=hid (show plc h s=false by unfold plc;exact decide_eq_false (fun h=>h2 h.2.1))
     have H1:=hid (decide_eq_true h1)
     have H2:=hid (decide_eq_false h2)
     clear h1 h2
     go_enter Tryz.func236,Tryz.ntmps236
     go_wp2_with fail
     refine (HH.out _).mono ?_
     rintro e w' ⟨rfl,rfl⟩
     rw[H1.out]
     go_wp2_with fail
     refine (HS.out _).mono ?_
     rintro e w' ⟨rfl,rfl⟩
     rw[H2.out]
     go_wp2
     go_ret
     exact⟨by rw[HE.out];rfl,HB.out⟩
 · have HE:=hid (show plc h s=false by unfold plc;exact decide_eq_false (fun h=>h1 h.1))
   have H1:=hid (decide_eq_false h1)
   clear h1
   go_enter Tryz.func236,Tryz.ntmps236
   go_wp2_with fail
   refine (HH.out _).mono ?_
   rintro e w' ⟨rfl,rfl⟩
   rw[H1.out]
   go_wp2
   go_ret
   exact⟨by rw[HE.out];rfl,HB.out⟩
set_option maxHeartbeats 1000000 in
theorem may_any (w:World) (k h s:Int) :
 Calls Tryz.prog 211 #[.agg #[.int .i64 k,.int .i64 h,.int .i64 s]] w fun r w'=>r = .returned (.bool (may k h s))∧Below w.heap.size w w':=by
 have HB:=hid ((Below.refl w.heap.size w).alloc (Nat.le_refl _) (.cells #[.int .i64 k,.int .i64 h,.int .i64 s] 84))
 have HX:=hid (boxed w k h s 84)
 have HN:=hid none_any
 have HP:=hid (fun w=>place_any w k h s)
 by_cases h0:k=0
 · subst h0
   by_cases h1:h = -1
   · subst h1
     by_cases h2:s=0
     · subst h2
       have HE:=hid (show may 0 (-1) 0=true by decide)
       go_enter Tryz.func211,Tryz.ntmps211
       go_wp2
       generalize w.alloc (.cells #[.int .i64 0,.int .i64 (-1),.int .i64 0] 84)=W at *
       have hc0:=HX.out.c0
       have hc1:=HX.out.c1
       have hc2:=HX.out.c2
       go_region_held3 (fun W'=>W'.cell? ⟨w.heap.size,0,none⟩=some (.int .i64 0)∧W'.cell? ⟨w.heap.size,1,none⟩=some (.int .i64 (-1))∧W'.cell? ⟨w.heap.size,2,none⟩=some (.int .i64 0)) (go_keep)
        (first
        | (go_at_call 40
           with_reducible refine (HN.out _).mono ?_
           rintro e w1 ⟨rfl,hb⟩
           have HY:=hid (HX.out.drew.keep hb)
           have hk0:=HY.out.c0
           have hk1:=HY.out.c1
           have hk2:=HY.out.c2
           have HB1:=hid (HB.out.drew.trans (hb.mono HB.out.drew.size))
           clear hb))
       go_wp2
       go_ret
       exact⟨by rw[HE.out];rfl,HB1.out⟩
     · have HE:=hid (show may 0 (-1) s=false by unfold may May;exact decide_eq_false (by omega))
       go_enter Tryz.func211,Tryz.ntmps211
       go_wp2
       generalize w.alloc (.cells #[.int .i64 0,.int .i64 (-1),.int .i64 s] 84)=W at *
       have hc0:=HX.out.c0
       have hc1:=HX.out.c1
       have hc2:=HX.out.c2
       go_region_held3 (fun W'=>W'.cell? ⟨w.heap.size,0,none⟩=some (.int .i64 0)∧W'.cell? ⟨w.heap.size,1,none⟩=some (.int .i64 (-1))∧W'.cell? ⟨w.heap.size,2,none⟩=some (.int .i64 s)) (go_keep)
        (first
        | (go_at_call 40
           with_reducible refine (HN.out _).mono ?_
           rintro e w1 ⟨rfl,hb⟩
           have HY:=hid (HX.out.drew.keep hb)
           have hk0:=HY.out.c0
           have hk1:=HY.out.c1
           have hk2:=HY.out.c2
           have HB1:=hid (HB.out.drew.trans (hb.mono HB.out.drew.size))
           clear hb))
       go_wp2
       go_ret
       exact⟨by rw[HE.out];rfl,HB1.out⟩
   · have HE:=hid (show may 0 h s=false by unfold may May;exact decide_eq_false (by omega))
     go_enter Tryz.func211,Tryz.ntmps211
     go_wp2
     generalize w.alloc (.cells #[.int .i64 0,.int .i64 h,.int .i64 s] 84)=W at *
     have hc0:=HX.out.c0
     have hc1:=HX.out.c1
     have hc2:=HX.out.c2
     go_region_held3 (fun W'=>W'.cell? ⟨w.heap.size,0,none⟩=some (.int .i64 0)∧W'.cell? ⟨w.heap.size,1,none⟩=some (.int .i64 h)∧W'.cell? ⟨w.heap.size,2,none⟩=some (.int .i64 s)) (go_keep)
      (first
      | (go_at_call 40
         with_reducible refine (HN.out _).mono ?_
         rintro e w1 ⟨rfl,hb⟩
         have HY:=hid (HX.out.drew.keep hb)
         have hk0:=HY.out.c0
         have hk1:=HY.out.c1
         have hk2:=HY.out.c2
         have HB1:=hid (HB.out.drew.trans (hb.mono HB.out.drew.size))
         clear hb))
     go_wp2
     go_ret
     exact⟨by rw[HE.out];rfl,HB1.out⟩
 · by_cases h1:k=1
   · subst h1
     have HE:=hid (show may 1 h s=plc h s by unfold may May plc;simp)
     go_enter Tryz.func211,Tryz.ntmps211
     go_wp2_with fail
     refine (HP.out _).mono ?_
     rintro e w' ⟨rfl,hb⟩
     have HB1:=hid (HB.out.trans (hb.mono HB.out.size))
     clear hb
     go_wp2
     go_ret
     exact⟨by rw[HE.out];rfl,HB1.out⟩
   · by_cases h2:k=2
     · subst h2
       cases hp:plc h s with
       | true=>
         have hs:=of_decide_eq_true (show decide ((-1≤h∧h≤65533)∧(0≤s∧s≤268435456)∧(h = -1↔s=0))=true from hp)
         have HE:=hid (show may 2 h s=(s % 64 == 0) by
          unfold may May
          by_cases e:s % 64=0<;>simp[hs,e])
         have HQ:=hid hp
         have hs0:0≤s:=hs.2.1.1
         have hs1:s≤268435456:=hs.2.1.2
         clear hs hp
         go_enter Tryz.func211,Tryz.ntmps211
         go_wp2_with fail
         refine (HP.out _).mono ?_
         rintro e w1 ⟨rfl,hb⟩
         rw[HQ.out]
         have HB1:=hid (HB.out.trans (hb.mono HB.out.size))
         have HX1:=hid (HX.out.keep hb)
         have hc2:=HX1.out.c2
         clear hb
         go_wp2
         go_ret
         exact⟨by rw[HE.out];rfl,HB1.out⟩
       | false=>
         have HE:=hid (show may 2 h s=false by
          have hs:=of_decide_eq_false (show decide ((-1≤h∧h≤65533)∧(0≤s∧s≤268435456)∧(h = -1↔s=0))=false from hp)
          unfold may May
          exact decide_eq_false (fun h=>by
           rcases h with h | h
           · exact absurd h.1 (by decide)
           · exact hs h.2))
         have HQ:=hid hp
         clear hp
         go_enter Tryz.func211,Tryz.ntmps211
         go_wp2_with fail
         refine (HP.out _).mono ?_
         rintro e w1 ⟨rfl,hb⟩
         rw[HQ.out]
         have HB1:=hid (HB.out.trans (hb.mono HB.out.size))
         clear hb
         go_wp2
         go_ret
         exact⟨by rw[HE.out];rfl,HB1.out⟩
     · have HE:=hid (show may k h s=false by
        unfold may May
        exact decide_eq_false (fun h=>by
         rcases h with h | h
         · exact h0 h.1
         · rcases h.1 with h | h
           · exact h1 h
           · exact h2 h.1))
       go_enter Tryz.func211,Tryz.ntmps211
       go_wp2
       go_ret
       exact⟨by rw[HE.out];rfl,HB.out⟩
end Ino
end Go.Proofs.YtdafimdfbnphaaaGreatDoor
/- Texts. -/
namespace Go.Proofs.YtdafimdfbnphaaaGreatDoor
open Lib (hid)
open Go.RowKit Go.MapKept
namespace Ino
open Lin
theorem field_any (w:World) (n:Nat) (h:n < 65536) :
 Calls Tryz.prog 212 #[.int .i64 (n:Int)] w fun r w'=>r = .returned (.agg #[.int .i64 16,.int .u64 (n:Int)])∧Below w.heap.size w w':=by
 go_enter Tryz.func212,Tryz.ntmps212
 go_wp2
 refine bodyPost_ret (v:=.agg #[.int .i64 16,.int .u64 (n:Int)]) ?_ rfl ⟨rfl,?_⟩
 · simp[results,Tryz.results212,go_sem]
 · first
   | exact (Below.refl _ _).alloc (Nat.le_refl _) _
   | exact (((Below.refl _ _).alloc (Nat.le_refl _) _).setCell (by simp) _).setCell (by simp) _
theorem nums_any (w:World) {n m:Nat} (hn:n < 65536) (hm:m < 65536):Calls Tryz.prog 199 #[.slice (some ⟨w.heap.size,0,none⟩) 2 2] (w.alloc (.cells #[.int .i64 16,.int .u64 (n:Int),.int .i64 16,.int .u64 (m:Int)] 276)) fun e w'=>e = .returned (.tuple #[.int .u64 (nums n m:Nat),.bool true])∧Below w.heap.size w w':=by
 refine (Pack.pack_any _ 2 _ (fds_two w hn hm)).mono ?_
 rintro e w' ⟨rfl,hb⟩
 rw[pk_nums hn hm]
 have hb0:=(Below.refl w.heap.size w).alloc (Nat.le_refl _) (.cells #[.int .i64 16,.int .u64 (n:Int),.int .i64 16,.int .u64 (m:Int)] 276)
 exact⟨rfl,hb0.trans (hb.mono hb0.size)⟩
theorem encode_no (w:World) (k h s:Int) (hm:may k h s=false) :
 Calls Tryz.prog 166 #[.agg #[.int .i64 k,.int .i64 h,.int .i64 s]] w fun r w'=>r = .returned (.tuple #[.slice none 0 0,.int .i64 1])∧Below w.heap.size w w':=by
 have HM:=hid (fun w=>may_any w k h s)
 have HE:=hid hm
 clear hm
 have HB:=hid ((Below.refl w.heap.size w).alloc (Nat.le_refl _) (.cells #[.int .i64 k,.int .i64 h,.int .i64 s] 84))
 go_enter Tryz.func166,Tryz.ntmps166
 go_wp2_with fail
 refine (HM.out _).mono ?_
 rintro e w' ⟨rfl,hb⟩
 rw[HE.out]
 have HB1:=hid (HB.out.trans (hb.mono HB.out.size))
 clear hb
 go_wp2
 go_ret2
 exact⟨rfl,HB1.out⟩
theorem set_nums (x:Nat) (j:Nat) (_h:j < 8):(if j=0 then x else ([]:List Nat)[j]?.getD 0)=[x][j]?.getD 0:=by
 match j with
 | 0=>rfl
 | j+1=>simp
theorem set_size (x y:Nat) (j:Nat) (_h:j < 8):(if j=1 then y else [x][j]?.getD 0)=[x,y][j]?.getD 0:=by
 match j with
 | 0=>rfl
 | 1=>rfl
 | j+2=>simp
theorem set_sum (x y z:Nat) (j:Nat) (h:j < 8):(if j=7 then z else [x,y][j]?.getD 0)=[x,y,0,0,0,0,0,z][j]?.getD 0:=by
 have:j=0∨j=1∨j=2∨j=3∨j=4∨j=5∨j=6∨j=7:=by omega
 rcases this with rfl | rfl | rfl | rfl | rfl | rfl | rfl | rfl<;>rfl
theorem front_crc {w:World} {g k p s:Nat} (h:w.rowIs g 134 8 (rowOf [nums k p,s])) (hk:k < 65536) (hp:p < 65536) (hs:s < 18446744073709551616):Crc.Wds w (some ⟨g,0,none⟩) (front k p s):=by
 refine row_crc h (by rw[front_len];omega) (front_u64 hk hp hs) ?_
 intro j hj
 have:j < 7:=hj
 have:j=0∨j=1∨j=2∨j=3∨j=4∨j=5∨j=6:=by omega
 rcases this with rfl | rfl | rfl | rfl | rfl | rfl | rfl<;>rfl
set_option maxHeartbeats 2000000 in
theorem encode_free (w:World) :
 Calls Tryz.prog 166 #[.agg #[.int .i64 0,.int .i64 (-1),.int .i64 0]] w fun r w'=>∃ g:Nat,w.heap.size≤g∧r = .returned (.tuple #[.slice (some ⟨g,0,none⟩) 8 8,.int .i64 0])∧w'.rowIs g 134 8 (rowOf zero)∧Below w.heap.size w w':=by
 have HM:=hid (fun w=>may_any w 0 (-1) 0)
 have HE:=hid (show may 0 (-1) 0=true by decide)
 have HN:=hid none_any
 have HB:=hid ((Below.refl w.heap.size w).alloc (Nat.le_refl _) (.cells #[.int .i64 0,.int .i64 (-1),.int .i64 0] 84))
 have HX:=hid (boxed w 0 (-1) 0 84)
 go_enter Tryz.func166,Tryz.ntmps166
 go_wp2_with fail
 refine (HM.out _).mono ?_
 rintro e w1 ⟨rfl,hb⟩
 rw[HE.out]
 have HB1:=hid (HB.out.trans (hb.mono HB.out.size))
 have HX1:=hid (HX.out.keep hb)
 have hsz:w.heap.size < w1.heap.size:=HX1.out.lt
 clear hb HX
 have hmk:=run_make_row' (P:=Tryz.prog) 35 134 _ 8 Tryz.underlying35 Pack.u64_info rfl .i64 .i64 8 (by omega) (by omega) w1
 rw[show ((8:Nat):Int)=8 from rfl] at hmk
 have hb2:=(Below.refl w1.heap.size w1).alloc (Nat.le_refl _) (.cells (madeCells #[.int .u64 0] 8) 134)
 have HE2:=hid (show En w w.heap.size w.heap.size w1.heap.size 0 (-1) 0 [] (w1.alloc (.cells (madeCells #[.int .u64 0] 8) 134)) from ⟨HX1.out.keep hb2,row_made w1,by omega,HB1.out.trans (hb2.mono HB1.out.size),HB1.out.size⟩)
 clear hb2 HX1 HB1 HB HM HE
 go_wp2
 generalize w1.alloc (.cells (madeCells #[.int .u64 0] 8) 134)=w2 at *
 generalize hg:w1.heap.size=g at *
 clear hg hmk
 have hs2:w.heap.size < w2.heap.size:=HE2.out.box.lt
 have hc0:=HE2.out.box.c0
 have hc1:=HE2.out.box.c1
 have hc2:=HE2.out.box.c2
 go_region_held3 (fun W'=>W'.cell? ⟨w.heap.size,0,none⟩=some (.int .i64 0)∧W'.cell? ⟨w.heap.size,1,none⟩=some (.int .i64 (-1))∧W'.cell? ⟨w.heap.size,2,none⟩=some (.int .i64 0)) (go_keep)
  (first
  | (go_at_call 40
     with_reducible refine (HN.out _).mono ?_
     rintro e w3 ⟨rfl,hb⟩
     have HE3:=hid (HE2.out.drew.keep hb (Nat.le_of_lt HE2.out.drew.box.lt))
     have hk0:=HE3.out.box.c0
     have hk1:=HE3.out.box.c1
     have hk2:=HE3.out.box.c2
     clear hb))
 go_wp2
 go_ret2
 exact⟨g,HE3.out.nN,rfl,row_zero HE3.out.row,HE3.out.below⟩
set_option maxHeartbeats 2000000 in
set_option maxRecDepth 100000 in
theorem encode_full (w:World) (k p s:Nat) (h:Int) (hh:h=(p:Int) - 1) (hk0:k≠0) (hm:may k ((p:Int) - 1) s=true) :
 Calls Tryz.prog 166 #[.agg #[.int .i64 (k:Int),.int .i64 h,.int .i64 (s:Int)]] w fun r w'=>∃ g:Nat,w.heap.size≤g∧r = .returned (.tuple #[.slice (some ⟨g,0,none⟩) 8 8,.int .i64 0])∧w'.rowIs g 134 8 (rowOf (full k p s))∧Below w.heap.size w w':=by
 obtain⟨h1,h2,h3⟩:=may_lt hm
 have HM:=hid (fun w=>may_any w k h s)
 have HE:=hid (show may k h s=true by rw[hh];exact hm)
 have HNN:=hid none_any
 have HN1:=hid (fun w=>field_any w k (by omega))
 have HN2:=hid (fun w=>field_any w p (by omega))
 have HP:=hid (fun w=>nums_any w (n:=k) (m:=p) (by omega) (by omega))
 have HW:=hid (show IntKind.i64.wrap (h+1)=(p:Int) by rw[IntKind.wrap_i64];omega)
 have hki:¬ (k:Int)=0:=by omega
 have hs64:s < 18446744073709551616:=by omega
 have hk64:k < 65536:=by omega
 have hp64:p < 65536:=by omega
 clear hm hh
 have HB:=hid ((Below.refl w.heap.size w).alloc (Nat.le_refl _) (.cells #[.int .i64 (k:Int),.int .i64 h,.int .i64 (s:Int)] 84))
 have HX:=hid (boxed w k h s 84)
 go_enter Tryz.func166,Tryz.ntmps166
 go_wp2_with fail
 refine (HM.out _).mono ?_
 rintro e w1 ⟨rfl,hb⟩
 rw[HE.out]
 have HB1:=hid (HB.out.trans (hb.mono HB.out.size))
 have HX1:=hid (HX.out.keep hb)
 have hsz:w.heap.size < w1.heap.size:=HX1.out.lt
 clear hb HX
 have hmk:=run_make_row' (P:=Tryz.prog) 35 134 _ 8 Tryz.underlying35 Pack.u64_info rfl .i64 .i64 8 (by omega) (by omega) w1
 rw[show ((8:Nat):Int)=8 from rfl] at hmk
 have hb2:=(Below.refl w1.heap.size w1).alloc (Nat.le_refl _) (.cells (madeCells #[.int .u64 0] 8) 134)
 have HE2:=hid (show En w w.heap.size w.heap.size w1.heap.size k h s [] (w1.alloc (.cells (madeCells #[.int .u64 0] 8) 134)) from ⟨HX1.out.keep hb2,row_made w1,by omega,HB1.out.trans (hb2.mono HB1.out.size),HB1.out.size⟩)
 clear hb2 HX1 HB1 HB HM HE
 go_wp2
 generalize w1.alloc (.cells (madeCells #[.int .u64 0] 8) 134)=w2 at *
 generalize hg:w1.heap.size=g at *
 clear hg hmk
 have hs2:w.heap.size < w2.heap.size:=HE2.out.box.lt
 have hc0:=HE2.out.box.c0
 have hc1:=HE2.out.box.c1
 have hc2:=HE2.out.box.c2
 go_region_held3 (fun W'=>W'.cell? ⟨w.heap.size,0,none⟩=some (.int .i64 (k:Int))∧W'.cell? ⟨w.heap.size,1,none⟩=some (.int .i64 h)∧W'.cell? ⟨w.heap.size,2,none⟩=some (.int .i64 (s:Int))) (go_keep)
  (first
  | (go_at_call 40
     with_reducible refine (HNN.out _).mono ?_
     rintro e w3 ⟨rfl,hb⟩
     have HE3:=hid (HE2.out.drew.keep hb (Nat.le_of_lt HE2.out.drew.box.lt))
     have hk0:=HE3.out.box.c0
     have hk1:=HE3.out.box.c1
     have hk2:=HE3.out.box.c2
     clear hb))
 clear hc0 hc1 hc2 hk0 hk1 hk2 HE2 HNN hs2
 go_wp2
 have hs4:w.heap.size < w3.heap.size:=HE3.out.box.lt
 have hc0:=HE3.out.box.c0
 have hc1:=HE3.out.box.c1
 have hc2:=HE3.out.box.c2
 have hw:=HW.out
 go_region_held3 (fun W'=>W'.cell? ⟨w.heap.size,0,none⟩=some (.int .i64 (k:Int))∧W'.cell? ⟨w.heap.size,1,none⟩=some (.int .i64 h)∧W'.cell? ⟨w.heap.size,2,none⟩=some (.int .i64 (s:Int))) (go_keep)
  (first
  | (go_at_call 212
     with_reducible refine (HN1.out _).mono ?_
     rintro e w5 ⟨rfl,hb⟩
     have HE5:=hid (HE3.out.drew.keep hb (Nat.le_of_lt HE3.out.drew.box.lt))
     have hk0:=HE5.out.box.c0
     have hk1:=HE5.out.box.c1
     have hk2:=HE5.out.box.c2
     clear hb)
  | (go_at_call 212
     with_reducible refine (HN2.out _).mono ?_
     rintro e w6 ⟨rfl,hb⟩
     have HE6:=hid (HE5.out.keep hb (Nat.le_of_lt HE5.out.box.lt))
     have hl0:=HE6.out.box.c0
     have hl1:=HE6.out.box.c1
     have hl2:=HE6.out.box.c2
     clear hb)
  | (go_at_call 199
     with_reducible refine (HP.out _).mono ?_
     rintro e w8 ⟨rfl,hb⟩
     have HE8:=hid (HE6.out.keep hb (Nat.le_of_lt HE6.out.box.lt))
     have hn0:=HE8.out.box.c0
     have hn1:=HE8.out.box.c1
     have hn2:=HE8.out.box.c2
     have hn3:=HE8.out.row.cell (i:=0) (by omega)
     have hn4:=HE8.out.row.frozen 0
     have HE9:=hid (HE8.out.set 0 (nums k p) (set_nums _))
     have hq0:=HE9.out.box.c0
     have hq1:=HE9.out.box.c1
     have hq2:=HE9.out.box.c2
     clear hb))
 clear hk0 hk1 hk2 hl0 hl1 hl2 hn0 hn1 hn2 hn3 hn4 hq0 hq1 hq2 hc0 hc1 hc2 HE5 HE6 HE8 HE3 HN1 HN2 HP hw hs4
 generalize w8.setCell ⟨g,0,none⟩ (.int .u64 (nums k p:Int))=w9 at *
 have hs9:w.heap.size < w9.heap.size:=HE9.out.box.lt
 have hc2:=HE9.out.box.c2
 have hrc:=HE9.out.row.cell (i:=1) (by omega)
 have hrf:=HE9.out.row.frozen 1
 have HE10:=hid (HE9.out.set 1 s (set_size _ _))
 have HC:=hid (Crc.words32_any (some ⟨g,0,none⟩) 8 (front k p s) (front_crc HE10.out.row hk64 hp64 hs64))
 have hsl:=sum_lt k p s
 have hrc7:=HE10.out.row.cell (i:=7) (by omega)
 have hrf7:=HE10.out.row.frozen 7
 go_wp2_with fail
 refine HC.out.mono ?_
 rintro e w' ⟨rfl,rfl⟩
 rw[show Crc.S32 (Crc.wflat (front k p s))=sum k p s from rfl]
 clear HC hc2 hrc hrf
 generalize w9.setCell ⟨g,1,none⟩ (.int .u64 (s:Int))=w10 at *
 go_wp2
 go_ret2
 have h11:=HE10.out.set 7 (sum k p s) (set_sum _ _ _)
 exact⟨g,h11.nN,rfl,h11.row,h11.below⟩
theorem encode_yes (w:World) (k p s:Nat) (h:Int) (hh:h=(p:Int) - 1) (hm:may k ((p:Int) - 1) s=true) :
 Calls Tryz.prog 166 #[.agg #[.int .i64 (k:Int),.int .i64 h,.int .i64 (s:Int)]] w fun r w'=>∃ g:Nat,w.heap.size≤g∧r = .returned (.tuple #[.slice (some ⟨g,0,none⟩) 8 8,.int .i64 0])∧w'.rowIs g 134 8 (rowOf (ln k p s))∧Below w.heap.size w w':=by
 by_cases hk:k=0
 · subst hk
   obtain⟨rfl,rfl⟩:=may_free hm
   subst hh
   rw[ln_zero]
   exact encode_free w
 · rw[ln_full hk]
   exact encode_full w k p s h hh hk hm
end Ino
end Go.Proofs.YtdafimdfbnphaaaGreatDoor
/- Texts. -/
namespace Go.Proofs.YtdafimdfbnphaaaGreatDoor
open Lib (hid)
open Go.RowKit Go.MapKept
namespace Lin
open Pack (Wds)
section
variable {w : World}
set_option maxHeartbeats 1600000 in
set_option maxRecDepth 100000 in
theorem equal_any (A B:Option Addr) (c d:Nat) (l m:List Nat) (h:Wds w A l) (g:Wds w B m) :
 Calls Tryz.prog 152 #[.slice A l.length c,.slice B m.length d] w fun e w'=>e = .returned (.bool (decide (l=m)))∧∃ n,w'=w.drewN n:=by
 have hn:=h.len
 have hm:=g.len
 have H:=hid h
 have G:=hid g
 clear h g
 by_cases hlen:l.length=m.length
 · go_enter Tryz.func152,Tryz.ntmps152
   go_wp2
   go_loopw [13] (fun i wr=>∃ (k n:Nat),k≤l.length∧i = .int .i64 (k:Int)∧l.take k=m.take k∧wr=w.drewN n) (fun i _=>l.length - (intOf i).toNat)
   case atStart=>exact⟨0,0,Nat.zero_le _,rfl,rfl,rfl⟩
   case round=>
    obtain⟨k,n,hk,rfl,hs,rfl⟩:=hrel
    have HS:=hid hs
    clear hs
    by_cases hlt:k < l.length
    · have hlt2:k < m.length:=by omega
      obtain⟨b,o,rfl,hb,hcell⟩:=H.out.at' k hlt
      obtain⟨b2,o2,rfl,hb2,hcell2⟩:=G.out.at' k hlt2
      have hi0:(0:Int)≤(k:Int):=by omega
      have hi1:(k:Int) < (l.length:Int):=by omega
      have hi2:(k:Int) < (m.length:Int):=by omega
      have HE:=hid (show l.take (k+1)=m.take (k+1)↔l[k]=m[k] by
       rw[List.take_succ_eq_append_getElem hlt,List.take_succ_eq_append_getElem (l:=m) hlt2,HS.out,List.append_right_inj]
       simp)
      generalize l[k]=x at *
      generalize m[k]=y at *
      by_cases hxy:x=y
      · subst hxy
        have HE1:=hid (HE.out.2 rfl)
        clear HE
        go_wp2
        go_quiet (fail)
        go_wp2
        refine⟨⟨k+1,n+nq,by omega,by go_num,HE1.out,rfl⟩,by simp[intOf];omega⟩
      · have hne:¬ (x:Int)=(y:Int):=by omega
        go_wp2
        go_quiet (fail)
        go_wp2
        go_ret
        refine⟨?_,n+nq,World.drewN_drewN _ _ _⟩
        have:¬ l=m:=fun h=>hxy (HE.out.1 (by rw[h]))
        rw[decide_eq_false this]
        rfl
    · obtain rfl:k=l.length:=by omega
      have he:l=m:=by
       have:=HS.out
       rwa [List.take_length,hlen,List.take_length] at this
      go_wp2
      go_ret
      refine⟨?_,n,rfl⟩
      rw[decide_eq_true he]
      rfl
 · have hne:¬ (l.length:Int)=(m.length:Int):=by omega
   have hlm:¬ l=m:=fun h=>hlen (by rw[h])
   go_enter Tryz.func152,Tryz.ntmps152
   go_wp2
   go_ret
   refine⟨?_,0,rfl⟩
   rw[decide_eq_false hlm]
   rfl
end
end Lin
end Go.Proofs.YtdafimdfbnphaaaGreatDoor
/- Texts. -/
namespace Go.Proofs.YtdafimdfbnphaaaGreatDoor
open Lib (hid)
open Go.RowKit Go.MapKept
namespace Ino
open Lin
def gv:Option (Nat × Nat × Nat)→Value
 | some (k,p,s)=>.agg #[.int .i64 (k:Int),.int .i64 ((p:Int) - 1),.int .i64 (s:Int)]
 | none=>.agg #[.int .i64 0,.int .i64 (-1),.int .i64 0]
def ev:Option (Nat × Nat × Nat)→Int
 | some _=>0
 | none=>2
theorem split_no (w:World) (N:Nat) (hN:w.heap.size=N) (x:Nat) (hx:x < 18446744073709551616) (h:¬ x < 4294967296):Calls Tryz.prog 178 #[.int .u64 (x:Int),.slice (some ⟨N,0,none⟩) 2 2] (w.alloc (.cells #[.int .i64 16,.int .i64 16] 3)) fun e w'=>∃ (G:Option Addr) (gc:Nat),e = .returned (.tuple #[.slice G 0 gc,.bool false])∧Below w.heap.size w w':=by
 subst hN
 refine (Pack.split_any x hx _ 2 _ (nts_two w)).mono ?_
 rintro e w' ⟨G,gc,rfl,hw,hb⟩
 have hb0:=(Below.refl w.heap.size w).alloc (Nat.le_refl _) (.cells #[.int .i64 16,.int .i64 16] 3)
 rw[split_nums,if_neg h]
 exact⟨G,gc,rfl,hb0.trans (hb.mono hb0.size)⟩
theorem split_yes (w:World) (N:Nat) (hN:w.heap.size=N) (x:Nat) (h:x < 4294967296):Calls Tryz.prog 178 #[.int .u64 (x:Int),.slice (some ⟨N,0,none⟩) 2 2] (w.alloc (.cells #[.int .i64 16,.int .i64 16] 3)) fun e w'=>∃ (b o gc:Nat),e = .returned (.tuple #[.slice (some ⟨b,o,none⟩) 2 gc,.bool true])∧(b < w'.heap.size∧w'.cell? ⟨b,o,none⟩=some (.int .u64 ((x % 65536:Nat):Int))∧w'.cell? ⟨b,o+1,none⟩=some (.int .u64 ((x / 65536:Nat):Int)))∧Below w.heap.size w w':=by
 subst hN
 refine (Pack.split_any x (by omega) _ 2 _ (nts_two w)).mono ?_
 rintro e w' ⟨G,gc,rfl,hw,hb⟩
 have hb0:=(Below.refl w.heap.size w).alloc (Nat.le_refl _) (.cells #[.int .i64 16,.int .i64 16] 3)
 have e:x / 65536 % 65536=x / 65536:=by omega
 rw[split_nums,if_pos h,e] at hw ⊢
 simp only[Option.getD_some] at hw
 obtain⟨b,o,rfl,hlt,hc0⟩:=hw.at' 0 (by simp)
 obtain⟨b',o',e,_,hc1⟩:=hw.at' 1 (by simp)
 injection e with e
 injection e with e1 e2
 subst e1 e2
 exact⟨b,o,gc,rfl,⟨hlt,hc0,hc1⟩,hb0.trans (hb.mono hb0.size)⟩
section
variable {w : World}
set_option maxHeartbeats 2000000 in
set_option maxRecDepth 100000 in
theorem decode_any (A:Option Addr) (c:Nat) (l:List Nat) (h:Pack.Wds w A l) :
 Calls Tryz.prog 174 #[.slice A l.length c] w fun r w'=>r = .returned (.tuple #[gv (dec l),.int .i64 (ev (dec l))])∧Below w.heap.size w w':=by
 have hlen:=h.len
 have HB:=hid ((Below.refl w.heap.size w).alloc (Nat.le_refl _) (.cells #[.int .i64 0,.int .i64 0,.int .i64 0] 84))
 have HX:=hid (owned w 0 0 0 84)
 have HNN:=hid none_any
 by_cases hl:l.length=8
 · rw[hl]
   obtain⟨b,o,rfl,hb,hcell⟩:=h.at' 0 (by omega)
   rw[Nat.add_zero] at hcell
   obtain⟨b',o',e,_,hcell1⟩:=h.at' 1 (by omega)
   injection e with e
   injection e with e1 e2
   subst e1 e2
   have hx:=h.u64 l[0] (List.getElem_mem _)
   have hy:=h.u64 l[1] (List.getElem_mem _)
   have HD0:=hid (show l[0]?.getD 0=l[0] by rw[List.getElem?_eq_getElem (by omega)];rfl)
   have HD1:=hid (show l[1]?.getD 0=l[1] by rw[List.getElem?_eq_getElem (by omega)];rfl)
   have H:=hid h
   have HL:=hid hl
   clear h
   generalize l[0]=x at *
   generalize l[1]=y at *
   clear hl
   by_cases h32:x < 4294967296
   · obtain⟨k,hk⟩:∃ k,k=x % 65536:=⟨_,rfl⟩
     obtain⟨p,hp⟩:∃ p,p=x / 65536:=⟨_,rfl⟩
     have hk1:k < 65536:=by omega
     have hp1:p < 65536:=by omega
     have HS:=hid (split_yes (w.alloc (.cells #[.int .i64 0,.int .i64 0,.int .i64 0] 84)) (w.heap.size+1) (World.size_alloc _ _) x h32)
     rw[← hk,← hp] at HS
     have HD:=hid (show dec l=if may k ((p:Int) - 1) y=true∧l=ln k p y then some (k,p,y) else none by
      unfold dec
      simp only[HD0.out,HD1.out,← hk,← hp]
      by_cases hc:may k ((p:Int) - 1) y=true∧l=ln k p y
      · rw[if_pos hc,if_pos ⟨HL.out,h32,hc⟩]
      · rw[if_neg hc,if_neg (fun h=>hc h.2.2)])
     clear hk hp h32 HD0 HD1
     obtain⟨S,hS⟩:∃ S,S=IntKind.wrap .i64 (y:Int):=⟨_,rfl⟩
     obtain⟨hd,hhd⟩:∃ hd,hd=(p:Int) - 1:=⟨_,rfl⟩
     have HMS:=hid (show may k hd S=may k ((p:Int) - 1) y by
      rw[← hhd]
      rw[IntKind.wrap_i64] at hS
      by_cases h63:y < 9223372036854775808
      · have:S=(y:Int):=by omega
        rw[this]
      · have h1:may k hd S=false:=by
         unfold may May
         exact decide_eq_false (by omega)
        have h2:may k hd y=false:=by
         unfold may May
         exact decide_eq_false (by omega)
        rw[h1,h2])
     have HSY:=hid (show may k ((p:Int) - 1) y=true→S=(y:Int) by
      intro hm
      have:=(may_lt hm).2.2
      rw[IntKind.wrap_i64] at hS
      omega)
     have hwk:IntKind.wrap .i64 (k:Int)=(k:Int):=by rw[IntKind.wrap_i64];omega
     have hwp:IntKind.wrap .i64 (p:Int)=(p:Int):=by rw[IntKind.wrap_i64];omega
     have hwh:IntKind.wrap .i64 ((p:Int) - 1)=hd:=by rw[IntKind.wrap_i64];omega
     have hwy:IntKind.wrap .i64 (y:Int)=S:=hS.symm
     have HH:=hid hhd
     clear hS hhd
     go_enter Tryz.func174,Tryz.ntmps174
     go_wp2_with fail
     refine HS.out.mono ?_
     rintro e w1 ⟨b1,o1,gc,rfl,⟨hb1,hq0,hq1⟩,hbw⟩
     have HX1:=hid (HX.out.keep hbw)
     have HB1:=hid (HB.out.trans (hbw.mono HB.out.size))
     have hz1:w.heap.size < w1.heap.size:=HX1.out.box.lt
     have hcy:w1.cell? ⟨b,o+1,none⟩=some (.int .u64 (y:Int)):=(HB1.out.cell (p:=⟨b,o+1,none⟩) hb).trans hcell1
     have hbw1:b < w1.heap.size:=Nat.lt_of_lt_of_le hb HB1.out.size
     have H1:=hid (H.out.keep HB1.out)
     clear hbw HS HX HB H hcell hcell1
     go_wp2
     go_region
     have hba:=(Below.refl w1.heap.size w1).alloc (Nat.le_refl _) (.cells #[.int .i64 (k:Int),.int .i64 hd,.int .i64 S] 84)
     have HX2:=hid (HX1.out.keep hba).drew
     have HG2:=hid (boxed w1 k hd S 84).drew
     have HB2:=hid (HB1.out.trans (hba.mono HB1.out.size)).drew
     have H2:=hid (H1.out.keep hba.drew)
     clear hwk hwp hwh hwy hba HX1 HB1 H1 hb1 hq0 hq1 hcy hbw1
     go_wp2_with fail
     generalize (w1.alloc (.cells #[.int .i64 (k:Int),.int .i64 hd,.int .i64 S] 84)).drew=w2 at *
     generalize w1.heap.size=k1 at *
     cases hmay:may k ((p:Int) - 1) y with
     | false=>
       have HN:=hid (show dec l=none by rw[HD.out,if_neg (fun h=>by rw[hmay] at h;simp at h)])
       refine (encode_no _ k hd S (by rw[HMS.out];exact hmay)).mono ?_
       rintro e w3 ⟨rfl,hb3⟩
       have HX3:=hid (HX2.out.keep hb3)
       have HB3:=hid (HB2.out.trans (hb3.mono HB2.out.size))
       clear hb3 hmay HX2 HB2 H2 HD HMS HSY HH
       go_wp2_with fail
       refine (HNN.out _).mono ?_
       rintro e w4 ⟨rfl,hb4⟩
       have HX4:=hid (HX3.out.keep hb4)
       have HB4:=hid (HB3.out.trans (hb4.mono HB3.out.size))
       clear hb4 HX3 HB3
       have hc0:=HX4.out.box.c0
       have hc1:=HX4.out.box.c1
       have hc2:=HX4.out.box.c2
       have hf0:=HX4.out.f 0
       have hf1:=HX4.out.f 1
       have hf2:=HX4.out.f 2
       go_wp2
       rw[HN.out]
       refine bodyPost_ret (v:=.tuple #[gv none,.int .i64 (ev none)]) ?_ rfl ⟨rfl,?_⟩
       · simp[results,Tryz.results174,go_sem,gv,ev,hc0,hc1,hc2]
       · exact ((HB4.out.setCell (Nat.le_refl _) _).setCell (Nat.le_refl _) _).setCell (Nat.le_refl _) _
     | true=>
       obtain rfl:=HSY.out hmay
       refine (encode_yes _ k p y hd HH.out hmay).mono ?_
       rintro e w3 ⟨g,hg,rfl,hrow,hb3⟩
       have he:=equal_any (some ⟨b,o,none⟩) (some ⟨g,0,none⟩) c 8 l (ln k p y) (H2.out.keep hb3) (row_pack hrow (ln_len _ _ _) (ln_u64 hmay))
       rw[HL.out,ln_len] at he
       have HE:=hid he
       have HX3:=hid (HX2.out.keep hb3)
       have HG3:=hid (HG2.out.keep hb3)
       have HB3:=hid (HB2.out.trans (hb3.mono HB2.out.size))
       have HM:=hid hmay
       clear hb3 hmay HX2 HB2 H2 he hrow HG2 HMS HSY
       go_wp2_with fail
       refine HE.out.mono ?_
       rintro e w4 ⟨rfl,q,hq⟩
       have HX4:=hid (show Own w4 w.heap.size 0 0 0 by rw[hq];exact HX3.out.drewN q)
       have HG4:=hid (show Box w4 k1 k hd y by rw[hq];exact HG3.out.drewN q)
       have HB4:=hid (show Below w.heap.size w w4 by rw[hq];exact Pack.below_drewN HB3.out q)
       clear hq HX3 HG3 HB3 HE
       by_cases hls:l=ln k p y
       · have HN:=hid (show dec l=some (k,p,y) by rw[HD.out,if_pos ⟨HM.out,hls⟩])
         rw[decide_eq_true hls]
         have hc0:=HX4.out.box.c0
         have hc1:=HX4.out.box.c1
         have hc2:=HX4.out.box.c2
         have hf0:=HX4.out.f 0
         have hf1:=HX4.out.f 1
         have hf2:=HX4.out.f 2
         have hg0:=HG4.out.c0
         have hg1:=HG4.out.c1
         have hg2:=HG4.out.c2
         clear hls HD HM
         go_wp2
         rw[HN.out]
         refine bodyPost_ret (v:=.tuple #[gv (some (k,p,y)),.int .i64 (ev (some (k,p,y)))]) ?_ rfl ⟨rfl,?_⟩
         · simp[results,Tryz.results174,go_sem,gv,ev,hc0,hc1,hc2,HH.out]
         · exact ((HB4.out.setCell (Nat.le_refl _) _).setCell (Nat.le_refl _) _).setCell (Nat.le_refl _) _
       · have HN:=hid (show dec l=none by rw[HD.out,if_neg (fun h=>hls h.2)])
         rw[decide_eq_false hls]
         clear hls HD HM
         go_wp2_with fail
         refine (HNN.out _).mono ?_
         rintro e w5 ⟨rfl,hb5⟩
         have HX5:=hid (HX4.out.keep hb5)
         have HB5:=hid (HB4.out.trans (hb5.mono HB4.out.size))
         clear hb5 HX4 HB4
         have hc0:=HX5.out.box.c0
         have hc1:=HX5.out.box.c1
         have hc2:=HX5.out.box.c2
         have hf0:=HX5.out.f 0
         have hf1:=HX5.out.f 1
         have hf2:=HX5.out.f 2
         go_wp2
         rw[HN.out]
         refine bodyPost_ret (v:=.tuple #[gv none,.int .i64 (ev none)]) ?_ rfl ⟨rfl,?_⟩
         · simp[results,Tryz.results174,go_sem,gv,ev,hc0,hc1,hc2]
         · exact ((HB5.out.setCell (Nat.le_refl _) _).setCell (Nat.le_refl _) _).setCell (Nat.le_refl _) _
   · have HN:=hid (show dec l=none by
      unfold dec
      simp only[HD0.out]
      exact if_neg (fun h=>h32 h.2.1))
     have HS:=hid (split_no (w.alloc (.cells #[.int .i64 0,.int .i64 0,.int .i64 0] 84)) (w.heap.size+1) (World.size_alloc _ _) x hx h32)
     go_enter Tryz.func174,Tryz.ntmps174
     go_wp2_with fail
     refine HS.out.mono ?_
     rintro e w1 ⟨G,gc,rfl,hb1⟩
     have HX1:=hid (HX.out.keep hb1)
     have HB1:=hid (HB.out.trans (hb1.mono HB.out.size))
     clear hb1
     go_wp2_with fail
     refine (HNN.out _).mono ?_
     rintro e w5 ⟨rfl,hb5⟩
     have HX5:=hid (HX1.out.keep hb5)
     have HB5:=hid (HB1.out.trans (hb5.mono HB1.out.size))
     clear hb5 HX1 HB1
     have hc0:=HX5.out.box.c0
     have hc1:=HX5.out.box.c1
     have hc2:=HX5.out.box.c2
     have hf0:=HX5.out.f 0
     have hf1:=HX5.out.f 1
     have hf2:=HX5.out.f 2
     go_wp2
     rw[HN.out]
     refine bodyPost_ret (v:=.tuple #[gv none,.int .i64 (ev none)]) ?_ rfl ⟨rfl,?_⟩
     · simp[results,Tryz.results174,go_sem,gv,ev,hc0,hc1,hc2]
     · exact ((HB5.out.setCell (Nat.le_refl _) _).setCell (Nat.le_refl _) _).setCell (Nat.le_refl _) _
 · have HN:=hid (show dec l=none by
    unfold dec
    exact if_neg (fun h=>hl h.1))
   have hl':¬ (l.length:Int)=8:=by omega
   go_enter Tryz.func174,Tryz.ntmps174
   go_wp2_with fail
   refine (HNN.out _).mono ?_
   rintro e w5 ⟨rfl,hb5⟩
   have HX5:=hid (HX.out.keep hb5)
   have HB5:=hid (HB.out.trans (hb5.mono HB.out.size))
   clear hb5 HX HB
   have hc0:=HX5.out.box.c0
   have hc1:=HX5.out.box.c1
   have hc2:=HX5.out.box.c2
   have hf0:=HX5.out.f 0
   have hf1:=HX5.out.f 1
   have hf2:=HX5.out.f 2
   go_wp2
   rw[HN.out]
   refine bodyPost_ret (v:=.tuple #[gv none,.int .i64 (ev none)]) ?_ rfl ⟨rfl,?_⟩
   · simp[results,Tryz.results174,go_sem,gv,ev,hc0,hc1,hc2]
   · exact ((HB5.out.setCell (Nat.le_refl _) _).setCell (Nat.le_refl _) _).setCell (Nat.le_refl _) _
end
end Ino
end Go.Proofs.YtdafimdfbnphaaaGreatDoor
/- Texts. -/
namespace Go.Proofs.YtdafimdfbnphaaaGreatDoor
open Go.RowKit Go.MapKept
namespace Ino
open Lin
theorem may_iff {k h s:Int}:may k h s=true↔May k h s:=decide_eq_true_iff
theorem ret_bool {a b:Bool} (h:a=true↔b=true):Ending.returned (Value.bool a)=Ending.returned (Value.bool b):=by rw[Bool.eq_iff_iff.2 h]
set_option maxHeartbeats 1000000 in
theorem refMay_any (w:World) (k h s:Int) :
 Calls Tryz.prog 222 #[.agg #[.int .i64 k,.int .i64 h,.int .i64 s]] w fun r w'=>r = .returned (.bool (may k h s))∧Below w.heap.size w w':=by
 by_cases h0:k=0
 · subst h0
   go_enter Tryz.func222,Tryz.ntmps222
   go_wp2
   all_goals go_ret
   all_goals refine⟨ret_bool ?_,(Below.refl _ _).alloc (Nat.le_refl _) _⟩
   all_goals refine Iff.trans ?_ may_iff.symm
   all_goals unfold May
   · rw[beq_iff_eq]
     omega
   · simp only[Bool.false_eq_true,false_iff]
     omega
 · go_enter Tryz.func222,Tryz.ntmps222
   go_wp2
   all_goals go_ret
   all_goals refine⟨ret_bool ?_,(Below.refl _ _).alloc (Nat.le_refl _) _⟩
   all_goals refine Iff.trans ?_ may_iff.symm
   all_goals unfold May
   all_goals simp only[bne_iff_ne,bne_eq_false_iff_eq,ne_eq,beq_iff_eq,decide_eq_true_eq,Bool.false_eq_true,true_iff,false_iff] at *
   all_goals omega
end Ino
end Go.Proofs.YtdafimdfbnphaaaGreatDoor
/- Texts. -/
namespace Go.Proofs.YtdafimdfbnphaaaGreatDoor
open Lib (hid)
open Go.RowKit Go.MapKept
namespace Ino
open Lin
theorem refEncode_no (w:World) (k h s:Int) (hm:may k h s=false) :
 Calls Tryz.prog 180 #[.agg #[.int .i64 k,.int .i64 h,.int .i64 s]] w fun r w'=>r = .returned (.tuple #[.slice none 0 0,.bool false])∧Below w.heap.size w w':=by
 have HM:=hid (fun w=>refMay_any w k h s)
 have HE:=hid hm
 clear hm
 have HB:=hid ((Below.refl w.heap.size w).alloc (Nat.le_refl _) (.cells #[.int .i64 k,.int .i64 h,.int .i64 s] 151))
 go_enter Tryz.func180,Tryz.ntmps180
 go_wp2_with fail
 refine (HM.out _).mono ?_
 rintro e w' ⟨rfl,hb⟩
 rw[HE.out]
 have HB1:=hid (HB.out.trans (hb.mono HB.out.size))
 clear hb
 go_wp2
 go_ret2
 exact⟨rfl,HB1.out⟩
theorem refEncode_free (w:World) :
 Calls Tryz.prog 180 #[.agg #[.int .i64 0,.int .i64 (-1),.int .i64 0]] w fun r w'=>∃ (G:Option Addr) (gc:Nat),r = .returned (.tuple #[.slice G 8 gc,.bool true])∧Pack.Wds w' G zero∧Below w.heap.size w w':=by
 have HM:=hid (fun w=>refMay_any w 0 (-1) 0)
 have HE:=hid (show may 0 (-1) 0=true by decide)
 have HB:=hid ((Below.refl w.heap.size w).alloc (Nat.le_refl _) (.cells #[.int .i64 0,.int .i64 (-1),.int .i64 0] 151))
 have HX:=hid (boxed w 0 (-1) 0 151)
 go_enter Tryz.func180,Tryz.ntmps180
 go_wp2_with fail
 refine (HM.out _).mono ?_
 rintro e w1 ⟨rfl,hb⟩
 rw[HE.out]
 have HB1:=hid (HB.out.trans (hb.mono HB.out.size))
 have HX1:=hid (HX.out.keep hb)
 have hc0:=HX1.out.c0
 clear hb HX
 have hmk:=run_make_row' (P:=Tryz.prog) 35 134 _ 8 Tryz.underlying35 Pack.u64_info rfl .i64 .i64 8 (by omega) (by omega) w1
 rw[show ((8:Nat):Int)=8 from rfl] at hmk
 go_wp2
 go_ret2
 exact⟨some ⟨w1.heap.size,0,none⟩,8,rfl,row_pack (row_zero (row_made w1)) rfl zero_u64,HB1.out.alloc HB1.out.size _⟩
theorem front_new (w:World) (k p s:Nat) (h:Int) (hh:h=(p:Int) - 1) (hk:k < 65536) (hp:p < 65536) (hs:s < 18446744073709551616):Crc.Wds (w.alloc (.cells #[.int .u64 ((k:Int)+65536 * (h+1)),.int .u64 (s:Int),.int .u64 0,.int .u64 0,.int .u64 0,.int .u64 0,.int .u64 0] 134)) (some ⟨w.heap.size,0,none⟩) (front k p s):=
 ⟨front_u64 hk hp hs,by rw[front_len];omega,fun j hj=>⟨w.heap.size,0,rfl,by simp,by
   rw[World.cell?_alloc_mark,Nat.zero_add]
   have:j < 7:=hj
   have e:(k:Int)+65536 * (h+1)=((nums k p:Nat):Int):=by unfold nums;omega
   match j,this with
   | 0,_=>rw[e];rfl
   | 1,_=>rfl
   | 2,_=>rfl
   | 3,_=>rfl
   | 4,_=>rfl
   | 5,_=>rfl
   | 6,_=>rfl⟩⟩
set_option maxHeartbeats 2000000 in
set_option maxRecDepth 100000 in
theorem refEncode_full (w:World) (k p s:Nat) (h:Int) (hh:h=(p:Int) - 1) (hk0:k≠0) (hm:may k ((p:Int) - 1) s=true) :
 Calls Tryz.prog 180 #[.agg #[.int .i64 (k:Int),.int .i64 h,.int .i64 (s:Int)]] w fun r w'=>∃ (G:Option Addr) (gc:Nat),r = .returned (.tuple #[.slice G 8 gc,.bool true])∧Pack.Wds w' G (full k p s)∧Below w.heap.size w w':=by
 obtain⟨h1,h2,h3⟩:=may_lt hm
 have HM:=hid (fun w=>refMay_any w k h s)
 have HE:=hid (show may k h s=true by rw[hh];exact hm)
 have hki:¬ (k:Int)=0:=by omega
 have hs64:s < 18446744073709551616:=by omega
 have hk64:k < 65536:=by omega
 have hp64:p < 65536:=by omega
 have hhl:-1≤h:=by omega
 have hhu:h≤65533:=by omega
 have HH:=hid hh
 clear hm hh
 have HB:=hid ((Below.refl w.heap.size w).alloc (Nat.le_refl _) (.cells #[.int .i64 (k:Int),.int .i64 h,.int .i64 (s:Int)] 151))
 have HX:=hid (boxed w k h s 151)
 go_enter Tryz.func180,Tryz.ntmps180
 go_wp2_with fail
 refine (HM.out _).mono ?_
 rintro e w1 ⟨rfl,hb⟩
 rw[HE.out]
 have HB1:=hid (HB.out.trans (hb.mono HB.out.size))
 have HX1:=hid (HX.out.keep hb)
 have hc0:=HX1.out.c0
 have hc1:=HX1.out.c1
 have hc2:=HX1.out.c2
 clear hb HX
 go_wp2_with fail
 have HF:=hid (front_new w1 k p s h HH.out hk64 hp64 hs64)
 have HB3:=hid (HB1.out.alloc HB1.out.size (.cells #[.int .u64 ((k:Int)+65536 * (h+1)),.int .u64 (s:Int),.int .u64 0,.int .u64 0,.int .u64 0,.int .u64 0,.int .u64 0] 134))
 clear hc0 hc1 hc2 HX1 HB1
 generalize w1.alloc (.cells #[.int .u64 ((k:Int)+65536 * (h+1)),.int .u64 (s:Int),.int .u64 0,.int .u64 0,.int .u64 0,.int .u64 0,.int .u64 0] 134)=w3 at *
 generalize w1.heap.size=g at *
 refine (Crc.bytes_any _ 7 _ HF.out (by rw[front_len];omega)).mono ?_
 rintro e w4 ⟨rfl,hb⟩
 have HF4:=hid (HF.out.keep hb)
 have HB4:=hid (HB3.out.trans (hb.mono HB3.out.size))
 clear hb HF HB3 HB
 have hsum:=Crc.ref32_any w4 (Crc.str (Crc.wflat (front k p s))) (by rw[Crc.str_size,Crc.wflat_len,front_len];omega)
 rw[Crc.tx_str (Crc.wflat_byt _),show Crc.S32 (Crc.wflat (front k p s))=sum k p s from rfl] at hsum
 have HS:=hid hsum
 clear hsum
 have hlt:=sum_lt k p s
 go_wp2_with fail
 refine HS.out.mono ?_
 rintro e w' ⟨rfl,rfl⟩
 obtain⟨G,gc,w5,hap,hw,hb5⟩:=grow8 w4 g (front k p s) (sum k p s) (front_len _ _ _) HF4.out (full_u64 hk64 hp64 hs64)
 have HAP:=hid hap
 have HW:=hid hw
 have HB5:=hid (HB4.out.trans (hb5.mono HB4.out.size))
 clear hap hw hb5 HF4 HB4
 go_wp2_with (at_builtin;refine wpList_append_run rfl (.tmp 25) (.tmp 30) 35 rfl _ _ _ rfl rfl HAP.out ?_)
 go_ret2
 exact⟨G,gc,rfl,HW.out,HB5.out⟩
theorem refEncode_yes (w:World) (k p s:Nat) (h:Int) (hh:h=(p:Int) - 1) (hm:may k ((p:Int) - 1) s=true) :
 Calls Tryz.prog 180 #[.agg #[.int .i64 (k:Int),.int .i64 h,.int .i64 (s:Int)]] w fun r w'=>∃ (G:Option Addr) (gc:Nat),r = .returned (.tuple #[.slice G 8 gc,.bool true])∧Pack.Wds w' G (ln k p s)∧Below w.heap.size w w':=by
 by_cases hk:k=0
 · subst hk
   obtain⟨rfl,rfl⟩:=may_free hm
   subst hh
   rw[ln_zero]
   exact refEncode_free w
 · rw[ln_full hk]
   exact refEncode_full w k p s h hh hk hm
end Ino
end Go.Proofs.YtdafimdfbnphaaaGreatDoor
/- Texts. -/
namespace Go.Proofs.YtdafimdfbnphaaaGreatDoor
open Lib (hid)
open Go.RowKit Go.MapKept
namespace Ino
open Lin
def rv (q:Option (Nat × Nat × Nat)):Value:=.tuple #[gv q,.bool q.isSome]
structure Two (w0 w:World) (b:Nat):Prop where
 own:Own w b 0 0 0
 free:Box w (b+1) 0 (-1) 0
 below:Below b w0 w
theorem Two.keep {w0 w w':World} {b:Nat} (h:Two w0 w b) (hb:Below w.heap.size w w'):Two w0 w' b:=
 ⟨h.own.keep hb,h.free.keep hb,h.below.trans (hb.mono (Nat.le_of_lt h.own.box.lt))⟩
theorem Two.drewN {w0 w:World} {b:Nat} (h:Two w0 w b) (k:Nat):Two w0 (w.drewN k) b:=
 ⟨h.own.drewN k,h.free.drewN k,Pack.below_drewN h.below k⟩
theorem two_new (w:World) (t:TypeId):Two w ((w.alloc (.cells #[.int .i64 0,.int .i64 0,.int .i64 0] t)).alloc (.cells #[.int .i64 0,.int .i64 (-1),.int .i64 0] t)) w.heap.size:=by
 have hb:=(Below.refl w.heap.size w).alloc (Nat.le_refl _) (.cells #[.int .i64 0,.int .i64 0,.int .i64 0] t)
 have hb':=(Below.refl _ (w.alloc (.cells #[.int .i64 0,.int .i64 0,.int .i64 0] t))).alloc (Nat.le_refl _) (.cells #[.int .i64 0,.int .i64 (-1),.int .i64 0] t)
 exact⟨(owned w 0 0 0 t).keep hb',boxed_at (World.size_alloc _ _) _ _ _ _,hb.trans (hb'.mono hb.size)⟩
theorem below_two (w:World) (o o':Obj):Below w.heap.size w ((w.alloc o).alloc o'):=by
 have hb:=(Below.refl w.heap.size w).alloc (Nat.le_refl _) o
 exact hb.alloc hb.size _
section
variable {w : World}
set_option maxHeartbeats 2000000 in
set_option maxRecDepth 100000 in
theorem refDecode_any (A:Option Addr) (c:Nat) (l:List Nat) (h:Pack.Wds w A l) :
 Calls Tryz.prog 138 #[.slice A l.length c] w fun r w'=>r = .returned (rv (dec l))∧Below w.heap.size w w':=by
 have hlen:=h.len
 have HT:=hid (two_new w 151)
 by_cases hl:l.length=8
 · rw[hl]
   obtain⟨b,o,rfl,hb,hcell⟩:=h.at' 0 (by omega)
   rw[Nat.add_zero] at hcell
   obtain⟨b',o',e,_,hcell1⟩:=h.at' 1 (by omega)
   injection e with e
   injection e with e1 e2
   subst e1 e2
   have hx:=h.u64 l[0] (List.getElem_mem _)
   have hy:=h.u64 l[1] (List.getElem_mem _)
   have HD0:=hid (show l[0]?.getD 0=l[0] by rw[List.getElem?_eq_getElem (by omega)];rfl)
   have HD1:=hid (show l[1]?.getD 0=l[1] by rw[List.getElem?_eq_getElem (by omega)];rfl)
   have H:=hid h
   have HL:=hid hl
   clear h
   generalize l[0]=x at *
   generalize l[1]=y at *
   clear hl
   by_cases hxy:x < 4294967296∧y≤268435456
   · obtain⟨h32,h28⟩:=hxy
     obtain⟨k,hk⟩:∃ k,k=x % 65536:=⟨_,rfl⟩
     obtain⟨p,hp⟩:∃ p,p=x / 65536:=⟨_,rfl⟩
     have hk1:k < 65536:=by omega
     have hp1:p < 65536:=by omega
     have HD:=hid (show dec l=if may k ((p:Int) - 1) y=true∧l=ln k p y then some (k,p,y) else none by
      unfold dec
      simp only[HD0.out,HD1.out,← hk,← hp]
      by_cases hc:may k ((p:Int) - 1) y=true∧l=ln k p y
      · rw[if_pos hc,if_pos ⟨HL.out,h32,hc⟩]
      · rw[if_neg hc,if_neg (fun h=>hc h.2.2)])
     obtain⟨hd,hhd⟩:∃ hd,hd=(p:Int) - 1:=⟨_,rfl⟩
     have HH:=hid hhd
     have hxk:(x:Int) % 65536=(k:Int):=by omega
     have hxp:(x:Int) / 65536=(p:Int):=by omega
     have hwk:IntKind.wrap .i64 (k:Int)=(k:Int):=by rw[IntKind.wrap_i64];omega
     have hwp:IntKind.wrap .i64 (p:Int)=(p:Int):=by rw[IntKind.wrap_i64];omega
     have hwh:IntKind.wrap .i64 ((p:Int) - 1)=hd:=by rw[IntKind.wrap_i64];omega
     have hwy:IntKind.wrap .i64 (y:Int)=(y:Int):=by rw[IntKind.wrap_i64];omega
     have HXK:=hid hxk
     have HXP:=hid hxp
     clear hk hp hhd HD0 HD1 hxk hxp
     have hx32:¬ (4294967295:Int) < (x:Int):=by omega
     have hy28:¬ (268435456:Int) < (y:Int):=by omega
     go_enter Tryz.func138,Tryz.ntmps138
     go_wp2
     have hc0:=(HT.out.below.cell (p:=⟨b,o,none⟩) hb).trans hcell
     have hc1:=(HT.out.below.cell (p:=⟨b,o+1,none⟩) hb).trans hcell1
     have hbw:b < ((w.alloc (.cells #[.int .i64 0,.int .i64 0,.int .i64 0] 151)).alloc (.cells #[.int .i64 0,.int .i64 (-1),.int .i64 0] 151)).heap.size:=Nat.lt_of_lt_of_le hb HT.out.below.size
     have H1:=hid (H.out.keep HT.out.below)
     clear hcell hcell1 H
     generalize (w.alloc (.cells #[.int .i64 0,.int .i64 0,.int .i64 0] 151)).alloc (.cells #[.int .i64 0,.int .i64 (-1),.int .i64 0] 151)=w1 at *
     have hxk:=HXK.out
     have hxp:=HXP.out
     go_region
     have hba:=(Below.refl w1.heap.size w1).alloc (Nat.le_refl _) (.cells #[.int .i64 (k:Int),.int .i64 hd,.int .i64 (y:Int)] 151)
     have HT2:=hid (HT.out.keep hba.drew)
     have HG2:=hid (boxed w1 k hd y 151).drew
     have H2:=hid (H1.out.keep hba.drew)
     clear hwk hwp hwh hwy hba HT H1 hbw hc0 hc1 hxk hxp HXK HXP hb hx hy hx32 hy28 h32 h28
     go_wp2_with fail
     generalize (w1.alloc (.cells #[.int .i64 (k:Int),.int .i64 hd,.int .i64 (y:Int)] 151)).drew=w2 at *
     generalize w1.heap.size=k1 at *
     cases hmay:may k ((p:Int) - 1) y with
     | false=>
       have HN:=hid (show dec l=none by rw[HD.out,if_neg (fun h=>by rw[hmay] at h;simp at h)])
       refine (refEncode_no _ k hd y (by rw[HH.out];exact hmay)).mono ?_
       rintro e w3 ⟨rfl,hb3⟩
       have HT3:=hid (HT2.out.keep hb3)
       have hc0:=HT3.out.own.box.c0
       have hc1:=HT3.out.own.box.c1
       have hc2:=HT3.out.own.box.c2
       have hf0:=HT3.out.own.f 0
       have hf1:=HT3.out.own.f 1
       have hf2:=HT3.out.own.f 2
       have hg0:=HT3.out.free.c0
       have hg1:=HT3.out.free.c1
       have hg2:=HT3.out.free.c2
       clear hb3 hmay HT2 H2 HD HH HG2
       go_wp2
       rw[HN.out]
       refine bodyPost_ret (v:=rv none) ?_ rfl ⟨rfl,?_⟩
       · simp[results,Tryz.results138,go_sem,rv,gv,hc0,hc1,hc2]
       · exact ((HT3.out.below.setCell (Nat.le_refl _) _).setCell (Nat.le_refl _) _).setCell (Nat.le_refl _) _
     | true=>
       refine (refEncode_yes _ k p y hd HH.out hmay).mono ?_
       rintro e w3 ⟨G,gc,rfl,hw,hb3⟩
       have HT3:=hid (HT2.out.keep hb3)
       have HG3:=hid (HG2.out.keep hb3)
       have H3:=hid (H2.out.keep hb3)
       have HW:=hid hw
       have HM:=hid hmay
       have hz3:w.heap.size < w3.heap.size:=HT3.out.own.box.lt
       have hz4:w.heap.size+1 < w3.heap.size:=HT3.out.free.lt
       have hz5:k1 < w3.heap.size:=HG3.out.lt
       clear hb3 hmay HT2 HG2 H2 hw hlen hk1 hp1
       go_wp2
       go_loopw [52] (fun i wr=>∃ (j q:Nat),j≤8∧i = .int .i64 (j:Int)∧(ln k p y).take j=l.take j∧wr=w3.drewN q) (fun i _=>8 - (intOf i).toNat)
       case atStart=>exact⟨0,0,Nat.zero_le _,rfl,rfl,rfl⟩
       case round=>
        obtain⟨j,q,hj,rfl,hs,rfl⟩:=hrel
        have HS:=hid hs
        clear hs
        by_cases hlt:j < 8
        · have hlt1:j < (ln k p y).length:=by rw[ln_len];exact hlt
          have hlt2:j < l.length:=by rw[HL.out];exact hlt
          obtain⟨b1,o1,rfl,hb1,hcell1⟩:=HW.out.at' j hlt1
          obtain⟨b2,o2,e,hb2,hcell2⟩:=H3.out.at' j hlt2
          injection e with e
          injection e with e1 e2
          subst e1 e2
          have hi0:(0:Int)≤(j:Int):=by omega
          have hi1:(j:Int) < 8:=by omega
          have HE:=hid (show (ln k p y).take (j+1)=l.take (j+1)↔(ln k p y)[j]=l[j] by
           rw[List.take_succ_eq_append_getElem hlt1,List.take_succ_eq_append_getElem hlt2,HS.out,List.append_right_inj]
           simp)
          generalize (ln k p y)[j]=u at *
          generalize l[j]=z at *
          clear hlt1 hlt2
          by_cases huz:u=z
          · subst huz
            have HE1:=hid (HE.out.2 rfl)
            clear HE
            go_wp2
            go_quiet (fail)
            go_wp2
            refine⟨⟨j+1,q+nq,by omega,by go_num,HE1.out,rfl⟩,by simp[intOf];omega⟩
          · have hne:¬ (u:Int)=(z:Int):=by omega
            have HN:=hid (show dec l=none by rw[HD.out,if_neg (fun h=>huz (HE.out.1 (by rw[h.2])))])
            clear HE huz
            go_wp2
            go_quiet (fail)
            clear hi0 hi1 hcell1 hcell2
            have HT4:=hid (HT3.out.drewN (q+nq))
            have hc0:=HT4.out.own.box.c0
            have hc1:=HT4.out.own.box.c1
            have hc2:=HT4.out.own.box.c2
            have hf0:=HT4.out.own.f 0
            have hf1:=HT4.out.own.f 1
            have hf2:=HT4.out.own.f 2
            have hg0:=HT4.out.free.c0
            have hg1:=HT4.out.free.c1
            have hg2:=HT4.out.free.c2
            go_wp2
            rw[HN.out]
            refine bodyPost_ret (v:=rv none) ?_ rfl ⟨rfl,?_⟩
            · simp[results,Tryz.results138,go_sem,rv,gv,hc0,hc1,hc2]
            · exact ((HT4.out.below.setCell (Nat.le_refl _) _).setCell (Nat.le_refl _) _).setCell (Nat.le_refl _) _
        · obtain rfl:j=8:=by omega
          have he:l=ln k p y:=by
           have:=HS.out
           rw[List.take_of_length_le (by rw[ln_len];omega),List.take_of_length_le (by rw[HL.out];omega)] at this
           exact this.symm
          have HN:=hid (show dec l=some (k,p,y) by rw[HD.out,if_pos ⟨HM.out,he⟩])
          clear he
          have HT4:=hid (HT3.out.drewN q)
          have HG4:=hid (HG3.out.drewN q)
          have hc0:=HT4.out.own.box.c0
          have hc1:=HT4.out.own.box.c1
          have hc2:=HT4.out.own.box.c2
          have hf0:=HT4.out.own.f 0
          have hf1:=HT4.out.own.f 1
          have hf2:=HT4.out.own.f 2
          have hg0:=HG4.out.c0
          have hg1:=HG4.out.c1
          have hg2:=HG4.out.c2
          go_wp2
          rw[HN.out]
          refine bodyPost_ret (v:=rv (some (k,p,y))) ?_ rfl ⟨rfl,?_⟩
          · simp[results,Tryz.results138,go_sem,rv,gv,hc0,hc1,hc2,HH.out]
          · exact ((HT4.out.below.setCell (Nat.le_refl _) _).setCell (Nat.le_refl _) _).setCell (Nat.le_refl _) _
   · have HN:=hid (show dec l=none by
      unfold dec
      simp only[HD0.out,HD1.out]
      exact if_neg (fun h=>hxy ⟨h.2.1,(may_lt h.2.2.1).2.2⟩))
     by_cases h32:x < 4294967296
     · have hx32:¬ (4294967295:Int) < (x:Int):=by omega
       have hy28:(268435456:Int) < (y:Int):=by omega
       go_enter Tryz.func138,Tryz.ntmps138
       go_wp2
       rw[HN.out]
       refine bodyPost_ret (v:=rv none) ?_ rfl ⟨rfl,?_⟩
       · simp[results,Tryz.results138,go_sem,rv,gv]
       · exact below_two _ _ _
     · have hx32:(4294967295:Int) < (x:Int):=by omega
       go_enter Tryz.func138,Tryz.ntmps138
       go_wp2
       rw[HN.out]
       refine bodyPost_ret (v:=rv none) ?_ rfl ⟨rfl,?_⟩
       · simp[results,Tryz.results138,go_sem,rv,gv]
       · exact below_two _ _ _
 · have HN:=hid (show dec l=none by
    unfold dec
    exact if_neg (fun h=>hl h.1))
   have hl':¬ (l.length:Int)=8:=by omega
   go_enter Tryz.func138,Tryz.ntmps138
   go_wp2
   rw[HN.out]
   refine bodyPost_ret (v:=rv none) ?_ rfl ⟨rfl,?_⟩
   · simp[results,Tryz.results138,go_sem,rv,gv]
   · exact below_two _ _ _
end
end Ino
end Go.Proofs.YtdafimdfbnphaaaGreatDoor
/- Texts. -/
namespace Go.Proofs.YtdafimdfbnphaaaGreatDoor
open Lib (hid)
open Go.RowKit Go.MapKept
namespace Ino
open Lin
theorem nums_ex:nums 1 3=196609:=by decide
theorem may_ex:may ((1:Nat):Int) (((3:Nat):Int) - 1) ((5:Nat):Int)=true:=by decide
set_option maxHeartbeats 1000000 in
theorem lives_any (w:World):Calls Tryz.prog 111 #[] w fun r w'=>r = .returned (.bool true)∧Below w.heap.size w w':=by
 have he:Calls Tryz.prog 166 #[.agg #[.int .i64 1,.int .i64 2,.int .i64 5]] w fun r w'=>∃ g:Nat,w.heap.size≤g∧r = .returned (.tuple #[.slice (some ⟨g,0,none⟩) 8 8,.int .i64 0])∧w'.rowIs g 134 8 (rowOf (full 1 3 5))∧Below w.heap.size w w':=encode_full w 1 3 5 2 (by decide) (by decide) may_ex
 have HE:=hid he
 have H2:=hid Crc.lives_any
 have H3:=hid Pack.lives_any
 clear he
 go_enter Tryz.func111,Tryz.ntmps111
 go_wp2_with fail
 refine HE.out.mono ?_
 rintro e w0 ⟨g,_,rfl,hrow,hb⟩
 have HR1:=hid hrow
 have HB1:=hid hb
 clear hrow hb HE
 go_wp2_with fail
 refine (H2.out _).mono ?_
 rintro e w2 ⟨rfl,hb⟩
 have HR2:=hid (row_keep HR1.out hb)
 have HB2:=hid (HB1.out.trans (hb.mono HB1.out.size))
 clear hb HR1 HB1
 go_wp2_with fail
 refine (H3.out _).mono ?_
 rintro e w3 ⟨rfl,hb⟩
 have HR3:=hid (row_keep HR2.out hb)
 have HB3:=hid (HB2.out.trans (hb.mono HB2.out.size))
 clear hb HR2 HB2
 have hc1:w3.cell? ⟨g,0,none⟩=some (.int .u64 196609):=by
  rw[HR3.out.cell (i:=0) (by omega)]
  show some (Value.int .u64 ((nums 1 3:Nat):Int))=_
  rw[nums_ex]
  rfl
 go_wp2
 go_ret
 exact⟨rfl,HB3.out⟩
end Ino
end Go.Proofs.YtdafimdfbnphaaaGreatDoor
/- Texts. -/
/- Texts. -/
/- Texts. -/
namespace Go.Proofs.YtdafimdfbnphaaaGreatDoor
open Lib (hid)
open Go.RowKit Go.MapKept
namespace Slo
open Lin
theorem may_ex:may ((1:Nat):Int) ((2:Nat):Int) (nx 3)=true:=by decide
theorem and_ex:bits .and .u64 ((wd 1 2 3:Nat):Int) 281474976710655=12885032961:=by decide +kernel
set_option maxHeartbeats 1000000 in
theorem lives_any (w:World):Calls Tryz.prog 112 #[] w fun r w'=>r = .returned (.bool true)∧Below w.heap.size w w':=by
 have he:Calls Tryz.prog 167 #[.agg #[.int .i64 1,.int .i64 2,.int .i64 3]] w fun r w'=>r = .returned (.tuple #[.int .u64 (wd 1 2 3:Nat),.int .i64 0])∧Below w.heap.size w w':=encode_yes w 1 2 3 3 (by decide) may_ex
 have HE:=hid he
 have H2:=hid Crc.lives_any
 have H3:=hid Pack.lives_any
 have hx:=and_ex
 generalize wd 1 2 3=x at *
 clear he
 go_enter Tryz.func112,Tryz.ntmps112
 go_wp2_with fail
 refine HE.out.mono ?_
 rintro e w0 ⟨rfl,hb⟩
 have HB1:=hid hb
 clear hb HE
 go_wp2_with fail
 refine (H2.out _).mono ?_
 rintro e w2 ⟨rfl,hb⟩
 have HB2:=hid (HB1.out.trans (hb.mono HB1.out.size))
 clear hb HB1
 go_wp2_with fail
 refine (H3.out _).mono ?_
 rintro e w3 ⟨rfl,hb⟩
 have HB3:=hid (HB2.out.trans (hb.mono HB2.out.size))
 clear hb HB2
 go_wp2
 go_ret
 exact⟨rfl,HB3.out⟩
end Slo
end Go.Proofs.YtdafimdfbnphaaaGreatDoor
/- Texts. -/
namespace Go.Proofs.YtdafimdfbnphaaaGreatDoor
open Go.RowKit Go.MapKept
namespace Lin
structure Box4 (w:World) (b:Nat) (n m s r:Int):Prop where
 lt:b < w.heap.size
 c0:w.cell? ⟨b,0,none⟩=some (.int .i64 n)
 c1:w.cell? ⟨b,1,none⟩=some (.int .i64 m)
 c2:w.cell? ⟨b,2,none⟩=some (.int .i64 s)
 c3:w.cell? ⟨b,3,none⟩=some (.int .i64 r)
theorem Box4.keep {w w':World} {b:Nat} {n m s r:Int} (h:Box4 w b n m s r) (hb:Below w.heap.size w w'):Box4 w' b n m s r:=
 ⟨Nat.lt_of_lt_of_le h.lt hb.size,(hb.cell (p:=⟨b,0,none⟩) h.lt).trans h.c0,(hb.cell (p:=⟨b,1,none⟩) h.lt).trans h.c1,(hb.cell (p:=⟨b,2,none⟩) h.lt).trans h.c2,(hb.cell (p:=⟨b,3,none⟩) h.lt).trans h.c3⟩
theorem Box4.drew {w:World} {b:Nat} {n m s r:Int} (h:Box4 w b n m s r):Box4 w.drew b n m s r:=⟨h.lt,h.c0,h.c1,h.c2,h.c3⟩
theorem boxed4 (w:World) (n m s r:Int) (t:TypeId):Box4 (w.alloc (.cells #[.int .i64 n,.int .i64 m,.int .i64 s,.int .i64 r] t)) w.heap.size n m s r:=
 ⟨by simp,World.cell?_alloc_mark w _ t _ 0,World.cell?_alloc_mark w _ t _ 1,World.cell?_alloc_mark w _ t _ 2,World.cell?_alloc_mark w _ t _ 3⟩
structure En4 (w0:World) (N b g:Nat) (n m s r:Int) (l:List Nat) (w:World):Prop where
 box:Box4 w b n m s r
 row:w.rowIs g 134 8 (rowOf l)
 bg:b≠g
 below:Below N w0 w
 nN:N≤g
theorem En4.keep {w0 w w':World} {N b g:Nat} {n m s r:Int} {l:List Nat} (h:En4 w0 N b g n m s r l w) (hb:Below w.heap.size w w') (hN:N≤w.heap.size):En4 w0 N b g n m s r l w':=
 ⟨h.box.keep hb,h.row.of_block (hb.block _ h.row.lt),h.bg,h.below.trans (hb.mono hN),h.nN⟩
theorem En4.drew {w0 w:World} {N b g:Nat} {n m s r:Int} {l:List Nat} (h:En4 w0 N b g n m s r l w):En4 w0 N b g n m s r l w.drew:=
 ⟨h.box.drew,h.row.drew,h.bg,h.below.drew,h.nN⟩
theorem En4.set {w0 w:World} {N b g:Nat} {n m s r:Int} {l l':List Nat} (h:En4 w0 N b g n m s r l w) (i x:Nat) (e:∀ j,j < 8→(if j=i then x else l[j]?.getD 0)=l'[j]?.getD 0):En4 w0 N b g n m s r l' (w.setCell ⟨g,i,none⟩ (.int .u64 (x:Int))):=
 ⟨⟨by simpa using h.box.lt,(cell_set_other h.bg _).trans h.box.c0,(cell_set_other h.bg _).trans h.box.c1,(cell_set_other h.bg _).trans h.box.c2,(cell_set_other h.bg _).trans h.box.c3⟩,
  (h.row.set i (.int .u64 (x:Int))).congr (fun j hj=>by
   have:=e j hj
   unfold rowOf
   rw[← this]
   split<;>rfl),h.bg,h.below.setCell h.nN _,h.nN⟩
theorem fds_four (w:World) {n m s r:Nat} (hn:n < 65536) (hm:m < 65536) (hs:s < 65536) (hr:r < 65536):Pack.Fds (w.alloc (.cells #[.int .i64 16,.int .u64 (n:Int),.int .i64 16,.int .u64 (m:Int),.int .i64 16,.int .u64 (s:Int),.int .i64 16,.int .u64 (r:Int)] 276)) (some ⟨w.heap.size,0,none⟩) [⟨16,n⟩,⟨16,m⟩,⟨16,s⟩,⟨16,r⟩]:=
 ⟨fun f hf=>by
   simp only[List.mem_cons,List.not_mem_nil,or_false] at hf
   rcases hf with rfl | rfl | rfl | rfl<;>exact⟨by simp only;omega,by simp only;omega,by simp only;omega⟩,by simp,fun j hj=>by
   have:j < 4:=hj
   match j,this with
   | 0,_=>exact⟨w.heap.size,0,rfl,by simp,Pack.alloc_cell _ _ _ _,Pack.alloc_cell _ _ _ _⟩
   | 1,_=>exact⟨w.heap.size,0,rfl,by simp,Pack.alloc_cell _ _ _ _,Pack.alloc_cell _ _ _ _⟩
   | 2,_=>exact⟨w.heap.size,0,rfl,by simp,Pack.alloc_cell _ _ _ _,Pack.alloc_cell _ _ _ _⟩
   | 3,_=>exact⟨w.heap.size,0,rfl,by simp,Pack.alloc_cell _ _ _ _,Pack.alloc_cell _ _ _ _⟩⟩
end Lin
end Go.Proofs.YtdafimdfbnphaaaGreatDoor
/- Texts. -/
namespace Go.Proofs.YtdafimdfbnphaaaGreatDoor
open Go.RowKit Go.MapKept
namespace Rec
open Lin
def May (s f t c:Int):Prop:=(0≤s∧s≤65533)∧(0≤f∧f≤65533)∧(0≤t∧t≤65533)∧(1≤c∧c≤65534)
instance (s f t c:Int):Decidable (May s f t c):=by unfold May;infer_instance
def may (s f t c:Int):Bool:=decide (May s f t c)
def nums (s f t:Nat):Nat:=1+65536 * s+4294967296 * f+281474976710656 * t
def front (s f t c:Nat):List Nat:=[nums s f t,c,0,0,0,0,0]
def sum (s f t c:Nat):Nat:=Crc.S32 (Crc.wflat (front s f t c))
def zero:List Nat:=[0,0,0,0,0,0,0,0]
def ln (s f t c:Nat):List Nat:=[nums s f t,c,0,0,0,0,0,sum s f t c]
theorem front_len (s f t c:Nat):(front s f t c).length=7:=rfl
theorem nums_lt {s f t:Nat} (hs:s < 65536) (hf:f < 65536) (ht:t < 65536):nums s f t < 18446744073709551616:=by unfold nums;omega
theorem sum_lt (s f t c:Nat):sum s f t c < 4294967296:=s32_lt _
theorem front_u64 {s f t c:Nat} (hs:s < 65536) (hf:f < 65536) (ht:t < 65536) (hc:c < 18446744073709551616):∀ x∈front s f t c,x < 18446744073709551616:=by
 intro x hx
 have h1:=nums_lt hs hf ht
 simp only[front,List.mem_cons,List.not_mem_nil,or_false] at hx
 rcases hx with rfl | rfl | rfl | rfl | rfl | rfl | rfl<;>omega
theorem may_lt {s f t c:Nat} (h:may s f t c=true):s≤65533∧f≤65533∧t≤65533∧1≤c∧c≤65534:=by
 have h:=of_decide_eq_true h
 unfold May at h
 omega
theorem pk_nums {s f t:Nat} (hs:s < 65536) (hf:f < 65536) (ht:t < 65536):Pack.pk 0 0 [⟨16,1⟩,⟨16,s⟩,⟨16,f⟩,⟨16,t⟩]=some (nums s f t,64):=by
 unfold nums
 simp[Pack.pk,hs,hf,ht]
 omega
end Rec
end Go.Proofs.YtdafimdfbnphaaaGreatDoor
/- Texts. -/
namespace Go.Proofs.YtdafimdfbnphaaaGreatDoor
open Lib (hid)
open Go.RowKit Go.MapKept
namespace Rec
open Lin
theorem within_any (w:World) (n a b:Int) :
 Calls Tryz.prog 238 #[.int .i64 n,.int .i64 a,.int .i64 b] w fun e w'=>e = .returned (.bool (decide (a≤n∧n≤b)))∧w=w':=by
 go_enter Tryz.func238,Tryz.ntmps238
 go_wp2
 · rename_i h
   go_ret
   exact⟨by simp[h],rfl⟩
 · rename_i h
   go_ret
   refine⟨?_,rfl⟩
   have:¬ a≤n:=by omega
   simp[this]
theorem block_any (w:World) (n:Int) :
 Calls Tryz.prog 237 #[.int .i64 n] w fun e w'=>e = .returned (.bool (decide (0≤n∧n≤65533)))∧w=w':=by
 have HW:=hid (fun w=>within_any w n 0 65533)
 generalize decide (0≤n∧n≤65533)=b at *
 go_enter Tryz.func237,Tryz.ntmps237
 go_wp2_with fail
 refine (HW.out _).mono ?_
 rintro e w' ⟨rfl,rfl⟩
 go_wp2
 go_ret
 exact⟨rfl,rfl⟩
set_option maxHeartbeats 1000000 in
theorem may_any (w:World) (s f t c:Int) :
 Calls Tryz.prog 215 #[.agg #[.int .i64 s,.int .i64 f,.int .i64 t,.int .i64 c]] w fun r w'=>r = .returned (.bool (may s f t c))∧Below w.heap.size w w':=by
 have HB:=hid ((Below.refl w.heap.size w).alloc (Nat.le_refl _) (.cells #[.int .i64 s,.int .i64 f,.int .i64 t,.int .i64 c] 191))
 have HS:=hid (fun w=>block_any w s)
 have HF:=hid (fun w=>block_any w f)
 have HT:=hid (fun w=>block_any w t)
 have HC:=hid (fun w=>within_any w c 1 65534)
 by_cases h0:0≤s∧s≤65533
 · skip
   by_cases h1:0≤f∧f≤65533
   · skip
     by_cases h2:0≤t∧t≤65533
     · skip
       by_cases h3:1≤c∧c≤65534
       · have HE:=hid (show may s f t c=true by unfold may May;exact decide_eq_true ⟨h0,h1,h2,h3⟩)
         have E0:=hid (decide_eq_true h0)
         have E1:=hid (decide_eq_true h1)
         have E2:=hid (decide_eq_true h2)
         have E3:=hid (decide_eq_true h3)
         clear h0 h1 h2 h3
         go_enter Tryz.func215,Tryz.ntmps215
         go_wp2_with fail
         refine (HS.out _).mono ?_
         rintro e w' ⟨rfl,rfl⟩
         rw[E0.out]
         go_wp2_with fail
         refine (HF.out _).mono ?_
         rintro e w' ⟨rfl,rfl⟩
         rw[E1.out]
         go_wp2_with fail
         refine (HT.out _).mono ?_
         rintro e w' ⟨rfl,rfl⟩
         rw[E2.out]
         go_wp2_with fail
         refine (HC.out _).mono ?_
         rintro e w' ⟨rfl,rfl⟩
         rw[E3.out]
         go_wp2
         go_ret
         exact⟨by rw[HE.out];rfl,HB.out⟩
       · have HE:=hid (show may s f t c=false by unfold may May;exact decide_eq_false (fun h=>h3 h.2.2.2))
         have E0:=hid (decide_eq_true h0)
         have E1:=hid (decide_eq_true h1)
         have E2:=hid (decide_eq_true h2)
         have E3:=hid (decide_eq_false h3)
         clear h0 h1 h2 h3
         go_enter Tryz.func215,Tryz.ntmps215
         go_wp2_with fail
         refine (HS.out _).mono ?_
         rintro e w' ⟨rfl,rfl⟩
         rw[E0.out]
         go_wp2_with fail
         refine (HF.out _).mono ?_
         rintro e w' ⟨rfl,rfl⟩
         rw[E1.out]
         go_wp2_with fail
         refine (HT.out _).mono ?_
         rintro e w' ⟨rfl,rfl⟩
         rw[E2.out]
         go_wp2_with fail
         refine (HC.out _).mono ?_
         rintro e w' ⟨rfl,rfl⟩
         rw[E3.out]
         go_wp2
         go_ret
         exact⟨by rw[HE.out];rfl,HB.out⟩
     · have HE:=hid (show may s f t c=false by unfold may May;exact decide_eq_false (fun h=>h2 h.2.2.1))
       have E0:=hid (decide_eq_true h0)
       have E1:=hid (decide_eq_true h1)
       have E2:=hid (decide_eq_false h2)
       clear h0 h1 h2
       go_enter Tryz.func215,Tryz.ntmps215
       go_wp2_with fail
       refine (HS.out _).mono ?_
       rintro e w' ⟨rfl,rfl⟩
       rw[E0.out]
       go_wp2_with fail
       refine (HF.out _).mono ?_
       rintro e w' ⟨rfl,rfl⟩
       rw[E1.out]
       go_wp2_with fail
       refine (HT.out _).mono ?_
       rintro e w' ⟨rfl,rfl⟩
       rw[E2.out]
       go_wp2
       go_ret
       exact⟨by rw[HE.out];rfl,HB.out⟩
   · have HE:=hid (show may s f t c=false by unfold may May;exact decide_eq_false (fun h=>h1 h.2.1))
     have E0:=hid (decide_eq_true h0)
     have E1:=hid (decide_eq_false h1)
     clear h0 h1
     go_enter Tryz.func215,Tryz.ntmps215
     go_wp2_with fail
     refine (HS.out _).mono ?_
     rintro e w' ⟨rfl,rfl⟩
     rw[E0.out]
     go_wp2_with fail
     refine (HF.out _).mono ?_
     rintro e w' ⟨rfl,rfl⟩
     rw[E1.out]
     go_wp2
     go_ret
     exact⟨by rw[HE.out];rfl,HB.out⟩
 · have HE:=hid (show may s f t c=false by unfold may May;exact decide_eq_false (fun h=>h0 h.1))
   have E0:=hid (decide_eq_false h0)
   clear h0
   go_enter Tryz.func215,Tryz.ntmps215
   go_wp2_with fail
   refine (HS.out _).mono ?_
   rintro e w' ⟨rfl,rfl⟩
   rw[E0.out]
   go_wp2
   go_ret
   exact⟨by rw[HE.out];rfl,HB.out⟩
section
variable {w : World}
end
end Rec
end Go.Proofs.YtdafimdfbnphaaaGreatDoor
/- Texts. -/
namespace Go.Proofs.YtdafimdfbnphaaaGreatDoor
open Lib (hid)
open Go.RowKit Go.MapKept
namespace Rec
open Lin
theorem field_any (w:World) (n:Nat) (h:n < 65536) :
 Calls Tryz.prog 216 #[.int .i64 (n:Int)] w fun r w'=>r = .returned (.agg #[.int .i64 16,.int .u64 (n:Int)])∧Below w.heap.size w w':=by
 go_enter Tryz.func216,Tryz.ntmps216
 go_wp2
 refine bodyPost_ret (v:=.agg #[.int .i64 16,.int .u64 (n:Int)]) ?_ rfl ⟨rfl,?_⟩
 · simp[results,Tryz.results216,go_sem]
 · first
   | exact (Below.refl _ _).alloc (Nat.le_refl _) _
   | exact (((Below.refl _ _).alloc (Nat.le_refl _) _).setCell (by simp) _).setCell (by simp) _
theorem field_one (w:World):Calls Tryz.prog 216 #[.int .i64 1] w fun r w'=>r = .returned (.agg #[.int .i64 16,.int .u64 1])∧Below w.heap.size w w':=field_any w 1 (by decide)
theorem nums_any (w:World) {s f t:Nat} (hs:s < 65536) (hf:f < 65536) (ht:t < 65536):Calls Tryz.prog 199 #[.slice (some ⟨w.heap.size,0,none⟩) 4 4] (w.alloc (.cells #[.int .i64 16,.int .u64 1,.int .i64 16,.int .u64 (s:Int),.int .i64 16,.int .u64 (f:Int),.int .i64 16,.int .u64 (t:Int)] 276)) fun e w'=>e = .returned (.tuple #[.int .u64 (nums s f t:Nat),.bool true])∧Below w.heap.size w w':=by
 refine (Pack.pack_any _ 4 _ (fds_four w (n:=1) (by decide) hs hf ht)).mono ?_
 rintro e w' ⟨rfl,hb⟩
 rw[pk_nums hs hf ht]
 have hb0:=(Below.refl w.heap.size w).alloc (Nat.le_refl _) (.cells #[.int .i64 16,.int .u64 ((1:Nat):Int),.int .i64 16,.int .u64 (s:Int),.int .i64 16,.int .u64 (f:Int),.int .i64 16,.int .u64 (t:Int)] 276)
 exact⟨rfl,hb0.trans (hb.mono hb0.size)⟩
theorem set_nums (x:Nat) (j:Nat) (_h:j < 8):(if j=0 then x else ([]:List Nat)[j]?.getD 0)=[x][j]?.getD 0:=by
 match j with
 | 0=>rfl
 | j+1=>simp
theorem set_count (x y:Nat) (j:Nat) (_h:j < 8):(if j=1 then y else [x][j]?.getD 0)=[x,y][j]?.getD 0:=by
 match j with
 | 0=>rfl
 | 1=>rfl
 | j+2=>simp
theorem set_sum (x y z:Nat) (j:Nat) (h:j < 8):(if j=7 then z else [x,y][j]?.getD 0)=[x,y,0,0,0,0,0,z][j]?.getD 0:=by
 have:j=0∨j=1∨j=2∨j=3∨j=4∨j=5∨j=6∨j=7:=by omega
 rcases this with rfl | rfl | rfl | rfl | rfl | rfl | rfl | rfl<;>rfl
theorem front_crc {w:World} {g s f t c:Nat} (h:w.rowIs g 134 8 (rowOf [nums s f t,c])) (hs:s < 65536) (hf:f < 65536) (ht:t < 65536) (hc:c < 18446744073709551616):Crc.Wds w (some ⟨g,0,none⟩) (front s f t c):=by
 refine row_crc h (by rw[front_len];omega) (front_u64 hs hf ht hc) ?_
 intro j hj
 have:j < 7:=hj
 have:j=0∨j=1∨j=2∨j=3∨j=4∨j=5∨j=6:=by omega
 rcases this with rfl | rfl | rfl | rfl | rfl | rfl | rfl<;>rfl
set_option maxHeartbeats 2000000 in
set_option maxRecDepth 100000 in
theorem encode_yes (w:World) (s f t c:Nat) (hm:may s f t c=true) :
 Calls Tryz.prog 168 #[.agg #[.int .i64 (s:Int),.int .i64 (f:Int),.int .i64 (t:Int),.int .i64 (c:Int)]] w fun r w'=>∃ g:Nat,w.heap.size≤g∧r = .returned (.tuple #[.slice (some ⟨g,0,none⟩) 8 8,.int .i64 0])∧w'.rowIs g 134 8 (rowOf (ln s f t c))∧Below w.heap.size w w':=by
 obtain⟨h1,h2,h3,h4,h5⟩:=may_lt hm
 have HM:=hid (fun w=>may_any w s f t c)
 have HE:=hid hm
 have HN0:=hid (fun w=>field_one w)
 have HN1:=hid (fun w=>field_any w s (by omega))
 have HN2:=hid (fun w=>field_any w f (by omega))
 have HN3:=hid (fun w=>field_any w t (by omega))
 have HP:=hid (fun w=>nums_any w (s:=s) (f:=f) (t:=t) (by omega) (by omega) (by omega))
 have hs64:s < 65536:=by omega
 have hf64:f < 65536:=by omega
 have ht64:t < 65536:=by omega
 have hc64:c < 18446744073709551616:=by omega
 clear hm
 have HB:=hid ((Below.refl w.heap.size w).alloc (Nat.le_refl _) (.cells #[.int .i64 (s:Int),.int .i64 (f:Int),.int .i64 (t:Int),.int .i64 (c:Int)] 191))
 have HX:=hid (boxed4 w s f t c 191)
 go_enter Tryz.func168,Tryz.ntmps168
 go_wp2_with fail
 refine (HM.out _).mono ?_
 rintro e w1 ⟨rfl,hb⟩
 rw[HE.out]
 have HB1:=hid (HB.out.trans (hb.mono HB.out.size))
 have HX1:=hid (HX.out.keep hb)
 have hsz:w.heap.size < w1.heap.size:=HX1.out.lt
 clear hb HX
 have hmk:=run_make_row' (P:=Tryz.prog) 35 134 _ 8 Tryz.underlying35 Pack.u64_info rfl .i64 .i64 8 (by omega) (by omega) w1
 rw[show ((8:Nat):Int)=8 from rfl] at hmk
 have hb2:=(Below.refl w1.heap.size w1).alloc (Nat.le_refl _) (.cells (madeCells #[.int .u64 0] 8) 134)
 have HE2:=hid (show En4 w w.heap.size w.heap.size w1.heap.size s f t c [] (w1.alloc (.cells (madeCells #[.int .u64 0] 8) 134)) from ⟨HX1.out.keep hb2,row_made w1,by omega,HB1.out.trans (hb2.mono HB1.out.size),HB1.out.size⟩)
 clear hb2 HX1 HB1 HB HM HE
 go_wp2
 generalize w1.alloc (.cells (madeCells #[.int .u64 0] 8) 134)=w2 at *
 generalize hg:w1.heap.size=g at *
 clear hg hmk
 have hs2:w.heap.size < w2.heap.size:=HE2.out.box.lt
 have hc0:=HE2.out.box.c0
 have hc1:=HE2.out.box.c1
 have hc2:=HE2.out.box.c2
 go_region_held3 (fun W'=>W'.cell? ⟨w.heap.size,0,none⟩=some (.int .i64 (s:Int))∧W'.cell? ⟨w.heap.size,1,none⟩=some (.int .i64 (f:Int))∧W'.cell? ⟨w.heap.size,2,none⟩=some (.int .i64 (t:Int))) (go_keep)
  (first
  | (go_at_call 216
     with_reducible refine (HN0.out _).mono ?_
     rintro e w3 ⟨rfl,hb⟩
     have HE3:=hid (HE2.out.drew.keep hb (Nat.le_of_lt HE2.out.drew.box.lt))
     have ha0:=HE3.out.box.c0
     have ha1:=HE3.out.box.c1
     have ha2:=HE3.out.box.c2
     clear hb)
  | (go_at_call 216
     with_reducible refine (HN1.out _).mono ?_
     rintro e w4 ⟨rfl,hb⟩
     have HE4:=hid (HE3.out.keep hb (Nat.le_of_lt HE3.out.box.lt))
     have hk0:=HE4.out.box.c0
     have hk1:=HE4.out.box.c1
     have hk2:=HE4.out.box.c2
     clear hb)
  | (go_at_call 216
     with_reducible refine (HN2.out _).mono ?_
     rintro e w5 ⟨rfl,hb⟩
     have HE5:=hid (HE4.out.keep hb (Nat.le_of_lt HE4.out.box.lt))
     have hl0:=HE5.out.box.c0
     have hl1:=HE5.out.box.c1
     have hl2:=HE5.out.box.c2
     clear hb)
  | (go_at_call 216
     with_reducible refine (HN3.out _).mono ?_
     rintro e w6 ⟨rfl,hb⟩
     have HE6:=hid (HE5.out.keep hb (Nat.le_of_lt HE5.out.box.lt))
     have hm0:=HE6.out.box.c0
     have hm1:=HE6.out.box.c1
     have hm2:=HE6.out.box.c2
     clear hb)
  | (go_at_call 199
     with_reducible refine (HP.out _).mono ?_
     rintro e w8 ⟨rfl,hb⟩
     have HE8:=hid (HE6.out.keep hb (Nat.le_of_lt HE6.out.box.lt))
     have hn0:=HE8.out.box.c0
     have hn1:=HE8.out.box.c1
     have hn2:=HE8.out.box.c2
     have hn3:=HE8.out.row.cell (i:=0) (by omega)
     have hn4:=HE8.out.row.frozen 0
     have HE9:=hid (HE8.out.set 0 (nums s f t) (set_nums _))
     have hq0:=HE9.out.box.c0
     have hq1:=HE9.out.box.c1
     have hq2:=HE9.out.box.c2
     clear hb))
 clear ha0 ha1 ha2 hk0 hk1 hk2 hl0 hl1 hl2 hm0 hm1 hm2 hn0 hn1 hn2 hn3 hn4 hq0 hq1 hq2 hc0 hc1 hc2 HE3 HE4 HE5 HE6 HE8 HE2 HN0 HN1 HN2 HN3 HP hs2
 generalize w8.setCell ⟨g,0,none⟩ (.int .u64 (nums s f t:Int))=w9 at *
 have hs9:w.heap.size < w9.heap.size:=HE9.out.box.lt
 have hc3:=HE9.out.box.c3
 have hrc:=HE9.out.row.cell (i:=1) (by omega)
 have hrf:=HE9.out.row.frozen 1
 have HE10:=hid (HE9.out.set 1 c (set_count _ _))
 have HC:=hid (Crc.words32_any (some ⟨g,0,none⟩) 8 (front s f t c) (front_crc HE10.out.row hs64 hf64 ht64 hc64))
 have hsl:=sum_lt s f t c
 have hrc7:=HE10.out.row.cell (i:=7) (by omega)
 have hrf7:=HE10.out.row.frozen 7
 go_wp2_with fail
 refine HC.out.mono ?_
 rintro e w' ⟨rfl,rfl⟩
 rw[show Crc.S32 (Crc.wflat (front s f t c))=sum s f t c from rfl]
 clear HC hc3 hrc hrf
 generalize w9.setCell ⟨g,1,none⟩ (.int .u64 (c:Int))=w10 at *
 go_wp2
 go_ret2
 have h11:=HE10.out.set 7 (sum s f t c) (set_sum _ _ _)
 exact⟨g,h11.nN,rfl,h11.row,h11.below⟩
end Rec
end Go.Proofs.YtdafimdfbnphaaaGreatDoor
/- Texts. -/
/- Texts. -/
/- Texts. -/
/- Texts. -/
namespace Go.Proofs.YtdafimdfbnphaaaGreatDoor
open Lib (hid)
open Go.RowKit Go.MapKept
namespace Rec
open Lin
theorem nums_ex:nums 2 3 4=1125912791875585:=by decide
theorem may_ex:may ((2:Nat):Int) ((3:Nat):Int) ((4:Nat):Int) ((5:Nat):Int)=true:=by decide
set_option maxHeartbeats 1000000 in
theorem lives_any (w:World):Calls Tryz.prog 113 #[] w fun r w'=>r = .returned (.bool true)∧Below w.heap.size w w':=by
 have he:Calls Tryz.prog 168 #[.agg #[.int .i64 2,.int .i64 3,.int .i64 4,.int .i64 5]] w fun r w'=>∃ g:Nat,w.heap.size≤g∧r = .returned (.tuple #[.slice (some ⟨g,0,none⟩) 8 8,.int .i64 0])∧w'.rowIs g 134 8 (rowOf (ln 2 3 4 5))∧Below w.heap.size w w':=encode_yes w 2 3 4 5 may_ex
 have HE:=hid he
 have H2:=hid Crc.lives_any
 have H3:=hid Pack.lives_any
 clear he
 go_enter Tryz.func113,Tryz.ntmps113
 go_wp2_with fail
 refine HE.out.mono ?_
 rintro e w0 ⟨g,_,rfl,hrow,hb⟩
 have HR1:=hid hrow
 have HB1:=hid hb
 clear hrow hb HE
 go_wp2_with fail
 refine (H2.out _).mono ?_
 rintro e w2 ⟨rfl,hb⟩
 have HR2:=hid (row_keep HR1.out hb)
 have HB2:=hid (HB1.out.trans (hb.mono HB1.out.size))
 clear hb HR1 HB1
 go_wp2_with fail
 refine (H3.out _).mono ?_
 rintro e w3 ⟨rfl,hb⟩
 have HR3:=hid (row_keep HR2.out hb)
 have HB3:=hid (HB2.out.trans (hb.mono HB2.out.size))
 clear hb HR2 HB2
 have hc1:w3.cell? ⟨g,0,none⟩=some (.int .u64 1125912791875585):=by
  rw[HR3.out.cell (i:=0) (by omega)]
  show some (Value.int .u64 ((nums 2 3 4:Nat):Int))=_
  rw[nums_ex]
  rfl
 go_wp2
 go_ret
 exact⟨rfl,HB3.out⟩
end Rec
end Go.Proofs.YtdafimdfbnphaaaGreatDoor
/- Texts. -/
namespace Go.Proofs.YtdafimdfbnphaaaGreatDoor
open Lib (hid)
open Go.RowKit Go.MapKept
namespace Vol
theorem may_ex:Slo.may ((0:Nat):Int) ((1:Nat):Int) (Slo.nx 65535)=true:=by decide
set_option maxHeartbeats 4000000 in
set_option maxRecDepth 100000 in
theorem lives_any (w:World) (hT:Bm.Tab w):Calls Tryz.prog 55 #[] w fun r w'=>r = .returned (.bool true)∧Below w.heap.size w w':=by
 have HT:=hid hT
 obtain⟨sl,bm,bk,E,hpl⟩:=pl_any 3 3 0
 have HD:=hid (rdev_any w 3 3 0 (by omega) (by omega) (by omega) none 0 (ws:=[]) (Pack.wds_nil w none) hpl)
 have HL5:=hid (fun w=>Sup.lives_any w)
 have HL6:=hid (fun w=>Ino.lives_any w)
 have HL7:=hid (fun w=>Slo.lives_any w)
 have HL9:=hid (fun w=>Rec.lives_any w)
 have HP:=hid hpl
 clear hT hpl
 go_enter Tryz.func55,Tryz.ntmps55
 go_wp2_with fail
 refine HD.out.mono ?_
 rintro r w1 ⟨a,g,gc,B,rfl,h1,h2,h3,h4,hup,hwd,hb⟩
 have HU:=hid hup
 have HB:=hid hb
 have HN:=hid (show w.heap.size≤B∧B≤w1.heap.size from ⟨h1,h3⟩)
 clear h1 h2 h3 h4 hup hwd hb HD
 have hbv:=(Below.refl w1.heap.size w1).alloc (Nat.le_refl _) (.cells (dv (gn 3) (gn 3) (gs 0) sl bm bk E (.slice (some ⟨g,0,none⟩) E gc)) 37)
 have HU2:=hid (HU.out.keep hbv)
 have HB2:=hid (HB.out.trans (hbv.mono HB.out.size))
 clear hbv HU HB
 unfold dv at HU2 HB2 ⊢
 go_wp2_with fail
 generalize w1.alloc (.cells #[.int .i64 (gn 3:Nat),.int .i64 (gn 3:Nat),.int .i64 (gs 0:Nat),.int .i64 16,.int .i64 (sl:Int),.int .i64 (bm:Int),.int .i64 (bk:Int),.int .i64 (E:Int),.slice (some ⟨g,0,none⟩) E gc] 37)=w2 at *
 refine (HL5.out _).mono ?_
 rintro r w3 ⟨rfl,hb⟩
 have HU3:=hid (HU2.out.keep hb)
 have HB3:=hid (HB2.out.trans (hb.mono HB2.out.size))
 clear hb HU2 HB2 HL5
 go_wp2_with fail
 refine (HL6.out _).mono ?_
 rintro r w4 ⟨rfl,hb⟩
 have HU4:=hid (HU3.out.keep hb)
 have HB4:=hid (HB3.out.trans (hb.mono HB3.out.size))
 clear hb HU3 HB3 HL6
 go_wp2_with fail
 refine (HL7.out _).mono ?_
 rintro r w5 ⟨rfl,hb⟩
 have HU5:=hid (HU4.out.keep hb)
 have HB5:=hid (HB4.out.trans (hb.mono HB4.out.size))
 clear hb HU4 HB4 HL7
 go_wp2_with fail
 refine (HL9.out _).mono ?_
 rintro r w6 ⟨rfl,hb⟩
 have HU6:=hid (HU5.out.keep hb)
 have HB6:=hid (HB5.out.trans (hb.mono HB5.out.size))
 clear hb HU5 HB5 HL9
 have HL10:=hid (Bm.lives_any w6 (HT.out.below HB6.out HT.out.lt))
 go_wp2_with fail
 refine HL10.out.mono ?_
 rintro r w7 ⟨rfl,hb⟩
 have HU7:=hid (HU6.out.keep hb)
 have HB7:=hid (HB6.out.trans (hb.mono HB6.out.size))
 clear hb HU6 HB6 HL10
 have HOP:=hid (open_any HU7.out HP.out.may (by rw[rawW_len HP.out];exact HP.out.e4.symm) (rawW_read HP.out))
 go_wp2_with fail
 refine HOP.out.mono ?_
 rintro r w8 ⟨vb,rfl,hvb,hvo,hb⟩
 have HV8:=hid (hvo.sub (Q':=fun k=>k < B∨k=vb) (fun k hk=>by
  rcases hk with hk | rfl
  · exact .inl hk
  · exact .inr ⟨hvb,hvo.lt⟩) (.inr rfl))
 have HB8:=hid (HB7.out.trans (hb.mono HB7.out.size))
 clear hvb hvo hb HOP HU7 HB7
 have HSS:=hid (setSlot_yes HV8.out 0 0 1 65535 (-1) (by decide) (by decide) may_ex (by omega))
 go_wp2_with fail
 refine HSS.out.mono ?_
 rintro r w9 ⟨rfl,hv9,hk⟩
 have HV9:=hid hv9
 have HB9:=hid (HB8.out.trans (hk.below HB8.out.size (fun k hk=>.inl (Nat.lt_of_lt_of_le hk HN.out.1))))
 clear hv9 hk HSS HV8 HB8
 have HST:=hid (up_steps HV9.out.up)
 have HSN:=hid (up_stores HV9.out.up)
 go_wp2_with fail
 refine HST.out.mono ?_
 rintro r w' ⟨rfl,rfl⟩
 go_wp2_with fail
 refine HSN.out.mono ?_
 rintro r w' ⟨rfl,rfl⟩
 go_wp2
 go_ret
 exact⟨rfl,HB9.out⟩
end Vol
end Go.Proofs.YtdafimdfbnphaaaGreatDoor
/- Texts. -/
namespace Go.Proofs.YtdafimdfbnphaaaGreatDoor
open Go.RowKit Go.MapKept
namespace Vol
structure Ov (w w':World) (Q:Nat→Prop) (vb a g gc n m s E:Nat) (W:List Nat):Prop where
 vo:Vo Q w' vb a n m s W 0 0
 qg:Q g
 ql:∀ k,k < w.heap.size→Q k
 wds:Pack.Wds w' (some ⟨g,0,none⟩) W
 cap:E≤gc
 below:Below w.heap.size w w'
 len:W.length=E
theorem Vo.put {Q:Nat→Prop} {w:World} {vb a n m s:Nat} {W:List Nat} {st sn:Nat} (h:Vo Q w vb a n m s W st sn) {p:Addr} (hp:Q p.block) (hne:vb≠p.block) (v:Value):Vo Q (w.setCell p v) vb a n m s W st sn:=
 ⟨(Below.heap_setCell _ _ _ _ hne).trans h.vol,h.q,h.up.put hp v,h.may,h.len⟩
section
variable {sl bm bk E : Nat} {ws : List Nat}
end
end Vol
end Go.Proofs.YtdafimdfbnphaaaGreatDoor
/- Texts. -/
namespace Go.Proofs.YtdafimdfbnphaaaGreatDoor
open Lib (hid)
open Go.RowKit Go.MapKept
namespace Chn
def kent (i:Nat) (k:Int):MapEntry:=⟨.int .i64 k,.bool true,i⟩
def kents (l:List Int):List MapEntry:=l.mapIdx kent
theorem kents_snoc (l:List Int) (k:Int):kents (l++[k])=kents l++[kent l.length k]:=by
 unfold kents
 rw[List.mapIdx_append]
 simp
theorem mem_kents {l:List Int} {e:MapEntry} (h:e∈kents l):∃ i k,k∈l∧e=kent i k:=by
 unfold kents at h
 obtain⟨i,hi,rfl⟩:=List.mem_mapIdx.1 h
 exact⟨i,l[i],List.getElem_mem hi,rfl⟩
theorem find_none (s:Int):∀ (es:List MapEntry) (i:Nat),(∀ e∈es,∃ j t,t≠s∧e=kent j t)→Instr.findNow (.int .i64) (.int .i64 s) es i=some none
 | [],_,_=>rfl
 | e :: r,i,h=>by
   obtain⟨j,t,ht,rfl⟩:=h e (List.mem_cons_self ..)
   have hne:(s == t)=false:=by simp;exact fun e=>ht e.symm
   simp only[Instr.findNow,kent,Instr.sameNow,if_true,hne]
   exact find_none s r (i+1) (fun e he=>h e (List.mem_cons_of_mem _ he))
theorem find_some (s:Int):∀ (es:List MapEntry) (i:Nat),(∀ e∈es,∃ j t,e=kent j t)→(∃ j,kent j s∈es)→∃ k,Instr.findNow (.int .i64) (.int .i64 s) es i=some (some (k,.bool true))
 | [],_,_,h=>by
   obtain⟨j,h⟩:=h
   simp at h
 | e :: r,i,h,hx=>by
   obtain⟨j,t,rfl⟩:=h e (List.mem_cons_self ..)
   by_cases ht:s=t
   · subst ht
     exact⟨i,by simp[Instr.findNow,kent,Instr.sameNow]⟩
   · have hne:(s == t)=false:=by simp;exact ht
     obtain⟨j',hj⟩:=hx
     obtain⟨k,hk⟩:=find_some s r (i+1) (fun e he=>h e (List.mem_cons_of_mem _ he)) ⟨j',by
      rcases List.mem_cons.1 hj with h1 | h1
      · simp[kent] at h1
        exact absurd h1.1 ht
      · exact h1⟩
     refine⟨k,?_⟩
     simp only[Instr.findNow,kent,Instr.sameNow,if_true,hne]
     exact hk
def putMap (w:World) (b:Nat) (es:List MapEntry) (c:Nat):World:={ w with heap:=w.heap.setIfInBounds b (.map es.toArray c) }
theorem putMap_at {w:World} {b c:Nat} {es:List MapEntry} (hb:b < w.heap.size):(putMap w b es c).heap[b]? = some (.map es.toArray c):=by simp[putMap,hb]
theorem putMap_below {w0 w:World} {N b c:Nat} {es:List MapEntry} (h:Below N w0 w) (hb:N≤b):Below N w0 (putMap w b es c):=
 h.trans ⟨rfl,rfl,rfl,by simp[putMap],fun k hk=>by
  have:b≠k:=by omega
  simp[putMap,this]⟩
theorem isKey (k:Int):IsKey (.int .i64) (.int .i64 k):=by simp[IsKey]
section
variable {w : World} {b c : Nat} {l : List Int} {s : Int}
theorem run_look_no (hb:w.heap[b]? = some (.map (kents l).toArray c)) (hs:s∉l):(Instr.lookup 251 (.map (some b)) (.int .i64 s) false).run Tryz.prog w = .ok (.bool false) w:=by
 have hf:=find_none s (kents l) 0 (fun e he=>by
  obtain⟨i,t,ht,rfl⟩:=mem_kents he
  exact⟨i,t,fun h=>hs (h ▸ ht),rfl⟩)
 simp[Instr.lookup,run_underlying Tryz.underlying251,MapKept.run_getObj_map hb,run_checkKey Tryz.underlying3 (isKey s),run_findKey Tryz.underlying3 hf,Result.andThen]
theorem run_look_yes (hb:w.heap[b]? = some (.map (kents l).toArray c)) (hs:s∈l):(Instr.lookup 251 (.map (some b)) (.int .i64 s) false).run Tryz.prog w = .ok (.bool true) w:=by
 obtain⟨k,hf⟩:=find_some s (kents l) 0 (fun e he=>by
  obtain⟨i,t,_,rfl⟩:=mem_kents he
  exact⟨i,t,rfl⟩) (by
  obtain⟨i,hi,rfl⟩:=List.getElem_of_mem hs
  exact⟨i,by
   unfold kents
   exact List.mem_mapIdx.2 ⟨i,hi,rfl⟩⟩)
 simp only[Instr.lookup,Sem.run_bind,run_underlying Tryz.underlying251,Result.andThen,MapKept.run_getObj_map hb,Sem.run_pure,run_checkKey Tryz.underlying3 (isKey s),run_findKey Tryz.underlying3 hf]
 rfl
theorem run_put (hb:w.heap[b]? = some (.map (kents l).toArray l.length)) (hs:s∉l):(Instr.mapUpdate 251 (.map (some b)) (.int .i64 s) (.bool true)).run Tryz.prog w = .ok () (putMap w b (kents (l++[s])) (l.length+1)):=by
 have hf:=find_none s (kents l) 0 (fun e he=>by
  obtain⟨i,t,ht,rfl⟩:=mem_kents he
  exact⟨i,t,fun h=>hs (h ▸ ht),rfl⟩)
 simp only[Instr.mapUpdate,Sem.run_bind,run_underlying Tryz.underlying251,Result.andThen,MapKept.run_getObj_map hb,run_checkKey Tryz.underlying3 (isKey s),run_findKey Tryz.underlying3 hf,run_setObj_map _ hb]
 simp[putMap,kents_snoc,kent]
end
structure Prs (w:World) (A:Option Addr) (l:List (Int × Int)):Prop where
 i64:∀ r∈l,(-9223372036854775808≤r.1∧r.1≤9223372036854775807)∧(-9223372036854775808≤r.2∧r.2≤9223372036854775807)
 len:l.length≤9223372036854775807
 at':∀ j (h:j < l.length),∃ b o,A=some ⟨b,o,none⟩∧b < w.heap.size∧w.cell? ⟨b,o+j * 2,none⟩=some (.int .i64 l[j].1)∧w.cell? ⟨b,o+j * 2+1,none⟩=some (.int .i64 l[j].2)
theorem Prs.keep {w w':World} {A:Option Addr} {l:List (Int × Int)} (h:Prs w A l) (hb:Below w.heap.size w w'):Prs w' A l:=
 ⟨h.i64,h.len,fun j hj=>by
   obtain⟨b,o,e,hlt,hc,hd⟩:=h.at' j hj
   exact⟨b,o,e,Nat.lt_of_lt_of_le hlt hb.size,(hb.cell (p:=⟨b,o+j * 2,none⟩) hlt).trans hc,(hb.cell (p:=⟨b,o+j * 2+1,none⟩) hlt).trans hd⟩⟩
def win (n:Nat) (x c:Int):Bool:=decide (1≤c∧0≤x∧x≤(n:Int) - c)
theorem runOf_any (w:World) (x c q:Int):Calls Tryz.prog 121 #[.agg #[.int .i64 x,.int .i64 c,.int .i64 q]] w fun r w'=>r = .returned (.agg #[.int .i64 x,.int .i64 c])∧Below w.heap.size w w':=by
 go_enter Tryz.func121,Tryz.ntmps121
 go_wp2
 refine bodyPost_ret (v:=.agg #[.int .i64 x,.int .i64 c]) ?_ rfl ⟨rfl,?_⟩
 · simp[results,Tryz.results121,go_sem]
 · first
   | exact ((Below.refl _ _).alloc (Nat.le_refl _) _).alloc (by simp) _
   | exact (Below.refl _ _).alloc (Nat.le_refl _) _
set_option maxHeartbeats 1000000 in
theorem within_any (w:World) (n:Nat) (x c:Int) (hn:n≤1000000) (hc:c≤9223372036854775807):Calls Tryz.prog 120 #[.int .i64 (n:Int),.agg #[.int .i64 x,.int .i64 c]] w fun r w'=>r = .returned (.bool (win n x c))∧Below w.heap.size w w':=by
 have HW:=hid (show win n x c=decide (1≤c∧0≤x∧x≤(n:Int) - c) from rfl)
 generalize win n x c=r at *
 go_enter Tryz.func120,Tryz.ntmps120
 go_wp2_with fail
 all_goals have hr:=HW.out
 all_goals first
  | rw[decide_eq_false (by omega)] at hr
  | rw[show decide (1≤c∧0≤x∧x≤(n:Int) - c)=decide (x≤(n:Int) - c) from decide_eq_decide.2 (by omega)] at hr
 all_goals subst hr
 all_goals go_ret
 all_goals exact⟨rfl,(Below.refl _ _).alloc (Nat.le_refl _) _⟩
def MayW (n:Nat) (ss:List Int) (rs:List (Int × Int)):Prop:=ss.length=rs.length∧(∀ s∈ss,0≤s∧s < (n:Int))∧ss.Nodup∧∀ r∈rs,win n r.1 r.2=true
instance (n:Nat) (ss:List Int) (rs:List (Int × Int)):Decidable (MayW n ss rs):=inferInstanceAs (Decidable (_∧_∧_∧_))
def mayW (n:Nat) (ss:List Int) (rs:List (Int × Int)):Bool:=decide (MayW n ss rs)
structure Good (n:Nat) (ss:List Int) (rs:List (Int × Int)) (m:Nat):Prop where
 slot:∀ s∈ss.take m,0≤s∧s < (n:Int)
 once:(ss.take m).Nodup
 run:∀ r∈rs.take m,win n r.1 r.2=true
theorem Good.zero (n:Nat) (ss:List Int) (rs:List (Int × Int)):Good n ss rs 0:=⟨fun s h=>by simp at h,by simp,fun r h=>by simp at h⟩
theorem Good.next {n:Nat} {ss:List Int} {rs:List (Int × Int)} {m:Nat} (h:Good n ss rs m) (hs:m < ss.length) (hr:m < rs.length) (h0:0≤ss[m]) (h1:ss[m] < (n:Int)) (h2:ss[m]∉ss.take m) (h3:win n rs[m].1 rs[m].2=true):Good n ss rs (m+1):=by
 refine⟨fun s k=>?_,?_,fun r k=>?_⟩
 · rw[List.take_succ_eq_append_getElem hs,List.mem_append] at k
   rcases k with k | k
   · exact h.slot s k
   · obtain rfl:s=ss[m]:=by simpa using k
     exact⟨h0,h1⟩
 · rw[List.take_succ_eq_append_getElem hs,List.nodup_append]
   refine⟨h.once,by simp,fun a ha b hb=>?_⟩
   obtain rfl:b=ss[m]:=by simpa using hb
   exact fun e=>h2 (e ▸ ha)
 · rw[List.take_succ_eq_append_getElem hr,List.mem_append] at k
   rcases k with k | k
   · exact h.run r k
   · obtain rfl:r=rs[m]:=by simpa using k
     exact h3
theorem Good.all {n:Nat} {ss:List Int} {rs:List (Int × Int)} (h:Good n ss rs ss.length) (hl:ss.length=rs.length):mayW n ss rs=true:=by
 obtain⟨h1,h2,h3⟩:=h
 rw[List.take_length] at h1 h2
 rw[hl,List.take_length] at h3
 exact decide_eq_true ⟨hl,h1,h2,h3⟩
theorem bad {n:Nat} {ss:List Int} {rs:List (Int × Int)} {m:Nat} (hs:m < ss.length) (hr:m < rs.length) (h:ss[m] < 0∨(n:Int)≤ss[m]∨ss[m]∈ss.take m∨win n rs[m].1 rs[m].2=false):mayW n ss rs=false:=by
 refine decide_eq_false (fun ⟨_,h1,h2,h3⟩=>?_)
 rcases h with h | h | h | h
 · have:=h1 _ (List.getElem_mem hs);omega
 · have:=h1 _ (List.getElem_mem hs);omega
 · have e:ss.take (m+1) <+: ss:=List.take_prefix _ _
   have h4:=h2.sublist e.sublist
   rw[List.take_succ_eq_append_getElem hs,List.nodup_append] at h4
   exact h4.2.2 _ h _ (by simp) rfl
 · have:=h3 _ (List.getElem_mem hr)
   rw[h] at this
   cases this
set_option maxHeartbeats 2000000 in
set_option maxRecDepth 100000 in
theorem mayWrite_any (w:World) (n:Nat) (hn:n≤1000000) (A B:Option Addr) (c d:Nat) (ss:List Int) (rs:List (Int × Int)) (hs:Pack.Nts w A ss) (hr:Prs w B rs) :
 Calls Tryz.prog 117 #[.int .i64 (n:Int),.slice A ss.length c,.slice B rs.length d] w fun r w'=>r = .returned (.bool (mayW n ss rs))∧Below w.heap.size w w':=by
 obtain⟨M,hM⟩:∃ M,M=mayW n ss rs:=⟨_,rfl⟩
 rw[← hM]
 have HM:=hid hM
 have HS:=hid hs
 have HR:=hid hr
 have hsl:=hs.len
 have hrl:=hr.len
 have HWI:=hid (fun w x c hc=>within_any w n x c hn hc)
 have hmm:=@run_makeMap Tryz.prog
 clear hM hs hr
 go_enter Tryz.func117,Tryz.ntmps117
 by_cases hlen:ss.length=rs.length
 · go_wp2
   clear hmm
   have HL:=hid hlen
   clear hlen
   go_loopw [18] (fun i wr=>∃ m:Nat,m≤ss.length∧i = .int .i64 (m:Int)∧wr.heap[w.heap.size]? = some (.map (kents (ss.take m)).toArray m)∧Good n ss rs m∧Below w.heap.size w wr) (fun i _=>ss.length - (intOf i).toNat)
   case atStart=>exact⟨0,Nat.zero_le _,rfl,by simpa [kents] using (heap_alloc w (.map #[] 0)).1,Good.zero ..,(Below.refl _ _).alloc (Nat.le_refl _) _⟩
   case round=>
    obtain⟨m,hm,rfl,hmap,hgd,hb⟩:=hrel
    have HMP:=hid hmap
    have HG:=hid hgd
    have HB:=hid hb
    have hwr:w.heap.size < wr.heap.size:=(Array.getElem?_eq_some_iff.1 hmap).1
    clear hmap hgd
    by_cases hlt:m < ss.length
    · have hlr:m < rs.length:=by have:=HL.out;omega
      obtain⟨b,o,rfl,hbb,hc0⟩:=HS.out.at' m hlt
      obtain⟨b2,o2,rfl,hbb2,hd0,hd1⟩:=HR.out.at' m hlr
      have hc0:=(hb.cell (p:=⟨b,o+m,none⟩) hbb).trans hc0
      have hd0:=(hb.cell (p:=⟨b2,o2+m * 2,none⟩) hbb2).trans hd0
      have hd1:=(hb.cell (p:=⟨b2,o2+m * 2+1,none⟩) hbb2).trans hd1
      have hbb:=Nat.lt_of_lt_of_le hbb hb.size
      have hbb2:=Nat.lt_of_lt_of_le hbb2 hb.size
      have HI:=hid (HR.out.i64 rs[m] (List.getElem_mem hlr))
      have HBAD:=hid (fun h=>show mayW n ss rs=false from bad (n:=n) hlt hlr h)
      have HNX:=hid (HG.out.next hlt hlr)
      have HT:=hid (show ss.take (m+1)=ss.take m++[ss[m]] from List.take_succ_eq_append_getElem hlt)
      have HTL:=hid (show (ss.take m).length=m by rw[List.length_take];omega)
      obtain⟨s,hs⟩:∃ s,s=ss[m]:=⟨_,rfl⟩
      obtain⟨x,hx⟩:∃ x,x=rs[m].1:=⟨_,rfl⟩
      obtain⟨y,hy⟩:∃ y,y=rs[m].2:=⟨_,rfl⟩
      rw[← hs] at hc0 HBAD HNX HT
      rw[← hx] at hd0 HI HBAD HNX
      rw[← hy] at hd1 HI HBAD HNX
      clear hs hx hy hb
      rcases Int.lt_or_le s 0 with h0 | h0
      · have HN:=hid (show M=false by rw[HM.out];exact HBAD.out (.inl h0))
        go_wp2
        go_ret
        exact⟨by rw[HN.out];rfl,HB.out⟩
      rcases Int.lt_or_le s (n:Int) with h1 | h1
      · by_cases h2:s∈ss.take m
        · have HN:=hid (show M=false by rw[HM.out];exact HBAD.out (.inr (.inr (.inl h2))))
          have hlk:=run_look_yes HMP.out h2
          clear h2
          go_wp2
          go_ret
          exact⟨by rw[HN.out];rfl,HB.out⟩
        · have hlk:=run_look_no HMP.out h2
          have HNO:=hid h2
          have HC:=hid (HWI.out wr x y HI.out.2.2)
          cases hw:win n x y with
          | false=>
            have HN:=hid (show M=false by rw[HM.out];exact HBAD.out (.inr (.inr (.inr hw))))
            rw[hw] at HC
            clear hw h2
            go_wp2_with fail
            refine HC.out.mono ?_
            rintro e w2 ⟨rfl,hb2⟩
            have HB2:=hid (HB.out.trans (hb2.mono HB.out.size))
            clear hb2 HC
            go_wp2
            go_ret
            exact⟨by rw[HN.out];rfl,HB2.out⟩
          | true=>
            have HGN:=hid (HNX.out h0 h1 h2 hw)
            rw[hw] at HC
            clear hw h2
            go_wp2_with fail
            refine HC.out.mono ?_
            rintro e w2 ⟨rfl,hb2⟩
            have hmp:w2.heap[w.heap.size]? = some (.map (kents (ss.take m)).toArray (ss.take m).length):=by rw[HTL.out];exact (hb2.block _ hwr).trans HMP.out
            have hpt:=run_put hmp HNO.out
            rw[HTL.out,← HT.out] at hpt
            have HB2:=hid (HB.out.trans (hb2.mono HB.out.size))
            have hw2:w.heap.size < w2.heap.size:=Nat.lt_of_lt_of_le hwr hb2.size
            have HAT:=hid (putMap_at (c:=m+1) (es:=kents (ss.take (m+1))) hw2)
            have HPB:=hid (putMap_below (c:=m+1) (es:=kents (ss.take (m+1))) HB2.out (Nat.le_refl w.heap.size))
            clear hb2 HC hmp HNO
            go_wp2
            refine⟨⟨m+1,by omega,by go_num,HAT.out,HGN.out,HPB.out⟩,by simp[intOf];omega⟩
      · have HN:=hid (show M=false by rw[HM.out];exact HBAD.out (.inr (.inl h1)))
        go_wp2
        go_ret
        exact⟨by rw[HN.out];rfl,HB.out⟩
    · obtain rfl:m=ss.length:=by omega
      have HN:=hid (show M=true by rw[HM.out];exact HG.out.all HL.out)
      have hnl:decide ((ss.length:Int) < (rs.length:Int))=false:=decide_eq_false (by have:=HL.out;omega)
      have hnl2:¬ (ss.length:Int) < (rs.length:Int):=by have:=HL.out;omega
      clear hb hlt hm
      go_wp2
      go_ret
      exact⟨by rw[HN.out];rfl,HB.out⟩
 · have HN:=hid (show M=false by rw[HM.out];exact decide_eq_false (fun h=>hlen h.1))
   have hne:((ss.length:Int) != (rs.length:Int))=true:=by simp;omega
   have hne2:¬ (ss.length:Int)=(rs.length:Int):=by omega
   clear hlen
   go_wp2
   go_ret
   exact⟨by rw[HN.out];rfl,Below.refl _ _⟩
end Chn
end Go.Proofs.YtdafimdfbnphaaaGreatDoor
