/- Texts laid together: ClmTake, ClmScan, ChkHas, ClmUsed, BmOf, LinFour, RecMath, RecMay, RecEncode, RecDecode. -/
import Derived.Test.YtlodpaaanfjkeaaGreatDoorKt7
import Derived.Test.YtlodpaaanfjkeaaGreatDoorKt6
import Derived.Test.YtlodpaaanfjkeaaGreatDoorKt5
import Derived.Test.YtlodpaaanfjkeaaGreatDoorKt1
import Derived.Test.YtlodpaaanfjkeaaGreatDoorKa2
import Derived.Test.YtlodpaaanfjkeaaGreatDoorKt4
set_option maxRecDepth 100000
set_option maxHeartbeats 4000000
namespace Go.Proofs.YtlodpaaanfjkeaaGreatDoor
section
open Lib (hid)
open Go.RowKit Go.MapKept
namespace Clm
open Chn (Pt New Prt slots Mays tot blk blk_len rd pat fw RdN read_new)
open Vol (Vo Hb hb_new rdw)
open Pack (Nts)
open Lin (take_yes take_no)
def gi (W:List Nat) (n m s i:Nat):Option Cl:=one (fw W (16+m * 8)) n s (Ino.dec (rdw W (16+8 * i) 8))
theorem fw_may {W:List Nat} {b:Nat}:∀ i x c q,fw W b i=some (x,c,q)→Slo.may (x:Int) (c:Int) (Slo.nx q)=true:=fun _ _ _ _ h=>(Slo.dec_some h).1
theorem gi_ok {W:List Nat} {n m s i:Nat} {c:Cl} (h:gi W n m s i=some c):Ok (fw W (16+m * 8)) n s c:=one_ok h fun _ _ _ hd=>(Ino.dec_some hd).1
theorem prt_nat (s z:Nat) (hs:0 < s):Geo.prt (z:Int) (s:Int)=((need s z:Nat):Int):=by
 have h1:=Nat.div_add_mod z s;have h2:=Nat.mod_lt z hs
 have key:∀ c,c=z / s+(if z % s=0 then 0 else 1)→c=need s z:=fun c hc=>(need_iff hs).2 (by
  have h3:z / s * s+z % s=z:=by rw[Nat.mul_comm];exact h1
  generalize z / s=d at *;generalize z % s=r at *;subst hc;by_cases h0:r=0
  · rw[if_pos h0,Nat.add_zero]
    refine⟨by omega,fun e he=>?_⟩
    have h4:(e+1) * s≤d * s:=Nat.mul_le_mul_right s (by omega);rw[Nat.add_mul] at h4;omega
  · rw[if_neg h0,Nat.add_mul]
    refine⟨by omega,fun e he=>?_⟩
    have h4:e * s≤d * s:=Nat.mul_le_mul_right s (by omega)
    omega)
 have h5:=key _ rfl;rw[← h5];unfold Geo.prt;by_cases h0:z % s=0
 · rw[if_pos h0,if_pos (by omega)]
   omega
 · rw[if_neg h0,if_neg (by omega)]
   omega
theorem hd0 (W:World):Below W.heap.size W W.drew:=⟨rfl,rfl,rfl,Nat.le_refl _,fun _ _=>rfl⟩
def TkTo (W:List Nat) (n m s:Nat) (P:Pc) (L:List Cl) (w:World) (r:Ending) (w':World):Prop:=
 (add L (gi W n m s L.length)=none∧r = .returned (.bool false)∧Below P.lo w w') ∨
 (∃ c N C X,gi W n m s L.length=some c∧(sl L++sls c.l).Nodup∧(bl L++blk c.l).Nodup∧r = .returned (.bool true)∧Cq w' P n m (L++[c]) N C X∧Below P.lo w w')
section
variable {Q : Nat → Prop} {w : World} {vb a n m s : Nat} {W : List Nat} {st sn : Nat} {P : Pc} {L : List Cl} {N C X : Array Value}
theorem take_any (hv:Vo Q w vb a n m s W st sn) (h:Cq w P n m L N C X) (ho:Oks (fw W (16+m * 8)) n s L) (hi:L.length < m) :
 Calls Tryz.prog 29 #[.pointer (some ⟨P.c,0,none⟩),.pointer (some ⟨vb,0,none⟩),.int .i64 (L.length:Int)] w (TkTo W n m s P L w):=by
 have HI:=hid (Vol.inode_yes hv L.length hi);have HV:=hid hv;have H:=hid h;have HO:=hid ho;have HGI:=hid (show gi W n m s L.length=one (fw W (16+m * 8)) n s (Ino.dec (rdw W (16+8 * L.length) 8)) from rfl);have HDM:=hid (fun k p z (hd:Ino.dec (rdw W (16+8 * L.length) 8)=some (k,p,z))=>(Ino.dec_some hd).1);have HNB:=hid (show P.lo≤w.heap.size by have:=h.cr.ord.le;have:=h.cr.lt;omega);clear hv h ho;generalize Ino.dec (rdw W (16+8 * L.length) 8)=dc at *;go_enter Tryz.func29,Tryz.ntmps29
 cases dc with
 | none=>
   have hI:=HI.out;simp only[Ino.gv,Ino.ev] at hI;have HI:=hid hI;clear hI;go_wp2_with fail
   refine HI.out.mono ?_;rintro r w1 ⟨rfl,hb⟩;have HB:=hid (hb.alloc hb.size (.cells #[.int .i64 0,.int .i64 (-1),.int .i64 0] 95));go_wp2
   go_ret;refine .inl ⟨by rw[HGI.out];rfl,rfl,HB.out.mono HNB.out⟩
 | some t=>
   obtain⟨k,p,z⟩:=t
   have hI:=HI.out;simp only[Ino.gv,Ino.ev] at hI;have HI:=hid hI;have hmy:=HDM.out k p z rfl;have hlt:=Ino.may_lt hmy
   obtain⟨hd,hhd⟩:∃ hd:Int,hd=(p:Int) - 1:=⟨_,rfl⟩
   rw[← hhd] at HI;have HHD:=hid hhd;have HLT:=hid hlt;clear hI HDM hmy hlt hhd;go_wp2_with fail
   refine HI.out.mono ?_;rintro r w1 ⟨rfl,hb⟩;have hal:=(Below.refl w1.heap.size w1).alloc (Nat.le_refl _) (.cells #[.int .i64 (k:Int),.int .i64 hd,.int .i64 (z:Int)] 95);have HB2:=hid (hb.trans (hal.mono hb.size));have HX2:=hid (hb_new w1 #[.int .i64 (k:Int),.int .i64 hd,.int .i64 (z:Int)] 95);have hbs:=hb.size;clear hb hal;have x1:=HX2.out.cell 1;have xl:=HX2.out.lt;go_wp2_with fail
   clear x1 xl;generalize w1.alloc (.cells #[.int .i64 (k:Int),.int .i64 hd,.int .i64 (z:Int)] 95)=w2 at *;have HXB:=hid (show P.c < w1.heap.size by have:=H.out.cr.lt;have:=hbs;omega);clear hbs;generalize w1.heap.size=xb at *;have HRD:=hid (read_new (HV.out.keep HB2.out) hd);refine HRD.out.mono ?_;intro e w3 k3;unfold RdN at k3
   cases hr:rd (pat (fw W (16+m * 8)) n) n hd with
   | none=>
     rw[hr] at k3
     obtain⟨rfl,hb⟩:=k3
     have HAD:=hid (show add L (gi W n m s L.length)=none by
      rw[HGI.out,one_none (by rw[← HHD.out];exact hr)]
      rfl)
     have hal:=(Below.refl w3.heap.size w3).alloc (Nat.le_refl _) (.cells #[.slice none 0 0,.slice none 0 0] 130);have HB4:=hid (HB2.out.trans ((hb.trans (hal.mono hb.size)).mono HB2.out.size));clear hb hal hr;go_wp2_with fail
     refine wp_region_held_drew (S:=(fun _=>True)) (by kernel_rfl) ?_ (fun hHeld=>?_)
     · trivial
     refine take_yes 0 25 (.int .i64 2) rfl rfl (by kernel_rfl) (by kernel_rfl) (by kernel_rfl) (fun _ _ _ h=>h) rfl ?_ (by assumption) ?_
     · intro w hSw
       try dsimp only at hSw
       go_simp
     simp only[Act.put,List.setIfInBounds_toArray,List.set_cons_zero,List.set_cons_succ];refine take_yes 1 26 (.bool true) rfl rfl (by kernel_rfl) (by kernel_rfl) (by kernel_rfl) (fun _ _ _ h=>h) rfl ?_ (by assumption) ?_
     · intro w hSw
       try dsimp only at hSw
       go_simp
     simp only[Act.put,List.setIfInBounds_toArray,List.set_cons_zero,List.set_cons_succ];refine take_yes 2 27 (.bool true) rfl rfl (by kernel_rfl) (by kernel_rfl) (by kernel_rfl) (fun _ _ _ h=>h) rfl ?_ (by assumption) ?_
     · intro w hSw
       try dsimp only at hSw
       go_simp
     simp only[Act.put,List.setIfInBounds_toArray,List.set_cons_zero,List.set_cons_succ];refine take_no 3 28 rfl rfl (by kernel_rfl) (by kernel_rfl) (by kernel_rfl) (fun _ _ _ h=>h) rfl (by assumption) ?_;simp only[Act.put,List.setIfInBounds_toArray,List.set_cons_zero,List.set_cons_succ];refine take_no 4 29 rfl rfl (by kernel_rfl) (by kernel_rfl) (by kernel_rfl) (fun _ _ _ h=>h) rfl (by assumption) ?_;simp only[Act.put,List.setIfInBounds_toArray,List.set_cons_zero,List.set_cons_succ];refine take_no 5 30 rfl rfl (by kernel_rfl) (by kernel_rfl) (by kernel_rfl) (fun _ _ _ h=>h) rfl (by assumption) ?_;simp only[Act.put,List.setIfInBounds_toArray,List.set_cons_zero,List.set_cons_succ];refine take_no 6 31 rfl rfl (by kernel_rfl) (by kernel_rfl) (by kernel_rfl) (fun _ _ _ h=>h) rfl (by assumption) ?_;simp only[Act.put,List.setIfInBounds_toArray,List.set_cons_zero,List.set_cons_succ];refine take_no 7 32 rfl rfl (by kernel_rfl) (by kernel_rfl) (by kernel_rfl) (fun _ _ _ h=>h) rfl (by assumption) ?_;simp only[Act.put,List.setIfInBounds_toArray,List.set_cons_zero,List.set_cons_succ];refine take_no 8 33 rfl rfl (by kernel_rfl) (by kernel_rfl) (by kernel_rfl) (fun _ _ _ h=>h) rfl (by assumption) ?_;simp only[Act.put,List.setIfInBounds_toArray,List.set_cons_zero,List.set_cons_succ];refine take_no 9 34 rfl rfl (by kernel_rfl) (by kernel_rfl) (by kernel_rfl) (fun _ _ _ h=>h) rfl (by assumption) ?_;simp only[Act.put,List.setIfInBounds_toArray,List.set_cons_zero,List.set_cons_succ];refine take_no 10 35 rfl rfl (by kernel_rfl) (by kernel_rfl) (by kernel_rfl) (fun _ _ _ h=>h) rfl (by assumption) ?_;simp only[Act.put,List.setIfInBounds_toArray,List.set_cons_zero,List.set_cons_succ];refine take_yes 11 36 (.bool true) rfl rfl (by kernel_rfl) (by kernel_rfl) (by kernel_rfl) (fun _ _ _ h=>h) rfl ?_ (by assumption) ?_
     · intro w hSw
       try dsimp only at hSw
       go_simp
     simp only[Act.put,List.setIfInBounds_toArray,List.set_cons_zero,List.set_cons_succ];refine wpAnyH_done (by kernel_rfl) ?_ _;go_wp2
     go_ret;exact .inl ⟨HAD.out,rfl,(HB4.out.trans ((hd0 _).mono HB4.out.size)).mono HNB.out⟩
   | some l=>
     rw[hr] at k3
     obtain⟨A,ac,D,dc,rfl,hA,hD,hcap,hnw,hb⟩:=k3
     have HHR:=hid hr
     have hok:∀ x∈sls l,x < n:=fun x hx=>by
      obtain⟨p,hp,rfl⟩:=List.mem_map.1 hx
      exact (Chn.path_mem (Chn.rd_iff.1 hr).1 p hp).1
     have hok2:∀ x∈blk l,x < n:=fun x hx=>by
      obtain⟨p,hp,h1,h2⟩:=blk_mem hx
      have:=(Chn.path_mem (Chn.rd_iff.1 hr).1 p hp).2.2
      omega
     have hmy:Mays l:=fun p hp=>(Slo.dec_some (Chn.path_mem (Chn.rd_iff.1 hr).1 p hp).2.1).1
     have hll:l.length≤n:=(Chn.rd_iff.1 hr).2;have HMY:=hid hmy;have HOK:=hid hok;have HOK2:=hid hok2;have HN4:=hid H.out.cr.bm.max;have hll:=show l.length≤65534 by have:=HN4.out;omega
     have hal:=(Below.refl w3.heap.size w3).alloc (Nat.le_refl _) (.cells #[.slice A l.length ac,.slice D l.length dc] 130);have hb4:=hb.trans (hal.mono hb.size);have HB4:=hid (HB2.out.trans (hb4.mono HB2.out.size));have HX4:=hid (HX2.out.keep hb4);have HC4:=hid (hb_new w3 #[.slice A l.length ac,.slice D l.length dc] 130);have HA4:=hid (hA.keep hal);have HD4:=hid (hD.keep hal);have HW:=hid hnw;have HCP:=hid hcap;have hb3s:=hb.size;clear hb hal hb4 hr hA hD hnw hcap hok hok2 hmy HX2 HRD;go_wp2_with fail
     generalize w3.alloc (.cells #[.slice A l.length ac,.slice D l.length dc] 130)=w4 at *;have HLBN:=hid (show P.c < w3.heap.size by have:=H.out.cr.lt;have:=hb3s;have:=HB2.out.size;omega);clear hb3s;generalize w3.heap.size=lb at *;clear w3;have h0:=HX4.out.cell 0;have h1:=HX4.out.cell 1;have h2:=HX4.out.cell 2;have xl:=HX4.out.lt;have g0:=HC4.out.cell 0;have g1:=HC4.out.cell 1;have gl:=HC4.out.lt;have HCT:=hid (Chn.count_any w4.drew A D l.length ac dc l (HD4.out.keep (hd0 w4)) HMY.out hll)
     have hnd:Geo.need (n:Int) (m:Int) (s:Int) (z:Int)=((need s z:Nat):Int):=by
      rw[Geo.need_yes HV.out.may (by omega)];exact prt_nat _ _ (by have:=HV.out.num.2.2;unfold Geo.Sz at this;omega)
     have HND:=hid (fun w'=>hnd ▸ Geo.need_any w' (n:Int) (m:Int) (s:Int) (z:Int) (by have:=HLT.out.2.2;omega));clear hnd
     obtain⟨nd,hnd⟩:∃ nd,nd=need s z:=⟨_,rfl⟩
     obtain⟨tt,htt⟩:∃ tt,tt=tot l:=⟨_,rfl⟩
     rw[← hnd] at HND;rw[← htt] at HCT;have HNN:=hid hnd;have HTT:=hid htt;clear hnd htt;by_cases heq:tt=nd
     · subst heq
       go_wp2_with fail
       go_region_held3 (fun W'=>W'.cell? ⟨lb,0,none⟩=some (.slice A l.length ac)∧W'.cell? ⟨lb,1,none⟩=some (.slice D l.length dc)∧W'.cell? ⟨xb,2,none⟩=some (.int .i64 (z:Int))) (go_keep)
        (first
        | (go_at_call 61
           with_reducible refine HCT.out.mono ?_
           rintro r w5 ⟨rfl,hb⟩;have HB5:=hid (HB4.out.trans (((hd0 w4).trans (hb.mono (hd0 w4).size)).mono HB4.out.size));have HX5:=hid (HX4.out.keep ((hd0 w4).trans (hb.mono (hd0 w4).size)));have HC5:=hid (HC4.out.keep ((hd0 w4).trans (hb.mono (hd0 w4).size)));have HA5:=hid (HA4.out.keep ((hd0 w4).trans (hb.mono (hd0 w4).size)));have HD5:=hid (HD4.out.keep ((hd0 w4).trans (hb.mono (hd0 w4).size)));have HGE:=hid (Vol.geometry_any (HV.out.keep HB5.out));have a2:=HX5.out.cell 2;have b0:=HC5.out.cell 0;have b1:=HC5.out.cell 1;clear hb)
        | (go_at_call 27
           with_reducible refine HGE.out.mono ?_
           rintro r w6 ⟨rfl,hb⟩;have HB6:=hid (HB5.out.trans (hb.mono HB5.out.size));have HX6:=hid (HX5.out.keep hb);have HC6:=hid (HC5.out.keep hb);have HA6:=hid (HA5.out.keep hb);have HD6:=hid (HD5.out.keep hb);have c2:=HX6.out.cell 2;have d0:=HC6.out.cell 0;have d1:=HC6.out.cell 1;clear hb)
        | (go_at_call 62
           with_reducible refine (HND.out _).mono ?_
           rintro r w7 ⟨rfl,hb⟩;have HB7:=hid (HB6.out.trans (hb.mono HB6.out.size));have HX7:=hid (HX6.out.keep hb);have HC7:=hid (HC6.out.keep hb);have HA7:=hid (HA6.out.keep hb);have HD7:=hid (HD6.out.keep hb);have e2:=HX7.out.cell 2;have i0:=HC7.out.cell 0;have i1:=HC7.out.cell 1;clear hb))
       clear h0 h1 h2 xl g0 g1 gl a2 b0 b1 c2 d0 d1 HX5 HC5 HA5 HD5 HX6 HC6 HA6 HD6 HX4 HC4 HA4 HD4 HCT HND HGE;have hq:=(H.out.keep HB7.out).cr;have q0:=hq.claim.cell 0;have q1:=hq.claim.cell 1;have ql:=hq.lt;have hsn:=hq.sn;have hsc:=hq.sc
       obtain⟨u0,n0⟩:∃ v,w7.cell? ⟨P.nb,L.length * 3,none⟩=some v:=⟨_,(hq.nodes.cell (L.length * 3)).trans (Array.getElem?_eq_getElem (by omega))⟩
       obtain⟨u1,n1⟩:∃ v,w7.cell? ⟨P.nb,L.length * 3+1,none⟩=some v:=⟨_,(hq.nodes.cell (L.length * 3+1)).trans (Array.getElem?_eq_getElem (by omega))⟩
       obtain⟨u2,n2⟩:∃ v,w7.cell? ⟨P.nb,L.length * 3+2,none⟩=some v:=⟨_,(hq.nodes.cell (L.length * 3+2)).trans (Array.getElem?_eq_getElem (by omega))⟩
       obtain⟨u3,c0⟩:∃ v,w7.cell? ⟨P.cb,L.length * 2,none⟩=some v:=⟨_,(hq.chains.cell (L.length * 2)).trans (Array.getElem?_eq_getElem (by omega))⟩
       obtain⟨u4,c1⟩:∃ v,w7.cell? ⟨P.cb,L.length * 2+1,none⟩=some v:=⟨_,(hq.chains.cell (L.length * 2+1)).trans (Array.getElem?_eq_getElem (by omega))⟩
       have nf0:=hq.nodes.frozen (L.length * 3);have nf1:=hq.nodes.frozen (L.length * 3+1);have nf2:=hq.nodes.frozen (L.length * 3+2);have cf0:=hq.chains.frozen (L.length * 2);have cf1:=hq.chains.frozen (L.length * 2+1);have nl:=hq.nodes.lt;have chl:=hq.chains.lt;have hm:=hq.max;have x0:=HX7.out.cell 0;have x1:=HX7.out.cell 1;have x2:=HX7.out.cell 2;have xl:=HX7.out.lt;have ll:=HC7.out.lt;have hne1:¬ P.nb=P.cb:=hq.ord.ne.1;have hne2:¬ P.cb=P.nb:=Ne.symm hq.ord.ne.1;have HLB:=hid (show xb≠P.nb∧xb≠P.cb∧lb≠P.nb∧lb≠P.cb by have:=HXB.out;have:=HLBN.out;have:=hq.ord.lt;omega);have hx1:=HLB.out.1;have hx2:=HLB.out.2.1;have hx3:=HLB.out.2.2.1;have hx4:=HLB.out.2.2.2;clear hq hsn hsc;go_wp2_with fail
       go_region
       go_wp2_with fail
       have hor:=And.intro H.out.cr.ord.le H.out.cr.ord.lt;have hcr8:=((((((H.out.keep HB7.out).cr.set_n (L.length * 3) (.int .i64 (k:Int))).set_n (L.length * 3+1) (.int .i64 hd)).set_n (L.length * 3+2) (.int .i64 (z:Int))).set_c (L.length * 2) (.slice A l.length ac)).set_c (L.length * 2+1) (.slice D l.length dc)).keep (hd0 _);have hfr8:=((((((Fr.refl (P.c+1) w7).set (a:=⟨P.nb,L.length * 3,none⟩) (by show P.nb < P.c+1;omega) (.int .i64 (k:Int))).set (a:=⟨P.nb,L.length * 3+1,none⟩) (by show P.nb < P.c+1;omega) (.int .i64 hd)).set (a:=⟨P.nb,L.length * 3+2,none⟩) (by show P.nb < P.c+1;omega) (.int .i64 (z:Int))).set (a:=⟨P.cb,L.length * 2,none⟩) (by show P.cb < P.c+1;omega) (.slice A l.length ac)).set (a:=⟨P.cb,L.length * 2+1,none⟩) (by show P.cb < P.c+1;omega) (.slice D l.length dc)).trans (fr_below (hd0 _));have hbl8:=((((((HB7.out.mono HNB.out).setCell (p:=⟨P.nb,L.length * 3,none⟩) hor.1.1 (.int .i64 (k:Int))).setCell (p:=⟨P.nb,L.length * 3+1,none⟩) hor.1.1 (.int .i64 hd)).setCell (p:=⟨P.nb,L.length * 3+2,none⟩) hor.1.1 (.int .i64 (z:Int))).setCell (p:=⟨P.cb,L.length * 2,none⟩) hor.1.2.1 (.slice A l.length ac)).setCell (p:=⟨P.cb,L.length * 2+1,none⟩) hor.1.2.1 (.slice D l.length dc)).drew;have HR8:=hid hcr8;have HF8:=hid hfr8;have HB8:=hid hbl8;clear hcr8 hfr8 hbl8 q0 q1 ql n0 n1 n2 c0 c1 nf0 nf1 nf2 cf0 cf1 nl chl x0 x1 x2 xl ll i0 i1 e2;generalize ((((((w7.setCell ⟨P.nb,L.length * 3,none⟩ (.int .i64 (k:Int))).setCell ⟨P.nb,L.length * 3+1,none⟩ (.int .i64 hd)).setCell ⟨P.nb,L.length * 3+2,none⟩ (.int .i64 (z:Int))).setCell ⟨P.cb,L.length * 2,none⟩ (.slice A l.length ac)).setCell ⟨P.cb,L.length * 2+1,none⟩ (.slice D l.length dc)).drew)=w8 at *
       have hnA:New (P.c+1) A∧New (P.c+1) D:=by
        have h9:P.c+1≤w2.heap.size:=by have:=H.out.cr.lt;have:=HB2.out.size;omega
        exact⟨fun x e=>Nat.le_trans h9 (HW.out.1 x e),fun x e=>Nat.le_trans h9 (HW.out.2 x e)⟩
       have HNA:=hid hnA;have HA8:=hid (nts_fr HA7.out hnA.1 HF8.out);have HD8:=hid (prt_fr HD7.out hnA.2 HF8.out);refine (give_any HR8.out HO.out.bl HO.out.sl l A D ac dc L.length HA8.out HD8.out hnA.1 HMY.out hll HOK.out HOK2.out).mono ?_;rintro e w9 k9
       have HGY:=hid (show gi W n m s L.length=some ⟨k,p,z,l⟩ by
        rw[HGI.out,one_yes (l:=l) (by rw[← HHD.out];exact HHR.out) (by rw[← HTT.out,← HNN.out])])
       unfold GvTo at k9
       rcases k9 with ⟨h1,rfl,h3⟩ | ⟨⟨h1,h1'⟩,rfl,X',h3,h4,h5,h6⟩
       · have HK:=hid (show add L (gi W n m s L.length)=none by rw[HGY.out];exact add_not h1)
         have HB9:=hid (HB8.out.trans h3);clear h1 h3;go_wp2
         go_ret;exact .inl ⟨HK.out,rfl,HB9.out⟩
       · have HB9:=hid (HB8.out.trans h6)
         have hf9:Fr (P.c+1) w7 w9:=HF8.out.trans h5;have hf10:Fr (P.c+1) w w9:=(fr_below HB7.out).trans hf9
         have HQ:=hid (show Cq w9 P n m (L++[⟨k,p,z,l⟩]) _ _ _ from
          ⟨by rw[bl_snoc,sl_snoc];exact h3,by
            have:=H.out.nod.snoc (c:=⟨k,p,z,l⟩) H.out.cr.sn hi
            simp only at this;rw[← HHD.out] at this;exact this,(H.out.chs.fr hf10).snoc (c:=⟨k,p,z,l⟩) H.out.cr.sc hi (nts_fr HA8.out HNA.out.1 h5) (prt_fr HD8.out HNA.out.2 h5) HCP.out HNA.out,H.out.plc.snoc (c:=⟨k,p,z,l⟩) h4 h1'⟩)
         have H1:=hid h1;have H1':=hid h1';clear h1 h1' h3 h4 h5 h6 hf9 hf10;go_wp2
         go_ret;exact .inr ⟨⟨k,p,z,l⟩,_,_,_,HGY.out,H1.out,H1'.out,rfl,HQ.out,HB9.out⟩
     · have hne:((tt:Int) != (nd:Int))=true:=by
        simp only[bne_iff_ne,ne_eq];omega
       have HAD:=hid (show add L (gi W n m s L.length)=none by
        rw[HGI.out,one_not (l:=l) (by rw[← HHD.out];exact HHR.out) (by rw[← HTT.out,← HNN.out];exact heq)]
        rfl)
       clear heq;go_wp2_with fail
       go_region_held3 (fun W'=>W'.cell? ⟨lb,0,none⟩=some (.slice A l.length ac)∧W'.cell? ⟨lb,1,none⟩=some (.slice D l.length dc)∧W'.cell? ⟨xb,2,none⟩=some (.int .i64 (z:Int))) (go_keep)
        (first
        | (go_at_call 61
           with_reducible refine HCT.out.mono ?_
           rintro r w5 ⟨rfl,hb⟩;have HB5:=hid (HB4.out.trans (((hd0 w4).trans (hb.mono (hd0 w4).size)).mono HB4.out.size));have HX5:=hid (HX4.out.keep ((hd0 w4).trans (hb.mono (hd0 w4).size)));have HC5:=hid (HC4.out.keep ((hd0 w4).trans (hb.mono (hd0 w4).size)));have HA5:=hid (HA4.out.keep ((hd0 w4).trans (hb.mono (hd0 w4).size)));have HD5:=hid (HD4.out.keep ((hd0 w4).trans (hb.mono (hd0 w4).size)));have HGE:=hid (Vol.geometry_any (HV.out.keep HB5.out));have a2:=HX5.out.cell 2;have b0:=HC5.out.cell 0;have b1:=HC5.out.cell 1;clear hb)
        | (go_at_call 27
           with_reducible refine HGE.out.mono ?_
           rintro r w6 ⟨rfl,hb⟩;have HB6:=hid (HB5.out.trans (hb.mono HB5.out.size));have HX6:=hid (HX5.out.keep hb);have HC6:=hid (HC5.out.keep hb);have HA6:=hid (HA5.out.keep hb);have HD6:=hid (HD5.out.keep hb);have c2:=HX6.out.cell 2;have d0:=HC6.out.cell 0;have d1:=HC6.out.cell 1;clear hb)
        | (go_at_call 62
           with_reducible refine (HND.out _).mono ?_
           rintro r w7 ⟨rfl,hb⟩;have HB7:=hid (HB6.out.trans (hb.mono HB6.out.size));have HX7:=hid (HX6.out.keep hb);have HC7:=hid (HC6.out.keep hb);have HA7:=hid (HA6.out.keep hb);have HD7:=hid (HD6.out.keep hb);have e2:=HX7.out.cell 2;have i0:=HC7.out.cell 0;have i1:=HC7.out.cell 1;clear hb))
       go_wp2
       go_ret;exact .inl ⟨HAD.out,rfl,HB7.out.mono HNB.out⟩
end
end Clm
end
section
open Lib (hid)
open Go.RowKit Go.MapKept
namespace Clm
open Chn (Pt New Prt slots Mays tot blk blk_len rd pat fw)
open Vol (Vo Hb hb_new rdw)
open Pack (Nts)
open Lin (take_yes take_no any_states op_step)
def on (b:Bool) (v:Value):Value:=bif b then v else undef
theorem on_true (v:Value):on true v=v:=rfl
theorem on_false (v:Value):on false v=undef:=rfl
def nodes0 (m:Nat):Array Value:=madeCells #[.int .i64 0,.int .i64 0,.int .i64 0] (m * 3)
def chains0 (m:Nat):Array Value:=madeCells #[.slice none 0 0,.slice none 0 0] (m * 2)
def places0 (n:Nat):Array Value:=madeCells #[.int .i64 0,.int .i64 0] (n * 2)
structure Sc (w0:World) (B gb n m s k:Nat) (x y z:Bool) (nb cb pb bq sq:Nat) (W:World):Prop where
 below:Below B w0 W
 hB:B≤W.heap.size
 geo:Hb W gb #[.int .i64 (n:Int),.int .i64 (m:Int),.int .i64 (s:Int)] 72
 f1:x=true→Hb W nb (nodes0 m) 95∧B≤nb
 f2:y=true→Hb W cb (chains0 m) 130∧B≤cb
 f3:z=true→Hb W pb (places0 n) 201∧B≤pb
 f4:1≤k→Bm.Mp W (bq+1) bq ((n+63) / 64) ((n+63) / 64) n (fun _=>false)∧B≤bq
 f5:2≤k→Bm.Mp W (sq+1) sq ((n+63) / 64) ((n+63) / 64) n (fun _=>false)∧bq+1 < sq
 d12:x=true→y=true→nb≠cb
 d13:x=true→z=true→nb≠pb
 d23:y=true→z=true→cb≠pb
 d14:x=true→1≤k→nb≠bq∧nb≠bq+1
 d24:y=true→1≤k→cb≠bq∧cb≠bq+1
 d34:z=true→1≤k→pb≠bq∧pb≠bq+1
 d15:x=true→2≤k→nb≠sq∧nb≠sq+1
 d25:y=true→2≤k→cb≠sq∧cb≠sq+1
 d35:z=true→2≤k→pb≠sq∧pb≠sq+1
section
variable {w0 W W' : World} {B gb n m s k nb cb pb bq sq : Nat} {x y z : Bool}
theorem Sc.keep (h:Sc w0 B gb n m s k x y z nb cb pb bq sq W) (hb:Below W.heap.size W W'):Sc w0 B gb n m s k x y z nb cb pb bq sq W':=
 ⟨h.below.trans (hb.mono h.hB),Nat.le_trans h.hB hb.size,h.geo.keep hb,fun e=>⟨(h.f1 e).1.keep hb,(h.f1 e).2⟩,fun e=>⟨(h.f2 e).1.keep hb,(h.f2 e).2⟩,fun e=>⟨(h.f3 e).1.keep hb,(h.f3 e).2⟩,fun e=>⟨(h.f4 e).1.keep hb,(h.f4 e).2⟩,fun e=>⟨(h.f5 e).1.keep hb,(h.f5 e).2⟩,
   h.d12,h.d13,h.d23,h.d14,h.d24,h.d34,h.d15,h.d25,h.d35⟩
theorem Sc.lt4 (h:Sc w0 B gb n m s k x y z nb cb pb bq sq W) (e:1≤k):bq+1 < W.heap.size:=(h.f4 e).1.lt
theorem Sc.lt5 (h:Sc w0 B gb n m s k x y z nb cb pb bq sq W) (e:2≤k):sq+1 < W.heap.size:=(h.f5 e).1.lt
theorem Sc.new1 (h:Sc w0 B gb n m s k x y z nb cb pb bq sq W):Sc w0 B gb n m s k true y z W.heap.size cb pb bq sq (W.alloc (.cells (nodes0 m) 95)):=by
 have hk:=h.keep ((Below.refl W.heap.size W).alloc (Nat.le_refl _) (.cells (nodes0 m) 95))
 exact⟨hk.below,hk.hB,hk.geo,fun _=>⟨hb_new W _ _,h.hB⟩,hk.f2,hk.f3,hk.f4,hk.f5,fun _ e=>Nat.ne_of_gt (h.f2 e).1.lt,fun _ e=>Nat.ne_of_gt (h.f3 e).1.lt,hk.d23,
  fun _ e=>by have:=h.lt4 e;omega,hk.d24,hk.d34,fun _ e=>by have:=h.lt5 e;omega,hk.d25,hk.d35⟩
theorem Sc.new2 (h:Sc w0 B gb n m s k x y z nb cb pb bq sq W):Sc w0 B gb n m s k x true z nb W.heap.size pb bq sq (W.alloc (.cells (chains0 m) 130)):=by
 have hk:=h.keep ((Below.refl W.heap.size W).alloc (Nat.le_refl _) (.cells (chains0 m) 130))
 exact⟨hk.below,hk.hB,hk.geo,hk.f1,fun _=>⟨hb_new W _ _,h.hB⟩,hk.f3,hk.f4,hk.f5,fun e _=>Nat.ne_of_lt (h.f1 e).1.lt,hk.d13,fun _ e=>Nat.ne_of_gt (h.f3 e).1.lt,
  hk.d14,fun _ e=>by have:=h.lt4 e;omega,hk.d34,hk.d15,fun _ e=>by have:=h.lt5 e;omega,hk.d35⟩
theorem Sc.new3 (h:Sc w0 B gb n m s k x y z nb cb pb bq sq W):Sc w0 B gb n m s k x y true nb cb W.heap.size bq sq (W.alloc (.cells (places0 n) 201)):=by
 have hk:=h.keep ((Below.refl W.heap.size W).alloc (Nat.le_refl _) (.cells (places0 n) 201))
 exact⟨hk.below,hk.hB,hk.geo,hk.f1,hk.f2,fun _=>⟨hb_new W _ _,h.hB⟩,hk.f4,hk.f5,hk.d12,fun e _=>Nat.ne_of_lt (h.f1 e).1.lt,fun e _=>Nat.ne_of_lt (h.f2 e).1.lt,
  hk.d14,hk.d24,fun _ e=>by have:=h.lt4 e;omega,hk.d15,hk.d25,fun _ e=>by have:=h.lt5 e;omega⟩
theorem Sc.new4 (h:Sc w0 B gb n m s 0 x y z nb cb pb bq sq W) (hm:Bm.Mp W' (W.heap.size+1) W.heap.size ((n+63) / 64) ((n+63) / 64) n (fun _=>false)) (hb:Below W.heap.size W W'):Sc w0 B gb n m s 1 x y z nb cb pb W.heap.size sq W':=by
 have hk:=h.keep hb
 exact⟨hk.below,hk.hB,hk.geo,hk.f1,hk.f2,hk.f3,fun _=>⟨hm,h.hB⟩,fun e=>by omega,hk.d12,hk.d13,hk.d23,
  fun e _=>by have:=(h.f1 e).1.lt;omega,fun e _=>by have:=(h.f2 e).1.lt;omega,fun e _=>by have:=(h.f3 e).1.lt;omega,fun _ e=>by omega,fun _ e=>by omega,fun _ e=>by omega⟩
theorem Sc.new5 (h:Sc w0 B gb n m s 1 x y z nb cb pb bq sq W) (hm:Bm.Mp W' (W.heap.size+1) W.heap.size ((n+63) / 64) ((n+63) / 64) n (fun _=>false)) (hb:Below W.heap.size W W'):Sc w0 B gb n m s 2 x y z nb cb pb bq W.heap.size W':=by
 have hk:=h.keep hb
 exact⟨hk.below,hk.hB,hk.geo,hk.f1,hk.f2,hk.f3,fun _=>hk.f4 (by omega),fun _=>⟨hm,h.lt4 (by omega)⟩,hk.d12,hk.d13,hk.d23,
  fun e _=>h.d14 e (by omega),fun e _=>h.d24 e (by omega),fun e _=>h.d34 e (by omega),
  fun e _=>by have:=(h.f1 e).1.lt;omega,fun e _=>by have:=(h.f2 e).1.lt;omega,fun e _=>by have:=(h.f3 e).1.lt;omega⟩
end
def lst (s:Nat × Bool × Bool × Bool):Array Bool:=#[true,true,s.2.1,true,true,s.2.2.1,true,true,Nat.blt 0 s.1,true,true,Nat.blt 1 s.1,true,true,s.2.2.2,false,false,false]
def left (s:Nat × Bool × Bool × Bool):Nat:=(2 - s.1)+((!s.2.1).toNat+((!s.2.2.1).toNat+(!s.2.2.2).toNat))
def calls:Nat→List Nat
 | 0=>[8]
 | 1=>[11]
 | _=>[]
def rdy (s:Nat × Bool × Bool × Bool):List Nat:=(bif s.2.1 then [] else [2])++((bif s.2.2.1 then [] else [5])++(calls s.1++(bif s.2.2.2 then [] else [14])))
def act (vb gb n m s k:Nat) (x y z:Bool) (nb cb pb bq sq:Nat):Act:=
 { tmps:=#[.pointer (some ⟨vb,0,none⟩),undef,.pointer none,.int .i64 0,.pointer (some ⟨gb,0,none⟩),undef,undef,.pointer (some ⟨vb,0,none⟩),.agg #[.int .i64 (n:Int),.int .i64 (m:Int),.int .i64 (s:Int)],.pointer (some ⟨gb,1,none⟩),.int .i64 (m:Int),on x (.slice (some ⟨nb,0,none⟩) m m),.pointer (some ⟨gb,1,none⟩),.int .i64 (m:Int),on y (.slice (some ⟨cb,0,none⟩) m m),.pointer (some ⟨gb,0,none⟩),.int .i64 (n:Int),on (Nat.blt 0 k) (.pointer (some ⟨bq+1,0,none⟩)),.pointer (some ⟨gb,0,none⟩),.int .i64 (n:Int),on (Nat.blt 1 k) (.pointer (some ⟨sq+1,0,none⟩)),.pointer (some ⟨gb,0,none⟩),.int .i64 (n:Int),on z (.slice (some ⟨pb,0,none⟩) n n),undef,undef,undef,undef,undef,undef,undef,undef,undef,undef,undef,undef,undef,undef],defers:=[] }
theorem left_pos {k:Nat} {x y z:Bool} (hk:k≤2) (h:left (k,x,y,z)=0):k=2∧x=true∧y=true∧z=true:=by
 unfold left at h
 cases x<;>cases y<;>cases z<;>simp at h ⊢<;>omega
theorem left_call {k:Nat} {x y z:Bool} (hk:k < 2):left (k,x,y,z)=left (k+1,x,y,z)+1:=by
 unfold left;simp only;omega
theorem left_one (k:Nat) (y z:Bool):left (k,false,y,z)=left (k,true,y,z)+1:=by
 unfold left;simp;omega
theorem left_two (k:Nat) (x z:Bool):left (k,x,false,z)=left (k,x,true,z)+1:=by
 unfold left;simp;omega
theorem left_three (k:Nat) (x y:Bool):left (k,x,y,false)=left (k,x,y,true)+1:=by
 unfold left;simp;omega
def ScTo (W:List Nat) (n m s:Nat) (w:World) (r:Ending) (w':World):Prop:=
 (scn (gi W n m s) m=none∧r = .returned (.tuple #[.pointer none,.int .i64 2])∧Below w.heap.size w w') ∨
 (∃ L P N C X,scn (gi W n m s) m=some L∧r = .returned (.tuple #[.pointer (some ⟨P.c,0,none⟩),.int .i64 0])∧Cq w' P n m L N C X∧w.heap.size≤P.lo∧Below w.heap.size w w')
theorem node_info:(Tryz.prog.info? 95).map (fun i=>(i.zero,i.size,i.bytes))=some (some (.agg #[.int .i64 0,.int .i64 0,.int .i64 0]),3,24):=by kernel_rfl
theorem chain_info:(Tryz.prog.info? 130).map (fun i=>(i.zero,i.size,i.bytes))=some (some (.agg #[.slice none 0 0,.slice none 0 0]),2,48):=by kernel_rfl
theorem place_info:(Tryz.prog.info? 201).map (fun i=>(i.zero,i.size,i.bytes))=some (some (.agg #[.int .i64 0,.int .i64 0]),2,16):=by kernel_rfl
theorem made {w0 W:World} {B gb n m s nb cb pb bq sq:Nat} (h:Sc w0 B gb n m s 2 true true true nb cb pb bq sq W) (hm:m≤65534) :
 Cq (W.alloc (.cells #[.slice (some ⟨nb,0,none⟩) m m,.slice (some ⟨cb,0,none⟩) m m,.pointer (some ⟨bq+1,0,none⟩),.pointer (some ⟨sq+1,0,none⟩),.slice (some ⟨pb,0,none⟩) n n] 85)) ⟨B,nb,cb,bq,bq+1,sq,sq+1,pb,W.heap.size,(n+63) / 64,(n+63) / 64⟩ n m [] (nodes0 m) (chains0 m) (places0 n):=by
 have hk:=h.keep ((Below.refl W.heap.size W).alloc (Nat.le_refl _) (.cells #[.slice (some ⟨nb,0,none⟩) m m,.slice (some ⟨cb,0,none⟩) m m,.pointer (some ⟨bq+1,0,none⟩),.pointer (some ⟨sq+1,0,none⟩),.slice (some ⟨pb,0,none⟩) n n] 85));have l1:=(h.f1 rfl).1.lt;have l2:=(h.f2 rfl).1.lt;have l3:=(h.f3 rfl).1.lt;have l4:=h.lt4 (by omega);have l5:=h.lt5 (by omega);have b1:=(h.f1 rfl).2;have b2:=(h.f2 rfl).2;have b3:=(h.f3 rfl).2;have b4:=(h.f4 (by omega)).2;have b5:=(h.f5 (by omega)).2;have d14:=h.d14 rfl (by omega);have d24:=h.d24 rfl (by omega);have d34:=h.d34 rfl (by omega);have d15:=h.d15 rfl (by omega);have d25:=h.d25 rfl (by omega);have d35:=h.d35 rfl (by omega)
 refine⟨⟨hb_new W _ _,(hk.f1 rfl).1,(hk.f2 rfl).1,(hk.f3 rfl).1,size_madeCells _ _,size_madeCells _ _,size_madeCells _ _,?_,?_,⟨?_,?_,?_⟩,hm⟩,Nod.nil _,Chs.nil _ _ _,Plc.nil _⟩
 · have:=(hk.f4 (by omega)).1
   rw[← ins_nil] at this;exact this
 · have:=(hk.f5 (by omega)).1
   rw[← ins_nil] at this;exact this
 · simp only
   omega
 · simp only
   omega
 · exact⟨h.d12 rfl rfl,d14.1,d14.2,d15.1,d15.2,h.d13 rfl rfl,d24.1,d24.2,d25.1,d25.2,h.d23 rfl rfl,by simp only;omega,by simp only;omega,by simp only;omega,Ne.symm d34.1,by simp only;omega,by simp only;omega,Ne.symm d34.2,by simp only;omega,Ne.symm d35.1,Ne.symm d35.2⟩
section
variable {Q : Nat → Prop} {w : World} {vb a n m s : Nat} {W : List Nat} {st sn : Nat}
theorem scan_any (hv:Vo Q w vb a n m s W st sn) :
 Calls Tryz.prog 17 #[.pointer (some ⟨vb,0,none⟩)] w (ScTo W n m s w):=by
 have HV:=hid hv;have HG:=hid (Vol.geometry_any hv);have hnm:=hv.num;have hnn:n≤65534:=by omega
 have hmm:m≤65534:=by omega
 obtain⟨i0,hi0,hz0,hz1,hz2⟩:=info_parts node_info
 have hmk0:=fun (W:World)=>run_makeSlice (P:=Tryz.prog) (w:=W) 80 95 i0 (.agg #[.int .i64 0,.int .i64 0,.int .i64 0]) Tryz.underlying80 hi0 hz0 .i64 .i64 (m:Int) (m:Int) (by omega) (by omega) (by rw[hz1];omega) (by rw[hz2];omega) (by omega)
 obtain⟨i1,hi1,hy0,hy1,hy2⟩:=info_parts chain_info
 have hmk1:=fun (W:World)=>run_makeSlice (P:=Tryz.prog) (w:=W) 81 130 i1 (.agg #[.slice none 0 0,.slice none 0 0]) Tryz.underlying81 hi1 hy0 .i64 .i64 (m:Int) (m:Int) (by omega) (by omega) (by rw[hy1];omega) (by rw[hy2];omega) (by omega)
 obtain⟨i2,hi2,hx0,hx1,hx2⟩:=info_parts place_info
 have hmk2:=fun (W:World)=>run_makeSlice (P:=Tryz.prog) (w:=W) 83 201 i2 (.agg #[.int .i64 0,.int .i64 0]) Tryz.underlying83 hi2 hx0 .i64 .i64 (n:Int) (n:Int) (by omega) (by omega) (by rw[hx1];omega) (by rw[hx2];omega) (by omega)
 simp only[Int.toNat_natCast,hz1,hy1,hx1] at hmk0 hmk1 hmk2;have hmk0:∀ W:World,Sem.run Tryz.prog (Instr.makeSlice 80 (.int .i64 (m:Int)) (.int .i64 (m:Int))) W = .ok (.slice (some ⟨W.heap.size,0,none⟩) m m) (W.alloc (.cells (nodes0 m) 95)):=hmk0;have hmk1:∀ W:World,Sem.run Tryz.prog (Instr.makeSlice 81 (.int .i64 (m:Int)) (.int .i64 (m:Int))) W = .ok (.slice (some ⟨W.heap.size,0,none⟩) m m) (W.alloc (.cells (chains0 m) 130)):=hmk1;have hmk2:∀ W:World,Sem.run Tryz.prog (Instr.makeSlice 83 (.int .i64 (n:Int)) (.int .i64 (n:Int))) W = .ok (.slice (some ⟨W.heap.size,0,none⟩) n n) (W.alloc (.cells (places0 n) 201)):=hmk2;have HNW:=hid (fun w=>Bm.new_any (n:Int) n ((n+63) / 64) (by omega) rfl w);have HNM:=hid hnm;clear hv hnm;go_enter Tryz.func17,Tryz.ntmps17
 go_wp2_with fail
 refine HG.out.mono ?_;rintro r w1 ⟨rfl,hb⟩;have HB1:=hid (hb.alloc hb.size (.cells #[.int .i64 (n:Int),.int .i64 (m:Int),.int .i64 (s:Int)] 72));have HX1:=hid (hb_new w1 #[.int .i64 (n:Int),.int .i64 (m:Int),.int .i64 (s:Int)] 72);have c0:=HX1.out.cell 0;have c1:=HX1.out.cell 1;have cl:=HX1.out.lt;clear hb HG;go_wp2_with fail
 generalize w1.alloc (.cells #[.int .i64 (n:Int),.int .i64 (m:Int),.int .i64 (s:Int)] 72)=w2 at *;generalize w1.heap.size=gb at *;refine wp_region_held_drew (S:=(fun W'=>Hb W' gb #[.int .i64 (n:Int),.int .i64 (m:Int),.int .i64 (s:Int)] 72)) (by kernel_rfl) (HX1.out.keep (hd0 _)) (fun hHeld=>?_);refine take_yes 0 9 (.pointer (some ⟨gb,1,none⟩)) rfl rfl (by kernel_rfl) (by kernel_rfl) (by kernel_rfl) (fun _ _ _ h=>h) rfl ?_ (by assumption) ?_
 · intro w hSw
   try dsimp only at hSw
   go_simp
 simp only[Act.put,List.setIfInBounds_toArray,List.set_cons_zero,List.set_cons_succ];refine take_yes 1 10 (.int .i64 (m:Int)) rfl rfl (by kernel_rfl) (by kernel_rfl) (by kernel_rfl) (fun _ _ _ h=>h) rfl ?_ (by assumption) ?_
 · intro w hSw
   try dsimp only at hSw
   have hv:=hSw.cell 1;have hl:=hSw.lt
   go_simp
 simp only[Act.put,List.setIfInBounds_toArray,List.set_cons_zero,List.set_cons_succ];refine take_yes 3 12 (.pointer (some ⟨gb,1,none⟩)) rfl rfl (by kernel_rfl) (by kernel_rfl) (by kernel_rfl) (fun _ _ _ h=>h) rfl ?_ (by assumption) ?_
 · intro w hSw
   try dsimp only at hSw
   go_simp
 simp only[Act.put,List.setIfInBounds_toArray,List.set_cons_zero,List.set_cons_succ];refine take_yes 4 13 (.int .i64 (m:Int)) rfl rfl (by kernel_rfl) (by kernel_rfl) (by kernel_rfl) (fun _ _ _ h=>h) rfl ?_ (by assumption) ?_
 · intro w hSw
   try dsimp only at hSw
   have hv:=hSw.cell 1;have hl:=hSw.lt
   go_simp
 simp only[Act.put,List.setIfInBounds_toArray,List.set_cons_zero,List.set_cons_succ];refine take_yes 6 15 (.pointer (some ⟨gb,0,none⟩)) rfl rfl (by kernel_rfl) (by kernel_rfl) (by kernel_rfl) (fun _ _ _ h=>h) rfl ?_ (by assumption) ?_
 · intro w hSw
   try dsimp only at hSw
   go_simp
 simp only[Act.put,List.setIfInBounds_toArray,List.set_cons_zero,List.set_cons_succ];refine take_yes 7 16 (.int .i64 (n:Int)) rfl rfl (by kernel_rfl) (by kernel_rfl) (by kernel_rfl) (fun _ _ _ h=>h) rfl ?_ (by assumption) ?_
 · intro w hSw
   try dsimp only at hSw
   have hv:=hSw.cell 0;have hl:=hSw.lt
   go_simp
 simp only[Act.put,List.setIfInBounds_toArray,List.set_cons_zero,List.set_cons_succ];refine take_yes 9 18 (.pointer (some ⟨gb,0,none⟩)) rfl rfl (by kernel_rfl) (by kernel_rfl) (by kernel_rfl) (fun _ _ _ h=>h) rfl ?_ (by assumption) ?_
 · intro w hSw
   try dsimp only at hSw
   go_simp
 simp only[Act.put,List.setIfInBounds_toArray,List.set_cons_zero,List.set_cons_succ];refine take_yes 10 19 (.int .i64 (n:Int)) rfl rfl (by kernel_rfl) (by kernel_rfl) (by kernel_rfl) (fun _ _ _ h=>h) rfl ?_ (by assumption) ?_
 · intro w hSw
   try dsimp only at hSw
   have hv:=hSw.cell 0;have hl:=hSw.lt
   go_simp
 simp only[Act.put,List.setIfInBounds_toArray,List.set_cons_zero,List.set_cons_succ];refine take_yes 12 21 (.pointer (some ⟨gb,0,none⟩)) rfl rfl (by kernel_rfl) (by kernel_rfl) (by kernel_rfl) (fun _ _ _ h=>h) rfl ?_ (by assumption) ?_
 · intro w hSw
   try dsimp only at hSw
   go_simp
 simp only[Act.put,List.setIfInBounds_toArray,List.set_cons_zero,List.set_cons_succ];refine take_yes 13 22 (.int .i64 (n:Int)) rfl rfl (by kernel_rfl) (by kernel_rfl) (by kernel_rfl) (fun _ _ _ h=>h) rfl ?_ (by assumption) ?_
 · intro w hSw
   try dsimp only at hSw
   have hv:=hSw.cell 0;have hl:=hSw.lt
   go_simp
 simp only[Act.put,List.setIfInBounds_toArray,List.set_cons_zero,List.set_cons_succ];clear c0 c1 cl hHeld;refine any_states (σ:=Nat × Bool × Bool × Bool) lst left rdy (fun st a W=>st.1≤2∧∃ nb cb pb bq sq,a=act vb gb n m s st.1 st.2.1 st.2.2.1 st.2.2.2 nb cb pb bq sq∧Sc w w.heap.size gb n m s st.1 st.2.1 st.2.2.1 st.2.2.2 nb cb pb bq sq W) 3 ?_ ?_ ?_ 5 (0,false,false,false) _ _ rfl ⟨by omega,0,0,0,0,0,rfl,HB1.out.drew,HB1.out.drew.size,HX1.out.keep (hd0 _),(fun e=>by cases e),(fun e=>by cases e),(fun e=>by cases e),(fun e=>by omega),(fun e=>by omega),(fun e=>by cases e),(fun e=>by cases e),(fun e=>by cases e),(fun e=>by cases e),(fun e=>by cases e),(fun e=>by cases e),(fun e=>by cases e),(fun e=>by cases e),(fun e=>by cases e)⟩
 · rintro ⟨k,x,y,z⟩ a W ⟨hk,_⟩ hn
   have hk':k=0∨k=1∨k=2:=by simp only at hk;omega
   clear hk
   rcases hk' with rfl | rfl | rfl<;>cases x<;>cases y<;>cases z<;>first | exact absurd rfl hn | exact⟨by kernel_rfl,by decide⟩
 · rintro ⟨k,x,y,z⟩ a W ⟨hk,nb,cb,pb,bq,sq,rfl,hst⟩ hn i hi
   clear hn;simp only[rdy,List.mem_append] at hi hst hk ⊢;have HS:=hid hst;clear hst
   rcases hi with hi | hi | hi | hi
   · cases x with
     | true=>simp at hi
     | false=>
       obtain rfl:i=2:=by simpa using hi
       refine op_step rfl (fun K hK=>?_);simp only[act]
       go_simp
       exact hK.out _ _ ⟨(k,true,y,z),rfl,left_one _ _ _,HS.out.new1.geo,hk,W.heap.size,cb,pb,bq,sq,rfl,HS.out.new1⟩
   · cases y with
     | true=>simp at hi
     | false=>
       obtain rfl:i=5:=by simpa using hi
       refine op_step rfl (fun K hK=>?_);simp only[act]
       go_simp
       exact hK.out _ _ ⟨(k,x,true,z),rfl,left_two _ _ _,HS.out.new2.geo,hk,nb,W.heap.size,pb,bq,sq,rfl,HS.out.new2⟩
   · have hk':k=0∨k=1∨k=2:=by omega
     clear hk
     rcases hk' with rfl | rfl | rfl
     · obtain rfl:i=8:=by simpa [calls] using hi
       refine op_step rfl (fun K hK=>?_);simp only[act,Nat.blt,Nat.ble,on_false]
       go_simp
       go_at_call 28
       with_reducible refine (HNW.out _).mono ?_
       rintro e W' ⟨rfl,hmp,hb⟩;exact hK.out _ _ ⟨(1,x,y,z),rfl,left_call (by omega),(HS.out.new4 hmp hb).geo,by omega,nb,cb,pb,W.heap.size,sq,rfl,HS.out.new4 hmp hb⟩
     · obtain rfl:i=11:=by simpa [calls] using hi
       refine op_step rfl (fun K hK=>?_);simp only[act,Nat.blt,Nat.ble,on_true,on_false]
       go_simp
       go_at_call 28
       with_reducible refine (HNW.out _).mono ?_
       rintro e W' ⟨rfl,hmp,hb⟩;exact hK.out _ _ ⟨(2,x,y,z),rfl,left_call (by omega),(HS.out.new5 hmp hb).geo,by omega,nb,cb,pb,bq,W.heap.size,rfl,HS.out.new5 hmp hb⟩
     · simp[calls] at hi
   · cases z with
     | true=>simp at hi
     | false=>
       obtain rfl:i=14:=by simpa using hi
       refine op_step rfl (fun K hK=>?_);simp only[act]
       go_simp
       exact hK.out _ _ ⟨(k,x,y,true),rfl,left_three _ _ _,HS.out.new3.geo,hk,nb,cb,W.heap.size,bq,sq,rfl,HS.out.new3⟩
 · rintro ⟨k,x,y,z⟩ a V ⟨hk,nb,cb,pb,bq,sq,rfl,hst⟩ hn
   obtain⟨rfl,rfl,rfl,rfl⟩:=left_pos hk hn
   clear hk hn;have HS:=hid hst;clear hst;simp only[act,Nat.blt,Nat.ble,on_true];refine wpAnyH_ready (rs:=[15]) (by kernel_rfl) (by simp) ?_;refine AllReadyH.cons rfl (fun K hK=>?_) AllReadyH.nil
   go_simp
   refine hK.out _ _ HS.out.geo (fun _=>?_);clear hK K;refine wpAnyH_ready (rs:=[16]) (by kernel_rfl) (by simp) ?_;refine AllReadyH.cons rfl (fun K hK=>?_) AllReadyH.nil
   go_simp
   have hal:=(Below.refl V.heap.size V).alloc (Nat.le_refl _) (.cells #[.slice (some ⟨nb,0,none⟩) m m,.slice (some ⟨cb,0,none⟩) m m,.pointer (some ⟨bq+1,0,none⟩),.pointer (some ⟨sq+1,0,none⟩),.slice (some ⟨pb,0,none⟩) n n] 85);have HA:=hid (HS.out.keep hal);refine hK.out _ _ HA.out.geo (fun _=>?_);clear hK K;refine wpAnyH_ready (rs:=[17]) (by kernel_rfl) (by simp) ?_;refine AllReadyH.cons rfl (fun K hK=>?_) AllReadyH.nil
   go_simp
   refine hK.out _ _ HA.out.geo (fun _=>?_);clear hK K;refine wpAnyH_done (by kernel_rfl) ?_ _;have HP:=hid (made HS.out (by have:=HNM.out;omega));have HBL:=hid HA.out.below;clear hal HS;generalize V.alloc (.cells #[.slice (some ⟨nb,0,none⟩) m m,.slice (some ⟨cb,0,none⟩) m m,.pointer (some ⟨bq+1,0,none⟩),.pointer (some ⟨sq+1,0,none⟩),.slice (some ⟨pb,0,none⟩) n n] 85)=w4 at *;generalize V.heap.size=cc at *;have c1:=HA.out.geo.cell 1;have cl:=HA.out.geo.lt;go_wp2_with fail
   clear c1 cl hmk0 hmk1 hmk2 HNW HA
   obtain⟨PP,hPP⟩:∃ PP:Pc,PP=⟨w.heap.size,nb,cb,bq,bq+1,sq,sq+1,pb,cc,(n+63) / 64,(n+63) / 64⟩:=⟨_,rfl⟩
   have hP:=HP.out;have hcc:cc=PP.c:=by rw[hPP]
   have hlo:PP.lo=w.heap.size:=by rw[hPP]
   rw[← hPP] at hP;have HPQ:=hid hP;clear HP;subst hcc;have HLO:=hid hlo;clear hP hPP hlo
   go_loopw [28] (fun q wr=>∃ (L:List Cl) (N C X:Array Value),L.length≤m∧q = .int .i64 (L.length:Int)∧scn (gi W n m s) L.length=some L∧Cq wr PP n m L N C X∧Below w.heap.size w wr) (fun q _=>m - (intOf q).toNat)
   case atStart=>exact⟨[],_,_,_,Nat.zero_le _,rfl,rfl,HPQ.out,HBL.out⟩
   case round=>
    obtain⟨L,N,C,X,hle,rfl,hsc,hcq,hb⟩:=hrel
    clear HPQ HBL;have HSC:=hid hsc;have HCQ:=hid hcq;have HBB:=hid hb;have hok:=(scn_oks (fun _ _ h=>gi_ok h) hsc).1;by_cases hlt:L.length < m
    · have HTK:=hid (take_any (HV.out.keep hb) hcq hok hlt)
      clear hsc hcq hb hok;have hmi:(L.length:Int) < (m:Int):=by omega
      go_wp2_with fail
      refine HTK.out.mono ?_;rintro r w5 k5;unfold TkTo at k5;rw[HLO.out] at k5
      rcases k5 with ⟨h1,rfl,h3⟩ | ⟨c,N',C',X',h1,h2,h3,rfl,h5,h6⟩
      · have HN:=hid (scn_stop HSC.out h1 hlt)
        have HB5:=hid (HBB.out.trans h3);clear h1 h3;go_wp2
        go_ret2;exact .inl ⟨HN.out,rfl,HB5.out⟩
      · have HN:=hid (scn_next HSC.out h1 h2 h3)
        have HB5:=hid (HBB.out.trans h6);have HQ5:=hid h5;clear h1 h2 h3 h5 h6;go_wp2
        have e:(L++[c]).length=L.length+1:=by simp
        refine⟨⟨L++[c],N',C',X',by omega,by rw[e];go_num,by rw[e];exact HN.out,HQ5.out,HB5.out⟩,by simp[intOf];omega⟩
    · obtain rfl:m=L.length:=by omega
      go_wp2
      go_ret2;exact .inr ⟨L,PP,N,C,X,HSC.out,rfl,HCQ.out,by rw[HLO.out];exact Nat.le_refl _,HBB.out⟩
end
end Clm
end
section
open Go.RowKit Go.MapKept
namespace Chk
open Ent (En Es ens)
open Clm (Cl Pc Cq Ok Oks need need_iff)
open Vol (Vo)
open Fld (fent EnTo)
def kdOf (L:List Cl) (i:Int):Nat:=if i < 0 then 0 else ((L[i.toNat]?).map (·.k)).getD 0
noncomputable def eOf (W:List Nat) (bk q:Nat) (L:List Cl) (i:Int):Option (List En):=match fent W bk q L i with
 | .ok l=>some (ens l)
 | .error _=>none
theorem err_ne {W:List Nat} {bk q:Nat} {L:List Cl} {i:Int} {e:Nat} (h:fent W bk q L i = .error e):e≠0:=by
 unfold fent at h
 repeat' split at h
 all_goals injection h
 all_goals omega
theorem ok_alls {W:List Nat} {bk q:Nat} {L:List Cl} {i:Int} {l:List (List Nat × Nat)} (h:fent W bk q L i = .ok l):∃ c∈L,Ent.All (Fld.fby W bk q c) l:=by
 unfold fent at h
 repeat' split at h
 all_goals try cases h
 rename_i c hc _ _ _ hl
 exact⟨c,List.mem_of_getElem? hc,Ent.alls_is hl⟩
section
variable {Q : Nat → Prop} {w : World} {P : Pc} {vb a n m s st sn : Nat} {W : List Nat} {L : List Cl} {N C X : Array Value}
theorem has_of (hv:Vo Q w vb a n m s W st sn) (h:Cq w P n m L N C X) (hL:L.length=m) (f:Nat→Option (Nat × Nat × Nat)) (hf:∀ i x c q,f i=some (x,c,q)→Slo.may (x:Int) (c:Int) (Slo.nx q)=true)
 {bk q:Nat} (hbk:Geo.bkAt n m=(bk:Int)) (hq:s=8 * q) (ho:∀ c∈L,Ok f n s c) (hz:∀ c∈L,c.z≤64000) :
 Has w (.pointer (some ⟨vb,0,none⟩)) (.pointer (some ⟨P.c,0,none⟩)) (kdOf L) (eOf W bk q L) where
 ino:=fun w' hb i=>by
  by_cases hi:i < 0∨(m:Int)≤i
  · have hk:kdOf L i=0:=by
     unfold kdOf
     split
     · rfl
     · rw[List.getElem?_eq_none (by omega)]
       rfl
    refine (Clm.inode_no (h.keep hb) i hi).mono ?_;rintro r w'' ⟨rfl,hb'⟩
    exact⟨.inl ⟨hk,rfl⟩,hb'⟩
  · obtain⟨j,rfl⟩:∃ j:Nat,i=(j:Int):=⟨i.toNat,by omega⟩
    have hj:j < L.length:=by omega
    have hk:kdOf L (j:Int)=L[j].k:=by
     unfold kdOf;rw[if_neg (by omega),Int.toNat_natCast,List.getElem?_eq_getElem hj];rfl
    refine (Clm.inode_yes (h.keep hb) hL j hj).mono ?_;rintro r w'' ⟨rfl,hb'⟩
    refine⟨?_,hb'⟩
    rw[hk];by_cases h0:L[j].k=0
    · obtain⟨h1,h2,_⟩:=(ho _ (List.getElem_mem hj)).free h0
      exact .inl ⟨h0,by rw[h0,h1,h2];rfl⟩
    · exact .inr ⟨h0,_,_,rfl⟩
 ent:=fun w' hb i=>by
  refine (Fld.entries_any (hv.keep hb) (h.keep hb) hL f hf hbk hq ho hz i).mono ?_;intro r w'' he;unfold EnTo at he;unfold eOf Ens
  cases hx:fent W bk q L i with
  | error e=>
    rw[hx] at he
    exact⟨⟨(e:Int),by have:=err_ne hx;omega,he.1⟩,he.2⟩
  | ok l=>
    rw[hx] at he
    obtain⟨G,gc,h1,h2,h3,h4⟩:=he
    exact⟨⟨G,gc,by rw[Ent.ens_len];exact h1,h2,h3⟩,h4⟩
 few:=fun i l hE=>by
  unfold eOf at hE
  cases hx:fent W bk q L i with
  | error e=>rw[hx] at hE;cases hE
  | ok k=>
    rw[hx] at hE;obtain rfl:ens k=l:=by simpa using hE
    obtain⟨c,hc,hA⟩:=ok_alls hx
    have hlen:(Fld.fby W bk q c).length≤64000:=by
     refine Nat.le_trans ?_ (hz c hc);unfold Fld.fby;rw[List.length_take];omega
    have h1:=hA.1;rw[Ent.ens_len]
    refine⟨by omega,fun e he=>?_⟩
    obtain⟨p,hp,rfl⟩:=List.mem_map.1 he
    obtain⟨j,hj,rfl⟩:=List.getElem_of_mem hp
    have:k[j].1.length≤48:=Ent.may_len (Ent.dec_some (hA.2.1 j hj)).1
    simp only[Crc.str_size];omega
end
end Chk
end
section
open Lib (hid)
open Go.RowKit Go.MapKept
namespace Clm
open Chn (Pt New Prt slots Mays tot blk blk_len row_cap3 own_new own_keep3 row_base_lt3)
open Vol (Vo Hb hb_new hb_grown hb_apart)
open Pack (Nts int_info i64s)
def kd (L:List Cl) (i:Nat):Nat:=(L[i]?.map Cl.k).getD 0
theorem kd_get {L:List Cl} {i:Nat} (h:i < L.length):kd L i=L[i].k:=by simp[kd,List.getElem?_eq_getElem h]
def ut (L:List Cl) (t:Nat):List Nat:=(List.range t).filter fun i=>kd L i != 0
theorem ut_no {L:List Cl} {t:Nat} (h:kd L t=0):ut L (t+1)=ut L t:=by simp[ut,List.range_succ,List.filter_append,h]
theorem ut_yes {L:List Cl} {t:Nat} (h:kd L t≠0):ut L (t+1)=ut L t++[t]:=by simp[ut,List.range_succ,List.filter_append,h]
theorem ut_len (L:List Cl):∀ t,(ut L t).length≤t
 | 0=>Nat.le_refl _
 | t+1=>by
   have:=ut_len L t
   by_cases h:kd L t=0
   · rw[ut_no h];omega
   · rw[ut_yes h];simp;omega
theorem ut_lt {L:List Cl} {t:Nat}:∀ x∈ut L t,x < t:=fun x hx=>by
 have:=(List.mem_filter.1 hx).1
 exact List.mem_range.1 this
section
variable {w : World} {P : Pc} {n m : Nat} {L : List Cl} {N C X : Array Value}
theorem used_any (h:Cq w P n m L N C X) (hL:L.length=m) (hf:∀ c∈L,c.k=0→c.p=0∧c.z=0):Calls Tryz.prog 81 #[.pointer (some ⟨P.c,0,none⟩)] w fun r w'=>
 ∃ G gc,r = .returned (.slice G (ut L m).length gc)∧Nts w' G ((ut L m).map Int.ofNat)∧Below w.heap.size w w':=by
 obtain⟨i0,hi0,hz0,hz1,hz2⟩:=info_parts int_info
 have H:=hid h;have HF:=hid hf;have hm:=h.cr.max;have c0:=h.cr.claim.cell 0;have cl:=h.cr.lt;have HNN:=hid (fun w=>Ino.none_any w);have HLM:=hid hL;clear h hf hL;go_enter Tryz.func81,Tryz.ntmps81
 go_wp2
 clear c0 cl
 go_loopw [3,11] (fun v q wr=>∃ (t:Nat) (G:Option Addr) (gc:Nat),t≤m∧q = .int .i64 (t:Int)∧v = .slice G (ut L t).length gc∧wr.ownsRow w.heap.size 3 1 (.slice G (ut L t).length gc) (ut L t).length (i64s ((ut L t).map Int.ofNat))∧Below w.heap.size w wr) (fun _ q _=>m - (intOf q).toNat)
 case atStart=>exact⟨0,none,0,Nat.zero_le _,rfl,rfl,World.ownsRow_nil ..,Below.refl _ _⟩
 case round=>
  obtain⟨t,G,gc,ht,rfl,rfl,hrow,hb⟩:=hrel
  by_cases hlt:t < m
  · have htL:t < L.length:=by have:=HLM.out;omega
    obtain⟨k0,k1,k2⟩:=H.out.nod t htL
    have HFF:=hid (HF.out _ (List.getElem_mem htL));have HKD:=hid (kd_get htL);generalize L[t]=c at *
    obtain⟨ck,cp,cz,cl⟩:=c
    simp only at k0 k1 k2 HFF HKD;have hh:=H.out.keep hb;have n0:=(hh.cr.nodes.cell (t * 3)).trans k0;have n1:=(hh.cr.nodes.cell (t * 3+1)).trans k1;have n2:=(hh.cr.nodes.cell (t * 3+2)).trans k2;have nl:=hh.cr.nodes.lt;have HUL:=hid (ut_len L t);have hti:(t:Int) < (m:Int):=by omega
    by_cases hk:ck=0
    · subst hk
      obtain⟨rfl,rfl⟩:=HFF.out rfl
      have HU:=hid (ut_no HKD.out);have n0:wr.cell? ⟨P.nb,t * 3,none⟩=some (.int .i64 0):=n0;have n1:wr.cell? ⟨P.nb,t * 3+1,none⟩=some (.int .i64 (-1)):=n1;have n2:wr.cell? ⟨P.nb,t * 3+2,none⟩=some (.int .i64 0):=n2;have hal:=(Below.refl wr.heap.size wr).alloc (Nat.le_refl _) (.cells #[.int .i64 0,.int .i64 (-1),.int .i64 0] 95);have HX:=hid (hb_new wr #[.int .i64 0,.int .i64 (-1),.int .i64 0] 95);have HB:=hid (hb.trans (hal.mono hb.size));have HO:=hid (own_keep3 hrow hal);clear hal hb hrow hh k0 k1 k2;go_wp2
      generalize wr.alloc (.cells #[.int .i64 0,.int .i64 (-1),.int .i64 0] 95)=w1 at *;generalize wr.heap.size=xb at *;have x0:=HX.out.cell 0;have x1:=HX.out.cell 1;have x2:=HX.out.cell 2;have xl:=HX.out.lt
      go_region_held3 (fun W'=>W'.cell? ⟨xb,0,none⟩=some (.int .i64 0)∧W'.cell? ⟨xb,1,none⟩=some (.int .i64 (-1))∧W'.cell? ⟨xb,2,none⟩=some (.int .i64 0)) (go_keep)
       (first
       | (go_at_call 78
          with_reducible refine (HNN.out _).mono ?_
          rintro r w2 ⟨rfl,hb⟩;have HB2:=hid (HB.out.trans (((drewN_below w1 1).trans (hb.mono (drewN_below w1 1).size)).mono HB.out.size));have HO2:=hid (own_keep3 HO.out ((drewN_below w1 1).trans (hb.mono (drewN_below w1 1).size)));have HX2:=hid (HX.out.keep ((drewN_below w1 1).trans (hb.mono (drewN_below w1 1).size)));have y0:=HX2.out.cell 0;have y1:=HX2.out.cell 1;have y2:=HX2.out.cell 2;clear hb))
      go_wp2
      refine⟨⟨t+1,G,gc,by omega,by go_num,by rw[HU.out],by rw[HU.out];exact HO2.out,HB2.out⟩,by simp[intOf];omega⟩
    · have HU:=hid (ut_yes (show kd L t≠0 by rw[HKD.out];exact hk))
      generalize (cp:Int) - 1=hd at *;have hkb:((ck:Int) == 0)=false:=beq_eq_false_iff_ne.2 (by omega);have hk0:¬ (ck:Int)=0:=by omega
      have hal:=(Below.refl wr.heap.size wr).alloc (Nat.le_refl _) (.cells #[.int .i64 (ck:Int),.int .i64 hd,.int .i64 (cz:Int)] 95);have HX:=hid (hb_new wr #[.int .i64 (ck:Int),.int .i64 hd,.int .i64 (cz:Int)] 95);have HB:=hid (hb.trans (hal.mono hb.size));have HO:=hid (own_keep3 hrow hal);clear hal hb hrow hh k0 k1 k2 hk;go_wp2
      generalize wr.alloc (.cells #[.int .i64 (ck:Int),.int .i64 hd,.int .i64 (cz:Int)] 95)=w1 at *;generalize wr.heap.size=xb at *;have x0:=HX.out.cell 0;have x1:=HX.out.cell 1;have x2:=HX.out.cell 2;have xl:=HX.out.lt
      go_region_held3 (fun W'=>W'.cell? ⟨xb,0,none⟩=some (.int .i64 (ck:Int))∧W'.cell? ⟨xb,1,none⟩=some (.int .i64 hd)∧W'.cell? ⟨xb,2,none⟩=some (.int .i64 (cz:Int))) (go_keep)
       (first
       | (go_at_call 78
          with_reducible refine (HNN.out _).mono ?_
          rintro r w2 ⟨rfl,hb⟩;have HB2:=hid (HB.out.trans (((drewN_below w1 1).trans (hb.mono (drewN_below w1 1).size)).mono HB.out.size));have HO2:=hid (own_keep3 HO.out ((drewN_below w1 1).trans (hb.mono (drewN_below w1 1).size)));have HX2:=hid (HX.out.keep ((drewN_below w1 1).trans (hb.mono (drewN_below w1 1).size)));have y0:=HX2.out.cell 0;have y1:=HX2.out.cell 1;have y2:=HX2.out.cell 2;clear hb))
      have HOA:=hid (HO2.out.alloc (.cells #[.int .i64 (t:Int)] 3));have hul:=HUL.out
      go_wp2_with (at_builtin
                   refine wpList_append_own_at _ rfl (.tmp 19) (.tmp 21) 40 rfl w.heap.size 3 i0 (.int .i64 0) 1 8 Tryz.underlying40 hi0 hz0 hz1 hz2 rfl (by decide) (.slice G (ut L t).length gc) (ut L t).length (i64s ((ut L t).map Int.ofNat)) rfl HOA.out ⟨w2.heap.size,0,none⟩ 1 1 [.int .i64 (t:Int)] rfl rfl (cell_one_new _ _ _) (by simp[Value.oneCell']) (by unfold maxLen;omega) (by omega) (by simp;have:=HB2.out.size;omega) ?_;intro v6 w6 hown6 hgr6 _ _
                   obtain⟨G6,c6,rfl⟩:=Pack.row_slice hown6
                   have hal:=(Below.refl w2.heap.size w2).alloc (Nat.le_refl _) (.cells #[.int .i64 (t:Int)] 3);have HB6:=hid ((HB2.out.trans (hal.mono HB2.out.size)).grown hgr6 (by simp;have:=HB2.out.size;omega) (fun k hk=>row_base_lt3 HO2.out hk));have HO6:=hid hown6;clear hown6 hgr6 hal)
      refine⟨⟨t+1,G6,c6,by omega,by go_num,by rw[HU.out];simp,?_,HB6.out⟩,by simp[intOf];omega⟩
      have h6:=HO6.out;rw[HU.out];unfold i64s at h6 ⊢;simp only[List.map_append,List.length_append];exact h6
  · obtain rfl:t=m:=by omega
    have hcap:=row_cap3 hrow;have hul:=ut_len L t;go_wp2
    go_ret
    exact⟨G,gc,rfl,Pack.own_nts hrow (fun x hx=>by
     obtain⟨y,hy,rfl⟩:=List.mem_map.1 hx
     have:=ut_lt y hy
     simp only[Int.ofNat_eq_natCast]
     omega) (by omega),hb⟩
def nf (L:List Cl) (m:Nat):Int:=Bm.next (fun i=>kd L i != 0) false m 0
theorem index_any (h:Cq w P n m L N C X) (hL:L.length=m) (hf:∀ c∈L,c.k=0→c.p=0∧c.z=0):Calls Tryz.prog 142 #[.slice (some ⟨P.nb,0,none⟩) m m,.agg #[.int .i64 0,.int .i64 (-1),.int .i64 0]] w fun r w'=>
 r = .returned (.int .i64 (nf L m))∧Below w.heap.size w w':=by
 have H:=hid h;have HF:=hid hf;have hm:=h.cr.max;have HLM:=hid hL;clear h hf hL;go_enter Tryz.func142,Tryz.ntmps142
 have HX0:=hid (hb_new w #[.int .i64 0,.int .i64 (-1),.int .i64 0] 95);have HB0:=hid ((Below.refl w.heap.size w).alloc (Nat.le_refl _) (.cells #[.int .i64 0,.int .i64 (-1),.int .i64 0] 95));go_wp2
 generalize w.alloc (.cells #[.int .i64 0,.int .i64 (-1),.int .i64 0] 95)=w0 at *
 go_loopw [8] (fun q wr=>∃ t:Nat,t≤m∧q = .int .i64 (t:Int)∧(∀ j,j < t→kd L j≠0)∧Below w0.heap.size w0 wr) (fun q _=>m - (intOf q).toNat)
 case atStart=>exact⟨0,Nat.zero_le _,rfl,fun j hj=>by omega,Below.refl _ _⟩
 case round=>
  obtain⟨t,ht,rfl,hall,hb⟩:=hrel
  have HB:=hid (HB0.out.trans (hb.mono HB0.out.size));have HX:=hid (HX0.out.keep hb);by_cases hlt:t < m
  · have htL:t < L.length:=by have:=HLM.out;omega
    obtain⟨k0,k1,k2⟩:=H.out.nod t htL
    have HFF:=hid (HF.out _ (List.getElem_mem htL));have HKD:=hid (kd_get htL);generalize L[t]=c at *
    obtain⟨ck,cp,cz,cl⟩:=c
    simp only at k0 k1 k2 HFF HKD;have hh:=H.out.keep HB.out;have n0:=(hh.cr.nodes.cell (t * 3)).trans k0;have n1:=(hh.cr.nodes.cell (t * 3+1)).trans k1;have n2:=(hh.cr.nodes.cell (t * 3+2)).trans k2;have nl:=hh.cr.nodes.lt;have x0:=HX.out.cell 0;have x1:=HX.out.cell 1;have x2:=HX.out.cell 2;have xl:=HX.out.lt;have HALL:=hid hall;have HBW:=hid hb;have hti:(t:Int) < (m:Int):=by omega
    clear hh k0 k1 k2 hall hb;by_cases hk:ck=0
    · subst hk
      obtain⟨rfl,rfl⟩:=HFF.out rfl
      have n0:wr.cell? ⟨P.nb,t * 3,none⟩=some (.int .i64 0):=n0;have n1:wr.cell? ⟨P.nb,t * 3+1,none⟩=some (.int .i64 (-1)):=n1;have n2:wr.cell? ⟨P.nb,t * 3+2,none⟩=some (.int .i64 0):=n2;have HNX:=hid (Bm.Nx.next (.inr ⟨t,rfl,Nat.zero_le _,hlt,by simp[HKD.out],fun c _ hc=>by have:=HALL.out c hc;simp[this]⟩:Bm.Nx (fun i=>kd L i != 0) false m 0 (t:Int)));go_wp2_with fail
      go_region
      go_wp2
      go_ret
      refine⟨?_,HB.out.trans ((drewN_below wr 1).mono HB.out.size)⟩
      unfold nf;rw[← HNX.out];rfl
    · generalize (cp:Int) - 1=hd at *
      have hkb:((ck:Int) == 0)=false:=beq_eq_false_iff_ne.2 (by omega);have hkb2:((0:Int) == (ck:Int))=false:=beq_eq_false_iff_ne.2 (by omega);have hk0:¬ (ck:Int)=0:=by omega
      have hk1:¬ (0:Int)=(ck:Int):=by omega
      have HKN:=hid hk;clear hk;go_wp2_with fail
      go_region
      go_wp2
      refine⟨⟨t+1,by omega,by go_num,fun j hj=>?_,HBW.out.trans ((drewN_below wr 1).mono HBW.out.size)⟩,by simp[intOf];omega⟩
      by_cases e:j=t
      · subst e
        rw[HKD.out];exact HKN.out
      · exact HALL.out j (by omega)
  · obtain rfl:t=m:=by omega
    have HNX:=hid (Bm.Nx.next (.inl ⟨rfl,fun c _ hc=>by have:=hall c hc;simp[this]⟩:Bm.Nx (fun i=>kd L i != 0) false t 0 (-1)));go_wp2
    go_ret
    refine⟨?_,HB.out⟩
    unfold nf;rw[← HNX.out];rfl
theorem nextInode_any (h:Cq w P n m L N C X) (hL:L.length=m) (hf:∀ c∈L,c.k=0→c.p=0∧c.z=0):Calls Tryz.prog 87 #[.pointer (some ⟨P.c,0,none⟩)] w fun r w'=>
 r = .returned (.int .i64 (nf L m))∧Below w.heap.size w w':=by
 have H:=hid h;have HF:=hid hf;have hm:=h.cr.max;have c0:=h.cr.claim.cell 0;have cl:=h.cr.lt;have HNN:=hid (fun w=>Ino.none_any w);have HLM:=hid hL;clear h hf hL;go_enter Tryz.func87,Tryz.ntmps87
 go_wp2_with fail
 go_region_held3 (fun W'=>W'.cell? ⟨P.c,0,none⟩=some (.slice (some ⟨P.nb,0,none⟩) m m)) (go_keep)
  (first
  | (go_at_call 78
     with_reducible refine (HNN.out _).mono ?_
     rintro r w2 ⟨rfl,hb⟩;have HB2:=hid ((drewN_below w 1).trans (hb.mono (drewN_below w 1).size));have d0:=(H.out.keep HB2.out).cr.claim.cell 0;have HIX:=hid (index_any (H.out.keep HB2.out) HLM.out HF.out);clear hb)
  | (go_at_call 142
     with_reducible refine HIX.out.mono ?_
     rintro r w3 ⟨rfl,hb⟩;have HB3:=hid (HB2.out.trans (hb.mono HB2.out.size));have e0:=(H.out.keep HB3.out).cr.claim.cell 0;clear hb))
 go_wp2
 go_ret
 exact⟨rfl,HB3.out⟩
end
end Clm
end
section
open Lib (hid)
open Go.RowKit Go.MapKept
namespace Bm
open Pack (Wds Nts)
def bitAt (l:List Nat) (i:Nat):Bool:=(l.getD (i / 64) 0).testBit (i % 64)
def fo (n:Nat) (l:List Nat) (b:Nat):Bool:=decide (b < n) && bitAt l b
def Good (n:Nat) (l:List Nat):Prop:=∀ i,n≤i→i < 64 * l.length→bitAt l i=false
theorem fo_far (n:Nat) (l:List Nat):∀ b,n≤b→fo n l b=false:=fun b hb=>by
 unfold fo;rw[decide_eq_false (by omega)];rfl
theorem Good.words {n:Nat} {l:List Nat} (h:Good n l) (hu:∀ x∈l,x < 18446744073709551616) (j:Nat) (hj:j < l.length):l[j]=wd (fo n l) j:=by
 apply is_wd;intro i;by_cases hi:i < 64
 · have e:bitAt l (64 * j+i)=l[j].testBit i:=by
    unfold bitAt;rw[show (64 * j+i) / 64=j by omega,show (64 * j+i) % 64=i by omega,List.getD_eq_getElem?_getD,List.getElem?_eq_getElem hj,Option.getD_some]
   unfold fo;by_cases hb:64 * j+i < n
   · simp[hi,hb,e]
   · have:=h (64 * j+i) (by omega) (by omega)
     rw[e] at this;simp[hb,this]
 · have:l[j].testBit i=false:=Nat.testBit_lt_two_pow (Nat.lt_of_lt_of_le (hu _ (List.getElem_mem hj)) (Nat.pow_le_pow_right (n:=2) (i:=64) (by omega) (by omega)))
   simp[hi,this]
theorem Good.wds {n:Nat} {l:List Nat} (h:Good n l) (hu:∀ x∈l,x < 18446744073709551616):wds (fo n l) l.length=l:=by
 apply List.ext_getElem
 · rw[wds_len]
 · intro j h1 h2
   rw[wds_get,← h.words hu j h2]
theorem good_last {n K:Nat} {l:List Nat} (hK:K=(n+63) / 64) (hl:l.length=K) (hr:n % 64≠0):Good n l↔l.getD (K - 1) 0 / 2 ^ (n % 64)=0∨¬ l.getD (K - 1) 0 < 18446744073709551616∧Good n l:=by
 constructor
 · intro h
   by_cases hx:l.getD (K - 1) 0 < 18446744073709551616
   · refine .inl (Nat.div_eq_of_lt ?_)
     apply Nat.lt_pow_two_of_testBit;intro i hi;by_cases h64:i < 64
     · have:=h (64 * (K - 1)+i) (by omega) (by omega)
       unfold bitAt at this
       rwa [show (64 * (K - 1)+i) / 64=K - 1 by omega,show (64 * (K - 1)+i) % 64=i by omega] at this
     · exact Nat.testBit_lt_two_pow (Nat.lt_of_lt_of_le hx (Nat.pow_le_pow_right (n:=2) (i:=64) (by omega) (by omega)))
   · exact .inr ⟨hx,h⟩
 · rintro (h | ⟨_,h⟩)
   · intro i h1 h2
     unfold bitAt;have e:i / 64=K - 1:=by omega
     rw[e]
     have hlt:l.getD (K - 1) 0 < 2 ^ (n % 64):=by
      rcases Nat.lt_or_ge (l.getD (K - 1) 0) (2 ^ (n % 64)) with g | g
      · exact g
      · have:=Nat.div_pos g (Nat.pow_pos (by omega))
        omega
     exact Nat.testBit_lt_two_pow (Nat.lt_of_lt_of_le hlt (Nat.pow_le_pow_right (n:=2) (by omega) (by omega)))
   · exact h
theorem good_even {n K:Nat} {l:List Nat} (hK:K=(n+63) / 64) (hl:l.length=K) (hr:n % 64=0):Good n l:=fun i h1 h2=>by omega
section
variable {w : World}
theorem hasBeyond_even (n:Nat) (hr:n % 64=0) (hn:n≤65534) (A:Option Addr) (k c:Nat):Calls Tryz.prog 196 #[.int .i64 (n:Int),.slice A k c] w fun e w'=>e = .returned (.bool false)∧w=w':=by
 have h0:(n:Int) % 64=0:=by omega
 go_enter Tryz.func196,Tryz.ntmps196
 go_wp2
 go_ret
 exact⟨rfl,rfl⟩
theorem hasBeyond_odd (n r x k:Nat) (hr:r=n % 64) (hr0:r≠0) (hn:n≤65534) (b o c:Nat) (hk:k≤9223372036854775807) (hk0:0 < k) (hcell:w.cell? ⟨b,o+(k - 1),none⟩=some (.int .u64 (x:Int))):Calls Tryz.prog 196 #[.int .i64 (n:Int),.slice (some ⟨b,o,none⟩) k c] w fun e w'=>e = .returned (.bool (!decide (x / 2 ^ r=0)))∧w=w':=by
 have h0:(n:Int) % 64=(r:Int):=by omega
 have hr1:((r:Int) == 0)=false:=by simp;omega
 have hr2:((r:Int) != 0)=true:=by simp;omega
 have hr3:(0:Int)≤(r:Int):=by omega
 have hr4:(r:Int) < 64:=by omega
 have hki:((k:Int) - 1).toNat=k - 1:=by omega
 have hk1:(0:Int)≤(k:Int) - 1:=by omega
 have hk2:(k:Int) - 1 < (k:Int):=by omega
 clear hr;go_enter Tryz.func196,Tryz.ntmps196
 go_wp2
 go_ret
 refine⟨congrArg (fun v=>Ending.returned (.bool v)) ?_,rfl⟩
 rw[show (x:Int) / 2 ^ r=((x / 2 ^ r:Nat):Int) by simp];generalize x / 2 ^ r=y;by_cases hy:y=0
 · simp[hy]
 · have:¬ (y:Int)=0:=by omega
   simp[hy]
def OfR (w:World) (n:Nat) (l:List Nat) (e:Ending) (w':World):Prop:=
 ∃ p q C:Nat,e = .returned (.tuple #[.pointer (some ⟨p,0,none⟩),.int .i64 0])∧w.heap.size≤p∧w.heap.size≤q∧Mp w' p q l.length C n (fo n l)∧Below w.heap.size w w'
theorem hasBeyond_any (n K:Nat) (A:Option Addr) (c:Nat) (l:List Nat) (h:Wds w A l) (hn:n≤65534) (hK:K=(n+63) / 64) (hl:l.length=K) (b:Bool) (hb:b=true↔¬ Good n l) :
 Calls Tryz.prog 196 #[.int .i64 (n:Int),.slice A K c] w fun e w'=>e = .returned (.bool b)∧w=w':=by
 by_cases hr:n % 64=0
 · have hg:=good_even hK hl hr
   have:b=false:=by
    cases b with
    | false=>rfl
    | true=>exact absurd hg (hb.1 rfl)
   rw[this];exact hasBeyond_even n hr hn A K c
 · have hk0:0 < K:=by omega
   obtain⟨bb,o,rfl,_,hc⟩:=h.at' (K - 1) (by omega)
   have hx:=h.u64 _ (List.getElem_mem (l:=l) (n:=K - 1) (by omega))
   have:=hasBeyond_odd (w:=w) n (n % 64) l[K - 1] K rfl hr hn bb o c (by omega) hk0 hc
   have hgd:l.getD (K - 1) 0=l[K - 1]:=by rw[List.getD_eq_getElem?_getD,List.getElem?_eq_getElem (by omega),Option.getD_some]
   have hgl:=good_last hK hl hr;rw[hgd] at hgl
   have:b = !decide (l[K - 1] / 2 ^ (n % 64)=0):=by
    rw[Bool.eq_iff_iff,hb,hgl];simp[hx]
   rw[this]
   assumption
theorem of_bad (n:Nat) (A:Option Addr) (c:Nat) (l:List Nat) (h:Wds w A l) (hn:n≤65534) (hl:l.length=(n+63) / 64) (hg:¬ Good n l):Calls Tryz.prog 136 #[.int .i64 (n:Int),.slice A l.length c] w fun e w'=>e = .returned (.tuple #[.pointer none,.int .i64 2])∧w=w':=by
 have HW:=hid (fun w=>wordsOf_any n hn w);have HB:=hid (hasBeyond_any n _ A c l h hn rfl hl true (by simp[hg]));have h0:¬ (n:Int) < 0:=by omega
 have h1:¬ (65534:Int) < (n:Int):=by omega
 rw[hl];have hKl:(n+63) / 64≤2000:=by omega
 generalize (n+63) / 64=K at *;clear hl h hg;go_enter Tryz.func136,Tryz.ntmps136
 go_wp2_with (first | (go_at_call 58;refine (HW.out _).mono ?_;rintro e w' ⟨rfl,rfl⟩) | (go_at_call 196;refine HB.out.mono ?_;rintro e w' ⟨rfl,rfl⟩))
 go_ret2
 exact⟨rfl,rfl⟩
theorem of_yes (n:Nat) (ad:Addr) (c:Nat) (l:List Nat) (h:Wds w (some ad) l) (hn:n≤65534) (hl:l.length=(n+63) / 64) (hg:Good n l):Calls Tryz.prog 136 #[.int .i64 (n:Int),.slice (some ad) l.length c] w (OfR w n l):=by
 have HW:=hid (fun w=>wordsOf_any n hn w);have HB:=hid (hasBeyond_any n _ (some ad) c l h hn rfl hl false (by simp[hg]));have HC:=hid (clone_any ad c l h (by omega));have HG:=hid (fun j hj=>hg.words h.u64 j hj);have HL:=hid hl;have h0:¬ (n:Int) < 0:=by omega
 have h1:¬ (65534:Int) < (n:Int):=by omega
 rw[← hl] at HB HW;have hKl:l.length≤2000:=by omega
 clear hl h hg;go_enter Tryz.func136,Tryz.ntmps136
 go_wp2_with (first | (go_at_call 58;refine (HW.out _).mono ?_;rintro e w' ⟨rfl,rfl⟩) | (go_at_call 196;refine HB.out.mono ?_;rintro e w' ⟨rfl,rfl⟩))
 refine HC.out.mono ?_;rintro e w1 ⟨g,gc,rfl,hgc,hgg,hrow,hbel⟩
 have hrow2:=hrow.congr (g:=fun k=>.int .u64 (wd (fo n l) k:Int)) (fun i hi=>by
  show Value.int .u64 ((l.getD i 0:Nat):Int)=Value.int .u64 (wd (fo n l) i:Int)
  rw[← HG.out i hi,List.getD_eq_getElem?_getD,List.getElem?_eq_getElem hi,Option.getD_some])
 have HX:=hid (show OfR w n l (.returned (.tuple #[.pointer (some ⟨w1.heap.size,0,none⟩),.int .i64 0])) (w1.alloc (.cells #[.int .i64 (n:Int),.slice (some ⟨g,0,none⟩) l.length gc] 125)) from
  ⟨w1.heap.size,g,gc,rfl,hbel.size,hgg,mp_box hrow2 (fo_far n l) hn HL.out hgc,hbel.alloc hbel.size _⟩)
 clear hgc hgg hrow hbel hrow2;go_wp2
 go_ret2;exact HX.out
end
end Bm
end
section
open Go.RowKit Go.MapKept
namespace Lin
structure Box4 (w:World) (b:Nat) (n m s r:Int):Prop where
 lt:b < w.heap.size
 c0:w.cell? ⟨b,0,none⟩=some (.int .i64 n)
 c1:w.cell? ⟨b,1,none⟩=some (.int .i64 m)
 c2:w.cell? ⟨b,2,none⟩=some (.int .i64 s)
 c3:w.cell? ⟨b,3,none⟩=some (.int .i64 r)
theorem Box4.keep {w w':World} {b:Nat} {n m s r:Int} (h:Box4 w b n m s r) (hb:Below w.heap.size w w'):Box4 w' b n m s r:=
 ⟨Nat.lt_of_lt_of_le h.lt hb.size,(hb.cell (p:=⟨b,0,none⟩) h.lt).trans h.c0,(hb.cell (p:=⟨b,1,none⟩) h.lt).trans h.c1,(hb.cell (p:=⟨b,2,none⟩) h.lt).trans h.c2,(hb.cell (p:=⟨b,3,none⟩) h.lt).trans h.c3⟩
theorem Box4.drew {w:World} {b:Nat} {n m s r:Int} (h:Box4 w b n m s r):Box4 w.drew b n m s r:=⟨h.lt,h.c0,h.c1,h.c2,h.c3⟩
theorem Box4.drewN {w:World} {b:Nat} {n m s r:Int} (h:Box4 w b n m s r) (k:Nat):Box4 (w.drewN k) b n m s r:=⟨h.lt,h.c0,h.c1,h.c2,h.c3⟩
theorem boxed4 (w:World) (n m s r:Int) (t:TypeId):Box4 (w.alloc (.cells #[.int .i64 n,.int .i64 m,.int .i64 s,.int .i64 r] t)) w.heap.size n m s r:=
 ⟨by simp,World.cell?_alloc_mark w _ t _ 0,World.cell?_alloc_mark w _ t _ 1,World.cell?_alloc_mark w _ t _ 2,World.cell?_alloc_mark w _ t _ 3⟩
structure Own4 (w:World) (b:Nat) (n m s r:Int):Prop where
 box:Box4 w b n m s r
 f:∀ o,w.frozen? ⟨b,o,none⟩=false
theorem Own4.keep {w w':World} {b:Nat} {n m s r:Int} (h:Own4 w b n m s r) (hb:Below w.heap.size w w'):Own4 w' b n m s r:=
 ⟨h.box.keep hb,fun o=>(hb.frozen (p:=⟨b,o,none⟩) h.box.lt).trans (h.f o)⟩
theorem Own4.drew {w:World} {b:Nat} {n m s r:Int} (h:Own4 w b n m s r):Own4 w.drew b n m s r:=⟨h.box.drew,h.f⟩
theorem Own4.drewN {w:World} {b:Nat} {n m s r:Int} (h:Own4 w b n m s r) (k:Nat):Own4 (w.drewN k) b n m s r:=⟨h.box.drewN k,h.f⟩
theorem owned4 (w:World) (n m s r:Int) (t:TypeId):Own4 (w.alloc (.cells #[.int .i64 n,.int .i64 m,.int .i64 s,.int .i64 r] t)) w.heap.size n m s r:=
 ⟨boxed4 w n m s r t,fun o=>(World.rowIs_alloc w #[.int .i64 n,.int .i64 m,.int .i64 s,.int .i64 r] t (fun i=>if i=0 then .int .i64 n else if i=1 then .int .i64 m else if i=2 then .int .i64 s else .int .i64 r) (fun i hi=>by
   have:i < 4:=hi
   match i,this with
   | 0,_=>rfl
   | 1,_=>rfl
   | 2,_=>rfl
   | 3,_=>rfl)).frozen o⟩
structure En4 (w0:World) (N b g:Nat) (n m s r:Int) (l:List Nat) (w:World):Prop where
 box:Box4 w b n m s r
 row:w.rowIs g 50 8 (rowOf l)
 bg:b≠g
 below:Below N w0 w
 nN:N≤g
theorem En4.keep {w0 w w':World} {N b g:Nat} {n m s r:Int} {l:List Nat} (h:En4 w0 N b g n m s r l w) (hb:Below w.heap.size w w') (hN:N≤w.heap.size):En4 w0 N b g n m s r l w':=
 ⟨h.box.keep hb,h.row.of_block (hb.block _ h.row.lt),h.bg,h.below.trans (hb.mono hN),h.nN⟩
theorem En4.drew {w0 w:World} {N b g:Nat} {n m s r:Int} {l:List Nat} (h:En4 w0 N b g n m s r l w):En4 w0 N b g n m s r l w.drew:=
 ⟨h.box.drew,h.row.drew,h.bg,h.below.drew,h.nN⟩
theorem En4.set {w0 w:World} {N b g:Nat} {n m s r:Int} {l l':List Nat} (h:En4 w0 N b g n m s r l w) (i x:Nat) (e:∀ j,j < 8→(if j=i then x else l[j]?.getD 0)=l'[j]?.getD 0):En4 w0 N b g n m s r l' (w.setCell ⟨g,i,none⟩ (.int .u64 (x:Int))):=
 ⟨⟨by simpa using h.box.lt,(cell_set_other h.bg _).trans h.box.c0,(cell_set_other h.bg _).trans h.box.c1,(cell_set_other h.bg _).trans h.box.c2,(cell_set_other h.bg _).trans h.box.c3⟩,
  (h.row.set i (.int .u64 (x:Int))).congr (fun j hj=>by
   have:=e j hj
   unfold rowOf;rw[← this]
   split<;>rfl),h.bg,h.below.setCell h.nN _,h.nN⟩
theorem fds_four (w:World) {n m s r:Nat} (hn:n < 65536) (hm:m < 65536) (hs:s < 65536) (hr:r < 65536):Pack.Fds (w.alloc (.cells #[.int .i64 16,.int .u64 (n:Int),.int .i64 16,.int .u64 (m:Int),.int .i64 16,.int .u64 (s:Int),.int .i64 16,.int .u64 (r:Int)] 208)) (some ⟨w.heap.size,0,none⟩) [⟨16,n⟩,⟨16,m⟩,⟨16,s⟩,⟨16,r⟩]:=
 ⟨fun f hf=>by
   simp only[List.mem_cons,List.not_mem_nil,or_false] at hf
   rcases hf with rfl | rfl | rfl | rfl<;>exact⟨by simp only;omega,by simp only;omega,by simp only;omega⟩,by simp,fun j hj=>by
   have:j < 4:=hj
   match j,this with
   | 0,_=>exact⟨w.heap.size,0,rfl,by simp,Pack.alloc_cell _ _ _ _,Pack.alloc_cell _ _ _ _⟩
   | 1,_=>exact⟨w.heap.size,0,rfl,by simp,Pack.alloc_cell _ _ _ _,Pack.alloc_cell _ _ _ _⟩
   | 2,_=>exact⟨w.heap.size,0,rfl,by simp,Pack.alloc_cell _ _ _ _,Pack.alloc_cell _ _ _ _⟩
   | 3,_=>exact⟨w.heap.size,0,rfl,by simp,Pack.alloc_cell _ _ _ _,Pack.alloc_cell _ _ _ _⟩⟩
theorem nts_four (w:World):Pack.Nts (w.alloc (.cells #[.int .i64 16,.int .i64 16,.int .i64 16,.int .i64 16] 3)) (some ⟨w.heap.size,0,none⟩) [16,16,16,16]:=
 ⟨fun f hf=>by
   obtain rfl:f=16:=by simpa using hf
   exact⟨by decide,by decide⟩,by decide,fun j hj=>by
   have:j < 4:=hj
   match j,this with
   | 0,_=>exact⟨w.heap.size,0,rfl,by simp,Pack.alloc_cell _ _ _ _⟩
   | 1,_=>exact⟨w.heap.size,0,rfl,by simp,Pack.alloc_cell _ _ _ _⟩
   | 2,_=>exact⟨w.heap.size,0,rfl,by simp,Pack.alloc_cell _ _ _ _⟩
   | 3,_=>exact⟨w.heap.size,0,rfl,by simp,Pack.alloc_cell _ _ _ _⟩⟩
end Lin
end
section
open Go.RowKit Go.MapKept
namespace Rec
open Lin
def May (s f t c:Int):Prop:=(0≤s∧s≤65533)∧(0≤f∧f≤65533)∧(0≤t∧t≤65533)∧(1≤c∧c≤65534)
instance (s f t c:Int):Decidable (May s f t c):=by unfold May;infer_instance
def may (s f t c:Int):Bool:=decide (May s f t c)
def nums (s f t:Nat):Nat:=1+65536 * s+4294967296 * f+281474976710656 * t
def front (s f t c:Nat):List Nat:=[nums s f t,c,0,0,0,0,0]
def sum (s f t c:Nat):Nat:=Crc.S32 (Crc.wflat (front s f t c))
def zero:List Nat:=[0,0,0,0,0,0,0,0]
def ln (s f t c:Nat):List Nat:=[nums s f t,c,0,0,0,0,0,sum s f t c]
theorem ln_len (s f t c:Nat):(ln s f t c).length=8:=rfl
theorem front_len (s f t c:Nat):(front s f t c).length=7:=rfl
theorem nums_lt {s f t:Nat} (hs:s < 65536) (hf:f < 65536) (ht:t < 65536):nums s f t < 18446744073709551616:=by unfold nums;omega
theorem sum_lt (s f t c:Nat):sum s f t c < 4294967296:=s32_lt _
theorem nums_pos (s f t:Nat):nums s f t≠0:=by unfold nums;omega
theorem front_u64 {s f t c:Nat} (hs:s < 65536) (hf:f < 65536) (ht:t < 65536) (hc:c < 18446744073709551616):∀ x∈front s f t c,x < 18446744073709551616:=by
 intro x hx;have h1:=nums_lt hs hf ht;simp only[front,List.mem_cons,List.not_mem_nil,or_false] at hx
 rcases hx with rfl | rfl | rfl | rfl | rfl | rfl | rfl<;>omega
theorem full_u64 {s f t c:Nat} (hs:s < 65536) (hf:f < 65536) (ht:t < 65536) (hc:c < 18446744073709551616):∀ x∈ln s f t c,x < 18446744073709551616:=by
 intro x hx;have h1:=nums_lt hs hf ht;have h2:=sum_lt s f t c;simp only[ln,List.mem_cons,List.not_mem_nil,or_false] at hx
 rcases hx with rfl | rfl | rfl | rfl | rfl | rfl | rfl | rfl<;>omega
theorem may_lt {s f t c:Nat} (h:may s f t c=true):s≤65533∧f≤65533∧t≤65533∧1≤c∧c≤65534:=by
 have h:=of_decide_eq_true h;unfold May at h;omega
theorem ln_u64 {s f t c:Nat} (h:may s f t c=true):∀ x∈ln s f t c,x < 18446744073709551616:=by
 obtain⟨h1,h2,h3,h4,h5⟩:=may_lt h
 exact full_u64 (by omega) (by omega) (by omega) (by omega)
theorem ln_zero (s f t c:Nat):ln s f t c≠zero:=by
 intro h;unfold ln zero at h;injection h with h _
 exact nums_pos s f t h
theorem pk_nums {s f t:Nat} (hs:s < 65536) (hf:f < 65536) (ht:t < 65536):Pack.pk 0 0 [⟨16,1⟩,⟨16,s⟩,⟨16,f⟩,⟨16,t⟩]=some (nums s f t,64):=by
 unfold nums;simp[Pack.pk,hs,hf,ht];omega
theorem split_nums {x:Nat} (hx:x < 18446744073709551616):Pack.split x [16,16,16,16]=some [x % 65536,x / 65536 % 65536,x / 4294967296 % 65536,x / 281474976710656]:=by
 have h:Pack.tot 0 [16,16,16,16]=some 64:=by decide
 unfold Pack.split;rw[h];have e:(2:Nat) ^ 64=18446744073709551616:=rfl
 have:x / 18446744073709551616=0:=by omega
 simp only[e,this];simp[Pack.sp,Nat.div_div_eq_div_mul];omega
def dec (l:List Nat):Option (Nat × Nat × Nat × Nat):=
 let x:Nat:=l[0]?.getD 0
 let c:Nat:=l[1]?.getD 0
 let s:Nat:=x / 65536 % 65536
 let f:Nat:=x / 4294967296 % 65536
 let t:Nat:=x / 281474976710656
 if l.length=8∧may s f t c=true∧l=ln s f t c then some (s,f,t,c) else none
theorem dec_some {l:List Nat} {s f t c:Nat} (h:dec l=some (s,f,t,c)):may s f t c=true∧l=ln s f t c:=by
 unfold dec at h;simp only at h
 split at h
 · rename_i hc
   injection h with h
   injection h with h1 h2
   injection h2 with h2 h3
   injection h3 with h3 h4
   subst h1 h2 h3 h4;exact hc.2
 · cases h
theorem dec_none {l:List Nat} (h:∀ s f t c:Nat,may s f t c=true→l≠ln s f t c):dec l=none:=by
 cases e:dec l with
 | none=>rfl
 | some q=>
   obtain⟨s,f,t,c⟩:=q
   have:=dec_some e
   exact absurd this.2 (h s f t c this.1)
theorem dec_zero:dec zero=none:=dec_none (fun s f t c _ e=>ln_zero s f t c e.symm)
def st (l:List Nat):Int:=if l=zero then 0 else if (dec l).isSome=true then 1 else 2
theorem st_zero:st zero=0:=if_pos rfl
theorem st_some {l:List Nat} {q:Nat × Nat × Nat × Nat} (h:dec l=some q):st l=1:=by
 unfold st
 have h0:l≠zero:=by
  intro e;rw[e,dec_zero] at h
  cases h
 rw[if_neg h0,h];rfl
theorem st_none {l:List Nat} (h0:l≠zero) (h:dec l=none):st l=2:=by
 unfold st;rw[if_neg h0,h];rfl
end Rec
end
section
open Lib (hid)
open Go.RowKit Go.MapKept
namespace Rec
open Lin
theorem within_any (w:World) (n a b:Int) :
 Calls Tryz.prog 186 #[.int .i64 n,.int .i64 a,.int .i64 b] w fun e w'=>e = .returned (.bool (decide (a≤n∧n≤b)))∧w=w':=by
 go_enter Tryz.func186,Tryz.ntmps186
 go_wp2
 · rename_i h
   go_ret
   exact⟨by simp[h],rfl⟩
 · rename_i h
   go_ret
   refine⟨?_,rfl⟩
   have:¬ a≤n:=by omega
   simp[this]
theorem block_any (w:World) (n:Int) :
 Calls Tryz.prog 185 #[.int .i64 n] w fun e w'=>e = .returned (.bool (decide (0≤n∧n≤65533)))∧w=w':=by
 have HW:=hid (fun w=>within_any w n 0 65533);generalize decide (0≤n∧n≤65533)=b at *;go_enter Tryz.func185,Tryz.ntmps185
 go_wp2_with fail
 refine (HW.out _).mono ?_;rintro e w' ⟨rfl,rfl⟩;go_wp2
 go_ret
 exact⟨rfl,rfl⟩
theorem may_any (w:World) (s f t c:Int) :
 Calls Tryz.prog 120 #[.agg #[.int .i64 s,.int .i64 f,.int .i64 t,.int .i64 c]] w fun r w'=>r = .returned (.bool (may s f t c))∧Below w.heap.size w w':=by
 have HB:=hid ((Below.refl w.heap.size w).alloc (Nat.le_refl _) (.cells #[.int .i64 s,.int .i64 f,.int .i64 t,.int .i64 c] 28));have HS:=hid (fun w=>block_any w s);have HF:=hid (fun w=>block_any w f);have HT:=hid (fun w=>block_any w t);have HC:=hid (fun w=>within_any w c 1 65534);by_cases h0:0≤s∧s≤65533
 · skip
   by_cases h1:0≤f∧f≤65533
   · skip
     by_cases h2:0≤t∧t≤65533
     · skip
       by_cases h3:1≤c∧c≤65534
       · have HE:=hid (show may s f t c=true by unfold may May;exact decide_eq_true ⟨h0,h1,h2,h3⟩)
         have E0:=hid (decide_eq_true h0);have E1:=hid (decide_eq_true h1);have E2:=hid (decide_eq_true h2);have E3:=hid (decide_eq_true h3);clear h0 h1 h2 h3;go_enter Tryz.func120,Tryz.ntmps120
         go_wp2_with fail
         refine (HS.out _).mono ?_;rintro e w' ⟨rfl,rfl⟩;rw[E0.out];go_wp2_with fail
         refine (HF.out _).mono ?_;rintro e w' ⟨rfl,rfl⟩;rw[E1.out];go_wp2_with fail
         refine (HT.out _).mono ?_;rintro e w' ⟨rfl,rfl⟩;rw[E2.out];go_wp2_with fail
         refine (HC.out _).mono ?_;rintro e w' ⟨rfl,rfl⟩;rw[E3.out];go_wp2
         go_ret
         exact⟨by rw[HE.out];rfl,HB.out⟩
       · have HE:=hid (show may s f t c=false by unfold may May;exact decide_eq_false (fun h=>h3 h.2.2.2))
         have E0:=hid (decide_eq_true h0);have E1:=hid (decide_eq_true h1);have E2:=hid (decide_eq_true h2);have E3:=hid (decide_eq_false h3);clear h0 h1 h2 h3;go_enter Tryz.func120,Tryz.ntmps120
         go_wp2_with fail
         refine (HS.out _).mono ?_;rintro e w' ⟨rfl,rfl⟩;rw[E0.out];go_wp2_with fail
         refine (HF.out _).mono ?_;rintro e w' ⟨rfl,rfl⟩;rw[E1.out];go_wp2_with fail
         refine (HT.out _).mono ?_;rintro e w' ⟨rfl,rfl⟩;rw[E2.out];go_wp2_with fail
         refine (HC.out _).mono ?_;rintro e w' ⟨rfl,rfl⟩;rw[E3.out];go_wp2
         go_ret
         exact⟨by rw[HE.out];rfl,HB.out⟩
     · have HE:=hid (show may s f t c=false by unfold may May;exact decide_eq_false (fun h=>h2 h.2.2.1))
       have E0:=hid (decide_eq_true h0);have E1:=hid (decide_eq_true h1);have E2:=hid (decide_eq_false h2);clear h0 h1 h2;go_enter Tryz.func120,Tryz.ntmps120
       go_wp2_with fail
       refine (HS.out _).mono ?_;rintro e w' ⟨rfl,rfl⟩;rw[E0.out];go_wp2_with fail
       refine (HF.out _).mono ?_;rintro e w' ⟨rfl,rfl⟩;rw[E1.out];go_wp2_with fail
       refine (HT.out _).mono ?_;rintro e w' ⟨rfl,rfl⟩;rw[E2.out];go_wp2
       go_ret
       exact⟨by rw[HE.out];rfl,HB.out⟩
   · have HE:=hid (show may s f t c=false by unfold may May;exact decide_eq_false (fun h=>h1 h.2.1))
     have E0:=hid (decide_eq_true h0);have E1:=hid (decide_eq_false h1);clear h0 h1;go_enter Tryz.func120,Tryz.ntmps120
     go_wp2_with fail
     refine (HS.out _).mono ?_;rintro e w' ⟨rfl,rfl⟩;rw[E0.out];go_wp2_with fail
     refine (HF.out _).mono ?_;rintro e w' ⟨rfl,rfl⟩;rw[E1.out];go_wp2
     go_ret
     exact⟨by rw[HE.out];rfl,HB.out⟩
 · have HE:=hid (show may s f t c=false by unfold may May;exact decide_eq_false (fun h=>h0 h.1))
   have E0:=hid (decide_eq_false h0);clear h0;go_enter Tryz.func120,Tryz.ntmps120
   go_wp2_with fail
   refine (HS.out _).mono ?_;rintro e w' ⟨rfl,rfl⟩;rw[E0.out];go_wp2
   go_ret
   exact⟨by rw[HE.out];rfl,HB.out⟩
section
variable {w : World}
theorem empty_any (A:Option Addr) (c:Nat) (l:List Nat) (h:Pack.Wds w A l) :
 Calls Tryz.prog 64 #[.slice A l.length c] w fun e w'=>e = .returned (.bool (l.all (fun x=>x == 0)))∧w=w':=by
 have hlen:=h.len;have H:=hid h;clear h;go_enter Tryz.func64,Tryz.ntmps64
 go_wp2
 go_loopw [7] (fun i wr=>∃ j:Nat,j≤l.length∧i = .int .i64 (j:Int)∧(l.take j).all (fun x=>x == 0)=true∧w=wr) (fun i _=>l.length - (intOf i).toNat)
 case atStart=>exact⟨0,Nat.zero_le _,rfl,rfl,rfl⟩
 case round=>
  obtain⟨j,hj,rfl,hs,rfl⟩:=hrel
  have HS:=hid hs;clear hs;by_cases hlt:j < l.length
  · obtain⟨b,o,rfl,hb,hcell⟩:=H.out.at' j hlt
    have hi0:(0:Int)≤(j:Int):=by omega
    have hi1:(j:Int) < (l.length:Int):=by omega
    have HT:=hid (show (l.take (j+1)).all (fun x=>x == 0)=(l[j] == 0) by
     rw[List.take_succ_eq_append_getElem hlt,List.all_append,HS.out]
     simp)
    have HA:=hid (show l[j]≠0→l.all (fun x=>x == 0)=false from fun h=>by
     rw[Bool.eq_false_iff];intro ha;exact h (by simpa using List.all_eq_true.1 ha l[j] (List.getElem_mem _)))
    generalize l[j]=x at *;by_cases hx:x=0
    · subst hx
      go_wp2
      refine⟨⟨j+1,by omega,by go_num,HT.out,trivial⟩,by simp[intOf];omega⟩
    · have HN:=hid (HA.out hx)
      have hne:¬ (x:Int)=0:=by omega
      clear HA HT hx;go_wp2
      go_ret
      exact⟨by rw[HN.out];rfl,rfl⟩
  · obtain rfl:j=l.length:=by omega
    have HN:=hid (show l.all (fun x=>x == 0)=true by have:=HS.out;rwa [List.take_length] at this);go_wp2
    go_ret
    exact⟨by rw[HN.out];rfl,rfl⟩
end
theorem all_zero {l:List Nat} (hl:l.length=8):l.all (fun x=>x == 0)=decide (l=zero):=by
 have e:∀ l:List Nat,l.all (fun x=>x == 0)=true→l=List.replicate l.length 0:=fun l h=>List.eq_replicate_iff.2 ⟨rfl,fun x hx=>by simpa using List.all_eq_true.1 h x hx⟩
 cases h:l.all (fun x=>x == 0) with
 | true=>
   have:=e l h
   rw[hl] at this;exact (decide_eq_true this).symm
 | false=>
   refine (decide_eq_false (fun h0=>?_)).symm;rw[h0] at h
   revert h
   decide
end Rec
end
section
open Lib (hid)
open Go.RowKit Go.MapKept
namespace Rec
open Lin
theorem field_any (w:World) (n:Nat) (h:n < 65536) :
 Calls Tryz.prog 122 #[.int .i64 (n:Int)] w fun r w'=>r = .returned (.agg #[.int .i64 16,.int .u64 (n:Int)])∧Below w.heap.size w w':=by
 go_enter Tryz.func122,Tryz.ntmps122
 go_wp2
 refine bodyPost_ret (v:=.agg #[.int .i64 16,.int .u64 (n:Int)]) ?_ rfl ⟨rfl,?_⟩
 · simp[results,Tryz.results122,go_sem]
 · first
   | exact (Below.refl _ _).alloc (Nat.le_refl _) _
   | exact (((Below.refl _ _).alloc (Nat.le_refl _) _).setCell (by simp) _).setCell (by simp) _
theorem field_one (w:World):Calls Tryz.prog 122 #[.int .i64 1] w fun r w'=>r = .returned (.agg #[.int .i64 16,.int .u64 1])∧Below w.heap.size w w':=field_any w 1 (by decide)
theorem nums_any (w:World) {s f t:Nat} (hs:s < 65536) (hf:f < 65536) (ht:t < 65536):Calls Tryz.prog 121 #[.slice (some ⟨w.heap.size,0,none⟩) 4 4] (w.alloc (.cells #[.int .i64 16,.int .u64 1,.int .i64 16,.int .u64 (s:Int),.int .i64 16,.int .u64 (f:Int),.int .i64 16,.int .u64 (t:Int)] 208)) fun e w'=>e = .returned (.tuple #[.int .u64 (nums s f t:Nat),.bool true])∧Below w.heap.size w w':=by
 refine (Pack.pack_any _ 4 _ (fds_four w (n:=1) (by decide) hs hf ht)).mono ?_;rintro e w' ⟨rfl,hb⟩;rw[pk_nums hs hf ht];have hb0:=(Below.refl w.heap.size w).alloc (Nat.le_refl _) (.cells #[.int .i64 16,.int .u64 ((1:Nat):Int),.int .i64 16,.int .u64 (s:Int),.int .i64 16,.int .u64 (f:Int),.int .i64 16,.int .u64 (t:Int)] 208)
 exact⟨rfl,hb0.trans (hb.mono hb0.size)⟩
theorem encode_no (w:World) (s f t c:Int) (hm:may s f t c=false) :
 Calls Tryz.prog 66 #[.agg #[.int .i64 s,.int .i64 f,.int .i64 t,.int .i64 c]] w fun r w'=>r = .returned (.tuple #[.slice none 0 0,.int .i64 1])∧Below w.heap.size w w':=by
 have HM:=hid (fun w=>may_any w s f t c);have HE:=hid hm;clear hm;have HB:=hid ((Below.refl w.heap.size w).alloc (Nat.le_refl _) (.cells #[.int .i64 s,.int .i64 f,.int .i64 t,.int .i64 c] 28));go_enter Tryz.func66,Tryz.ntmps66
 go_wp2_with fail
 refine (HM.out _).mono ?_;rintro e w' ⟨rfl,hb⟩;rw[HE.out];have HB1:=hid (HB.out.trans (hb.mono HB.out.size));clear hb;go_wp2
 go_ret2
 exact⟨rfl,HB1.out⟩
theorem set_nums (x:Nat) (j:Nat) (_h:j < 8):(if j=0 then x else ([]:List Nat)[j]?.getD 0)=[x][j]?.getD 0:=by
 match j with
 | 0=>rfl
 | j+1=>simp
theorem set_count (x y:Nat) (j:Nat) (_h:j < 8):(if j=1 then y else [x][j]?.getD 0)=[x,y][j]?.getD 0:=by
 match j with
 | 0=>rfl
 | 1=>rfl
 | j+2=>simp
theorem set_sum (x y z:Nat) (j:Nat) (h:j < 8):(if j=7 then z else [x,y][j]?.getD 0)=[x,y,0,0,0,0,0,z][j]?.getD 0:=by
 have:j=0∨j=1∨j=2∨j=3∨j=4∨j=5∨j=6∨j=7:=by omega
 rcases this with rfl | rfl | rfl | rfl | rfl | rfl | rfl | rfl<;>rfl
theorem front_crc {w:World} {g s f t c:Nat} (h:w.rowIs g 50 8 (rowOf [nums s f t,c])) (hs:s < 65536) (hf:f < 65536) (ht:t < 65536) (hc:c < 18446744073709551616):Crc.Wds w (some ⟨g,0,none⟩) (front s f t c):=by
 refine row_crc h (by rw[front_len];omega) (front_u64 hs hf ht hc) ?_;intro j hj
 have:j < 7:=hj
 have:j=0∨j=1∨j=2∨j=3∨j=4∨j=5∨j=6:=by omega
 rcases this with rfl | rfl | rfl | rfl | rfl | rfl | rfl<;>rfl
theorem encode_yes (w:World) (s f t c:Nat) (hm:may s f t c=true) :
 Calls Tryz.prog 66 #[.agg #[.int .i64 (s:Int),.int .i64 (f:Int),.int .i64 (t:Int),.int .i64 (c:Int)]] w fun r w'=>∃ g:Nat,w.heap.size≤g∧r = .returned (.tuple #[.slice (some ⟨g,0,none⟩) 8 8,.int .i64 0])∧w'.rowIs g 50 8 (rowOf (ln s f t c))∧Below w.heap.size w w':=by
 obtain⟨h1,h2,h3,h4,h5⟩:=may_lt hm
 have HM:=hid (fun w=>may_any w s f t c);have HE:=hid hm;have HN0:=hid (fun w=>field_one w);have HN1:=hid (fun w=>field_any w s (by omega));have HN2:=hid (fun w=>field_any w f (by omega));have HN3:=hid (fun w=>field_any w t (by omega));have HP:=hid (fun w=>nums_any w (s:=s) (f:=f) (t:=t) (by omega) (by omega) (by omega));have hs64:s < 65536:=by omega
 have hf64:f < 65536:=by omega
 have ht64:t < 65536:=by omega
 have hc64:c < 18446744073709551616:=by omega
 clear hm;have HB:=hid ((Below.refl w.heap.size w).alloc (Nat.le_refl _) (.cells #[.int .i64 (s:Int),.int .i64 (f:Int),.int .i64 (t:Int),.int .i64 (c:Int)] 28));have HX:=hid (boxed4 w s f t c 28);go_enter Tryz.func66,Tryz.ntmps66
 go_wp2_with fail
 refine (HM.out _).mono ?_;rintro e w1 ⟨rfl,hb⟩;rw[HE.out];have HB1:=hid (HB.out.trans (hb.mono HB.out.size));have HX1:=hid (HX.out.keep hb);have hsz:w.heap.size < w1.heap.size:=HX1.out.lt;clear hb HX;have hmk:=run_make_row' (P:=Tryz.prog) 22 50 _ 8 Tryz.underlying22 Pack.u64_info rfl .i64 .i64 8 (by omega) (by omega) w1;rw[show ((8:Nat):Int)=8 from rfl] at hmk;have hb2:=(Below.refl w1.heap.size w1).alloc (Nat.le_refl _) (.cells (madeCells #[.int .u64 0] 8) 50);have HE2:=hid (show En4 w w.heap.size w.heap.size w1.heap.size s f t c [] (w1.alloc (.cells (madeCells #[.int .u64 0] 8) 50)) from ⟨HX1.out.keep hb2,row_made w1,by omega,HB1.out.trans (hb2.mono HB1.out.size),HB1.out.size⟩);clear hb2 HX1 HB1 HB HM HE;go_wp2
 generalize w1.alloc (.cells (madeCells #[.int .u64 0] 8) 50)=w2 at *;generalize hg:w1.heap.size=g at *;clear hg hmk;have hs2:w.heap.size < w2.heap.size:=HE2.out.box.lt;have hc0:=HE2.out.box.c0;have hc1:=HE2.out.box.c1;have hc2:=HE2.out.box.c2
 go_region_held3 (fun W'=>W'.cell? ⟨w.heap.size,0,none⟩=some (.int .i64 (s:Int))∧W'.cell? ⟨w.heap.size,1,none⟩=some (.int .i64 (f:Int))∧W'.cell? ⟨w.heap.size,2,none⟩=some (.int .i64 (t:Int))) (go_keep)
  (first
  | (go_at_call 122
     with_reducible refine (HN0.out _).mono ?_
     rintro e w3 ⟨rfl,hb⟩;have HE3:=hid (HE2.out.drew.keep hb (Nat.le_of_lt HE2.out.drew.box.lt));have ha0:=HE3.out.box.c0;have ha1:=HE3.out.box.c1;have ha2:=HE3.out.box.c2;clear hb)
  | (go_at_call 122
     with_reducible refine (HN1.out _).mono ?_
     rintro e w4 ⟨rfl,hb⟩;have HE4:=hid (HE3.out.keep hb (Nat.le_of_lt HE3.out.box.lt));have hk0:=HE4.out.box.c0;have hk1:=HE4.out.box.c1;have hk2:=HE4.out.box.c2;clear hb)
  | (go_at_call 122
     with_reducible refine (HN2.out _).mono ?_
     rintro e w5 ⟨rfl,hb⟩;have HE5:=hid (HE4.out.keep hb (Nat.le_of_lt HE4.out.box.lt));have hl0:=HE5.out.box.c0;have hl1:=HE5.out.box.c1;have hl2:=HE5.out.box.c2;clear hb)
  | (go_at_call 122
     with_reducible refine (HN3.out _).mono ?_
     rintro e w6 ⟨rfl,hb⟩;have HE6:=hid (HE5.out.keep hb (Nat.le_of_lt HE5.out.box.lt));have hm0:=HE6.out.box.c0;have hm1:=HE6.out.box.c1;have hm2:=HE6.out.box.c2;clear hb)
  | (go_at_call 121
     with_reducible refine (HP.out _).mono ?_
     rintro e w8 ⟨rfl,hb⟩;have HE8:=hid (HE6.out.keep hb (Nat.le_of_lt HE6.out.box.lt));have hn0:=HE8.out.box.c0;have hn1:=HE8.out.box.c1;have hn2:=HE8.out.box.c2;have hn3:=HE8.out.row.cell (i:=0) (by omega);have hn4:=HE8.out.row.frozen 0;have HE9:=hid (HE8.out.set 0 (nums s f t) (set_nums _));have hq0:=HE9.out.box.c0;have hq1:=HE9.out.box.c1;have hq2:=HE9.out.box.c2;clear hb))
 clear ha0 ha1 ha2 hk0 hk1 hk2 hl0 hl1 hl2 hm0 hm1 hm2 hn0 hn1 hn2 hn3 hn4 hq0 hq1 hq2 hc0 hc1 hc2 HE3 HE4 HE5 HE6 HE8 HE2 HN0 HN1 HN2 HN3 HP hs2;generalize w8.setCell ⟨g,0,none⟩ (.int .u64 (nums s f t:Int))=w9 at *;have hs9:w.heap.size < w9.heap.size:=HE9.out.box.lt;have hc3:=HE9.out.box.c3;have hrc:=HE9.out.row.cell (i:=1) (by omega);have hrf:=HE9.out.row.frozen 1;have HE10:=hid (HE9.out.set 1 c (set_count _ _));have HC:=hid (Crc.words32_any (some ⟨g,0,none⟩) 8 (front s f t c) (front_crc HE10.out.row hs64 hf64 ht64 hc64));have hsl:=sum_lt s f t c;have hrc7:=HE10.out.row.cell (i:=7) (by omega);have hrf7:=HE10.out.row.frozen 7;go_wp2_with fail
 refine HC.out.mono ?_;rintro e w' ⟨rfl,rfl⟩;rw[show Crc.S32 (Crc.wflat (front s f t c))=sum s f t c from rfl];clear HC hc3 hrc hrf;generalize w9.setCell ⟨g,1,none⟩ (.int .u64 (c:Int))=w10 at *;go_wp2
 go_ret2;have h11:=HE10.out.set 7 (sum s f t c) (set_sum _ _ _)
 exact⟨g,h11.nN,rfl,h11.row,h11.below⟩
end Rec
end
section
open Lib (hid)
open Go.RowKit Go.MapKept
namespace Rec
open Lin
def gv:Option (Nat × Nat × Nat × Nat)→Value
 | some (s,f,t,c)=>.agg #[.int .i64 (s:Int),.int .i64 (f:Int),.int .i64 (t:Int),.int .i64 (c:Int)]
 | none=>.agg #[.int .i64 0,.int .i64 0,.int .i64 0,.int .i64 0]
theorem split_yes (w:World) (N:Nat) (hN:w.heap.size=N) (x:Nat) (h:x < 18446744073709551616):Calls Tryz.prog 65 #[.int .u64 (x:Int),.slice (some ⟨N,0,none⟩) 4 4] (w.alloc (.cells #[.int .i64 16,.int .i64 16,.int .i64 16,.int .i64 16] 3)) fun e w'=>∃ (b o gc:Nat),e = .returned (.tuple #[.slice (some ⟨b,o,none⟩) 4 gc,.bool true])∧(b < w'.heap.size∧w'.cell? ⟨b,o+1,none⟩=some (.int .u64 ((x / 65536 % 65536:Nat):Int))∧w'.cell? ⟨b,o+2,none⟩=some (.int .u64 ((x / 4294967296 % 65536:Nat):Int))∧w'.cell? ⟨b,o+3,none⟩=some (.int .u64 ((x / 281474976710656:Nat):Int)))∧Below w.heap.size w w':=by
 subst hN;refine (Pack.split_any x h _ 4 _ (nts_four w)).mono ?_;rintro e w' ⟨G,gc,rfl,hw,hb⟩;have hb0:=(Below.refl w.heap.size w).alloc (Nat.le_refl _) (.cells #[.int .i64 16,.int .i64 16,.int .i64 16,.int .i64 16] 3);rw[split_nums h] at hw ⊢;simp only[Option.getD_some] at hw
 obtain⟨b,o,rfl,hlt,hc1⟩:=hw.at' 1 (by simp)
 obtain⟨b',o',e,_,hc2⟩:=hw.at' 2 (by simp)
 injection e with e
 injection e with e1 e2
 subst e1 e2
 obtain⟨b',o',e,_,hc3⟩:=hw.at' 3 (by simp)
 injection e with e
 injection e with e1 e2
 subst e1 e2
 exact⟨b,o,gc,rfl,⟨hlt,hc1,hc2,hc3⟩,hb0.trans (hb.mono hb0.size)⟩
section
variable {w : World}
theorem decode_any (A:Option Addr) (cp:Nat) (l:List Nat) (h:Pack.Wds w A l) :
 Calls Tryz.prog 30 #[.slice A l.length cp] w fun r w'=>r = .returned (.tuple #[gv (dec l),.int .i64 (st l)])∧Below w.heap.size w w':=by
 have hlen:=h.len;have HB:=hid ((Below.refl w.heap.size w).alloc (Nat.le_refl _) (.cells #[.int .i64 0,.int .i64 0,.int .i64 0,.int .i64 0] 28));have HX:=hid (owned4 w 0 0 0 0 28);by_cases hl:l.length=8
 · have HEM:=hid (empty_any A cp l (h.keep HB.out))
   rw[all_zero hl,hl] at HEM;rw[hl];by_cases hz:l=zero
   · subst hz
     have HM:=HEM;rw[decide_eq_true rfl] at HM;have HD:=hid dec_zero;have HST:=hid st_zero;clear HEM;go_enter Tryz.func30,Tryz.ntmps30
     go_wp2_with fail
     refine HM.out.mono ?_;rintro e w1 ⟨rfl,rfl⟩;go_wp2
     rw[HD.out,HST.out];refine bodyPost_ret (v:=.tuple #[gv none,.int .i64 0]) ?_ rfl ⟨rfl,?_⟩
     · simp[results,Tryz.results30,go_sem,gv]
     · exact HB.out
   · rw[decide_eq_false hz] at HEM
     obtain⟨b,o,rfl,hb,hcell⟩:=h.at' 0 (by omega)
     rw[Nat.add_zero] at hcell
     obtain⟨b',o',e,_,hcell1⟩:=h.at' 1 (by omega)
     injection e with e
     injection e with e1 e2
     subst e1 e2;have hx:=h.u64 l[0] (List.getElem_mem _);have hy:=h.u64 l[1] (List.getElem_mem _);have HD0:=hid (show l[0]?.getD 0=l[0] by rw[List.getElem?_eq_getElem (by omega)];rfl);have HD1:=hid (show l[1]?.getD 0=l[1] by rw[List.getElem?_eq_getElem (by omega)];rfl);have H:=hid h;have HL:=hid hl;have HZ:=hid hz;clear h hz;generalize l[0]=x at *;generalize l[1]=y at *;clear hl
     obtain⟨s,hs⟩:∃ s,s=x / 65536 % 65536:=⟨_,rfl⟩
     obtain⟨f,hf⟩:∃ f,f=x / 4294967296 % 65536:=⟨_,rfl⟩
     obtain⟨t,ht⟩:∃ t,t=x / 281474976710656:=⟨_,rfl⟩
     have hs1:s < 65536:=by omega
     have hf1:f < 65536:=by omega
     have ht1:t < 65536:=by omega
     have HS:=hid (split_yes (w.alloc (.cells #[.int .i64 0,.int .i64 0,.int .i64 0,.int .i64 0] 28)) (w.heap.size+1) (World.size_alloc _ _) x hx);rw[← hs,← hf,← ht] at HS
     have HD:=hid (show dec l=if may s f t y=true∧l=ln s f t y then some (s,f,t,y) else none by
      unfold dec;simp only[HD0.out,HD1.out,← hs,← hf,← ht];by_cases hc:may s f t y=true∧l=ln s f t y
      · rw[if_pos hc,if_pos ⟨HL.out,hc⟩]
      · rw[if_neg hc,if_neg (fun h=>hc h.2)])
     clear hs hf ht HD0 HD1
     obtain⟨S,hS⟩:∃ S,S=IntKind.wrap .i64 (y:Int):=⟨_,rfl⟩
     have HMS:=hid (show may s f t S=may s f t y by
      rw[IntKind.wrap_i64] at hS;by_cases h63:y < 9223372036854775808
      · have:S=(y:Int):=by omega
        rw[this]
      · have h1:may s f t S=false:=by
         unfold may May;exact decide_eq_false (by omega)
        have h2:may s f t y=false:=by
         unfold may May;exact decide_eq_false (by omega)
        rw[h1,h2])
     have HSY:=hid (show may s f t y=true→S=(y:Int) by
      intro hm
      have:=(may_lt hm).2.2.2
      rw[IntKind.wrap_i64] at hS
      omega)
     have hws:IntKind.wrap .i64 (s:Int)=(s:Int):=by rw[IntKind.wrap_i64];omega
     have hwf:IntKind.wrap .i64 (f:Int)=(f:Int):=by rw[IntKind.wrap_i64];omega
     have hwt:IntKind.wrap .i64 (t:Int)=(t:Int):=by rw[IntKind.wrap_i64];omega
     have hwy:IntKind.wrap .i64 (y:Int)=S:=hS.symm;clear hS;have hcellx:=(HB.out.cell (p:=⟨b,o,none⟩) hb).trans hcell;go_enter Tryz.func30,Tryz.ntmps30
     go_wp2_with fail
     refine HEM.out.mono ?_;rintro e w0 ⟨rfl,rfl⟩;clear HEM;go_wp2_with fail
     refine HS.out.mono ?_;rintro e w1 ⟨b1,o1,gc,rfl,⟨hb1,hq1,hq2,hq3⟩,hbw⟩;have HX1:=hid (HX.out.keep hbw);have HB1:=hid (HB.out.trans (hbw.mono HB.out.size));have hz1:w.heap.size < w1.heap.size:=HX1.out.box.lt;have hcy:w1.cell? ⟨b,o+1,none⟩=some (.int .u64 (y:Int)):=(HB1.out.cell (p:=⟨b,o+1,none⟩) hb).trans hcell1;have hbw1:b < w1.heap.size:=Nat.lt_of_lt_of_le hb HB1.out.size;have H1:=hid (H.out.keep HB1.out);clear hbw HS HX HB H hcell hcell1 hcellx;go_wp2
     go_region
     have hba:=(Below.refl w1.heap.size w1).alloc (Nat.le_refl _) (.cells #[.int .i64 (s:Int),.int .i64 (f:Int),.int .i64 (t:Int),.int .i64 S] 28);have HX2:=hid (HX1.out.keep hba).drew;have HG2:=hid (boxed4 w1 s f t S 28).drew;have HB2:=hid (HB1.out.trans (hba.mono HB1.out.size)).drew;have H2:=hid (H1.out.keep hba.drew);clear hws hwf hwt hwy hba HX1 HB1 H1 hb1 hq1 hq2 hq3 hcy hbw1;go_wp2_with fail
     generalize (w1.alloc (.cells #[.int .i64 (s:Int),.int .i64 (f:Int),.int .i64 (t:Int),.int .i64 S] 28)).drew=w2 at *;generalize w1.heap.size=k1 at *
     cases hmay:may s f t y with
     | false=>
       have HN:=hid (show dec l=none by rw[HD.out,if_neg (fun h=>by rw[hmay] at h;simp at h)]);have HST:=hid (st_none HZ.out HN.out);refine (encode_no _ s f t S (by rw[HMS.out];exact hmay)).mono ?_;rintro e w3 ⟨rfl,hb3⟩;have HX3:=hid (HX2.out.keep hb3);have HB3:=hid (HB2.out.trans (hb3.mono HB2.out.size));clear hb3 hmay HX2 HB2 H2 HD HMS HSY;have hc0:=HX3.out.box.c0;have hc1:=HX3.out.box.c1;have hc2:=HX3.out.box.c2;have hc3:=HX3.out.box.c3;have hf0:=HX3.out.f 0;have hf1:=HX3.out.f 1;have hf2:=HX3.out.f 2;have hf3:=HX3.out.f 3;go_wp2
       rw[HN.out,HST.out];refine bodyPost_ret (v:=.tuple #[gv none,.int .i64 2]) ?_ rfl ⟨rfl,?_⟩
       · simp[results,Tryz.results30,go_sem,gv,hc0,hc1,hc2,hc3]
       · exact (((HB3.out.setCell (Nat.le_refl _) _).setCell (Nat.le_refl _) _).setCell (Nat.le_refl _) _).setCell (Nat.le_refl _) _
     | true=>
       obtain rfl:=HSY.out hmay;refine (encode_yes _ s f t y hmay).mono ?_;rintro e w3 ⟨g,hg,rfl,hrow,hb3⟩;have he:=equal_any (some ⟨b,o,none⟩) (some ⟨g,0,none⟩) cp 8 l (ln s f t y) (H2.out.keep hb3) (row_pack hrow (ln_len _ _ _ _) (ln_u64 hmay));rw[HL.out,ln_len] at he;have HE:=hid he;have HX3:=hid (HX2.out.keep hb3);have HG3:=hid (HG2.out.keep hb3);have HB3:=hid (HB2.out.trans (hb3.mono HB2.out.size));have HM:=hid hmay;clear hb3 hmay HX2 HB2 H2 he hrow HG2 HMS HSY;go_wp2_with fail
       refine HE.out.mono ?_;rintro e w4 ⟨rfl,q,hq⟩;have HX4:=hid (show Own4 w4 w.heap.size 0 0 0 0 by rw[hq];exact HX3.out.drewN q);have HG4:=hid (show Box4 w4 k1 s f t y by rw[hq];exact HG3.out.drewN q);have HB4:=hid (show Below w.heap.size w w4 by rw[hq];exact Pack.below_drewN HB3.out q);clear hq HX3 HG3 HB3 HE;have hc0:=HX4.out.box.c0;have hc1:=HX4.out.box.c1;have hc2:=HX4.out.box.c2;have hc3:=HX4.out.box.c3;have hf0:=HX4.out.f 0;have hf1:=HX4.out.f 1;have hf2:=HX4.out.f 2;have hf3:=HX4.out.f 3;by_cases hls:l=ln s f t y
       · have HN:=hid (show dec l=some (s,f,t,y) by rw[HD.out,if_pos ⟨HM.out,hls⟩])
         have HST:=hid (st_some HN.out);rw[decide_eq_true hls];have hg0:=HG4.out.c0;have hg1:=HG4.out.c1;have hg2:=HG4.out.c2;have hg3:=HG4.out.c3;clear hls HD HM HZ;go_wp2
         rw[HN.out,HST.out];refine bodyPost_ret (v:=.tuple #[gv (some (s,f,t,y)),.int .i64 1]) ?_ rfl ⟨rfl,?_⟩
         · simp[results,Tryz.results30,go_sem,gv,hc0,hc1,hc2,hc3]
         · exact (((HB4.out.setCell (Nat.le_refl _) _).setCell (Nat.le_refl _) _).setCell (Nat.le_refl _) _).setCell (Nat.le_refl _) _
       · have HN:=hid (show dec l=none by rw[HD.out,if_neg (fun h=>hls h.2)])
         have HST:=hid (st_none HZ.out HN.out);rw[decide_eq_false hls];clear hls HD HM HZ;go_wp2
         rw[HN.out,HST.out];refine bodyPost_ret (v:=.tuple #[gv none,.int .i64 2]) ?_ rfl ⟨rfl,?_⟩
         · simp[results,Tryz.results30,go_sem,gv,hc0,hc1,hc2,hc3]
         · exact (((HB4.out.setCell (Nat.le_refl _) _).setCell (Nat.le_refl _) _).setCell (Nat.le_refl _) _).setCell (Nat.le_refl _) _
 · have HN:=hid (show dec l=none by
    unfold dec;exact if_neg (fun h=>hl h.1))
   have HST:=hid (st_none (fun h=>hl (by rw[h];rfl)) HN.out);have hl':¬ (l.length:Int)=8:=by omega
   go_enter Tryz.func30,Tryz.ntmps30
   go_wp2
   rw[HN.out,HST.out];refine bodyPost_ret (v:=.tuple #[gv none,.int .i64 2]) ?_ rfl ⟨rfl,?_⟩
   · simp[results,Tryz.results30,go_sem,gv]
   · exact HB.out
end
end Rec
end
end Go.Proofs.YtlodpaaanfjkeaaGreatDoor
