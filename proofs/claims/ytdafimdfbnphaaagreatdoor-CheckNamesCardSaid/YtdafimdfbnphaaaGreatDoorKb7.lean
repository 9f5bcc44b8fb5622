/- Texts laid together: ClmTake, ClmScan, VolStill, BmOf, BmRefOf, VolRefRead, ClmZero, FldOpen, FldMath, ClmTell, ClmChain, VolBlock, FldBytes, ClmOpen, ClmUsed, ClmNext, ChnRange. -/
import Derived.Test.YtdafimdfbnphaaaGreatDoorKb6
import Derived.Test.YtdafimdfbnphaaaGreatDoorKb1
import Derived.Test.YtdafimdfbnphaaaGreatDoorKb4
import Derived.Test.YtdafimdfbnphaaaGreatDoorKb5
import Derived.Test.YtdafimdfbnphaaaGreatDoorKa2
import Derived.Test.YtdafimdfbnphaaaGreatDoorKb2
import Derived.IntWalk
import Derived.Laws.CopyRow
import Derived.RangeFuncWrites
import Derived.RangeFuncNested
import Derived.RangeFuncBound
import Derived.RangeFuncCalls
import Derived.RangeFuncLeaves
import Derived.RangeFuncBox
import Derived.Shelf.Abstract
import Derived.Shelf.RegionOpen
import Derived.WalkKit
import Derived.OwnWalkIn
import Derived.TacticsInMore
import Derived.LoopNIn
import Derived.LoopIn
import Derived.Test.YtdafimdfbnphaaaGreatDoorKa1
import Derived.Lib.Hide
import Derived.Test.YtdafimdfbnphaaaGreatDoorKb3
/- Texts. -/
namespace Go.Proofs.YtdafimdfbnphaaaGreatDoor
open Lib (hid)
open Go.RowKit Go.MapKept
namespace Clm
open Chn (Pt New Prt slots Mays tot blk blk_len rd pat fw RdN read_new)
open Vol (Vo Hb hb_new rdw)
open Pack (Nts)
open Lin (take_yes take_no)
def gi (W:List Nat) (n m s i:Nat):Option Cl:=one (fw W (16+m * 8)) n s (Ino.dec (rdw W (16+8 * i) 8))
theorem gi_ok {W:List Nat} {n m s i:Nat} {c:Cl} (h:gi W n m s i=some c):Ok (fw W (16+m * 8)) n s c:=one_ok h fun _ _ _ hd=>(Ino.dec_some hd).1
theorem prt_nat (s z:Nat) (hs:0 < s):Geo.prt (z:Int) (s:Int)=((need s z:Nat):Int):=by
 have h1:=Nat.div_add_mod z s
 have h2:=Nat.mod_lt z hs
 have key:∀ c,c=z / s+(if z % s=0 then 0 else 1)→c=need s z:=fun c hc=>(need_iff hs).2 (by
  have h3:z / s * s+z % s=z:=by rw[Nat.mul_comm];exact h1
  generalize z / s=d at *
  generalize z % s=r at *
  subst hc
  by_cases h0:r=0
  · rw[if_pos h0,Nat.add_zero]
    refine⟨by omega,fun e he=>?_⟩
    have h4:(e+1) * s≤d * s:=Nat.mul_le_mul_right s (by omega)
    rw[Nat.add_mul] at h4
    omega
  · rw[if_neg h0,Nat.add_mul]
    refine⟨by omega,fun e he=>?_⟩
    have h4:e * s≤d * s:=Nat.mul_le_mul_right s (by omega)
    omega)
 have h5:=key _ rfl
 rw[← h5]
 unfold Geo.prt
 by_cases h0:z % s=0
 · rw[if_pos h0,if_pos (by omega)]
   omega
 · rw[if_neg h0,if_neg (by omega)]
   omega
theorem hd0 (W:World):Below W.heap.size W W.drew:=⟨rfl,rfl,rfl,Nat.le_refl _,fun _ _=>rfl⟩
def TkTo (W:List Nat) (n m s:Nat) (P:Pc) (L:List Cl) (w:World) (r:Ending) (w':World):Prop:=
 (add L (gi W n m s L.length)=none∧r = .returned (.bool false)∧Below P.lo w w') ∨
 (∃ c N C X,gi W n m s L.length=some c∧(sl L++sls c.l).Nodup∧(bl L++blk c.l).Nodup∧r = .returned (.bool true)∧Cq w' P n m (L++[c]) N C X∧Below P.lo w w')
section
variable {Q : Nat → Prop} {w : World} {vb a n m s : Nat} {W : List Nat} {st sn : Nat} {P : Pc} {L : List Cl} {N C X : Array Value}
set_option maxHeartbeats 4000000 in
set_option maxRecDepth 100000 in
theorem take_any (hv:Vo Q w vb a n m s W st sn) (h:Cq w P n m L N C X) (ho:Oks (fw W (16+m * 8)) n s L) (hi:L.length < m) :
 Calls Tryz.prog 61 #[.pointer (some ⟨P.c,0,none⟩),.pointer (some ⟨vb,0,none⟩),.int .i64 (L.length:Int)] w (TkTo W n m s P L w):=by
 have HI:=hid (Vol.inode_yes hv L.length hi)
 have HV:=hid hv
 have H:=hid h
 have HO:=hid ho
 have HGI:=hid (show gi W n m s L.length=one (fw W (16+m * 8)) n s (Ino.dec (rdw W (16+8 * L.length) 8)) from rfl)
 have HDM:=hid (fun k p z (hd:Ino.dec (rdw W (16+8 * L.length) 8)=some (k,p,z))=>(Ino.dec_some hd).1)
 have HNB:=hid (show P.lo≤w.heap.size by have:=h.cr.ord.le;have:=h.cr.lt;omega)
 clear hv h ho
 generalize Ino.dec (rdw W (16+8 * L.length) 8)=dc at *
 go_enter Tryz.func61,Tryz.ntmps61
 cases dc with
 | none=>
   have hI:=HI.out
   simp only[Ino.gv,Ino.ev] at hI
   have HI:=hid hI
   clear hI
   go_wp2_with fail
   refine HI.out.mono ?_
   rintro r w1 ⟨rfl,hb⟩
   have HB:=hid (hb.alloc hb.size (.cells #[.int .i64 0,.int .i64 (-1),.int .i64 0] 84))
   go_wp2
   go_ret
   refine .inl ⟨by rw[HGI.out];rfl,rfl,HB.out.mono HNB.out⟩
 | some t=>
   obtain⟨k,p,z⟩:=t
   have hI:=HI.out
   simp only[Ino.gv,Ino.ev] at hI
   have HI:=hid hI
   have hmy:=HDM.out k p z rfl
   have hlt:=Ino.may_lt hmy
   obtain⟨hd,hhd⟩:∃ hd:Int,hd=(p:Int) - 1:=⟨_,rfl⟩
   rw[← hhd] at HI
   have HHD:=hid hhd
   have HLT:=hid hlt
   clear hI HDM hmy hlt hhd
   go_wp2_with fail
   refine HI.out.mono ?_
   rintro r w1 ⟨rfl,hb⟩
   have hal:=(Below.refl w1.heap.size w1).alloc (Nat.le_refl _) (.cells #[.int .i64 (k:Int),.int .i64 hd,.int .i64 (z:Int)] 84)
   have HB2:=hid (hb.trans (hal.mono hb.size))
   have HX2:=hid (hb_new w1 #[.int .i64 (k:Int),.int .i64 hd,.int .i64 (z:Int)] 84)
   have hbs:=hb.size
   clear hb hal
   have x1:=HX2.out.cell 1
   have xl:=HX2.out.lt
   go_wp2_with fail
   clear x1 xl
   generalize w1.alloc (.cells #[.int .i64 (k:Int),.int .i64 hd,.int .i64 (z:Int)] 84)=w2 at *
   have HXB:=hid (show P.c < w1.heap.size by have:=H.out.cr.lt;have:=hbs;omega)
   clear hbs
   generalize w1.heap.size=xb at *
   have HRD:=hid (read_new (HV.out.keep HB2.out) hd)
   refine HRD.out.mono ?_
   intro e w3 k3
   unfold RdN at k3
   cases hr:rd (pat (fw W (16+m * 8)) n) n hd with
   | none=>
     rw[hr] at k3
     obtain⟨rfl,hb⟩:=k3
     have HAD:=hid (show add L (gi W n m s L.length)=none by
      rw[HGI.out,one_none (by rw[← HHD.out];exact hr)]
      rfl)
     have hal:=(Below.refl w3.heap.size w3).alloc (Nat.le_refl _) (.cells #[.slice none 0 0,.slice none 0 0] 90)
     have HB4:=hid (HB2.out.trans ((hb.trans (hal.mono hb.size)).mono HB2.out.size))
     clear hb hal hr
     go_wp2_with fail
     refine wp_region_held_drew (S:=(fun _=>True)) (by kernel_rfl) ?_ (fun hHeld=>?_)
     · trivial
     refine take_yes 0 25 (.int .i64 2) rfl rfl (by kernel_rfl) (by kernel_rfl) (by kernel_rfl) (fun _ _ _ h=>h) rfl ?_ (by assumption) ?_
     · intro w hSw
       try dsimp only at hSw
       go_simp
     simp only[Act.put,List.setIfInBounds_toArray,List.set_cons_zero,List.set_cons_succ]
     refine take_yes 1 26 (.bool true) rfl rfl (by kernel_rfl) (by kernel_rfl) (by kernel_rfl) (fun _ _ _ h=>h) rfl ?_ (by assumption) ?_
     · intro w hSw
       try dsimp only at hSw
       go_simp
     simp only[Act.put,List.setIfInBounds_toArray,List.set_cons_zero,List.set_cons_succ]
     refine take_yes 2 27 (.bool true) rfl rfl (by kernel_rfl) (by kernel_rfl) (by kernel_rfl) (fun _ _ _ h=>h) rfl ?_ (by assumption) ?_
     · intro w hSw
       try dsimp only at hSw
       go_simp
     simp only[Act.put,List.setIfInBounds_toArray,List.set_cons_zero,List.set_cons_succ]
     refine take_no 3 28 rfl rfl (by kernel_rfl) (by kernel_rfl) (by kernel_rfl) (fun _ _ _ h=>h) rfl (by assumption) ?_
     simp only[Act.put,List.setIfInBounds_toArray,List.set_cons_zero,List.set_cons_succ]
     refine take_no 4 29 rfl rfl (by kernel_rfl) (by kernel_rfl) (by kernel_rfl) (fun _ _ _ h=>h) rfl (by assumption) ?_
     simp only[Act.put,List.setIfInBounds_toArray,List.set_cons_zero,List.set_cons_succ]
     refine take_no 5 30 rfl rfl (by kernel_rfl) (by kernel_rfl) (by kernel_rfl) (fun _ _ _ h=>h) rfl (by assumption) ?_
     simp only[Act.put,List.setIfInBounds_toArray,List.set_cons_zero,List.set_cons_succ]
     refine take_no 6 31 rfl rfl (by kernel_rfl) (by kernel_rfl) (by kernel_rfl) (fun _ _ _ h=>h) rfl (by assumption) ?_
     simp only[Act.put,List.setIfInBounds_toArray,List.set_cons_zero,List.set_cons_succ]
     refine take_no 7 32 rfl rfl (by kernel_rfl) (by kernel_rfl) (by kernel_rfl) (fun _ _ _ h=>h) rfl (by assumption) ?_
     simp only[Act.put,List.setIfInBounds_toArray,List.set_cons_zero,List.set_cons_succ]
     refine take_no 8 33 rfl rfl (by kernel_rfl) (by kernel_rfl) (by kernel_rfl) (fun _ _ _ h=>h) rfl (by assumption) ?_
     simp only[Act.put,List.setIfInBounds_toArray,List.set_cons_zero,List.set_cons_succ]
     refine take_no 9 34 rfl rfl (by kernel_rfl) (by kernel_rfl) (by kernel_rfl) (fun _ _ _ h=>h) rfl (by assumption) ?_
     simp only[Act.put,List.setIfInBounds_toArray,List.set_cons_zero,List.set_cons_succ]
     refine take_no 10 35 rfl rfl (by kernel_rfl) (by kernel_rfl) (by kernel_rfl) (fun _ _ _ h=>h) rfl (by assumption) ?_
     simp only[Act.put,List.setIfInBounds_toArray,List.set_cons_zero,List.set_cons_succ]
     refine take_yes 11 36 (.bool true) rfl rfl (by kernel_rfl) (by kernel_rfl) (by kernel_rfl) (fun _ _ _ h=>h) rfl ?_ (by assumption) ?_
     · intro w hSw
       try dsimp only at hSw
       go_simp
     simp only[Act.put,List.setIfInBounds_toArray,List.set_cons_zero,List.set_cons_succ]
     refine wpAnyH_done (by kernel_rfl) ?_ _
     go_wp2
     go_ret
     exact .inl ⟨HAD.out,rfl,(HB4.out.trans ((hd0 _).mono HB4.out.size)).mono HNB.out⟩
   | some l=>
     rw[hr] at k3
     obtain⟨A,ac,D,dc,rfl,hA,hD,hcap,hnw,hb⟩:=k3
     have HHR:=hid hr
     have hok:∀ x∈sls l,x < n:=fun x hx=>by
      obtain⟨p,hp,rfl⟩:=List.mem_map.1 hx
      exact (Chn.path_mem (Chn.rd_iff.1 hr).1 p hp).1
     have hok2:∀ x∈blk l,x < n:=fun x hx=>by
      obtain⟨p,hp,h1,h2⟩:=blk_mem hx
      have:=(Chn.path_mem (Chn.rd_iff.1 hr).1 p hp).2.2
      omega
     have hmy:Mays l:=fun p hp=>(Slo.dec_some (Chn.path_mem (Chn.rd_iff.1 hr).1 p hp).2.1).1
     have hll:l.length≤n:=(Chn.rd_iff.1 hr).2
     have HMY:=hid hmy
     have HOK:=hid hok
     have HOK2:=hid hok2
     have HN4:=hid H.out.cr.bm.max
     have hll:=show l.length≤65534 by have:=HN4.out;omega
     have hal:=(Below.refl w3.heap.size w3).alloc (Nat.le_refl _) (.cells #[.slice A l.length ac,.slice D l.length dc] 90)
     have hb4:=hb.trans (hal.mono hb.size)
     have HB4:=hid (HB2.out.trans (hb4.mono HB2.out.size))
     have HX4:=hid (HX2.out.keep hb4)
     have HC4:=hid (hb_new w3 #[.slice A l.length ac,.slice D l.length dc] 90)
     have HA4:=hid (hA.keep hal)
     have HD4:=hid (hD.keep hal)
     have HW:=hid hnw
     have HCP:=hid hcap
     have hb3s:=hb.size
     clear hb hal hb4 hr hA hD hnw hcap hok hok2 hmy HX2 HRD
     go_wp2_with fail
     generalize w3.alloc (.cells #[.slice A l.length ac,.slice D l.length dc] 90)=w4 at *
     have HLBN:=hid (show P.c < w3.heap.size by have:=H.out.cr.lt;have:=hb3s;have:=HB2.out.size;omega)
     clear hb3s
     generalize w3.heap.size=lb at *
     clear w3
     have h0:=HX4.out.cell 0
     have h1:=HX4.out.cell 1
     have h2:=HX4.out.cell 2
     have xl:=HX4.out.lt
     have g0:=HC4.out.cell 0
     have g1:=HC4.out.cell 1
     have gl:=HC4.out.lt
     have HCT:=hid (Chn.count_any w4.drew A D l.length ac dc l (HD4.out.keep (hd0 w4)) HMY.out hll)
     have hnd:Geo.need (n:Int) (m:Int) (s:Int) (z:Int)=((need s z:Nat):Int):=by
      rw[Geo.need_yes HV.out.may (by omega)]
      exact prt_nat _ _ (by have:=HV.out.num.2.2;unfold Geo.Sz at this;omega)
     have HND:=hid (fun w'=>hnd ▸ Geo.need_any w' (n:Int) (m:Int) (s:Int) (z:Int) (by have:=HLT.out.2.2;omega))
     clear hnd
     obtain⟨nd,hnd⟩:∃ nd,nd=need s z:=⟨_,rfl⟩
     obtain⟨tt,htt⟩:∃ tt,tt=tot l:=⟨_,rfl⟩
     rw[← hnd] at HND
     rw[← htt] at HCT
     have HNN:=hid hnd
     have HTT:=hid htt
     clear hnd htt
     by_cases heq:tt=nd
     · subst heq
       go_wp2_with fail
       go_region_held3 (fun W'=>W'.cell? ⟨lb,0,none⟩=some (.slice A l.length ac)∧W'.cell? ⟨lb,1,none⟩=some (.slice D l.length dc)∧W'.cell? ⟨xb,2,none⟩=some (.int .i64 (z:Int))) (go_keep)
        (first
        | (go_at_call 85
           with_reducible refine HCT.out.mono ?_
           rintro r w5 ⟨rfl,hb⟩
           have HB5:=hid (HB4.out.trans (((hd0 w4).trans (hb.mono (hd0 w4).size)).mono HB4.out.size))
           have HX5:=hid (HX4.out.keep ((hd0 w4).trans (hb.mono (hd0 w4).size)))
           have HC5:=hid (HC4.out.keep ((hd0 w4).trans (hb.mono (hd0 w4).size)))
           have HA5:=hid (HA4.out.keep ((hd0 w4).trans (hb.mono (hd0 w4).size)))
           have HD5:=hid (HD4.out.keep ((hd0 w4).trans (hb.mono (hd0 w4).size)))
           have HGE:=hid (Vol.geometry_any (HV.out.keep HB5.out))
           have a2:=HX5.out.cell 2
           have b0:=HC5.out.cell 0
           have b1:=HC5.out.cell 1
           clear hb)
        | (go_at_call 59
           with_reducible refine HGE.out.mono ?_
           rintro r w6 ⟨rfl,hb⟩
           have HB6:=hid (HB5.out.trans (hb.mono HB5.out.size))
           have HX6:=hid (HX5.out.keep hb)
           have HC6:=hid (HC5.out.keep hb)
           have HA6:=hid (HA5.out.keep hb)
           have HD6:=hid (HD5.out.keep hb)
           have c2:=HX6.out.cell 2
           have d0:=HC6.out.cell 0
           have d1:=HC6.out.cell 1
           clear hb)
        | (go_at_call 124
           with_reducible refine (HND.out _).mono ?_
           rintro r w7 ⟨rfl,hb⟩
           have HB7:=hid (HB6.out.trans (hb.mono HB6.out.size))
           have HX7:=hid (HX6.out.keep hb)
           have HC7:=hid (HC6.out.keep hb)
           have HA7:=hid (HA6.out.keep hb)
           have HD7:=hid (HD6.out.keep hb)
           have e2:=HX7.out.cell 2
           have i0:=HC7.out.cell 0
           have i1:=HC7.out.cell 1
           clear hb))
       clear h0 h1 h2 xl g0 g1 gl a2 b0 b1 c2 d0 d1 HX5 HC5 HA5 HD5 HX6 HC6 HA6 HD6 HX4 HC4 HA4 HD4 HCT HND HGE
       have hq:=(H.out.keep HB7.out).cr
       have q0:=hq.claim.cell 0
       have q1:=hq.claim.cell 1
       have ql:=hq.lt
       have hsn:=hq.sn
       have hsc:=hq.sc
       obtain⟨u0,n0⟩:∃ v,w7.cell? ⟨P.nb,L.length * 3,none⟩=some v:=⟨_,(hq.nodes.cell (L.length * 3)).trans (Array.getElem?_eq_getElem (by omega))⟩
       obtain⟨u1,n1⟩:∃ v,w7.cell? ⟨P.nb,L.length * 3+1,none⟩=some v:=⟨_,(hq.nodes.cell (L.length * 3+1)).trans (Array.getElem?_eq_getElem (by omega))⟩
       obtain⟨u2,n2⟩:∃ v,w7.cell? ⟨P.nb,L.length * 3+2,none⟩=some v:=⟨_,(hq.nodes.cell (L.length * 3+2)).trans (Array.getElem?_eq_getElem (by omega))⟩
       obtain⟨u3,c0⟩:∃ v,w7.cell? ⟨P.cb,L.length * 2,none⟩=some v:=⟨_,(hq.chains.cell (L.length * 2)).trans (Array.getElem?_eq_getElem (by omega))⟩
       obtain⟨u4,c1⟩:∃ v,w7.cell? ⟨P.cb,L.length * 2+1,none⟩=some v:=⟨_,(hq.chains.cell (L.length * 2+1)).trans (Array.getElem?_eq_getElem (by omega))⟩
       have nf0:=hq.nodes.frozen (L.length * 3)
       have nf1:=hq.nodes.frozen (L.length * 3+1)
       have nf2:=hq.nodes.frozen (L.length * 3+2)
       have cf0:=hq.chains.frozen (L.length * 2)
       have cf1:=hq.chains.frozen (L.length * 2+1)
       have nl:=hq.nodes.lt
       have chl:=hq.chains.lt
       have hm:=hq.max
       have x0:=HX7.out.cell 0
       have x1:=HX7.out.cell 1
       have x2:=HX7.out.cell 2
       have xl:=HX7.out.lt
       have ll:=HC7.out.lt
       have hne1:¬ P.nb=P.cb:=hq.ord.ne.1
       have hne2:¬ P.cb=P.nb:=Ne.symm hq.ord.ne.1
       have HLB:=hid (show xb≠P.nb∧xb≠P.cb∧lb≠P.nb∧lb≠P.cb by have:=HXB.out;have:=HLBN.out;have:=hq.ord.lt;omega)
       have hx1:=HLB.out.1
       have hx2:=HLB.out.2.1
       have hx3:=HLB.out.2.2.1
       have hx4:=HLB.out.2.2.2
       clear hq hsn hsc
       go_wp2_with fail
       go_region
       go_wp2_with fail
       have hor:=And.intro H.out.cr.ord.le H.out.cr.ord.lt
       have hcr8:=((((((H.out.keep HB7.out).cr.set_n (L.length * 3) (.int .i64 (k:Int))).set_n (L.length * 3+1) (.int .i64 hd)).set_n (L.length * 3+2) (.int .i64 (z:Int))).set_c (L.length * 2) (.slice A l.length ac)).set_c (L.length * 2+1) (.slice D l.length dc)).keep (hd0 _)
       have hfr8:=((((((Fr.refl (P.c+1) w7).set (a:=⟨P.nb,L.length * 3,none⟩) (by show P.nb < P.c+1;omega) (.int .i64 (k:Int))).set (a:=⟨P.nb,L.length * 3+1,none⟩) (by show P.nb < P.c+1;omega) (.int .i64 hd)).set (a:=⟨P.nb,L.length * 3+2,none⟩) (by show P.nb < P.c+1;omega) (.int .i64 (z:Int))).set (a:=⟨P.cb,L.length * 2,none⟩) (by show P.cb < P.c+1;omega) (.slice A l.length ac)).set (a:=⟨P.cb,L.length * 2+1,none⟩) (by show P.cb < P.c+1;omega) (.slice D l.length dc)).trans (fr_below (hd0 _))
       have hbl8:=((((((HB7.out.mono HNB.out).setCell (p:=⟨P.nb,L.length * 3,none⟩) hor.1.1 (.int .i64 (k:Int))).setCell (p:=⟨P.nb,L.length * 3+1,none⟩) hor.1.1 (.int .i64 hd)).setCell (p:=⟨P.nb,L.length * 3+2,none⟩) hor.1.1 (.int .i64 (z:Int))).setCell (p:=⟨P.cb,L.length * 2,none⟩) hor.1.2.1 (.slice A l.length ac)).setCell (p:=⟨P.cb,L.length * 2+1,none⟩) hor.1.2.1 (.slice D l.length dc)).drew
       have HR8:=hid hcr8
       have HF8:=hid hfr8
       have HB8:=hid hbl8
       clear hcr8 hfr8 hbl8 q0 q1 ql n0 n1 n2 c0 c1 nf0 nf1 nf2 cf0 cf1 nl chl x0 x1 x2 xl ll i0 i1 e2
       generalize ((((((w7.setCell ⟨P.nb,L.length * 3,none⟩ (.int .i64 (k:Int))).setCell ⟨P.nb,L.length * 3+1,none⟩ (.int .i64 hd)).setCell ⟨P.nb,L.length * 3+2,none⟩ (.int .i64 (z:Int))).setCell ⟨P.cb,L.length * 2,none⟩ (.slice A l.length ac)).setCell ⟨P.cb,L.length * 2+1,none⟩ (.slice D l.length dc)).drew)=w8 at *
       have hnA:New (P.c+1) A∧New (P.c+1) D:=by
        have h9:P.c+1≤w2.heap.size:=by have:=H.out.cr.lt;have:=HB2.out.size;omega
        exact⟨fun x e=>Nat.le_trans h9 (HW.out.1 x e),fun x e=>Nat.le_trans h9 (HW.out.2 x e)⟩
       have HNA:=hid hnA
       have HA8:=hid (nts_fr HA7.out hnA.1 HF8.out)
       have HD8:=hid (prt_fr HD7.out hnA.2 HF8.out)
       refine (give_any HR8.out HO.out.bl HO.out.sl l A D ac dc L.length HA8.out HD8.out hnA.1 HMY.out hll HOK.out HOK2.out).mono ?_
       rintro e w9 k9
       have HGY:=hid (show gi W n m s L.length=some ⟨k,p,z,l⟩ by
        rw[HGI.out,one_yes (l:=l) (by rw[← HHD.out];exact HHR.out) (by rw[← HTT.out,← HNN.out])])
       unfold GvTo at k9
       rcases k9 with ⟨h1,rfl,h3⟩ | ⟨⟨h1,h1'⟩,rfl,X',h3,h4,h5,h6⟩
       · have HK:=hid (show add L (gi W n m s L.length)=none by rw[HGY.out];exact add_not h1)
         have HB9:=hid (HB8.out.trans h3)
         clear h1 h3
         go_wp2
         go_ret
         exact .inl ⟨HK.out,rfl,HB9.out⟩
       · have HB9:=hid (HB8.out.trans h6)
         have hf9:Fr (P.c+1) w7 w9:=HF8.out.trans h5
         have hf10:Fr (P.c+1) w w9:=(fr_below HB7.out).trans hf9
         have HQ:=hid (show Cq w9 P n m (L++[⟨k,p,z,l⟩]) _ _ _ from
          ⟨by rw[bl_snoc,sl_snoc];exact h3,by
            have:=H.out.nod.snoc (c:=⟨k,p,z,l⟩) H.out.cr.sn hi
            simp only at this
            rw[← HHD.out] at this
            exact this,(H.out.chs.fr hf10).snoc (c:=⟨k,p,z,l⟩) H.out.cr.sc hi (nts_fr HA8.out HNA.out.1 h5) (prt_fr HD8.out HNA.out.2 h5) HCP.out HNA.out,H.out.plc.snoc (c:=⟨k,p,z,l⟩) h4 h1'⟩)
         have H1:=hid h1
         have H1':=hid h1'
         clear h1 h1' h3 h4 h5 h6 hf9 hf10
         go_wp2
         go_ret
         exact .inr ⟨⟨k,p,z,l⟩,_,_,_,HGY.out,H1.out,H1'.out,rfl,HQ.out,HB9.out⟩
     · have hne:((tt:Int) != (nd:Int))=true:=by
        simp only[bne_iff_ne,ne_eq]
        omega
       have HAD:=hid (show add L (gi W n m s L.length)=none by
        rw[HGI.out,one_not (l:=l) (by rw[← HHD.out];exact HHR.out) (by rw[← HTT.out,← HNN.out];exact heq)]
        rfl)
       clear heq
       go_wp2_with fail
       go_region_held3 (fun W'=>W'.cell? ⟨lb,0,none⟩=some (.slice A l.length ac)∧W'.cell? ⟨lb,1,none⟩=some (.slice D l.length dc)∧W'.cell? ⟨xb,2,none⟩=some (.int .i64 (z:Int))) (go_keep)
        (first
        | (go_at_call 85
           with_reducible refine HCT.out.mono ?_
           rintro r w5 ⟨rfl,hb⟩
           have HB5:=hid (HB4.out.trans (((hd0 w4).trans (hb.mono (hd0 w4).size)).mono HB4.out.size))
           have HX5:=hid (HX4.out.keep ((hd0 w4).trans (hb.mono (hd0 w4).size)))
           have HC5:=hid (HC4.out.keep ((hd0 w4).trans (hb.mono (hd0 w4).size)))
           have HA5:=hid (HA4.out.keep ((hd0 w4).trans (hb.mono (hd0 w4).size)))
           have HD5:=hid (HD4.out.keep ((hd0 w4).trans (hb.mono (hd0 w4).size)))
           have HGE:=hid (Vol.geometry_any (HV.out.keep HB5.out))
           have a2:=HX5.out.cell 2
           have b0:=HC5.out.cell 0
           have b1:=HC5.out.cell 1
           clear hb)
        | (go_at_call 59
           with_reducible refine HGE.out.mono ?_
           rintro r w6 ⟨rfl,hb⟩
           have HB6:=hid (HB5.out.trans (hb.mono HB5.out.size))
           have HX6:=hid (HX5.out.keep hb)
           have HC6:=hid (HC5.out.keep hb)
           have HA6:=hid (HA5.out.keep hb)
           have HD6:=hid (HD5.out.keep hb)
           have c2:=HX6.out.cell 2
           have d0:=HC6.out.cell 0
           have d1:=HC6.out.cell 1
           clear hb)
        | (go_at_call 124
           with_reducible refine (HND.out _).mono ?_
           rintro r w7 ⟨rfl,hb⟩
           have HB7:=hid (HB6.out.trans (hb.mono HB6.out.size))
           have HX7:=hid (HX6.out.keep hb)
           have HC7:=hid (HC6.out.keep hb)
           have HA7:=hid (HA6.out.keep hb)
           have HD7:=hid (HD6.out.keep hb)
           have e2:=HX7.out.cell 2
           have i0:=HC7.out.cell 0
           have i1:=HC7.out.cell 1
           clear hb))
       go_wp2
       go_ret
       exact .inl ⟨HAD.out,rfl,HB7.out.mono HNB.out⟩
end
end Clm
end Go.Proofs.YtdafimdfbnphaaaGreatDoor
/- Texts. -/
namespace Go.Proofs.YtdafimdfbnphaaaGreatDoor
open Lib (hid)
open Go.RowKit Go.MapKept
namespace Clm
open Chn (Pt New Prt slots Mays tot blk blk_len rd pat fw)
open Vol (Vo Hb hb_new rdw)
open Pack (Nts)
open Lin (take_yes take_no any_states op_step)
def on (b:Bool) (v:Value):Value:=bif b then v else undef
theorem on_true (v:Value):on true v=v:=rfl
theorem on_false (v:Value):on false v=undef:=rfl
def nodes0 (m:Nat):Array Value:=madeCells #[.int .i64 0,.int .i64 0,.int .i64 0] (m * 3)
def chains0 (m:Nat):Array Value:=madeCells #[.slice none 0 0,.slice none 0 0] (m * 2)
def places0 (n:Nat):Array Value:=madeCells #[.int .i64 0,.int .i64 0] (n * 2)
structure Sc (w0:World) (B gb n m s k:Nat) (x y z:Bool) (nb cb pb bq sq:Nat) (W:World):Prop where
 below:Below B w0 W
 hB:B≤W.heap.size
 geo:Hb W gb #[.int .i64 (n:Int),.int .i64 (m:Int),.int .i64 (s:Int)] 122
 f1:x=true→Hb W nb (nodes0 m) 84∧B≤nb
 f2:y=true→Hb W cb (chains0 m) 90∧B≤cb
 f3:z=true→Hb W pb (places0 n) 255∧B≤pb
 f4:1≤k→Bm.Mp W (bq+1) bq ((n+63) / 64) ((n+63) / 64) n (fun _=>false)∧B≤bq
 f5:2≤k→Bm.Mp W (sq+1) sq ((n+63) / 64) ((n+63) / 64) n (fun _=>false)∧bq+1 < sq
 d12:x=true→y=true→nb≠cb
 d13:x=true→z=true→nb≠pb
 d23:y=true→z=true→cb≠pb
 d14:x=true→1≤k→nb≠bq∧nb≠bq+1
 d24:y=true→1≤k→cb≠bq∧cb≠bq+1
 d34:z=true→1≤k→pb≠bq∧pb≠bq+1
 d15:x=true→2≤k→nb≠sq∧nb≠sq+1
 d25:y=true→2≤k→cb≠sq∧cb≠sq+1
 d35:z=true→2≤k→pb≠sq∧pb≠sq+1
section
variable {w0 W W' : World} {B gb n m s k nb cb pb bq sq : Nat} {x y z : Bool}
theorem Sc.keep (h:Sc w0 B gb n m s k x y z nb cb pb bq sq W) (hb:Below W.heap.size W W'):Sc w0 B gb n m s k x y z nb cb pb bq sq W':=
 ⟨h.below.trans (hb.mono h.hB),Nat.le_trans h.hB hb.size,h.geo.keep hb,fun e=>⟨(h.f1 e).1.keep hb,(h.f1 e).2⟩,fun e=>⟨(h.f2 e).1.keep hb,(h.f2 e).2⟩,fun e=>⟨(h.f3 e).1.keep hb,(h.f3 e).2⟩,fun e=>⟨(h.f4 e).1.keep hb,(h.f4 e).2⟩,fun e=>⟨(h.f5 e).1.keep hb,(h.f5 e).2⟩,
   h.d12,h.d13,h.d23,h.d14,h.d24,h.d34,h.d15,h.d25,h.d35⟩
theorem Sc.lt4 (h:Sc w0 B gb n m s k x y z nb cb pb bq sq W) (e:1≤k):bq+1 < W.heap.size:=(h.f4 e).1.lt
theorem Sc.lt5 (h:Sc w0 B gb n m s k x y z nb cb pb bq sq W) (e:2≤k):sq+1 < W.heap.size:=(h.f5 e).1.lt
theorem Sc.new1 (h:Sc w0 B gb n m s k x y z nb cb pb bq sq W):Sc w0 B gb n m s k true y z W.heap.size cb pb bq sq (W.alloc (.cells (nodes0 m) 84)):=by
 have hk:=h.keep ((Below.refl W.heap.size W).alloc (Nat.le_refl _) (.cells (nodes0 m) 84))
 exact⟨hk.below,hk.hB,hk.geo,fun _=>⟨hb_new W _ _,h.hB⟩,hk.f2,hk.f3,hk.f4,hk.f5,fun _ e=>Nat.ne_of_gt (h.f2 e).1.lt,fun _ e=>Nat.ne_of_gt (h.f3 e).1.lt,hk.d23,
  fun _ e=>by have:=h.lt4 e;omega,hk.d24,hk.d34,fun _ e=>by have:=h.lt5 e;omega,hk.d25,hk.d35⟩
theorem Sc.new2 (h:Sc w0 B gb n m s k x y z nb cb pb bq sq W):Sc w0 B gb n m s k x true z nb W.heap.size pb bq sq (W.alloc (.cells (chains0 m) 90)):=by
 have hk:=h.keep ((Below.refl W.heap.size W).alloc (Nat.le_refl _) (.cells (chains0 m) 90))
 exact⟨hk.below,hk.hB,hk.geo,hk.f1,fun _=>⟨hb_new W _ _,h.hB⟩,hk.f3,hk.f4,hk.f5,fun e _=>Nat.ne_of_lt (h.f1 e).1.lt,hk.d13,fun _ e=>Nat.ne_of_gt (h.f3 e).1.lt,
  hk.d14,fun _ e=>by have:=h.lt4 e;omega,hk.d34,hk.d15,fun _ e=>by have:=h.lt5 e;omega,hk.d35⟩
theorem Sc.new3 (h:Sc w0 B gb n m s k x y z nb cb pb bq sq W):Sc w0 B gb n m s k x y true nb cb W.heap.size bq sq (W.alloc (.cells (places0 n) 255)):=by
 have hk:=h.keep ((Below.refl W.heap.size W).alloc (Nat.le_refl _) (.cells (places0 n) 255))
 exact⟨hk.below,hk.hB,hk.geo,hk.f1,hk.f2,fun _=>⟨hb_new W _ _,h.hB⟩,hk.f4,hk.f5,hk.d12,fun e _=>Nat.ne_of_lt (h.f1 e).1.lt,fun e _=>Nat.ne_of_lt (h.f2 e).1.lt,
  hk.d14,hk.d24,fun _ e=>by have:=h.lt4 e;omega,hk.d15,hk.d25,fun _ e=>by have:=h.lt5 e;omega⟩
theorem Sc.new4 (h:Sc w0 B gb n m s 0 x y z nb cb pb bq sq W) (hm:Bm.Mp W' (W.heap.size+1) W.heap.size ((n+63) / 64) ((n+63) / 64) n (fun _=>false)) (hb:Below W.heap.size W W'):Sc w0 B gb n m s 1 x y z nb cb pb W.heap.size sq W':=by
 have hk:=h.keep hb
 exact⟨hk.below,hk.hB,hk.geo,hk.f1,hk.f2,hk.f3,fun _=>⟨hm,h.hB⟩,fun e=>by omega,hk.d12,hk.d13,hk.d23,
  fun e _=>by have:=(h.f1 e).1.lt;omega,fun e _=>by have:=(h.f2 e).1.lt;omega,fun e _=>by have:=(h.f3 e).1.lt;omega,fun _ e=>by omega,fun _ e=>by omega,fun _ e=>by omega⟩
theorem Sc.new5 (h:Sc w0 B gb n m s 1 x y z nb cb pb bq sq W) (hm:Bm.Mp W' (W.heap.size+1) W.heap.size ((n+63) / 64) ((n+63) / 64) n (fun _=>false)) (hb:Below W.heap.size W W'):Sc w0 B gb n m s 2 x y z nb cb pb bq W.heap.size W':=by
 have hk:=h.keep hb
 exact⟨hk.below,hk.hB,hk.geo,hk.f1,hk.f2,hk.f3,fun _=>hk.f4 (by omega),fun _=>⟨hm,h.lt4 (by omega)⟩,hk.d12,hk.d13,hk.d23,
  fun e _=>h.d14 e (by omega),fun e _=>h.d24 e (by omega),fun e _=>h.d34 e (by omega),
  fun e _=>by have:=(h.f1 e).1.lt;omega,fun e _=>by have:=(h.f2 e).1.lt;omega,fun e _=>by have:=(h.f3 e).1.lt;omega⟩
end
def lst (s:Nat × Bool × Bool × Bool):Array Bool:=#[true,true,s.2.1,true,true,s.2.2.1,true,true,Nat.blt 0 s.1,true,true,Nat.blt 1 s.1,true,true,s.2.2.2,false,false,false]
def left (s:Nat × Bool × Bool × Bool):Nat:=(2 - s.1)+((!s.2.1).toNat+((!s.2.2.1).toNat+(!s.2.2.2).toNat))
def calls:Nat→List Nat
 | 0=>[8]
 | 1=>[11]
 | _=>[]
def rdy (s:Nat × Bool × Bool × Bool):List Nat:=(bif s.2.1 then [] else [2])++((bif s.2.2.1 then [] else [5])++(calls s.1++(bif s.2.2.2 then [] else [14])))
def act (vb gb n m s k:Nat) (x y z:Bool) (nb cb pb bq sq:Nat):Act:=
 { tmps:=#[.pointer (some ⟨vb,0,none⟩),undef,.pointer none,.int .i64 0,.pointer (some ⟨gb,0,none⟩),undef,undef,.pointer (some ⟨vb,0,none⟩),.agg #[.int .i64 (n:Int),.int .i64 (m:Int),.int .i64 (s:Int)],.pointer (some ⟨gb,1,none⟩),.int .i64 (m:Int),on x (.slice (some ⟨nb,0,none⟩) m m),.pointer (some ⟨gb,1,none⟩),.int .i64 (m:Int),on y (.slice (some ⟨cb,0,none⟩) m m),.pointer (some ⟨gb,0,none⟩),.int .i64 (n:Int),on (Nat.blt 0 k) (.pointer (some ⟨bq+1,0,none⟩)),.pointer (some ⟨gb,0,none⟩),.int .i64 (n:Int),on (Nat.blt 1 k) (.pointer (some ⟨sq+1,0,none⟩)),.pointer (some ⟨gb,0,none⟩),.int .i64 (n:Int),on z (.slice (some ⟨pb,0,none⟩) n n),undef,undef,undef,undef,undef,undef,undef,undef,undef,undef,undef,undef,undef,undef],defers:=[] }
theorem left_pos {k:Nat} {x y z:Bool} (hk:k≤2) (h:left (k,x,y,z)=0):k=2∧x=true∧y=true∧z=true:=by
 unfold left at h
 cases x<;>cases y<;>cases z<;>simp at h ⊢<;>omega
theorem left_call {k:Nat} {x y z:Bool} (hk:k < 2):left (k,x,y,z)=left (k+1,x,y,z)+1:=by
 unfold left
 simp only
 omega
theorem left_one (k:Nat) (y z:Bool):left (k,false,y,z)=left (k,true,y,z)+1:=by
 unfold left
 simp
 omega
theorem left_two (k:Nat) (x z:Bool):left (k,x,false,z)=left (k,x,true,z)+1:=by
 unfold left
 simp
 omega
theorem left_three (k:Nat) (x y:Bool):left (k,x,y,false)=left (k,x,y,true)+1:=by
 unfold left
 simp
 omega
def ScTo (W:List Nat) (n m s:Nat) (w:World) (r:Ending) (w':World):Prop:=
 (scn (gi W n m s) m=none∧r = .returned (.tuple #[.pointer none,.int .i64 2])∧Below w.heap.size w w') ∨
 (∃ L P N C X,scn (gi W n m s) m=some L∧r = .returned (.tuple #[.pointer (some ⟨P.c,0,none⟩),.int .i64 0])∧Cq w' P n m L N C X∧w.heap.size≤P.lo∧Below w.heap.size w w')
theorem node_info:(Tryz.prog.info? 84).map (fun i=>(i.zero,i.size,i.bytes))=some (some (.agg #[.int .i64 0,.int .i64 0,.int .i64 0]),3,24):=by kernel_rfl
theorem chain_info:(Tryz.prog.info? 90).map (fun i=>(i.zero,i.size,i.bytes))=some (some (.agg #[.slice none 0 0,.slice none 0 0]),2,48):=by kernel_rfl
theorem place_info:(Tryz.prog.info? 255).map (fun i=>(i.zero,i.size,i.bytes))=some (some (.agg #[.int .i64 0,.int .i64 0]),2,16):=by kernel_rfl
theorem made {w0 W:World} {B gb n m s nb cb pb bq sq:Nat} (h:Sc w0 B gb n m s 2 true true true nb cb pb bq sq W) (hm:m≤65534) :
 Cq (W.alloc (.cells #[.slice (some ⟨nb,0,none⟩) m m,.slice (some ⟨cb,0,none⟩) m m,.pointer (some ⟨bq+1,0,none⟩),.pointer (some ⟨sq+1,0,none⟩),.slice (some ⟨pb,0,none⟩) n n] 129)) ⟨B,nb,cb,bq,bq+1,sq,sq+1,pb,W.heap.size,(n+63) / 64,(n+63) / 64⟩ n m [] (nodes0 m) (chains0 m) (places0 n):=by
 have hk:=h.keep ((Below.refl W.heap.size W).alloc (Nat.le_refl _) (.cells #[.slice (some ⟨nb,0,none⟩) m m,.slice (some ⟨cb,0,none⟩) m m,.pointer (some ⟨bq+1,0,none⟩),.pointer (some ⟨sq+1,0,none⟩),.slice (some ⟨pb,0,none⟩) n n] 129))
 have l1:=(h.f1 rfl).1.lt
 have l2:=(h.f2 rfl).1.lt
 have l3:=(h.f3 rfl).1.lt
 have l4:=h.lt4 (by omega)
 have l5:=h.lt5 (by omega)
 have b1:=(h.f1 rfl).2
 have b2:=(h.f2 rfl).2
 have b3:=(h.f3 rfl).2
 have b4:=(h.f4 (by omega)).2
 have b5:=(h.f5 (by omega)).2
 have d14:=h.d14 rfl (by omega)
 have d24:=h.d24 rfl (by omega)
 have d34:=h.d34 rfl (by omega)
 have d15:=h.d15 rfl (by omega)
 have d25:=h.d25 rfl (by omega)
 have d35:=h.d35 rfl (by omega)
 refine⟨⟨hb_new W _ _,(hk.f1 rfl).1,(hk.f2 rfl).1,(hk.f3 rfl).1,size_madeCells _ _,size_madeCells _ _,size_madeCells _ _,?_,?_,⟨?_,?_,?_⟩,hm⟩,Nod.nil _,Chs.nil _ _ _,Plc.nil _⟩
 · have:=(hk.f4 (by omega)).1
   rw[← ins_nil] at this
   exact this
 · have:=(hk.f5 (by omega)).1
   rw[← ins_nil] at this
   exact this
 · simp only
   omega
 · simp only
   omega
 · exact⟨h.d12 rfl rfl,d14.1,d14.2,d15.1,d15.2,h.d13 rfl rfl,d24.1,d24.2,d25.1,d25.2,h.d23 rfl rfl,by simp only;omega,by simp only;omega,by simp only;omega,Ne.symm d34.1,by simp only;omega,by simp only;omega,Ne.symm d34.2,by simp only;omega,Ne.symm d35.1,Ne.symm d35.2⟩
section
variable {Q : Nat → Prop} {w : World} {vb a n m s : Nat} {W : List Nat} {st sn : Nat}
set_option maxHeartbeats 4000000 in
set_option maxRecDepth 100000 in
theorem scan_any (hv:Vo Q w vb a n m s W st sn) :
 Calls Tryz.prog 27 #[.pointer (some ⟨vb,0,none⟩)] w (ScTo W n m s w):=by
 have HV:=hid hv
 have HG:=hid (Vol.geometry_any hv)
 have hnm:=hv.num
 have hnn:n≤65534:=by omega
 have hmm:m≤65534:=by omega
 obtain⟨i0,hi0,hz0,hz1,hz2⟩:=info_parts node_info
 have hmk0:=fun (W:World)=>run_makeSlice (P:=Tryz.prog) (w:=W) 124 84 i0 (.agg #[.int .i64 0,.int .i64 0,.int .i64 0]) Tryz.underlying124 hi0 hz0 .i64 .i64 (m:Int) (m:Int) (by omega) (by omega) (by rw[hz1];omega) (by rw[hz2];omega) (by omega)
 obtain⟨i1,hi1,hy0,hy1,hy2⟩:=info_parts chain_info
 have hmk1:=fun (W:World)=>run_makeSlice (P:=Tryz.prog) (w:=W) 125 90 i1 (.agg #[.slice none 0 0,.slice none 0 0]) Tryz.underlying125 hi1 hy0 .i64 .i64 (m:Int) (m:Int) (by omega) (by omega) (by rw[hy1];omega) (by rw[hy2];omega) (by omega)
 obtain⟨i2,hi2,hx0,hx1,hx2⟩:=info_parts place_info
 have hmk2:=fun (W:World)=>run_makeSlice (P:=Tryz.prog) (w:=W) 127 255 i2 (.agg #[.int .i64 0,.int .i64 0]) Tryz.underlying127 hi2 hx0 .i64 .i64 (n:Int) (n:Int) (by omega) (by omega) (by rw[hx1];omega) (by rw[hx2];omega) (by omega)
 simp only[Int.toNat_natCast,hz1,hy1,hx1] at hmk0 hmk1 hmk2
 have hmk0:∀ W:World,Sem.run Tryz.prog (Instr.makeSlice 124 (.int .i64 (m:Int)) (.int .i64 (m:Int))) W = .ok (.slice (some ⟨W.heap.size,0,none⟩) m m) (W.alloc (.cells (nodes0 m) 84)):=hmk0
 have hmk1:∀ W:World,Sem.run Tryz.prog (Instr.makeSlice 125 (.int .i64 (m:Int)) (.int .i64 (m:Int))) W = .ok (.slice (some ⟨W.heap.size,0,none⟩) m m) (W.alloc (.cells (chains0 m) 90)):=hmk1
 have hmk2:∀ W:World,Sem.run Tryz.prog (Instr.makeSlice 127 (.int .i64 (n:Int)) (.int .i64 (n:Int))) W = .ok (.slice (some ⟨W.heap.size,0,none⟩) n n) (W.alloc (.cells (places0 n) 255)):=hmk2
 have HNW:=hid (fun w=>Bm.new_any (n:Int) n ((n+63) / 64) (by omega) rfl w)
 have HNM:=hid hnm
 clear hv hnm
 go_enter Tryz.func27,Tryz.ntmps27
 go_wp2_with fail
 refine HG.out.mono ?_
 rintro r w1 ⟨rfl,hb⟩
 have HB1:=hid (hb.alloc hb.size (.cells #[.int .i64 (n:Int),.int .i64 (m:Int),.int .i64 (s:Int)] 122))
 have HX1:=hid (hb_new w1 #[.int .i64 (n:Int),.int .i64 (m:Int),.int .i64 (s:Int)] 122)
 have c0:=HX1.out.cell 0
 have c1:=HX1.out.cell 1
 have cl:=HX1.out.lt
 clear hb HG
 go_wp2_with fail
 generalize w1.alloc (.cells #[.int .i64 (n:Int),.int .i64 (m:Int),.int .i64 (s:Int)] 122)=w2 at *
 generalize w1.heap.size=gb at *
 refine wp_region_held_drew (S:=(fun W'=>Hb W' gb #[.int .i64 (n:Int),.int .i64 (m:Int),.int .i64 (s:Int)] 122)) (by kernel_rfl) (HX1.out.keep (hd0 _)) (fun hHeld=>?_)
 refine take_yes 0 9 (.pointer (some ⟨gb,1,none⟩)) rfl rfl (by kernel_rfl) (by kernel_rfl) (by kernel_rfl) (fun _ _ _ h=>h) rfl ?_ (by assumption) ?_
 · intro w hSw
   try dsimp only at hSw
   go_simp
 simp only[Act.put,List.setIfInBounds_toArray,List.set_cons_zero,List.set_cons_succ]
 refine take_yes 1 10 (.int .i64 (m:Int)) rfl rfl (by kernel_rfl) (by kernel_rfl) (by kernel_rfl) (fun _ _ _ h=>h) rfl ?_ (by assumption) ?_
 · intro w hSw
   try dsimp only at hSw
   have hv:=hSw.cell 1
   have hl:=hSw.lt
   go_simp
 simp only[Act.put,List.setIfInBounds_toArray,List.set_cons_zero,List.set_cons_succ]
 refine take_yes 3 12 (.pointer (some ⟨gb,1,none⟩)) rfl rfl (by kernel_rfl) (by kernel_rfl) (by kernel_rfl) (fun _ _ _ h=>h) rfl ?_ (by assumption) ?_
 · intro w hSw
   try dsimp only at hSw
   go_simp
 simp only[Act.put,List.setIfInBounds_toArray,List.set_cons_zero,List.set_cons_succ]
 refine take_yes 4 13 (.int .i64 (m:Int)) rfl rfl (by kernel_rfl) (by kernel_rfl) (by kernel_rfl) (fun _ _ _ h=>h) rfl ?_ (by assumption) ?_
 · intro w hSw
   try dsimp only at hSw
   have hv:=hSw.cell 1
   have hl:=hSw.lt
   go_simp
 simp only[Act.put,List.setIfInBounds_toArray,List.set_cons_zero,List.set_cons_succ]
 refine take_yes 6 15 (.pointer (some ⟨gb,0,none⟩)) rfl rfl (by kernel_rfl) (by kernel_rfl) (by kernel_rfl) (fun _ _ _ h=>h) rfl ?_ (by assumption) ?_
 · intro w hSw
   try dsimp only at hSw
   go_simp
 simp only[Act.put,List.setIfInBounds_toArray,List.set_cons_zero,List.set_cons_succ]
 refine take_yes 7 16 (.int .i64 (n:Int)) rfl rfl (by kernel_rfl) (by kernel_rfl) (by kernel_rfl) (fun _ _ _ h=>h) rfl ?_ (by assumption) ?_
 · intro w hSw
   try dsimp only at hSw
   have hv:=hSw.cell 0
   have hl:=hSw.lt
   go_simp
 simp only[Act.put,List.setIfInBounds_toArray,List.set_cons_zero,List.set_cons_succ]
 refine take_yes 9 18 (.pointer (some ⟨gb,0,none⟩)) rfl rfl (by kernel_rfl) (by kernel_rfl) (by kernel_rfl) (fun _ _ _ h=>h) rfl ?_ (by assumption) ?_
 · intro w hSw
   try dsimp only at hSw
   go_simp
 simp only[Act.put,List.setIfInBounds_toArray,List.set_cons_zero,List.set_cons_succ]
 refine take_yes 10 19 (.int .i64 (n:Int)) rfl rfl (by kernel_rfl) (by kernel_rfl) (by kernel_rfl) (fun _ _ _ h=>h) rfl ?_ (by assumption) ?_
 · intro w hSw
   try dsimp only at hSw
   have hv:=hSw.cell 0
   have hl:=hSw.lt
   go_simp
 simp only[Act.put,List.setIfInBounds_toArray,List.set_cons_zero,List.set_cons_succ]
 refine take_yes 12 21 (.pointer (some ⟨gb,0,none⟩)) rfl rfl (by kernel_rfl) (by kernel_rfl) (by kernel_rfl) (fun _ _ _ h=>h) rfl ?_ (by assumption) ?_
 · intro w hSw
   try dsimp only at hSw
   go_simp
 simp only[Act.put,List.setIfInBounds_toArray,List.set_cons_zero,List.set_cons_succ]
 refine take_yes 13 22 (.int .i64 (n:Int)) rfl rfl (by kernel_rfl) (by kernel_rfl) (by kernel_rfl) (fun _ _ _ h=>h) rfl ?_ (by assumption) ?_
 · intro w hSw
   try dsimp only at hSw
   have hv:=hSw.cell 0
   have hl:=hSw.lt
   go_simp
 simp only[Act.put,List.setIfInBounds_toArray,List.set_cons_zero,List.set_cons_succ]
 clear c0 c1 cl hHeld
 refine any_states (σ:=Nat × Bool × Bool × Bool) lst left rdy (fun st a W=>st.1≤2∧∃ nb cb pb bq sq,a=act vb gb n m s st.1 st.2.1 st.2.2.1 st.2.2.2 nb cb pb bq sq∧Sc w w.heap.size gb n m s st.1 st.2.1 st.2.2.1 st.2.2.2 nb cb pb bq sq W) 3 ?_ ?_ ?_ 5 (0,false,false,false) _ _ rfl ⟨by omega,0,0,0,0,0,rfl,HB1.out.drew,HB1.out.drew.size,HX1.out.keep (hd0 _),(fun e=>by cases e),(fun e=>by cases e),(fun e=>by cases e),(fun e=>by omega),(fun e=>by omega),(fun e=>by cases e),(fun e=>by cases e),(fun e=>by cases e),(fun e=>by cases e),(fun e=>by cases e),(fun e=>by cases e),(fun e=>by cases e),(fun e=>by cases e),(fun e=>by cases e)⟩
 · rintro ⟨k,x,y,z⟩ a W ⟨hk,_⟩ hn
   have hk':k=0∨k=1∨k=2:=by simp only at hk;omega
   clear hk
   rcases hk' with rfl | rfl | rfl<;>cases x<;>cases y<;>cases z<;>first | exact absurd rfl hn | exact⟨by kernel_rfl,by decide⟩
 · rintro ⟨k,x,y,z⟩ a W ⟨hk,nb,cb,pb,bq,sq,rfl,hst⟩ hn i hi
   clear hn
   simp only[rdy,List.mem_append] at hi hst hk ⊢
   have HS:=hid hst
   clear hst
   rcases hi with hi | hi | hi | hi
   · cases x with
     | true=>simp at hi
     | false=>
       obtain rfl:i=2:=by simpa using hi
       refine op_step rfl (fun K hK=>?_)
       simp only[act]
       go_simp
       exact hK.out _ _ ⟨(k,true,y,z),rfl,left_one _ _ _,HS.out.new1.geo,hk,W.heap.size,cb,pb,bq,sq,rfl,HS.out.new1⟩
   · cases y with
     | true=>simp at hi
     | false=>
       obtain rfl:i=5:=by simpa using hi
       refine op_step rfl (fun K hK=>?_)
       simp only[act]
       go_simp
       exact hK.out _ _ ⟨(k,x,true,z),rfl,left_two _ _ _,HS.out.new2.geo,hk,nb,W.heap.size,pb,bq,sq,rfl,HS.out.new2⟩
   · have hk':k=0∨k=1∨k=2:=by omega
     clear hk
     rcases hk' with rfl | rfl | rfl
     · obtain rfl:i=8:=by simpa [calls] using hi
       refine op_step rfl (fun K hK=>?_)
       simp only[act,Nat.blt,Nat.ble,on_false]
       go_simp
       go_at_call 60
       with_reducible refine (HNW.out _).mono ?_
       rintro e W' ⟨rfl,hmp,hb⟩
       exact hK.out _ _ ⟨(1,x,y,z),rfl,left_call (by omega),(HS.out.new4 hmp hb).geo,by omega,nb,cb,pb,W.heap.size,sq,rfl,HS.out.new4 hmp hb⟩
     · obtain rfl:i=11:=by simpa [calls] using hi
       refine op_step rfl (fun K hK=>?_)
       simp only[act,Nat.blt,Nat.ble,on_true,on_false]
       go_simp
       go_at_call 60
       with_reducible refine (HNW.out _).mono ?_
       rintro e W' ⟨rfl,hmp,hb⟩
       exact hK.out _ _ ⟨(2,x,y,z),rfl,left_call (by omega),(HS.out.new5 hmp hb).geo,by omega,nb,cb,pb,bq,W.heap.size,rfl,HS.out.new5 hmp hb⟩
     · simp[calls] at hi
   · cases z with
     | true=>simp at hi
     | false=>
       obtain rfl:i=14:=by simpa using hi
       refine op_step rfl (fun K hK=>?_)
       simp only[act]
       go_simp
       exact hK.out _ _ ⟨(k,x,y,true),rfl,left_three _ _ _,HS.out.new3.geo,hk,nb,cb,W.heap.size,bq,sq,rfl,HS.out.new3⟩
 · rintro ⟨k,x,y,z⟩ a V ⟨hk,nb,cb,pb,bq,sq,rfl,hst⟩ hn
   obtain⟨rfl,rfl,rfl,rfl⟩:=left_pos hk hn
   clear hk hn
   have HS:=hid hst
   clear hst
   simp only[act,Nat.blt,Nat.ble,on_true]
   refine wpAnyH_ready (rs:=[15]) (by kernel_rfl) (by simp) ?_
   refine AllReadyH.cons rfl (fun K hK=>?_) AllReadyH.nil
   go_simp
   refine hK.out _ _ HS.out.geo (fun _=>?_)
   clear hK K
   refine wpAnyH_ready (rs:=[16]) (by kernel_rfl) (by simp) ?_
   refine AllReadyH.cons rfl (fun K hK=>?_) AllReadyH.nil
   go_simp
   have hal:=(Below.refl V.heap.size V).alloc (Nat.le_refl _) (.cells #[.slice (some ⟨nb,0,none⟩) m m,.slice (some ⟨cb,0,none⟩) m m,.pointer (some ⟨bq+1,0,none⟩),.pointer (some ⟨sq+1,0,none⟩),.slice (some ⟨pb,0,none⟩) n n] 129)
   have HA:=hid (HS.out.keep hal)
   refine hK.out _ _ HA.out.geo (fun _=>?_)
   clear hK K
   refine wpAnyH_ready (rs:=[17]) (by kernel_rfl) (by simp) ?_
   refine AllReadyH.cons rfl (fun K hK=>?_) AllReadyH.nil
   go_simp
   refine hK.out _ _ HA.out.geo (fun _=>?_)
   clear hK K
   refine wpAnyH_done (by kernel_rfl) ?_ _
   have HP:=hid (made HS.out (by have:=HNM.out;omega))
   have HBL:=hid HA.out.below
   clear hal HS
   generalize V.alloc (.cells #[.slice (some ⟨nb,0,none⟩) m m,.slice (some ⟨cb,0,none⟩) m m,.pointer (some ⟨bq+1,0,none⟩),.pointer (some ⟨sq+1,0,none⟩),.slice (some ⟨pb,0,none⟩) n n] 129)=w4 at *
   generalize V.heap.size=cc at *
   have c1:=HA.out.geo.cell 1
   have cl:=HA.out.geo.lt
   go_wp2_with fail
   clear c1 cl hmk0 hmk1 hmk2 HNW HA
   obtain⟨PP,hPP⟩:∃ PP:Pc,PP=⟨w.heap.size,nb,cb,bq,bq+1,sq,sq+1,pb,cc,(n+63) / 64,(n+63) / 64⟩:=⟨_,rfl⟩
   have hP:=HP.out
   have hcc:cc=PP.c:=by rw[hPP]
   have hlo:PP.lo=w.heap.size:=by rw[hPP]
   rw[← hPP] at hP
   have HPQ:=hid hP
   clear HP
   subst hcc
   have HLO:=hid hlo
   clear hP hPP hlo
   go_loopw [28] (fun q wr=>∃ (L:List Cl) (N C X:Array Value),L.length≤m∧q = .int .i64 (L.length:Int)∧scn (gi W n m s) L.length=some L∧Cq wr PP n m L N C X∧Below w.heap.size w wr) (fun q _=>m - (intOf q).toNat)
   case atStart=>exact⟨[],_,_,_,Nat.zero_le _,rfl,rfl,HPQ.out,HBL.out⟩
   case round=>
    obtain⟨L,N,C,X,hle,rfl,hsc,hcq,hb⟩:=hrel
    clear HPQ HBL
    have HSC:=hid hsc
    have HCQ:=hid hcq
    have HBB:=hid hb
    have hok:=(scn_oks (fun _ _ h=>gi_ok h) hsc).1
    by_cases hlt:L.length < m
    · have HTK:=hid (take_any (HV.out.keep hb) hcq hok hlt)
      clear hsc hcq hb hok
      have hmi:(L.length:Int) < (m:Int):=by omega
      go_wp2_with fail
      refine HTK.out.mono ?_
      rintro r w5 k5
      unfold TkTo at k5
      rw[HLO.out] at k5
      rcases k5 with ⟨h1,rfl,h3⟩ | ⟨c,N',C',X',h1,h2,h3,rfl,h5,h6⟩
      · have HN:=hid (scn_stop HSC.out h1 hlt)
        have HB5:=hid (HBB.out.trans h3)
        clear h1 h3
        go_wp2
        go_ret2
        exact .inl ⟨HN.out,rfl,HB5.out⟩
      · have HN:=hid (scn_next HSC.out h1 h2 h3)
        have HB5:=hid (HBB.out.trans h6)
        have HQ5:=hid h5
        clear h1 h2 h3 h5 h6
        go_wp2
        have e:(L++[c]).length=L.length+1:=by simp
        refine⟨⟨L++[c],N',C',X',by omega,by rw[e];go_num,by rw[e];exact HN.out,HQ5.out,HB5.out⟩,by simp[intOf];omega⟩
    · obtain rfl:m=L.length:=by omega
      go_wp2
      go_ret2
      exact .inr ⟨L,PP,N,C,X,HSC.out,rfl,HCQ.out,by rw[HLO.out];exact Nat.le_refl _,HBB.out⟩
end
end Clm
end Go.Proofs.YtdafimdfbnphaaaGreatDoor
/- Texts. -/
/- Texts. -/
namespace Go.Proofs.YtdafimdfbnphaaaGreatDoor
open Go.RowKit Go.MapKept
namespace Bm
open Pack (Wds Nts)
def bitAt (l:List Nat) (i:Nat):Bool:=(l.getD (i / 64) 0).testBit (i % 64)
def fo (n:Nat) (l:List Nat) (b:Nat):Bool:=decide (b < n) && bitAt l b
def Good (n:Nat) (l:List Nat):Prop:=∀ i,n≤i→i < 64 * l.length→bitAt l i=false
theorem Good.words {n:Nat} {l:List Nat} (h:Good n l) (hu:∀ x∈l,x < 18446744073709551616) (j:Nat) (hj:j < l.length):l[j]=wd (fo n l) j:=by
 apply is_wd
 intro i
 by_cases hi:i < 64
 · have e:bitAt l (64 * j+i)=l[j].testBit i:=by
    unfold bitAt
    rw[show (64 * j+i) / 64=j by omega,show (64 * j+i) % 64=i by omega,List.getD_eq_getElem?_getD,List.getElem?_eq_getElem hj,Option.getD_some]
   unfold fo
   by_cases hb:64 * j+i < n
   · simp[hi,hb,e]
   · have:=h (64 * j+i) (by omega) (by omega)
     rw[e] at this
     simp[hb,this]
 · have:l[j].testBit i=false:=Nat.testBit_lt_two_pow (Nat.lt_of_lt_of_le (hu _ (List.getElem_mem hj)) (Nat.pow_le_pow_right (n:=2) (i:=64) (by omega) (by omega)))
   simp[hi,this]
theorem Good.wds {n:Nat} {l:List Nat} (h:Good n l) (hu:∀ x∈l,x < 18446744073709551616):wds (fo n l) l.length=l:=by
 apply List.ext_getElem
 · rw[wds_len]
 · intro j h1 h2
   rw[wds_get,← h.words hu j h2]
section
variable {w : World}
end
end Bm
end Go.Proofs.YtdafimdfbnphaaaGreatDoor
/- Texts. -/
/- Texts. -/
namespace Go.Proofs.YtdafimdfbnphaaaGreatDoor
open Lib (hid)
open Go.RowKit Go.MapKept
namespace Vol
theorem wds_part {w:World} {g f k:Nat} {W:List Nat} (h:Pack.Wds w (some ⟨g,0,none⟩) W) (hf:f+k≤W.length):Pack.Wds w (some ⟨g,f,none⟩) (rdw W f k):=by
 refine⟨rdw_u64 h.u64 f k,by rw[rdw_len];have:=h.len;omega,fun j hj=>?_⟩
 rw[rdw_len] at hj
 obtain⟨b,o,e,hb,hc⟩:=h.at' (f+j) (by omega)
 injection e with e
 injection e with e1 e2
 subst e1 e2
 refine⟨g,f,rfl,hb,?_⟩
 rw[rdw_get,List.getElem?_eq_getElem (by omega),Option.getD_some]
 rw[Nat.zero_add] at hc
 exact hc
section
variable {w : World} {n m s sl bm bk E : Nat} {W : List Nat}
set_option maxHeartbeats 2000000 in
set_option maxRecDepth 100000 in
theorem rinode_yes (w:World) (g gc:Nat) (hW:Pack.Wds w (some ⟨g,0,none⟩) W) (hWE:W.length=E) (hc:E≤gc) (i:Nat) (hi:i < m) (hin:16+8 * i+8≤E) (hE:E≤1000) :
 Calls Tryz.prog 74 #[.agg (dv n m s sl bm bk E (.slice (some ⟨g,0,none⟩) E gc)),.int .i64 (i:Int)] w fun r w'=>r = .returned (Ino.rv (Ino.dec (rdw W (16+8 * i) 8)))∧Below w.heap.size w w':=by
 have HX:=hid (hb_new w (dv n m s sl bm bk E (.slice (some ⟨g,0,none⟩) E gc)) 37)
 have HB0:=hid ((Below.refl w.heap.size w).alloc (Nat.le_refl _) (.cells (dv n m s sl bm bk E (.slice (some ⟨g,0,none⟩) E gc)) 37))
 have HW:=hid hW
 obtain⟨F,hF⟩:∃ F,F=16+8 * i:=⟨_,rfl⟩
 obtain⟨G,hG⟩:∃ G,G=F+8:=⟨_,rfl⟩
 have HD:=hid (fun (w':World) (cp:Nat) (hb:Below w.heap.size w w')=>show Calls Tryz.prog 138 #[.slice (some ⟨g,F,none⟩) 8 cp] w' _ from by
  have hd:=Ino.refDecode_any (w:=w') (some ⟨g,F,none⟩) cp (rdw W F 8) (wds_part (hW.keep hb) (by omega))
  rw[rdw_len] at hd
  exact hd)
 rw[← hF]
 obtain⟨g0,g1,g2,hg⟩:=gv_ino (Ino.dec (rdw W F 8))
 unfold Ino.rv at HD ⊢
 rw[hg] at HD ⊢
 generalize (Ino.dec (rdw W F 8)).isSome=is at *
 clear hg
 have hsum:(16:Int)+8 * (i:Int)=(F:Int):=by omega
 have hsum2:(F:Int)+8=(G:Int):=by omega
 have hi8:i≤200:=by omega
 have hFb:F≤1000∧G≤1000:=by omega
 have hGc:G≤gc:=by omega
 have hFG:F≤G:=by omega
 have hd1:decide ((i:Int) < 0)=false:=decide_eq_false (by omega)
 have hd2:decide ((m:Int)≤(i:Int))=false:=decide_eq_false (by omega)
 have hGF:G - F=8:=by omega
 have hd3:decide (m≤i)=false:=decide_eq_false (by omega)
 clear hF hG hi
 unfold dv at HX HB0 ⊢
 go_enter Tryz.func74,Tryz.ntmps74
 obtain⟨w0,hw0⟩:∃ w0,w0=w.alloc (.cells #[.int .i64 (n:Int),.int .i64 (m:Int),.int .i64 (s:Int),.int .i64 16,.int .i64 (sl:Int),.int .i64 (bm:Int),.int .i64 (bk:Int),.int .i64 (E:Int),.slice (some ⟨g,0,none⟩) E gc] 37):=⟨_,rfl⟩
 rw[← hw0] at HX HB0
 have hz0:w0.heap.size=w.heap.size+1:=by rw[hw0,World.size_alloc]
 have hb1:=HB0.out.alloc HB0.out.size (.cells #[.int .i64 0,.int .i64 0,.int .i64 0] 151)
 have hx1:=hb_new w0 #[.int .i64 0,.int .i64 0,.int .i64 0] 151
 rw[hz0] at hx1
 have HB1:=hid hb1
 have HX1:=hid hx1
 clear hb1 hx1
 go_wp2_with fail
 rw[← hw0]
 clear hw0
 generalize w0.alloc (.cells #[.int .i64 0,.int .i64 0,.int .i64 0] 151)=w1 at *
 refine (HD.out _ _ HB1.out).mono ?_
 rintro r w2 ⟨rfl,hb⟩
 have HB2:=hid (HB1.out.trans (hb.mono HB1.out.size))
 have HX2:=hid (HX1.out.keep hb)
 clear hb
 have c0:=HX2.out.cell 0
 have c1:=HX2.out.cell 1
 have c2:=HX2.out.cell 2
 have f0:=HX2.out.frozen 0
 have f1:=HX2.out.frozen 1
 have f2:=HX2.out.frozen 2
 have hl2:=HX2.out.lt
 go_wp2
 refine bodyPost_ret (v:=.tuple #[.agg #[.int .i64 g0,.int .i64 g1,.int .i64 g2],.bool is]) ?_ rfl ⟨rfl,?_⟩
 · simp[results,Tryz.results74,go_sem,c0,c1,c2]
 · exact ((HB2.out.setCell (Nat.le_succ _) _).setCell (Nat.le_succ _) _).setCell (Nat.le_succ _) _
end
end Vol
end Go.Proofs.YtdafimdfbnphaaaGreatDoor
/- Texts. -/
namespace Go.Proofs.YtdafimdfbnphaaaGreatDoor
open Lib (hid)
open Go.RowKit Go.MapKept
namespace Clm
open Chn (row_base_lt3 own_keep3)
open Vol (Hb hb_new hb_grown dv Pl rdw)
section
set_option maxHeartbeats 1000000 in
set_option maxRecDepth 100000 in
theorem rread_nil (w:World) (v0 v1 v2 v3 v4 v5 v6 v7 v8:Value):Calls Tryz.prog 75 #[.agg #[v0,v1,v2,v3,v4,v5,v6,v7,v8],.int .i64 (-1)] w fun r w'=>r = .returned (.tuple #[.agg #[.slice none 0 0,.slice none 0 0],.bool true])∧Below w.heap.size w w':=by
 go_enter Tryz.func75,Tryz.ntmps75
 go_wp2
 have hb:=(((Below.refl w.heap.size w).alloc (Nat.le_refl _) (.cells #[v0,v1,v2,v3,v4,v5,v6,v7,v8] 37)).alloc (by simp) (.cells #[.slice none 0 0,.slice none 0 0] 156)).alloc (by simp;omega) (.cells #[.slice none 0 0,.slice none 0 0] 156)
 have h4:=(hb_new (w.alloc (.cells #[v0,v1,v2,v3,v4,v5,v6,v7,v8] 37)) #[.slice none 0 0,.slice none 0 0] 156).keep ((Below.refl _ _).alloc (Nat.le_refl _) (.cells #[.slice none 0 0,.slice none 0 0] 156))
 have h6:=hb_new ((w.alloc (.cells #[v0,v1,v2,v3,v4,v5,v6,v7,v8] 37)).alloc (.cells #[.slice none 0 0,.slice none 0 0] 156)) #[.slice none 0 0,.slice none 0 0] 156
 simp only[World.size_alloc] at h4 h6
 generalize ((w.alloc (.cells #[v0,v1,v2,v3,v4,v5,v6,v7,v8] 37)).alloc (.cells #[.slice none 0 0,.slice none 0 0] 156)).alloc (.cells #[.slice none 0 0,.slice none 0 0] 156)=W at *
 go_loopw [7] (fun s wr=>s = .int .i64 (-1)∧wr=W) (fun _ _=>0)
 case atStart=>exact⟨rfl,rfl⟩
 case round=>
  obtain⟨rfl,rfl⟩:=hrel
  have c0:=h4.cell 0
  have c1:=h4.cell 1
  have f0:=h4.frozen 0
  have f1:=h4.frozen 1
  have cl:=h4.lt
  have d0:=h6.cell 0
  have d1:=h6.cell 1
  have dl:=h6.lt
  have hB:=hid hb
  clear h4 h6 hb
  go_wp2
  refine bodyPost_ret (v:=.tuple #[.agg #[.slice none 0 0,.slice none 0 0],.bool true]) ?_ rfl ⟨rfl,?_⟩
  · simp[results,Tryz.results75,go_sem,c0,c1]
  · exact (hB.out.setCell (p:=⟨w.heap.size+1,0,none⟩) (Nat.le_succ _) _).setCell (p:=⟨w.heap.size+1,1,none⟩) (Nat.le_succ _) _
set_option maxHeartbeats 1000000 in
set_option maxRecDepth 100000 in
theorem rblk_nil (w:World):Calls Tryz.prog 76 #[.agg #[.slice none 0 0,.slice none 0 0]] w fun r w'=>r = .returned (.slice none 0 0)∧Below w.heap.size w w':=by
 go_enter Tryz.func76,Tryz.ntmps76
 go_wp2
 have hb:=(Below.refl w.heap.size w).alloc (Nat.le_refl _) (.cells #[.slice none 0 0,.slice none 0 0] 156)
 generalize w.alloc (.cells #[.slice none 0 0,.slice none 0 0] 156)=W at *
 go_loopw [3,10] (fun s i wr=>s = .slice none 0 0∧i = .int .i64 0∧wr=W) (fun _ _ _=>0)
 case atStart=>exact⟨rfl,rfl,rfl⟩
 case round=>
  obtain⟨rfl,rfl,rfl⟩:=hrel
  go_wp2
  go_ret
  exact⟨rfl,hb⟩
theorem rneed_zero (w:World) (s:Int):Calls Tryz.prog 77 #[.int .i64 s,.int .i64 0] w fun r w'=>r = .returned (.int .i64 0)∧Below w.heap.size w w':=by
 go_enter Tryz.func77,Tryz.ntmps77
 go_wp2
 go_loopw [5] (fun n wr=>n = .int .i64 0∧wr=w) (fun _ _=>0)
 case atStart=>exact⟨rfl,rfl⟩
 case round=>
  obtain⟨rfl,rfl⟩:=hrel
  go_wp2
  go_ret
  exact⟨rfl,Below.refl _ _⟩
end
theorem own_ne {w:World} {B B' n n' s s':Nat} {e e':TypeId} {v v':Value} {xs xs':List Value} (h:w.ownsRow B e s v n xs) (h':w.ownsRow B' e' s' v' n' xs') (he:e≠e'):v.ownBlock=none∨v.ownBlock≠v'.ownBlock:=by
 rcases h.2 with ⟨e1,_⟩ | ⟨g,cap,cur,e1,_,hg,_⟩
 · left;rw[e1];rfl
 rcases h'.2 with ⟨e2,_⟩ | ⟨g',cap',cur',e2,_,hg',_⟩
 · right;rw[e1,e2];intro k;cases k
 right
 rw[e1,e2]
 intro k
 have k:g=g':=by simpa [Value.ownBlock] using k
 subst k
 rw[hg] at hg'
 injection hg' with hg'
 injection hg' with _ h2
 exact he h2
theorem znode_info:(Tryz.prog.info? 151).map (fun i=>(i.zero,i.size,i.bytes))=some (some (.agg #[.int .i64 0,.int .i64 0,.int .i64 0]),3,24):=by kernel_rfl
theorem zchain_info:(Tryz.prog.info? 156).map (fun i=>(i.zero,i.size,i.bytes))=some (some (.agg #[.slice none 0 0,.slice none 0 0]),2,48):=by kernel_rfl
theorem zrow_slice {B n s:Nat} {W:World} {e:TypeId} {v:Value} {xs:List Value} (h:W.ownsRow B e s v n xs):∃ G c,v = .slice G n c:=by
 rcases h.2 with ⟨e,h0⟩ | ⟨g,cap,cur,e,_⟩
 · exact⟨none,0,by rw[e,h0]⟩
 · exact⟨_,_,e⟩
theorem zcells_two (w:World) (x y:Value) (t:TypeId):∀ j u,[x,y][j]? = some u→(w.alloc (.cells #[x,y] t)).cell? ((⟨w.heap.size,0,none⟩:Addr).add j)=some u:=by
 intro j u hj
 match j,hj with
 | 0,hj=>
   simp at hj
   subst hj
   simp[Addr.add]
 | 1,hj=>
   simp at hj
   subst hj
   simp[Addr.add]
structure Zr (w:World) (D:Array Value) (n k ic hc:Nat) (I H:Option Addr) (cs ds:List Value) (wr:World):Prop where
 vol:Hb wr w.heap.size D 37
 res:Hb wr (w.heap.size+1) #[.int .i64 0,.slice none 0 0,.slice none 0 0] 41
 box:Hb wr (w.heap.size+1+1) #[.int .i64 (n:Int),.slice I k ic,.slice H k hc] 41
 nds:wr.ownsRow w.heap.size 151 3 (.slice I k ic) k cs
 chs:wr.ownsRow w.heap.size 156 2 (.slice H k hc) k ds
 below:Below w.heap.size w wr
theorem Zr.keep {w w1 w2:World} {D:Array Value} {n k ic hc:Nat} {I H:Option Addr} {cs ds:List Value} (h:Zr w D n k ic hc I H cs ds w1) (hb:Below w1.heap.size w1 w2):Zr w D n k ic hc I H cs ds w2:=
 ⟨h.vol.keep hb,h.res.keep hb,h.box.keep hb,own_keep3 h.nds hb,own_keep3 h.chs hb,h.below.trans (hb.mono h.below.size)⟩
section
variable {w : World} {n m s sl' bm bk E g gc : Nat} {W : List Nat}
set_option maxHeartbeats 4000000 in
set_option maxRecDepth 100000 in
theorem rscan_free (hpl:Pl n m s sl' bm bk E) (hW:Pack.Wds w (some ⟨g,0,none⟩) W) (hWE:W.length=E) (hgc:E≤gc) (hz:∀ i,i < m→rdw W (16+8 * i) 8=Ino.ln 0 0 0) :
 Calls Tryz.prog 37 #[.agg (dv n m s sl' bm bk E (.slice (some ⟨g,0,none⟩) E gc))] w fun r w'=>
  ∃ I ic H hc,r = .returned (.tuple #[.agg #[.int .i64 (n:Int),.slice I m ic,.slice H m hc],.bool true])∧Below w.heap.size w w':=by
 have hn20:=hpl.n20
 have hm20:=hpl.m20
 have hs2:=hpl.s2
 have HIN:=hid (fun w' (hb:Below w.heap.size w w') (i:Nat) (hi:i < m)=>Vol.rinode_yes (n:=n) (m:=m) (s:=s) (sl:=sl') (bm:=bm) (bk:=bk) w' g gc (hW.keep hb) hWE hgc i hi (by have:=hpl.at;omega) (by have:=hpl.at;omega))
 have HIN:=hid (fun w' (hb:Below w.heap.size w w') (i:Nat) (hi:i < m)=>by
  have:=HIN.out w' hb i hi
  rw[hz i hi,Ino.dec_ln (k:=0) (p:=0) (s:=0) (by decide)] at this
  exact this)
 clear hz hW hpl
 unfold dv at HIN ⊢
 simp only[Ino.rv,Ino.gv,Option.isSome] at HIN
 go_enter Tryz.func37,Tryz.ntmps37
 obtain⟨D,hD⟩:∃ D:Array Value,D=#[.int .i64 (n:Int),.int .i64 (m:Int),.int .i64 (s:Int),.int .i64 16,.int .i64 (sl':Int),.int .i64 (bm:Int),.int .i64 (bk:Int),.int .i64 (E:Int),.slice (some ⟨g,0,none⟩) E gc]:=⟨_,rfl⟩
 have HD:=hid hD
 have HRB:=hid (show Zr w D n 0 0 0 none none [] [] (((w.alloc (.cells #[.int .i64 (n:Int),.int .i64 (m:Int),.int .i64 (s:Int),.int .i64 16,.int .i64 (sl':Int),.int .i64 (bm:Int),.int .i64 (bk:Int),.int .i64 (E:Int),.slice (some ⟨g,0,none⟩) E gc] 37)).alloc (.cells #[.int .i64 0,.slice none 0 0,.slice none 0 0] 41)).alloc (.cells #[.int .i64 (n:Int),.slice none 0 0,.slice none 0 0] 41)) from by
  rw[← hD]
  have h1:=hb_new w D 37
  have h2:=hb_new (w.alloc (.cells D 37)) #[.int .i64 0,.slice none 0 0,.slice none 0 0] 41
  have h3:=hb_new ((w.alloc (.cells D 37)).alloc (.cells #[.int .i64 0,.slice none 0 0,.slice none 0 0] 41)) #[.int .i64 (n:Int),.slice none 0 0,.slice none 0 0] 41
  simp only[World.size_alloc] at h2 h3
  have k:=fun (W:World) o=>(Below.refl W.heap.size W).alloc (Nat.le_refl _) o
  exact⟨(h1.keep (k _ _)).keep (k _ _),h2.keep (k _ _),h3,⟨rfl,.inl ⟨rfl,rfl⟩⟩,⟨rfl,.inl ⟨rfl,rfl⟩⟩,((k w _).trans ((k _ _).mono (by simp))).trans ((k _ _).mono (by simp;omega))⟩)
 clear hD
 go_wp2
 go_loopw [5,6,22] (fun v5 v6 q wr=>∃ (k ic hc:Nat) (I H:Option Addr) (cs ds:List Value),k≤m∧q = .int .i64 (k:Int)∧v5 = .slice none 0 0∧v6 = .slice none 0 0∧Zr w D n k ic hc I H cs ds wr) (fun _ _ q _=>m - (intOf q).toNat)
 case atStart=>exact⟨0,0,0,none,none,[],[],Nat.zero_le _,rfl,rfl,rfl,HRB.out⟩
 case round=>
  obtain⟨k,ic,hc,I,H,cs,ds,hk,rfl,rfl,rfl,hr⟩:=hrel
  clear HRB
  have HR:=hid hr
  by_cases hlt:k < m
  · have hvol:=hr.vol
    rw[HD.out] at hvol
    have v0:=hvol.cell 0
    have v1:=hvol.cell 1
    have v2:=hvol.cell 2
    have v3:=hvol.cell 3
    have v4:=hvol.cell 4
    have v5:=hvol.cell 5
    have v6:=hvol.cell 6
    have v7:=hvol.cell 7
    have v8:=hvol.cell 8
    have vl:=hvol.lt
    have hti:(k:Int) < (m:Int):=by omega
    have HDC:=hid (HIN.out wr hr.below k hlt)
    clear hvol hr
    go_wp2_with fail
    refine HDC.out.mono ?_
    rintro e w1 ⟨rfl,hb⟩
    clear v0 v1 v2 v3 v4 v5 v6 v7 v8 vl HDC
    have HR1:=hid (HR.out.keep hb)
    clear hb
    have HX2:=hid (hb_new w1 #[.int .i64 0,.int .i64 (-1),.int .i64 0] 151)
    have HR2:=hid (HR1.out.keep ((Below.refl w1.heap.size w1).alloc (Nat.le_refl _) (.cells #[.int .i64 0,.int .i64 (-1),.int .i64 0] 151)))
    have hvol:=HR2.out.vol
    rw[HD.out] at hvol
    have v0:=hvol.cell 0
    have v1:=hvol.cell 1
    have v2:=hvol.cell 2
    have v3:=hvol.cell 3
    have v4:=hvol.cell 4
    have v5:=hvol.cell 5
    have v6:=hvol.cell 6
    have v7:=hvol.cell 7
    have v8:=hvol.cell 8
    have vl:=hvol.lt
    have x1:=HX2.out.cell 1
    have xl:=HX2.out.lt
    clear hvol HR1
    go_wp2_with fail
    clear v0 v1 v2 v3 v4 v5 v6 v7 v8 vl x1 xl
    generalize w1.alloc (.cells #[.int .i64 0,.int .i64 (-1),.int .i64 0] 151)=w2 at *
    generalize w1.heap.size=xb at *
    refine (rread_nil w2 _ _ _ _ _ _ _ _ _).mono ?_
    rintro e w3 ⟨rfl,hb⟩
    have hal:=(Below.refl w3.heap.size w3).alloc (Nat.le_refl _) (.cells #[.slice none 0 0,.slice none 0 0] 156)
    have HR4:=hid (HR2.out.keep (hb.trans (hal.mono hb.size)))
    have HX4:=hid (HX2.out.keep (hb.trans (hal.mono hb.size)))
    have HY4:=hid (hb_new w3 #[.slice none 0 0,.slice none 0 0] 156)
    clear hb hal HR2 HX2
    go_wp2_with fail
    generalize w3.alloc (.cells #[.slice none 0 0,.slice none 0 0] 156)=w4 at *
    generalize w3.heap.size=yb at *
    refine (rblk_nil w4).mono ?_
    rintro e w5 ⟨rfl,hb⟩
    have HR5:=hid (HR4.out.keep hb)
    have HX5:=hid (HX4.out.keep hb)
    have HY5:=hid (HY4.out.keep hb)
    clear hb HR4 HX4 HY4
    have hvol:=HR5.out.vol
    rw[HD.out] at hvol
    have v0:=hvol.cell 0
    have v2:=hvol.cell 2
    have vl:=hvol.lt
    have x2:=HX5.out.cell 2
    have xl:=HX5.out.lt
    obtain⟨pr,hpr⟩:∃ pr,pr=s * n:=⟨_,rfl⟩
    have hmul:IntKind.i64.wrap ((s:Int) * (n:Int))=(pr:Int):=by
     rw[← Int.natCast_mul,← hpr]
     refine IntWalk.i64_in _ ?_
     have:pr≤2560:=by
      rw[hpr]
      rcases hs2 with h | h<;>rw[h]<;>omega
     omega
    have hz0:¬ (pr:Int) < 0:=by omega
    clear hvol hpr
    go_wp2_with fail
    refine (rneed_zero _ _).mono ?_
    rintro e w6 ⟨rfl,hb⟩
    have HR6:=hid (HR5.out.keep hb)
    have HX6:=hid (HX5.out.keep hb)
    have HY6:=hid (HY5.out.keep hb)
    clear hb HR5 HX5 HY5 v0 v2 vl x2 xl hmul hz0
    have y0:=HY6.out.cell 0
    have y1:=HY6.out.cell 1
    have yl:=HY6.out.lt
    go_wp2
    go_loopw [6,69] (fun v6 q wq=>v6 = .slice none 0 0∧q = .int .i64 0∧wq=w6) (fun _ _ _=>0)
    case atStart=>exact⟨rfl,rfl,rfl⟩
    case round=>
     obtain⟨rfl,rfl,rfl⟩:=hrel
     go_wp2
     go_loopw [5,84] (fun v5 q wq=>v5 = .slice none 0 0∧q = .int .i64 0∧wq=wr) (fun _ _ _=>0)
     case atStart=>exact⟨rfl,rfl,rfl⟩
     case round=>
      obtain⟨rfl,rfl,rfl⟩:=hrel
      have hr6:=HR6.out
      have b1:=hr6.box.cell 1
      have b2:=hr6.box.cell 2
      have bl':=hr6.box.lt
      have bf1:=hr6.box.frozen 1
      have bf2:=hr6.box.frozen 2
      have x0:=HX6.out.cell 0
      have x1:=HX6.out.cell 1
      have x2:=HX6.out.cell 2
      have xl:=HX6.out.lt
      have hws:=hr6.below.size
      obtain⟨j0,hj0,hq0,hq1,hq2⟩:=info_parts znode_info
      obtain⟨k0,hk0,hr0,hr1,hr2⟩:=info_parts zchain_info
      have hcy:¬ w.heap.size+1+1=yb:=Pm.blk_ne hr6.box HY6.out (by decide)
      have hyc:¬ yb=w.heap.size+1+1:=fun e=>hcy e.symm
      have hal:=(Below.refl wr.heap.size wr).alloc (Nat.le_refl _) (.cells #[.int .i64 0,.int .i64 (-1),.int .i64 0] 151)
      have HO7:=hid (hr6.keep hal)
      have HY7:=hid (HY6.out.keep hal)
      clear hal hr6
      go_wp2_with (first
       | (at_builtin
          refine wpList_append_own_at _ rfl (.tmp 98) (.tmp 100) 38 rfl w.heap.size 151 j0 (.agg #[.int .i64 0,.int .i64 0,.int .i64 0]) 3 24 Tryz.underlying38 hj0 hq0 hq1 hq2 rfl (by decide) (.slice I k ic) k cs rfl HO7.out.nds ⟨wr.heap.size,0,none⟩ 1 1 [.int .i64 0,.int .i64 (-1),.int .i64 0] rfl rfl (Chn.cells_three_new _ _ _ _ _) (by simp[Value.oneCell']) (by unfold maxLen;omega) (by omega) (by simp;omega) ?_
          intro v9 w9 hown9 hgr9 _ _
          obtain⟨G9,c9,rfl⟩:=zrow_slice hown9
          have hX9:=hb_grown HO7.out.box hgr9 (Chn.hb_apart3 HO7.out.box HO7.out.nds (by decide))
          have hY9:=hb_grown HY7.out hgr9 (Chn.hb_apart3 HY7.out HO7.out.nds (by decide))
          have hV9:=hb_grown HO7.out.vol hgr9 (Chn.hb_apart3 HO7.out.vol HO7.out.nds (by decide))
          have hZ9:=hb_grown HO7.out.res hgr9 (Chn.hb_apart3 HO7.out.res HO7.out.nds (by decide))
          have hH9:=World.ownsRow.kept HO7.out.chs hgr9 (own_ne HO7.out.chs HO7.out.nds (by decide))
          have hB9:=HO7.out.below.grown hgr9 HO7.out.below.size (fun _ hk=>row_base_lt3 HO7.out.nds hk)
          have HX10:=hid (hX9.set 1 (.slice G9 (k+1) c9))
          have HN10:=hid (Chn.own_far (i:=1) hown9 hX9 (by decide) (.slice G9 (k+1) c9))
          have HH10:=hid (Chn.own_far (i:=1) hH9 hX9 (by decide) (.slice G9 (k+1) c9))
          have HV10:=hid (hV9.far (p:=⟨w.heap.size+1+1,1,none⟩) (by show w.heap.size≠w.heap.size+1+1;omega) (.slice G9 (k+1) c9))
          have HZ10:=hid (hZ9.far (p:=⟨w.heap.size+1+1,1,none⟩) (by show w.heap.size+1≠w.heap.size+1+1;omega) (.slice G9 (k+1) c9))
          have HB10:=hid (hB9.setCell (p:=⟨w.heap.size+1+1,1,none⟩) (by show w.heap.size≤w.heap.size+1+1;omega) (.slice G9 (k+1) c9))
          have hz10:(w9.setCell ⟨w.heap.size+1+1,1,none⟩ (.slice G9 (k+1) c9)).heap.size=w9.heap.size:=by simp[World.setCell]
          have hal10:=(Below.refl (w9.setCell ⟨w.heap.size+1+1,1,none⟩ (.slice G9 (k+1) c9)).heap.size (w9.setCell ⟨w.heap.size+1+1,1,none⟩ (.slice G9 (k+1) c9))).alloc (Nat.le_refl _) (.cells #[.slice none 0 0,.slice none 0 0] 156)
          have HAL10:=hid hal10
          have HH11:=hid (own_keep3 HH10.out hal10)
          have hn11:=zcells_two (w9.setCell ⟨w.heap.size+1+1,1,none⟩ (.slice G9 (k+1) c9)) (.slice none 0 0) (.slice none 0 0) 156
          rw[hz10] at hn11
          have HN11:=hid hn11
          have b19:=hX9.cell 1
          have b29:=hX9.cell 2
          have bf19:=hX9.frozen 1
          have bf29:=hX9.frozen 2
          have bl9:=hX9.lt
          have y09:=hY9.cell 0
          have y19:=hY9.cell 1
          have yl9:=hY9.lt
          have hs9:=hB9.size
          clear hown9 hgr9 hal10 hn11 hX9 hY9 hV9 hZ9 hH9 hB9 b1 b2 bf1 bf2 x0 x1 x2 xl y0 y1)
       | (at_builtin
          refine wpList_append_own_at _ rfl (.tmp 104) (.tmp 106) 39 rfl w.heap.size 156 k0 (.agg #[.slice none 0 0,.slice none 0 0]) 2 48 Tryz.underlying39 hk0 hr0 hr1 hr2 rfl (by decide) (.slice H k hc) k ds rfl HH11.out ⟨w9.heap.size,0,none⟩ 1 1 [.slice none 0 0,.slice none 0 0] rfl rfl HN11.out (by simp[Value.oneCell']) (by unfold maxLen;omega) (by omega) (by simp[World.setCell];omega) ?_
          intro v12 w12 hown12 hgr12 _ _
          obtain⟨G12,c12,rfl⟩:=zrow_slice hown12
          have HX12:=hid (hb_grown (HX10.out.keep HAL10.out) hgr12 (Chn.hb_apart3 (HX10.out.keep HAL10.out) HH11.out (by decide)))
          have HV12:=hid (hb_grown (HV10.out.keep HAL10.out) hgr12 (Chn.hb_apart3 (HV10.out.keep HAL10.out) HH11.out (by decide)))
          have HZ12:=hid (hb_grown (HZ10.out.keep HAL10.out) hgr12 (Chn.hb_apart3 (HZ10.out.keep HAL10.out) HH11.out (by decide)))
          have HN12:=hid (World.ownsRow.kept (own_keep3 HN10.out HAL10.out) hgr12 (own_ne (own_keep3 HN10.out HAL10.out) HH11.out (by decide)))
          have HB12:=hid ((HB10.out.trans (HAL10.out.mono HB10.out.size)).grown hgr12 (HB10.out.trans (HAL10.out.mono HB10.out.size)).size (fun _ hk=>row_base_lt3 HH11.out hk))
          have HH12:=hid hown12
          have b212:=HX12.out.cell 2
          have bf212:=HX12.out.frozen 2
          have bl12:=HX12.out.lt
          clear hown12 hgr12))
      refine⟨⟨k+1,c9,c12,G9,G12,_,_,by omega,by go_num,rfl,rfl,⟨?_,?_,HX12.out.set 2 (.slice G12 (k+1) c12),Chn.own_far (i:=2) HN12.out HX12.out (by decide) _,Chn.own_far (i:=2) HH12.out HX12.out (by decide) _,?_⟩⟩,by simp[intOf];omega⟩
      · exact HV12.out.far (p:=⟨w.heap.size+1+1,2,none⟩) (by show w.heap.size≠w.heap.size+1+1;omega) _
      · exact HZ12.out.far (p:=⟨w.heap.size+1+1,2,none⟩) (by show w.heap.size+1≠w.heap.size+1+1;omega) _
      · exact HB12.out.setCell (p:=⟨w.heap.size+1+1,2,none⟩) (by show w.heap.size≤w.heap.size+1+1;omega) _
  · obtain rfl:k=m:=by omega
    have b0:=hr.box.cell 0
    have b1:=hr.box.cell 1
    have b2:=hr.box.cell 2
    have bl':=hr.box.lt
    have r0:=hr.res.cell 0
    have r1:=hr.res.cell 1
    have r2:=hr.res.cell 2
    have rf0:=hr.res.frozen 0
    have rf1:=hr.res.frozen 1
    have rf2:=hr.res.frozen 2
    have rl:=hr.res.lt
    clear hr
    go_wp2
    refine bodyPost_ret (v:=.tuple #[.agg #[.int .i64 (n:Int),.slice I k ic,.slice H k hc],.bool true]) ?_ rfl ⟨I,ic,H,hc,rfl,?_⟩
    · simp[results,Tryz.results37,go_sem,r0,r1,r2]
    · exact ((HR.out.below.setCell (p:=⟨w.heap.size+1,0,none⟩) (Nat.le_succ _) _).setCell (p:=⟨w.heap.size+1,1,none⟩) (Nat.le_succ _) _).setCell (p:=⟨w.heap.size+1,2,none⟩) (Nat.le_succ _) _
end
end Clm
end Go.Proofs.YtdafimdfbnphaaaGreatDoor
/- Texts. -/
namespace Go.Proofs.YtdafimdfbnphaaaGreatDoor
open Lib (hid)
open Go.RowKit Go.MapKept
namespace Fld
open Clm (Cl Pc Cq scn gi scan_any ScTo rscan_free)
open Vol (Vo Up Kq Hb hb_new hb_grown hb_apart Ov Pl gn gs dv rawW rdev_any open_any rawW_len rawW_read Vo.put wds_block)
theorem cq_put {w:World} {P:Pc} {n m:Nat} {L:List Cl} {N C X:Array Value} (h:Cq w P n m L N C X) {a:Addr} (ha:a.block < P.lo) (v:Value):Cq (w.setCell a v) P n m L N C X:=by
 have hc:Bm.Chg a.block w (w.setCell a v):=(Bm.Chg.refl a.block w).setCell rfl v
 have hl:=h.cr.ord.le
 have hlt:=h.cr.ord.lt
 exact⟨⟨Clm.hb_chg h.cr.claim hc (by omega),Clm.hb_chg h.cr.nodes hc (by omega),Clm.hb_chg h.cr.chains hc (by omega),Clm.hb_chg h.cr.places hc (by omega),h.cr.sn,h.cr.sc,h.cr.sx,
  Clm.mp_far h.cr.bm (by omega) (by omega) v,Clm.mp_far h.cr.sm (by omega) (by omega) v,h.cr.ord,h.cr.max⟩,h.nod,h.chs.fr (Clm.fr_chg hc (by omega)),h.plc⟩
theorem hdo (W:World):Below W.heap.size W W.drew:=⟨rfl,rfl,rfl,Nat.le_refl _,fun _ _=>rfl⟩
section
variable {sl bm bk E : Nat} {ws : List Nat} {L : List Cl}
set_option maxHeartbeats 4000000 in
set_option maxRecDepth 100000 in
theorem fopen_any (w:World) (x y k:Nat) (hx:x < 256) (hy:y < 256) (hk:k < 256) (A:Option Addr) (c:Nat) (hws:Pack.Wds w A ws) (h:Pl (gn x) (gn y) (gs k) sl bm bk E) (hsc:scn (gi (rawW (gn x) (gn y) (gs k) E ws) (gn x) (gn y) (gs k)) (gn y)=some L) (hz:∀ i,i < gn y→Vol.rdw (rawW (gn x) (gn y) (gs k) E ws) (16+8 * i) 8=Ino.ln 0 0 0) :
 Calls Tryz.prog 12 #[.agg #[.int .u8 (x:Int),.int .u8 (y:Int),.int .u8 (k:Int),.slice A ws.length c]] w fun r w'=>
  ∃ (Q:Nat→Prop) (vb a g gc:Nat) (P:Pc) (N C X:Array Value) (I H:Option Addr) (ic hc:Nat),r = .returned (.tuple #[.pointer (some ⟨vb,0,none⟩),.pointer (some ⟨P.c,0,none⟩),.agg (dv (gn x) (gn y) (gs k) sl bm bk E (.slice (some ⟨g,0,none⟩) E gc)),.agg #[.int .i64 (gn x:Nat),.slice I (gn y) ic,.slice H (gn y) hc],.bool true]) ∧
    Vo Q w' vb a (gn x) (gn y) (gs k) (rawW (gn x) (gn y) (gs k) E ws) 0 0∧Cq w' P (gn x) (gn y) L N C X∧Below w.heap.size w w':=by
 have HD:=hid (fun w' (hb:Below w.heap.size w w')=>rdev_any w' x y k hx hy hk A c (hws.keep hb) h)
 have HP:=hid h
 obtain⟨n,hn⟩:∃ n,n=gn x:=⟨_,rfl⟩
 obtain⟨m,hm⟩:∃ m,m=gn y:=⟨_,rfl⟩
 obtain⟨s,hs⟩:∃ s,s=gs k:=⟨_,rfl⟩
 rw[← hn,← hm,← hs] at HP HD hsc hz ⊢
 have HSC:=hid hsc
 have HZ:=hid hz
 clear hsc hz
 clear hn hm hs h hws
 go_enter Tryz.func12,Tryz.ntmps12
 go_wp2_with fail
 have hb0:=(Below.refl w.heap.size w).alloc (Nat.le_refl _) (.cells #[.int .u8 (x:Int),.int .u8 (y:Int),.int .u8 (k:Int),.slice A ws.length c] 45)
 have hz0:=World.size_alloc w (.cells #[.int .u8 (x:Int),.int .u8 (y:Int),.int .u8 (k:Int),.slice A ws.length c] 45)
 generalize w.alloc (.cells #[.int .u8 (x:Int),.int .u8 (y:Int),.int .u8 (k:Int),.slice A ws.length c] 45)=w0 at *
 have hb1:=hb0.alloc hb0.size (.cells #[.int .i64 0,.int .i64 0,.int .i64 0,.int .i64 0,.int .i64 0,.int .i64 0,.int .i64 0,.int .i64 0,.slice none 0 0] 37)
 have hv1:=hb_new w0 #[.int .i64 0,.int .i64 0,.int .i64 0,.int .i64 0,.int .i64 0,.int .i64 0,.int .i64 0,.int .i64 0,.slice none 0 0] 37
 have hz1:=World.size_alloc w0 (.cells #[.int .i64 0,.int .i64 0,.int .i64 0,.int .i64 0,.int .i64 0,.int .i64 0,.int .i64 0,.int .i64 0,.slice none 0 0] 37)
 rw[hz0] at hv1 hz1
 generalize w0.alloc (.cells #[.int .i64 0,.int .i64 0,.int .i64 0,.int .i64 0,.int .i64 0,.int .i64 0,.int .i64 0,.int .i64 0,.slice none 0 0] 37)=w1 at *
 have hal:=(Below.refl w1.heap.size w1).alloc (Nat.le_refl _) (.cells #[.int .i64 0,.slice none 0 0,.slice none 0 0] 41)
 have hc1:=hb_new w1 #[.int .i64 0,.slice none 0 0,.slice none 0 0] 41
 rw[hz1] at hc1
 have HB1:=hid (hb1.trans (hal.mono hb1.size))
 have HV1:=hid (hv1.keep hal)
 have HC1:=hid hc1
 clear hb0 hz0 hb1 hv1 hz1 hal hc1
 generalize w1.alloc (.cells #[.int .i64 0,.slice none 0 0,.slice none 0 0] 41)=w1' at *
 clear w0
 refine (HD.out _ HB1.out).mono ?_
 rintro r w2 ⟨a,g,gc,B,rfl,h1,h2,h3,h4,hup,hwd,hb⟩
 have HN:=hid (show w.heap.size+1+1 < B∧(w.heap.size+1+1 < g∧g < B)∧B≤w2.heap.size∧E≤gc from ⟨by have:=HC1.out.lt;omega,⟨by have:=HC1.out.lt;omega,h2.2⟩,h3,h4⟩)
 have HU2:=hid hup
 have HD2:=hid hwd
 have HV2:=hid (HV1.out.keep hb)
 have HC2:=hid (HC1.out.keep hb)
 have HB2:=hid (HB1.out.trans (hb.mono HB1.out.size))
 clear h1 h2 h3 h4 hup hwd hb HV1 HB1 HD HC1
 unfold dv
 have hb3:=(Below.refl w2.heap.size w2).alloc (Nat.le_refl _) (.cells #[.int .i64 (n:Int),.int .i64 (m:Int),.int .i64 (s:Int),.int .i64 16,.int .i64 (sl:Int),.int .i64 (bm:Int),.int .i64 (bk:Int),.int .i64 (E:Int),.slice (some ⟨g,0,none⟩) E gc] 37)
 have HX3:=hid (hb_new w2 #[.int .i64 (n:Int),.int .i64 (m:Int),.int .i64 (s:Int),.int .i64 16,.int .i64 (sl:Int),.int .i64 (bm:Int),.int .i64 (bk:Int),.int .i64 (E:Int),.slice (some ⟨g,0,none⟩) E gc] 37)
 have HU3:=hid (HU2.out.keep hb3)
 have HD3:=hid (HD2.out.keep hb3)
 have HV3:=hid (HV2.out.keep hb3)
 have HC3:=hid (HC2.out.keep hb3)
 have HB3:=hid (HB2.out.trans (hb3.mono HB2.out.size))
 have hz3:=World.size_alloc w2 (.cells #[.int .i64 (n:Int),.int .i64 (m:Int),.int .i64 (s:Int),.int .i64 16,.int .i64 (sl:Int),.int .i64 (bm:Int),.int .i64 (bk:Int),.int .i64 (E:Int),.slice (some ⟨g,0,none⟩) E gc] 37)
 have HS3:=hid hz3
 have HOP:=hid (open_any HU3.out HP.out.may (by rw[rawW_len HP.out];exact HP.out.e4.symm) (rawW_read HP.out))
 clear hb3 hz3 HU2 HD2 HV2 HB2 HC2
 go_wp2_with fail
 generalize w2.alloc (.cells #[.int .i64 (n:Int),.int .i64 (m:Int),.int .i64 (s:Int),.int .i64 16,.int .i64 (sl:Int),.int .i64 (bm:Int),.int .i64 (bk:Int),.int .i64 (E:Int),.slice (some ⟨g,0,none⟩) E gc] 37)=w3 at *
 refine HOP.out.mono ?_
 rintro r w4 ⟨vb,rfl,hvb,hvo,hb⟩
 have HV4:=hid (hvo.sub (Q':=fun k=>k < B∨k=vb) (fun k hk=>by
  rcases hk with hk | rfl
  · exact .inl hk
  · exact .inr ⟨hvb,hvo.lt⟩) (.inr rfl))
 have HX4:=hid (HX3.out.keep hb)
 have HD4:=hid (HD3.out.keep hb)
 have HR4:=hid (HV3.out.keep hb)
 have HC4:=hid (HC3.out.keep hb)
 have HB4:=hid (HB3.out.trans (hb.mono HB3.out.size))
 have HVB:=hid (show w2.heap.size+1≤vb by have:=HS3.out;omega)
 clear hvb hvo hb HOP HX3 HD3 HV3 HB3 HU3 HS3 HC3
 have hx4:=HX4.out
 have c0:=hx4.cell 0
 have c1:=hx4.cell 1
 have c2:=hx4.cell 2
 have c3:=hx4.cell 3
 have c4:=hx4.cell 4
 have c5:=hx4.cell 5
 have c6:=hx4.cell 6
 have c7:=hx4.cell 7
 have c8:=hx4.cell 8
 have hxl:=hx4.lt
 clear hx4
 have HRS:=hid (rscan_free (w:=w4) (gc:=gc) HP.out HD4.out (rawW_len HP.out) HN.out.2.2.2 HZ.out)
 unfold dv at HRS
 go_wp2_with fail
 refine HRS.out.mono ?_
 rintro e w5 ⟨I,ic,H,hc,rfl,hb⟩
 have hal:=(Below.refl w5.heap.size w5).alloc (Nat.le_refl _) (.cells #[.int .i64 (n:Int),.slice I m ic,.slice H m hc] 41)
 have hb6:=hb.trans (hal.mono hb.size)
 have HYB:=hid (show w2.heap.size < w5.heap.size from Nat.lt_of_lt_of_le HX4.out.lt hb.size)
 have HY6:=hid (hb_new w5 #[.int .i64 (n:Int),.slice I m ic,.slice H m hc] 41)
 have HV6:=hid (HV4.out.keep hb6)
 have HX6:=hid (HX4.out.keep hb6)
 have HR6:=hid (HR4.out.keep hb6)
 have HC6:=hid (HC4.out.keep hb6)
 have HB6:=hid (HB4.out.trans (hb6.mono HB4.out.size))
 clear hb hal hb6 HV4 HX4 HR4 HC4 HB4 HD4 HRS c0 c1 c2 c3 c4 c5 c6 c7 c8
 go_wp2_with fail
 generalize w5.alloc (.cells #[.int .i64 (n:Int),.slice I m ic,.slice H m hc] 41)=w6 at *
 generalize w5.heap.size=yb at *
 refine (scan_any HV6.out).mono ?_
 intro e w7 k7
 unfold ScTo at k7
 rw[HSC.out] at k7
 rcases k7 with ⟨h1,_⟩ | ⟨L',P,N,C,X,h1,rfl,hq,hlo,hb⟩
 · cases h1
 injection h1 with h1
 subst h1
 have hx4:=HX6.out.keep hb
 have c0:=hx4.cell 0
 have c1:=hx4.cell 1
 have c2:=hx4.cell 2
 have c3:=hx4.cell 3
 have c4:=hx4.cell 4
 have c5:=hx4.cell 5
 have c6:=hx4.cell 6
 have c7:=hx4.cell 7
 have c8:=hx4.cell 8
 have hxl:=hx4.lt
 have hr4:=HR6.out.keep hb
 have d0:=hr4.cell 0
 have d1:=hr4.cell 1
 have d2:=hr4.cell 2
 have d3:=hr4.cell 3
 have d4:=hr4.cell 4
 have d5:=hr4.cell 5
 have d6:=hr4.cell 6
 have d7:=hr4.cell 7
 have d8:=hr4.cell 8
 have f0:=hr4.frozen 0
 have f1:=hr4.frozen 1
 have f2:=hr4.frozen 2
 have f3:=hr4.frozen 3
 have f4:=hr4.frozen 4
 have f5:=hr4.frozen 5
 have f6:=hr4.frozen 6
 have f7:=hr4.frozen 7
 have f8:=hr4.frozen 8
 have hrl:=hr4.lt
 have hy4:=HY6.out.keep hb
 have y0:=hy4.cell 0
 have y1:=hy4.cell 1
 have y2:=hy4.cell 2
 have hyl:=hy4.lt
 have hc4:=HC6.out.keep hb
 have e0:=hc4.cell 0
 have e1:=hc4.cell 1
 have e2:=hc4.cell 2
 have g0:=hc4.frozen 0
 have g1:=hc4.frozen 1
 have g2:=hc4.frozen 2
 have hcl:=hc4.lt
 have HQ7:=hid hq
 have HV7:=hid (HV6.out.keep hb)
 have HB7:=hid (HB6.out.trans (hb.mono HB6.out.size))
 have HLO:=hid (show w.heap.size+1+1 < P.lo by have:=HC6.out.lt;omega)
 have hN:=HN.out
 have hVB:=HVB.out
 clear hx4 hr4 hy4 hc4 hq hb hlo
 have hYB:=HYB.out
 have n1:¬ w2.heap.size=w.heap.size+1:=by omega
 have n2:¬ w.heap.size+1=w2.heap.size:=by omega
 have n3:¬ w2.heap.size=w.heap.size+1+1:=by omega
 have n4:¬ w.heap.size+1+1=w2.heap.size:=by omega
 have n5:¬ yb=w.heap.size+1:=by omega
 have n6:¬ w.heap.size+1=yb:=by omega
 have n7:¬ yb=w.heap.size+1+1:=by omega
 have n8:¬ w.heap.size+1+1=yb:=by omega
 have n9:¬ w.heap.size+1+1=w.heap.size+1:=by omega
 have n10:¬ w.heap.size+1=w.heap.size+1+1:=by omega
 go_wp2_with fail
 go_region
 go_wp2
 refine bodyPost_ret (v:=.tuple #[.pointer (some ⟨vb,0,none⟩),.pointer (some ⟨P.c,0,none⟩),.agg #[.int .i64 (n:Int),.int .i64 (m:Int),.int .i64 (s:Int),.int .i64 16,.int .i64 (sl:Int),.int .i64 (bm:Int),.int .i64 (bk:Int),.int .i64 (E:Int),.slice (some ⟨g,0,none⟩) E gc],.agg #[.int .i64 (n:Int),.slice I m ic,.slice H m hc],.bool true]) ?_ rfl ⟨fun k=>k < B∨k=vb,vb,a,g,gc,P,N,C,X,I,H,ic,hc,rfl,?_,?_,?_⟩
 · simp[results,Tryz.results12,go_sem,d0,d1,d2,d3,d4,d5,d6,d7,d8,e0,e1,e2]
 · refine Vo.keep ?_ (hdo _)
   iterate 12 refine Vo.put ?_ (.inl (by show _ < B;simp only;omega)) (by show vb≠_;simp only;omega) _
   exact HV7.out
 · refine Cq.keep ?_ (hdo _)
   have hLO:=HLO.out
   iterate 12 refine cq_put ?_ (by simp only;omega) _
   exact HQ7.out
 · refine Below.trans ?_ ((hdo _).mono (by simp only[World.setCell,Array.size_modify];exact HB7.out.size))
   iterate 12 refine Below.setCell ?_ (by simp only;omega) _
   exact HB7.out
end
end Fld
end Go.Proofs.YtdafimdfbnphaaaGreatDoor
/- Texts. -/
/- Texts. -/
namespace Go.Proofs.YtdafimdfbnphaaaGreatDoor
open Lib (hid)
open Go.RowKit Go.MapKept
namespace Clm
open Chn (Pt New Prt slots Mays tot blk blk_len)
open Vol (Vo Hb hb_new)
open Pack (Nts)
section
variable {w : World} {P : Pc} {n m : Nat} {L : List Cl} {N C X : Array Value}
theorem chas_any {fb fs:Nat→Bool} (h:Cr w P n m N C X fb fs) (i:Int):Calls Tryz.prog 82 #[.pointer (some ⟨P.c,0,none⟩),.int .i64 i] w fun r w'=>r = .returned (.bool (decide (0≤i∧i < (m:Int))))∧Below w.heap.size w w':=by
 have c0:=h.claim.cell 0
 have cl:=h.lt
 clear h
 go_enter Tryz.func82,Tryz.ntmps82
 by_cases h0:0≤i
 · by_cases h1:i < (m:Int)
   · go_wp2
     go_ret
     exact⟨by simp[h0,h1],Below.refl _ _⟩
   · go_wp2
     go_ret
     exact⟨by simp[h1],Below.refl _ _⟩
 · go_wp2
   go_ret
   exact⟨by rw[decide_eq_false (show ¬ (0:Int)≤i by omega)];rfl,Below.refl _ _⟩
set_option maxHeartbeats 1000000 in
theorem inode_yes (h:Cq w P n m L N C X) (hL:L.length=m) (i:Nat) (hi:i < L.length):Calls Tryz.prog 39 #[.pointer (some ⟨P.c,0,none⟩),.int .i64 (i:Int)] w fun r w'=>r = .returned (.agg #[.int .i64 (L[i].k:Int),.int .i64 ((L[i].p:Int) - 1),.int .i64 (L[i].z:Int)])∧Below w.heap.size w w':=by
 have hc:=fun w' (hb:Below w.heap.size w w')=>chas_any (h.cr.keep hb) (i:Int)
 have H:=hid h
 obtain⟨k0,k1,k2⟩:=h.nod i hi
 have hm:i < m:=by omega
 clear h hL
 generalize L[i]=c at *
 obtain⟨ck,cp,cz,cl⟩:=c
 simp only at k0 k1 k2 ⊢
 generalize (cp:Int) - 1=hd at *
 have hdec:decide ((0:Int)≤(i:Int)∧(i:Int) < (m:Int))=true:=decide_eq_true (by omega)
 rw[hdec] at hc
 have HC:=hid hc
 clear hdec hc
 have HX:=hid (hb_new w #[.int .i64 0,.int .i64 0,.int .i64 0] 84)
 have HB0:=hid ((Below.refl w.heap.size w).alloc (Nat.le_refl _) (.cells #[.int .i64 0,.int .i64 0,.int .i64 0] 84))
 go_enter Tryz.func39,Tryz.ntmps39
 go_wp2_with fail
 generalize w.alloc (.cells #[.int .i64 0,.int .i64 0,.int .i64 0] 84)=w0 at *
 refine (HC.out _ HB0.out).mono ?_
 rintro r w1 ⟨rfl,hb⟩
 have HB:=hid (HB0.out.trans (hb.mono HB0.out.size))
 have hx:=HX.out.keep hb
 have h1:=H.out.keep HB.out
 have c0:=h1.cr.claim.cell 0
 have cl':=h1.cr.lt
 have n0:=(h1.cr.nodes.cell (i * 3)).trans k0
 have n1:=(h1.cr.nodes.cell (i * 3+1)).trans k1
 have n2:=(h1.cr.nodes.cell (i * 3+2)).trans k2
 have nl:=h1.cr.nodes.lt
 have x0:=hx.cell 0
 have x1:=hx.cell 1
 have x2:=hx.cell 2
 have f0:=hx.frozen 0
 have f1:=hx.frozen 1
 have f2:=hx.frozen 2
 have xl:=hx.lt
 clear hb h1 HC hx
 go_wp2
 refine bodyPost_ret (v:=.agg #[.int .i64 (ck:Int),.int .i64 hd,.int .i64 (cz:Int)]) ?_ rfl ⟨rfl,?_⟩
 · simp[results,Tryz.results39,go_sem,x0,x1,x2]
 · exact ((HB.out.setCell (p:=⟨w.heap.size,0,none⟩) (Nat.le_refl _) _).setCell (p:=⟨w.heap.size,1,none⟩) (Nat.le_refl _) _).setCell (p:=⟨w.heap.size,2,none⟩) (Nat.le_refl _) _
theorem drewN_below (w:World) (k:Nat):Below w.heap.size w (w.drewN k):=⟨rfl,rfl,rfl,Nat.le_refl _,fun _ _=>rfl⟩
set_option maxHeartbeats 1000000 in
theorem cblocks_any (h:Cq w P n m L N C X):Calls Tryz.prog 29 #[.pointer (some ⟨P.c,0,none⟩)] w (Bm.Cpy w ((n+63) / 64) n (ins (bl L))):=by
 have HH:=hid (Bm.copy_any h.cr.bm)
 have c2:=h.cr.claim.cell 2
 have cl:=h.cr.lt
 clear h
 go_enter Tryz.func29,Tryz.ntmps29
 go_wp2_with fail
 refine HH.out.mono ?_
 rintro r w1 ⟨p,q,C',rfl,k⟩
 go_wp2
 go_ret
 exact⟨p,q,C',rfl,k⟩
set_option maxHeartbeats 1000000 in
theorem cslots_any (h:Cq w P n m L N C X):Calls Tryz.prog 31 #[.pointer (some ⟨P.c,0,none⟩)] w (Bm.Cpy w ((n+63) / 64) n (ins (sl L))):=by
 have HH:=hid (Bm.copy_any h.cr.sm)
 have c2:=h.cr.claim.cell 3
 have cl:=h.cr.lt
 clear h
 go_enter Tryz.func31,Tryz.ntmps31
 go_wp2_with fail
 refine HH.out.mono ?_
 rintro r w1 ⟨p,q,C',rfl,k⟩
 go_wp2
 go_ret
 exact⟨p,q,C',rfl,k⟩
end
end Clm
end Go.Proofs.YtdafimdfbnphaaaGreatDoor
/- Texts. -/
/- Texts. -/
namespace Go.Proofs.YtdafimdfbnphaaaGreatDoor
open Go.RowKit Go.MapKept
namespace Vol
section
variable {Q Q' : Nat → Prop} {w w' : World} {vb a n m s : Nat} {W : List Nat} {st sn : Nat}
theorem Vo.blk (h:Vo Q w vb a n m s W st sn):∃ bk q:Nat,Geo.bkAt n m=(bk:Int)∧s=8 * q∧8≤q∧q≤512∧W.length=bk+n * q∧bk≤610000:=by
 obtain⟨h1,h2,h3⟩:=h.num
 have h4:=Geo.bk_bounds h1 h2
 have h5:=h3.bounds
 obtain⟨bk,hbk⟩:=Int.eq_ofNat_of_zero_le h4.2.2.2.2
 refine⟨bk,s / 8,hbk,by omega,by omega,by omega,?_,by omega⟩
 have h7:=h.len
 unfold Geo.fin at h7
 rw[hbk] at h7
 have:((n * (s / 8):Nat):Int)=(n:Int) * ((s:Int) / 8):=by simp
 omega
end
end Vol
end Go.Proofs.YtdafimdfbnphaaaGreatDoor
/- Texts. -/
namespace Go.Proofs.YtdafimdfbnphaaaGreatDoor
open Lib (hid)
open Go.RowKit Go.MapKept
namespace Fld
open Clm (Cl Pc Cq Ok Oks need inode_yes)
open Chn (Pt New Prt slots Mays tot blk blk_len own_prt own_keep3 own_new row_base_lt3 row_cap3 blocks_new)
open Vol (Vo Hb hb_new hb_grown rdw rdw_len)
open Pack (Nts)
section
variable {w : World} {P : Pc} {n m : Nat} {L : List Cl} {N C X : Array Value}
theorem hdr (W:World):Below W.heap.size W W.drew:=⟨rfl,rfl,rfl,Nat.le_refl _,fun _ _=>rfl⟩
set_option maxHeartbeats 1000000 in
theorem bytes_none (v i:Value) (HI:∀ w',Below w.heap.size w w'→Calls Tryz.prog 39 #[.pointer (some ⟨P.c,0,none⟩),i] w' fun r w''=>r = .returned (.agg #[.int .i64 0,.int .i64 (-1),.int .i64 0])∧Below w'.heap.size w' w'') :
 Calls Tryz.prog 14 #[v,.pointer (some ⟨P.c,0,none⟩),i] w fun r w'=>r = .returned (.tuple #[.slice none 0 0,.int .i64 4])∧Below w.heap.size w w':=by
 have HI:=hid HI
 have HN:=hid (fun w=>Ino.none_any w)
 go_enter Tryz.func14,Tryz.ntmps14
 go_wp2_with fail
 refine (HI.out _ (Below.refl _ _)).mono ?_
 rintro r w1 ⟨rfl,hb1⟩
 have hal:=(Below.refl w1.heap.size w1).alloc (Nat.le_refl _) (.cells #[.int .i64 0,.int .i64 (-1),.int .i64 0] 84)
 have HB:=hid (hb1.trans (hal.mono hb1.size))
 have HX:=hid (hb_new w1 #[.int .i64 0,.int .i64 (-1),.int .i64 0] 84)
 clear hb1 hal HI
 go_wp2_with fail
 generalize w1.alloc (.cells #[.int .i64 0,.int .i64 (-1),.int .i64 0] 84)=w2 at *
 generalize w1.heap.size=xb at *
 have c0:=HX.out.cell 0
 have c1:=HX.out.cell 1
 have c2:=HX.out.cell 2
 have xl:=HX.out.lt
 go_region_held3 (fun W'=>W'.cell? ⟨xb,0,none⟩=some (.int .i64 0)∧W'.cell? ⟨xb,1,none⟩=some (.int .i64 (-1))∧W'.cell? ⟨xb,2,none⟩=some (.int .i64 0)) (go_keep)
  (first
  | (go_at_call 40
     with_reducible refine (HN.out _).mono ?_
     rintro e w3 ⟨rfl,hb⟩
     have HX3:=hid ((HX.out.keep (hdr _)).keep hb)
     have HB3:=hid (HB.out.trans (((hdr w2).trans (hb.mono (hdr w2).size)).mono HB.out.size))
     have d0:=HX3.out.cell 0
     have d1:=HX3.out.cell 1
     have d2:=HX3.out.cell 2
     have dl:=HX3.out.lt
     clear hb))
 go_wp2
 go_ret2
 exact⟨rfl,HB3.out⟩
theorem bytes_free (v:Value) (h:Cq w P n m L N C X) (hL:L.length=m) (i:Nat) (hi:i < L.length) (hk:L[i].k=0) (hp:L[i].p=0) (hz:L[i].z=0) :
 Calls Tryz.prog 14 #[v,.pointer (some ⟨P.c,0,none⟩),.int .i64 (i:Int)] w fun r w'=>r = .returned (.tuple #[.slice none 0 0,.int .i64 4])∧Below w.heap.size w w':=
 bytes_none v (.int .i64 (i:Int)) fun w' hb=>by
  have:=inode_yes (h.keep hb) hL i hi
  rw[hk,hp,hz] at this
  exact this
end
section
variable {Q : Nat → Prop} {w : World} {P : Pc} {vb a n m s st sn : Nat} {W : List Nat} {L : List Cl} {N C X : Array Value}
end
end Fld
end Go.Proofs.YtdafimdfbnphaaaGreatDoor
/- Texts. -/
namespace Go.Proofs.YtdafimdfbnphaaaGreatDoor
open Lib (hid)
open Go.RowKit Go.MapKept
namespace Clm
open Vol (Vo Up Kq Hb hb_new hb_grown hb_apart Ov Pl gn gs dv rawW rdev_any open_any rawW_len rawW_read Vo.put wds_block)
section
variable {sl bm bk E : Nat} {ws : List Nat}
set_option maxHeartbeats 4000000 in
set_option maxRecDepth 100000 in
theorem kopen_any (w:World) (x y k:Nat) (hx:x < 256) (hy:y < 256) (hk:k < 256) (A:Option Addr) (c:Nat) (hws:Pack.Wds w A ws) (h:Pl (gn x) (gn y) (gs k) sl bm bk E) :
 Calls Tryz.prog 24 #[.agg #[.int .u8 (x:Int),.int .u8 (y:Int),.int .u8 (k:Int),.slice A ws.length c]] w fun r w'=>
  ∃ (Q:Nat→Prop) (vb a g gc:Nat),r = .returned (.tuple #[.pointer (some ⟨vb,0,none⟩),.agg (dv (gn x) (gn y) (gs k) sl bm bk E (.slice (some ⟨g,0,none⟩) E gc))])∧Ov w w' Q vb a g gc (gn x) (gn y) (gs k) E (rawW (gn x) (gn y) (gs k) E ws):=by
 have HD:=hid (fun w' (hb:Below w.heap.size w w')=>rdev_any w' x y k hx hy hk A c (hws.keep hb) h)
 have HP:=hid h
 obtain⟨n,hn⟩:∃ n,n=gn x:=⟨_,rfl⟩
 obtain⟨m,hm⟩:∃ m,m=gn y:=⟨_,rfl⟩
 obtain⟨s,hs⟩:∃ s,s=gs k:=⟨_,rfl⟩
 rw[← hn,← hm,← hs] at HP HD ⊢
 clear hn hm hs h hws
 go_enter Tryz.func24,Tryz.ntmps24
 go_wp2_with fail
 have hb0:=(Below.refl w.heap.size w).alloc (Nat.le_refl _) (.cells #[.int .u8 (x:Int),.int .u8 (y:Int),.int .u8 (k:Int),.slice A ws.length c] 45)
 have hz0:=World.size_alloc w (.cells #[.int .u8 (x:Int),.int .u8 (y:Int),.int .u8 (k:Int),.slice A ws.length c] 45)
 generalize w.alloc (.cells #[.int .u8 (x:Int),.int .u8 (y:Int),.int .u8 (k:Int),.slice A ws.length c] 45)=w0 at *
 have hb1:=hb0.alloc hb0.size (.cells #[.int .i64 0,.int .i64 0,.int .i64 0,.int .i64 0,.int .i64 0,.int .i64 0,.int .i64 0,.int .i64 0,.slice none 0 0] 37)
 have hv1:=hb_new w0 #[.int .i64 0,.int .i64 0,.int .i64 0,.int .i64 0,.int .i64 0,.int .i64 0,.int .i64 0,.int .i64 0,.slice none 0 0] 37
 rw[hz0] at hv1
 have HB1:=hid hb1
 have HV1:=hid hv1
 clear hb0 hz0 hb1 hv1
 generalize w0.alloc (.cells #[.int .i64 0,.int .i64 0,.int .i64 0,.int .i64 0,.int .i64 0,.int .i64 0,.int .i64 0,.int .i64 0,.slice none 0 0] 37)=w1 at *
 clear w0
 refine (HD.out _ HB1.out).mono ?_
 rintro r w2 ⟨a,g,gc,B,rfl,h1,h2,h3,h4,hup,hwd,hb⟩
 have HN:=hid (show w.heap.size+1 < B∧(w.heap.size+1 < g∧g < B)∧B≤w2.heap.size∧E≤gc from ⟨by have:=HV1.out.lt;omega,⟨by have:=HV1.out.lt;omega,h2.2⟩,h3,h4⟩)
 have HU2:=hid hup
 have HD2:=hid hwd
 have HV2:=hid (HV1.out.keep hb)
 have HB2:=hid (HB1.out.trans (hb.mono HB1.out.size))
 clear h1 h2 h3 h4 hup hwd hb HV1 HB1 HD
 unfold dv
 have hb3:=(Below.refl w2.heap.size w2).alloc (Nat.le_refl _) (.cells #[.int .i64 (n:Int),.int .i64 (m:Int),.int .i64 (s:Int),.int .i64 16,.int .i64 (sl:Int),.int .i64 (bm:Int),.int .i64 (bk:Int),.int .i64 (E:Int),.slice (some ⟨g,0,none⟩) E gc] 37)
 have HX3:=hid (hb_new w2 #[.int .i64 (n:Int),.int .i64 (m:Int),.int .i64 (s:Int),.int .i64 16,.int .i64 (sl:Int),.int .i64 (bm:Int),.int .i64 (bk:Int),.int .i64 (E:Int),.slice (some ⟨g,0,none⟩) E gc] 37)
 have HU3:=hid (HU2.out.keep hb3)
 have HD3:=hid (HD2.out.keep hb3)
 have HV3:=hid (HV2.out.keep hb3)
 have HB3:=hid (HB2.out.trans (hb3.mono HB2.out.size))
 have hz3:=World.size_alloc w2 (.cells #[.int .i64 (n:Int),.int .i64 (m:Int),.int .i64 (s:Int),.int .i64 16,.int .i64 (sl:Int),.int .i64 (bm:Int),.int .i64 (bk:Int),.int .i64 (E:Int),.slice (some ⟨g,0,none⟩) E gc] 37)
 have HS3:=hid hz3
 have HOP:=hid (open_any HU3.out HP.out.may (by rw[rawW_len HP.out];exact HP.out.e4.symm) (rawW_read HP.out))
 clear hb3 hz3 HU2 HD2 HV2 HB2
 go_wp2_with fail
 generalize w2.alloc (.cells #[.int .i64 (n:Int),.int .i64 (m:Int),.int .i64 (s:Int),.int .i64 16,.int .i64 (sl:Int),.int .i64 (bm:Int),.int .i64 (bk:Int),.int .i64 (E:Int),.slice (some ⟨g,0,none⟩) E gc] 37)=w3 at *
 refine HOP.out.mono ?_
 rintro r w4 ⟨vb,rfl,hvb,hvo,hb⟩
 have HV4:=hid (hvo.sub (Q':=fun k=>k < B∨k=vb) (fun k hk=>by
  rcases hk with hk | rfl
  · exact .inl hk
  · exact .inr ⟨hvb,hvo.lt⟩) (.inr rfl))
 have HX4:=hid (HX3.out.keep hb)
 have HD4:=hid (HD3.out.keep hb)
 have HR4:=hid (HV3.out.keep hb)
 have HB4:=hid (HB3.out.trans (hb.mono HB3.out.size))
 have HVB:=hid (show w2.heap.size+1≤vb by have:=HS3.out;omega)
 clear hvb hvo hb HOP HX3 HD3 HV3 HB3 HU3 HS3
 have c0:=HX4.out.cell 0
 have c1:=HX4.out.cell 1
 have c2:=HX4.out.cell 2
 have c3:=HX4.out.cell 3
 have c4:=HX4.out.cell 4
 have c5:=HX4.out.cell 5
 have c6:=HX4.out.cell 6
 have c7:=HX4.out.cell 7
 have c8:=HX4.out.cell 8
 have d0:=HR4.out.cell 0
 have d1:=HR4.out.cell 1
 have d2:=HR4.out.cell 2
 have d3:=HR4.out.cell 3
 have d4:=HR4.out.cell 4
 have d5:=HR4.out.cell 5
 have d6:=HR4.out.cell 6
 have d7:=HR4.out.cell 7
 have d8:=HR4.out.cell 8
 have f0:=HR4.out.frozen 0
 have f1:=HR4.out.frozen 1
 have f2:=HR4.out.frozen 2
 have f3:=HR4.out.frozen 3
 have f4:=HR4.out.frozen 4
 have f5:=HR4.out.frozen 5
 have f6:=HR4.out.frozen 6
 have f7:=HR4.out.frozen 7
 have f8:=HR4.out.frozen 8
 have hxl:=HX4.out.lt
 have hrl:=HR4.out.lt
 have hN:=HN.out
 have hVB:=HVB.out
 have hne1:¬ w2.heap.size=w.heap.size+1:=by omega
 have hne2:¬ w.heap.size+1=w2.heap.size:=by omega
 go_wp2_with fail
 go_region
 go_wp2
 have hd:∀ V:World,Below V.heap.size V V.drew:=fun V=>⟨rfl,rfl,rfl,Nat.le_refl _,fun _ _=>rfl⟩
 refine bodyPost_ret (v:=.tuple #[.pointer (some ⟨vb,0,none⟩),.agg #[.int .i64 (n:Int),.int .i64 (m:Int),.int .i64 (s:Int),.int .i64 16,.int .i64 (sl:Int),.int .i64 (bm:Int),.int .i64 (bk:Int),.int .i64 (E:Int),.slice (some ⟨g,0,none⟩) E gc]]) ?_ rfl ⟨fun k=>k < B∨k=vb,vb,a,g,gc,rfl,⟨?_,.inl hN.2.1.2,fun k hk=>.inl (by omega),?_,hN.2.2.2,?_,rawW_len HP.out⟩⟩
 · simp[results,Tryz.results24,go_sem,d0,d1,d2,d3,d4,d5,d6,d7,d8]
 · refine Vo.keep ?_ (hd _)
   iterate 9 refine Vo.put ?_ (.inl hN.1) (by show vb≠w.heap.size+1;omega) _
   exact HV4.out
 · refine Pack.Wds.keep ?_ (hd _)
   iterate 9 refine wds_block ?_ (Below.heap_setCell _ _ _ _ (by show g≠w.heap.size+1;omega))
   exact HD4.out
 · refine Below.trans ?_ ((hd _).mono (by simp only[World.setCell,Array.size_modify];exact HB4.out.size))
   iterate 9 refine Below.setCell ?_ (Nat.le_succ _) _
   exact HB4.out
end
end Clm
end Go.Proofs.YtdafimdfbnphaaaGreatDoor
/- Texts. -/
namespace Go.Proofs.YtdafimdfbnphaaaGreatDoor
open Lib (hid)
open Go.RowKit Go.MapKept
namespace Clm
open Chn (Pt New Prt slots Mays tot blk blk_len row_cap3 own_new own_keep3 row_base_lt3)
open Vol (Vo Hb hb_new hb_grown hb_apart)
open Pack (Nts int_info i64s)
def kd (L:List Cl) (i:Nat):Nat:=(L[i]?.map Cl.k).getD 0
theorem kd_get {L:List Cl} {i:Nat} (h:i < L.length):kd L i=L[i].k:=by simp[kd,List.getElem?_eq_getElem h]
section
variable {w : World} {P : Pc} {n m : Nat} {L : List Cl} {N C X : Array Value}
def nf (L:List Cl) (m:Nat):Int:=Bm.next (fun i=>kd L i != 0) false m 0
set_option maxHeartbeats 4000000 in
set_option maxRecDepth 100000 in
theorem index_any (h:Cq w P n m L N C X) (hL:L.length=m) (hf:∀ c∈L,c.k=0→c.p=0∧c.z=0):Calls Tryz.prog 62 #[.slice (some ⟨P.nb,0,none⟩) m m,.agg #[.int .i64 0,.int .i64 (-1),.int .i64 0]] w fun r w'=>
 r = .returned (.int .i64 (nf L m))∧Below w.heap.size w w':=by
 have H:=hid h
 have HF:=hid hf
 have hm:=h.cr.max
 have HLM:=hid hL
 clear h hf hL
 go_enter Tryz.func62,Tryz.ntmps62
 have HX0:=hid (hb_new w #[.int .i64 0,.int .i64 (-1),.int .i64 0] 84)
 have HB0:=hid ((Below.refl w.heap.size w).alloc (Nat.le_refl _) (.cells #[.int .i64 0,.int .i64 (-1),.int .i64 0] 84))
 go_wp2
 generalize w.alloc (.cells #[.int .i64 0,.int .i64 (-1),.int .i64 0] 84)=w0 at *
 go_loopw [8] (fun q wr=>∃ t:Nat,t≤m∧q = .int .i64 (t:Int)∧(∀ j,j < t→kd L j≠0)∧Below w0.heap.size w0 wr) (fun q _=>m - (intOf q).toNat)
 case atStart=>exact⟨0,Nat.zero_le _,rfl,fun j hj=>by omega,Below.refl _ _⟩
 case round=>
  obtain⟨t,ht,rfl,hall,hb⟩:=hrel
  have HB:=hid (HB0.out.trans (hb.mono HB0.out.size))
  have HX:=hid (HX0.out.keep hb)
  by_cases hlt:t < m
  · have htL:t < L.length:=by have:=HLM.out;omega
    obtain⟨k0,k1,k2⟩:=H.out.nod t htL
    have HFF:=hid (HF.out _ (List.getElem_mem htL))
    have HKD:=hid (kd_get htL)
    generalize L[t]=c at *
    obtain⟨ck,cp,cz,cl⟩:=c
    simp only at k0 k1 k2 HFF HKD
    have hh:=H.out.keep HB.out
    have n0:=(hh.cr.nodes.cell (t * 3)).trans k0
    have n1:=(hh.cr.nodes.cell (t * 3+1)).trans k1
    have n2:=(hh.cr.nodes.cell (t * 3+2)).trans k2
    have nl:=hh.cr.nodes.lt
    have x0:=HX.out.cell 0
    have x1:=HX.out.cell 1
    have x2:=HX.out.cell 2
    have xl:=HX.out.lt
    have HALL:=hid hall
    have HBW:=hid hb
    have hti:(t:Int) < (m:Int):=by omega
    clear hh k0 k1 k2 hall hb
    by_cases hk:ck=0
    · subst hk
      obtain⟨rfl,rfl⟩:=HFF.out rfl
      have n0:wr.cell? ⟨P.nb,t * 3,none⟩=some (.int .i64 0):=n0
      have n1:wr.cell? ⟨P.nb,t * 3+1,none⟩=some (.int .i64 (-1)):=n1
      have n2:wr.cell? ⟨P.nb,t * 3+2,none⟩=some (.int .i64 0):=n2
      have HNX:=hid (Bm.Nx.next (.inr ⟨t,rfl,Nat.zero_le _,hlt,by simp[HKD.out],fun c _ hc=>by have:=HALL.out c hc;simp[this]⟩:Bm.Nx (fun i=>kd L i != 0) false m 0 (t:Int)))
      go_wp2_with fail
      go_region
      go_wp2
      go_ret
      refine⟨?_,HB.out.trans ((drewN_below wr 1).mono HB.out.size)⟩
      unfold nf
      rw[← HNX.out]
      rfl
    · generalize (cp:Int) - 1=hd at *
      have hkb:((ck:Int) == 0)=false:=beq_eq_false_iff_ne.2 (by omega)
      have hkb2:((0:Int) == (ck:Int))=false:=beq_eq_false_iff_ne.2 (by omega)
      have hk0:¬ (ck:Int)=0:=by omega
      have hk1:¬ (0:Int)=(ck:Int):=by omega
      have HKN:=hid hk
      clear hk
      go_wp2_with fail
      go_region
      go_wp2
      refine⟨⟨t+1,by omega,by go_num,fun j hj=>?_,HBW.out.trans ((drewN_below wr 1).mono HBW.out.size)⟩,by simp[intOf];omega⟩
      by_cases e:j=t
      · subst e
        rw[HKD.out]
        exact HKN.out
      · exact HALL.out j (by omega)
  · obtain rfl:t=m:=by omega
    have HNX:=hid (Bm.Nx.next (.inl ⟨rfl,fun c _ hc=>by have:=hall c hc;simp[this]⟩:Bm.Nx (fun i=>kd L i != 0) false t 0 (-1)))
    go_wp2
    go_ret
    refine⟨?_,HB.out⟩
    unfold nf
    rw[← HNX.out]
    rfl
set_option maxHeartbeats 4000000 in
set_option maxRecDepth 100000 in
theorem nextInode_any (h:Cq w P n m L N C X) (hL:L.length=m) (hf:∀ c∈L,c.k=0→c.p=0∧c.z=0):Calls Tryz.prog 28 #[.pointer (some ⟨P.c,0,none⟩)] w fun r w'=>
 r = .returned (.int .i64 (nf L m))∧Below w.heap.size w w':=by
 have H:=hid h
 have HF:=hid hf
 have hm:=h.cr.max
 have c0:=h.cr.claim.cell 0
 have cl:=h.cr.lt
 have HNN:=hid (fun w=>Ino.none_any w)
 have HLM:=hid hL
 clear h hf hL
 go_enter Tryz.func28,Tryz.ntmps28
 go_wp2_with fail
 go_region_held3 (fun W'=>W'.cell? ⟨P.c,0,none⟩=some (.slice (some ⟨P.nb,0,none⟩) m m)) (go_keep)
  (first
  | (go_at_call 40
     with_reducible refine (HNN.out _).mono ?_
     rintro r w2 ⟨rfl,hb⟩
     have HB2:=hid ((drewN_below w 1).trans (hb.mono (drewN_below w 1).size))
     have d0:=(H.out.keep HB2.out).cr.claim.cell 0
     have HIX:=hid (index_any (H.out.keep HB2.out) HLM.out HF.out)
     clear hb)
  | (go_at_call 62
     with_reducible refine HIX.out.mono ?_
     rintro r w3 ⟨rfl,hb⟩
     have HB3:=hid (HB2.out.trans (hb.mono HB2.out.size))
     have e0:=(H.out.keep HB3.out).cr.claim.cell 0
     clear hb))
 go_wp2
 go_ret
 exact⟨rfl,HB3.out⟩
end
end Clm
end Go.Proofs.YtdafimdfbnphaaaGreatDoor
/- Texts. -/
/- Texts. -/
namespace Go.Proofs.YtdafimdfbnphaaaGreatDoor
open Lib (hid)
open Go.RowKit Go.Shelf Go.MapKept
attribute [local go_sem] Oper.semAt_some
namespace Chn
section
variable {F : Fence} {n : Nat} {P : Program}
def Left (B:Nat) (I:Nat→World→Prop) (Ix:World→Prop) (k:Nat) (W:World):Exit→Act→World→Prop
 | .normal,_,W'=>(W'.heap[B]? = W.heap[B]?∧W'.heap[B+1]? = W.heap[B+1]?)∧I (k+1) W'
 | .ret,_,W'=>(W'.heap[B]? = W.heap[B]?∧W'.heap[B+1]? = W.heap[B+1]?)∧Ix W'
 | .exit _,_,_=>False
 | .goto _,_,_=>False
 | .panic _,_,_=>False
 | .outgrown,_,_=>False
theorem off_put (W:World) (l:Nat) (o:Obj):Pm.Off (fun k=>k=l) W (W.putObj l o):=
 (Pm.Off.refl _ W).grown (grownBy_putObj' W l o) (fun k e _=>by cases e;rfl)
theorem range_back {g:Operand} {ps:Array Tmp} {assign body:Code} {Q:Exit→Act→World→Prop} {a:Act} {w:World}
 (hro:F.round=none) (h1:1≤n) {gf:Nat} {lb:Array Value} (hg:a.eval g = .func (.func gf) #[] lb) (hFg:F.fn gf) (eg:∀ args w,(callFunc gf args).run P w = .ok (.enter gf args) w)
 {encs:Nat→Array Value} {N:Nat} (hps:∀ k,(encs k).size=ps.size)
 (I:Nat→World→Prop) (Ix:World→Prop)
 (hI:∀ k W W',I k W→Pm.Off (fun j=>j=w.heap.size+1) W W'→I k W') (hIx:∀ W W',Ix W→Pm.Off (fun j=>j=w.heap.size+1) W W'→Ix W')
 (h0:∀ r,I 0 ((w.alloc (.deferred (some []))).alloc (.loop r)))
 (hseq:∀ (l:Nat) (J:Nat→World→Prop) (Jx:World→Prop) (W:World),(∀ k W,J k W→I k W) →
   (∀ k W1,J k W1→k < N→YieldAt F (n - 1 - 1) P l (encs k) W1 fun e W'=>(e = .returned (.bool true)∧J (k+1) W')∨(e = .returned (.bool false)∧Jx W'))→J 0 W →
   CallsIn F (n - 1) P gf (#[.func (.yield l) #[] #[]]++lb) W fun e W'=>(∃ v,e = .returned v)∧(J N W'∨Jx W'))
 (a₁:Nat→Act)
 (hassign:∀ (l k:Nat) (W:World) (K:Act→World→Prop),K (a₁ k) W →
   assign.wpIn (F.inRound l) (n - 1 - 1) P (Exit.then K (fun _ _ _=>False)) { tmps:=(ps.zip (encs k)).foldl (fun t (p,v)=>t.setIfInBounds p v) a.tmps,defers:=[] } W)
 (hbody:∀ (l k:Nat) (W:World),I k W→k < N→body.wpIn (F.inRound l) (n - 1 - 1) P (Left w.heap.size I Ix k W) (a₁ k) W)
 (hdone:∀ W,I N W→W.heap[w.heap.size]? = some (.deferred (some []))→Q .normal { a with defers:={ target:=.collected w.heap.size,args:=#[] } :: a.defers } W)
 (hstop:∀ W,Ix W→W.heap[w.heap.size]? = some (.deferred (some []))→(Code.ret).wpIn F n P Q { a with defers:={ target:=.collected w.heap.size,args:=#[] } :: a.defers } W) :
 (Code.rangeFunc g ps assign body).wpIn F n P Q a w:=by
 refine wpIn_rangeFunc ?_
 intro fn hfn
 rw[hro]
 obtain⟨rec,hrec⟩:∃ rec:LoopState→Option Code→Loop,rec=fun st pe=>{ state:=st,pending:=pe,fn,tmps:=a.tmps,params:=ps,assign,body,defers:=w.heap.size }:=⟨_,rfl⟩
 have hrun:=run_enterLoop_outer (P:=P) (w:=w) fn a.tmps ps assign body
 have hI1:=h0 (rec .ready none)
 have hL:=World.alloc_heap_new (w.alloc (.deferred (some []))) (.loop (rec .ready none))
 rw[World.size_alloc] at hL
 have hD:((w.alloc (.deferred (some []))).alloc (.loop (rec .ready none))).heap[w.heap.size]? = some (.deferred (some [])):=(Below.heap_alloc _ _ _ (by simp)).trans (World.alloc_heap_new w _)
 have hrr:(Instr.enterLoop fn a.tmps ps assign body none).run P w = .ok (w.heap.size+1,[{ target:=.collected w.heap.size,args:=#[] }]) ((w.alloc (.deferred (some []))).alloc (.loop (rec .ready none))):=by rw[hrec];exact hrun
 clear hrun h0
 generalize (w.alloc (.deferred (some []))).alloc (.loop (rec .ready none))=W1 at *
 refine⟨w.heap.size+1,_,W1,{ target:=.fn (.func gf) lb,args:=#[.func (.yield (w.heap.size+1)) #[] #[]] },W1,gf,#[.func (.yield (w.heap.size+1)) #[] #[]]++lb,W1,hrr,?_,?_,?_,fun _=>h1,?_⟩
 · simp only[resolve,hg]
   simp[go_sem]
 · intro f' hf'
   simp[Target.leads] at hf'
   subst hf'
   exact hFg
 · simp[invoke,go_sem,eg]
 · refine (hseq (w.heap.size+1)
    (fun k W=>I k W∧W.heap[w.heap.size+1]? = some (.loop (rec .ready none))∧W.heap[w.heap.size]? = some (.deferred (some [])))
    (fun W=>Ix W∧W.heap[w.heap.size+1]? = some (.loop (rec .done (some .ret)))∧W.heap[w.heap.size]? = some (.deferred (some [])))
    W1 (fun _ _ h=>h.1) ?_ ⟨hI1,hL,hD⟩).mono ?_
   · rintro k W ⟨hi,hl,hk⟩ hN
     have hlt:w.heap.size+1 < W.heap.size:=(Array.getElem?_eq_some_iff.1 hl).1
     have hy:=run_yield (P:=P) (args:=encs k) hl (by rw[hrec];exact hps k)
     rw[hrec] at hy
     refine⟨fn,_,assign,body,hy,roundIn_of_wpIn hfn (hassign _ k W _ ⟨_,run_beginRound hl (by rw[hrec]),?_⟩)⟩
     have hl2:(W.putObj (w.heap.size+1) (.loop { rec .ready none with state:=.busy })).heap[w.heap.size+1]? = some (.loop { rec .ready none with state:=.busy }):=World.putObj_heap_same hlt
     have hk2:(W.putObj (w.heap.size+1) (.loop { rec .ready none with state:=.busy })).heap[w.heap.size]? = some (.deferred (some [])):=(World.putObj_heap_other (by omega)).trans hk
     have hi2:=hI k _ _ hi (off_put W (w.heap.size+1) (.loop { rec .ready none with state:=.busy }))
     generalize W.putObj (w.heap.size+1) (.loop { rec .ready none with state:=.busy })=W2 at *
     refine wpIn_mono (hbody (w.heap.size+1) k W2 hi2 hN) ?_
     rintro e a3 W3 hp
     cases e with
     | normal=>
       obtain⟨⟨e1,e2⟩,hi3⟩:=hp
       have hl3:=e2.trans hl2
       have hr:=run_endRound (P:=P) none hl3
       rw[hrec] at hr
       refine⟨_,_,hr,.inl ⟨rfl,hI _ _ _ hi3 (off_put _ _ _),?_,(World.putObj_heap_other (by omega)).trans (e1.trans hk2)⟩⟩
       rw[World.putObj_heap_same (Array.getElem?_eq_some_iff.1 hl3).1,hrec]
       rfl
     | ret=>
       obtain⟨⟨e1,e2⟩,hi3⟩:=hp
       have hl3:=e2.trans hl2
       have hr:=run_endRound (P:=P) (some .ret) hl3
       rw[hrec] at hr
       refine⟨_,_,hr,.inr ⟨rfl,hIx _ _ hi3 (off_put _ _ _),?_,(World.putObj_heap_other (by omega)).trans (e1.trans hk2)⟩⟩
       rw[World.putObj_heap_same (Array.getElem?_eq_some_iff.1 hl3).1,hrec]
       rfl
     | exit id=>exact hp.elim
     | goto t=>exact hp.elim
     | panic ch=>exact hp.elim
     | outgrown=>exact hp.elim
   · rintro e W2 ⟨⟨v,rfl⟩,(⟨hi,hl,hk⟩ | ⟨hi,hl,hk⟩)⟩
     · have hr:=run_endLoop (P:=P) hl (by rw[hrec];simp)
       rw[hrec] at hr
       exact⟨none,_,hr,hdone _ (hI _ _ _ hi (off_put _ _ _)) ((World.putObj_heap_other (by omega)).trans hk)⟩
     · have hr:=run_endLoop (P:=P) hl (by rw[hrec];simp)
       rw[hrec] at hr
       exact⟨some .ret,_,hr,hstop _ (hIx _ _ hi (off_put _ _ _)) ((World.putObj_heap_other (by omega)).trans hk)⟩
end
section
variable {F : Fence} {n : Nat} {P : Program} {ops : Array Oper} {Q : Exit → Act → World → Prop}
theorem op_mono {i:Nat} {K K':Act→World→Prop} (h:∀ a w,K a w→K' a w) {a:Act} {w:World} (hh:wpOpIn F n P ops Q i K a w):wpOpIn F n P ops Q i K' a w:=by
 unfold wpOpIn at *
 split
 · rename_i e;rw[e] at hh;exact h _ _ hh
 · rename_i o e
   rw[e] at hh
   simp only at hh
   split
   · rename_i e2;rw[if_pos e2] at hh;exact Oper.wpIn_mono h hh
   · rename_i e2;rw[if_neg e2] at hh;exact⟨hh.1,h _ _ hh.2⟩
def rest (l:Array Bool):Nat:=l.toList.countP (fun b=>!b)
theorem count_set:∀ (l:List Bool) (i:Nat),l[i]? = some false→(l.set i true).countP (fun b=>!b)+1=l.countP (fun b=>!b)
 | [],i,h=>by simp at h
 | b :: l,0,h=>by
   obtain rfl:b=false:=by simpa using h
   simp
 | b :: l,i+1,h=>by
   have:=count_set l i (by simpa using h)
   rw[List.set_cons_succ,List.countP_cons,List.countP_cons]
   omega
theorem any_inv (St:Array Bool→Act→World→Prop)
 (hstep:∀ l a w i,l.size=ops.size→St l a w→i∈Region.ready .any ops l→wpOpIn F n P ops Q i (St (l.setIfInBounds i true)) a w)
 (hend:∀ l a w,l.size=ops.size→St l a w→Region.ready .any ops l=[]→Q .normal a w) :
 ∀ (fuel:Nat) (l:Array Bool) (a:Act) (w:World),l.size=ops.size→rest l≤fuel→St l a w→wpAnyIn F n P .any ops Q fuel l a w
 | 0,l,a,w,hs,hr,h=>by
   have h0:Region.ready .any ops l=[]:=by
    unfold Region.ready
    rw[List.filter_eq_nil_iff]
    intro i hi
    have hi:i < l.size:=by rw[hs];simpa using hi
    have hm:l[i]=true:=by
     cases e:l[i] with
     | true=>rfl
     | false=>
       have:0 < l.toList.countP (fun b=>!b):=List.countP_pos_iff.2 ⟨false,by rw[← e];simp,rfl⟩
       unfold rest at hr
       omega
    simp[Array.getD,hi,hm]
   exact⟨h0,hend l a w hs h h0⟩
 | fuel+1,l,a,w,hs,hr,h=>by
   refine⟨hend l a w hs h,fun i hi=>op_mono (fun a' w' h'=>any_inv St hstep hend fuel _ a' w' (by simpa using hs) ?_ h') (hstep l a w i hs h hi)⟩
   have hi2:=(List.mem_filter.1 hi)
   have hlt:i < l.size:=by rw[hs];simpa using hi2.1
   have hf:l[i]=false:=by
    have:=hi2.2
    simp only[Bool.and_eq_true,Bool.not_eq_true',Array.getD,hlt,dite_true] at this
    exact this.1
   have:=count_set l.toList i (by rw[List.getElem?_eq_getElem (by simpa using hlt)];simpa using hf)
   unfold rest at hr ⊢
   rw[Array.toList_setIfInBounds]
   omega
end
def bw (l:List Int) (k:Nat):Array Value:=#[.int .i64 ((l.length:Int) - 1 - (k:Int)),.int .i64 (l[l.length - 1 - k]?.getD 0)]
theorem back1_in (F:Fence) (f:Nat) (hf:F.fn 171) (hro:F.round=none) (h1:1≤f) (lp Bn:Nat) (A:Option Addr) (c:Nat) (l:List Int) (hl:l.length≤1000000) (J:Nat→World→Prop) (Jx:World→Prop)
 (hm:∀ k W,J k W→W.cell? ⟨Bn,0,none⟩=some (.slice A l.length c)∧Pack.Nts W A l)
 (hY:∀ k W,J k W→k < l.length→YieldAt F (f - 1) Tryz.prog lp (bw l k) W fun e W'=>(e = .returned (.bool true)∧J (k+1) W')∨(e = .returned (.bool false)∧Jx W'))
 (W:World) (h0:J 0 W) :
 CallsIn F f Tryz.prog 171 #[.func (.yield lp) #[] #[],.pointer (some ⟨Bn,0,none⟩)] W fun e W'=>(∃ v,e = .returned v)∧(J l.length W'∨Jx W'):=by
 refine callsIn_of_wp Tryz.func171 rfl hf ?_ hro
 simp only[Tryz.ntmps171,List.size_toArray,List.length_cons,List.length_nil,Nat.reduceAdd,Nat.reduceSub,Array.replicate_succ,Array.replicate_zero,List.push_toArray,List.append_toArray,List.nil_append,List.cons_append]
 obtain⟨hc0,hn0⟩:=hm 0 W h0
 have H0:=hid h0
 clear h0 hn0
 gi_wp2_with fail
 gi_loopw [3] (fun i wr=>∃ k:Nat,k≤l.length∧i = .int .i64 ((l.length:Int) - 1 - (k:Int))∧J k wr) (fun i _=>((intOf i)+1).toNat)
 case atStart=>exact⟨0,Nat.zero_le _,by simp,H0.out⟩
 case round=>
  obtain⟨k,hk,rfl,hJ⟩:=hrel
  obtain⟨hc,hN⟩:=hm k wr hJ
  by_cases hlt:k < l.length
  · obtain⟨j,hj⟩:∃ j,l.length=k+1+j:=⟨l.length - k - 1,by omega⟩
    have hjl:j < l.length:=by omega
    obtain⟨b,o,hA,hb,hcj⟩:=hN.at' j hjl
    subst hA
    have hRR:=hY k wr hJ hlt
    unfold bw at hRR
    rw[show l.length - 1 - k=j by omega,List.getElem?_eq_getElem hjl,Option.getD_some,show (l.length:Int) - 1 - (k:Int)=(j:Int) by omega] at hRR
    obtain⟨fn,tmps,assign,body,hy,hR⟩:=hRR
    have HR:=hid hR
    rw[show (l.length:Int) - 1 - (k:Int)=(j:Int) by omega]
    have HJL:=hid hj
    clear hR hJ hN H0 hj
    gi_wp2_with fail
    refine HR.out.mono ?_
    rintro e W3 (⟨rfl,hJ3⟩ | ⟨rfl,hJx⟩)
    · have HJ3:=hid hJ3
      clear hJ3
      gi_wp2
      go_roundw
      case rel=>exact⟨k+1,by omega,by have:=HJL.out;congr 1;omega,HJ3.out⟩
      case measure=>simp[intOf]
    · have HJX:=hid hJx
      clear hJx
      gi_wp2
      refine bodyPost_ret (results_none rfl _ _ _) rfl ?_
      exact⟨⟨_,rfl⟩,.inr HJX.out⟩
  · obtain rfl:k=l.length:=by omega
    have HJ:=hid hJ
    rw[show (l.length:Int) - 1 - (l.length:Int) = -1 by omega]
    clear hJ hN H0
    gi_wp2
    go_end0
    exact⟨⟨_,rfl⟩,.inl HJ.out⟩
end Chn
end Go.Proofs.YtdafimdfbnphaaaGreatDoor
