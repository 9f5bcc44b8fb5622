/- Texts laid together: VolRead, ChkRest, VolAny, VolLast, VolNone, ChkNames, ChkLook, BdySet, VolDel, VolDel2, VolChg, BmCopyLaw, VolMap, ChkSame, RcvMath, RcvNeeds, VolRdev, VolPut, InoRef. -/
import Derived.Test.YtlodpaaanfjkeaaGreatDoorKt6
import Derived.Test.YtlodpaaanfjkeaaGreatDoorKt4
import Derived.Test.YtlodpaaanfjkeaaGreatDoorKt8
import Derived.Test.YtlodpaaanfjkeaaGreatDoorKt1
import Derived.Test.YtlodpaaanfjkeaaGreatDoorKa2
import Derived.Test.YtlodpaaanfjkeaaGreatDoorKt3
import Derived.Test.YtlodpaaanfjkeaaGreatDoorKt5
import Derived.Lib.SliceRun
import Derived.Lib.LazyBuf
set_option maxRecDepth 100000
set_option maxHeartbeats 8000000
namespace Go.Proofs.YtlodpaaanfjkeaaGreatDoor
section
open Lib (hid)
open Go.RowKit Go.MapKept
namespace Vol
def OfP (B n:Nat) (l:List Nat) (A:Option Addr) (e:Int) (w':World):Prop:=
 (Bm.Good n l∧e=0∧∃ p q C:Nat,A=some ⟨p,0,none⟩∧B≤p∧B≤q∧Bm.Mp w' p q l.length C n (Bm.fo n l))∨(¬ Bm.Good n l∧e=2∧A=none)
theorem OfP.mono {B B' n:Nat} {l:List Nat} {A:Option Addr} {e:Int} {w':World} (h:OfP B n l A e w') (hB:B'≤B):OfP B' n l A e w':=by
 rcases h with ⟨h1,h2,p,q,C,h3,h4,h5,h6⟩ | h
 · exact .inl ⟨h1,h2,p,q,C,h3,Nat.le_trans hB h4,Nat.le_trans hB h5,h6⟩
 · exact .inr h
section
variable {Q : Nat → Prop} {w : World} {vb a n m s : Nat} {W : List Nat} {st sn : Nat}
theorem of_all (w:World) (n:Nat) (g c:Nat) (l:List Nat) (h:Pack.Wds w (some ⟨g,0,none⟩) l) (hn:n≤65534) (hl:l.length=(n+63) / 64) :
 Calls Tryz.prog 136 #[.int .i64 (n:Int),.slice (some ⟨g,0,none⟩) l.length c] w fun r w'=>∃ (A:Option Addr) (e:Int),r = .returned (.tuple #[.pointer A,.int .i64 e])∧OfP w.heap.size n l A e w'∧Below w.heap.size w w':=by
 by_cases hg:Bm.Good n l
 · refine (Bm.of_yes n ⟨g,0,none⟩ c l h hn hl hg).mono ?_
   rintro e w' ⟨p,q,C,rfl,hp,hq,hM,hb⟩
   exact⟨_,_,rfl,.inl ⟨hg,rfl,p,q,C,rfl,hp,hq,hM⟩,hb⟩
 · refine (Bm.of_bad n _ c l h hn hl hg).mono ?_
   rintro e w' ⟨rfl,rfl⟩
   exact⟨_,_,rfl,.inr ⟨hg,rfl,rfl⟩,Below.refl _ _⟩
theorem vbitmap_any (h:Vo Q w vb a n m s W st sn) {bm:Nat} (hbm:Geo.bmAt n m=(bm:Int)) :
 Calls Tryz.prog 82 #[.pointer (some ⟨vb,0,none⟩)] w fun r w'=>∃ (A:Option Addr) (e:Int),r = .returned (.tuple #[.pointer A,.int .i64 e])∧OfP w.heap.size n (rdw W bm ((n+63) / 64)) A e w'∧Below w.heap.size w w':=by
 obtain⟨h1,h2,h3⟩:=h.num
 have h4:=Geo.bm_bounds h1 h2
 obtain⟨c0,c1,c2,c3⟩:=h.cells
 have hlt:=h.lt
 obtain⟨k,hk⟩:∃ k,k=(n+63) / 64:=⟨_,rfl⟩
 have hp:∀ w:World,Calls Tryz.prog 34 #[.agg #[.int .i64 n,.int .i64 m,.int .i64 s]] w fun r w'=>r = .returned (.tuple #[.int .i64 (bm:Int),.int .i64 (k:Int)])∧Below w.heap.size w w':=fun w=>by
  have hp:=Geo.bitmap_any w (n:Int) (m:Int) (s:Int);rw[Geo.iff_yes h.may,Geo.iff_yes h.may,hbm,show ((n:Int)+63) / 64=(k:Int) by omega] at hp;exact hp
 have HP:=hid hp;have hk2:k≤1024:=by omega
 have HRD:=hid (fun w' (hb:Below w.heap.size w w')=>read_any (h.up.keep hb) bm k (by omega) (by omega));have hru:=rdw_u64 h.up.u64 bm k;have hrl:=rdw_len W bm k;rw[← hk];generalize rdw W bm k=L at *
 have HD:=hid (fun (w':World) (g:Nat) (hr:w'.rowIs g 50 k (fun i=>.int .u64 ((L[i]?.getD 0:Nat):Int)))=>show Calls Tryz.prog 136 #[.int .i64 (n:Int),.slice (some ⟨g,0,none⟩) k k] w' _ from by
  have hd:=of_all w' n g k L (row_words hr hrl (by omega) hru) (by omega) (by rw[hrl,hk]);rw[hrl] at hd;exact hd)
 have H:=hid h;clear h hp hk hrl hru h1 h2 h3 h4 hbm hk2;go_enter Tryz.func82,Tryz.ntmps82
 go_wp2_with fail
 refine (HP.out _).mono ?_;rintro r w1 ⟨rfl,hb⟩;have HB:=hid hb;clear hb HP c0 c1 c2 c3
 obtain⟨c0,c1,c2,c3⟩:=(H.out.keep HB.out).cells
 have hl2:=(H.out.keep HB.out).lt;go_wp2_with fail
 go_region_held3 (fun W'=>W'.cell? ⟨vb,0,none⟩=some (.pointer (some ⟨a,0,none⟩))∧W'.cell? ⟨vb,1,none⟩=some (.int .i64 (n:Int))) (go_keep)
  (first
  | (go_at_call 31
     with_reducible refine (HRD.out w1.drew (HB.out.trans ((bel_d w1).mono HB.out.size))).mono ?_
     rintro r w2 ⟨gr,rfl,_,hrow,hb⟩;have HROW:=hid hrow;have HB2:=hid ((HB.out.trans ((bel_d w1).mono HB.out.size)).trans (hb.mono HB.out.size));have hd0:=(H.out.keep HB2.out).cells.1;have hd1:=(H.out.keep HB2.out).cells.2.1;have hl3:=(H.out.keep HB2.out).lt;clear hb hrow)
  | (go_at_call 136
     with_reducible refine (HD.out _ _ HROW.out).mono ?_
     rintro r w3 ⟨A,e,rfl,hof,hb⟩;have HB3:=hid (HB2.out.trans (hb.mono HB2.out.size));have HOF:=hid (hof.mono HB2.out.size);have he0:=(H.out.keep HB3.out).cells.1;have he1:=(H.out.keep HB3.out).cells.2.1;have hl4:=(H.out.keep HB3.out).lt;clear hb hof))
 go_wp2
 go_ret2
 exact⟨_,_,rfl,HOF.out,HB3.out⟩
theorem gv_rec (q:Option (Nat × Nat × Nat × Nat)):∃ x y z t:Int,Rec.gv q = .agg #[.int .i64 x,.int .i64 y,.int .i64 z,.int .i64 t]:=by
 cases q with
 | none=>exact⟨0,0,0,0,rfl⟩
 | some t=>exact⟨_,_,_,_,rfl⟩
theorem vrecord_any (h:Vo Q w vb a n m s W st sn) :
 Calls Tryz.prog 18 #[.pointer (some ⟨vb,0,none⟩)] w fun r w'=>r = .returned (.tuple #[Rec.gv (Rec.dec (rdw W 8 8)),.int .i64 (Rec.st (rdw W 8 8))])∧Below w.heap.size w w':=by
 obtain⟨c0,c1,c2,c3⟩:=h.cells
 have hlt:=h.lt
 have hp:∀ w:World,Calls Tryz.prog 32 #[.agg #[.int .i64 n,.int .i64 m,.int .i64 s]] w fun r w'=>r = .returned (.int .i64 8)∧Below w.heap.size w w':=fun w=>by
  have hp:=Geo.record_any w (n:Int) (m:Int) (s:Int);rw[Geo.plc_yes h.may (by omega) (by omega)] at hp;exact hp
 have HP:=hid hp;have HX:=hid (hb_new w #[.int .i64 0,.int .i64 0,.int .i64 0,.int .i64 0] 28);have HB0:=hid ((Below.refl w.heap.size w).alloc (Nat.le_refl _) (.cells #[.int .i64 0,.int .i64 0,.int .i64 0,.int .i64 0] 28));have HRD:=hid (fun w' (hb:Below w.heap.size w w')=>show Calls Tryz.prog 31 #[.agg #[.pointer (some ⟨a,0,none⟩)],.int .i64 8,.int .i64 8] w' _ from read_any (h.up.keep hb) 8 8 (by omega) (by omega));have hru:=rdw_u64 h.up.u64 8 8;have hrl:=rdw_len W 8 8;generalize rdw W 8 8=L at *
 have HD:=hid (fun (w':World) (g:Nat) (hr:w'.rowIs g 50 8 (fun i=>.int .u64 ((L[i]?.getD 0:Nat):Int)))=>show Calls Tryz.prog 30 #[.slice (some ⟨g,0,none⟩) 8 8] w' _ from by
  have hd:=Rec.decode_any (some ⟨g,0,none⟩) 8 L (row_words hr hrl (by omega) hru);rw[hrl] at hd;exact hd)
 obtain⟨g0,g1,g2,g3,hg⟩:=gv_rec (Rec.dec L)
 rw[hg] at HD ⊢;generalize Rec.st L=e at *;have H:=hid h;clear h hg hru hrl hp;go_enter Tryz.func18,Tryz.ntmps18
 obtain⟨w0,hw0⟩:∃ w0,w0=w.alloc (.cells #[.int .i64 0,.int .i64 0,.int .i64 0,.int .i64 0] 28):=⟨_,rfl⟩
 rw[← hw0] at HX HB0;have hz0:w0.heap.size=w.heap.size+1:=by rw[hw0,World.size_alloc]
 go_wp2_with fail
 rw[← hw0];clear hw0 c0 c1 c2 c3
 obtain⟨c0,c1,c2,c3⟩:=(H.out.keep HB0.out).cells
 have hl2:=(H.out.keep HB0.out).lt;have hx0:=HX.out.cell 0
 go_region_held3 (fun W'=>W'.cell? ⟨vb,0,none⟩=some (.pointer (some ⟨a,0,none⟩))∧W'.cell? ⟨vb,1,none⟩=some (.int .i64 (n:Int))∧W'.cell? ⟨vb,2,none⟩=some (.int .i64 (m:Int))∧W'.cell? ⟨vb,3,none⟩=some (.int .i64 (s:Int))) (go_keep)
  (first
  | (go_at_call 32
     with_reducible refine (HP.out w0.drew).mono ?_
     rintro r w1 ⟨rfl,hb⟩;have HB1:=hid ((HB0.out.trans ((bel_d w0).mono HB0.out.size)).trans (hb.mono HB0.out.size));have HX1:=hid ((show Hb w0.drew w.heap.size _ _ from HX.out).keep hb)
     obtain⟨cc0,cc1,cc2,cc3⟩:=(H.out.keep HB1.out).cells
     have hl3:=(H.out.keep HB1.out).lt;clear hb)
  | (go_at_call 31
     with_reducible refine (HRD.out w1 HB1.out).mono ?_
     rintro r w2 ⟨gr,rfl,_,hrow,hb⟩;have HROW:=hid hrow;have HB2:=hid (HB1.out.trans (hb.mono HB1.out.size));have HX2:=hid (HX1.out.keep hb)
     obtain⟨cd0,cd1,cd2,cd3⟩:=(H.out.keep HB2.out).cells
     have hl4:=(H.out.keep HB2.out).lt;clear hb hrow)
  | (go_at_call 30
     with_reducible refine (HD.out _ _ HROW.out).mono ?_
     rintro r w3 ⟨rfl,hb⟩;have HB3:=hid (HB2.out.trans (hb.mono HB2.out.size));have HX3:=hid (HX2.out.keep hb)
     obtain⟨ce0,ce1,ce2,ce3⟩:=(H.out.keep HB3.out).cells
     have hl5:=(H.out.keep HB3.out).lt;have hc0:=HX3.out.cell 0;have hc1:=HX3.out.cell 1;have hc2:=HX3.out.cell 2;have hc3:=HX3.out.cell 3;have hf0:=HX3.out.frozen 0;have hf1:=HX3.out.frozen 1;have hf2:=HX3.out.frozen 2;have hf3:=HX3.out.frozen 3;have hl6:=HX3.out.lt;have HB4:=hid (show Below w.heap.size w ((((w3.setCell ⟨w.heap.size,0,none⟩ (.int .i64 g0)).setCell ⟨w.heap.size,1,none⟩ (.int .i64 g1)).setCell ⟨w.heap.size,2,none⟩ (.int .i64 g2)).setCell ⟨w.heap.size,3,none⟩ (.int .i64 g3)) from (((HB3.out.setCell (Nat.le_refl _) _).setCell (Nat.le_refl _) _).setCell (Nat.le_refl _) _).setCell (Nat.le_refl _) _)
     obtain⟨cf0,cf1,cf2,cf3⟩:=(H.out.keep HB4.out).cells
     clear hb))
 go_wp2
 refine bodyPost_ret (v:=.tuple #[.agg #[.int .i64 g0,.int .i64 g1,.int .i64 g2,.int .i64 g3],.int .i64 e]) ?_ rfl ⟨rfl,?_⟩
 · simp[results,Tryz.results18,go_sem,hc0,hc1,hc2,hc3]
 · exact (((HB3.out.setCell (Nat.le_refl _) _).setCell (Nat.le_refl _) _).setCell (Nat.le_refl _) _).setCell (Nat.le_refl _) _
end
end Vol
end
section
open Lib (hid)
open Go.RowKit Go.MapKept
namespace Chk
open Clm (Cl Pc Cq ut bl ins)
open Vol (Vo Hb hb_new OfP rdw)
open Bm (wds)
noncomputable def rst (W:List Nat) (n m bm:Nat) (L:List Cl) (k:Nat):Nat:=
 if k < (ut L m).length then 7 else
 open Classical in if ¬ (Bm.Good n (rdw W bm ((n+63) / 64))∧wds (Bm.fo n (rdw W bm ((n+63) / 64))) ((n+63) / 64)=wds (ins (bl L)) ((n+63) / 64)) then 8 else
 if Rec.st (rdw W 8 8)=0 then 0 else 9
theorem below_dn (w:World) (k:Nat):Below w.heap.size w (w.drewN k):=⟨rfl,rfl,rfl,Nat.le_refl _,fun _ _=>rfl⟩
section
variable {Q : Nat → Prop} {w : World} {P : Pc} {vb a n m s st sn : Nat} {W : List Nat} {L : List Cl} {N C X : Array Value}
theorem rest_any (hv:Vo Q w vb a n m s W st sn) (h:Cq w P n m L N C X) (hL:L.length=m) (hf:∀ c∈L,c.k=0→c.p=0∧c.z=0) {bm:Nat} (hbm:Geo.bmAt n m=(bm:Int)) (b:Nat) (S:St) (hm:Mm w b S) :
 Calls Tryz.prog 41 #[.agg #[.pointer (some ⟨vb,0,none⟩),.pointer (some ⟨P.c,0,none⟩),.map (some b)]] w fun r w'=>r = .returned (.int .i64 (rst W n m bm L S.length:Int))∧Below w.heap.size w w':=by
 have HV:=hid (fun w' (hb:Below w.heap.size w w')=>hv.keep hb);have HM:=hid hm;have HU:=hid (fun w' (hb:Below w.heap.size w w')=>Clm.used_any (h.keep hb) hL hf);have HBL:=hid (fun w' (hb:Below w.heap.size w w')=>Clm.cblocks_any (h.keep hb));have HVB:=hid (fun w' (hb:Below w.heap.size w w')=>Vol.vbitmap_any (hv.keep hb) hbm);have HVR:=hid (fun w' (hb:Below w.heap.size w w')=>Vol.vrecord_any (hv.keep hb))
 obtain⟨R,hR⟩:∃ R,R=rst W n m bm L S.length:=⟨_,rfl⟩
 have HR:=hid hR;rw[← hR];have hal:=(Below.refl w.heap.size w).alloc (Nat.le_refl _) (.cells #[.pointer (some ⟨vb,0,none⟩),.pointer (some ⟨P.c,0,none⟩),.map (some b)] 68);have HAL:=hid hal;have HX:=hid (hb_new w #[.pointer (some ⟨vb,0,none⟩),.pointer (some ⟨P.c,0,none⟩),.map (some b)] 68);have hlen:=fun ty=>run_len (hm.keep hal) ty
 clear hv h hm hL hf hbm hR hal;go_enter Tryz.func41,Tryz.ntmps41
 go_wp2_with fail
 refine (HU.out _ HAL.out).mono ?_;rintro r w1 ⟨G,gc,rfl,_,hb1⟩;have HB1:=hid (HAL.out.trans (hb1.mono HAL.out.size));have HX1:=hid (HX.out.keep hb1);clear hb1 HX HAL hlen HU
 obtain⟨U,hU⟩:∃ U,U=(ut L m).length:=⟨_,rfl⟩
 have HUU:=hid hU;rw[← hU];clear hU;generalize hk:S.length=k at *;by_cases hlt:k < U
 · have h1:(k:Int) < (U:Int):=by omega
   have HLT:=hid hlt;clear hlt hk;go_wp2
   go_ret
   refine⟨?_,HB1.out⟩
   rw[HR.out];unfold rst;rw[← HUU.out,if_pos HLT.out];rfl
 have h1:¬ (k:Int) < (U:Int):=by omega
 have HLT:=hid hlt;clear hlt hk;have x0:=HX1.out.cell 0;have x1:=HX1.out.cell 1;have x2:=HX1.out.cell 2;have xl:=HX1.out.lt;go_wp2_with fail
 refine (HVB.out _ HB1.out).mono ?_;rintro r w2 ⟨A,e,rfl,hof,hb2⟩;have HB2:=hid (HB1.out.trans (hb2.mono HB1.out.size));have HX2:=hid (HX1.out.keep hb2);clear hb2 x0 x1 x2 xl HX1 HVB h1;have y0:=HX2.out.cell 0;have y1:=HX2.out.cell 1;have y2:=HX2.out.cell 2;have yl:=HX2.out.lt
 rcases hof with ⟨hg,rfl,p,q,C',rfl,hp,hq,hmp⟩ | ⟨hg,rfl,rfl⟩
 · have HG:=hid hg
   rw[Vol.rdw_len] at hmp;have HMP:=hid hmp;clear hg hmp hp hq;go_wp2_with fail
   refine (HBL.out _ HB2.out).mono ?_;rintro r w3 ⟨p2,q2,C2,rfl,_,_,hm2,hb3⟩;have HB3:=hid (HB2.out.trans (hb3.mono HB2.out.size));have HX3:=hid (HX2.out.keep hb3);have hsm:=Bm.same_any (HMP.out.keep hb3) hm2
   obtain⟨D,hD⟩:∃ D,D=decide (wds (Bm.fo n (rdw W bm ((n+63) / 64))) ((n+63) / 64)=wds (ins (bl L)) ((n+63) / 64)):=⟨_,rfl⟩
   rw[← hD] at hsm;have HSM:=hid hsm;have HDD:=hid hD;clear hb3 hm2 hsm hD y0 y1 y2 yl HX2;go_wp2_with fail
   refine HSM.out.mono ?_;rintro r w4 ⟨rfl,kk,rfl⟩;have HB4:=hid (HB3.out.trans (below_dn w3 kk |>.mono HB3.out.size));have HX4:=hid (HX3.out.drewN kk);have z0:=HX4.out.cell 0;have z1:=HX4.out.cell 1;have z2:=HX4.out.cell 2;have zl:=HX4.out.lt;generalize w3.drewN kk=w4 at *
   cases D with
   | false=>
     go_wp2
     go_ret
     refine⟨?_,HB4.out⟩
     rw[HR.out];unfold rst;rw[← HUU.out,if_neg HLT.out,if_pos (fun h=>of_decide_eq_false HDD.out.symm h.2)];rfl
   | true=>
     go_wp2_with fail
     refine (HVR.out _ HB4.out).mono ?_;rintro r w5 ⟨rfl,hb5⟩;have HB5:=hid (HB4.out.trans (hb5.mono HB4.out.size));clear hb5 z0 z1 z2 zl HX4
     obtain⟨st',hst⟩:∃ x,x=Rec.st (rdw W 8 8):=⟨_,rfl⟩
     have HST:=hid hst;rw[← hst];clear hst
     have HRR:=hid (show R=if st'=0 then 0 else 9 from by
      rw[HR.out];unfold rst;rw[← HUU.out,if_neg HLT.out,if_neg (fun h=>h ⟨HG.out,of_decide_eq_true HDD.out.symm⟩),HST.out])
     clear HR
     obtain⟨u1,u2,u3,u4,hu⟩:∃ u1 u2 u3 u4:Int,Rec.gv (Rec.dec (rdw W 8 8)) = .agg #[.int .i64 u1,.int .i64 u2,.int .i64 u3,.int .i64 u4]:=by
      cases Rec.dec (rdw W 8 8) with
      | none=>exact⟨0,0,0,0,rfl⟩
      | some u=>exact⟨_,_,_,_,rfl⟩
     rw[hu];clear hu;by_cases h0:st'=0
     · subst h0
       go_wp2
       go_ret
       exact⟨by rw[HRR.out];rfl,HB5.out.alloc HB5.out.size _⟩
     · have h1:(st' == 0)=false:=beq_eq_false_iff_ne.2 h0
       have HH:=hid h0;go_wp2
       go_ret
       exact⟨by rw[HRR.out,if_neg HH.out];rfl,HB5.out.alloc HB5.out.size _⟩
 · have HG:=hid hg
   clear hg;go_wp2
   go_ret
   refine⟨?_,HB2.out⟩
   rw[HR.out];unfold rst;rw[← HUU.out,if_neg HLT.out,if_pos (fun h=>HG.out h.1)];rfl
end
end Chk
end
section
open Lib (hid)
open Go.RowKit Go.MapKept
namespace Vol
def vsb (W:List Nat):Option (Nat × Nat × Nat):=Sup.ron (rdw W 0 8) W.length
theorem vsb_some {W:List Nat} {n m s:Nat} (h:vsb W=some (n,m,s)):Geo.may n m s=true∧(W.length:Int)=Geo.fin n m s∧rdw W 0 8=Sup.sb n m s:=by
 unfold vsb Sup.ron at h
 cases hd:Sup.dec (rdw W 0 8) with
 | none=>rw[hd] at h;cases h
 | some q=>
   obtain⟨x,y,z⟩:=q
   rw[hd] at h;simp only at h
   split at h
   · rename_i hf
     injection h with h
     injection h with h1 h2
     injection h2 with h2 h3
     subst h1 h2 h3
     obtain⟨k1,k2⟩:=Sup.dec_some hd
     exact⟨k1,hf.symm,k2⟩
   · cases h
section
variable {Q : Nat → Prop} {w : World} {a : Nat} {W : List Nat} {st sn : Nat}
theorem up_read_any (h:Up Q w a W st sn) :
 Calls Tryz.prog 26 #[.pointer (some ⟨a,0,none⟩)] w fun r w'=>r = .returned (.tuple #[Sup.gv (vsb W),.int .i64 (Sup.ev (vsb W))])∧Below w.heap.size w w':=by
 obtain⟨A,hv,_,hw,h64,_⟩:=h
 have hu:Sup.U64 A.words:=by
  intro x hx;rw[hw] at hx
  obtain⟨y,hy,rfl⟩:=List.mem_map.1 hx
  have:=h64 y hy
  simp only[Int.ofNat_eq_natCast];omega
 have hr:=Sup.read_any hv.ses hu
 have e:Sup.rd A=rdw W 0 8:=by
  refine List.ext_getElem (by rw[Sup.rd_len,rdw_len]) (fun i h1 h2=>?_);rw[rdw_get];have h3:i < 8:=by rwa [Sup.rd_len] at h1
  have:=Sup.rd_get A h3
  rw[List.getElem?_eq_getElem h1] at this;refine Eq.trans (b:=(A.words[i]?.getD 0).toNat) (by simpa using this) ?_;rw[hw,List.getElem?_map,Nat.zero_add]
  cases W[i]? with
  | none=>rfl
  | some y=>simp
 rw[e,hw,List.length_map] at hr;exact hr
def OpTo (Q:Nat→Prop) (w:World) (a:Nat) (W:List Nat) (st sn:Nat) (r:Ending) (w':World):Prop:=
 match vsb W with
 | none=>r = .returned (.tuple #[.pointer none,.int .i64 2])∧Below w.heap.size w w'
 | some (n,m,s)=>∃ vb,r = .returned (.tuple #[.pointer (some ⟨vb,0,none⟩),.int .i64 0])∧w.heap.size≤vb∧Vo (fun k=>Q k∨(w.heap.size≤k∧k < w'.heap.size)) w' vb a n m s W st sn∧Below w.heap.size w w'
theorem open_gen (h:Up Q w a W st sn):Calls Tryz.prog 16 #[.pointer (some ⟨a,0,none⟩)] w (OpTo Q w a W st sn):=by
 unfold OpTo
 cases hv:vsb W with
 | some q=>
   obtain⟨n,m,s⟩:=q
   obtain⟨h1,h2,h3⟩:=vsb_some hv
   exact open_any h h1 h2 h3
 | none=>
   have hr:=up_read_any h;rw[hv] at hr;have HC:=hid hr;clear h hr hv;simp only[Sup.gv,Sup.ev] at HC;go_enter Tryz.func16,Tryz.ntmps16
   go_wp2_with fail
   refine HC.out.mono ?_;rintro r w1 ⟨rfl,hb⟩;have HB:=hid (hb.alloc hb.size (.cells #[.int .i64 0,.int .i64 0,.int .i64 0] 72));clear hb HC;go_wp2
   go_ret2
   exact⟨rfl,HB.out⟩
end
end Vol
end
section
open Go.RowKit Go.MapKept
namespace Vol
theorem new_ls (n:Nat) (hn:n≤4194304) (w:World):Calls Tryz.prog 12 #[.int .i64 (n:Int)] w fun r w'=>∃ a,r = .returned (.pointer (some ⟨a,0,none⟩))∧w.heap.size≤a∧Ls (fun k=>k < w.heap.size) w' a (List.replicate n 0) 0 0∧Below w.heap.size w w':=by
 refine (Pm.ses_new (n:Int) n (by omega) w).mono ?_;rintro r w' ⟨rfl,D,hrep,hD,hok,hb,hf,_⟩
 refine⟨_,rfl,by omega,⟨_,⟨D,hrep,hD,hok,fun k hk hq=>?_,fun k hk=>Nat.lt_of_lt_of_le hk hb.size⟩,rfl,by simp[Pm.Abs.fresh],fun x hx=>?_,rfl,rfl,rfl⟩,hb⟩
 · have:=hf k hk
   omega
 · rw[List.eq_of_mem_replicate hx]
   decide
section
variable {Q : Nat → Prop} {w : World} {a : Nat} {W : List Nat} {st sn : Nat}
end
end Vol
end
section
namespace Vol
theorem vsb_zero (W:List Nat) (h:∀ i,i < 8→W[i]?.getD 0=0):vsb W=none:=by
 unfold vsb
 have e:rdw W 0 8=List.replicate 8 0:=by
  refine List.ext_getElem (by rw[rdw_len];rfl) (fun i h1 h2=>?_);rw[rdw_len] at h1;rw[rdw_get,Nat.zero_add,h i h1,List.getElem_replicate]
 rw[e];have h0:Sup.dec (List.replicate 8 0)=none:=by decide
 unfold Sup.ron;rw[h0]
theorem vsb_new (n:Nat):vsb (List.replicate n 0)=none:=vsb_zero _ fun i _=>by
 cases h:(List.replicate n 0)[i]? with
 | none=>rfl
 | some x=>exact List.eq_of_mem_replicate (List.mem_of_getElem? h)
end Vol
end
section
open Lib (hid)
open Go.RowKit Go.MapKept
namespace Chk
open Vol (Up Ls Hb hb_new)
section
variable {Q : Nat → Prop} {w : World} {a : Nat} {W : List Nat} {st sn : Nat}
theorem look_bad {w:World} {a:Nat} (hO:∀ w',Below w.heap.size w w'→Calls Tryz.prog 16 #[.pointer (some ⟨a,0,none⟩)] w' fun r w''=>r = .returned (.tuple #[.pointer none,.int .i64 2])∧Below w'.heap.size w' w''):Calls Tryz.prog 23 #[.pointer (some ⟨a,0,none⟩)] w fun r w'=>r = .returned (.tuple #[.agg #[.pointer none,.pointer none,.map none],.int .i64 1])∧Below w.heap.size w w':=by
 have HO:=hid hO;have hb0:=(Below.refl w.heap.size w).alloc (Nat.le_refl _) (.cells #[.pointer none,.pointer none,.map none] 68);have HB0:=hid hb0;have HX:=hid (hb_new w #[.pointer none,.pointer none,.map none] 68);clear hO hb0;go_enter Tryz.func23,Tryz.ntmps23
 go_wp2_with fail
 refine (HO.out _ HB0.out).mono ?_;rintro r w1 ⟨rfl,hb⟩;have HB:=hid (HB0.out.trans (hb.mono HB0.out.size));have hx:=HX.out.keep hb;have x0:=hx.cell 0;have x1:=hx.cell 1;have x2:=hx.cell 2;have f0:=hx.frozen 0;have f1:=hx.frozen 1;have f2:=hx.frozen 2;have xl:=hx.lt;have HX3:=hid (((hx.set 0 (.pointer none)).set 1 (.pointer none)).set 2 (.map none));clear hb HO HB0 hx HX;go_wp2
 have y0:=HX3.out.cell 0;have y1:=HX3.out.cell 1;have y2:=HX3.out.cell 2;refine bodyPost_ret (v:=.tuple #[.agg #[.pointer none,.pointer none,.map none],.int .i64 1]) ?_ rfl ?_
 · simp[results,Tryz.results23,go_sem,y0,y1,y2]
 exact⟨rfl,((HB.out.setCell (p:=⟨w.heap.size,0,none⟩) (Nat.le_refl _) _).setCell (p:=⟨w.heap.size,1,none⟩) (Nat.le_refl _) _).setCell (p:=⟨w.heap.size,2,none⟩) (Nat.le_refl _) _⟩
theorem open_none (h:Up Q w a W st sn) (hn:Vol.vsb W=none) (w':World) (hb:Below w.heap.size w w'):Calls Tryz.prog 16 #[.pointer (some ⟨a,0,none⟩)] w' fun r w''=>r = .returned (.tuple #[.pointer none,.int .i64 2])∧Below w'.heap.size w' w'':=by
 have hv:=Vol.open_gen (h.keep hb);unfold Vol.OpTo at hv;rw[hn] at hv;exact hv
theorem look_none (h:Up Q w a W st sn) (hn:Vol.vsb W=none):Calls Tryz.prog 23 #[.pointer (some ⟨a,0,none⟩)] w fun r w'=>r = .returned (.tuple #[.agg #[.pointer none,.pointer none,.map none],.int .i64 1])∧Below w.heap.size w w':=
 look_bad (open_none h hn)
theorem judge_bad {w:World} {a:Nat} (hO:∀ w',Below w.heap.size w w'→Calls Tryz.prog 16 #[.pointer (some ⟨a,0,none⟩)] w' fun r w''=>r = .returned (.tuple #[.pointer none,.int .i64 2])∧Below w'.heap.size w' w''):Calls Tryz.prog 11 #[.pointer (some ⟨a,0,none⟩)] w fun r w'=>r = .returned (.int .i64 1)∧Below w.heap.size w w':=by
 have HL:=hid (look_bad hO);clear hO;go_enter Tryz.func11,Tryz.ntmps11
 go_wp2_with fail
 refine HL.out.mono ?_;rintro r w1 ⟨rfl,hb⟩;have HB:=hid hb;clear hb HL;go_wp2
 go_ret
 exact⟨rfl,HB.out.alloc HB.out.size _⟩
theorem judge_none (h:Up Q w a W st sn) (hn:Vol.vsb W=none):Calls Tryz.prog 11 #[.pointer (some ⟨a,0,none⟩)] w fun r w'=>r = .returned (.int .i64 1)∧Below w.heap.size w w':=
 judge_bad (open_none h hn)
end
end Chk
end
section
open Lib (hid)
open Go.RowKit Go.MapKept
namespace Chk
open Clm (Cl Pc Cq Ok Oks ut bl ins scn gi need need_iff)
open Vol (Up Vo Hb hb_new rdw vsb)
noncomputable def metOf (W:List Nat) (n m s:Nat) (L:List Cl):Nat × St:=mt (kdOf L) (eOf W (Geo.bkAt n m).toNat (s / 8) L) 65 0 ⟨#[47]⟩ []
noncomputable def jdg (W:List Nat):Nat:=match vsb W with
 | none=>1
 | some (n,m,s)=>match scn (gi W n m s) m with
   | none=>2
   | some L=>if kdOf L 0≠2 then 3 else if (metOf W n m s L).1≠0 then (metOf W n m s L).1 else rst W n m (Geo.bmAt n m).toNat L (metOf W n m s L).2.length
theorem jdg_super {W:List Nat} (h:vsb W=none):jdg W=1:=by
 unfold jdg;rw[h]
theorem jdg_claims {W:List Nat} {n m s:Nat} (h:vsb W=some (n,m,s)) (hs:scn (gi W n m s) m=none):jdg W=2:=by
 unfold jdg;rw[h];simp only[hs]
theorem jdg_root {W:List Nat} {n m s:Nat} {L:List Cl} (h:vsb W=some (n,m,s)) (hs:scn (gi W n m s) m=some L) (h2:kdOf L 0≠2):jdg W=3:=by
 unfold jdg;rw[h];simp only[hs];rw[if_pos h2]
theorem jdg_met {W:List Nat} {n m s:Nat} {L:List Cl} (h:vsb W=some (n,m,s)) (hs:scn (gi W n m s) m=some L) (h2:kdOf L 0=2) (h0:(metOf W n m s L).1≠0):jdg W=(metOf W n m s L).1:=by
 unfold jdg;rw[h];simp only[hs];rw[if_neg (fun h=>h h2),if_pos h0]
theorem jdg_rest {W:List Nat} {n m s:Nat} {L:List Cl} (h:vsb W=some (n,m,s)) (hs:scn (gi W n m s) m=some L) (h2:kdOf L 0=2) (h0:(metOf W n m s L).1=0):jdg W=rst W n m (Geo.bmAt n m).toNat L (metOf W n m s L).2.length:=by
 unfold jdg;rw[h];simp only[hs];rw[if_neg (fun h=>h h2),if_neg (fun h=>h h0)]
def Met (Q:Nat→Prop) (w w':World) (a:Nat) (W:List Nat) (st sn:Nat) (A B:Option Addr) (M:Option Nat):Prop:=
 ∃ (Q':Nat→Prop) (n m s:Nat) (L:List Cl) (vb:Nat) (P:Pc) (N C X:Array Value) (b:Nat),vsb W=some (n,m,s)∧scn (gi W n m s) m=some L∧kdOf L 0=2∧(metOf W n m s L).1=0 ∧
   A=some ⟨vb,0,none⟩∧B=some ⟨P.c,0,none⟩∧M=some b∧(∀ k,Q k→Q' k)∧Vo Q' w' vb a n m s W st sn∧Cq w' P n m L N C X∧Mm w' b (metOf W n m s L).2∧w.heap.size≤P.lo∧w.heap.size≤b
def LkTo (Q:Nat→Prop) (w:World) (a:Nat) (W:List Nat) (st sn:Nat) (r:Ending) (w':World):Prop:=
 ∃ (A B:Option Addr) (M:Option Nat),r = .returned (.tuple #[.agg #[.pointer A,.pointer B,.map M],.int .i64 (jdg W:Int)])∧Below w.heap.size w w'∧(jdg W=0∨7≤jdg W→Met Q w w' a W st sn A B M)
theorem jdg_le6 {W:List Nat} {n m s:Nat} {L:List Cl}:(metOf W n m s L).1≤6:=mt_le _ _ _ _ _ _
theorem upf_chg {F Q:Nat→Prop} {w w':World} {a q st sn:Nat} {W:List Nat} (h:Vol.Upf F Q w a W st sn) (hc:Bm.Chg q w w') (hq:Q q):Vol.Upf F Q w' a W st sn:=by
 obtain⟨A,⟨D,hrep,e,ok,hf,hQ⟩,r⟩:=h
 exact⟨A,⟨D,hrep.keep (fun k hk=>hc.block k (hrep.foot_lt hk) (fun e=>hf k hk (by rw[e];exact hq))),e,ok,hf,fun k hk=>Nat.lt_of_lt_of_le (hQ k hk) hc.size⟩,r⟩
theorem vo_chg {Q:Nat→Prop} {w w':World} {vb a n m s st sn q:Nat} {W:List Nat} (h:Vo Q w vb a n m s W st sn) (hc:Bm.Chg q w w') (hq:Q q) (hne:vb≠q):Vo Q w' vb a n m s W st sn:=
 ⟨(hc.block vb h.lt hne).trans h.vol,h.q,upf_chg h.up hc hq,h.may,h.len⟩
theorem cq_chg {w w':World} {P:Pc} {n m q:Nat} {L:List Cl} {N C X:Array Value} (h:Cq w P n m L N C X) (hc:Bm.Chg q w w') (hq:q < P.lo):Cq w' P n m L N C X:=by
 obtain⟨h1,h2,h3,h4,h5,h6,h7,h8⟩:=h.cr.ord.le
 exact⟨⟨hb_chg h.cr.claim hc (by omega),hb_chg h.cr.nodes hc (by omega),hb_chg h.cr.chains hc (by omega),hb_chg h.cr.places hc (by omega),h.cr.sn,h.cr.sc,h.cr.sx,h.cr.bm.chg hc (by omega) (by omega),h.cr.sm.chg hc (by omega) (by omega),h.cr.ord,h.cr.max⟩,h.nod,h.chs.fr (Clm.fr_chg hc (by omega)),h.plc⟩
section
variable {Q : Nat → Prop} {w : World} {vb a n m s st sn : Nat} {W : List Nat} {L : List Cl} {f : Nat → Option (Nat × Nat × Nat)}
theorem z_few (hv:Vo Q w vb a n m s W st sn) (hW:W.length≤8000) (ho:Oks f n s L):∀ c∈L,c.z≤64000:=fun c hc=>by
 obtain⟨bk,q,_,e2,hq8,_,hWl,_⟩:=hv.blk
 have h1:=(ho.each c hc).tot
 have h2:Chn.tot c.l≤n:=by
  rw[← Chn.blk_len];refine Pm.nodup_lt n _ ?_ (ho.each c hc).blk_lt
  have:=ho.bl
  unfold Clm.bl at this;exact (List.pairwise_flatMap.1 this).1 c hc
 rw[h1] at h2;have h3:=((need_iff (c:=need s c.z) (s:=s) (z:=c.z) (by omega)).1 rfl).1;have h4:need s c.z * s≤n * s:=Nat.mul_le_mul_right s h2;have h5:n * s=8 * (n * q):=by rw[e2,Nat.mul_left_comm]
 omega
theorem bm_nat (hv:Vo Q w vb a n m s W st sn):Geo.bmAt n m=((Geo.bmAt n m).toNat:Int):=by
 obtain⟨h1,h2,_⟩:=hv.num
 have:=Geo.bm_bounds h1 h2
 omega
theorem has_met {P:Pc} {N C X:Array Value} (hv:Vo Q w vb a n m s W st sn) (h:Cq w P n m L N C X) (hok:Oks (Chn.fw W (16+m * 8)) n s L) (hL:L.length=m) (hW:W.length≤8000) :
 Has w (.pointer (some ⟨vb,0,none⟩)) (.pointer (some ⟨P.c,0,none⟩)) (kdOf L) (eOf W (Geo.bkAt n m).toNat (s / 8) L):=by
 obtain⟨bk,q,e1,e2,_⟩:=hv.blk
 rw[e1,Int.toNat_natCast,show s / 8=q from by omega];exact has_of hv h hL _ Clm.fw_may e1 e2 hok.each (z_few hv hW hok)
theorem meet_top {w0:World} {v c:Value} {kd:Int→Nat} {E:Int→Option (List Ent.En)} {b:Nat} (h:Has w0 v c kd E) (hm:Mm w b []) (hb:Below w0.heap.size w0 w) (hB:w0.heap.size≤b) :
 Calls Tryz.prog 40 #[.agg #[v,c,.map (some b)],.int .i64 0,.string ⟨#[47]⟩,.int .i64 0] w (MtTo b (mt kd E 65 0 ⟨#[47]⟩ []) w):=
 meet_any h 65 0 ⟨#[47]⟩ [] w b (Nat.le_refl _) (by decide) hm hb hB
end
section
variable {Q : Nat → Prop} {w : World} {a n m s st sn : Nat} {W : List Nat}
theorem look_some (h:Up Q w a W st sn) (hW:W.length≤8000) (hn:vsb W=some (n,m,s)):Calls Tryz.prog 23 #[.pointer (some ⟨a,0,none⟩)] w (LkTo Q w a W st sn):=by
 have HO:=hid (fun w' (hb:Below w.heap.size w w')=>(show Calls Tryz.prog 16 #[.pointer (some ⟨a,0,none⟩)] w' fun r w''=>∃ vb,r = .returned (.tuple #[.pointer (some ⟨vb,0,none⟩),.int .i64 0])∧w'.heap.size≤vb∧Vo (fun k=>(Q k∨(w.heap.size≤k∧k < w'.heap.size))∨(w'.heap.size≤k∧k < w''.heap.size)) w'' vb a n m s W st sn∧Below w'.heap.size w' w'' from by
  have hv:=Vol.open_gen (h.grow hb);unfold Vol.OpTo at hv;rw[hn] at hv;exact hv))
 have HWW:=hid hW;have HSB:=hid hn;have hb0:=(Below.refl w.heap.size w).alloc (Nat.le_refl _) (.cells #[.pointer none,.pointer none,.map none] 68);have HB0:=hid hb0;have HX:=hid (hb_new w #[.pointer none,.pointer none,.map none] 68);clear h hn hb0 hW;go_enter Tryz.func23,Tryz.ntmps23
 go_wp2_with fail
 refine (HO.out _ HB0.out).mono ?_;rintro r w1 ⟨vb,rfl,hvb,hv,hb⟩;have HVB:=hid (show w.heap.size < vb from by rw[World.size_alloc] at hvb;omega);have HB1:=hid (HB0.out.trans (hb.mono HB0.out.size));have HX1:=hid (HX.out.keep hb);have HV:=hid hv;have HS:=hid (Clm.scan_any hv);have HW1:=hid hb.size;clear hb HO HB0 HX hv hvb;go_wp2_with fail
 refine HS.out.mono ?_;rintro r w2 (⟨hs,rfl,hb⟩ | ⟨L,P,N,C,X,hs,rfl,hc,hlo,hb⟩)
 · have HB2:=hid (HB1.out.trans (hb.mono HB1.out.size))
   have hx:=HX1.out.keep hb;have x0:=hx.cell 0;have x1:=hx.cell 1;have x2:=hx.cell 2;have f0:=hx.frozen 0;have f1:=hx.frozen 1;have f2:=hx.frozen 2;have xl:=hx.lt;have HX3:=hid (((hx.set 0 (.pointer none)).set 1 (.pointer none)).set 2 (.map none));have HJ:=hid (jdg_claims HSB.out hs);clear hb HB1 hx HX1 hs;go_wp2
   have y0:=HX3.out.cell 0;have y1:=HX3.out.cell 1;have y2:=HX3.out.cell 2;refine bodyPost_ret (v:=.tuple #[.agg #[.pointer none,.pointer none,.map none],.int .i64 2]) ?_ rfl ?_
   · simp[results,Tryz.results23,go_sem,y0,y1,y2]
   exact⟨_,_,_,by rw[HJ.out];rfl,((HB2.out.setCell (p:=⟨w.heap.size,0,none⟩) (Nat.le_refl _) _).setCell (p:=⟨w.heap.size,1,none⟩) (Nat.le_refl _) _).setCell (p:=⟨w.heap.size,2,none⟩) (Nat.le_refl _) _,fun h=>by rw[HJ.out] at h;omega⟩
 have HB2:=hid (HB1.out.trans (hb.mono HB1.out.size));have HX2:=hid (HX1.out.keep hb);have HV2:=hid (HV.out.keep hb);have HC2:=hid hc;have HLO:=hid hlo;clear hlo;have HSC:=hid hs
 obtain⟨hok,hL⟩:=Clm.scn_oks (fun _ _ h=>Clm.gi_ok h) hs
 have HOK:=hid hok;have HL:=hid hL;clear hb HB1 HX1 hc HS hs hok hL HV;go_wp2_with fail
 have HH:=hid (has_met HV2.out HC2.out HOK.out HL.out HWW.out);refine (HH.out.ino w2 (Below.refl _ _) 0).mono ?_;rintro r w3 ⟨hn,hb⟩
 obtain⟨k,hk⟩:∃ k,k=kdOf L 0:=⟨_,rfl⟩
 rw[← hk] at hn;have HK:=hid hk
 obtain⟨hh,z,rfl⟩:∃ hh z:Int,r = .returned (.agg #[.int .i64 (k:Int),.int .i64 hh,.int .i64 z]):=by
  rcases hn with ⟨rfl,rfl⟩ | ⟨_,h1⟩
  · exact⟨-1,0,rfl⟩
  · exact h1
 have HB3:=hid (HB2.out.trans (hb.mono HB2.out.size));have HX3:=hid (HX2.out.keep hb);have HB23:=hid hb;clear hn hb hk HX2;by_cases hk2:k=2
 · subst hk2
   have hrk:=Fld.run_kind (.int .i64 2) (.int .i64 hh) (.int .i64 z) w3;have hmm:=@run_makeMap Tryz.prog;have hal:=(Below.refl w3.heap.size w3).alloc (Nat.le_refl _) (.map #[] 0);have HM4:=hid (show Mm (w3.alloc (.map #[] 0)) w3.heap.size [] from (heap_alloc w3 _).1);have HX4:=hid (HX3.out.keep hal);have HB4:=hid (HB3.out.trans (hal.mono HB3.out.size));have HB24:=hid (HB23.out.trans (hal.mono HB23.out.size));clear hal;have hnb:=hb_new (w3.alloc (.map #[] 0)) #[.pointer (some ⟨vb,0,none⟩),.pointer (some ⟨P.c,0,none⟩),.map (some w3.heap.size)] 68;have hal:=(Below.refl (w3.alloc (.map #[] 0)).heap.size (w3.alloc (.map #[] 0))).alloc (Nat.le_refl _) (.cells #[.pointer (some ⟨vb,0,none⟩),.pointer (some ⟨P.c,0,none⟩),.map (some w3.heap.size)] 68);have HX5:=hid (HX4.out.keep hal);have HB5:=hid (HB4.out.trans (hal.mono HB4.out.size));have HB25:=hid (HB24.out.trans (hal.mono HB24.out.size));have HM5:=hid (HM4.out.keep hal);rw[World.size_alloc] at hnb;have HY5:=hid hnb;have HMT:=hid (meet_top HH.out HM5.out HB25.out HB23.out.size);rw[show mt (kdOf L) (eOf W (Geo.bkAt n m).toNat (s / 8) L) 65 0 ⟨#[47]⟩ []=metOf W n m s L from rfl] at HMT;have HXW:=hid (show w.heap.size≠w3.heap.size from Nat.ne_of_lt HX3.out.lt)
   obtain⟨p,hp⟩:∃ p,p=metOf W n m s L:=⟨_,rfl⟩
   rw[← hp] at HMT;have HP:=hid hp;clear hal hnb hp HX4 HB4 HB24 HM4;go_wp2_with fail
   refine HMT.out.mono ?_;rintro r w6 ⟨rfl,hm6,hc6⟩;have HM6:=hid hm6;have HX6:=hid (hb_chg HX5.out hc6 HXW.out);have HY6:=hid (hb_chg HY5.out hc6 (by omega));have HB6:=hid (HB5.out.trans (hc6.below HB5.out.size (by have:=HB3.out.size;omega)));have HB26:=hid (HB25.out.trans (hc6.below HB25.out.size HB23.out.size));clear hm6 hc6 HMT HX5 HY5 HB5 HB25 HM5 hmm
   obtain⟨p1,p2⟩:=p
   simp only at HM6;have y0:=HY6.out.cell 0;have y1:=HY6.out.cell 1;have y2:=HY6.out.cell 2;have yl:=HY6.out.lt;by_cases h0:p1=0
   · subst h0
     have HRT:=hid (fun w' (hb:Below w6.heap.size w6 w')=>rest_any ((HV2.out.keep HB26.out).keep hb) ((HC2.out.keep HB26.out).keep hb) HL.out (fun c hc hk=>by
      obtain⟨h1,h2,_⟩:=(HOK.out.each c hc).free hk
      exact⟨h1,h2⟩) (bm_nat HV2.out) w3.heap.size p2 (HM6.out.keep hb))
     have HJ:=hid (jdg_rest HSB.out HSC.out HK.out.symm (by rw[← HP.out]));rw[← HP.out] at HJ;simp only at HJ;rw[← HJ.out] at HRT
     obtain⟨J,hJ⟩:∃ J,J=jdg W:=⟨_,rfl⟩
     rw[← hJ] at HRT;have HJJ:=hid hJ;clear hJ;have HNE:=hid (show w3.heap.size+1≠w.heap.size from by have:=HB3.out.size;omega);go_wp2_with fail
     go_region_held3 (fun W'=>W'.cell? ⟨w3.heap.size+1,0,none⟩=some (.pointer (some ⟨vb,0,none⟩))∧W'.cell? ⟨w3.heap.size+1,1,none⟩=some (.pointer (some ⟨P.c,0,none⟩))∧W'.cell? ⟨w3.heap.size+1,2,none⟩=some (.map (some w3.heap.size))) (go_keep)
      (first
      | (go_at_call 41
         with_reducible refine (HRT.out _ (Below.refl _ _).drew).mono ?_
         rintro r w7 ⟨rfl,hb7⟩;have hb':=(Below.refl w6.heap.size w6).drew.trans (hb7.mono (Nat.le_refl _));have HB7:=hid (HB6.out.trans (hb'.mono HB6.out.size));have HX7:=hid (HX6.out.keep hb');have HV7:=hid ((HV2.out.keep HB26.out).keep hb');have HC7:=hid ((HC2.out.keep HB26.out).keep hb');have HM7:=hid (HM6.out.keep hb');have HY7:=hid (HY6.out.keep hb');have HX8:=hid (((HX7.out.set 0 (.pointer (some ⟨vb,0,none⟩))).set 1 (.pointer (some ⟨P.c,0,none⟩))).set 2 (.map (some w3.heap.size)));have HY8:=hid (((HY7.out.far (p:=⟨w.heap.size,0,none⟩) HNE.out (.pointer (some ⟨vb,0,none⟩))).far (p:=⟨w.heap.size,1,none⟩) HNE.out (.pointer (some ⟨P.c,0,none⟩))).far (p:=⟨w.heap.size,2,none⟩) HNE.out (.map (some w3.heap.size)));have y0:=HY7.out.cell 0;have y1:=HY7.out.cell 1;have y2:=HY7.out.cell 2;have z0:=HY8.out.cell 0;have z1:=HY8.out.cell 1;have z2:=HY8.out.cell 2;have x0:=HX7.out.cell 0;have x1:=HX7.out.cell 1;have x2:=HX7.out.cell 2;have f0:=HX7.out.frozen 0;have f1:=HX7.out.frozen 1;have f2:=HX7.out.frozen 2;have xl:=HX7.out.lt;clear hb7 hb'))
     go_wp2
     have q0:=HX8.out.cell 0;have q1:=HX8.out.cell 1;have q2:=HX8.out.cell 2;refine bodyPost_ret (v:=.tuple #[.agg #[.pointer (some ⟨vb,0,none⟩),.pointer (some ⟨P.c,0,none⟩),.map (some w3.heap.size)],.int .i64 (J:Int)]) ?_ rfl ?_
     · simp[results,Tryz.results23,go_sem,q0,q1,q2]
     have hch:=((((Bm.Chg.refl w.heap.size w7).setCell (p:=⟨w.heap.size,0,none⟩) rfl (.pointer (some ⟨vb,0,none⟩))).setCell (p:=⟨w.heap.size,1,none⟩) rfl (.pointer (some ⟨P.c,0,none⟩))).setCell (p:=⟨w.heap.size,2,none⟩) rfl (.map (some w3.heap.size)));have hs1:=HB3.out.size
     refine⟨_,_,_,by rw[← HJJ.out],((HB7.out.setCell (p:=⟨w.heap.size,0,none⟩) (Nat.le_refl _) _).setCell (p:=⟨w.heap.size,1,none⟩) (Nat.le_refl _) _).setCell (p:=⟨w.heap.size,2,none⟩) (Nat.le_refl _) _,fun _=>?_⟩
     refine⟨_,n,m,s,L,vb,P,N,C,X,_,HSB.out,HSC.out,HK.out.symm,by rw[← HP.out],rfl,rfl,rfl,fun k hk=>.inl (.inl hk),vo_chg HV7.out hch (.inl (.inr ⟨Nat.le_refl _,?_⟩)) (Nat.ne_of_gt HVB.out),cq_chg HC7.out hch ?_,?_,?_,hs1⟩
     · rw[World.size_alloc]
       exact Nat.lt_succ_self _
     · have:=HLO.out
       have:=HW1.out
       rw[World.size_alloc] at this;omega
     · rw[← HP.out]
       exact (hch.block _ HM7.out.lt (fun e=>HXW.out e.symm)).trans HM7.out
     · have:=HLO.out
       have:=HW1.out
       rw[World.size_alloc] at this;omega
   have h1:((p1:Int) == 0)=false:=beq_eq_false_iff_ne.2 (by omega);have h2:¬ (p1:Int)=0:=by omega
   have HJ:=hid (jdg_met HSB.out HSC.out HK.out.symm (by rw[← HP.out];exact h0));rw[← HP.out] at HJ;have HP6:=hid (show p1≤6∧p1≠0 from ⟨by have h6:(metOf W n m s L).1≤6:=jdg_le6;rw[← HP.out] at h6;exact h6,h0⟩);clear h0 y0 y1 y2;have x0:=HX6.out.cell 0;have x1:=HX6.out.cell 1;have x2:=HX6.out.cell 2;have f0:=HX6.out.frozen 0;have f1:=HX6.out.frozen 1;have f2:=HX6.out.frozen 2;have xl:=HX6.out.lt;have HX7:=hid (((HX6.out.set 0 (.pointer none)).set 1 (.pointer none)).set 2 (.map none));go_wp2
   have y0:=HX7.out.cell 0;have y1:=HX7.out.cell 1;have y2:=HX7.out.cell 2;refine bodyPost_ret (v:=.tuple #[.agg #[.pointer none,.pointer none,.map none],.int .i64 (p1:Int)]) ?_ rfl ?_
   · simp[results,Tryz.results23,go_sem,y0,y1,y2]
   exact⟨_,_,_,by rw[HJ.out],((HB6.out.setCell (p:=⟨w.heap.size,0,none⟩) (Nat.le_refl _) _).setCell (p:=⟨w.heap.size,1,none⟩) (Nat.le_refl _) _).setCell (p:=⟨w.heap.size,2,none⟩) (Nat.le_refl _) _,fun h=>by rw[HJ.out] at h;have:=HP6.out;omega⟩
 have hk1:((k:Int) == 2)=false:=beq_eq_false_iff_ne.2 (by omega);have hk3:¬ (k:Int)=2:=by omega
 have hrk:=Fld.run_kind (.int .i64 (k:Int)) (.int .i64 hh) (.int .i64 z) w3;have HJ:=hid (jdg_root HSB.out HSC.out (by rw[← HK.out];exact hk2));have x0:=HX3.out.cell 0;have x1:=HX3.out.cell 1;have x2:=HX3.out.cell 2;have f0:=HX3.out.frozen 0;have f1:=HX3.out.frozen 1;have f2:=HX3.out.frozen 2;have xl:=HX3.out.lt;have HX4:=hid (((HX3.out.set 0 (.pointer none)).set 1 (.pointer none)).set 2 (.map none));clear hk2;go_wp2
 have y0:=HX4.out.cell 0;have y1:=HX4.out.cell 1;have y2:=HX4.out.cell 2;refine bodyPost_ret (v:=.tuple #[.agg #[.pointer none,.pointer none,.map none],.int .i64 3]) ?_ rfl ?_
 · simp[results,Tryz.results23,go_sem,y0,y1,y2]
 exact⟨_,_,_,by rw[HJ.out];rfl,((HB3.out.setCell (p:=⟨w.heap.size,0,none⟩) (Nat.le_refl _) _).setCell (p:=⟨w.heap.size,1,none⟩) (Nat.le_refl _) _).setCell (p:=⟨w.heap.size,2,none⟩) (Nat.le_refl _) _,fun h=>by rw[HJ.out] at h;omega⟩
theorem look_any (h:Up Q w a W st sn) (hW:W.length≤8000):Calls Tryz.prog 23 #[.pointer (some ⟨a,0,none⟩)] w (LkTo Q w a W st sn):=by
 cases hn:vsb W with
 | none=>
   refine (look_none h hn).mono ?_;rintro r w' ⟨rfl,hb⟩
   exact⟨_,_,_,by rw[jdg_super hn];rfl,hb,fun h=>by rw[jdg_super hn] at h;omega⟩
 | some t=>
   obtain⟨n,m,s⟩:=t
   exact look_some h hW hn
theorem judge_any (h:Up Q w a W st sn) (hW:W.length≤8000):Calls Tryz.prog 11 #[.pointer (some ⟨a,0,none⟩)] w fun r w'=>r = .returned (.int .i64 (jdg W:Int))∧Below w.heap.size w w':=by
 have HL:=hid (look_any h hW);clear h hW;go_enter Tryz.func11,Tryz.ntmps11
 go_wp2_with fail
 refine HL.out.mono ?_;rintro r w1 ⟨A,B,M,rfl,hb,_⟩;have HB:=hid hb;clear hb HL;go_wp2
 go_ret
 exact⟨rfl,HB.out.alloc HB.out.size _⟩
end
end Chk
end
section
namespace Bdy
open Clm (Cl one add scn scn_next scn_oks sls sl bl need gi gi_ok Ok Oks one_yes fw_may)
open Chn (Pt Path pat pat_yes pat_some rd rd_iff rd_yes path_mem tot blk fw Wr wk wk_at wk_path pts hd)
open Vol (rdw)
theorem fby_same {W W':List Nat} {bk q:Nat} {c:Cl} (h:∀ b∈blk c.l,rdw W' (bk+b * q) q=rdw W (bk+b * q) q):Fld.fby W' bk q c=Fld.fby W bk q c:=by
 unfold Fld.fby Fld.bbs
 congr 1
 have key:∀ l:List Nat,(∀ b∈l,rdw W' (bk+b * q) q=rdw W (bk+b * q) q)→l.flatMap (Fld.bb W' bk q)=l.flatMap (Fld.bb W bk q):=by
  intro l
  induction l with
  | nil=>intro _;rfl
  | cons b l ih=>
    intro hb;rw[List.flatMap_cons,List.flatMap_cons,ih fun x hx=>hb x (List.mem_cons_of_mem _ hx)]
    congr 1
    unfold Fld.bb;rw[hb b (List.mem_cons_self ..)]
 exact key _ h
theorem pat_ext {f f':Nat→Option (Nat × Nat × Nat)} {n:Nat} (h:∀ i,i < n→f' i=f i):pat f' n=pat f n:=by
 funext i
 unfold pat;by_cases hi:0≤i∧i < (n:Int)
 · rw[if_pos hi,if_pos hi,h i.toNat (by omega)]
 · rw[if_neg hi,if_neg hi]
theorem gi_ext {W W':List Nat} {n m s j:Nat} (hl:rdw W' (16+8 * j) 8=rdw W (16+8 * j) 8) (hw:∀ t,t < n→W'[16+m * 8+t]?.getD 0=W[16+m * 8+t]?.getD 0):gi W' n m s j=gi W n m s j:=by
 unfold gi one;rw[hl,pat_ext (f':=fw W' (16+m * 8)) (f:=fw W (16+m * 8)) fun t ht=>by unfold fw;rw[hw t ht]]
theorem scn_ext {g g':Nat→Option Cl}:∀ {i:Nat},(∀ j,j < i→g' j=g j)→scn g' i=scn g i
 | 0,_=>rfl
 | i+1,h=>by
   rw[scn,scn,scn_ext (i:=i) fun j hj=>h j (by omega),h i (Nat.lt_succ_self i)]
theorem scn_words {W W':List Nat} {n m s:Nat} (hl:∀ j,j < m→rdw W' (16+8 * j) 8=rdw W (16+8 * j) 8) (hw:∀ t,t < n→W'[16+m * 8+t]?.getD 0=W[16+m * 8+t]?.getD 0):scn (gi W' n m s) m=scn (gi W n m s) m:=
 scn_ext fun j hj=>gi_ext (hl j hj) hw
end Bdy
end
section
open Lib (hid)
open Go.RowKit Go.MapKept
namespace Vol
def kep (d:Nat × Nat→Bool) (l:List (Nat × Nat)):List (Nat × Nat):=l.filter fun p=>!d p
def twos:Nat→List Value
 | 0=>[]
 | k+1=>.int .i64 0 :: .int .u64 0 :: twos k
theorem twos_len (k:Nat):(twos k).length=2 * k:=by
 induction k with
 | zero=>rfl
 | succ k ih=>simp[twos,ih];omega
theorem twos_one (k:Nat):∀ v∈twos k,v.oneCell'=true:=by
 induction k with
 | zero=>intro v hv;cases hv
 | succ k ih=>
   intro v hv;simp only[twos,List.mem_cons] at hv
   rcases hv with rfl | rfl | hv
   · rfl
   · rfl
   · exact ih v hv
section
variable {Q : Nat → Prop} {w : World} {a : Nat} {W : List Nat} {st sn : Nat}
theorem gone_any (h:Up Q w a W st sn) (bm:Nat) (hb:Bx w bm a) (p x:Nat) :
 Calls Tryz.prog 74 #[.agg #[.int .i64 (p:Int),.int .u64 (x:Int)],.pointer (some ⟨bm,0,none⟩)] w fun r w'=>r = .returned (.bool (decide (W[p]?.getD 0=x)))∧Below w.heap.size w w':=by
 have HB:=hid ((Below.refl w.heap.size w).alloc (Nat.le_refl _) (.cells #[.int .i64 (p:Int),.int .u64 (x:Int)] 143));have HX:=hid (show Sts _ _ [(p,x)] from sts_one w p x);have H:=hid (h.keep HB.out);have HM:=hid (hb.keep HB.out);clear h hb;go_enter Tryz.func74,Tryz.ntmps74
 go_wp2_with fail
 generalize w.alloc (.cells #[.int .i64 (p:Int),.int .u64 (x:Int)] 143)=w1 at *;have hc:=HM.out.c0;have hl:=HM.out.lt
 obtain⟨h0,h1⟩:=HX.out.at' 0 (by simp)
 simp at h0 h1;have hl2:=HX.out.lt
 go_region_held3 (fun W'=>W'.cell? ⟨bm,0,none⟩=some (.pointer (some ⟨a,0,none⟩))∧W'.cell? ⟨w.heap.size,0,none⟩=some (.int .i64 (p:Int))∧W'.cell? ⟨w.heap.size,1,none⟩=some (.int .u64 (x:Int))) (go_keep)
  (first
  | (go_at_call 54
     with_reducible refine (up_load (H.out.keep (bel_d w1)) p).mono ?_
     rintro r w2 ⟨rfl,rfl⟩))
 have HB2:=hid (HB.out.trans ((bel_d w1).mono HB.out.size))
 have he:(((W[p]?.getD 0:Nat):Int) == (x:Int))=decide (W[p]?.getD 0=x):=by
  by_cases h:W[p]?.getD 0=x
  · simp[h]
  · rw[decide_eq_false h]
    exact beq_eq_false_iff_ne.2 (by omega)
 have HE:=hid he;clear he;go_wp2
 go_ret
 exact⟨congrArg (fun b=>Ending.returned (.bool b)) HE.out,HB2.out⟩
end
end Vol
end
section
open Lib (hid)
open Go.RowKit Go.MapKept
namespace Vol
section
variable {w : World}
theorem index_any (w1:World) (bm g c:Nat) (l:List (Nat × Nat)) (d:Nat × Nat→Bool) (hS:Sts w g l) (hbel:Below w1.heap.size w1 w) (hl:l.length≤4194304)
 (HF:∀ w',Below w1.heap.size w1 w'→∀ p x:Nat,Calls Tryz.prog 74 #[.agg #[.int .i64 (p:Int),.int .u64 (x:Int)],.pointer (some ⟨bm,0,none⟩)] w' fun r w''=>r = .returned (.bool (d (p,x)))∧Below w'.heap.size w' w'') :
 Calls Tryz.prog 129 #[.slice (some ⟨g,0,none⟩) l.length c,.func (.func 74) #[] #[.pointer (some ⟨bm,0,none⟩)]] w fun r w'=>
  ((r = .returned (.int .i64 (-1))∧∀ p∈l,d p=false)∨∃ k,k < l.length∧r = .returned (.int .i64 (k:Int))∧(∀ x,l[k]? = some x→d x=true)∧∀ j x,j < k→l[j]? = some x→d x=false)∧Below w.heap.size w w':=by
 have HS:=hid hS;have HFF:=hid HF;have HBL:=hid hbel;clear hS HF hbel;go_enter Tryz.func129,Tryz.ntmps129
 go_wp2_with fail
 go_loopw [8] (fun i wr=>∃ (k:Nat),k≤l.length∧i = .int .i64 (k:Int)∧(∀ j x,j < k→l[j]? = some x→d x=false)∧Below w.heap.size w wr) (fun i _=>l.length - (intOf i).toNat)
 case atStart=>exact⟨0,Nat.zero_le _,rfl,fun j x hj=>absurd hj (Nat.not_lt_zero _),Below.refl _ _⟩
 case round=>
  obtain⟨k,hk,rfl,hnone,hb⟩:=hrel
  have HN:=hid hnone;have HB:=hid hb;clear hnone hb;by_cases hlt:k < l.length
  · obtain⟨hc0,hc1⟩:=(HS.out.keep HB.out).at' k hlt
    have hgl:=(HS.out.keep HB.out).lt;have HE:=hid (show l[k]? = some (l[k].1,l[k].2) from List.getElem?_eq_getElem hlt);generalize l[k].1=p at *;generalize l[k].2=x at *;have HC:=hid (HFF.out wr (HBL.out.trans (HB.out.mono HBL.out.size)) p x);have hi0:(0:Int)≤(k:Int):=by omega
    have hi1:(k:Int) < (l.length:Int):=by omega
    go_wp2_with fail
    refine HC.out.mono ?_;rintro r w2 ⟨rfl,hb⟩;have HB2:=hid (HB.out.trans (hb.mono HB.out.size));clear hb HC
    cases hd:d (p,x) with
    | false=>
      have HD:=hid hd;clear hd;go_wp2
      refine⟨⟨k+1,by omega,by go_num,fun j y hj hy=>?_,HB2.out⟩,by simp[intOf];omega⟩
      by_cases he:j=k
      · subst he
        rw[HE.out] at hy;injection hy with hy
        subst hy;exact HD.out
      · exact HN.out j y (by omega) hy
    | true=>
      have HD:=hid hd;clear hd;go_wp2
      go_ret
      refine⟨.inr ⟨k,hlt,rfl,fun y hy=>?_,HN.out⟩,HB2.out⟩
      rw[HE.out] at hy;injection hy with hy
      subst hy;exact HD.out
  · obtain rfl:l.length=k:=by omega
    go_wp2
    go_ret
    refine⟨.inl ⟨rfl,fun p hp=>?_⟩,HB.out⟩
    obtain⟨j,hj,rfl⟩:=List.getElem_of_mem hp
    exact HN.out j _ hj (List.getElem?_eq_getElem hj)
structure Kp (d:Nat × Nat→Bool) (l cur:List (Nat × Nat)) (i j:Nat):Prop where
 len:cur.length=l.length
 front:cur.take i=kep d (l.take j)
 back:cur.drop j=l.drop j
 ij:i < j
 jl:j≤l.length
theorem kep_snoc (d:Nat × Nat→Bool) (l:List (Nat × Nat)) {j:Nat} {y:Nat × Nat} (h:l[j]? = some y):kep d (l.take (j+1))=kep d (l.take j)++if d y=true then [] else [y]:=by
 unfold kep;rw[List.take_add_one,h,List.filter_append]
 cases hd:d y<;>simp[hd]
theorem Kp.get {d:Nat × Nat→Bool} {l cur:List (Nat × Nat)} {i j:Nat} (h:Kp d l cur i j):cur[j]? = l[j]?:=by
 have:=congrArg (fun l=>l[0]?) h.back
 simpa using this
theorem Kp.skip {d:Nat × Nat→Bool} {l cur:List (Nat × Nat)} {i j:Nat} (h:Kp d l cur i j) (hj:j < l.length) {y:Nat × Nat} (hy:l[j]? = some y) (hd:d y=true):Kp d l cur i (j+1):=by
 refine⟨h.len,?_,?_,by have:=h.ij;omega,hj⟩
 · rw[kep_snoc d l hy,if_pos hd,List.append_nil,h.front]
 · rw[← List.drop_drop,h.back,List.drop_drop]
theorem Kp.keep {d:Nat × Nat→Bool} {l cur:List (Nat × Nat)} {i j:Nat} (h:Kp d l cur i j) (hj:j < l.length) {y:Nat × Nat} (hy:l[j]? = some y) (hd:d y=false):Kp d l (cur.set i y) (i+1) (j+1):=by
 have hl:=h.len;have hij:=h.ij
 refine⟨by rw[List.length_set,h.len],?_,?_,by omega,hj⟩
 · rw[kep_snoc d l hy,if_neg (by simp[hd]),← h.front,List.take_add_one,List.getElem?_set_self (by omega),List.take_set_of_le (Nat.le_refl i)]
   rfl
 · rw[List.drop_set_of_lt (by omega),← List.drop_drop,h.back,List.drop_drop]
theorem kp_start {d:Nat × Nat→Bool} {l:List (Nat × Nat)} {k:Nat} (hk:k < l.length) (hyes:∀ x,l[k]? = some x→d x=true) (hno:∀ j x,j < k→l[j]? = some x→d x=false):Kp d l l k (k+1):=by
 refine⟨rfl,?_,rfl,by omega,hk⟩
 rw[kep_snoc d l (List.getElem?_eq_getElem hk),if_pos (hyes _ (List.getElem?_eq_getElem hk)),List.append_nil];unfold kep;refine (List.filter_eq_self.2 fun p hp=>?_).symm
 obtain⟨j,hj,rfl⟩:=List.getElem_of_mem hp
 rw[List.length_take] at hj;rw[hno j _ (by omega) (by rw[List.getElem_take];exact List.getElem?_eq_getElem (by omega))];rfl
theorem Kp.done {d:Nat × Nat→Bool} {l cur:List (Nat × Nat)} {i j:Nat} (h:Kp d l cur i j) (hj:j=l.length):cur.take i=kep d l∧(kep d l).length=i:=by
 have h1:=h.front;rw[hj,List.take_length] at h1
 refine⟨h1,?_⟩
 rw[← h1,List.length_take]
 have:=h.ij
 have:=h.len
 omega
theorem stc_two {cur:List (Nat × Nat)} {L j:Nat} {y:Nat × Nat} (hj:j < L) (hy:cur[j]? = some y):stc cur L (j * 2) = .int .i64 (y.1:Int)∧stc cur L (j * 2+1) = .int .u64 (y.2:Int):=by
 unfold stc;rw[if_pos (by omega),if_pos (by omega),if_pos (by omega),if_neg (by omega),show j * 2 / 2=j by omega,show (j * 2+1) / 2=j by omega,hy]
 exact⟨rfl,rfl⟩
theorem stc_set {cur:List (Nat × Nat)} {L i p x:Nat} (hi:i < L) (hl:cur.length=L) (j:Nat):(if j=i * 2+1 then Value.int .u64 (x:Int) else if j=i * 2 then Value.int .i64 (p:Int) else stc cur L j)=stc (cur.set i (p,x)) L j:=by
 by_cases h1:j=i * 2+1
 · subst h1
   rw[if_pos rfl,(stc_two hi (List.getElem?_set_self (by omega))).2]
 · rw[if_neg h1]
   by_cases h2:j=i * 2
   · subst h2
     rw[if_pos rfl,(stc_two hi (List.getElem?_set_self (by omega))).1]
   · rw[if_neg h2]
     unfold stc;rw[List.getElem?_set_ne (by omega)]
theorem twos_get:∀ (n i:Nat),i < 2 * n→(twos n)[i]? = some (if i % 2=0 then .int .i64 0 else .int .u64 0)
 | 0,i,h=>by omega
 | n+1,i,h=>by
   match i with
   | 0=>rfl
   | 1=>rfl
   | i+2=>
     have:=twos_get n i (by omega)
     simp only[twos,List.getElem?_cons_succ];rw[this,show (i+2) % 2=i % 2 by omega]
theorem zeros_two (n:Nat):(Builtin.zeroCells (Value.agg #[.int .i64 0,.int .u64 0]).cells n).toList=twos n:=by
 have hz:(Value.agg #[.int .i64 0,.int .u64 0]).cells=#[.int .i64 0,.int .u64 0]:=rfl;rw[hz];apply List.ext_getElem?;intro i;by_cases hi:i < 2 * n
 · rw[twos_get n i hi]
   have h2:i % 2=0∨i % 2=1:=by omega
   have h3:i < n * 2:=by omega
   rcases h2 with h | h<;>simp[Builtin.zeroCells,h,h3]
 · rw[List.getElem?_eq_none (by simp[Builtin.zeroCells];omega),List.getElem?_eq_none (by rw[twos_len];omega)]
theorem store_zero:(Tryz.t143).zero=some (.agg #[.int .i64 0,.int .u64 0]):=by kernel_rfl
theorem run_clear_two (w:World) (ty:TypeId) (b o n c:Nat) (hn:0 < n) (hc:∀ j,j < 2 * n→(w.cell? ⟨b,o+j,none⟩).isSome=true) (hf:∀ j,j < 2 * n→w.frozen? ⟨b,o+j,none⟩=false) :
 (Builtin.clear_ #[140] ty #[.slice (some ⟨b,o,none⟩) n c]).run Tryz.prog w = .ok (.tuple #[]) (w.setCells b o (twos n)):=by
 have hv:∀ w,(zeroValue 143).run Tryz.prog w = .ok (.agg #[.int .i64 0,.int .u64 0]) w:=fun w=>by
  simp[zeroValue,store_zero]
 have hst:=run_storeCells_cells (P:=Tryz.prog) b o (twos n) 0 w (by simpa [twos_len] using hc) (by simpa [twos_len] using hf) (twos_one n);simp only[Nat.add_zero] at hst
 obtain⟨m,rfl⟩:∃ m,n=m+1:=⟨n - 1,by omega⟩
 simp[Builtin.clear_,run_underlying Tryz.underlying140,hv,zeros_two,hst]
theorem delete_any (w1:World) (bm g L:Nat) (l:List (Nat × Nat)) (d:Nat × Nat→Bool) (hrow:w.rowIs g 143 (L * 2) (stc l L)) (hll:l.length=L) (hg:w1.heap.size≤g) (hbel:Below w1.heap.size w1 w) (hl:L≤4194304)
 (HF:∀ w',Below w1.heap.size w1 w'→∀ p x:Nat,Calls Tryz.prog 74 #[.agg #[.int .i64 (p:Int),.int .u64 (x:Int)],.pointer (some ⟨bm,0,none⟩)] w' fun r w''=>r = .returned (.bool (d (p,x)))∧Below w'.heap.size w' w'') :
 Calls Tryz.prog 72 #[.slice (some ⟨g,0,none⟩) L L,.func (.func 74) #[] #[.pointer (some ⟨bm,0,none⟩)]] w fun r w'=>
  r = .returned (.slice (some ⟨g,0,none⟩) (kep d l).length L)∧Sts w' g (kep d l)∧Below w1.heap.size w1 w':=by
 have hIX:=index_any w1 bm g L l d (sts_row hrow hll) hbel (by omega) HF;rw[hll] at hIX;have HIX:=hid hIX;have HR:=hid hrow;have HFF:=hid HF;have HBL:=hid hbel;have HLL:=hid hll;clear hIX hrow HF hbel hll;go_enter Tryz.func72,Tryz.ntmps72
 go_wp2_with fail
 refine HIX.out.mono ?_;rintro r w2 ⟨(⟨rfl,hnone⟩ | ⟨k,hk,rfl,hyes,hno⟩),hb⟩
 · have hkep:kep d l=l:=by
    unfold kep;rw[List.filter_eq_self];intro p hp;rw[hnone p hp];rfl
   have HK:=hid hkep;have HB2:=hid (HBL.out.trans (hb.mono HBL.out.size));have HS2:=hid ((sts_row HR.out HLL.out).keep hb);clear hb hnone hkep;go_wp2
   go_ret;rw[HK.out,HLL.out]
   exact⟨rfl,HS2.out,HB2.out⟩
 · have hk2:((k:Int) == -1)=false:=beq_eq_false_iff_ne.2 (by omega)
   have HB2:=hid (HBL.out.trans (hb.mono HBL.out.size));have HR2:=hid (HR.out.of_block (hb.block g HR.out.lt));have HK0:=hid (kp_start (by rw[HLL.out];exact hk) hyes hno);clear hb HIX HR hyes hno;go_wp2_with fail
   go_loopw [5,6,7] (fun si sj _ wr=>∃ (i j:Nat) (cur:List (Nat × Nat)),si = .int .i64 (i:Int)∧sj = .int .i64 (j:Int)∧Kp d l cur i j∧wr.rowIs g 143 (L * 2) (stc cur L)∧Below w1.heap.size w1 wr) (fun _ sj _ _=>L - (intOf sj).toNat)
   case atStart=>exact⟨k,k+1,l,rfl,by go_num,HK0.out,HR2.out,HB2.out⟩
   case round=>
    obtain⟨i,j,cur,rfl,rfl,hkp,hrow,hb⟩:=hrel
    have HKP:=hid hkp;have HROW:=hid hrow;have HB:=hid hb;have hij:=hkp.ij;have hjl:=hkp.jl;rw[HLL.out] at hjl;have hgl:=hrow.lt;clear hkp hrow hb HK0 HR2 HB2 hk2;by_cases hlt:j < L
    · obtain⟨y,hy⟩:∃ y,l[j]? = some y:=⟨l[j]'(by rw[HLL.out];exact hlt),List.getElem?_eq_getElem _⟩
      obtain⟨p,x⟩:=y
      have HY:=hid hy;have hs2:=stc_two hlt (HKP.out.get.trans hy);have hc0:=HROW.out.cell (i:=j * 2) (by omega);have hc1:=HROW.out.cell (i:=j * 2+1) (by omega);rw[hs2.1] at hc0;rw[hs2.2] at hc1;clear hs2 hy;have hi0:(0:Int)≤(j:Int):=by omega
      have hi1:(j:Int) < (L:Int):=by omega
      have hba:=(Below.refl wr.heap.size wr).alloc (Nat.le_refl _) (.cells #[.int .i64 (p:Int),.int .u64 (x:Int)] 143);have HS3:=hid (show Sts _ _ [(p,x)] from sts_one wr p x);have HR3:=hid (HROW.out.of_block (hba.block g hgl));have HB3:=hid (HB.out.trans (hba.mono HB.out.size));clear hba;go_wp2_with fail
      generalize wr.alloc (.cells #[.int .i64 (p:Int),.int .u64 (x:Int)] 143)=w3 at *;generalize wr.heap.size=bv at *;refine (HFF.out w3 HB3.out p x).mono ?_;rintro r w4 ⟨rfl,hb⟩;have HS4:=hid (HS3.out.keep hb);have HR4:=hid (HR3.out.of_block (hb.block g HR3.out.lt));have HB4:=hid (HB3.out.trans (hb.mono HB3.out.size));clear hb HS3 HR3 HB3 hc0 hc1;have hv0:=(HS4.out.at' 0 (by simp)).1;have hv1:=(HS4.out.at' 0 (by simp)).2;simp at hv0 hv1;have hvl:=HS4.out.lt
      cases hd:d (p,x) with
      | true=>
        have HD:=hid hd;clear hd;go_wp2
        refine⟨⟨i,j+1,cur,rfl,by go_num,HKP.out.skip (by rw[HLL.out];exact hlt) HY.out HD.out,HR4.out,HB4.out⟩,by simp[intOf];omega⟩
      | false=>
        have HD:=hid hd;clear hd;have hil:i < L:=by omega
        have hf0:=HR4.out.frozen (i * 2);have hf1:=HR4.out.frozen (i * 2+1)
        obtain⟨z,hz⟩:∃ z,cur[i]? = some z:=⟨cur[i]'(by rw[HKP.out.len,HLL.out];exact hil),List.getElem?_eq_getElem _⟩
        have hs2:=stc_two hil hz;have hd0:=HR4.out.cell (i:=i * 2) (by omega);have hd1:=HR4.out.cell (i:=i * 2+1) (by omega);rw[hs2.1] at hd0;rw[hs2.2] at hd1
        obtain⟨z0,z1⟩:=z
        clear hs2 hz;have hi2:(0:Int)≤(i:Int):=by omega
        have hi3:(i:Int) < (L:Int):=by omega
        have hgl4:=HR4.out.lt;have HL2:=hid (show cur.length=L by rw[HKP.out.len,HLL.out]);go_wp2
        refine⟨⟨i+1,j+1,cur.set i (p,x),by go_num,by go_num,HKP.out.keep (by rw[HLL.out];exact hlt) HY.out HD.out,?_,?_⟩,by simp[intOf];omega⟩
        · exact ((HR4.out.set (i * 2) (.int .i64 (p:Int))).set (i * 2+1) (.int .u64 (x:Int))).congr (fun t _=>stc_set hil HL2.out t)
        · exact (HB4.out.setCell (by exact hg) _).setCell (by exact hg) _
    · obtain rfl:j=L:=by omega
      have hil:i < j:=hij;have HDN:=hid (HKP.out.done HLL.out.symm);have hlen:=HKP.out.len;rw[HLL.out] at hlen;have hcl:=fun ty=>run_clear_two wr ty g (i * 2) (j - i) (j - i) (by omega) (fun t ht=>by rw[HROW.out.cell (by omega)];rfl) (fun t _=>HROW.out.frozen _)
      have HLN:=hid hlen;have hi2:(0:Int)≤(i:Int):=by omega
      have hi3:(i:Int)≤(j:Int):=by omega
      have hne:¬ j=i:=by omega
      have HCL:=hid hcl;clear hlen hcl;have hcl:=fun ty=>HCL.out ty
      go_wp2
      go_ret;have hr:=rowIs_setCells (twos (j - i)) (i * 2) wr _ HROW.out
      refine⟨?_,⟨hr.lt,fun t ht=>?_⟩,below_setCells hg _ _ _ HB.out⟩
      · rw[HDN.out.2]
        rfl
      have hti:t < i:=by have:=HDN.out.2;omega
      have hct:cur[t]? = some ((kep d l)[t]):=by
       have h1:(cur.take i)[t]? = cur[t]?:=by rw[List.getElem?_take,if_pos hti]
       rw[← h1,HDN.out.1];exact List.getElem?_eq_getElem ht
      have hs2:=stc_two (L:=j) (by omega) hct;have h1:=hr.cell (i:=t * 2) (by omega);have h2:=hr.cell (i:=t * 2+1) (by omega);rw[if_neg (by omega),hs2.1] at h1;rw[if_neg (by omega),hs2.2] at h2
      exact⟨h1,h2⟩
end
end Vol
end
section
open Lib (hid)
open Go.RowKit Go.MapKept
namespace Vol
def alr (W:List Nat) (p:Nat × Nat):Bool:=decide (W[p.1]?.getD 0=p.2)
def dif (W:List Nat) (f:Nat) (l:List Nat):List (Nat × Nat):=kep (alr W) (sto f l)
theorem dif_sub {W:List Nat} {f:Nat} {l:List Nat}:∀ p∈dif W f l,p∈sto f l:=fun _ h=>(List.mem_filter.1 h).1
theorem dif_le (W:List Nat) (f:Nat) (l:List Nat):(dif W f l).length≤l.length:=by
 have:=List.length_filter_le (fun p=>!alr W p) (sto f l)
 rw[sto_len] at this;exact this
theorem puts_kep (W:List Nat) (f:Nat) (l:List Nat) (h:f+l.length≤W.length):∀ k,k≤l.length→puts W (kep (alr W) ((sto f l).take k))=puts W ((sto f l).take k)
 | 0,_=>rfl
 | k+1,hk=>by
   have hk2:k < (sto f l).length:=by rw[sto_len];omega
   have ih:=puts_kep W f l h k (by omega);rw[kep_snoc _ _ (List.getElem?_eq_getElem hk2),puts_step W _ k hk2]
   cases hd:alr W (sto f l)[k] with
   | false=>
     rw[if_neg (by simp),puts_snoc,ih]
   | true=>
     rw[if_pos rfl,List.append_nil,ih];have hd:=of_decide_eq_true hd;rw[sto_get] at hd ⊢;simp only at hd ⊢;rw[← hd];have hg:=puts_get W f l h k (by omega) (f+k);rw[if_neg (by omega)] at hg;refine List.ext_getElem? (fun j=>?_);by_cases e:j=f+k
     · subst e
       have hj:f+k < (puts W ((sto f l).take k)).length:=by rw[puts_len];omega
       rw[List.getElem?_set_self hj,← hg,List.getElem?_eq_getElem hj];rfl
     · rw[List.getElem?_set_ne (by omega)]
theorem puts_dif (W:List Nat) (f:Nat) (l:List Nat) (h:f+l.length≤W.length):puts W (dif W f l)=puts W (sto f l):=by
 have:=puts_kep W f l h l.length (Nat.le_refl _)
 rwa [List.take_of_length_le (by rw[sto_len];exact Nat.le_refl _)] at this
def nts0 (n:Nat):List Nat:=List.replicate n 0
theorem nts0_len (n:Nat):(nts0 n).length=n:=List.length_replicate
theorem nts0_u64 (n:Nat):∀ x∈nts0 n,x < 18446744073709551616:=by
 intro x hx;rw[List.eq_of_mem_replicate hx];decide
section
variable {Q : Nat → Prop} {w : World} {a : Nat} {W : List Nat} {st sn : Nat}
theorem change_any (h:Up Q w a W st sn) (f:Nat) (A:Option Addr) (c:Nat) (l:List Nat) (hl:Pack.Wds w A l) (hin:f+l.length≤W.length) (hs:st+2 * l.length < 100000000000) :
 Calls Tryz.prog 35 #[.agg #[.pointer (some ⟨a,0,none⟩)],.int .i64 (f:Int),.slice A l.length c] w fun r w'=>
  r = .returned (.tuple #[.int .i64 ((dif W f l).length:Int),.int .i64 0])∧Up Q w' a (puts W (dif W f l)) (st+(dif W f l).length+(lns (dif W f l)).length) (sn+(dif W f l).length)∧Kq Q w w':=by
 have hsz:=h.size;have H:=hid h;have HL:=hid hl;have HIN:=hid hin;have HS:=hid hs;have HX:=hid (bx_new w a 76);have HB0:=hid ((Below.refl w.heap.size w).alloc (Nat.le_refl _) (.cells #[.pointer (some ⟨a,0,none⟩)] 76));clear h hl hin hs;go_enter Tryz.func35,Tryz.ntmps35
 go_wp2_with fail
 have HW1:=hid (show Pack.Wds (w.alloc (.cells #[.pointer (some ⟨a,0,none⟩)] 76)) A l from HL.out.keep HB0.out)
 have HF:=hid (show ∀ w',Below (w.alloc (.cells #[.pointer (some ⟨a,0,none⟩)] 76)).heap.size (w.alloc (.cells #[.pointer (some ⟨a,0,none⟩)] 76)) w'→∀ p x:Nat,Calls Tryz.prog 74 #[.agg #[.int .i64 (p:Int),.int .u64 (x:Int)],.pointer (some ⟨w.heap.size,0,none⟩)] w' fun r w''=>r = .returned (.bool (alr W (p,x)))∧Below w'.heap.size w' w'' from
  fun w' hb p x=>gone_any (H.out.keep (HB0.out.trans (hb.mono HB0.out.size))) w.heap.size (HX.out.keep hb) p x)
 generalize w.alloc (.cells #[.pointer (some ⟨a,0,none⟩)] 76)=w1 at *;refine (storesOf_any f A c l HW1.out (by have:=HIN.out;omega) (by have:=HIN.out;omega)).mono ?_;rintro r w2 ⟨rfl,_,hrow,hb⟩
 have HD:=hid (show Calls Tryz.prog 72 #[.slice (some ⟨w1.heap.size,0,none⟩) l.length l.length,.func (.func 74) #[] #[.pointer (some ⟨w.heap.size,0,none⟩)]] w2 fun r w'=>
  r = .returned (.slice (some ⟨w1.heap.size,0,none⟩) (dif W f l).length l.length)∧Sts w' w1.heap.size (dif W f l)∧Below w1.heap.size w1 w' from
  delete_any w1 w.heap.size w1.heap.size l.length (sto f l) (alr W) hrow (sto_len f l) (Nat.le_refl _) hb (by have:=HIN.out;omega) HF.out)
 have HLD:=hid (dif_le W f l);have HDM:=hid (show ∀ p∈dif W f l,p.1 < W.length∧p.2 < 18446744073709551616 from fun p hp=>⟨sto_lt HIN.out p (dif_sub p hp),sto_u64 HL.out.u64 p (dif_sub p hp)⟩);clear hrow hb HF HW1
 obtain⟨d,hd⟩:∃ d,d=dif W f l:=⟨_,rfl⟩
 rw[← hd] at HD HLD HDM;have HDD:=hid hd;clear hd;go_wp2_with fail
 refine HD.out.mono ?_;rintro r w3 ⟨rfl,hS,hb⟩;have HX3:=hid (HX.out.keep hb);have HB3:=hid (HB0.out.trans (hb.mono HB0.out.size));have HG:=hid (show w.heap.size≤w1.heap.size from HB0.out.size);have HWR:=hid (write_any (H.out.grow HB3.out) w1.heap.size l.length d hS (.inr ⟨HB0.out.size,hS.lt⟩) HDM.out (by have:=HS.out;have:=HLD.out;omega) (by have:=HIN.out;have:=HLD.out;omega));have HQX:=hid (show w.heap.size≤w.heap.size∧w.heap.size < w3.heap.size from ⟨Nat.le_refl _,HX3.out.lt⟩);clear hS hb HD HX HB0;have hc0:=HX3.out.c0;have hl0:=HX3.out.lt;go_wp2_with fail
 refine HWR.out.mono ?_;rintro r w4 ⟨rfl,hu,hk⟩;have HU:=hid (hu.sub (Q':=Q) (fun k h=>.inl h));have HK:=hid ((kq_below (Q:=Q) HB3.out).trans (hk.sub (fun k h=>.inl h)));clear hu hk HWR;go_wp2
 go_ret2;obtain rfl:=HDD.out
 exact⟨rfl,HU.out,HK.out⟩
end
end Vol
end
section
open Go.RowKit Go.MapKept
namespace Bm
open Pack (Wds Nts)
section
variable {w : World} {p q K C n : Nat} {f : Nat → Bool}
structure Two (w0:World) (B p q p' q' K C C' n:Nat) (f g:Nat→Bool) (w:World):Prop where
 one:Mp w p q K C n f
 two:Mp w p' q' K C' n g
 below:Below B w0 w
 hB:B≤w.heap.size
 bq:B≤q'
 ne:p≠q'∧q≠q'
theorem Two.keep {w0 w w':World} {B p q p' q' K C C' n:Nat} {f g:Nat→Bool} (h:Two w0 B p q p' q' K C C' n f g w) (hb:Below w.heap.size w w'):Two w0 B p q p' q' K C C' n f g w':=
 ⟨h.one.keep hb,h.two.keep hb,h.below.trans (hb.mono h.hB),Nat.le_trans h.hB hb.size,h.bq,h.ne⟩
theorem Two.drewN {w0 w:World} {B p q p' q' K C C' n:Nat} {f g:Nat→Bool} (h:Two w0 B p q p' q' K C C' n f g w) (k:Nat):Two w0 B p q p' q' K C C' n f g (w.drewN k):=
 h.keep (below_drewN (Below.refl _ _) k)
end
end Bm
end
section
open Lib (hid)
open Go.RowKit Go.MapKept
namespace Vol
theorem bitAt_wds {f:Nat→Bool} {K i:Nat} (h:i < 64 * K):Bm.bitAt (Bm.wds f K) i=f i:=by
 unfold Bm.bitAt;have h1:i / 64 < (Bm.wds f K).length:=by rw[Bm.wds_len];omega
 rw[List.getD_eq_getElem?_getD,List.getElem?_eq_getElem h1,Option.getD_some,Bm.wds_get,Bm.wd_bit,decide_eq_true (Nat.mod_lt _ (by omega)),Bool.true_and,show 64 * (i / 64)+i % 64=i by omega]
theorem good_wds {f:Nat→Bool} {n K:Nat} (h:∀ b,n≤b→f b=false):Bm.Good n (Bm.wds f K):=fun i h1 h2=>by
 rw[Bm.wds_len] at h2;rw[bitAt_wds h2,h i h1]
theorem fo_wds {f:Nat→Bool} {n K:Nat} (h:∀ b,n≤b→f b=false) (hK:n≤64 * K):Bm.fo n (Bm.wds f K)=f:=by
 funext b
 unfold Bm.fo;by_cases hb:b < n
 · rw[decide_eq_true hb,Bool.true_and,bitAt_wds (by omega)]
 · rw[decide_eq_false hb,h b (by omega)]
   rfl
section
variable {Q Q' : Nat → Prop} {w w' : World} {vb a n m s : Nat} {W : List Nat} {st sn : Nat}
theorem setBitmap_yes (h:Vo Q w vb a n m s W st sn) {bm:Nat} (hbm:Geo.bmAt n m=(bm:Int)) {p q K C:Nat} {f:Nat→Bool} (hM:Bm.Mp w p q K C n f) (hs:st+2 * K < 100000000000) :
 Calls Tryz.prog 19 #[.pointer (some ⟨vb,0,none⟩),.pointer (some ⟨p,0,none⟩)] w fun r w'=>
  r = .returned (.tuple #[.int .i64 ((dif W bm (Bm.wds f K)).length:Int),.int .i64 0])∧Vo Q w' vb a n m s (puts W (dif W bm (Bm.wds f K))) (st+(dif W bm (Bm.wds f K)).length+(lns (dif W bm (Bm.wds f K))).length) (sn+(dif W bm (Bm.wds f K)).length)∧Kq Q w w':=by
 obtain⟨h1,h2,h3⟩:=h.num
 have h4:=Geo.bm_bounds h1 h2;have h5:=Geo.bk_bounds h1 h2;have h6:=Geo.fin_bounds h1 h2 h3;have h7:=h.len;have hkk:=hM.hK;have hsz:=h.up.size
 have hin:bm+K≤W.length:=by
  unfold Geo.fin at h7;omega
 obtain⟨c0,c1,c2,c3⟩:=h.cells
 have hlt:=h.lt
 have hp:∀ w:World,Calls Tryz.prog 34 #[.agg #[.int .i64 n,.int .i64 m,.int .i64 s]] w fun r w'=>r = .returned (.tuple #[.int .i64 (bm:Int),.int .i64 (K:Int)])∧Below w.heap.size w w':=fun w=>by
  have hp:=Geo.bitmap_any w (n:Int) (m:Int) (s:Int);rw[Geo.iff_yes h.may,Geo.iff_yes h.may,hbm,show ((n:Int)+63) / 64=(K:Int) by omega] at hp;exact hp
 have HP:=hid hp;have HC:=hid (fun j=>Bm.len_any (hM.drewN j));have HM:=hid hM;have H:=hid h;have HIN:=hid (show bm+K≤W.length∧K≤1024∧st+2 * K < 100000000000 from ⟨hin,by omega,hs⟩);have hd:((n:Int) != (n:Int))=false:=by simp
 clear h hp hM h1 h2 h3 h4 h5 h6 h7 hkk hsz hin hs;go_enter Tryz.func19,Tryz.ntmps19
 go_wp2_with fail
 go_quiet ((go_at_call 33;exact Calls.quiet_of_same ((HC.out _).mono (fun _ _ h=>⟨h.1,h.2.symm⟩))))
 go_wp2_with fail
 refine (HP.out _).mono ?_;rintro r w1 ⟨rfl,hb⟩;have HB1:=hid (show Below w.heap.size w w1 from (Bm.below_drewN (Below.refl _ w) nq).trans hb);clear hb HP HC c0 c1 c2 c3 hd hlt
 obtain⟨c0,c1,c2,c3⟩:=(H.out.keep HB1.out).cells
 have hlt:=(H.out.keep HB1.out).lt;have HW:=hid (fun W' (hb:Below w.heap.size w W')=>Bm.words_any (HM.out.keep hb))
 obtain⟨l,hl⟩:∃ l,l=Bm.wds f K:=⟨_,rfl⟩
 have HCH:=hid (fun (w':World) (gr gc:Nat) (hb:Below w.heap.size w w') (hr:Bm.Row w' gr 50 K (fun k=>.int .u64 (Bm.wd f k:Int)))=>
  show Calls Tryz.prog 35 #[.agg #[.pointer (some ⟨a,0,none⟩)],.int .i64 (bm:Int),.slice (some ⟨gr,0,none⟩) K gc] w' fun r w''=>
   r = .returned (.tuple #[.int .i64 ((dif W bm l).length:Int),.int .i64 0])∧Vo Q w'' vb a n m s (puts W (dif W bm l)) (st+(dif W bm l).length+(lns (dif W bm l)).length) (sn+(dif W bm l).length)∧Kq Q w w'' from by
  have hll:l.length=K:=by rw[hl,Bm.wds_len]
  have hc:=change_any (H.out.up.keep hb) bm (some ⟨gr,0,none⟩) gc l (by rw[hl];exact hr.wds (by have:=HIN.out;omega)) (by rw[hll];exact HIN.out.1) (by rw[hll];exact HIN.out.2.2);rw[hll] at hc;refine hc.mono ?_;rintro r w'' ⟨rfl,hu,hk⟩;have hk2:=(kq_below (Q:=Q) hb).trans hk
  exact⟨rfl,H.out.next hu hk2 (puts_len _ _),hk2⟩)
 have HLE:=hid hl;clear hl;go_wp2_with fail
 go_region_held3 (fun W'=>W'.cell? ⟨vb,0,none⟩=some (.pointer (some ⟨a,0,none⟩))) (go_keep)
  (first
  | (go_at_call 36
     with_reducible refine (HW.out w1.drew (HB1.out.trans ((bel_d w1).mono HB1.out.size))).mono ?_
     rintro r w2 ⟨gr,gc,rfl,_,_,hrow,hb⟩;have HROW:=hid hrow;have HB2:=hid ((HB1.out.trans ((bel_d w1).mono HB1.out.size)).trans (hb.mono HB1.out.size));have hd0:=(H.out.keep HB2.out).cells.1;have hl3:=(H.out.keep HB2.out).lt;clear hb hrow)
  | (go_at_call 35
     with_reducible refine (HCH.out _ _ _ HB2.out HROW.out).mono ?_
     rintro r w3 ⟨rfl,hv,hk⟩;have HV:=hid hv;have HK:=hid hk;have he0:=hv.cells.1;have hl4:=hv.lt;clear hv hk))
 go_wp2
 go_ret2;obtain rfl:=HLE.out
 exact⟨rfl,HV.out,HK.out⟩
end
end Vol
end
section
namespace Chk
open Clm (Cl Ok Oks ut bl ins scn gi)
open Vol (rdw vsb rdw_len rdw_get)
open Fld (fent fby)
structure Alk (W W':List Nat) (n m:Nat):Prop where
 len:W'.length=W.length
 sup:∀ i,i < 8→W'[i]?.getD 0=W[i]?.getD 0
 mid:∀ i,16≤i→i < (Geo.bmAt n m).toNat→W'[i]?.getD 0=W[i]?.getD 0
 far:∀ i,(Geo.bkAt n m).toNat≤i→W'[i]?.getD 0=W[i]?.getD 0
theorem rdw_ext {W W':List Nat} {b k:Nat} (h:∀ j,j < k→W'[b+j]?.getD 0=W[b+j]?.getD 0):rdw W' b k=rdw W b k:=
 List.ext_getElem (by rw[rdw_len,rdw_len]) fun j h1 h2=>by
  rw[rdw_get,rdw_get];exact h j (by rwa [rdw_len] at h1)
theorem fent_same {W W':List Nat} {bk q:Nat} {L:List Cl} (h:∀ b,rdw W' (bk+b * q) q=rdw W (bk+b * q) q) (i:Int):fent W' bk q L i=fent W bk q L i:=by
 unfold fent
 split
 · rfl
 split
 · rfl
 rw[Bdy.fby_same fun b _=>h b]
section
variable {W W' : List Nat} {n m s : Nat}
theorem Alk.vsb (h:Alk W W' n m):vsb W'=Vol.vsb W:=by
 unfold Vol.vsb;rw[h.len,rdw_ext (W:=W) fun j hj=>by rw[Nat.zero_add];exact h.sup j hj]
theorem Alk.scn (h:Alk W W' n m) (hv:Vol.vsb W=some (n,m,s)):scn (gi W' n m s) m=Clm.scn (gi W n m s) m:=by
 obtain⟨h1,_,_⟩:=Vol.vsb_some hv
 obtain⟨k1,k2,_⟩:=(Geo.may_num h1).1
 have h4:=Geo.bm_bounds k1 k2;exact Bdy.scn_words (fun j hj=>rdw_ext fun i hi=>h.mid _ (by omega) (by omega)) fun t ht=>h.mid _ (by omega) (by omega)
theorem Alk.met (h:Alk W W' n m) (L:List Cl):metOf W' n m s L=metOf W n m s L:=by
 unfold metOf
 have e:eOf W' (Geo.bkAt n m).toNat (s / 8) L=eOf W (Geo.bkAt n m).toNat (s / 8) L:=by
  funext i
  unfold eOf;rw[fent_same fun b=>rdw_ext fun j _=>h.far _ (by omega)]
 rw[e]
theorem jdg_made (h:Alk W W' n m) (hv:Vol.vsb W=some (n,m,s)) {L:List Cl} (hL:Clm.scn (gi W n m s) m=some L)
 (hj:jdg W=0∨7 < jdg W) (hb:rdw W' (Geo.bmAt n m).toNat ((n+63) / 64)=Bm.wds (ins (bl L)) ((n+63) / 64)) (hr:rdw W' 8 8=Rec.zero):jdg W'=0:=by
 have hv':Vol.vsb W'=some (n,m,s):=h.vsb.trans hv;have hs':=(h.scn hv).trans hL
 have hne:∀ c∈[1,2,3,7],jdg W≠c:=by
  intro c hc;simp only[List.mem_cons,List.not_mem_nil,or_false] at hc;omega
 have hk:kdOf L 0=2:=Classical.byContradiction fun e=>hne 3 (by simp) (jdg_root hv hL e)
 have hmt:(metOf W n m s L).1=0:=Classical.byContradiction fun e=>by
  have h1:=jdg_met hv hL hk e;have h2:=mt_le (kdOf L) (eOf W (Geo.bkAt n m).toNat (s / 8) L) 65 0 ⟨#[47]⟩ [];have h3:(metOf W n m s L).1≤6:=h2;omega
 have hrs:=jdg_rest hv hL hk hmt
 have hlt:¬ (metOf W n m s L).2.length < (ut L m).length:=fun e=>hne 7 (by simp) (by
  rw[hrs];unfold rst;rw[if_pos e])
 obtain⟨hoks,_⟩:=Clm.scn_oks (fun _ _ h=>Clm.gi_ok h) hL
 have hfar:∀ b,n≤b→ins (bl L) b=false:=fun b hb=>by
  unfold ins
  exact decide_eq_false fun hm=>by
   have:=hoks.bl_lt b hm
   omega
 rw[jdg_rest hv' hs' hk (by rw[h.met];exact hmt),h.met];unfold rst;rw[if_neg hlt,hb,hr,Rec.st_zero,if_neg (fun e=>e ⟨Vol.good_wds hfar,by rw[Vol.fo_wds hfar (by omega)]⟩),if_pos rfl]
end
end Chk
end
section
namespace Rcv
open Clm (Cl ut bl ins scn gi)
open Vol (rdw vsb dif sto puts nts0 lns)
open Chk (jdg Alk)
def da (W:List Nat) (n m:Nat) (L:List Cl):List (Nat × Nat):=dif W (Geo.bmAt n m).toNat (Bm.wds (ins (bl L)) ((n+63) / 64))
def Wa (W:List Nat) (n m:Nat) (L:List Cl):List Nat:=puts W (da W n m L)
def db (W:List Nat):List (Nat × Nat):=dif W 8 (nts0 8)
def Wb (W:List Nat):List Nat:=puts W (db W)
def stt (k:Nat):Nat:=if k=0 then 0 else 1
theorem lns_le (l:List (Nat × Nat)):(lns l).length≤l.length:=by
 unfold Vol.lns Lib.compact Lib.compactUpTo;rw[List.length_map];refine Nat.le_trans (List.length_filter_le _ _) ?_;rw[List.length_range,Vol.lin_len];exact Nat.le_refl _
section
variable {W : List Nat} {n m s : Nat} {L : List Cl}
theorem bounds (hv:vsb W=some (n,m,s)):Geo.bmAt n m=((Geo.bmAt n m).toNat:Int)∧16≤(Geo.bmAt n m).toNat∧(Geo.bmAt n m).toNat+(n+63) / 64≤(Geo.bkAt n m).toNat∧(Geo.bmAt n m).toNat+(n+63) / 64≤W.length∧16≤W.length:=by
 obtain⟨h1,h0,_⟩:=Vol.vsb_some hv
 obtain⟨k1,k2,k3⟩:=(Geo.may_num h1).1
 have h2:=Geo.bm_bounds k1 k2;have h3:=Geo.bk_bounds k1 k2;have h4:=Geo.fin_bounds k1 k2 k3;unfold Geo.fin at h0;omega
theorem da_len:(da W n m L).length≤(n+63) / 64:=by
 unfold da;exact Nat.le_trans (Vol.dif_le _ _ _) (by rw[Bm.wds_len];exact Nat.le_refl _)
theorem db_len:(db W).length≤8:=by
 unfold db;exact Nat.le_trans (Vol.dif_le _ _ _) (by rw[Vol.nts0_len];exact Nat.le_refl _)
theorem wa_get (hv:vsb W=some (n,m,s)) (j:Nat):(Wa W n m L)[j]?.getD 0=if (Geo.bmAt n m).toNat≤j∧j < (Geo.bmAt n m).toNat+(n+63) / 64 then (Bm.wds (ins (bl L)) ((n+63) / 64))[j - (Geo.bmAt n m).toNat]?.getD 0 else W[j]?.getD 0:=by
 obtain⟨_,_,_,h1,_⟩:=bounds hv
 unfold Wa da;rw[Vol.puts_dif _ _ _ (by rw[Bm.wds_len];exact h1),Vol.putw_get _ _ _ (by rw[Bm.wds_len];exact h1),Bm.wds_len]
theorem wb_get (h:16≤W.length) (j:Nat):(Wb W)[j]?.getD 0=if 8≤j∧j < 16 then 0 else W[j]?.getD 0:=by
 unfold Wb db;rw[Vol.puts_dif _ _ _ (by rw[Vol.nts0_len];omega),Vol.putw_get _ _ _ (by rw[Vol.nts0_len];omega),Vol.nts0_len];by_cases h1:8≤j∧j < 16
 · rw[if_pos h1,if_pos h1]
   unfold Vol.nts0;rw[List.getElem?_replicate,if_pos (by omega)];rfl
 · rw[if_neg h1,if_neg h1]
theorem wa_len:(Wa W n m L).length=W.length:=Vol.puts_len _ _
theorem wb_len:(Wb W).length=W.length:=Vol.puts_len _ _
theorem alk_b (hv:vsb W=some (n,m,s)):Alk W (Wb (Wa W n m L)) n m:=by
 obtain⟨_,h1,h2,_,h3⟩:=bounds hv
 have hw:16≤(Wa W n m L).length:=by rw[wa_len];exact h3
 refine⟨by rw[wb_len,wa_len],fun i hi=>?_,fun i hi hj=>?_,fun i hi=>?_⟩
 · rw[wb_get hw,if_neg (by omega),wa_get hv,if_neg (by omega)]
 · rw[wb_get hw,if_neg (by omega),wa_get hv,if_neg (by omega)]
 · rw[wb_get hw,if_neg (by omega),wa_get hv,if_neg (by omega)]
theorem jdg_b (hv:vsb W=some (n,m,s)) (hL:scn (gi W n m s) m=some L) (hj:jdg W=0∨7 < jdg W):jdg (Wb (Wa W n m L))=0:=by
 obtain⟨_,h1,h2,_,h3⟩:=bounds hv
 have hw:16≤(Wa W n m L).length:=by rw[wa_len];exact h3
 refine Chk.jdg_made (alk_b hv) hv hL hj ?_ ?_
 · refine List.ext_getElem (by rw[Vol.rdw_len,Bm.wds_len]) fun i k1 k2=>?_
   rw[Vol.rdw_len] at k1;rw[Vol.rdw_get,wb_get hw,if_neg (by omega),wa_get hv,if_pos (by omega),Nat.add_sub_cancel_left,List.getElem?_eq_getElem k2];rfl
 · refine List.ext_getElem (by rw[Vol.rdw_len];rfl) fun i k1 k2=>?_
   rw[Vol.rdw_len] at k1;rw[Vol.rdw_get,wb_get hw,if_pos (by omega)];have hz:∀ i,∀ h:i < Rec.zero.length,Rec.zero[i]=0:=by decide
   exact (hz i k2).symm
theorem some_b (hv:vsb W=some (n,m,s)) (hL:scn (gi W n m s) m=some L) (hj:7 < jdg W):0 < (da W n m L).length+(db (Wa W n m L)).length:=by
 refine Nat.pos_of_ne_zero fun e=>?_
 have h1:da W n m L=[]:=List.length_eq_zero_iff.1 (by omega);have h2:db (Wa W n m L)=[]:=List.length_eq_zero_iff.1 (by omega);have h3:=jdg_b hv hL (.inr hj);unfold Wb at h3;rw[h2,Vol.puts_nil] at h3;unfold Wa at h3;rw[h1,Vol.puts_nil] at h3;omega
end
def sb (W:List Nat) (n m:Nat) (L:List Cl):Nat:=(da W n m L).length+(lns (da W n m L)).length+stt (da W n m L).length+((db (Wa W n m L)).length+(lns (db (Wa W n m L))).length+stt (db (Wa W n m L)).length)
end Rcv
end
section
open Lib (hid)
open Go.RowKit Go.MapKept
namespace Rcv
open Vol (Up vsb Hb hb_new Kq)
open Chk (jdg)
section
variable {w : World} {a : Nat}
theorem needs_of (j:Nat) (hJ:∀ w',Below w.heap.size w w'→Calls Tryz.prog 11 #[.pointer (some ⟨a,0,none⟩)] w' fun r w''=>r = .returned (.int .i64 (j:Int))∧Below w'.heap.size w' w'') :
 Calls Tryz.prog 7 #[.pointer (some ⟨a,0,none⟩)] w fun r w'=>r = .returned (.tuple #[.bool (decide (j=8∨j=9)),.int .i64 (if j=0∨j=8∨j=9 then 0 else 2)])∧Below w.heap.size w w':=by
 have HJ:=hid (hJ w (Below.refl _ _));clear hJ;by_cases h0:j=0
 · subst h0
   go_enter Tryz.func7,Tryz.ntmps7
   go_wp2_with fail
   refine HJ.out.mono ?_;rintro r w1 ⟨rfl,hb⟩;have HB:=hid hb;clear hb HJ;go_wp2
   go_ret2
   exact⟨rfl,HB.out⟩
 by_cases h8:j=8
 · subst h8
   go_enter Tryz.func7,Tryz.ntmps7
   go_wp2_with fail
   refine HJ.out.mono ?_;rintro r w1 ⟨rfl,hb⟩;have HB:=hid hb;clear hb HJ h0;go_wp2
   go_ret2
   exact⟨rfl,HB.out⟩
 by_cases h9:j=9
 · subst h9
   go_enter Tryz.func7,Tryz.ntmps7
   go_wp2_with fail
   refine HJ.out.mono ?_;rintro r w1 ⟨rfl,hb⟩;have HB:=hid hb;clear hb HJ h0 h8;go_wp2
   go_ret2
   exact⟨rfl,HB.out⟩
 have e0:((j:Int) == 0)=false:=beq_eq_false_iff_ne.2 (by omega);have e8:((j:Int) == 8)=false:=beq_eq_false_iff_ne.2 (by omega);have e9:((j:Int) == 9)=false:=beq_eq_false_iff_ne.2 (by omega);have n0:¬ (j:Int)=0:=by omega
 have n8:¬ (j:Int)=8:=by omega
 have n9:¬ (j:Int)=9:=by omega
 have HD:=hid (show decide (j=8∨j=9)=false from decide_eq_false (by omega));rw[HD.out,if_neg (by omega)];clear h0 h8 h9;go_enter Tryz.func7,Tryz.ntmps7
 go_wp2_with fail
 refine HJ.out.mono ?_;rintro r w1 ⟨rfl,hb⟩;have HB:=hid hb;clear hb HJ;go_wp2
 go_ret2
 exact⟨rfl,HB.out⟩
abbrev set7 (w:World) (b:Nat) (v0 v1 v2 v3 v4 v5 v6:Value):World:=((((((w.setCell ⟨b,0,none⟩ v0).setCell ⟨b,1,none⟩ v1).setCell ⟨b,2,none⟩ v2).setCell ⟨b,3,none⟩ v3).setCell ⟨b,4,none⟩ v4).setCell ⟨b,5,none⟩ v5).setCell ⟨b,6,none⟩ v6
theorem hb_set7 {b:Nat} {c0 c1 c2 c3 c4 c5 c6:Value} {t:TypeId} (h:Hb w b #[c0,c1,c2,c3,c4,c5,c6] t) (v0 v1 v2 v3 v4 v5 v6:Value):Hb (set7 w b v0 v1 v2 v3 v4 v5 v6) b #[v0,v1,v2,v3,v4,v5,v6] t:=by
 have h7:=((((((h.set 0 v0).set 1 v1).set 2 v2).set 3 v3).set 4 v4).set 5 v5).set 6 v6
 simpa using h7
theorem below_set7 {w0:World} {B b:Nat} (h:Below B w0 w) (hB:B≤b) (v0 v1 v2 v3 v4 v5 v6:Value):Below B w0 (set7 w b v0 v1 v2 v3 v4 v5 v6):=
 ((((((h.setCell (p:=⟨b,0,none⟩) hB v0).setCell (p:=⟨b,1,none⟩) hB v1).setCell (p:=⟨b,2,none⟩) hB v2).setCell (p:=⟨b,3,none⟩) hB v3).setCell (p:=⟨b,4,none⟩) hB v4).setCell (p:=⟨b,5,none⟩) hB v5).setCell (p:=⟨b,6,none⟩) hB v6
theorem kq_set7 {Q:Nat→Prop} {b:Nat} (hb:¬ Q b) (v0 v1 v2 v3 v4 v5 v6:Value):Kq Q w (set7 w b v0 v1 v2 v3 v4 v5 v6):=
 have one:∀ (w:World) (i:Nat) (v:Value),Kq Q w (w.setCell ⟨b,i,none⟩ v):=fun w i v=>{ os:=rfl,tape:=rfl,output:=rfl,size:=by simp[World.setCell],block:=fun k hk hn=>Below.heap_setCell _ _ _ _ (fun e=>hn (fun hq=>hb (by rwa [e] at hq))) }
 ((((((one w 0 v0).trans (one _ 1 v1)).trans (one _ 2 v2)).trans (one _ 3 v3)).trans (one _ 4 v4)).trans (one _ 5 v5)).trans (one _ 6 v6)
theorem recover_of (j:Nat) (hj:¬ (j=8∨j=9)) (hJ:∀ w',Below w.heap.size w w'→Calls Tryz.prog 11 #[.pointer (some ⟨a,0,none⟩)] w' fun r w''=>r = .returned (.int .i64 (j:Int))∧Below w'.heap.size w' w'') :
 Calls Tryz.prog 6 #[.pointer (some ⟨a,0,none⟩)] w fun r w'=>r = .returned (.tuple #[.agg #[.int .i64 0,.int .i64 0,.int .i64 0,.int .i64 0,.int .i64 0,.int .i64 0,.int .i64 0],.int .i64 (if j=0 then 0 else 2)])∧Below w.heap.size w w':=by
 have HN:=hid (fun w' (hb:Below w.heap.size w w')=>needs_of (w:=w') j (fun w'' hb'=>hJ w'' (hb.trans (hb'.mono hb.size))));rw[decide_eq_false hj,show (if j=0∨j=8∨j=9 then (0:Int) else 2)=if j=0 then 0 else 2 from by by_cases h:j=0<;>simp[h]<;>omega] at HN;generalize (if j=0 then (0:Int) else 2)=e at *;have HB0:=hid ((Below.refl w.heap.size w).alloc (Nat.le_refl _) (.cells #[.int .i64 0,.int .i64 0,.int .i64 0,.int .i64 0,.int .i64 0,.int .i64 0,.int .i64 0] 30));have HX:=hid (hb_new w #[.int .i64 0,.int .i64 0,.int .i64 0,.int .i64 0,.int .i64 0,.int .i64 0,.int .i64 0] 30);clear hJ hj;go_enter Tryz.func6,Tryz.ntmps6
 go_wp2_with fail
 refine (HN.out _ HB0.out).mono ?_;rintro r w1 ⟨rfl,hb⟩;have HB:=hid (HB0.out.trans (hb.mono HB0.out.size));have hx:=HX.out.keep hb;have x0:=hx.cell 0;have x1:=hx.cell 1;have x2:=hx.cell 2;have x3:=hx.cell 3;have x4:=hx.cell 4;have x5:=hx.cell 5;have x6:=hx.cell 6;have f0:=hx.frozen 0;have f1:=hx.frozen 1;have f2:=hx.frozen 2;have f3:=hx.frozen 3;have f4:=hx.frozen 4;have f5:=hx.frozen 5;have f6:=hx.frozen 6;have xl:=hx.lt;have HX3:=hid (hb_set7 hx (.int .i64 0) (.int .i64 0) (.int .i64 0) (.int .i64 0) (.int .i64 0) (.int .i64 0) (.int .i64 0));clear hb HN HB0 hx HX;go_wp2
 have y0:=HX3.out.cell 0;have y1:=HX3.out.cell 1;have y2:=HX3.out.cell 2;have y3:=HX3.out.cell 3;have y4:=HX3.out.cell 4;have y5:=HX3.out.cell 5;have y6:=HX3.out.cell 6;refine bodyPost_ret (v:=.tuple #[.agg #[.int .i64 0,.int .i64 0,.int .i64 0,.int .i64 0,.int .i64 0,.int .i64 0,.int .i64 0],.int .i64 e]) ?_ rfl ?_
 · simp[results,Tryz.results6,go_sem,y0,y1,y2,y3,y4,y5,y6]
 exact⟨rfl,below_set7 HB.out (Nat.le_refl _) _ _ _ _ _ _ _⟩
end
end Rcv
end
section
open Lib (hid)
open Go.RowKit Go.MapKept
namespace Vol
def rx (ws:List Nat) (i:Nat):Nat:=if ws.length=0 then 0 else ws[i % ws.length]?.getD 0
def rawW (n m s E:Nat) (ws:List Nat):List Nat:=Sup.sb n m s++(List.range (E - 8)).map fun j=>rx ws (8+j)
theorem rx_lt {ws:List Nat} (h:∀ x∈ws,x < 18446744073709551616) (i:Nat):rx ws i < 18446744073709551616:=by
 unfold rx
 split
 · decide
 · rcases Nat.lt_or_ge (i % ws.length) ws.length with h1 | h1
   · rw[List.getElem?_eq_getElem h1]
     exact h _ (List.getElem_mem h1)
   · rw[List.getElem?_eq_none h1]
     decide
section
variable {n m s sl bm bk E : Nat} {ws : List Nat}
theorem rawW_len (h:Pl n m s sl bm bk E):(rawW n m s E ws).length=E:=by
 unfold rawW;rw[List.length_append,Sup.sb_len,List.length_map,List.length_range]
 have:=h.at
 have:=h.n20
 omega
theorem rawW_u64 (h:Pl n m s sl bm bk E) (hw:∀ x∈ws,x < 18446744073709551616):∀ x∈rawW n m s E ws,x < 18446744073709551616:=by
 intro x hx
 rcases List.mem_append.1 hx with hx | hx
 · exact Sup.sb_u64 (by have:=h.n20;omega) (by have:=h.m20;omega) (by have:=h.s2;omega) x hx
 · obtain⟨j,_,rfl⟩:=List.mem_map.1 hx
   exact rx_lt hw _
theorem rawW_eight:(rawW n m s E ws).take 8=Sup.sb n m s:=by
 unfold rawW;rw[List.take_left' (Sup.sb_len _ _ _)]
theorem rawW_step (h:Pl n m s sl bm bk E) {i:Nat} (h8:8≤i) (hi:i < E):(rawW n m s E ws).take (i+1)=(rawW n m s E ws).take i++[rx ws i]:=by
 have hl:=rawW_len (ws:=ws) h;rw[List.take_succ_eq_append_getElem (by omega)]
 congr 2
 unfold rawW;rw[List.getElem_append_right (by rw[Sup.sb_len];exact h8)];simp only[List.getElem_map,List.getElem_range,Sup.sb_len];rw[show 8+(i - 8)=i by omega]
theorem rawW_read (h:Pl n m s sl bm bk E):rdw (rawW n m s E ws) 0 8=Sup.sb n m s:=by
 rw[rdw_slice (by rw[rawW_len h];have:=h.at;omega),List.drop_zero,rawW_eight]
structure Rl (w:World) (b:Nat) (RC VC WC:Array Value) (wr:World):Prop where
 raw:Hb wr w.heap.size RC 110
 res:Hb wr (w.heap.size+1) VC 102
 vol:Hb wr b WC 102
 below:Below w.heap.size w wr
theorem Rl.keep {w wr w':World} {b:Nat} {RC VC WC:Array Value} (h:Rl w b RC VC WC wr) (hb:Below wr.heap.size wr w'):Rl w b RC VC WC w':=
 ⟨h.raw.keep hb,h.res.keep hb,h.vol.keep hb,h.below.trans (hb.mono h.below.size)⟩
theorem Rl.grown {w wr w':World} {b nn:Nat} {v:Value} {xs:List Value} {RC VC WC:Array Value} (h:Rl w b RC VC WC wr) (ho:wr.ownsRow w.heap.size 50 1 v nn xs) (hg:wr.grownBy w' v.ownBlock):Rl w b RC VC WC w':=
 ⟨hb_grown h.raw hg (hb_apart h.raw ho (by decide)),hb_grown h.res hg (hb_apart h.res ho (by decide)),hb_grown h.vol hg (hb_apart h.vol ho (by decide)),
   h.below.grown hg h.below.size (fun k hk=>Pack.row_base_lt ho hk)⟩
theorem rdev_any (w:World) (x y k:Nat) (hx:x < 256) (hy:y < 256) (hk:k < 256) (A:Option Addr) (c:Nat) (hws:Pack.Wds w A ws) (h:Pl (gn x) (gn y) (gs k) sl bm bk E) :
 Calls Tryz.prog 93 #[.agg #[.int .u8 (x:Int),.int .u8 (y:Int),.int .u8 (k:Int),.slice A ws.length c]] w fun r w'=>
  ∃ a g gc B:Nat,r = .returned (.tuple #[.pointer (some ⟨a,0,none⟩),.agg (dv (gn x) (gn y) (gs k) sl bm bk E (.slice (some ⟨g,0,none⟩) E gc))])∧w.heap.size≤B∧(w.heap.size≤g∧g < B)∧B≤w'.heap.size∧E≤gc ∧
    Up (fun q=>q < B) w' a (rawW (gn x) (gn y) (gs k) E ws) 0 0∧Pack.Wds w' (some ⟨g,0,none⟩) (rawW (gn x) (gn y) (gs k) E ws)∧Below w.heap.size w w':=by
 have HG:=hid (fun w=>rgeo_any w x y k hx hy hk (.slice A ws.length c));have HP:=hid h;have HE:=hid (fun w=>Sup.refEncode_yes w (gn x) (gn y) (gs k) h.may);have HO:=hid (fun w=>refOf_any w h);have HW:=hid hws;have HH:=hid (show x < 256∧y < 256∧k < 256 from ⟨hx,hy,hk⟩)
 obtain⟨n,hn⟩:∃ n,n=gn x:=⟨_,rfl⟩
 obtain⟨m,hm⟩:∃ m,m=gn y:=⟨_,rfl⟩
 obtain⟨s,hs⟩:∃ s,s=gs k:=⟨_,rfl⟩
 rw[← hn,← hm,← hs] at HG HP HE HO ⊢;clear hn hm hs h hx hy hk hws;go_enter Tryz.func93,Tryz.ntmps93
 have HR0:=hid (hb_new w #[.int .u8 (x:Int),.int .u8 (y:Int),.int .u8 (k:Int),.slice A ws.length c] 110);have HB0:=hid ((Below.refl w.heap.size w).alloc (Nat.le_refl _) (.cells #[.int .u8 (x:Int),.int .u8 (y:Int),.int .u8 (k:Int),.slice A ws.length c] 110));have HZ0:=hid (World.size_alloc w (.cells #[.int .u8 (x:Int),.int .u8 (y:Int),.int .u8 (k:Int),.slice A ws.length c] 110));go_wp2_with fail
 generalize w.alloc (.cells #[.int .u8 (x:Int),.int .u8 (y:Int),.int .u8 (k:Int),.slice A ws.length c] 110)=w0 at *;have hb1:=(Below.refl w0.heap.size w0).alloc (Nat.le_refl _) (.cells #[.int .i64 0,.int .i64 0,.int .i64 0,.int .i64 0,.int .i64 0,.int .i64 0,.int .i64 0,.int .i64 0,.slice none 0 0] 102);have hn1:=hb_new w0 #[.int .i64 0,.int .i64 0,.int .i64 0,.int .i64 0,.int .i64 0,.int .i64 0,.int .i64 0,.int .i64 0,.slice none 0 0] 102;rw[HZ0.out] at hn1;have HR1:=hid (HR0.out.keep hb1);have HV1:=hid hn1;have HB1:=hid (HB0.out.trans (hb1.mono HB0.out.size));clear hb1 hn1 HR0 HB0 HZ0;generalize w0.alloc (.cells #[.int .i64 0,.int .i64 0,.int .i64 0,.int .i64 0,.int .i64 0,.int .i64 0,.int .i64 0,.int .i64 0,.slice none 0 0] 102)=w1 at *;clear w0;refine (HG.out _).mono ?_;rintro r w2 ⟨rfl,hb⟩;have HR2:=hid (HR1.out.keep hb);have HV2:=hid (HV1.out.keep hb);have HB2:=hid (HB1.out.trans (hb.mono HB1.out.size));clear hb HR1 HV1 HB1 HG;go_wp2_with fail
 have hb3:=(Below.refl w2.heap.size w2).alloc (Nat.le_refl _) (.cells #[.int .i64 (n:Int),.int .i64 (m:Int),.int .i64 (s:Int)] 72);have HG3:=hid (hb_new w2 #[.int .i64 (n:Int),.int .i64 (m:Int),.int .i64 (s:Int)] 72);have HR3:=hid (HR2.out.keep hb3);have HV3:=hid (HV2.out.keep hb3);have HB3:=hid (HB2.out.trans (hb3.mono HB2.out.size));have hz3:=World.size_alloc w2 (.cells #[.int .i64 (n:Int),.int .i64 (m:Int),.int .i64 (s:Int)] 72);have HL3:=hid (show w.heap.size+1 < w2.heap.size from HV2.out.lt);clear hb3 HR2 HV2 HB2;generalize w2.alloc (.cells #[.int .i64 (n:Int),.int .i64 (m:Int),.int .i64 (s:Int)] 72)=w3 at *;generalize w2.heap.size=b2 at *;clear w2 hz3;refine (HE.out _).mono ?_;rintro r w4 ⟨G,gc,rfl,hwd,hb⟩
 obtain⟨gb,go,rfl,hgl,_⟩:=hwd.at' 0 (by rw[Sup.sb_len];omega)
 have HD4:=hid hwd;have HG4:=hid (HG3.out.keep hb);have HR4:=hid (HR3.out.keep hb);have HV4:=hid (HV3.out.keep hb);have HB4:=hid (HB3.out.trans (hb.mono HB3.out.size));clear hwd hb HG3 HR3 HV3 HB3 HE;have q0:=HG4.out.cell 0;have q1:=HG4.out.cell 1;have q2:=HG4.out.cell 2;go_wp2_with fail
 refine (HO.out _).mono ?_;rintro r w5 ⟨rfl,hb⟩;clear q0 q1 q2;have hb5:=hb.alloc hb.size (.cells (dv n m s sl bm bk E (.slice none 0 0)) 102);have HW5:=hid (hb_new w5 (dv n m s sl bm bk E (.slice none 0 0)) 102);have HZ5:=hid (World.size_alloc w5 (.cells (dv n m s sl bm bk E (.slice none 0 0)) 102));have HS5:=hid hb.size;have HD5:=hid (HD4.out.keep hb5);have HR5:=hid (HR4.out.keep hb5);have HV5:=hid (HV4.out.keep hb5);have HB5:=hid (HB4.out.trans (hb5.mono HB4.out.size));have HL4:=hid (show w.heap.size+1 < w4.heap.size from HV4.out.lt);clear hb hb5 HG4 HR4 HV4 HB4 HO HD4 hgl;unfold dv at HD5 HR5 HV5 HB5 HW5 HZ5 ⊢
 obtain⟨i1,hi1,hy0,hy1,hy2⟩:=info_parts Pack.u64_info
 have hown6:((w5.alloc (.cells #[.int .i64 (n:Int),.int .i64 (m:Int),.int .i64 (s:Int),.int .i64 16,.int .i64 (sl:Int),.int .i64 (bm:Int),.int .i64 (bk:Int),.int .i64 (E:Int),.slice none 0 0] 102)).alloc (.cells #[] 50)).ownsRow w.heap.size 50 1 (.slice (some ⟨w5.heap.size+1,0,none⟩) 0 0) 0 []:=by
  have h1:=HL4.out;have h2:=HS5.out
  refine⟨by simp,.inr ⟨w5.heap.size+1,0,#[],rfl,by omega,?_,Nat.le_refl _,by unfold maxLen;omega,rfl,rfl⟩⟩
  have:=(heap_alloc (w5.alloc (.cells #[.int .i64 (n:Int),.int .i64 (m:Int),.int .i64 (s:Int),.int .i64 16,.int .i64 (sl:Int),.int .i64 (bm:Int),.int .i64 (bk:Int),.int .i64 (E:Int),.slice none 0 0] 102)) (.cells #[] 50)).1
  rw[HZ5.out] at this;exact this
 have HO6:=hid hown6;have hcell6:=Bm.wds_news (HD5.out.alloc (.cells #[] 50));have HC6:=hid hcell6;have HR6:=hid (HR5.out.keep ((Below.refl _ _).alloc (Nat.le_refl _) (.cells #[] 50)));have HV6:=hid (HV5.out.keep ((Below.refl _ _).alloc (Nat.le_refl _) (.cells #[] 50)));have HW6:=hid (HW5.out.keep ((Below.refl _ _).alloc (Nat.le_refl _) (.cells #[] 50)));have HB6:=hid (HB5.out.alloc HB5.out.size (.cells #[] 50));have HL5:=hid (show w.heap.size+1 < w5.heap.size by have h1:=HL4.out;have h2:=HS5.out;omega);clear hown6 hcell6 HD5 HR5 HV5 HB5 HW5 HZ5 HL4 HS5 HL3
 go_wp2_with (at_builtin
              refine wpList_append_own_at _ rfl (.tmp 30) (.tmp 31) 22 rfl w.heap.size 50 i1 (.int .u64 0) 1 8 Tryz.underlying22 hi1 hy0 hy1 hy2 rfl (by decide) (.slice (some ⟨w5.heap.size+1,0,none⟩) 0 0) 0 [] rfl HO6.out ⟨gb,go,none⟩ 8 gc (Pack.u64s (Sup.sb n m s)) rfl (by simp[Pack.u64s,Sup.sb_len]) HC6.out (Bm.u64s_one _) (by unfold maxLen;omega) (by omega) (by simp;have:=HL5.out;omega) ?_;intro v7 w7 hown7 hgr7 _ hat7
              obtain⟨G7,c7,rfl⟩:=Pack.row_slice hown7
              have HO7:=hid hown7;have HR7:=hid (hb_grown HR6.out hgr7 (by simp only[Value.ownBlock,ne_eq,Option.some.injEq];have:=HL5.out;omega));have HV7:=hid (hb_grown HV6.out hgr7 (by simp only[Value.ownBlock,ne_eq,Option.some.injEq];have:=HL5.out;omega));have HW7:=hid (hb_grown HW6.out hgr7 (by simp only[Value.ownBlock,ne_eq,Option.some.injEq];omega));have HB7:=hid (HB6.out.grown hgr7 (by simp;have:=HL5.out;omega) (fun k hk=>by simp only[Value.ownBlock,Option.some.injEq] at hk;have:=HL5.out;omega));clear hown7 hgr7 hat7 HO6 HC6 HR6 HV6 HW6 HB6)
 generalize hb5:w5.heap.size=b5 at *;have HRL:=hid (show Rl w b5 _ _ _ w7 from ⟨HR7.out,HV7.out,HW7.out,HB7.out⟩);have HLB:=hid HL5.out;clear HR7 HV7 HW7 HB7 HL5 hb5;have hpat:=HP.out.at;have hp20:=HP.out.n20;have HE8:=hid (show 8≤E∧E≤540 by omega);clear hpat hp20
 go_loopw [8,9] (fun v i wr=>∃ (t:Nat) (G:Option Addr) (gc:Nat),8≤t∧t≤E∧i = .int .i64 (t:Int)∧v = .slice G t gc∧wr.ownsRow w.heap.size 50 1 (.slice G t gc) t (Pack.u64s ((rawW n m s E ws).take t))∧Rl w b5 #[.int .u8 (x:Int),.int .u8 (y:Int),.int .u8 (k:Int),.slice A ws.length c] #[.int .i64 0,.int .i64 0,.int .i64 0,.int .i64 0,.int .i64 0,.int .i64 0,.int .i64 0,.int .i64 0,.slice none 0 0] #[.int .i64 (n:Int),.int .i64 (m:Int),.int .i64 (s:Int),.int .i64 16,.int .i64 (sl:Int),.int .i64 (bm:Int),.int .i64 (bk:Int),.int .i64 (E:Int),.slice none 0 0] wr) (fun _ i _=>E - (intOf i).toNat)
 case atStart=>exact⟨8,G7,c7,Nat.le_refl _,HE8.out.1,rfl,rfl,by rw[rawW_eight];simpa using HO7.out,HRL.out⟩
 case round=>
  obtain⟨t,G,gc',ht8,htE,rfl,rfl,hown,hrl⟩:=hrel
  have HOW:=hid hown;have HS:=hid hrl;clear HRL hown hrl HO7;have v7:=HS.out.vol.cell 7;have r3:=HS.out.raw.cell 3;by_cases hlt:t < E
  · have HST:=hid (rawW_step (ws:=ws) HP.out ht8 hlt)
    have hxl:=rx_lt HW.out.u64 t;have hsz:=HS.out.below.size;have hE:=HE8.out.2;have hi2:(t:Int) < (E:Int):=by omega
    by_cases hw0:ws.length=0
    · have hx0:rx ws t=0:=by unfold rx;rw[if_pos hw0]
      rw[hx0] at HST;have HO:=hid (HOW.out.alloc (.cells #[.int .u64 0] 50));have HB:=hid (HS.out.keep ((Below.refl _ _).alloc (Nat.le_refl _) (.cells #[.int .u64 0] 50)));have hg0:decide (0 < ws.length)=false:=by simp[hw0]
      clear hxl hx0 hw0
      go_wp2_with (at_builtin
                   refine wpList_append_own_at _ rfl (.tmp 55) (.tmp 57) 22 rfl w.heap.size 50 i1 (.int .u64 0) 1 8 Tryz.underlying22 hi1 hy0 hy1 hy2 rfl (by decide) (.slice G t gc') t (Pack.u64s ((rawW n m s E ws).take t)) rfl HO.out ⟨wr.heap.size,0,none⟩ 1 1 [.int .u64 0] rfl rfl (cell_one_new _ _ _) (by simp[Value.oneCell']) (by unfold maxLen;omega) (by omega) (by simp;omega) ?_;intro v' w9 hown9 hgr9 _ hat9
                   obtain⟨G9,c9,rfl⟩:=Pack.row_slice hown9
                   have HO9:=hid hown9;have HB9:=hid (HB.out.grown HO.out hgr9);clear hown9 hgr9 hat9)
      go_roundw
      case rel=>
       refine⟨t+1,G9,c9,by omega,by omega,by go_num,rfl,?_,HB9.out⟩
       rw[HST.out];unfold Pack.u64s;rw[List.map_append];exact HO9.out
      case measure=>simp[intOf];omega
    · obtain⟨q,hq⟩:∃ q,q=t % ws.length:=⟨_,rfl⟩
      have hql:q < ws.length:=by rw[hq];exact Nat.mod_lt _ (by omega)
      have hx0:rx ws t=ws[q]:=by unfold rx;rw[if_neg hw0,← hq,List.getElem?_eq_getElem hql];rfl
      obtain⟨ab,ao,rfl,hab,hac⟩:=HW.out.at' q hql
      have hac:=(HS.out.below.cell (p:=⟨ab,ao+q,none⟩) hab).trans hac;have hqi:(t:Int) % (ws.length:Int)=(q:Int):=by rw[hq];simp
      have hg0:decide (0 < ws.length)=true:=by simp;omega
      have hg1:(0:Int) < (ws.length:Int):=by omega
      have hne:((ws.length:Int) == 0)=false:=beq_eq_false_iff_ne.2 (by omega);have hq0:(0:Int)≤(q:Int):=by omega
      have hq1:(q:Int) < (ws.length:Int):=by omega
      rw[hx0] at HST;generalize ws[q]=z at *;have HO:=hid (show (wr.alloc (.cells #[.int .u64 (z:Int)] 50)).drew.ownsRow w.heap.size 50 1 (.slice G t gc') t (Pack.u64s ((rawW n m s E ws).take t)) from HOW.out.alloc (.cells #[.int .u64 (z:Int)] 50));have hbd:=(Below.refl wr.heap.size wr).alloc (Nat.le_refl _) (.cells #[.int .u64 (z:Int)] 50);have HB:=hid (HS.out.keep (show Below wr.heap.size wr (wr.alloc (.cells #[.int .u64 (z:Int)] 50)).drew from ⟨hbd.os,hbd.tape,hbd.output,hbd.size,hbd.block⟩));clear hbd;clear hxl hx0 hq hw0;go_wp2_with fail
      go_region
      go_wp2_with (at_builtin
                   refine wpList_append_own_at _ rfl (.tmp 55) (.tmp 57) 22 rfl w.heap.size 50 i1 (.int .u64 0) 1 8 Tryz.underlying22 hi1 hy0 hy1 hy2 rfl (by decide) (.slice G t gc') t (Pack.u64s ((rawW n m s E ws).take t)) rfl HO.out ⟨wr.heap.size,0,none⟩ 1 1 [.int .u64 (z:Int)] rfl rfl (show ∀ j u,_→(wr.alloc (.cells #[.int .u64 (z:Int)] 50)).drew.cell? _=some u from cell_one_new wr _ _) (by simp[Value.oneCell']) (by unfold maxLen;omega) (by omega) (by simp;omega) ?_;intro v' w9 hown9 hgr9 _ hat9
                   obtain⟨G9,c9,rfl⟩:=Pack.row_slice hown9
                   have HO9:=hid hown9;have HB9:=hid (HB.out.grown HO.out hgr9);clear hown9 hgr9 hat9)
      go_roundw
      case rel=>
       refine⟨t+1,G9,c9,by omega,by omega,by go_num,rfl,?_,HB9.out⟩
       rw[HST.out];unfold Pack.u64s;rw[List.map_append];exact HO9.out
      case measure=>simp[intOf];omega
  · obtain rfl:t=E:=by omega
    have hlen:=rawW_len (ws:=ws) HP.out;have hE:=HE8.out.2;rw[List.take_of_length_le (by rw[hlen];exact Nat.le_refl _)] at HOW
    obtain⟨g,gc2,hsl⟩:=Pm.row_form HOW.out (by omega)
    injection hsl with h1 h2 h3
    subst h1 h3;have hwd:=Pack.own_wds HOW.out (rawW_u64 HP.out HW.out.u64) (by omega);have hcap:=Pack.row_cap HOW.out;have hg:=Pack.row_base_lt HOW.out (g:=g) rfl
    obtain⟨g2,he2,hgl,_⟩:=Pack.own_cells HOW.out 0 (by omega)
    injection he2 with he2
    injection he2 with he2
    subst he2;have hgb:g≠b5:=fun e=>hb_apart HS.out.vol HOW.out (by decide) (by rw[e];rfl)
    have hvf:=HS.out.vol.frozen 8;have v8:=HS.out.vol.cell 8;have HV:=hid (HS.out.vol.set 8 (.slice (some ⟨g,0,none⟩) t gc'));have hbl:=HS.out.vol.lt;have hwd2:=wds_block (w':=wr.setCell ⟨b5,8,none⟩ (.slice (some ⟨g,0,none⟩) t gc')) hwd (Below.heap_setCell _ _ _ _ hgb)
    have HOF:=hid (fun (W:World) (e:W.heap=(wr.setCell ⟨b5,8,none⟩ (.slice (some ⟨g,0,none⟩) t gc')).heap)=>show Calls Tryz.prog 5 #[.slice (some ⟨g,0,none⟩) t gc'] W _ from by
     have hof:=of_any (w:=W) g gc' _ (wds_block hwd2 (by rw[e])) (by rw[e];simpa [World.setCell] using hgl) (by rw[hlen];exact hcap) (by rw[hlen];omega) (by rw[hlen];omega);rw[hlen] at hof;exact hof)
    have HWD:=hid hwd2;have hszz:(wr.setCell ⟨b5,8,none⟩ (.slice (some ⟨g,0,none⟩) t gc')).heap.size=wr.heap.size:=by simp[World.setCell]
    have HRS:=hid (HS.out.res.far (p:=⟨b5,8,none⟩) (by show w.heap.size+1≠b5;have:=HLB.out;omega) (.slice (some ⟨g,0,none⟩) t gc'));have HBL:=hid (HS.out.below.setCell (p:=⟨b5,8,none⟩) (by show w.heap.size≤b5;have:=HLB.out;omega) (.slice (some ⟨g,0,none⟩) t gc'));have HGS:=hid hgl;have HGB:=hid (show w.heap.size≤g∧g≠w.heap.size+1 from ⟨hg,fun e=>hb_apart HS.out.res HOW.out (by decide) (by rw[e];rfl)⟩);have HCP:=hid hcap;clear hwd2 hwd hcap hg hgl hgb hlen;go_wp2_with fail
    generalize hW2:wr.setCell ⟨b5,8,none⟩ (.slice (some ⟨g,0,none⟩) t gc')=w2 at *;clear hW2;have v0:=HV.out.cell 0;have v1:=HV.out.cell 1;have v2:=HV.out.cell 2;have v3:=HV.out.cell 3;have v4:=HV.out.cell 4;have v5:=HV.out.cell 5;have v6:=HV.out.cell 6;have v7':=HV.out.cell 7;have v8':=HV.out.cell 8;clear v7 r3 v8 hvf;have hne1:¬ b5=w.heap.size+1:=by have:=HLB.out;omega
    have hne2:¬ w.heap.size+1=b5:=by have:=HLB.out;omega
    go_region_held3 (fun W'=>W'.cell? ⟨b5,0,none⟩=some (.int .i64 (n:Int))∧W'.cell? ⟨b5,1,none⟩=some (.int .i64 (m:Int))∧W'.cell? ⟨b5,2,none⟩=some (.int .i64 (s:Int))∧W'.cell? ⟨b5,3,none⟩=some (.int .i64 16)∧W'.cell? ⟨b5,4,none⟩=some (.int .i64 (sl:Int))∧W'.cell? ⟨b5,5,none⟩=some (.int .i64 (bm:Int))∧W'.cell? ⟨b5,6,none⟩=some (.int .i64 (bk:Int))∧W'.cell? ⟨b5,7,none⟩=some (.int .i64 (t:Int))∧W'.cell? ⟨b5,8,none⟩=some (.slice (some ⟨g,0,none⟩) t gc')) (go_keep)
     (first
     | (go_at_call 5
        with_reducible refine (HOF.out w2.drew rfl).mono ?_
        rintro r w8 ⟨a,rfl,hup,hb⟩;have HU:=hid hup;have HB8:=hid hb;have hbk:=hb.size;have HV8:=hid ((show Hb w2.drew b5 _ _ from HV.out).keep hb);have HR8:=hid ((show Hb w2.drew (w.heap.size+1) _ _ from HRS.out).keep hb);clear hup hb;have c0:=HV8.out.cell 0;have c1:=HV8.out.cell 1;have c2:=HV8.out.cell 2;have c3:=HV8.out.cell 3;have c4:=HV8.out.cell 4;have c5:=HV8.out.cell 5;have c6:=HV8.out.cell 6;have c7':=HV8.out.cell 7;have c8:=HV8.out.cell 8;have d0:=HR8.out.cell 0;have d1:=HR8.out.cell 1;have d2:=HR8.out.cell 2;have d3:=HR8.out.cell 3;have d4:=HR8.out.cell 4;have d5:=HR8.out.cell 5;have d6:=HR8.out.cell 6;have d7:=HR8.out.cell 7;have d8:=HR8.out.cell 8;have f0:=HR8.out.frozen 0;have f1:=HR8.out.frozen 1;have f2:=HR8.out.frozen 2;have f3:=HR8.out.frozen 3;have f4:=HR8.out.frozen 4;have f5:=HR8.out.frozen 5;have f6:=HR8.out.frozen 6;have f7:=HR8.out.frozen 7;have f8:=HR8.out.frozen 8;have hvl:=HV8.out.lt;have hrl:=HR8.out.lt))
    go_wp2
    have hdr:w2.drew.heap.size=w2.heap.size:=rfl;have hq1:w.heap.size+1 < w2.drew.heap.size:=by rw[hdr];have:=HRS.out.lt;omega
    have hg1:=HGB.out;have hg2:=HGS.out;refine bodyPost_ret (v:=.tuple #[.pointer (some ⟨a,0,none⟩),.agg (dv n m s sl bm bk t (.slice (some ⟨g,0,none⟩) t gc'))]) ?_ rfl ⟨a,g,gc',w2.drew.heap.size,rfl,by omega,⟨hg1.1,by omega⟩,?_,HCP.out,?_,?_,?_⟩
    · unfold dv
      simp[results,Tryz.results93,go_sem,d0,d1,d2,d3,d4,d5,d6,d7,d8]
    · simpa [World.setCell] using hbk
    · iterate 9 refine Upf.put ?_ hq1 _
      exact HU.out
    · iterate 9 refine wds_block ?_ (Below.heap_setCell _ _ _ _ hg1.2)
      exact HWD.out.keep (show Below w2.heap.size w2 w8 from ⟨HB8.out.os,HB8.out.tape,HB8.out.output,HB8.out.size,HB8.out.block⟩)
    · iterate 9 refine Below.setCell ?_ (Nat.le_succ _) _
      exact HBL.out.trans ((show Below w2.heap.size w2 w8 from ⟨HB8.out.os,HB8.out.tape,HB8.out.output,HB8.out.size,HB8.out.block⟩).mono HBL.out.size)
end
end Vol
end
section
open Go.RowKit Go.MapKept
namespace Ino
open Lin
theorem may_iff {k h s:Int}:may k h s=true↔May k h s:=decide_eq_true_iff
theorem ret_bool {a b:Bool} (h:a=true↔b=true):Ending.returned (Value.bool a)=Ending.returned (Value.bool b):=by rw[Bool.eq_iff_iff.2 h]
theorem refMay_any (w:World) (k h s:Int) :
 Calls Tryz.prog 247 #[.agg #[.int .i64 k,.int .i64 h,.int .i64 s]] w fun r w'=>r = .returned (.bool (may k h s))∧Below w.heap.size w w':=by
 by_cases h0:k=0
 · subst h0
   go_enter Tryz.func247,Tryz.ntmps247
   go_wp2
   all_goals go_ret
   all_goals refine⟨ret_bool ?_,(Below.refl _ _).alloc (Nat.le_refl _) _⟩
   all_goals refine Iff.trans ?_ may_iff.symm
   all_goals unfold May
   · rw[beq_iff_eq]
     omega
   · simp only[Bool.false_eq_true,false_iff]
     omega
 · go_enter Tryz.func247,Tryz.ntmps247
   go_wp2
   all_goals go_ret
   all_goals refine⟨ret_bool ?_,(Below.refl _ _).alloc (Nat.le_refl _) _⟩
   all_goals refine Iff.trans ?_ may_iff.symm
   all_goals unfold May
   all_goals simp only[bne_iff_ne,bne_eq_false_iff_eq,ne_eq,beq_iff_eq,decide_eq_true_eq,Bool.false_eq_true,true_iff,false_iff] at *
   all_goals omega
end Ino
end
end Go.Proofs.YtlodpaaanfjkeaaGreatDoor
