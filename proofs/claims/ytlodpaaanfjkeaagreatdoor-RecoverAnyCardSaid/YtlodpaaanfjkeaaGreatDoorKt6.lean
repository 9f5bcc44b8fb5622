/- Texts laid together: InoMay, ClmTell, ClmChain, InoEncode, LinEqual, InoDecode, VolInode, VolBlock, FldBytes, EntMath, EntRight, EntMay, EntPut, EntEncode. -/
import Derived.Test.YtlodpaaanfjkeaaGreatDoorKt4
import Derived.Test.YtlodpaaanfjkeaaGreatDoorKt5
import Derived.Test.YtlodpaaanfjkeaaGreatDoorKt2
import Derived.Laws.CopyRow
import Derived.Test.YtlodpaaanfjkeaaGreatDoorKt1
import Derived.Deep.OwnRows
import Derived.Deep.RegionHeld3
import Derived.BigCall
import Derived.RegionTactic
import Derived.ChangeAlike
import Derived.Lib.LazyBuf
import Derived.Laws.MakeOwn
set_option maxRecDepth 100000
set_option maxHeartbeats 4000000
namespace Go.Proofs.YtlodpaaanfjkeaaGreatDoor
section
open Lib (hid)
open Go.RowKit Go.MapKept
namespace Ino
open Lin
theorem none_any (w:World):Calls Tryz.prog 78 #[] w fun r w'=>r = .returned (.agg #[.int .i64 0,.int .i64 (-1),.int .i64 0])∧Below w.heap.size w w':=by
 go_enter Tryz.func78,Tryz.ntmps78
 go_wp2
 refine bodyPost_ret (v:=.agg #[.int .i64 0,.int .i64 (-1),.int .i64 0]) ?_ rfl ⟨rfl,?_⟩
 · simp[results,Tryz.results78,go_sem]
 · first
   | exact (Below.refl _ _).alloc (Nat.le_refl _) _
   | exact ((((Below.refl _ _).alloc (Nat.le_refl _) _).setCell (by simp) _).setCell (by simp) _).setCell (by simp) _
theorem within_any (w:World) (n a b:Int) :
 Calls Tryz.prog 253 #[.int .i64 n,.int .i64 a,.int .i64 b] w fun e w'=>e = .returned (.bool (decide (a≤n∧n≤b)))∧w=w':=by
 go_enter Tryz.func253,Tryz.ntmps253
 go_wp2
 · rename_i h
   go_ret
   exact⟨by simp[h],rfl⟩
 · rename_i h
   go_ret
   refine⟨?_,rfl⟩
   have:¬ a≤n:=by omega
   simp[this]
theorem place_any (w:World) (k h s:Int) :
 Calls Tryz.prog 239 #[.agg #[.int .i64 k,.int .i64 h,.int .i64 s]] w fun r w'=>r = .returned (.bool (plc h s))∧Below w.heap.size w w':=by
 have HB:=hid ((Below.refl w.heap.size w).alloc (Nat.le_refl _) (.cells #[.int .i64 k,.int .i64 h,.int .i64 s] 95));have HH:=hid (fun w=>within_any w h (-1) 65533);have HS:=hid (fun w=>within_any w s 0 268435456);by_cases h1:-1≤h∧h≤65533
 · by_cases h2:0≤s∧s≤268435456
   · have HE:=hid (show plc h s=((h == -1) == (s == 0)) by
      unfold plc;rw[Bool.eq_iff_iff];simp only[decide_eq_true_eq,beq_iff_eq];rw[Bool.eq_iff_iff];simp only[beq_iff_eq]
      constructor
      · exact fun h=>h.2.2
      · exact fun h=>⟨h1,h2,h⟩)
     have H1:=hid (decide_eq_true h1);have H2:=hid (decide_eq_true h2);clear h1 h2;go_enter Tryz.func239,Tryz.ntmps239
     go_wp2_with fail
     refine (HH.out _).mono ?_;rintro e w' ⟨rfl,rfl⟩;rw[H1.out];go_wp2_with fail
     refine (HS.out _).mono ?_;rintro e w' ⟨rfl,rfl⟩;rw[H2.out];go_wp2
     go_ret
     exact⟨by rw[HE.out];rfl,HB.out⟩
   · have HE:=hid (show plc h s=false by unfold plc;exact decide_eq_false (fun h=>h2 h.2.1))
     have H1:=hid (decide_eq_true h1);have H2:=hid (decide_eq_false h2);clear h1 h2;go_enter Tryz.func239,Tryz.ntmps239
     go_wp2_with fail
     refine (HH.out _).mono ?_;rintro e w' ⟨rfl,rfl⟩;rw[H1.out];go_wp2_with fail
     refine (HS.out _).mono ?_;rintro e w' ⟨rfl,rfl⟩;rw[H2.out];go_wp2
     go_ret
     exact⟨by rw[HE.out];rfl,HB.out⟩
 · have HE:=hid (show plc h s=false by unfold plc;exact decide_eq_false (fun h=>h1 h.1))
   have H1:=hid (decide_eq_false h1);clear h1;go_enter Tryz.func239,Tryz.ntmps239
   go_wp2_with fail
   refine (HH.out _).mono ?_;rintro e w' ⟨rfl,rfl⟩;rw[H1.out];go_wp2
   go_ret
   exact⟨by rw[HE.out];rfl,HB.out⟩
theorem may_any (w:World) (k h s:Int) :
 Calls Tryz.prog 218 #[.agg #[.int .i64 k,.int .i64 h,.int .i64 s]] w fun r w'=>r = .returned (.bool (may k h s))∧Below w.heap.size w w':=by
 have HB:=hid ((Below.refl w.heap.size w).alloc (Nat.le_refl _) (.cells #[.int .i64 k,.int .i64 h,.int .i64 s] 95));have HX:=hid (boxed w k h s 95);have HN:=hid none_any;have HP:=hid (fun w=>place_any w k h s);by_cases h0:k=0
 · subst h0
   by_cases h1:h = -1
   · subst h1
     by_cases h2:s=0
     · subst h2
       have HE:=hid (show may 0 (-1) 0=true by decide);go_enter Tryz.func218,Tryz.ntmps218
       go_wp2
       generalize w.alloc (.cells #[.int .i64 0,.int .i64 (-1),.int .i64 0] 95)=W at *;have hc0:=HX.out.c0;have hc1:=HX.out.c1;have hc2:=HX.out.c2
       go_region_held3 (fun W'=>W'.cell? ⟨w.heap.size,0,none⟩=some (.int .i64 0)∧W'.cell? ⟨w.heap.size,1,none⟩=some (.int .i64 (-1))∧W'.cell? ⟨w.heap.size,2,none⟩=some (.int .i64 0)) (go_keep)
        (first
        | (go_at_call 78
           with_reducible refine (HN.out _).mono ?_
           rintro e w1 ⟨rfl,hb⟩;have HY:=hid (HX.out.drew.keep hb);have hk0:=HY.out.c0;have hk1:=HY.out.c1;have hk2:=HY.out.c2;have HB1:=hid (HB.out.drew.trans (hb.mono HB.out.drew.size));clear hb))
       go_wp2
       go_ret
       exact⟨by rw[HE.out];rfl,HB1.out⟩
     · have HE:=hid (show may 0 (-1) s=false by unfold may May;exact decide_eq_false (by omega))
       go_enter Tryz.func218,Tryz.ntmps218
       go_wp2
       generalize w.alloc (.cells #[.int .i64 0,.int .i64 (-1),.int .i64 s] 95)=W at *;have hc0:=HX.out.c0;have hc1:=HX.out.c1;have hc2:=HX.out.c2
       go_region_held3 (fun W'=>W'.cell? ⟨w.heap.size,0,none⟩=some (.int .i64 0)∧W'.cell? ⟨w.heap.size,1,none⟩=some (.int .i64 (-1))∧W'.cell? ⟨w.heap.size,2,none⟩=some (.int .i64 s)) (go_keep)
        (first
        | (go_at_call 78
           with_reducible refine (HN.out _).mono ?_
           rintro e w1 ⟨rfl,hb⟩;have HY:=hid (HX.out.drew.keep hb);have hk0:=HY.out.c0;have hk1:=HY.out.c1;have hk2:=HY.out.c2;have HB1:=hid (HB.out.drew.trans (hb.mono HB.out.drew.size));clear hb))
       go_wp2
       go_ret
       exact⟨by rw[HE.out];rfl,HB1.out⟩
   · have HE:=hid (show may 0 h s=false by unfold may May;exact decide_eq_false (by omega))
     go_enter Tryz.func218,Tryz.ntmps218
     go_wp2
     generalize w.alloc (.cells #[.int .i64 0,.int .i64 h,.int .i64 s] 95)=W at *;have hc0:=HX.out.c0;have hc1:=HX.out.c1;have hc2:=HX.out.c2
     go_region_held3 (fun W'=>W'.cell? ⟨w.heap.size,0,none⟩=some (.int .i64 0)∧W'.cell? ⟨w.heap.size,1,none⟩=some (.int .i64 h)∧W'.cell? ⟨w.heap.size,2,none⟩=some (.int .i64 s)) (go_keep)
      (first
      | (go_at_call 78
         with_reducible refine (HN.out _).mono ?_
         rintro e w1 ⟨rfl,hb⟩;have HY:=hid (HX.out.drew.keep hb);have hk0:=HY.out.c0;have hk1:=HY.out.c1;have hk2:=HY.out.c2;have HB1:=hid (HB.out.drew.trans (hb.mono HB.out.drew.size));clear hb))
     go_wp2
     go_ret
     exact⟨by rw[HE.out];rfl,HB1.out⟩
 · by_cases h1:k=1
   · subst h1
     have HE:=hid (show may 1 h s=plc h s by unfold may May plc;simp);go_enter Tryz.func218,Tryz.ntmps218
     go_wp2_with fail
     refine (HP.out _).mono ?_;rintro e w' ⟨rfl,hb⟩;have HB1:=hid (HB.out.trans (hb.mono HB.out.size));clear hb;go_wp2
     go_ret
     exact⟨by rw[HE.out];rfl,HB1.out⟩
   · by_cases h2:k=2
     · subst h2
       cases hp:plc h s with
       | true=>
         have hs:=of_decide_eq_true (show decide ((-1≤h∧h≤65533)∧(0≤s∧s≤268435456)∧(h = -1↔s=0))=true from hp)
         have HE:=hid (show may 2 h s=(s % 64 == 0) by
          unfold may May;by_cases e:s % 64=0<;>simp[hs,e])
         have HQ:=hid hp;have hs0:0≤s:=hs.2.1.1;have hs1:s≤268435456:=hs.2.1.2;clear hs hp;go_enter Tryz.func218,Tryz.ntmps218
         go_wp2_with fail
         refine (HP.out _).mono ?_;rintro e w1 ⟨rfl,hb⟩;rw[HQ.out];have HB1:=hid (HB.out.trans (hb.mono HB.out.size));have HX1:=hid (HX.out.keep hb);have hc2:=HX1.out.c2;clear hb;go_wp2
         go_ret
         exact⟨by rw[HE.out];rfl,HB1.out⟩
       | false=>
         have HE:=hid (show may 2 h s=false by
          have hs:=of_decide_eq_false (show decide ((-1≤h∧h≤65533)∧(0≤s∧s≤268435456)∧(h = -1↔s=0))=false from hp);unfold may May
          exact decide_eq_false (fun h=>by
           rcases h with h | h
           · exact absurd h.1 (by decide)
           · exact hs h.2))
         have HQ:=hid hp;clear hp;go_enter Tryz.func218,Tryz.ntmps218
         go_wp2_with fail
         refine (HP.out _).mono ?_;rintro e w1 ⟨rfl,hb⟩;rw[HQ.out];have HB1:=hid (HB.out.trans (hb.mono HB.out.size));clear hb;go_wp2
         go_ret
         exact⟨by rw[HE.out];rfl,HB1.out⟩
     · have HE:=hid (show may k h s=false by
        unfold may May
        exact decide_eq_false (fun h=>by
         rcases h with h | h
         · exact h0 h.1
         · rcases h.1 with h | h
           · exact h1 h
           · exact h2 h.1))
       go_enter Tryz.func218,Tryz.ntmps218
       go_wp2
       go_ret
       exact⟨by rw[HE.out];rfl,HB.out⟩
end Ino
end
section
open Lib (hid)
open Go.RowKit Go.MapKept
namespace Clm
open Chn (Pt New Prt slots Mays tot blk blk_len)
open Vol (Vo Hb hb_new)
open Pack (Nts)
section
variable {w : World} {P : Pc} {n m : Nat} {L : List Cl} {N C X : Array Value}
theorem chas_any {fb fs:Nat→Bool} (h:Cr w P n m N C X fb fs) (i:Int):Calls Tryz.prog 77 #[.pointer (some ⟨P.c,0,none⟩),.int .i64 i] w fun r w'=>r = .returned (.bool (decide (0≤i∧i < (m:Int))))∧Below w.heap.size w w':=by
 have c0:=h.claim.cell 0;have cl:=h.lt;clear h;go_enter Tryz.func77,Tryz.ntmps77
 by_cases h0:0≤i
 · by_cases h1:i < (m:Int)
   · go_wp2
     go_ret
     exact⟨by simp[h0,h1],Below.refl _ _⟩
   · go_wp2
     go_ret
     exact⟨by simp[h1],Below.refl _ _⟩
 · go_wp2
   go_ret
   exact⟨by rw[decide_eq_false (show ¬ (0:Int)≤i by omega)];rfl,Below.refl _ _⟩
theorem inode_yes (h:Cq w P n m L N C X) (hL:L.length=m) (i:Nat) (hi:i < L.length):Calls Tryz.prog 39 #[.pointer (some ⟨P.c,0,none⟩),.int .i64 (i:Int)] w fun r w'=>r = .returned (.agg #[.int .i64 (L[i].k:Int),.int .i64 ((L[i].p:Int) - 1),.int .i64 (L[i].z:Int)])∧Below w.heap.size w w':=by
 have hc:=fun w' (hb:Below w.heap.size w w')=>chas_any (h.cr.keep hb) (i:Int)
 have H:=hid h
 obtain⟨k0,k1,k2⟩:=h.nod i hi
 have hm:i < m:=by omega
 clear h hL;generalize L[i]=c at *
 obtain⟨ck,cp,cz,cl⟩:=c
 simp only at k0 k1 k2 ⊢;generalize (cp:Int) - 1=hd at *;have hdec:decide ((0:Int)≤(i:Int)∧(i:Int) < (m:Int))=true:=decide_eq_true (by omega);rw[hdec] at hc;have HC:=hid hc;clear hdec hc;have HX:=hid (hb_new w #[.int .i64 0,.int .i64 0,.int .i64 0] 95);have HB0:=hid ((Below.refl w.heap.size w).alloc (Nat.le_refl _) (.cells #[.int .i64 0,.int .i64 0,.int .i64 0] 95));go_enter Tryz.func39,Tryz.ntmps39
 go_wp2_with fail
 generalize w.alloc (.cells #[.int .i64 0,.int .i64 0,.int .i64 0] 95)=w0 at *;refine (HC.out _ HB0.out).mono ?_;rintro r w1 ⟨rfl,hb⟩;have HB:=hid (HB0.out.trans (hb.mono HB0.out.size));have hx:=HX.out.keep hb;have h1:=H.out.keep HB.out;have c0:=h1.cr.claim.cell 0;have cl':=h1.cr.lt;have n0:=(h1.cr.nodes.cell (i * 3)).trans k0;have n1:=(h1.cr.nodes.cell (i * 3+1)).trans k1;have n2:=(h1.cr.nodes.cell (i * 3+2)).trans k2;have nl:=h1.cr.nodes.lt;have x0:=hx.cell 0;have x1:=hx.cell 1;have x2:=hx.cell 2;have f0:=hx.frozen 0;have f1:=hx.frozen 1;have f2:=hx.frozen 2;have xl:=hx.lt;clear hb h1 HC hx;go_wp2
 refine bodyPost_ret (v:=.agg #[.int .i64 (ck:Int),.int .i64 hd,.int .i64 (cz:Int)]) ?_ rfl ⟨rfl,?_⟩
 · simp[results,Tryz.results39,go_sem,x0,x1,x2]
 · exact ((HB.out.setCell (p:=⟨w.heap.size,0,none⟩) (Nat.le_refl _) _).setCell (p:=⟨w.heap.size,1,none⟩) (Nat.le_refl _) _).setCell (p:=⟨w.heap.size,2,none⟩) (Nat.le_refl _) _
theorem inode_no (h:Cq w P n m L N C X) (i:Int) (hi:i < 0∨(m:Int)≤i):Calls Tryz.prog 39 #[.pointer (some ⟨P.c,0,none⟩),.int .i64 i] w fun r w'=>r = .returned (.agg #[.int .i64 0,.int .i64 (-1),.int .i64 0])∧Below w.heap.size w w':=by
 have hc:=fun w' (hb:Below w.heap.size w w')=>chas_any (h.cr.keep hb) i
 have HN:=hid (fun w=>Ino.none_any w);have hdec:decide ((0:Int)≤i∧i < (m:Int))=false:=decide_eq_false (by omega);rw[hdec] at hc;have HC:=hid hc;clear hdec h hi hc;have HX:=hid (hb_new w #[.int .i64 0,.int .i64 0,.int .i64 0] 95);have HB0:=hid ((Below.refl w.heap.size w).alloc (Nat.le_refl _) (.cells #[.int .i64 0,.int .i64 0,.int .i64 0] 95));go_enter Tryz.func39,Tryz.ntmps39
 go_wp2_with fail
 generalize w.alloc (.cells #[.int .i64 0,.int .i64 0,.int .i64 0] 95)=w0 at *;refine (HC.out _ HB0.out).mono ?_;rintro r w1 ⟨rfl,hb⟩;have HB:=hid (HB0.out.trans (hb.mono HB0.out.size));have HX1:=hid (HX.out.keep hb);clear hb HC;go_wp2_with fail
 refine (HN.out _).mono ?_;rintro r w2 ⟨rfl,hb⟩;have HB2:=hid (HB.out.trans (hb.mono HB.out.size));have hx:=HX1.out.keep hb;have x0:=hx.cell 0;have x1:=hx.cell 1;have x2:=hx.cell 2;have f0:=hx.frozen 0;have f1:=hx.frozen 1;have f2:=hx.frozen 2;have xl:=hx.lt;clear hb HB hx;go_wp2
 refine bodyPost_ret (v:=.agg #[.int .i64 0,.int .i64 (-1),.int .i64 0]) ?_ rfl ⟨rfl,?_⟩
 · simp[results,Tryz.results39,go_sem,x0,x1,x2]
 · exact ((HB2.out.setCell (p:=⟨w.heap.size,0,none⟩) (Nat.le_refl _) _).setCell (p:=⟨w.heap.size,1,none⟩) (Nat.le_refl _) _).setCell (p:=⟨w.heap.size,2,none⟩) (Nat.le_refl _) _
theorem drewN_below (w:World) (k:Nat):Below w.heap.size w (w.drewN k):=⟨rfl,rfl,rfl,Nat.le_refl _,fun _ _=>rfl⟩
theorem cblocks_any (h:Cq w P n m L N C X):Calls Tryz.prog 20 #[.pointer (some ⟨P.c,0,none⟩)] w (Bm.Cpy w ((n+63) / 64) n (ins (bl L))):=by
 have HH:=hid (Bm.copy_any h.cr.bm);have c2:=h.cr.claim.cell 2;have cl:=h.cr.lt;clear h;go_enter Tryz.func20,Tryz.ntmps20
 go_wp2_with fail
 refine HH.out.mono ?_;rintro r w1 ⟨p,q,C',rfl,k⟩;go_wp2
 go_ret
 exact⟨p,q,C',rfl,k⟩
theorem cslots_any (h:Cq w P n m L N C X):Calls Tryz.prog 89 #[.pointer (some ⟨P.c,0,none⟩)] w (Bm.Cpy w ((n+63) / 64) n (ins (sl L))):=by
 have HH:=hid (Bm.copy_any h.cr.sm);have c2:=h.cr.claim.cell 3;have cl:=h.cr.lt;clear h;go_enter Tryz.func89,Tryz.ntmps89
 go_wp2_with fail
 refine HH.out.mono ?_;rintro r w1 ⟨p,q,C',rfl,k⟩;go_wp2
 go_ret
 exact⟨p,q,C',rfl,k⟩
end
end Clm
end
section
open Lib (hid)
open Go.RowKit Go.MapKept
namespace Clm
open Chn (Pt New Prt slots slots_len pcells pcells_len pcells_get Mays tot blk blk_len part_info own_keep3)
open Vol (Vo Hb hb_new hb_grown)
open Pack (Nts int_info i64s)
theorem nts_news {W:World} {ad:Addr} {l:List Int} (h:Nts W (some ad) l):∀ j u,(i64s l)[j]? = some u→W.cell? (ad.add j)=some u:=by
 intro j u hu
 have hj:j < l.length:=by
  have:=(List.getElem?_eq_some_iff.1 hu).1
  simpa [i64s] using this
 obtain⟨b,o,e,_,hc⟩:=h.at' j hj
 injection e with e
 subst e;rw[Go.WideShapes.add_plain,hc,← hu];simp[i64s,List.getElem?_eq_getElem hj]
theorem i64s_one (l:List Int):∀ u∈i64s l,u.oneCell'=true:=by
 intro u hu
 obtain⟨x,_,rfl⟩:=List.mem_map.1 hu
 rfl
theorem prt_news {W:World} {ad:Addr} {l:List Pt} (h:Prt W (some ad) l):∀ j u,(pcells l)[j]? = some u→W.cell? (ad.add j)=some u:=by
 intro j u hu
 have hj:j < l.length * 3:=by
  have:=(List.getElem?_eq_some_iff.1 hu).1
  rwa [pcells_len] at this
 have hq:j / 3 < l.length:=by omega
 obtain⟨b,o,e,_,hc0,hc1,hc2⟩:=h.at' (j / 3) hq
 injection e with e
 subst e;rw[Go.WideShapes.add_plain]
 obtain⟨g0,g1,g2⟩:=pcells_get hq
 have hr:j % 3=0∨j % 3=1∨j % 3=2:=by omega
 rcases hr with hr | hr | hr
 · have e:j=j / 3 * 3:=by omega
   rw[← e] at g0;rw[hu] at g0;rw[e,hc0,g0]
 · have e:j=j / 3 * 3+1:=by omega
   rw[← e] at g1;rw[hu] at g1;rw[e,← Nat.add_assoc,hc1,g1]
 · have e:j=j / 3 * 3+2:=by omega
   rw[← e] at g2;rw[hu] at g2;rw[e,← Nat.add_assoc,hc2,g2]
theorem pcells_one (l:List Pt):∀ u∈pcells l,u.oneCell'=true:=by
 intro u hu
 obtain⟨x,_,hx⟩:=List.mem_flatMap.1 hu
 simp only[List.mem_cons,List.not_mem_nil,or_false] at hx
 rcases hx with rfl | rfl | rfl<;>rfl
def Cln (w:World) (t:TypeId) (s n:Nat) (xs:List Value) (e:Ending) (w':World):Prop:=
 ∃ (G:Option Addr) (gc:Nat),e = .returned (.slice G n gc)∧w'.ownsRow w.heap.size t s (.slice G n gc) n xs∧Below w.heap.size w w'
theorem clone_ints (w:World) (A:Option Addr) (c:Nat) (l:List Int) (h:Nts w A l) (hl:l.length≤1000000) :
 Calls Tryz.prog 158 #[.slice A l.length c] w (Cln w 3 1 l.length (i64s l)):=by
 have q40:∀ (w:World) (a:Option Addr) (n c n' c':Nat),(binOp .eql 40 (.slice a n c) (.slice none n' c')).run Tryz.prog w = .ok (.bool a.isNone) w:=fun w a n c n' c'=>Lib.run_eql_slice_nil w _ _ a n c n' c' Tryz.underlying40
 cases A with
 | none=>
   have hl0:l=[]:=by
    cases l with
    | nil=>rfl
    | cons b l=>
      obtain⟨_,_,e,_⟩:=h.at' 0 (by simp)
      cases e
   subst hl0;clear h;go_enter Tryz.func158,Tryz.ntmps158
   go_wp2
   go_ret
   exact⟨none,0,rfl,World.ownsRow_nil ..,Below.refl _ _⟩
 | some ad=>
   obtain⟨i0,hi0,hz0,hz1,hz2⟩:=info_parts int_info
   have hown:(w.alloc (.cells #[] 3)).ownsRow w.heap.size 3 1 (.slice (some ⟨w.heap.size,0,none⟩) 0 0) 0 []:=World.ownsRow_made w #[] 0 (Nat.le_refl _) (by unfold maxLen;omega) rfl;have hb:=(Below.refl w.heap.size w).alloc (Nat.le_refl _) (.cells #[] 3);have HNS:=hid (nts_news (h.keep hb));have HB:=hid hb;have HO:=hid hown;clear h hown hb;go_enter Tryz.func158,Tryz.ntmps158
   go_wp2_with (at_builtin
                refine wpList_append_own_at _ rfl (.tmp 5) (.tmp 6) 40 rfl w.heap.size 3 i0 (.int .i64 0) 1 8 Tryz.underlying40 hi0 hz0 hz1 hz2 rfl (by decide) (.slice (some ⟨w.heap.size,0,none⟩) 0 0) 0 [] rfl HO.out ad l.length c (i64s l) rfl (by simp[i64s]) HNS.out (i64s_one l) (by unfold maxLen;omega) (by omega) (by simp) ?_;intro v6 w6 hown6 hgr6 _ _;rw[Nat.zero_add,List.nil_append] at hown6
                obtain⟨G6,c6,rfl⟩:=Pack.row_slice hown6
                have HB6:=hid (HB.out.grown hgr6 (by simp) (fun k hk=>Chn.row_base_lt3 HO.out hk));have HO6:=hid hown6;clear hown6 hgr6)
   go_ret
   exact⟨G6,c6,rfl,HO6.out,HB6.out⟩
theorem clone_parts (w:World) (A:Option Addr) (c:Nat) (l:List Pt) (h:Prt w A l) (hl:l.length≤1000000) :
 Calls Tryz.prog 159 #[.slice A l.length c] w (Cln w 190 3 l.length (pcells l)):=by
 have q40:∀ (w:World) (a:Option Addr) (n c n' c':Nat),(binOp .eql 128 (.slice a n c) (.slice none n' c')).run Tryz.prog w = .ok (.bool a.isNone) w:=fun w a n c n' c'=>Lib.run_eql_slice_nil w _ _ a n c n' c' Tryz.underlying128
 cases A with
 | none=>
   have hl0:l=[]:=by
    cases l with
    | nil=>rfl
    | cons b l=>
      obtain⟨_,_,e,_⟩:=h.at' 0 (by simp)
      cases e
   subst hl0;clear h;go_enter Tryz.func159,Tryz.ntmps159
   go_wp2
   go_ret
   exact⟨none,0,rfl,World.ownsRow_nil ..,Below.refl _ _⟩
 | some ad=>
   obtain⟨i0,hi0,hz0,hz1,hz2⟩:=info_parts part_info
   have hown:(w.alloc (.cells #[] 190)).ownsRow w.heap.size 190 3 (.slice (some ⟨w.heap.size,0,none⟩) 0 0) 0 []:=World.ownsRow_made w #[] 0 (Nat.le_refl _) (by unfold maxLen;omega) rfl;have hb:=(Below.refl w.heap.size w).alloc (Nat.le_refl _) (.cells #[] 190);have HNS:=hid (prt_news (h.keep hb));have HB:=hid hb;have HO:=hid hown;clear h hown hb;go_enter Tryz.func159,Tryz.ntmps159
   go_wp2_with (at_builtin
                refine wpList_append_own_at _ rfl (.tmp 5) (.tmp 6) 128 rfl w.heap.size 190 i0 (.agg #[.int .i64 0,.int .i64 0,.int .i64 0]) 3 24 Tryz.underlying128 hi0 hz0 hz1 hz2 rfl (by decide) (.slice (some ⟨w.heap.size,0,none⟩) 0 0) 0 [] rfl HO.out ad l.length c (pcells l) rfl (pcells_len l) HNS.out (pcells_one l) (by unfold maxLen;omega) (by omega) (by simp) ?_;intro v6 w6 hown6 hgr6 _ _;rw[Nat.zero_add,List.nil_append] at hown6
                obtain⟨G6,c6,rfl⟩:=Chn.row_slice3 hown6
                have HB6:=hid (HB.out.grown hgr6 (by simp) (fun k hk=>Chn.row_base_lt3 HO.out hk));have HO6:=hid hown6;clear hown6 hgr6)
   go_ret
   exact⟨G6,c6,rfl,HO6.out,HB6.out⟩
section
variable {w : World} {P : Pc} {n m : Nat} {L : List Cl} {N C X : Array Value}
theorem own_base {w:World} {B B' n s:Nat} {e:TypeId} {v:Value} {xs:List Value} (h:w.ownsRow B e s v n xs) (hB:B'≤B):w.ownsRow B' e s v n xs:=by
 refine⟨h.1,?_⟩
 rcases h.2 with h0 | ⟨g,cap,cur,e,hg,hr⟩
 · exact .inl h0
 · exact .inr ⟨g,cap,cur,e,Nat.le_trans hB hg,hr⟩
def ChTo (w:World) (l:List Pt) (r:Ending) (w':World):Prop:=
 ∃ (A:Option Addr) (a:Nat) (D:Option Addr) (d:Nat),r = .returned (.agg #[.slice A l.length a,.slice D l.length d])∧w'.ownsRow w.heap.size 3 1 (.slice A l.length a) l.length (i64s (slots l))∧w'.ownsRow w.heap.size 190 3 (.slice D l.length d) l.length (pcells l)∧Below w.heap.size w w'
theorem chain_yes (h:Cq w P n m L N C X) (hL:L.length=m) (i:Nat) (hi:i < L.length) (hl:L[i].l.length≤65534):Calls Tryz.prog 96 #[.pointer (some ⟨P.c,0,none⟩),.int .i64 (i:Int)] w (ChTo w L[i].l):=by
 have hc:=fun w' (hb:Below w.heap.size w w')=>chas_any (h.cr.keep hb) (i:Int)
 have H:=hid h
 obtain⟨A,a,D,d,k0,k1,k2,k3,_⟩:=h.chs i hi
 have hm:i < m:=by omega
 clear h hL;generalize L[i].l=l at *;have hdec:decide ((0:Int)≤(i:Int)∧(i:Int) < (m:Int))=true:=decide_eq_true (by omega);rw[hdec] at hc;have HC:=hid hc;have HN:=hid k2;have HD:=hid k3;clear hdec hc k2 k3;have HX:=hid (hb_new w #[.slice none 0 0,.slice none 0 0] 130);have HB0:=hid ((Below.refl w.heap.size w).alloc (Nat.le_refl _) (.cells #[.slice none 0 0,.slice none 0 0] 130));go_enter Tryz.func96,Tryz.ntmps96
 go_wp2_with fail
 generalize w.alloc (.cells #[.slice none 0 0,.slice none 0 0] 130)=w0 at *;refine (HC.out _ HB0.out).mono ?_;rintro r w1 ⟨rfl,hb⟩;have HB:=hid (HB0.out.trans (hb.mono HB0.out.size));have HX1:=hid (HX.out.keep hb);have h1:=H.out.keep HB.out;have c1:=h1.cr.claim.cell 1;have cl:=h1.cr.lt;have n0:=(h1.cr.chains.cell (i * 2)).trans k0;have n1:=(h1.cr.chains.cell (i * 2+1)).trans k1;have nl:=h1.cr.chains.lt;clear hb h1 HC;go_wp2_with fail
 clear k0 k1 c1 cl n0 n1 nl;have hal:=(Below.refl w1.heap.size w1).alloc (Nat.le_refl _) (.cells #[.slice A l.length a,.slice D l.length d] 130);have HB2:=hid (HB.out.trans (hal.mono HB.out.size));have HR2:=hid (HX1.out.keep hal);have HX2:=hid (hb_new w1 #[.slice A l.length a,.slice D l.length d] 130);have HX1l:=HX1.out.lt;clear hal HX1 HB;generalize w1.alloc (.cells #[.slice A l.length a,.slice D l.length d] 130)=w2 at *;have HNE:=hid (show w1.heap.size≠w.heap.size by have:=HX1l;omega);clear HX1l;generalize w1.heap.size=lb at *;clear w1;have hd0:∀ W:World,Below W.heap.size W W.drew:=fun W=>⟨rfl,rfl,rfl,Nat.le_refl _,fun _ _=>rfl⟩
 have hsl:(slots l).length=l.length:=slots_len l;have hci:=clone_ints w2.drew A a (slots l) (HN.out.keep (HB2.out.trans ((hd0 w2).mono HB2.out.size))) (by omega);rw[hsl] at hci;have HCI:=hid hci;have HCP:=hid (fun w' (hb:Below w.heap.size w w')=>clone_parts w' D d l (HD.out.keep hb) (by omega));have x0:=HX2.out.cell 0;have x1:=HX2.out.cell 1;have xl:=HX2.out.lt;clear hci hsl;have r0:=HR2.out.cell 0;have r1:=HR2.out.cell 1;have rf0:=HR2.out.frozen 0;have rf1:=HR2.out.frozen 1;have rl:=HR2.out.lt
 go_region_held3 (fun W'=>W'.cell? ⟨lb,0,none⟩=some (.slice A l.length a)∧W'.cell? ⟨lb,1,none⟩=some (.slice D l.length d)) (go_keep)
  (first
  | (go_at_call 158
     with_reducible refine HCI.out.mono ?_
     rintro r w3 ⟨G,gc,rfl,ho,hb⟩;have HB3:=hid (HB2.out.trans (((hd0 w2).trans (hb.mono (hd0 w2).size)).mono HB2.out.size));have HX3:=hid (HX2.out.keep ((hd0 w2).trans (hb.mono (hd0 w2).size)));have HR3:=hid (HR2.out.keep ((hd0 w2).trans (hb.mono (hd0 w2).size)));have HO3:=hid (own_base ho (show w.heap.size≤w2.drew.heap.size from HB2.out.size));have HCP3:=hid (HCP.out w3 HB3.out);have y0:=HX3.out.cell 0;have y1:=HX3.out.cell 1;clear ho hb)
  | (go_at_call 159
     with_reducible refine HCP3.out.mono ?_
     rintro r w4 ⟨G',gc',rfl,ho,hb⟩;have HB4:=hid (HB3.out.trans (hb.mono HB3.out.size));have HX4:=hid (HX3.out.keep hb);have HR4:=hid (HR3.out.keep hb);have HO4:=hid (own_keep3 HO3.out hb);have HQ4:=hid (own_base ho HB3.out.size);have z0:=HX4.out.cell 0;have z1:=HX4.out.cell 1;have e0:=HR4.out.cell 0;have e1:=HR4.out.cell 1;have ef0:=HR4.out.frozen 0;have ef1:=HR4.out.frozen 1;have el:=HR4.out.lt;have hx9:=(HX4.out.far (p:=⟨w.heap.size,0,none⟩) HNE.out (.slice G l.length gc)).far (p:=⟨w.heap.size,1,none⟩) HNE.out (.slice G' l.length gc');have i0:=hx9.cell 0;have i1:=hx9.cell 1;clear ho hb hx9))
 go_wp2
 have hB0:=HR4.out.set 0 (.slice G l.length gc);refine bodyPost_ret (v:=.agg #[.slice G l.length gc,.slice G' l.length gc']) ?_ rfl ⟨G,gc,G',gc',rfl,?_,?_,?_⟩
 · simp[results,Tryz.results96,go_sem,e0,e1]
 · exact Chn.own_far (i:=1) (Chn.own_far (i:=0) HO4.out HR4.out (by decide) (.slice G l.length gc)) hB0 (by decide) (.slice G' l.length gc')
 · exact Chn.own_far (i:=1) (Chn.own_far (i:=0) HQ4.out HR4.out (by decide) (.slice G l.length gc)) hB0 (by decide) (.slice G' l.length gc')
 · exact (HB4.out.setCell (p:=⟨w.heap.size,0,none⟩) (Nat.le_refl _) _).setCell (p:=⟨w.heap.size,1,none⟩) (Nat.le_refl _) _
end
end Clm
end
section
open Lib (hid)
open Go.RowKit Go.MapKept
namespace Ino
open Lin
theorem field_any (w:World) (n:Nat) (h:n < 65536) :
 Calls Tryz.prog 219 #[.int .i64 (n:Int)] w fun r w'=>r = .returned (.agg #[.int .i64 16,.int .u64 (n:Int)])∧Below w.heap.size w w':=by
 go_enter Tryz.func219,Tryz.ntmps219
 go_wp2
 refine bodyPost_ret (v:=.agg #[.int .i64 16,.int .u64 (n:Int)]) ?_ rfl ⟨rfl,?_⟩
 · simp[results,Tryz.results219,go_sem]
 · first
   | exact (Below.refl _ _).alloc (Nat.le_refl _) _
   | exact (((Below.refl _ _).alloc (Nat.le_refl _) _).setCell (by simp) _).setCell (by simp) _
theorem nums_any (w:World) {n m:Nat} (hn:n < 65536) (hm:m < 65536):Calls Tryz.prog 121 #[.slice (some ⟨w.heap.size,0,none⟩) 2 2] (w.alloc (.cells #[.int .i64 16,.int .u64 (n:Int),.int .i64 16,.int .u64 (m:Int)] 208)) fun e w'=>e = .returned (.tuple #[.int .u64 (nums n m:Nat),.bool true])∧Below w.heap.size w w':=by
 refine (Pack.pack_any _ 2 _ (fds_two w hn hm)).mono ?_;rintro e w' ⟨rfl,hb⟩;rw[pk_nums hn hm];have hb0:=(Below.refl w.heap.size w).alloc (Nat.le_refl _) (.cells #[.int .i64 16,.int .u64 (n:Int),.int .i64 16,.int .u64 (m:Int)] 208)
 exact⟨rfl,hb0.trans (hb.mono hb0.size)⟩
theorem encode_no (w:World) (k h s:Int) (hm:may k h s=false) :
 Calls Tryz.prog 177 #[.agg #[.int .i64 k,.int .i64 h,.int .i64 s]] w fun r w'=>r = .returned (.tuple #[.slice none 0 0,.int .i64 1])∧Below w.heap.size w w':=by
 have HM:=hid (fun w=>may_any w k h s);have HE:=hid hm;clear hm;have HB:=hid ((Below.refl w.heap.size w).alloc (Nat.le_refl _) (.cells #[.int .i64 k,.int .i64 h,.int .i64 s] 95));go_enter Tryz.func177,Tryz.ntmps177
 go_wp2_with fail
 refine (HM.out _).mono ?_;rintro e w' ⟨rfl,hb⟩;rw[HE.out];have HB1:=hid (HB.out.trans (hb.mono HB.out.size));clear hb;go_wp2
 go_ret2
 exact⟨rfl,HB1.out⟩
theorem set_nums (x:Nat) (j:Nat) (_h:j < 8):(if j=0 then x else ([]:List Nat)[j]?.getD 0)=[x][j]?.getD 0:=by
 match j with
 | 0=>rfl
 | j+1=>simp
theorem set_size (x y:Nat) (j:Nat) (_h:j < 8):(if j=1 then y else [x][j]?.getD 0)=[x,y][j]?.getD 0:=by
 match j with
 | 0=>rfl
 | 1=>rfl
 | j+2=>simp
theorem set_sum (x y z:Nat) (j:Nat) (h:j < 8):(if j=7 then z else [x,y][j]?.getD 0)=[x,y,0,0,0,0,0,z][j]?.getD 0:=by
 have:j=0∨j=1∨j=2∨j=3∨j=4∨j=5∨j=6∨j=7:=by omega
 rcases this with rfl | rfl | rfl | rfl | rfl | rfl | rfl | rfl<;>rfl
theorem front_crc {w:World} {g k p s:Nat} (h:w.rowIs g 50 8 (rowOf [nums k p,s])) (hk:k < 65536) (hp:p < 65536) (hs:s < 18446744073709551616):Crc.Wds w (some ⟨g,0,none⟩) (front k p s):=by
 refine row_crc h (by rw[front_len];omega) (front_u64 hk hp hs) ?_;intro j hj
 have:j < 7:=hj
 have:j=0∨j=1∨j=2∨j=3∨j=4∨j=5∨j=6:=by omega
 rcases this with rfl | rfl | rfl | rfl | rfl | rfl | rfl<;>rfl
theorem encode_free (w:World) :
 Calls Tryz.prog 177 #[.agg #[.int .i64 0,.int .i64 (-1),.int .i64 0]] w fun r w'=>∃ g:Nat,w.heap.size≤g∧r = .returned (.tuple #[.slice (some ⟨g,0,none⟩) 8 8,.int .i64 0])∧w'.rowIs g 50 8 (rowOf zero)∧Below w.heap.size w w':=by
 have HM:=hid (fun w=>may_any w 0 (-1) 0);have HE:=hid (show may 0 (-1) 0=true by decide);have HN:=hid none_any;have HB:=hid ((Below.refl w.heap.size w).alloc (Nat.le_refl _) (.cells #[.int .i64 0,.int .i64 (-1),.int .i64 0] 95));have HX:=hid (boxed w 0 (-1) 0 95);go_enter Tryz.func177,Tryz.ntmps177
 go_wp2_with fail
 refine (HM.out _).mono ?_;rintro e w1 ⟨rfl,hb⟩;rw[HE.out];have HB1:=hid (HB.out.trans (hb.mono HB.out.size));have HX1:=hid (HX.out.keep hb);have hsz:w.heap.size < w1.heap.size:=HX1.out.lt;clear hb HX;have hmk:=run_make_row' (P:=Tryz.prog) 22 50 _ 8 Tryz.underlying22 Pack.u64_info rfl .i64 .i64 8 (by omega) (by omega) w1;rw[show ((8:Nat):Int)=8 from rfl] at hmk;have hb2:=(Below.refl w1.heap.size w1).alloc (Nat.le_refl _) (.cells (madeCells #[.int .u64 0] 8) 50);have HE2:=hid (show En w w.heap.size w.heap.size w1.heap.size 0 (-1) 0 [] (w1.alloc (.cells (madeCells #[.int .u64 0] 8) 50)) from ⟨HX1.out.keep hb2,row_made w1,by omega,HB1.out.trans (hb2.mono HB1.out.size),HB1.out.size⟩);clear hb2 HX1 HB1 HB HM HE;go_wp2
 generalize w1.alloc (.cells (madeCells #[.int .u64 0] 8) 50)=w2 at *;generalize hg:w1.heap.size=g at *;clear hg hmk;have hs2:w.heap.size < w2.heap.size:=HE2.out.box.lt;have hc0:=HE2.out.box.c0;have hc1:=HE2.out.box.c1;have hc2:=HE2.out.box.c2
 go_region_held3 (fun W'=>W'.cell? ⟨w.heap.size,0,none⟩=some (.int .i64 0)∧W'.cell? ⟨w.heap.size,1,none⟩=some (.int .i64 (-1))∧W'.cell? ⟨w.heap.size,2,none⟩=some (.int .i64 0)) (go_keep)
  (first
  | (go_at_call 78
     with_reducible refine (HN.out _).mono ?_
     rintro e w3 ⟨rfl,hb⟩;have HE3:=hid (HE2.out.drew.keep hb (Nat.le_of_lt HE2.out.drew.box.lt));have hk0:=HE3.out.box.c0;have hk1:=HE3.out.box.c1;have hk2:=HE3.out.box.c2;clear hb))
 go_wp2
 go_ret2
 exact⟨g,HE3.out.nN,rfl,row_zero HE3.out.row,HE3.out.below⟩
theorem encode_full (w:World) (k p s:Nat) (h:Int) (hh:h=(p:Int) - 1) (hk0:k≠0) (hm:may k ((p:Int) - 1) s=true) :
 Calls Tryz.prog 177 #[.agg #[.int .i64 (k:Int),.int .i64 h,.int .i64 (s:Int)]] w fun r w'=>∃ g:Nat,w.heap.size≤g∧r = .returned (.tuple #[.slice (some ⟨g,0,none⟩) 8 8,.int .i64 0])∧w'.rowIs g 50 8 (rowOf (full k p s))∧Below w.heap.size w w':=by
 obtain⟨h1,h2,h3⟩:=may_lt hm
 have HM:=hid (fun w=>may_any w k h s);have HE:=hid (show may k h s=true by rw[hh];exact hm);have HNN:=hid none_any;have HN1:=hid (fun w=>field_any w k (by omega));have HN2:=hid (fun w=>field_any w p (by omega));have HP:=hid (fun w=>nums_any w (n:=k) (m:=p) (by omega) (by omega));have HW:=hid (show IntKind.i64.wrap (h+1)=(p:Int) by rw[IntKind.wrap_i64];omega);have hki:¬ (k:Int)=0:=by omega
 have hs64:s < 18446744073709551616:=by omega
 have hk64:k < 65536:=by omega
 have hp64:p < 65536:=by omega
 clear hm hh;have HB:=hid ((Below.refl w.heap.size w).alloc (Nat.le_refl _) (.cells #[.int .i64 (k:Int),.int .i64 h,.int .i64 (s:Int)] 95));have HX:=hid (boxed w k h s 95);go_enter Tryz.func177,Tryz.ntmps177
 go_wp2_with fail
 refine (HM.out _).mono ?_;rintro e w1 ⟨rfl,hb⟩;rw[HE.out];have HB1:=hid (HB.out.trans (hb.mono HB.out.size));have HX1:=hid (HX.out.keep hb);have hsz:w.heap.size < w1.heap.size:=HX1.out.lt;clear hb HX;have hmk:=run_make_row' (P:=Tryz.prog) 22 50 _ 8 Tryz.underlying22 Pack.u64_info rfl .i64 .i64 8 (by omega) (by omega) w1;rw[show ((8:Nat):Int)=8 from rfl] at hmk;have hb2:=(Below.refl w1.heap.size w1).alloc (Nat.le_refl _) (.cells (madeCells #[.int .u64 0] 8) 50);have HE2:=hid (show En w w.heap.size w.heap.size w1.heap.size k h s [] (w1.alloc (.cells (madeCells #[.int .u64 0] 8) 50)) from ⟨HX1.out.keep hb2,row_made w1,by omega,HB1.out.trans (hb2.mono HB1.out.size),HB1.out.size⟩);clear hb2 HX1 HB1 HB HM HE;go_wp2
 generalize w1.alloc (.cells (madeCells #[.int .u64 0] 8) 50)=w2 at *;generalize hg:w1.heap.size=g at *;clear hg hmk;have hs2:w.heap.size < w2.heap.size:=HE2.out.box.lt;have hc0:=HE2.out.box.c0;have hc1:=HE2.out.box.c1;have hc2:=HE2.out.box.c2
 go_region_held3 (fun W'=>W'.cell? ⟨w.heap.size,0,none⟩=some (.int .i64 (k:Int))∧W'.cell? ⟨w.heap.size,1,none⟩=some (.int .i64 h)∧W'.cell? ⟨w.heap.size,2,none⟩=some (.int .i64 (s:Int))) (go_keep)
  (first
  | (go_at_call 78
     with_reducible refine (HNN.out _).mono ?_
     rintro e w3 ⟨rfl,hb⟩;have HE3:=hid (HE2.out.drew.keep hb (Nat.le_of_lt HE2.out.drew.box.lt));have hk0:=HE3.out.box.c0;have hk1:=HE3.out.box.c1;have hk2:=HE3.out.box.c2;clear hb))
 clear hc0 hc1 hc2 hk0 hk1 hk2 HE2 HNN hs2;go_wp2
 have hs4:w.heap.size < w3.heap.size:=HE3.out.box.lt;have hc0:=HE3.out.box.c0;have hc1:=HE3.out.box.c1;have hc2:=HE3.out.box.c2;have hw:=HW.out
 go_region_held3 (fun W'=>W'.cell? ⟨w.heap.size,0,none⟩=some (.int .i64 (k:Int))∧W'.cell? ⟨w.heap.size,1,none⟩=some (.int .i64 h)∧W'.cell? ⟨w.heap.size,2,none⟩=some (.int .i64 (s:Int))) (go_keep)
  (first
  | (go_at_call 219
     with_reducible refine (HN1.out _).mono ?_
     rintro e w5 ⟨rfl,hb⟩;have HE5:=hid (HE3.out.drew.keep hb (Nat.le_of_lt HE3.out.drew.box.lt));have hk0:=HE5.out.box.c0;have hk1:=HE5.out.box.c1;have hk2:=HE5.out.box.c2;clear hb)
  | (go_at_call 219
     with_reducible refine (HN2.out _).mono ?_
     rintro e w6 ⟨rfl,hb⟩;have HE6:=hid (HE5.out.keep hb (Nat.le_of_lt HE5.out.box.lt));have hl0:=HE6.out.box.c0;have hl1:=HE6.out.box.c1;have hl2:=HE6.out.box.c2;clear hb)
  | (go_at_call 121
     with_reducible refine (HP.out _).mono ?_
     rintro e w8 ⟨rfl,hb⟩;have HE8:=hid (HE6.out.keep hb (Nat.le_of_lt HE6.out.box.lt));have hn0:=HE8.out.box.c0;have hn1:=HE8.out.box.c1;have hn2:=HE8.out.box.c2;have hn3:=HE8.out.row.cell (i:=0) (by omega);have hn4:=HE8.out.row.frozen 0;have HE9:=hid (HE8.out.set 0 (nums k p) (set_nums _));have hq0:=HE9.out.box.c0;have hq1:=HE9.out.box.c1;have hq2:=HE9.out.box.c2;clear hb))
 clear hk0 hk1 hk2 hl0 hl1 hl2 hn0 hn1 hn2 hn3 hn4 hq0 hq1 hq2 hc0 hc1 hc2 HE5 HE6 HE8 HE3 HN1 HN2 HP hw hs4;generalize w8.setCell ⟨g,0,none⟩ (.int .u64 (nums k p:Int))=w9 at *;have hs9:w.heap.size < w9.heap.size:=HE9.out.box.lt;have hc2:=HE9.out.box.c2;have hrc:=HE9.out.row.cell (i:=1) (by omega);have hrf:=HE9.out.row.frozen 1;have HE10:=hid (HE9.out.set 1 s (set_size _ _));have HC:=hid (Crc.words32_any (some ⟨g,0,none⟩) 8 (front k p s) (front_crc HE10.out.row hk64 hp64 hs64));have hsl:=sum_lt k p s;have hrc7:=HE10.out.row.cell (i:=7) (by omega);have hrf7:=HE10.out.row.frozen 7;go_wp2_with fail
 refine HC.out.mono ?_;rintro e w' ⟨rfl,rfl⟩;rw[show Crc.S32 (Crc.wflat (front k p s))=sum k p s from rfl];clear HC hc2 hrc hrf;generalize w9.setCell ⟨g,1,none⟩ (.int .u64 (s:Int))=w10 at *;go_wp2
 go_ret2;have h11:=HE10.out.set 7 (sum k p s) (set_sum _ _ _)
 exact⟨g,h11.nN,rfl,h11.row,h11.below⟩
theorem encode_yes (w:World) (k p s:Nat) (h:Int) (hh:h=(p:Int) - 1) (hm:may k ((p:Int) - 1) s=true) :
 Calls Tryz.prog 177 #[.agg #[.int .i64 (k:Int),.int .i64 h,.int .i64 (s:Int)]] w fun r w'=>∃ g:Nat,w.heap.size≤g∧r = .returned (.tuple #[.slice (some ⟨g,0,none⟩) 8 8,.int .i64 0])∧w'.rowIs g 50 8 (rowOf (ln k p s))∧Below w.heap.size w w':=by
 by_cases hk:k=0
 · subst hk
   obtain⟨rfl,rfl⟩:=may_free hm
   subst hh;rw[ln_zero];exact encode_free w
 · rw[ln_full hk]
   exact encode_full w k p s h hh hk hm
end Ino
end
section
open Lib (hid)
open Go.RowKit Go.MapKept
namespace Lin
open Pack (Wds)
section
variable {w : World}
theorem equal_any (A B:Option Addr) (c d:Nat) (l m:List Nat) (h:Wds w A l) (g:Wds w B m) :
 Calls Tryz.prog 67 #[.slice A l.length c,.slice B m.length d] w fun e w'=>e = .returned (.bool (decide (l=m)))∧∃ n,w'=w.drewN n:=by
 have hn:=h.len;have hm:=g.len;have H:=hid h;have G:=hid g;clear h g;by_cases hlen:l.length=m.length
 · go_enter Tryz.func67,Tryz.ntmps67
   go_wp2
   go_loopw [13] (fun i wr=>∃ (k n:Nat),k≤l.length∧i = .int .i64 (k:Int)∧l.take k=m.take k∧wr=w.drewN n) (fun i _=>l.length - (intOf i).toNat)
   case atStart=>exact⟨0,0,Nat.zero_le _,rfl,rfl,rfl⟩
   case round=>
    obtain⟨k,n,hk,rfl,hs,rfl⟩:=hrel
    have HS:=hid hs;clear hs;by_cases hlt:k < l.length
    · have hlt2:k < m.length:=by omega
      obtain⟨b,o,rfl,hb,hcell⟩:=H.out.at' k hlt
      obtain⟨b2,o2,rfl,hb2,hcell2⟩:=G.out.at' k hlt2
      have hi0:(0:Int)≤(k:Int):=by omega
      have hi1:(k:Int) < (l.length:Int):=by omega
      have hi2:(k:Int) < (m.length:Int):=by omega
      have HE:=hid (show l.take (k+1)=m.take (k+1)↔l[k]=m[k] by
       rw[List.take_succ_eq_append_getElem hlt,List.take_succ_eq_append_getElem (l:=m) hlt2,HS.out,List.append_right_inj]
       simp)
      generalize l[k]=x at *;generalize m[k]=y at *;by_cases hxy:x=y
      · subst hxy
        have HE1:=hid (HE.out.2 rfl);clear HE;go_wp2
        go_quiet (fail)
        go_wp2
        refine⟨⟨k+1,n+nq,by omega,by go_num,HE1.out,rfl⟩,by simp[intOf];omega⟩
      · have hne:¬ (x:Int)=(y:Int):=by omega
        go_wp2
        go_quiet (fail)
        go_wp2
        go_ret
        refine⟨?_,n+nq,World.drewN_drewN _ _ _⟩
        have:¬ l=m:=fun h=>hxy (HE.out.1 (by rw[h]))
        rw[decide_eq_false this];rfl
    · obtain rfl:k=l.length:=by omega
      have he:l=m:=by
       have:=HS.out
       rwa [List.take_length,hlen,List.take_length] at this
      go_wp2
      go_ret
      refine⟨?_,n,rfl⟩
      rw[decide_eq_true he];rfl
 · have hne:¬ (l.length:Int)=(m.length:Int):=by omega
   have hlm:¬ l=m:=fun h=>hlen (by rw[h])
   go_enter Tryz.func67,Tryz.ntmps67
   go_wp2
   go_ret
   refine⟨?_,0,rfl⟩
   rw[decide_eq_false hlm];rfl
end
end Lin
end
section
open Lib (hid)
open Go.RowKit Go.MapKept
namespace Ino
open Lin
def gv:Option (Nat × Nat × Nat)→Value
 | some (k,p,s)=>.agg #[.int .i64 (k:Int),.int .i64 ((p:Int) - 1),.int .i64 (s:Int)]
 | none=>.agg #[.int .i64 0,.int .i64 (-1),.int .i64 0]
def ev:Option (Nat × Nat × Nat)→Int
 | some _=>0
 | none=>2
theorem split_no (w:World) (N:Nat) (hN:w.heap.size=N) (x:Nat) (hx:x < 18446744073709551616) (h:¬ x < 4294967296):Calls Tryz.prog 65 #[.int .u64 (x:Int),.slice (some ⟨N,0,none⟩) 2 2] (w.alloc (.cells #[.int .i64 16,.int .i64 16] 3)) fun e w'=>∃ (G:Option Addr) (gc:Nat),e = .returned (.tuple #[.slice G 0 gc,.bool false])∧Below w.heap.size w w':=by
 subst hN;refine (Pack.split_any x hx _ 2 _ (nts_two w)).mono ?_;rintro e w' ⟨G,gc,rfl,hw,hb⟩;have hb0:=(Below.refl w.heap.size w).alloc (Nat.le_refl _) (.cells #[.int .i64 16,.int .i64 16] 3);rw[split_nums,if_neg h]
 exact⟨G,gc,rfl,hb0.trans (hb.mono hb0.size)⟩
theorem split_yes (w:World) (N:Nat) (hN:w.heap.size=N) (x:Nat) (h:x < 4294967296):Calls Tryz.prog 65 #[.int .u64 (x:Int),.slice (some ⟨N,0,none⟩) 2 2] (w.alloc (.cells #[.int .i64 16,.int .i64 16] 3)) fun e w'=>∃ (b o gc:Nat),e = .returned (.tuple #[.slice (some ⟨b,o,none⟩) 2 gc,.bool true])∧(b < w'.heap.size∧w'.cell? ⟨b,o,none⟩=some (.int .u64 ((x % 65536:Nat):Int))∧w'.cell? ⟨b,o+1,none⟩=some (.int .u64 ((x / 65536:Nat):Int)))∧Below w.heap.size w w':=by
 subst hN;refine (Pack.split_any x (by omega) _ 2 _ (nts_two w)).mono ?_;rintro e w' ⟨G,gc,rfl,hw,hb⟩;have hb0:=(Below.refl w.heap.size w).alloc (Nat.le_refl _) (.cells #[.int .i64 16,.int .i64 16] 3);have e:x / 65536 % 65536=x / 65536:=by omega
 rw[split_nums,if_pos h,e] at hw ⊢;simp only[Option.getD_some] at hw
 obtain⟨b,o,rfl,hlt,hc0⟩:=hw.at' 0 (by simp)
 obtain⟨b',o',e,_,hc1⟩:=hw.at' 1 (by simp)
 injection e with e
 injection e with e1 e2
 subst e1 e2
 exact⟨b,o,gc,rfl,⟨hlt,hc0,hc1⟩,hb0.trans (hb.mono hb0.size)⟩
section
variable {w : World}
theorem decode_any (A:Option Addr) (c:Nat) (l:List Nat) (h:Pack.Wds w A l) :
 Calls Tryz.prog 111 #[.slice A l.length c] w fun r w'=>r = .returned (.tuple #[gv (dec l),.int .i64 (ev (dec l))])∧Below w.heap.size w w':=by
 have hlen:=h.len;have HB:=hid ((Below.refl w.heap.size w).alloc (Nat.le_refl _) (.cells #[.int .i64 0,.int .i64 0,.int .i64 0] 95));have HX:=hid (owned w 0 0 0 95);have HNN:=hid none_any;by_cases hl:l.length=8
 · rw[hl]
   obtain⟨b,o,rfl,hb,hcell⟩:=h.at' 0 (by omega)
   rw[Nat.add_zero] at hcell
   obtain⟨b',o',e,_,hcell1⟩:=h.at' 1 (by omega)
   injection e with e
   injection e with e1 e2
   subst e1 e2;have hx:=h.u64 l[0] (List.getElem_mem _);have hy:=h.u64 l[1] (List.getElem_mem _);have HD0:=hid (show l[0]?.getD 0=l[0] by rw[List.getElem?_eq_getElem (by omega)];rfl);have HD1:=hid (show l[1]?.getD 0=l[1] by rw[List.getElem?_eq_getElem (by omega)];rfl);have H:=hid h;have HL:=hid hl;clear h;generalize l[0]=x at *;generalize l[1]=y at *;clear hl;by_cases h32:x < 4294967296
   · obtain⟨k,hk⟩:∃ k,k=x % 65536:=⟨_,rfl⟩
     obtain⟨p,hp⟩:∃ p,p=x / 65536:=⟨_,rfl⟩
     have hk1:k < 65536:=by omega
     have hp1:p < 65536:=by omega
     have HS:=hid (split_yes (w.alloc (.cells #[.int .i64 0,.int .i64 0,.int .i64 0] 95)) (w.heap.size+1) (World.size_alloc _ _) x h32);rw[← hk,← hp] at HS
     have HD:=hid (show dec l=if may k ((p:Int) - 1) y=true∧l=ln k p y then some (k,p,y) else none by
      unfold dec;simp only[HD0.out,HD1.out,← hk,← hp];by_cases hc:may k ((p:Int) - 1) y=true∧l=ln k p y
      · rw[if_pos hc,if_pos ⟨HL.out,h32,hc⟩]
      · rw[if_neg hc,if_neg (fun h=>hc h.2.2)])
     clear hk hp h32 HD0 HD1
     obtain⟨S,hS⟩:∃ S,S=IntKind.wrap .i64 (y:Int):=⟨_,rfl⟩
     obtain⟨hd,hhd⟩:∃ hd,hd=(p:Int) - 1:=⟨_,rfl⟩
     have HMS:=hid (show may k hd S=may k ((p:Int) - 1) y by
      rw[← hhd];rw[IntKind.wrap_i64] at hS;by_cases h63:y < 9223372036854775808
      · have:S=(y:Int):=by omega
        rw[this]
      · have h1:may k hd S=false:=by
         unfold may May;exact decide_eq_false (by omega)
        have h2:may k hd y=false:=by
         unfold may May;exact decide_eq_false (by omega)
        rw[h1,h2])
     have HSY:=hid (show may k ((p:Int) - 1) y=true→S=(y:Int) by
      intro hm
      have:=(may_lt hm).2.2
      rw[IntKind.wrap_i64] at hS
      omega)
     have hwk:IntKind.wrap .i64 (k:Int)=(k:Int):=by rw[IntKind.wrap_i64];omega
     have hwp:IntKind.wrap .i64 (p:Int)=(p:Int):=by rw[IntKind.wrap_i64];omega
     have hwh:IntKind.wrap .i64 ((p:Int) - 1)=hd:=by rw[IntKind.wrap_i64];omega
     have hwy:IntKind.wrap .i64 (y:Int)=S:=hS.symm;have HH:=hid hhd;clear hS hhd;go_enter Tryz.func111,Tryz.ntmps111
     go_wp2_with fail
     refine HS.out.mono ?_;rintro e w1 ⟨b1,o1,gc,rfl,⟨hb1,hq0,hq1⟩,hbw⟩;have HX1:=hid (HX.out.keep hbw);have HB1:=hid (HB.out.trans (hbw.mono HB.out.size));have hz1:w.heap.size < w1.heap.size:=HX1.out.box.lt;have hcy:w1.cell? ⟨b,o+1,none⟩=some (.int .u64 (y:Int)):=(HB1.out.cell (p:=⟨b,o+1,none⟩) hb).trans hcell1;have hbw1:b < w1.heap.size:=Nat.lt_of_lt_of_le hb HB1.out.size;have H1:=hid (H.out.keep HB1.out);clear hbw HS HX HB H hcell hcell1;go_wp2
     go_region
     have hba:=(Below.refl w1.heap.size w1).alloc (Nat.le_refl _) (.cells #[.int .i64 (k:Int),.int .i64 hd,.int .i64 S] 95);have HX2:=hid (HX1.out.keep hba).drew;have HG2:=hid (boxed w1 k hd S 95).drew;have HB2:=hid (HB1.out.trans (hba.mono HB1.out.size)).drew;have H2:=hid (H1.out.keep hba.drew);clear hwk hwp hwh hwy hba HX1 HB1 H1 hb1 hq0 hq1 hcy hbw1;go_wp2_with fail
     generalize (w1.alloc (.cells #[.int .i64 (k:Int),.int .i64 hd,.int .i64 S] 95)).drew=w2 at *;generalize w1.heap.size=k1 at *
     cases hmay:may k ((p:Int) - 1) y with
     | false=>
       have HN:=hid (show dec l=none by rw[HD.out,if_neg (fun h=>by rw[hmay] at h;simp at h)]);refine (encode_no _ k hd S (by rw[HMS.out];exact hmay)).mono ?_;rintro e w3 ⟨rfl,hb3⟩;have HX3:=hid (HX2.out.keep hb3);have HB3:=hid (HB2.out.trans (hb3.mono HB2.out.size));clear hb3 hmay HX2 HB2 H2 HD HMS HSY HH;go_wp2_with fail
       refine (HNN.out _).mono ?_;rintro e w4 ⟨rfl,hb4⟩;have HX4:=hid (HX3.out.keep hb4);have HB4:=hid (HB3.out.trans (hb4.mono HB3.out.size));clear hb4 HX3 HB3;have hc0:=HX4.out.box.c0;have hc1:=HX4.out.box.c1;have hc2:=HX4.out.box.c2;have hf0:=HX4.out.f 0;have hf1:=HX4.out.f 1;have hf2:=HX4.out.f 2;go_wp2
       rw[HN.out];refine bodyPost_ret (v:=.tuple #[gv none,.int .i64 (ev none)]) ?_ rfl ⟨rfl,?_⟩
       · simp[results,Tryz.results111,go_sem,gv,ev,hc0,hc1,hc2]
       · exact ((HB4.out.setCell (Nat.le_refl _) _).setCell (Nat.le_refl _) _).setCell (Nat.le_refl _) _
     | true=>
       obtain rfl:=HSY.out hmay;refine (encode_yes _ k p y hd HH.out hmay).mono ?_;rintro e w3 ⟨g,hg,rfl,hrow,hb3⟩;have he:=equal_any (some ⟨b,o,none⟩) (some ⟨g,0,none⟩) c 8 l (ln k p y) (H2.out.keep hb3) (row_pack hrow (ln_len _ _ _) (ln_u64 hmay));rw[HL.out,ln_len] at he;have HE:=hid he;have HX3:=hid (HX2.out.keep hb3);have HG3:=hid (HG2.out.keep hb3);have HB3:=hid (HB2.out.trans (hb3.mono HB2.out.size));have HM:=hid hmay;clear hb3 hmay HX2 HB2 H2 he hrow HG2 HMS HSY;go_wp2_with fail
       refine HE.out.mono ?_;rintro e w4 ⟨rfl,q,hq⟩;have HX4:=hid (show Own w4 w.heap.size 0 0 0 by rw[hq];exact HX3.out.drewN q);have HG4:=hid (show Box w4 k1 k hd y by rw[hq];exact HG3.out.drewN q);have HB4:=hid (show Below w.heap.size w w4 by rw[hq];exact Pack.below_drewN HB3.out q);clear hq HX3 HG3 HB3 HE;by_cases hls:l=ln k p y
       · have HN:=hid (show dec l=some (k,p,y) by rw[HD.out,if_pos ⟨HM.out,hls⟩])
         rw[decide_eq_true hls];have hc0:=HX4.out.box.c0;have hc1:=HX4.out.box.c1;have hc2:=HX4.out.box.c2;have hf0:=HX4.out.f 0;have hf1:=HX4.out.f 1;have hf2:=HX4.out.f 2;have hg0:=HG4.out.c0;have hg1:=HG4.out.c1;have hg2:=HG4.out.c2;clear hls HD HM;go_wp2
         rw[HN.out];refine bodyPost_ret (v:=.tuple #[gv (some (k,p,y)),.int .i64 (ev (some (k,p,y)))]) ?_ rfl ⟨rfl,?_⟩
         · simp[results,Tryz.results111,go_sem,gv,ev,hc0,hc1,hc2,HH.out]
         · exact ((HB4.out.setCell (Nat.le_refl _) _).setCell (Nat.le_refl _) _).setCell (Nat.le_refl _) _
       · have HN:=hid (show dec l=none by rw[HD.out,if_neg (fun h=>hls h.2)])
         rw[decide_eq_false hls];clear hls HD HM;go_wp2_with fail
         refine (HNN.out _).mono ?_;rintro e w5 ⟨rfl,hb5⟩;have HX5:=hid (HX4.out.keep hb5);have HB5:=hid (HB4.out.trans (hb5.mono HB4.out.size));clear hb5 HX4 HB4;have hc0:=HX5.out.box.c0;have hc1:=HX5.out.box.c1;have hc2:=HX5.out.box.c2;have hf0:=HX5.out.f 0;have hf1:=HX5.out.f 1;have hf2:=HX5.out.f 2;go_wp2
         rw[HN.out];refine bodyPost_ret (v:=.tuple #[gv none,.int .i64 (ev none)]) ?_ rfl ⟨rfl,?_⟩
         · simp[results,Tryz.results111,go_sem,gv,ev,hc0,hc1,hc2]
         · exact ((HB5.out.setCell (Nat.le_refl _) _).setCell (Nat.le_refl _) _).setCell (Nat.le_refl _) _
   · have HN:=hid (show dec l=none by
      unfold dec;simp only[HD0.out];exact if_neg (fun h=>h32 h.2.1))
     have HS:=hid (split_no (w.alloc (.cells #[.int .i64 0,.int .i64 0,.int .i64 0] 95)) (w.heap.size+1) (World.size_alloc _ _) x hx h32);go_enter Tryz.func111,Tryz.ntmps111
     go_wp2_with fail
     refine HS.out.mono ?_;rintro e w1 ⟨G,gc,rfl,hb1⟩;have HX1:=hid (HX.out.keep hb1);have HB1:=hid (HB.out.trans (hb1.mono HB.out.size));clear hb1;go_wp2_with fail
     refine (HNN.out _).mono ?_;rintro e w5 ⟨rfl,hb5⟩;have HX5:=hid (HX1.out.keep hb5);have HB5:=hid (HB1.out.trans (hb5.mono HB1.out.size));clear hb5 HX1 HB1;have hc0:=HX5.out.box.c0;have hc1:=HX5.out.box.c1;have hc2:=HX5.out.box.c2;have hf0:=HX5.out.f 0;have hf1:=HX5.out.f 1;have hf2:=HX5.out.f 2;go_wp2
     rw[HN.out];refine bodyPost_ret (v:=.tuple #[gv none,.int .i64 (ev none)]) ?_ rfl ⟨rfl,?_⟩
     · simp[results,Tryz.results111,go_sem,gv,ev,hc0,hc1,hc2]
     · exact ((HB5.out.setCell (Nat.le_refl _) _).setCell (Nat.le_refl _) _).setCell (Nat.le_refl _) _
 · have HN:=hid (show dec l=none by
    unfold dec;exact if_neg (fun h=>hl h.1))
   have hl':¬ (l.length:Int)=8:=by omega
   go_enter Tryz.func111,Tryz.ntmps111
   go_wp2_with fail
   refine (HNN.out _).mono ?_;rintro e w5 ⟨rfl,hb5⟩;have HX5:=hid (HX.out.keep hb5);have HB5:=hid (HB.out.trans (hb5.mono HB.out.size));clear hb5 HX HB;have hc0:=HX5.out.box.c0;have hc1:=HX5.out.box.c1;have hc2:=HX5.out.box.c2;have hf0:=HX5.out.f 0;have hf1:=HX5.out.f 1;have hf2:=HX5.out.f 2;go_wp2
   rw[HN.out];refine bodyPost_ret (v:=.tuple #[gv none,.int .i64 (ev none)]) ?_ rfl ⟨rfl,?_⟩
   · simp[results,Tryz.results111,go_sem,gv,ev,hc0,hc1,hc2]
   · exact ((HB5.out.setCell (Nat.le_refl _) _).setCell (Nat.le_refl _) _).setCell (Nat.le_refl _) _
end
end Ino
end
section
open Lib (hid)
open Go.RowKit Go.MapKept
namespace Vol
theorem row_words {w:World} {g n:Nat} {l:List Nat} (h:w.rowIs g 50 n (fun i=>.int .u64 ((l[i]?.getD 0:Nat):Int))) (hl:l.length=n) (hn:n≤4194304) (hu:∀ x∈l,x < 18446744073709551616):Pack.Wds w (some ⟨g,0,none⟩) l:=
 ⟨hu,by omega,fun j hj=>⟨g,0,rfl,h.lt,by
   rw[Nat.zero_add,h.cell (by omega),List.getElem?_eq_getElem hj]
   rfl⟩⟩
theorem bel_d (V:World):Below V.heap.size V V.drew:=⟨rfl,rfl,rfl,Nat.le_refl _,fun _ _=>rfl⟩
section
variable {Q Q' : Nat → Prop} {w w' : World} {vb a n m s : Nat} {W : List Nat} {st sn : Nat}
theorem inode_place (h:Vo Q w vb a n m s W st sn) (i:Nat) (hi:i < m) (w':World):Calls Tryz.prog 109 #[.agg #[.int .i64 n,.int .i64 m,.int .i64 s],.int .i64 (i:Int)] w' fun r w''=>r = .returned (.int .i64 ((16+8 * i:Nat):Int))∧Below w'.heap.size w' w'':=by
 have hp:=Geo.inode_any w' (n:Int) (m:Int) (s:Int) (i:Int);rw[Geo.plc_yes h.may (by omega) (by omega),show (16:Int)+(i:Int) * 8=((16+8 * i:Nat):Int) by omega] at hp;exact hp
theorem inode_none {i:Int} (h:i < 0∨(m:Int)≤i) (w:World):Calls Tryz.prog 109 #[.agg #[.int .i64 n,.int .i64 m,.int .i64 s],.int .i64 i] w fun r w''=>r = .returned (.int .i64 (-1))∧Below w.heap.size w w'':=by
 have hp:=Geo.inode_any w (n:Int) (m:Int) (s:Int) i;rw[Geo.plc_out (by omega)] at hp;exact hp
theorem inode_in (h:Vo Q w vb a n m s W st sn) {i:Nat} (hi:i < m):16+8 * i+8≤W.length∧i≤65534:=by
 obtain⟨h1,h2,h3⟩:=h.num
 have h4:=Geo.bm_bounds h1 h2;have h5:=Geo.bk_bounds h1 h2;have h6:=Geo.fin_bounds h1 h2 h3;have h7:=h.len;unfold Geo.fin at h7;omega
theorem gv_ino (q:Option (Nat × Nat × Nat)):∃ x y z:Int,Ino.gv q = .agg #[.int .i64 x,.int .i64 y,.int .i64 z]:=by
 cases q with
 | none=>exact⟨0,-1,0,rfl⟩
 | some t=>exact⟨_,_,_,rfl⟩
theorem inode_no (h:Vo Q w vb a n m s W st sn) (i:Int) (hi:i < 0∨(m:Int)≤i) :
 Calls Tryz.prog 59 #[.pointer (some ⟨vb,0,none⟩),.int .i64 i] w fun r w'=>r = .returned (.tuple #[.agg #[.int .i64 0,.int .i64 (-1),.int .i64 0],.int .i64 9])∧Below w.heap.size w w':=by
 obtain⟨c0,c1,c2,c3⟩:=h.cells
 have hlt:=h.lt;have HP:=hid (fun w=>inode_none (n:=n) (s:=s) hi w);have HN:=hid (fun w=>isNone_any w (-1));have HI:=hid (fun w=>Ino.none_any w);have HX:=hid (Lin.owned w 0 0 0 95);have HB0:=hid ((Below.refl w.heap.size w).alloc (Nat.le_refl _) (.cells #[.int .i64 0,.int .i64 0,.int .i64 0] 95));clear h hi;go_enter Tryz.func59,Tryz.ntmps59
 go_wp2_with fail
 generalize w.alloc (.cells #[.int .i64 0,.int .i64 0,.int .i64 0] 95)=w0 at *;refine (HP.out _).mono ?_;rintro r w1 ⟨rfl,hb⟩;have HB:=hid (HB0.out.trans (hb.mono HB0.out.size));have HX1:=hid (HX.out.keep hb);clear hb HP HX HB0;go_wp2_with fail
 refine (HN.out _).mono ?_;rintro r w2 ⟨rfl,rfl⟩;go_wp2_with fail
 refine (HI.out _).mono ?_;rintro r w2 ⟨rfl,hb⟩;have HB2:=hid (HB.out.trans (hb.mono HB.out.size));have HX2:=hid (HX1.out.keep hb);clear hb HX1 HB;have hc0:=HX2.out.box.c0;have hc1:=HX2.out.box.c1;have hc2:=HX2.out.box.c2;have hf0:=HX2.out.f 0;have hf1:=HX2.out.f 1;have hf2:=HX2.out.f 2;have hl1:=HX2.out.box.lt;go_wp2
 refine bodyPost_ret (v:=.tuple #[.agg #[.int .i64 0,.int .i64 (-1),.int .i64 0],.int .i64 9]) ?_ rfl ⟨rfl,?_⟩
 · simp[results,Tryz.results59,go_sem,hc0,hc1,hc2]
 · exact ((HB2.out.setCell (Nat.le_refl _) _).setCell (Nat.le_refl _) _).setCell (Nat.le_refl _) _
theorem inode_yes (h:Vo Q w vb a n m s W st sn) (i:Nat) (hi:i < m) :
 Calls Tryz.prog 59 #[.pointer (some ⟨vb,0,none⟩),.int .i64 (i:Int)] w fun r w'=>
  r = .returned (.tuple #[Ino.gv (Ino.dec (rdw W (16+8 * i) 8)),.int .i64 (Ino.ev (Ino.dec (rdw W (16+8 * i) 8)))])∧Below w.heap.size w w':=by
 obtain⟨c0,c1,c2,c3⟩:=h.cells
 have hlt:=h.lt;have hin:=inode_in h hi;have HP:=hid (inode_place h i hi);have HX:=hid (Lin.owned w 0 0 0 95);have HB0:=hid ((Below.refl w.heap.size w).alloc (Nat.le_refl _) (.cells #[.int .i64 0,.int .i64 0,.int .i64 0] 95));have HRD:=hid (fun w' (hb:Below w.heap.size w w')=>read_any (h.up.keep hb) (16+8 * i) 8 (by omega) (by omega));have hru:=rdw_u64 h.up.u64 (16+8 * i) 8;have hrl:=rdw_len W (16+8 * i) 8;have hp0:=pos_not (16+8 * i);generalize rdw W (16+8 * i) 8=L at *;generalize 16+8 * i=p at *;have HN:=hid (fun w=>isNone_any w (p:Int));rw[hp0] at HN
 have HD:=hid (fun (w':World) (g:Nat) (hr:w'.rowIs g 50 8 (fun i=>.int .u64 ((L[i]?.getD 0:Nat):Int)))=>show Calls Tryz.prog 111 #[.slice (some ⟨g,0,none⟩) 8 8] w' _ from by
  have hd:=Ino.decode_any (some ⟨g,0,none⟩) 8 L (row_words hr hrl (by omega) hru);rw[hrl] at hd;exact hd)
 obtain⟨g0,g1,g2,hg⟩:=gv_ino (Ino.dec L)
 rw[hg] at HD ⊢;generalize Ino.ev (Ino.dec L)=e at *;have H:=hid h;clear h hi hg hp0 hin hru hrl;go_enter Tryz.func59,Tryz.ntmps59
 go_wp2_with fail
 generalize w.alloc (.cells #[.int .i64 0,.int .i64 0,.int .i64 0] 95)=w0 at *;refine (HP.out _).mono ?_;rintro r w1 ⟨rfl,hb⟩;have HB:=hid (HB0.out.trans (hb.mono HB0.out.size));have HX1:=hid (HX.out.keep hb);clear hb HP HX c0 c1 c2 c3
 obtain⟨c0,_,_,_⟩:=(H.out.keep HB.out).cells
 have hl2:=(H.out.keep HB.out).lt;go_wp2_with fail
 refine (HN.out _).mono ?_;rintro r w2 ⟨rfl,rfl⟩;go_wp2_with fail
 refine (HRD.out _ HB.out).mono ?_;rintro r w2 ⟨gr,rfl,_,hrow,hb⟩;have HROW:=hid hrow;have HB2:=hid (HB.out.trans (hb.mono HB.out.size));have HX2:=hid (HX1.out.keep hb);clear hb hrow HX1 HB HRD c0;go_wp2_with fail
 refine (HD.out _ _ HROW.out).mono ?_;rintro r w3 ⟨rfl,hb⟩;have HB3:=hid (HB2.out.trans (hb.mono HB2.out.size));have HX3:=hid (HX2.out.keep hb);clear hb HX2 HB2 HD HROW;have hc0:=HX3.out.box.c0;have hc1:=HX3.out.box.c1;have hc2:=HX3.out.box.c2;have hf0:=HX3.out.f 0;have hf1:=HX3.out.f 1;have hf2:=HX3.out.f 2;go_wp2
 refine bodyPost_ret (v:=.tuple #[.agg #[.int .i64 g0,.int .i64 g1,.int .i64 g2],.int .i64 e]) ?_ rfl ⟨rfl,?_⟩
 · simp[results,Tryz.results59,go_sem,hc0,hc1,hc2]
 · exact ((HB3.out.setCell (Nat.le_refl _) _).setCell (Nat.le_refl _) _).setCell (Nat.le_refl _) _
end
end Vol
end
section
open Lib (hid)
open Go.RowKit Go.MapKept
namespace Vol
section
variable {Q Q' : Nat → Prop} {w w' : World} {vb a n m s : Nat} {W : List Nat} {st sn : Nat}
theorem Vo.blk (h:Vo Q w vb a n m s W st sn):∃ bk q:Nat,Geo.bkAt n m=(bk:Int)∧s=8 * q∧8≤q∧q≤512∧W.length=bk+n * q∧bk≤610000:=by
 obtain⟨h1,h2,h3⟩:=h.num
 have h4:=Geo.bk_bounds h1 h2;have h5:=h3.bounds
 obtain⟨bk,hbk⟩:=Int.eq_ofNat_of_zero_le h4.2.2.2.2
 refine⟨bk,s / 8,hbk,by omega,by omega,by omega,?_,by omega⟩
 have h7:=h.len;unfold Geo.fin at h7;rw[hbk] at h7
 have:((n * (s / 8):Nat):Int)=(n:Int) * ((s:Int) / 8):=by simp
 omega
theorem block_in (n q b:Nat) (h:b < n):b * q+q≤n * q:=by
 have:=Nat.mul_le_mul_right q (Nat.succ_le_of_lt h)
 rw[Nat.succ_mul] at this;exact this
theorem block_place (h:Vo Q w vb a n m s W st sn) {bk q:Nat} (hbk:Geo.bkAt n m=(bk:Int)) (hq:s=8 * q) (i:Nat) (hi:i < n) (w':World):Calls Tryz.prog 160 #[.agg #[.int .i64 n,.int .i64 m,.int .i64 s],.int .i64 (i:Int)] w' fun r w''=>r = .returned (.int .i64 ((bk+i * q:Nat):Int))∧Below w'.heap.size w' w'':=by
 have h1:=h.num.1;have h3:=h.num.2.2.bounds;have hp:=Geo.block_any w' (n:Int) (m:Int) (s:Int) (i:Int) (by unfold Geo.I64;omega) (by unfold Geo.I64;omega);rw[Geo.plc_yes h.may (by omega) (by omega),hbk,show (s:Int) / 8=(q:Int) by omega,show (bk:Int)+(i:Int) * (q:Int)=((bk+i * q:Nat):Int) by simp] at hp;exact hp
theorem block_yes (h:Vo Q w vb a n m s W st sn) {bk q:Nat} (hbk:Geo.bkAt n m=(bk:Int)) (hq:s=8 * q) (i:Nat) (hi:i < n) :
 Calls Tryz.prog 98 #[.pointer (some ⟨vb,0,none⟩),.int .i64 (i:Int)] w fun r w'=>
  ∃ (G:Option Addr) (gc:Nat),r = .returned (.tuple #[.slice G (8 * q) gc,.int .i64 0])∧8 * q≤gc∧Pack.Bts w' G (Pack.wflat (rdw W (bk+i * q) q))∧Below w.heap.size w w':=by
 obtain⟨c0,c1,c2,c3⟩:=h.cells
 have hlt:=h.lt
 obtain⟨bk',q',e1,e2,hq8,hq5,hWl,hbk6⟩:=h.blk
 obtain rfl:bk'=bk:=by omega
 obtain rfl:q'=q:=by omega
 have hsz:=h.up.size;have hin:=block_in n q' i hi;have HP:=hid (block_place h hbk hq i hi)
 have HEA:=hid (fun w=>show Calls Tryz.prog 162 #[.agg #[.int .i64 n,.int .i64 m,.int .i64 s]] w _ from by
  have he:=Geo.each_any w (n:Int) (m:Int) (s:Int);rw[Geo.iff_yes h.may,show (s:Int) / 8=(q':Int) by omega] at he;exact he)
 have hp0:=pos_not (bk'+i * q');have hru:=rdw_u64 h.up.u64 (bk'+i * q') q';have hrl:=rdw_len W (bk'+i * q') q';have HRD:=hid (fun w' (hb:Below w.heap.size w w')=>read_any (h.up.keep hb) (bk'+i * q') q' (by omega) (by omega));generalize rdw W (bk'+i * q') q'=L at *;generalize bk'+i * q'=p at *;have HN:=hid (fun w=>isNone_any w (p:Int));rw[hp0] at HN
 have HBY:=hid (fun (w':World) (g:Nat) (hr:w'.rowIs g 50 q' (fun i=>.int .u64 ((L[i]?.getD 0:Nat):Int)))=>show Calls Tryz.prog 161 #[.slice (some ⟨g,0,none⟩) q' q'] w' _ from by
  have hd:=Pack.bytes_any (some ⟨g,0,none⟩) q' L (row_words hr hrl (by omega) hru) (by omega);rw[hrl] at hd;exact hd)
 have H:=hid h;have HQQ:=hid hq;clear h hi hp0 hin hru hrl e1 e2 hbk hq hWl hsz;go_enter Tryz.func98,Tryz.ntmps98
 go_wp2_with fail
 refine (HP.out _).mono ?_;rintro r w1 ⟨rfl,hb⟩;have HB:=hid hb;clear hb HP c0 c1 c2 c3
 obtain⟨c0,c1,c2,c3⟩:=(H.out.keep HB.out).cells
 have hl2:=(H.out.keep HB.out).lt;go_wp2_with fail
 refine (HN.out _).mono ?_;rintro r w2 ⟨rfl,rfl⟩;go_wp2_with fail
 go_region_held3 (fun W'=>W'.cell? ⟨vb,0,none⟩=some (.pointer (some ⟨a,0,none⟩))∧W'.cell? ⟨vb,1,none⟩=some (.int .i64 (n:Int))∧W'.cell? ⟨vb,2,none⟩=some (.int .i64 (m:Int))∧W'.cell? ⟨vb,3,none⟩=some (.int .i64 (s:Int))) (go_keep)
  (first
  | (go_at_call 162
     with_reducible refine (HEA.out _).mono ?_
     rintro e w3 ⟨rfl,hb⟩;have HB3:=hid (HB.out.trans (((bel_d w1).trans (hb.mono (bel_d w1).size)).mono HB.out.size))
     obtain⟨d0,d1,d2,d3⟩:=(H.out.keep HB3.out).cells
     have hl3:=(H.out.keep HB3.out).lt;clear hb)
  | (go_at_call 31
     with_reducible refine (HRD.out _ HB3.out).mono ?_
     rintro e w4 ⟨gr,rfl,_,hrow,hb⟩;have HROW:=hid hrow;have HB4:=hid (HB3.out.trans (hb.mono HB3.out.size))
     obtain⟨f0,f1,f2,f3⟩:=(H.out.keep HB4.out).cells
     have hl4:=(H.out.keep HB4.out).lt;clear hb hrow)
  | (go_at_call 161
     with_reducible refine (HBY.out _ _ HROW.out).mono ?_
     rintro e w5 ⟨G,gc,rfl,hgc,hbts,hb⟩;have HBT:=hid hbts;have HGC:=hid hgc;have HB5:=hid (HB4.out.trans (hb.mono HB4.out.size))
     obtain⟨g0,g1,g2,g3⟩:=(H.out.keep HB5.out).cells
     have hl5:=(H.out.keep HB5.out).lt;clear hb hbts hgc))
 go_wp2
 go_ret2
 exact⟨G,gc,rfl,HGC.out,HBT.out,HB5.out⟩
end
end Vol
end
section
open Lib (hid)
open Go.RowKit Go.MapKept
namespace Fld
open Clm (Cl Pc Cq Ok Oks need chain_yes inode_yes inode_no ChTo)
open Chn (Pt New Prt slots Mays tot blk blk_len own_prt own_keep3 own_new row_base_lt3 row_cap3 blocks_new)
open Vol (Vo Hb hb_new hb_grown rdw rdw_len block_yes)
open Pack (Nts)
section
variable {w : World} {P : Pc} {n m : Nat} {L : List Cl} {N C X : Array Value}
theorem hdr (W:World):Below W.heap.size W W.drew:=⟨rfl,rfl,rfl,Nat.le_refl _,fun _ _=>rfl⟩
theorem bytes_none (v i:Value) (HI:∀ w',Below w.heap.size w w'→Calls Tryz.prog 39 #[.pointer (some ⟨P.c,0,none⟩),i] w' fun r w''=>r = .returned (.agg #[.int .i64 0,.int .i64 (-1),.int .i64 0])∧Below w'.heap.size w' w'') :
 Calls Tryz.prog 46 #[v,.pointer (some ⟨P.c,0,none⟩),i] w fun r w'=>r = .returned (.tuple #[.slice none 0 0,.int .i64 4])∧Below w.heap.size w w':=by
 have HI:=hid HI;have HN:=hid (fun w=>Ino.none_any w);go_enter Tryz.func46,Tryz.ntmps46
 go_wp2_with fail
 refine (HI.out _ (Below.refl _ _)).mono ?_;rintro r w1 ⟨rfl,hb1⟩;have hal:=(Below.refl w1.heap.size w1).alloc (Nat.le_refl _) (.cells #[.int .i64 0,.int .i64 (-1),.int .i64 0] 95);have HB:=hid (hb1.trans (hal.mono hb1.size));have HX:=hid (hb_new w1 #[.int .i64 0,.int .i64 (-1),.int .i64 0] 95);clear hb1 hal HI;go_wp2_with fail
 generalize w1.alloc (.cells #[.int .i64 0,.int .i64 (-1),.int .i64 0] 95)=w2 at *;generalize w1.heap.size=xb at *;have c0:=HX.out.cell 0;have c1:=HX.out.cell 1;have c2:=HX.out.cell 2;have xl:=HX.out.lt
 go_region_held3 (fun W'=>W'.cell? ⟨xb,0,none⟩=some (.int .i64 0)∧W'.cell? ⟨xb,1,none⟩=some (.int .i64 (-1))∧W'.cell? ⟨xb,2,none⟩=some (.int .i64 0)) (go_keep)
  (first
  | (go_at_call 78
     with_reducible refine (HN.out _).mono ?_
     rintro e w3 ⟨rfl,hb⟩;have HX3:=hid ((HX.out.keep (hdr _)).keep hb);have HB3:=hid (HB.out.trans (((hdr w2).trans (hb.mono (hdr w2).size)).mono HB.out.size));have d0:=HX3.out.cell 0;have d1:=HX3.out.cell 1;have d2:=HX3.out.cell 2;have dl:=HX3.out.lt;clear hb))
 go_wp2
 go_ret2
 exact⟨rfl,HB3.out⟩
theorem bytes_free (v:Value) (h:Cq w P n m L N C X) (hL:L.length=m) (i:Nat) (hi:i < L.length) (hk:L[i].k=0) (hp:L[i].p=0) (hz:L[i].z=0) :
 Calls Tryz.prog 46 #[v,.pointer (some ⟨P.c,0,none⟩),.int .i64 (i:Int)] w fun r w'=>r = .returned (.tuple #[.slice none 0 0,.int .i64 4])∧Below w.heap.size w w':=
 bytes_none v (.int .i64 (i:Int)) fun w' hb=>by
  have:=inode_yes (h.keep hb) hL i hi
  rw[hk,hp,hz] at this;exact this
end
theorem nts_grown {w w':World} {A:Option Addr} {l:List Int} {row:Option Nat} (h:Nts w A l) (hg:w.grownBy w' row) (hn:∀ ad,A=some ad→row≠some ad.block):Nts w' A l:=
 ⟨h.i64,h.len,fun j hj=>by
   obtain⟨b,o,e,hb,hc⟩:=h.at' j hj
   exact⟨b,o,e,Nat.lt_of_lt_of_le hb hg.size,hg.cell hc (fun e'=>hn _ e e'.symm)⟩⟩
theorem take_news {W:World} {ad:Addr} {l:List Nat} (h:Pack.Bts W (some ad) l) (k:Nat):∀ j u,(Crc.u8s (l.take k))[j]? = some u→W.cell? (ad.add j)=some u:=by
 intro j u hu
 have hj:j < l.length:=by
  rcases Nat.lt_or_ge j l.length with hj | hj
  · exact hj
  · rw[List.getElem?_eq_none (by simp[Crc.u8s];omega)] at hu
    cases hu
 obtain⟨b,o,e,_,hc⟩:=h.at' j hj
 injection e with e
 subst e;rw[Go.WideShapes.add_plain,hc,← hu]
 have hk:j < k:=by
  rcases Nat.lt_or_ge j k with hk | hk
  · exact hk
  · rw[List.getElem?_eq_none (by simp[Crc.u8s];omega)] at hu
    cases hu
 simp[Crc.u8s,hk,List.getElem?_eq_getElem hj]
theorem row_none {w:World} {B n c s:Nat} {e:TypeId} {G:Option Addr} {xs:List Value} (h:w.ownsRow B e s (.slice G n c) n xs) (hG:G=none):c=0:=by
 subst hG
 rcases h.2 with ⟨e,_⟩ | ⟨g,c',cur,e,_⟩
 · injection e
 · injection e with e _ _
   cases e
section
variable {Q : Nat → Prop} {w : World} {P : Pc} {vb a n m s st sn : Nat} {W : List Nat} {L : List Cl} {N C X : Array Value}
theorem bytes_yes (hv:Vo Q w vb a n m s W st sn) (h:Cq w P n m L N C X) (hL:L.length=m) (f:Nat→Option (Nat × Nat × Nat)) (hf:∀ i x c q,f i=some (x,c,q)→Slo.may (x:Int) (c:Int) (Slo.nx q)=true)
 {bk q:Nat} (hbk:Geo.bkAt n m=(bk:Int)) (hq:s=8 * q) (i:Nat) (hi:i < L.length) (ho:Ok f n s L[i]) (hk:L[i].k≠0) :
 Calls Tryz.prog 46 #[.pointer (some ⟨vb,0,none⟩),.pointer (some ⟨P.c,0,none⟩),.int .i64 (i:Int)] w fun r w'=>
  ∃ (G:Option Addr) (gc:Nat),r = .returned (.tuple #[.slice G L[i].z gc,.int .i64 0])∧Crc.Bts w' G (fby W bk q L[i])∧L[i].z≤gc∧(New w.heap.size G∧(G=none→gc=0))∧Below w.heap.size w w':=by
 obtain⟨bk',q',e1,e2,hq8,hq5,hWl,hbk6⟩:=hv.blk
 obtain rfl:bk'=bk:=by omega
 obtain rfl:q'=q:=by omega
 have hn:=hv.may;have hfew:=ho.few;have hmay:=ho.mays hf;have hlt:=ho.blk_lt;have htot:=ho.tot;have HN:=hid (fun w=>Ino.none_any w);have HI:=hid (fun w' (hb:Below w.heap.size w w')=>inode_yes (h.keep hb) hL i hi);have HC:=hid (fun w' (hb:Below w.heap.size w w') (hl:L[i].l.length≤65534)=>chain_yes (h.keep hb) hL i hi hl);have HBK:=hid (fun w' (hb:Below w.heap.size w w') (j:Nat) (hj:j < n)=>block_yes (hv.keep hb) hbk hq j hj);generalize L[i]=c at *
 obtain⟨ck,cp,cz,l⟩:=c
 simp only at hk hfew hmay hlt htot HI HC ⊢
 have hz:cz≤268435456:=by
  have:=of_decide_eq_true ho.may
  unfold Ino.May at this;simp only at this;omega
 have hn6:l.length≤65534:=by
  have:=hv.num.1
  omega
 have HE:=hid (fby_len (c:=⟨ck,cp,cz,l⟩) (by rw[← hq];exact htot) (show 0 < q' by omega):(fby W bk' q' ⟨ck,cp,cz,l⟩).length=cz);have HFB:=hid (show fby W bk' q' ⟨ck,cp,cz,l⟩=(bbs W bk' q' (blk l)).take cz from rfl);have HFY:=hid (fby_byt W bk' q' ⟨ck,cp,cz,l⟩);have HBL:=hid (blk_len l);have HM:=hid hmay;have HLT:=hid hlt;generalize fby W bk' q' ⟨ck,cp,cz,l⟩=F at *;generalize (cp:Int) - 1=hd at *;clear hv h hf ho htot hWl hbk6 hfew hn hbk e1 hmay hlt;go_enter Tryz.func46,Tryz.ntmps46
 go_wp2_with fail
 refine (HI.out _ (Below.refl _ _)).mono ?_;rintro r w1 ⟨rfl,hb1⟩;have hal:=(Below.refl w1.heap.size w1).alloc (Nat.le_refl _) (.cells #[.int .i64 (ck:Int),.int .i64 hd,.int .i64 (cz:Int)] 95);have HB:=hid (hb1.trans (hal.mono hb1.size));have HX:=hid (hb_new w1 #[.int .i64 (ck:Int),.int .i64 hd,.int .i64 (cz:Int)] 95);clear hb1 hal HI;go_wp2_with fail
 generalize w1.alloc (.cells #[.int .i64 (ck:Int),.int .i64 hd,.int .i64 (cz:Int)] 95)=w2 at *;generalize w1.heap.size=xb at *;have c0:=HX.out.cell 0;have c1:=HX.out.cell 1;have c2:=HX.out.cell 2;have xl:=HX.out.lt
 go_region_held3 (fun W'=>W'.cell? ⟨xb,0,none⟩=some (.int .i64 (ck:Int))∧W'.cell? ⟨xb,1,none⟩=some (.int .i64 hd)∧W'.cell? ⟨xb,2,none⟩=some (.int .i64 (cz:Int))) (go_keep)
  (first
  | (go_at_call 78
     with_reducible refine (HN.out _).mono ?_
     rintro e w3 ⟨rfl,hb⟩;have HX3:=hid ((HX.out.keep (hdr _)).keep hb);have HB3:=hid (HB.out.trans (((hdr w2).trans (hb.mono (hdr w2).size)).mono HB.out.size));have d0:=HX3.out.cell 0;have d1:=HX3.out.cell 1;have d2:=HX3.out.cell 2;have dl:=HX3.out.lt;clear hb))
 obtain⟨i0,hi0,hz0,hz1,hz2⟩:=info_parts Pack.u8_info
 obtain⟨w4,hmk,hown,hgr⟩:=run_make_own (P:=Tryz.prog) w3 w.heap.size 112 5 i0 (.int .u8 0) 1 Tryz.underlying112 hi0 hz0 hz1 .i64 .i64 cz (by rw[hz2];omega) (by unfold maxLen;omega) HB3.out.size
 have HB4:=hid (HB3.out.grown hgr HB3.out.size (fun k hk=>by cases hk));have HO4:=hid hown;have HX4:=hid (hb_grown HX3.out hgr (fun e=>by cases e));clear hown hgr;generalize w3.heap.size=g0 at *;go_wp2_with fail
 clear hmk c0 c1 c2 xl d0 d1 d2 dl HX HB HN HX3 HB3;refine (HC.out _ HB4.out hn6).mono ?_;rintro r w5 ⟨A,a5,D,d5,rfl,ha5,hd5,hb5⟩
 obtain⟨hprt,_⟩:=own_prt hd5
 have HB5:=hid (HB4.out.trans (hb5.mono HB4.out.size));have HO5:=hid (own_keep3 HO4.out hb5);have HX5:=hid (HX4.out.keep hb5);have HBS:=hid (blocks_new w5 A D l.length a5 d5 l hprt HM.out hn6);clear hb5 ha5 hd5 hprt HC HO4 HX4 HB4;go_wp2_with fail
 refine HBS.out.mono ?_;rintro r w6 ⟨G6,c6,rfl,hnts,hn6',hb6⟩;have HB6:=hid (HB5.out.trans (hb6.mono HB5.out.size));have HO6:=hid (own_keep3 HO5.out hb6);have HX6:=hid (HX5.out.keep hb6);have HNT:=hid hnts
 have HNW:=hid (fun ad (e:G6=some ad)=>(show (Value.slice (some ⟨g0,0,none⟩) 0 cz).ownBlock≠some ad.block from by
  intro k;have h1:=hn6' ad e;have h2:=(World.ownsRow.lt HO5.out g0 rfl).2
  have:g0=ad.block:=by injection k
  omega))
 clear hb6 hnts hn6' HBS HB5 HO5 HX5;rw[← HBL.out];generalize blk l=bs at *;clear HM hn6;go_wp2_with fail
 go_loopw [9,28] (fun v i wr=>∃ (j:Nat) (G:Option Addr) (gc:Nat),j≤bs.length∧i = .int .i64 (j:Int)∧v = .slice G (upto W bk' q' cz bs j).length gc∧wr.ownsRow w.heap.size 5 1 (.slice G (upto W bk' q' cz bs j).length gc) (upto W bk' q' cz bs j).length (Crc.u8s (upto W bk' q' cz bs j)) ∧
  Nts wr G6 (bs.map Int.ofNat)∧(∀ ad,G6=some ad→(Value.slice G (upto W bk' q' cz bs j).length gc).ownBlock≠some ad.block)∧Hb wr xb #[.int .i64 (ck:Int),.int .i64 hd,.int .i64 (cz:Int)] 95∧Below w.heap.size w wr) (fun _ i _=>bs.length - (intOf i).toNat)
 case atStart=>
  refine⟨0,some ⟨g0,0,none⟩,cz,Nat.zero_le _,rfl,?_,?_,HNT.out,?_,HX6.out,HB6.out⟩
  · rw[upto_zero];rfl
  · rw[upto_zero];exact HO6.out
  · rw[upto_zero];exact HNW.out
 case round=>
  obtain⟨j,G,gc,hj,rfl,rfl,hrow,hnt,hnw,hx,hb⟩:=hrel
  clear HO6 HB6 HX6 HNT HNW;by_cases hlt:j < bs.length
  · have hbj:=HLT.out bs[j] (List.getElem_mem hlt)
    obtain⟨b,o,rfl,hbb,hc0⟩:=hnt.at' j (by simpa using hlt)
    rw[show (bs.map Int.ofNat)[j]'(by simpa using hlt)=(bs[j]:Int) by simp] at hc0;have HU:=hid (upto_snoc W bk' q' cz bs j hlt _ rfl);have HUL:=hid (upto_len W bk' q' cz bs j (by omega));have HUL2:=hid (upto_len W bk' q' cz bs (j+1) (by omega));have HBBL:=hid (bb_len W bk' q' bs[j]);have HBL2:=hid (fun w' (hb:Below w.heap.size w w')=>HBK.out w' hb bs[j] hbj);generalize bs[j]=bj at *;generalize hT2:upto W bk' q' cz bs (j+1)=T2 at *;have HT2:=hid hT2;clear hT2;have h63:bs.length≤9223372036854775807:=by have:=hnt.len;simpa using this
    generalize upto W bk' q' cz bs j=T at *;have hTz:T.length≤cz:=by have:=HUL.out;omega
    have hcap:=row_cap3 hrow;have HNT:=hid hnt;have HNW:=hid hnw;have HX:=hid hx;have HB:=hid hb;have HR:=hid hrow;clear hnt hx hb hrow hnw HBL;go_wp2_with fail
    refine (HBL2.out _ HB.out).mono ?_;rintro r w8 ⟨Gb,cb,rfl,hcb,hbts,hb8⟩;have hx8:=HX.out.keep hb8;have x2:=hx8.cell 2;have xl:=hx8.lt;have HX8:=hid hx8;have HNT8:=hid (HNT.out.keep hb8);have HR8:=hid (own_keep3 HR.out hb8);have HB8:=hid (HB.out.trans (hb8.mono HB.out.size));have hb8s:=hb8.size;clear hx8 hb8 hc0;have hbts:Pack.Bts w8 Gb (bb W bk' q' bj):=hbts
    obtain⟨b1,o1,rfl,_,_⟩:=hbts.at' 0 (by rw[HBBL.out];omega)
    have HBT:=hid hbts;have HBN:=hid (show b < w8.heap.size from Nat.lt_of_lt_of_le hbb hb8s);clear hbts
    go_wp2_with (at_builtin
                 refine wpList_append_own_at _ rfl (.tmp 41) (.tmp 51) 112 rfl w.heap.size 5 i0 (.int .u8 0) 1 1 Tryz.underlying112 hi0 hz0 hz1 hz2 rfl (by decide) (.slice G T.length gc) T.length (Crc.u8s T) rfl HR8.out ⟨b1,o1,none⟩ (min (8 * (q':Int)) ((cz:Int) - (T.length:Int))).toNat cb (Crc.u8s ((bb W bk' q' bj).take (min (8 * q') (cz - T.length)))) rfl (by have:=HBBL.out;simp[Crc.u8s];omega) (take_news HBT.out _) (Crc.u8s_one _) (by unfold maxLen;omega) (by omega) HB8.out.size ?_
                 go_loud (
                 intro v9 w9 hown9 hgr9 _ hat9
                 obtain⟨G9,c9,rfl⟩:=Crc.row_slice hown9
                 have HX9:=hid (hb_grown HX8.out hgr9 (Vol.hb_apart HX8.out HR8.out (by decide)));have HB9:=hid (HB8.out.grown hgr9 HB8.out.size (fun k hk=>row_base_lt3 HR8.out hk));have HNT9:=hid (nts_grown HNT8.out hgr9 HNW.out)
                 have HNW9:=hid (fun ad (e:(some ⟨b,o,none⟩:Option Addr)=some ad)=>(show (Value.slice G9 (T.length+(min (8 * (q':Int)) ((cz:Int) - (T.length:Int))).toNat) c9).ownBlock≠some ad.block from by
                  injection e with e
                  subst e;intro k
                  rcases hat9 with h9 | h9
                  · exact HNW.out _ rfl (h9.symm.trans k)
                  · have h1:=HBN.out
                    rw[h9] at k;injection k with k
                    simp only at k
                    omega))
                 have HO9:=hid hown9;clear hown9 hgr9 hat9))
    have hlen:T.length+(min (8 * (q':Int)) ((cz:Int) - (T.length:Int))).toNat=T2.length:=by
     have:=HBBL.out
     rw[HU.out,List.length_append,List.length_take];omega
    have ho9:=HO9.out
    have eu:Crc.u8s T2=Crc.u8s T++Crc.u8s ((bb W bk' q' bj).take (min (8 * q') (cz - T.length))):=by
     rw[HU.out];simp[Crc.u8s]
    rw[← eu] at ho9;have HO10:=hid ho9;clear ho9 eu
    go_roundw
    case rel=>exact⟨j+1,G9,c9,by omega,by go_num,by rw[HT2.out,hlen],by rw[HT2.out,← hlen];exact HO10.out,HNT9.out,by rw[HT2.out,← hlen];exact HNW9.out,HX9.out,HB9.out⟩
    case measure=>simp[intOf];omega
  · obtain rfl:j=bs.length:=by omega
    have e:upto W bk' q' cz bs bs.length=F:=by rw[upto_all,← HFB.out]
    rw[e,HE.out] at hrow ⊢;have hcap:=row_cap3 hrow;go_wp2
    go_ret2
    exact⟨G,gc,rfl,Crc.own_bts hrow HFY.out (by omega),hcap,⟨own_new hrow,row_none hrow⟩,hb⟩
end
end Fld
end
section
open Go.RowKit Go.MapKept
namespace Ent
def Right (l:List Nat):Prop:=(1≤l.length∧l.length≤48)∧l≠[46]∧l≠[46,46]∧∀ x∈l,x≠0∧x≠47
instance (l:List Nat):Decidable (Right l):=by unfold Right;infer_instance
def right (l:List Nat):Bool:=decide (Right l)
theorem right_iff {l:List Nat}:right l=true↔Right l:=decide_eq_true_iff
theorem right_no {l:List Nat} (h:¬ Right l):right l=false:=decide_eq_false h
def may (l:List Nat) (i:Int):Bool:=right l && decide (0≤i∧i≤65533)
theorem may_iff {l:List Nat} {i:Int}:may l i=true↔Right l∧0≤i∧i≤65533:=by
 unfold may;rw[Bool.and_eq_true,right_iff,decide_eq_true_iff]
def q4 (x:Nat):List Nat:=[x % 256,x / 256 % 256,x / 65536 % 256,x / 16777216 % 256]
def front (l:List Nat) (i:Nat):List Nat:=[i % 256,i / 256 % 256,l.length,0]++l++List.replicate (56 - l.length) 0
def enc (l:List Nat) (i:Nat):List Nat:=front l i++q4 (Crc.S32 (front l i))
theorem s32_lt (l:List Nat):Crc.S32 l < 4294967296:=by
 unfold Crc.S32;omega
theorem front_len {l:List Nat} (h:l.length≤48) (i:Nat):(front l i).length=60:=by
 unfold front;simp;omega
theorem q4_len (x:Nat):(q4 x).length=4:=rfl
theorem enc_len {l:List Nat} (h:l.length≤48) (i:Nat):(enc l i).length=64:=by
 unfold enc;rw[List.length_append,front_len h,q4_len]
theorem q4_byt (x:Nat):Crc.Byt (q4 x):=by
 intro b hb;simp only[q4,List.mem_cons,List.not_mem_nil,or_false] at hb;omega
theorem front_byt {l:List Nat} (hl:Crc.Byt l) (h:l.length≤48) (i:Nat):Crc.Byt (front l i):=by
 intro b hb;unfold front at hb;simp only[List.mem_append,List.mem_cons,List.not_mem_nil,or_false,List.mem_replicate] at hb
 rcases hb with (hb | hb) | hb
 · omega
 · exact hl b hb
 · omega
theorem enc_byt {l:List Nat} (hl:Crc.Byt l) (h:l.length≤48) (i:Nat):Crc.Byt (enc l i):=(front_byt hl h i).append (q4_byt _)
def name (b:List Nat):List Nat:=(b.drop 4).take (b[2]?.getD 0)
def num (b:List Nat):Nat:=b[0]?.getD 0+256 * b[1]?.getD 0
def dec (b:List Nat):Option (List Nat × Nat):=
 if b.length=64∧b[2]?.getD 0≤48∧may (name b) (num b:Nat)=true∧b=enc (name b) (num b) then some (name b,num b) else none
theorem may_len {l:List Nat} {i:Int} (h:may l i=true):l.length≤48:=(may_iff.1 h).1.1.2
theorem may_nat {l:List Nat} {i:Int} (h:may l i=true):∃ k:Nat,i=(k:Int)∧k≤65533:=by
 have:=may_iff.1 h
 obtain⟨k,rfl⟩:=Int.eq_ofNat_of_zero_le this.2.1
 exact⟨k,rfl,by omega⟩
theorem dec_some {b l:List Nat} {i:Nat} (h:dec b=some (l,i)):may l (i:Int)=true∧b=enc l i:=by
 unfold dec at h
 split at h
 · rename_i hc
   injection h with h
   injection h with h1 h2
   subst h1 h2;exact hc.2.2
 · cases h
theorem str_tx (s:ByteArray):Crc.str (Crc.tx s)=s:=by
 unfold Crc.str Crc.tx;rw[List.map_map]
 have e:(UInt8.ofNat ∘ UInt8.toNat)=id:=by
  funext x
  simp
 rw[e,List.map_id]
end Ent
end
section
open Lib (hid)
open Go.RowKit Go.MapKept
namespace Ent
theorem tx_toList (s:ByteArray):Crc.tx s=s.toList.map UInt8.toNat:=by
 obtain⟨a⟩:=s
 obtain⟨l⟩:=a
 rw[ByteArray.toList_mk];rfl
theorem map_inj {l m:List UInt8} (h:l.map UInt8.toNat=m.map UInt8.toNat):l=m:=by
 induction l generalizing m with
 | nil=>cases m with
   | nil=>rfl
   | cons=>simp at h
 | cons a l ih=>
   cases m with
   | nil=>simp at h
   | cons b m=>
     simp only[List.map_cons,List.cons.injEq] at h;rw[ih h.2,UInt8.toNat_inj.1 h.1]
theorem tx_eq {s:ByteArray} {l:List UInt8}:s.toList=l↔Crc.tx s=l.map UInt8.toNat:=by
 rw[tx_toList]
 exact⟨fun h=>by rw[h],map_inj⟩
def Good (s:ByteArray) (m:Nat):Prop:=∀ j (h:j < s.size),j < m→(s[j]'h).toNat≠0∧(s[j]'h).toNat≠47
theorem Good.next {s:ByteArray} {m:Nat} (h:Good s m) (hm:m < s.size) (h0:(s[m]'hm).toNat≠0) (h1:(s[m]'hm).toNat≠47):Good s (m+1):=by
 intro j hj hlt
 rcases Nat.lt_or_ge j m with h2 | h2
 · exact h j hj h2
 · obtain rfl:j=m:=by omega
   exact⟨h0,h1⟩
theorem Good.all {s:ByteArray} (h:Good s s.size):∀ x∈Crc.tx s,x≠0∧x≠47:=by
 intro x hx
 obtain⟨j,hj,rfl⟩:=List.getElem_of_mem hx
 have hj':j < s.size:=by rw[Crc.tx_len] at hj;exact hj
 have:=Crc.tx_get hj'
 rw[List.getElem?_eq_getElem hj,Option.getD_some] at this;rw[this];exact h j hj' hj'
theorem bad_byte {s:ByteArray} {m:Nat} (hm:m < s.size) (h:(s[m]'hm).toNat=0∨(s[m]'hm).toNat=47):¬ Right (Crc.tx s):=by
 intro hr;have hj:m < (Crc.tx s).length:=by rw[Crc.tx_len];exact hm
 have:=hr.2.2.2 ((Crc.tx s)[m]'hj) (List.getElem_mem hj)
 have e:=Crc.tx_get hm;rw[List.getElem?_eq_getElem hj,Option.getD_some] at e;rw[e] at this;omega
theorem no_right {s:ByteArray} (h:s.size < 1∨48 < s.size∨s.toList=[46]∨s.toList=[46,46]):¬ Right (Crc.tx s):=by
 intro hr;have hl:=hr.1;rw[Crc.tx_len] at hl
 rcases h with h | h | h | h
 · omega
 · omega
 · exact hr.2.1 (tx_eq.1 h)
 · exact hr.2.2.1 (tx_eq.1 h)
theorem right_any (w:World) (s:ByteArray) (hs:s.size≤9223372036854775807) :
 Calls Tryz.prog 207 #[.string s] w fun r w'=>r = .returned (.bool (right (Crc.tx s)))∧w=w':=by
 by_cases h:s.size < 1∨48 < s.size∨s.toList=[46]∨s.toList=[46,46]
 · have HN:=hid (right_no (no_right h))
   go_enter Tryz.func207,Tryz.ntmps207
   rcases h with h | h | h | h
   all_goals go_wp2
   all_goals go_ret
   all_goals exact⟨by rw[HN.out];rfl,rfl⟩
 · have h1:1≤s.size:=by omega
   have h2:s.size≤48:=by omega
   have h3:(s.toList == [46])=false:=by simpa using fun e=>h (.inr (.inr (.inl e)))
   have h4:(s.toList == [46,46])=false:=by simpa using fun e=>h (.inr (.inr (.inr e)))
   have h5:¬ s.toList=[46]:=fun e=>h (.inr (.inr (.inl e)))
   have h6:¬ s.toList=[46,46]:=fun e=>h (.inr (.inr (.inr e)))
   clear h;go_enter Tryz.func207,Tryz.ntmps207
   go_wp2
   go_loopw [22] (fun i wr=>∃ m:Nat,m≤s.size∧i = .int .i64 (m:Int)∧w=wr∧Good s m) (fun i _=>s.size - (intOf i).toNat)
   case atStart=>exact⟨0,Nat.zero_le _,rfl,rfl,fun j _ h=>absurd h (by omega)⟩
   case round=>
    obtain⟨m,hm,rfl,rfl,hg⟩:=hrel
    have HG:=hid hg;clear hg;by_cases hlt:m < s.size
    · go_wp2
      · rename_i hx
        go_ret
        exact⟨by rw[right_no (bad_byte hlt (.inl hx))];rfl,rfl⟩
      · rename_i hx
        go_ret
        exact⟨by rw[right_no (bad_byte hlt (by simp at hx;omega))];rfl,rfl⟩
      · rename_i hx
        exact⟨⟨m+1,by omega,by go_num,trivial,HG.out.next hlt (by simp at hx;omega) (by simp at hx;omega)⟩,by simp[intOf];omega⟩
    · obtain rfl:m=s.size:=by omega
      have HR:=hid (right_iff.2 ⟨⟨by rw[Crc.tx_len];exact h1,by rw[Crc.tx_len];exact h2⟩,fun e=>h5 (tx_eq.2 e),fun e=>h6 (tx_eq.2 e),HG.out.all⟩);go_wp2
      go_ret
      exact⟨by rw[HR.out];rfl,rfl⟩
end Ent
end
section
open Lib (hid)
open Go.RowKit Go.MapKept
namespace Ent
structure Box (w:World) (b:Nat) (s:ByteArray) (i:Int):Prop where
 lt:b < w.heap.size
 c0:w.cell? ⟨b,0,none⟩=some (.string s)
 c1:w.cell? ⟨b,1,none⟩=some (.int .i64 i)
theorem Box.keep {w w':World} {b:Nat} {s:ByteArray} {i:Int} (h:Box w b s i) (hb:Below w.heap.size w w'):Box w' b s i:=
 ⟨Nat.lt_of_lt_of_le h.lt hb.size,(hb.cell (p:=⟨b,0,none⟩) h.lt).trans h.c0,(hb.cell (p:=⟨b,1,none⟩) h.lt).trans h.c1⟩
theorem Box.keepN {w w':World} {b N:Nat} {s:ByteArray} {i:Int} (h:Box w b s i) (hb:Below N w w') (hN:b < N):Box w' b s i:=
 ⟨Nat.lt_of_lt_of_le h.lt hb.size,(hb.cell (p:=⟨b,0,none⟩) hN).trans h.c0,(hb.cell (p:=⟨b,1,none⟩) hN).trans h.c1⟩
theorem Box.drew {w:World} {b:Nat} {s:ByteArray} {i:Int} (h:Box w b s i):Box w.drew b s i:=⟨h.lt,h.c0,h.c1⟩
theorem boxed (w:World) (s:ByteArray) (i:Int) (t:TypeId):Box (w.alloc (.cells #[.string s,.int .i64 i] t)) w.heap.size s i:=
 ⟨by simp,World.cell?_alloc_mark w _ t _ 0,World.cell?_alloc_mark w _ t _ 1⟩
structure Own (w:World) (b:Nat) (s:ByteArray) (i:Int):Prop where
 box:Box w b s i
 f:∀ o,w.frozen? ⟨b,o,none⟩=false
theorem Own.keep {w w':World} {b:Nat} {s:ByteArray} {i:Int} (h:Own w b s i) (hb:Below w.heap.size w w'):Own w' b s i:=
 ⟨h.box.keep hb,fun o=>(hb.frozen (p:=⟨b,o,none⟩) h.box.lt).trans (h.f o)⟩
theorem Own.drew {w:World} {b:Nat} {s:ByteArray} {i:Int} (h:Own w b s i):Own w.drew b s i:=⟨h.box.drew,h.f⟩
theorem owned (w:World) (s:ByteArray) (i:Int) (t:TypeId):Own (w.alloc (.cells #[.string s,.int .i64 i] t)) w.heap.size s i:=
 ⟨boxed w s i t,fun o=>(World.rowIs_alloc w #[.string s,.int .i64 i] t (fun j=>if j=0 then .string s else .int .i64 i) (fun j hj=>by
   have:j < 2:=hj
   match j,this with
   | 0,_=>rfl
   | 1,_=>rfl)).frozen o⟩
theorem ret_bool {a b:Bool} (h:a=true↔b=true):Ending.returned (Value.bool a)=Ending.returned (Value.bool b):=by rw[Bool.eq_iff_iff.2 h]
theorem may_not {l:List Nat} {i:Int} (h:right l=false):may l i=false:=by
 unfold may;rw[h];rfl
theorem may_right {l:List Nat} {i:Int} (h:right l=true):may l i=decide (0≤i∧i≤65533):=by
 unfold may;rw[h];rfl
theorem may_any (w:World) (s:ByteArray) (i:Int) (hs:s.size≤9223372036854775807) :
 Calls Tryz.prog 144 #[.agg #[.string s,.int .i64 i]] w fun r w'=>r = .returned (.bool (may (Crc.tx s) i))∧Below w.heap.size w w':=by
 have HR:=hid (fun w=>right_any w s hs)
 cases hr:right (Crc.tx s) with
 | false=>
   have HM:=hid (may_not (i:=i) hr);have HT:=hid hr;clear hr;go_enter Tryz.func144,Tryz.ntmps144
   go_wp2_with fail
   refine (HR.out _).mono ?_;rintro e w' ⟨rfl,rfl⟩;rw[HT.out];go_wp2
   go_ret
   exact⟨by rw[HM.out];rfl,(Below.refl _ _).alloc (Nat.le_refl _) _⟩
 | true=>
   have HM:=hid (may_right (i:=i) hr);have HT:=hid hr;clear hr;go_enter Tryz.func144,Tryz.ntmps144
   go_wp2_with fail
   refine (HR.out _).mono ?_;rintro e w' ⟨rfl,rfl⟩;rw[HT.out];go_wp2
   all_goals go_ret
   all_goals refine⟨?_,(Below.refl _ _).alloc (Nat.le_refl _) _⟩
   all_goals rw[HM.out]
   all_goals refine ret_bool ?_
   all_goals simp only[decide_eq_true_eq,Bool.false_eq_true,false_iff] at *
   all_goals omega
end Ent
end
section
open Lib (hid)
open Go.RowKit Go.MapKept
namespace Ent
def Row (w:World) (g:Nat) (f:Nat→Nat):Prop:=w.rowIs g 5 64 (fun i=>Value.int .u8 ((f i:Nat):Int))
def at' (l:List Nat) (i:Nat):Nat:=l[i]?.getD 0
theorem Row.lt {w:World} {g:Nat} {f:Nat→Nat} (h:Row w g f):g < w.heap.size:=World.rowIs.lt h
theorem Row.keep {w w':World} {g:Nat} {f:Nat→Nat} (h:Row w g f) (hb:Below w.heap.size w w'):Row w' g f:=World.rowIs.of_block h (hb.block _ h.lt)
theorem Row.drew {w:World} {g:Nat} {f:Nat→Nat} (h:Row w g f):Row w.drew g f:=h
theorem Row.alloc {w:World} {g:Nat} {f:Nat→Nat} (h:Row w g f) (o:Obj):Row (w.alloc o) g f:=World.rowIs.alloc h o
theorem Row.cell {w:World} {g:Nat} {f:Nat→Nat} (h:Row w g f) {i:Nat} (hi:i < 64):w.cell? ⟨g,i,none⟩=some (.int .u8 ((f i:Nat):Int)):=World.rowIs.cell h hi
theorem Row.frozen {w:World} {g:Nat} {f:Nat→Nat} (h:Row w g f) (i:Nat):w.frozen? ⟨g,i,none⟩=false:=World.rowIs.frozen h i
theorem Row.congr {w:World} {g:Nat} {f f':Nat→Nat} (h:Row w g f) (e:∀ i,i < 64→f i=f' i):Row w g f':=World.rowIs.congr h (fun i hi=>by rw[e i hi])
theorem Row.set {w:World} {g:Nat} {f:Nat→Nat} (h:Row w g f) (j x:Nat):Row (w.setCell ⟨g,j,none⟩ (.int .u8 (x:Int))) g (fun i=>if i=j then x else f i):=
 World.rowIs.congr (World.rowIs.set h j (.int .u8 (x:Int))) (fun i _=>by by_cases e:i=j<;>simp[e])
theorem Row.bts {w:World} {g:Nat} {f:Nat→Nat} (h:Row w g f) (o:Nat) (l:List Nat) (hl:Crc.Byt l) (ho:o+l.length≤64) (e:∀ j (hj:j < l.length),f (o+j)=l[j]):Crc.Bts w (some ⟨g,o,none⟩) l:=
 ⟨hl,by omega,fun j hj=>⟨g,o,rfl,h.lt,by rw[h.cell (by omega),e j hj]⟩⟩
def putf (f:Nat→Nat) (o x n:Nat) (i:Nat):Nat:=if o≤i∧i < o+n then x / 256 ^ (i - o) % 256 else f i
theorem putf_zero (f:Nat→Nat) (o x:Nat):putf f o x 0=f:=by
 funext i
 unfold putf;rw[if_neg (by omega)]
theorem putf_next (f:Nat→Nat) (o x n:Nat) (i:Nat):(if i=o+n then x / 256 ^ n % 256 else putf f o x n i)=putf f o x (n+1) i:=by
 unfold putf;by_cases h:i=o+n
 · subst h
   rw[if_pos rfl,if_pos (by omega)]
   congr 3
   omega
 · rw[if_neg h]
   by_cases h1:o≤i∧i < o+n
   · rw[if_pos h1,if_pos (by omega)]
   · rw[if_neg h1,if_neg (by omega)]
theorem put_any (w:World) (g o n c x:Nat) (f:Nat→Nat) (h:Row w g f) (ho:o+n≤64) (hx:x < 4294967296) (hn:n≤4) :
 Calls Tryz.prog 145 #[.slice (some ⟨g,o,none⟩) n c,.int .u32 (x:Int)] w fun r w'=>r = .returned (.tuple #[])∧Row w' g (putf f o x n)∧Below g w w':=by
 have H:=hid h;clear h;go_enter Tryz.func145,Tryz.ntmps145
 go_wp2
 go_loopw [7] (fun i wr=>∃ m:Nat,m≤n∧i = .int .i64 (m:Int)∧Row wr g (putf f o x m)∧Below g w wr) (fun i _=>n - (intOf i).toNat)
 case atStart=>exact⟨0,Nat.zero_le _,rfl,by rw[putf_zero];exact H.out,Below.refl _ _⟩
 case round=>
  obtain⟨m,hm,rfl,hr,hb⟩:=hrel
  have HR:=hid hr;have HB:=hid hb;clear hr hb;by_cases hlt:m < n
  · have hc:=HR.out.cell (i:=o+m) (by omega)
    have hf:=HR.out.frozen (o+m)
    have hsh:(x:Int) / 2 ^ (m * 8)=((x / 256 ^ m:Nat):Int):=by
     have:256 ^ m=2 ^ (m * 8):=by rw[Nat.mul_comm m 8,Nat.pow_mul]
     rw[this];simp
    have hyl:x / 256 ^ m < 4294967296:=Nat.lt_of_le_of_lt (Nat.div_le_self _ _) hx;have HN:=hid ((HR.out.set (o+m) (x / 256 ^ m % 256)).congr (fun i _=>putf_next f o x m i));have HBN:=hid (HB.out.setCell (p:=⟨g,o+m,none⟩) (Nat.le_refl _) (.int .u8 ((x / 256 ^ m % 256:Nat):Int)));generalize x / 256 ^ m=y at *;go_wp2
    exact⟨⟨m+1,by omega,by go_num,HN.out,HBN.out⟩,by simp[intOf];omega⟩
  · obtain rfl:m=n:=by omega
    go_wp2
    go_end0
    exact⟨rfl,HR.out,HB.out⟩
end Ent
end
section
open Lib (hid)
open Go.RowKit Go.MapKept
namespace Ent
theorem get_new {w:World} {o:Obj} {k:Nat} (h:k=w.heap.size):(w.alloc o).heap[k]? = some o:=by
 subst h;show (w.heap.push o)[w.heap.size]? = _
 simp
theorem get_old {w:World} {o x:Obj} {k:Nat} (h:w.heap[k]? = some x):(w.alloc o).heap[k]? = some x:=(Below.heap_alloc w o k (Array.getElem?_eq_some_iff.1 h).1).trans h
theorem get_drew {w:World} {x:Obj} {k:Nat} (h:w.heap[k]? = some x):w.drew.heap[k]? = some x:=h
theorem pts_at1 {W:World} {k n0 c0:Nat} {t:TypeId} {A0:Option Addr} {l0:List Nat} (hk:W.heap[k]? = some (.cells #[.slice A0 n0 c0] t)) (h0:Crc.Bts W A0 l0) (e0:n0=l0.length):Crc.Pts W (some ⟨k,0,none⟩) [⟨A0,c0,l0⟩]:=by
 subst e0
 exact⟨by simp,fun i hi=>⟨k,0,rfl,(Array.getElem?_eq_some_iff.1 hk).1,by
  obtain rfl:i=0:=by simpa using hi
  unfold World.cell?;rw[hk]
  rfl⟩,fun i hi=>by
  obtain rfl:i=0:=by simpa using hi
  exact h0⟩
theorem sum32_at1 {W:World} {k n0 c0 cc:Nat} {t:TypeId} {A0:Option Addr} {l:List Nat} (hk:W.heap[k]? = some (.cells #[.slice A0 n0 c0] t)) (h0:Crc.Bts W A0 l) (e0:n0=l.length) :
 Calls Tryz.prog 146 #[.slice (some ⟨k,0,none⟩) 1 cc] W fun e w'=>e = .returned (.int .u32 (Crc.S32 l:Nat))∧W=w':=by
 have:=Crc.sum32_any _ cc _ (pts_at1 hk h0 e0)
 rw[Crc.flat_one] at this;exact this
theorem below_alloc {w W:World} {o:Obj} (h:Below w.heap.size w W):Below w.heap.size w (W.alloc o):=h.alloc h.size o
theorem encode_no (w:World) (s:ByteArray) (i:Int) (hs:s.size≤9223372036854775807) (hm:may (Crc.tx s) i=false) :
 Calls Tryz.prog 91 #[.agg #[.string s,.int .i64 i]] w fun r w'=>r = .returned (.tuple #[.slice none 0 0,.int .i64 1])∧Below w.heap.size w w':=by
 have HM:=hid (fun w=>may_any w s i hs);have HE:=hid hm;clear hm;have HB:=hid ((Below.refl w.heap.size w).alloc (Nat.le_refl _) (.cells #[.string s,.int .i64 i] 154));go_enter Tryz.func91,Tryz.ntmps91
 go_wp2_with fail
 refine (HM.out _).mono ?_;rintro e w' ⟨rfl,hb⟩;rw[HE.out];have HB1:=hid (HB.out.trans (hb.mono HB.out.size));clear hb;go_wp2
 go_ret2
 exact⟨rfl,HB1.out⟩
def f1 (k:Nat):Nat→Nat:=putf (fun _=>0) 0 k 2
def f2 (k n:Nat) (i:Nat):Nat:=if i=2 then n else f1 k i
def f3 (l:List Nat) (k:Nat) (i:Nat):Nat:=if 4≤i∧i < 4+l.length then at' l (i - 4) else f2 k l.length i
theorem f3_front {l:List Nat} {k:Nat} (i:Nat) (hi:i < 60):f3 l k i=at' (front l k) i:=by
 unfold f3 f2 f1 putf at' front
 match i,hi with
 | 0,_=>simp
 | 1,_=>simp
 | 2,_=>simp
 | 3,_=>simp
 | i+4,hi=>
   simp only[List.cons_append,List.nil_append,List.getElem?_cons_succ];by_cases h:i < l.length
   · rw[if_pos (by omega),List.getElem?_append_left h,show i+4 - 4=i by omega]
   · rw[if_neg (by omega),if_neg (by omega),if_neg (by omega),List.getElem?_append_right (by omega)]
     rw[List.getElem?_replicate]
     split<;>rfl
theorem f4_enc {l:List Nat} {k:Nat} (hl:l.length≤48) (i:Nat) (hi:i < 64):putf (f3 l k) 60 (Crc.S32 (front l k)) 4 i=at' (enc l k) i:=by
 have hfl:=front_len hl k;unfold enc at';by_cases h:i < 60
 · rw[List.getElem?_append_left (by omega)]
   unfold putf;rw[if_neg (by omega)];exact f3_front i h
 · rw[List.getElem?_append_right (by omega),hfl]
   generalize Crc.S32 (front l k)=x;unfold putf q4
   have:i=60∨i=61∨i=62∨i=63:=by omega
   rcases this with rfl | rfl | rfl | rfl<;>simp
theorem copy_f3 {s:ByteArray} {k:Nat} (j:Nat):(if 4≤j∧j < 4+(s.data.toList.map fun x:UInt8=>Value.int .u8 (x.toNat:Int)).length then (s.data.toList.map fun x:UInt8=>Value.int .u8 (x.toNat:Int))[j - 4]?.getD default else Value.int .u8 ((f2 k (Crc.tx s).length j:Nat):Int))=Value.int .u8 ((f3 (Crc.tx s) k j:Nat):Int):=by
 have e:(s.data.toList.map fun x:UInt8=>Value.int .u8 (x.toNat:Int))=(Crc.tx s).map fun b:Nat=>Value.int .u8 (b:Int):=by
  unfold Crc.tx;rw[List.map_map];rfl
 rw[e,List.length_map];unfold f3;by_cases h:4≤j∧j < 4+(Crc.tx s).length
 · rw[if_pos h,if_pos h,List.getElem?_map]
   unfold at';rw[List.getElem?_eq_getElem (show j - 4 < (Crc.tx s).length by omega)];rfl
 · rw[if_neg h,if_neg h]
theorem size_u8 (W:World):(Go.sizeOf 5).run Tryz.prog W = .ok 1 W:=by kernel_rfl
theorem encode_yes (w:World) (s:ByteArray) (k:Nat) (hm:may (Crc.tx s) (k:Int)=true) :
 Calls Tryz.prog 91 #[.agg #[.string s,.int .i64 (k:Int)]] w fun r w'=>∃ g:Nat,w.heap.size≤g∧r = .returned (.tuple #[.slice (some ⟨g,0,none⟩) 64 64,.int .i64 0])∧Row w' g (at' (enc (Crc.tx s) k))∧Below w.heap.size w w':=by
 have hl:=may_len hm
 obtain⟨k',ek,hk⟩:=may_nat hm
 obtain rfl:k=k':=by omega
 have hsz:s.size≤48:=by rw[Crc.tx_len] at hl;exact hl
 have hfb:=front_byt (Crc.tx_byt s) hl k;have hfl:=front_len hl k;have HFB:=hid hfb;have HFL:=hid hfl.symm;have HL:=hid hl;have HM:=hid (fun w=>may_any w s (k:Int) (by omega));have HE:=hid hm;clear hm hl hfb hfl ek;have HB:=hid ((Below.refl w.heap.size w).alloc (Nat.le_refl _) (.cells #[.string s,.int .i64 (k:Int)] 154));have HX:=hid (boxed w s k 154);go_enter Tryz.func91,Tryz.ntmps91
 go_wp2_with fail
 refine (HM.out _).mono ?_;rintro e w1 ⟨rfl,hb⟩;rw[HE.out];have HB1:=hid (HB.out.trans (hb.mono HB.out.size));have HX1:=hid (HX.out.keep hb);have hz1:w.heap.size < w1.heap.size:=HX1.out.lt;clear hb HX HB;have hmk:=run_make_row' (P:=Tryz.prog) 112 5 _ 1 Tryz.underlying112 Crc.u8_info rfl .i64 .i64 64 (by omega) (by omega) w1;rw[show ((64:Nat):Int)=64 from rfl] at hmk;have hb2:=(Below.refl w1.heap.size w1).alloc (Nat.le_refl _) (.cells (madeCells #[.int .u8 0] 64) 5);have HR2:=hid (show Row (w1.alloc (.cells (madeCells #[.int .u8 0] 64) 5)) w1.heap.size (fun _=>0) from World.rowIs_made w1 (.int .u8 0) 64 5);have HX2:=hid (HX1.out.keep hb2);have HB2:=hid (HB1.out.trans (hb2.mono HB1.out.size));clear hb2 HX1 HB1;go_wp2
 generalize w1.alloc (.cells (madeCells #[.int .u8 0] 64) 5)=w2 at *;generalize w1.heap.size=g at *;clear hmk;have hc1:=HX2.out.c1;have hz2:w.heap.size < w2.heap.size:=HX2.out.lt;have hkw:IntKind.wrap .u32 (k:Int)=(k:Int):=by rw[IntKind.wrap_u32'];omega
 go_region_held3 (fun W'=>W'.cell? ⟨w.heap.size,1,none⟩=some (.int .i64 (k:Int))) (go_keep)
  (first
  | (go_at_call 145
     with_reducible refine (put_any _ g 0 2 64 k _ HR2.out.drew (by omega) (by omega) (by omega)).mono ?_
     rintro e w3 ⟨rfl,hr,hb⟩;have HR3:=hid hr;have HB3:=hid (HB2.out.drew.trans (hb.mono (Nat.le_of_lt hz1)));have HX3:=hid (HX2.out.drew.keepN hb hz1);have hk1:=HX3.out.c1;clear hb hr))
 clear hkw hc1 hk1 HR2 HX2 HB2 hz2;have hc0:=HX3.out.c0;have hr2:=HR3.out.cell (i:=2) (by omega);have hf2:=HR3.out.frozen 2;have hsm:(s.size:Int) % 256=(s.size:Int):=by omega
 have HR4:=hid (show Row (w3.setCell ⟨g,2,none⟩ (.int .u8 (s.size:Int))) g (f2 k (Crc.tx s).length) from (HR3.out.set 2 s.size).congr (fun i _=>by unfold f2 f1;rw[Crc.tx_len]));have HB4:=hid (HB3.out.setCell (p:=⟨g,2,none⟩) (Nat.le_of_lt hz1) (.int .u8 (s.size:Int)));have hb4:=(Below.refl g w3).setCell (p:=⟨g,2,none⟩) (Nat.le_refl _) (.int .u8 (s.size:Int));have HX4:=hid (HX3.out.keepN hb4 hz1);clear hb4 HR3 HB3;go_wp2
 generalize w3.setCell ⟨g,2,none⟩ (.int .u8 (s.size:Int))=w4 at *;clear hc0 hr2 hf2 hsm HX3;have hc0:=HX4.out.c0;have hcp:=run_copy_string (P:=Tryz.prog) w4.drew 112 9 3 5 g 4 60 60 s Tryz.underlying112 size_u8 (by omega) (fun j hj=>by rw[HR4.out.drew.cell (by omega)];rfl) (fun j hj=>HR4.out.drew.frozen _);have HR5:=hid (show Row (w4.drew.setCells g 4 (s.data.toList.map fun x:UInt8=>Value.int .u8 (x.toNat:Int))) g (f3 (Crc.tx s) k) from (rowIs_setCells (s.data.toList.map fun x:UInt8=>Value.int .u8 (x.toNat:Int)) 4 w4.drew _ HR4.out.drew).congr (fun j _=>copy_f3 j));have HB5:=hid (below_setCells (b:=g) (Nat.le_of_lt hz1) (s.data.toList.map fun x:UInt8=>Value.int .u8 (x.toNat:Int)) 4 _ HB4.out.drew);generalize w4.drew.setCells g 4 (s.data.toList.map fun x:UInt8=>Value.int .u8 (x.toNat:Int))=w5 at *
 go_region
 go_wp2
 clear hcp hc0 HR4 HB4 HX4
 have HBT:=hid (fun (W:World) (h:Row W g (f3 (Crc.tx s) k))=>h.bts 0 (front (Crc.tx s) k) HFB.out (by rw[← HFL.out];omega) (fun j hj=>by
  rw[Nat.zero_add,f3_front j (by rw[← HFL.out] at hj;exact hj)];unfold at';rw[List.getElem?_eq_getElem hj]
  rfl))
 have HS:=hid (s32_lt (front (Crc.tx s) k))
 go_region_held3 (fun _=>True) (exact trivial) (first
  | (go_at_call 146
     with_reducible refine (sum32_at1 (l:=front (Crc.tx s) k) (t:=112) (A0:=some ⟨g,0,none⟩) (n0:=60) (c0:=64) ?_ ?_ HFL.out).mono ?_
     · repeat (first | (with_reducible refine get_new ?_;simp;done) | with_reducible refine get_drew ?_ | with_reducible refine get_old ?_)
     · refine HBT.out _ ?_
       repeat (first | with_reducible exact HR5.out | with_reducible refine Row.drew ?_ | with_reducible refine Row.alloc ?_ _)
     rintro e w' ⟨rfl,rfl⟩)
  | (go_at_call 145
     with_reducible refine (put_any _ g 60 4 4 (Crc.S32 (front (Crc.tx s) k)) (f3 (Crc.tx s) k) ?_ (by omega) HS.out (by omega)).mono ?_
     · repeat (first | with_reducible exact HR5.out | with_reducible refine Row.drew ?_ | with_reducible refine Row.alloc ?_ _)
     rintro e w6 ⟨rfl,hr,hb⟩;have HR6:=hid hr;have HB6:=hid hb;clear hb hr))
 go_wp2
 go_ret2
 refine⟨g,Nat.le_of_lt hz1,rfl,HR6.out.congr (fun i hi=>f4_enc HL.out i hi),?_⟩
 refine Below.trans ?_ (HB6.out.mono (Nat.le_of_lt hz1))
 repeat (first | with_reducible exact HB5.out | with_reducible refine Below.drew ?_ | with_reducible refine below_alloc ?_)
end Ent
end
end Go.Proofs.YtlodpaaanfjkeaaGreatDoor
