/- Texts laid together: InoRefEnc, InoRefDec, InoLives, SloRef, SloRefDec, SloLives, RecRef, RecRefDec, RecLives, VolLives, VolWrote, VolStill, BmRefOf, VolRefRead, ClmZero, FldOpen, ClmOpen, ClmNext, ChnRange. -/
import Derived.Test.YtlodpaaanfjkeaaGreatDoorKt9
import Derived.Test.YtlodpaaanfjkeaaGreatDoorKt5
import Derived.Test.YtlodpaaanfjkeaaGreatDoorKt8
import Derived.Test.YtlodpaaanfjkeaaGreatDoorKt1
import Derived.Test.YtlodpaaanfjkeaaGreatDoorKt3
import Derived.Test.YtlodpaaanfjkeaaGreatDoorKa2
import Derived.Test.YtlodpaaanfjkeaaGreatDoorKa1
import Derived.Test.YtlodpaaanfjkeaaGreatDoorKt6
import Derived.Test.YtlodpaaanfjkeaaGreatDoorKt2
import Derived.IntWalk
import Derived.RangeFuncWrites
import Derived.RangeFuncNested
import Derived.RangeFuncBound
import Derived.RangeFuncCalls
import Derived.RangeFuncLeaves
import Derived.RangeFuncBox
import Derived.Shelf.Abstract
import Derived.Shelf.RegionOpen
import Derived.WalkKit
import Derived.OwnWalkIn
import Derived.TacticsInMore
import Derived.LoopNIn
import Derived.LoopIn
import Derived.Lib.Hide
set_option maxRecDepth 100000
set_option maxHeartbeats 4000000
namespace Go.Proofs.YtlodpaaanfjkeaaGreatDoor
section
open Lib (hid)
open Go.RowKit Go.MapKept
namespace Ino
open Lin
theorem refEncode_no (w:World) (k h s:Int) (hm:may k h s=false) :
 Calls Tryz.prog 233 #[.agg #[.int .i64 k,.int .i64 h,.int .i64 s]] w fun r w'=>r = .returned (.tuple #[.slice none 0 0,.bool false])∧Below w.heap.size w w':=by
 have HM:=hid (fun w=>refMay_any w k h s);have HE:=hid hm;clear hm;have HB:=hid ((Below.refl w.heap.size w).alloc (Nat.le_refl _) (.cells #[.int .i64 k,.int .i64 h,.int .i64 s] 231));go_enter Tryz.func233,Tryz.ntmps233
 go_wp2_with fail
 refine (HM.out _).mono ?_;rintro e w' ⟨rfl,hb⟩;rw[HE.out];have HB1:=hid (HB.out.trans (hb.mono HB.out.size));clear hb;go_wp2
 go_ret2
 exact⟨rfl,HB1.out⟩
theorem refEncode_free (w:World) :
 Calls Tryz.prog 233 #[.agg #[.int .i64 0,.int .i64 (-1),.int .i64 0]] w fun r w'=>∃ (G:Option Addr) (gc:Nat),r = .returned (.tuple #[.slice G 8 gc,.bool true])∧Pack.Wds w' G zero∧Below w.heap.size w w':=by
 have HM:=hid (fun w=>refMay_any w 0 (-1) 0);have HE:=hid (show may 0 (-1) 0=true by decide);have HB:=hid ((Below.refl w.heap.size w).alloc (Nat.le_refl _) (.cells #[.int .i64 0,.int .i64 (-1),.int .i64 0] 231));have HX:=hid (boxed w 0 (-1) 0 231);go_enter Tryz.func233,Tryz.ntmps233
 go_wp2_with fail
 refine (HM.out _).mono ?_;rintro e w1 ⟨rfl,hb⟩;rw[HE.out];have HB1:=hid (HB.out.trans (hb.mono HB.out.size));have HX1:=hid (HX.out.keep hb);have hc0:=HX1.out.c0;clear hb HX;have hmk:=run_make_row' (P:=Tryz.prog) 22 50 _ 8 Tryz.underlying22 Pack.u64_info rfl .i64 .i64 8 (by omega) (by omega) w1;rw[show ((8:Nat):Int)=8 from rfl] at hmk;go_wp2
 go_ret2
 exact⟨some ⟨w1.heap.size,0,none⟩,8,rfl,row_pack (row_zero (row_made w1)) rfl zero_u64,HB1.out.alloc HB1.out.size _⟩
theorem front_new (w:World) (k p s:Nat) (h:Int) (hh:h=(p:Int) - 1) (hk:k < 65536) (hp:p < 65536) (hs:s < 18446744073709551616):Crc.Wds (w.alloc (.cells #[.int .u64 ((k:Int)+65536 * (h+1)),.int .u64 (s:Int),.int .u64 0,.int .u64 0,.int .u64 0,.int .u64 0,.int .u64 0] 50)) (some ⟨w.heap.size,0,none⟩) (front k p s):=
 ⟨front_u64 hk hp hs,by rw[front_len];omega,fun j hj=>⟨w.heap.size,0,rfl,by simp,by
   rw[World.cell?_alloc_mark,Nat.zero_add]
   have:j < 7:=hj
   have e:(k:Int)+65536 * (h+1)=((nums k p:Nat):Int):=by unfold nums;omega
   match j,this with
   | 0,_=>rw[e];rfl
   | 1,_=>rfl
   | 2,_=>rfl
   | 3,_=>rfl
   | 4,_=>rfl
   | 5,_=>rfl
   | 6,_=>rfl⟩⟩
theorem refEncode_full (w:World) (k p s:Nat) (h:Int) (hh:h=(p:Int) - 1) (hk0:k≠0) (hm:may k ((p:Int) - 1) s=true) :
 Calls Tryz.prog 233 #[.agg #[.int .i64 (k:Int),.int .i64 h,.int .i64 (s:Int)]] w fun r w'=>∃ (G:Option Addr) (gc:Nat),r = .returned (.tuple #[.slice G 8 gc,.bool true])∧Pack.Wds w' G (full k p s)∧Below w.heap.size w w':=by
 obtain⟨h1,h2,h3⟩:=may_lt hm
 have HM:=hid (fun w=>refMay_any w k h s);have HE:=hid (show may k h s=true by rw[hh];exact hm);have hki:¬ (k:Int)=0:=by omega
 have hs64:s < 18446744073709551616:=by omega
 have hk64:k < 65536:=by omega
 have hp64:p < 65536:=by omega
 have hhl:-1≤h:=by omega
 have hhu:h≤65533:=by omega
 have HH:=hid hh;clear hm hh;have HB:=hid ((Below.refl w.heap.size w).alloc (Nat.le_refl _) (.cells #[.int .i64 (k:Int),.int .i64 h,.int .i64 (s:Int)] 231));have HX:=hid (boxed w k h s 231);go_enter Tryz.func233,Tryz.ntmps233
 go_wp2_with fail
 refine (HM.out _).mono ?_;rintro e w1 ⟨rfl,hb⟩;rw[HE.out];have HB1:=hid (HB.out.trans (hb.mono HB.out.size));have HX1:=hid (HX.out.keep hb);have hc0:=HX1.out.c0;have hc1:=HX1.out.c1;have hc2:=HX1.out.c2;clear hb HX;go_wp2_with fail
 have HF:=hid (front_new w1 k p s h HH.out hk64 hp64 hs64);have HB3:=hid (HB1.out.alloc HB1.out.size (.cells #[.int .u64 ((k:Int)+65536 * (h+1)),.int .u64 (s:Int),.int .u64 0,.int .u64 0,.int .u64 0,.int .u64 0,.int .u64 0] 50));clear hc0 hc1 hc2 HX1 HB1;generalize w1.alloc (.cells #[.int .u64 ((k:Int)+65536 * (h+1)),.int .u64 (s:Int),.int .u64 0,.int .u64 0,.int .u64 0,.int .u64 0,.int .u64 0] 50)=w3 at *;generalize w1.heap.size=g at *;refine (Crc.bytes_any _ 7 _ HF.out (by rw[front_len];omega)).mono ?_;rintro e w4 ⟨rfl,hb⟩;have HF4:=hid (HF.out.keep hb);have HB4:=hid (HB3.out.trans (hb.mono HB3.out.size));clear hb HF HB3 HB;have hsum:=Crc.ref32_any w4 (Crc.str (Crc.wflat (front k p s))) (by rw[Crc.str_size,Crc.wflat_len,front_len];omega);rw[Crc.tx_str (Crc.wflat_byt _),show Crc.S32 (Crc.wflat (front k p s))=sum k p s from rfl] at hsum;have HS:=hid hsum;clear hsum;have hlt:=sum_lt k p s;go_wp2_with fail
 refine HS.out.mono ?_;rintro e w' ⟨rfl,rfl⟩
 obtain⟨G,gc,w5,hap,hw,hb5⟩:=grow8 w4 g (front k p s) (sum k p s) (front_len _ _ _) HF4.out (full_u64 hk64 hp64 hs64)
 have HAP:=hid hap;have HW:=hid hw;have HB5:=hid (HB4.out.trans (hb5.mono HB4.out.size));clear hap hw hb5 HF4 HB4;go_wp2_with (at_builtin;refine wpList_append_run rfl (.tmp 25) (.tmp 30) 22 rfl _ _ _ rfl rfl HAP.out ?_)
 go_ret2
 exact⟨G,gc,rfl,HW.out,HB5.out⟩
theorem refEncode_yes (w:World) (k p s:Nat) (h:Int) (hh:h=(p:Int) - 1) (hm:may k ((p:Int) - 1) s=true) :
 Calls Tryz.prog 233 #[.agg #[.int .i64 (k:Int),.int .i64 h,.int .i64 (s:Int)]] w fun r w'=>∃ (G:Option Addr) (gc:Nat),r = .returned (.tuple #[.slice G 8 gc,.bool true])∧Pack.Wds w' G (ln k p s)∧Below w.heap.size w w':=by
 by_cases hk:k=0
 · subst hk
   obtain⟨rfl,rfl⟩:=may_free hm
   subst hh;rw[ln_zero];exact refEncode_free w
 · rw[ln_full hk]
   exact refEncode_full w k p s h hh hk hm
end Ino
end
section
open Lib (hid)
open Go.RowKit Go.MapKept
namespace Ino
open Lin
def rv (q:Option (Nat × Nat × Nat)):Value:=.tuple #[gv q,.bool q.isSome]
structure Two (w0 w:World) (b:Nat):Prop where
 own:Lin.Own w b 0 0 0
 free:Box w (b+1) 0 (-1) 0
 below:Below b w0 w
theorem Two.keep {w0 w w':World} {b:Nat} (h:Two w0 w b) (hb:Below w.heap.size w w'):Two w0 w' b:=
 ⟨h.own.keep hb,h.free.keep hb,h.below.trans (hb.mono (Nat.le_of_lt h.own.box.lt))⟩
theorem Two.drewN {w0 w:World} {b:Nat} (h:Two w0 w b) (k:Nat):Two w0 (w.drewN k) b:=
 ⟨h.own.drewN k,h.free.drewN k,Pack.below_drewN h.below k⟩
theorem two_new (w:World) (t:TypeId):Two w ((w.alloc (.cells #[.int .i64 0,.int .i64 0,.int .i64 0] t)).alloc (.cells #[.int .i64 0,.int .i64 (-1),.int .i64 0] t)) w.heap.size:=by
 have hb:=(Below.refl w.heap.size w).alloc (Nat.le_refl _) (.cells #[.int .i64 0,.int .i64 0,.int .i64 0] t);have hb':=(Below.refl _ (w.alloc (.cells #[.int .i64 0,.int .i64 0,.int .i64 0] t))).alloc (Nat.le_refl _) (.cells #[.int .i64 0,.int .i64 (-1),.int .i64 0] t)
 exact⟨(owned w 0 0 0 t).keep hb',boxed_at (World.size_alloc _ _) _ _ _ _,hb.trans (hb'.mono hb.size)⟩
theorem below_two (w:World) (o o':Obj):Below w.heap.size w ((w.alloc o).alloc o'):=by
 have hb:=(Below.refl w.heap.size w).alloc (Nat.le_refl _) o;exact hb.alloc hb.size _
section
variable {w : World}
theorem refDecode_any (A:Option Addr) (c:Nat) (l:List Nat) (h:Pack.Wds w A l) :
 Calls Tryz.prog 212 #[.slice A l.length c] w fun r w'=>r = .returned (rv (dec l))∧Below w.heap.size w w':=by
 have hlen:=h.len;have HT:=hid (two_new w 231);by_cases hl:l.length=8
 · rw[hl]
   obtain⟨b,o,rfl,hb,hcell⟩:=h.at' 0 (by omega)
   rw[Nat.add_zero] at hcell
   obtain⟨b',o',e,_,hcell1⟩:=h.at' 1 (by omega)
   injection e with e
   injection e with e1 e2
   subst e1 e2;have hx:=h.u64 l[0] (List.getElem_mem _);have hy:=h.u64 l[1] (List.getElem_mem _);have HD0:=hid (show l[0]?.getD 0=l[0] by rw[List.getElem?_eq_getElem (by omega)];rfl);have HD1:=hid (show l[1]?.getD 0=l[1] by rw[List.getElem?_eq_getElem (by omega)];rfl);have H:=hid h;have HL:=hid hl;clear h;generalize l[0]=x at *;generalize l[1]=y at *;clear hl;by_cases hxy:x < 4294967296∧y≤268435456
   · obtain⟨h32,h28⟩:=hxy
     obtain⟨k,hk⟩:∃ k,k=x % 65536:=⟨_,rfl⟩
     obtain⟨p,hp⟩:∃ p,p=x / 65536:=⟨_,rfl⟩
     have hk1:k < 65536:=by omega
     have hp1:p < 65536:=by omega
     have HD:=hid (show dec l=if may k ((p:Int) - 1) y=true∧l=ln k p y then some (k,p,y) else none by
      unfold dec;simp only[HD0.out,HD1.out,← hk,← hp];by_cases hc:may k ((p:Int) - 1) y=true∧l=ln k p y
      · rw[if_pos hc,if_pos ⟨HL.out,h32,hc⟩]
      · rw[if_neg hc,if_neg (fun h=>hc h.2.2)])
     obtain⟨hd,hhd⟩:∃ hd,hd=(p:Int) - 1:=⟨_,rfl⟩
     have HH:=hid hhd;have hxk:(x:Int) % 65536=(k:Int):=by omega
     have hxp:(x:Int) / 65536=(p:Int):=by omega
     have hwk:IntKind.wrap .i64 (k:Int)=(k:Int):=by rw[IntKind.wrap_i64];omega
     have hwp:IntKind.wrap .i64 (p:Int)=(p:Int):=by rw[IntKind.wrap_i64];omega
     have hwh:IntKind.wrap .i64 ((p:Int) - 1)=hd:=by rw[IntKind.wrap_i64];omega
     have hwy:IntKind.wrap .i64 (y:Int)=(y:Int):=by rw[IntKind.wrap_i64];omega
     have HXK:=hid hxk;have HXP:=hid hxp;clear hk hp hhd HD0 HD1 hxk hxp;have hx32:¬ (4294967295:Int) < (x:Int):=by omega
     have hy28:¬ (268435456:Int) < (y:Int):=by omega
     go_enter Tryz.func212,Tryz.ntmps212
     go_wp2
     have hc0:=(HT.out.below.cell (p:=⟨b,o,none⟩) hb).trans hcell;have hc1:=(HT.out.below.cell (p:=⟨b,o+1,none⟩) hb).trans hcell1;have hbw:b < ((w.alloc (.cells #[.int .i64 0,.int .i64 0,.int .i64 0] 231)).alloc (.cells #[.int .i64 0,.int .i64 (-1),.int .i64 0] 231)).heap.size:=Nat.lt_of_lt_of_le hb HT.out.below.size;have H1:=hid (H.out.keep HT.out.below);clear hcell hcell1 H;generalize (w.alloc (.cells #[.int .i64 0,.int .i64 0,.int .i64 0] 231)).alloc (.cells #[.int .i64 0,.int .i64 (-1),.int .i64 0] 231)=w1 at *;have hxk:=HXK.out;have hxp:=HXP.out
     go_region
     have hba:=(Below.refl w1.heap.size w1).alloc (Nat.le_refl _) (.cells #[.int .i64 (k:Int),.int .i64 hd,.int .i64 (y:Int)] 231);have HT2:=hid (HT.out.keep hba.drew);have HG2:=hid (boxed w1 k hd y 231).drew;have H2:=hid (H1.out.keep hba.drew);clear hwk hwp hwh hwy hba HT H1 hbw hc0 hc1 hxk hxp HXK HXP hb hx hy hx32 hy28 h32 h28;go_wp2_with fail
     generalize (w1.alloc (.cells #[.int .i64 (k:Int),.int .i64 hd,.int .i64 (y:Int)] 231)).drew=w2 at *;generalize w1.heap.size=k1 at *
     cases hmay:may k ((p:Int) - 1) y with
     | false=>
       have HN:=hid (show dec l=none by rw[HD.out,if_neg (fun h=>by rw[hmay] at h;simp at h)]);refine (refEncode_no _ k hd y (by rw[HH.out];exact hmay)).mono ?_;rintro e w3 ⟨rfl,hb3⟩;have HT3:=hid (HT2.out.keep hb3);have hc0:=HT3.out.own.box.c0;have hc1:=HT3.out.own.box.c1;have hc2:=HT3.out.own.box.c2;have hf0:=HT3.out.own.f 0;have hf1:=HT3.out.own.f 1;have hf2:=HT3.out.own.f 2;have hg0:=HT3.out.free.c0;have hg1:=HT3.out.free.c1;have hg2:=HT3.out.free.c2;clear hb3 hmay HT2 H2 HD HH HG2;go_wp2
       rw[HN.out];refine bodyPost_ret (v:=rv none) ?_ rfl ⟨rfl,?_⟩
       · simp[results,Tryz.results212,go_sem,rv,gv,hc0,hc1,hc2]
       · exact ((HT3.out.below.setCell (Nat.le_refl _) _).setCell (Nat.le_refl _) _).setCell (Nat.le_refl _) _
     | true=>
       refine (refEncode_yes _ k p y hd HH.out hmay).mono ?_;rintro e w3 ⟨G,gc,rfl,hw,hb3⟩;have HT3:=hid (HT2.out.keep hb3);have HG3:=hid (HG2.out.keep hb3);have H3:=hid (H2.out.keep hb3);have HW:=hid hw;have HM:=hid hmay;have hz3:w.heap.size < w3.heap.size:=HT3.out.own.box.lt;have hz4:w.heap.size+1 < w3.heap.size:=HT3.out.free.lt;have hz5:k1 < w3.heap.size:=HG3.out.lt;clear hb3 hmay HT2 HG2 H2 hw hlen hk1 hp1;go_wp2
       go_loopw [52] (fun i wr=>∃ (j q:Nat),j≤8∧i = .int .i64 (j:Int)∧(ln k p y).take j=l.take j∧wr=w3.drewN q) (fun i _=>8 - (intOf i).toNat)
       case atStart=>exact⟨0,0,Nat.zero_le _,rfl,rfl,rfl⟩
       case round=>
        obtain⟨j,q,hj,rfl,hs,rfl⟩:=hrel
        have HS:=hid hs;clear hs;by_cases hlt:j < 8
        · have hlt1:j < (ln k p y).length:=by rw[ln_len];exact hlt
          have hlt2:j < l.length:=by rw[HL.out];exact hlt
          obtain⟨b1,o1,rfl,hb1,hcell1⟩:=HW.out.at' j hlt1
          obtain⟨b2,o2,e,hb2,hcell2⟩:=H3.out.at' j hlt2
          injection e with e
          injection e with e1 e2
          subst e1 e2;have hi0:(0:Int)≤(j:Int):=by omega
          have hi1:(j:Int) < 8:=by omega
          have HE:=hid (show (ln k p y).take (j+1)=l.take (j+1)↔(ln k p y)[j]=l[j] by
           rw[List.take_succ_eq_append_getElem hlt1,List.take_succ_eq_append_getElem hlt2,HS.out,List.append_right_inj]
           simp)
          generalize (ln k p y)[j]=u at *;generalize l[j]=z at *;clear hlt1 hlt2;by_cases huz:u=z
          · subst huz
            have HE1:=hid (HE.out.2 rfl);clear HE;go_wp2
            go_quiet (fail)
            go_wp2
            refine⟨⟨j+1,q+nq,by omega,by go_num,HE1.out,rfl⟩,by simp[intOf];omega⟩
          · have hne:¬ (u:Int)=(z:Int):=by omega
            have HN:=hid (show dec l=none by rw[HD.out,if_neg (fun h=>huz (HE.out.1 (by rw[h.2])))]);clear HE huz;go_wp2
            go_quiet (fail)
            clear hi0 hi1 hcell1 hcell2;have HT4:=hid (HT3.out.drewN (q+nq));have hc0:=HT4.out.own.box.c0;have hc1:=HT4.out.own.box.c1;have hc2:=HT4.out.own.box.c2;have hf0:=HT4.out.own.f 0;have hf1:=HT4.out.own.f 1;have hf2:=HT4.out.own.f 2;have hg0:=HT4.out.free.c0;have hg1:=HT4.out.free.c1;have hg2:=HT4.out.free.c2;go_wp2
            rw[HN.out];refine bodyPost_ret (v:=rv none) ?_ rfl ⟨rfl,?_⟩
            · simp[results,Tryz.results212,go_sem,rv,gv,hc0,hc1,hc2]
            · exact ((HT4.out.below.setCell (Nat.le_refl _) _).setCell (Nat.le_refl _) _).setCell (Nat.le_refl _) _
        · obtain rfl:j=8:=by omega
          have he:l=ln k p y:=by
           have:=HS.out
           rw[List.take_of_length_le (by rw[ln_len];omega),List.take_of_length_le (by rw[HL.out];omega)] at this;exact this.symm
          have HN:=hid (show dec l=some (k,p,y) by rw[HD.out,if_pos ⟨HM.out,he⟩]);clear he;have HT4:=hid (HT3.out.drewN q);have HG4:=hid (HG3.out.drewN q);have hc0:=HT4.out.own.box.c0;have hc1:=HT4.out.own.box.c1;have hc2:=HT4.out.own.box.c2;have hf0:=HT4.out.own.f 0;have hf1:=HT4.out.own.f 1;have hf2:=HT4.out.own.f 2;have hg0:=HG4.out.c0;have hg1:=HG4.out.c1;have hg2:=HG4.out.c2;go_wp2
          rw[HN.out];refine bodyPost_ret (v:=rv (some (k,p,y))) ?_ rfl ⟨rfl,?_⟩
          · simp[results,Tryz.results212,go_sem,rv,gv,hc0,hc1,hc2,HH.out]
          · exact ((HT4.out.below.setCell (Nat.le_refl _) _).setCell (Nat.le_refl _) _).setCell (Nat.le_refl _) _
   · have HN:=hid (show dec l=none by
      unfold dec;simp only[HD0.out,HD1.out];exact if_neg (fun h=>hxy ⟨h.2.1,(may_lt h.2.2.1).2.2⟩))
     by_cases h32:x < 4294967296
     · have hx32:¬ (4294967295:Int) < (x:Int):=by omega
       have hy28:(268435456:Int) < (y:Int):=by omega
       go_enter Tryz.func212,Tryz.ntmps212
       go_wp2
       rw[HN.out];refine bodyPost_ret (v:=rv none) ?_ rfl ⟨rfl,?_⟩
       · simp[results,Tryz.results212,go_sem,rv,gv]
       · exact below_two _ _ _
     · have hx32:(4294967295:Int) < (x:Int):=by omega
       go_enter Tryz.func212,Tryz.ntmps212
       go_wp2
       rw[HN.out];refine bodyPost_ret (v:=rv none) ?_ rfl ⟨rfl,?_⟩
       · simp[results,Tryz.results212,go_sem,rv,gv]
       · exact below_two _ _ _
 · have HN:=hid (show dec l=none by
    unfold dec;exact if_neg (fun h=>hl h.1))
   have hl':¬ (l.length:Int)=8:=by omega
   go_enter Tryz.func212,Tryz.ntmps212
   go_wp2
   rw[HN.out];refine bodyPost_ret (v:=rv none) ?_ rfl ⟨rfl,?_⟩
   · simp[results,Tryz.results212,go_sem,rv,gv]
   · exact below_two _ _ _
end
end Ino
end
section
open Lib (hid)
open Go.RowKit Go.MapKept
namespace Ino
open Lin
theorem nums_ex:nums 1 3=196609:=by decide
theorem may_ex:may ((1:Nat):Int) (((3:Nat):Int) - 1) ((5:Nat):Int)=true:=by decide
theorem lives_any (w:World):Calls Tryz.prog 200 #[] w fun r w'=>r = .returned (.bool true)∧Below w.heap.size w w':=by
 have he:Calls Tryz.prog 177 #[.agg #[.int .i64 1,.int .i64 2,.int .i64 5]] w fun r w'=>∃ g:Nat,w.heap.size≤g∧r = .returned (.tuple #[.slice (some ⟨g,0,none⟩) 8 8,.int .i64 0])∧w'.rowIs g 50 8 (rowOf (full 1 3 5))∧Below w.heap.size w w':=encode_full w 1 3 5 2 (by decide) (by decide) may_ex
 have HE:=hid he;have H2:=hid Crc.lives_any;have H3:=hid Pack.lives_any;clear he;go_enter Tryz.func200,Tryz.ntmps200
 go_wp2_with fail
 refine HE.out.mono ?_;rintro e w0 ⟨g,_,rfl,hrow,hb⟩;have HR1:=hid hrow;have HB1:=hid hb;clear hrow hb HE;go_wp2_with fail
 refine (H2.out _).mono ?_;rintro e w2 ⟨rfl,hb⟩;have HR2:=hid (row_keep HR1.out hb);have HB2:=hid (HB1.out.trans (hb.mono HB1.out.size));clear hb HR1 HB1;go_wp2_with fail
 refine (H3.out _).mono ?_;rintro e w3 ⟨rfl,hb⟩;have HR3:=hid (row_keep HR2.out hb);have HB3:=hid (HB2.out.trans (hb.mono HB2.out.size));clear hb HR2 HB2
 have hc1:w3.cell? ⟨g,0,none⟩=some (.int .u64 196609):=by
  rw[HR3.out.cell (i:=0) (by omega)];show some (Value.int .u64 ((nums 1 3:Nat):Int))=_
  rw[nums_ex];rfl
 go_wp2
 go_ret
 exact⟨rfl,HB3.out⟩
end Ino
end
section
open Lib (hid)
open Go.RowKit Go.MapKept
namespace Slo
open Lin
theorem may_ex:may ((1:Nat):Int) ((2:Nat):Int) (nx 3)=true:=by decide
theorem and_ex:bits .and .u64 ((wd 1 2 3:Nat):Int) 281474976710655=12885032961:=by decide +kernel
theorem lives_any (w:World):Calls Tryz.prog 201 #[] w fun r w'=>r = .returned (.bool true)∧Below w.heap.size w w':=by
 have he:Calls Tryz.prog 221 #[.agg #[.int .i64 1,.int .i64 2,.int .i64 3]] w fun r w'=>r = .returned (.tuple #[.int .u64 (wd 1 2 3:Nat),.int .i64 0])∧Below w.heap.size w w':=encode_yes w 1 2 3 3 (by decide) may_ex
 have HE:=hid he;have H2:=hid Crc.lives_any;have H3:=hid Pack.lives_any;have hx:=and_ex;generalize wd 1 2 3=x at *;clear he;go_enter Tryz.func201,Tryz.ntmps201
 go_wp2_with fail
 refine HE.out.mono ?_;rintro e w0 ⟨rfl,hb⟩;have HB1:=hid hb;clear hb HE;go_wp2_with fail
 refine (H2.out _).mono ?_;rintro e w2 ⟨rfl,hb⟩;have HB2:=hid (HB1.out.trans (hb.mono HB1.out.size));clear hb HB1;go_wp2_with fail
 refine (H3.out _).mono ?_;rintro e w3 ⟨rfl,hb⟩;have HB3:=hid (HB2.out.trans (hb.mono HB2.out.size));clear hb HB2;go_wp2
 go_ret
 exact⟨rfl,HB3.out⟩
end Slo
end
section
open Lib (hid)
open Go.RowKit Go.MapKept
namespace Rec
open Lin
theorem nums_ex:nums 2 3 4=1125912791875585:=by decide
theorem may_ex:may ((2:Nat):Int) ((3:Nat):Int) ((4:Nat):Int) ((5:Nat):Int)=true:=by decide
theorem lives_any (w:World):Calls Tryz.prog 202 #[] w fun r w'=>r = .returned (.bool true)∧Below w.heap.size w w':=by
 have he:Calls Tryz.prog 66 #[.agg #[.int .i64 2,.int .i64 3,.int .i64 4,.int .i64 5]] w fun r w'=>∃ g:Nat,w.heap.size≤g∧r = .returned (.tuple #[.slice (some ⟨g,0,none⟩) 8 8,.int .i64 0])∧w'.rowIs g 50 8 (rowOf (ln 2 3 4 5))∧Below w.heap.size w w':=encode_yes w 2 3 4 5 may_ex
 have HE:=hid he;have H2:=hid Crc.lives_any;have H3:=hid Pack.lives_any;clear he;go_enter Tryz.func202,Tryz.ntmps202
 go_wp2_with fail
 refine HE.out.mono ?_;rintro e w0 ⟨g,_,rfl,hrow,hb⟩;have HR1:=hid hrow;have HB1:=hid hb;clear hrow hb HE;go_wp2_with fail
 refine (H2.out _).mono ?_;rintro e w2 ⟨rfl,hb⟩;have HR2:=hid (row_keep HR1.out hb);have HB2:=hid (HB1.out.trans (hb.mono HB1.out.size));clear hb HR1 HB1;go_wp2_with fail
 refine (H3.out _).mono ?_;rintro e w3 ⟨rfl,hb⟩;have HR3:=hid (row_keep HR2.out hb);have HB3:=hid (HB2.out.trans (hb.mono HB2.out.size));clear hb HR2 HB2
 have hc1:w3.cell? ⟨g,0,none⟩=some (.int .u64 1125912791875585):=by
  rw[HR3.out.cell (i:=0) (by omega)];show some (Value.int .u64 ((nums 2 3 4:Nat):Int))=_
  rw[nums_ex];rfl
 go_wp2
 go_ret
 exact⟨rfl,HB3.out⟩
end Rec
end
section
open Lib (hid)
open Go.RowKit Go.MapKept
namespace Vol
theorem may_ex:Slo.may ((0:Nat):Int) ((1:Nat):Int) (Slo.nx 65535)=true:=by decide
theorem lives_any (w:World) (hT:Bm.Tab w):Calls Tryz.prog 139 #[] w fun r w'=>r = .returned (.bool true)∧Below w.heap.size w w':=by
 have HT:=hid hT
 obtain⟨sl,bm,bk,E,hpl⟩:=pl_any 3 3 0
 have HD:=hid (rdev_any w 3 3 0 (by omega) (by omega) (by omega) none 0 (ws:=[]) (Pack.wds_nil w none) hpl);have HL5:=hid (fun w=>Sup.lives_any w);have HL6:=hid (fun w=>Ino.lives_any w);have HL7:=hid (fun w=>Slo.lives_any w);have HL9:=hid (fun w=>Rec.lives_any w);have HP:=hid hpl;clear hT hpl;go_enter Tryz.func139,Tryz.ntmps139
 go_wp2_with fail
 refine HD.out.mono ?_;rintro r w1 ⟨a,g,gc,B,rfl,h1,h2,h3,h4,hup,hwd,hb⟩;have HU:=hid hup;have HB:=hid hb;have HN:=hid (show w.heap.size≤B∧B≤w1.heap.size from ⟨h1,h3⟩);clear h1 h2 h3 h4 hup hwd hb HD;have hbv:=(Below.refl w1.heap.size w1).alloc (Nat.le_refl _) (.cells (dv (gn 3) (gn 3) (gs 0) sl bm bk E (.slice (some ⟨g,0,none⟩) E gc)) 102);have HU2:=hid (HU.out.keep hbv);have HB2:=hid (HB.out.trans (hbv.mono HB.out.size));clear hbv HU HB;unfold dv at HU2 HB2 ⊢;go_wp2_with fail
 generalize w1.alloc (.cells #[.int .i64 (gn 3:Nat),.int .i64 (gn 3:Nat),.int .i64 (gs 0:Nat),.int .i64 16,.int .i64 (sl:Int),.int .i64 (bm:Int),.int .i64 (bk:Int),.int .i64 (E:Int),.slice (some ⟨g,0,none⟩) E gc] 102)=w2 at *;refine (HL5.out _).mono ?_;rintro r w3 ⟨rfl,hb⟩;have HU3:=hid (HU2.out.keep hb);have HB3:=hid (HB2.out.trans (hb.mono HB2.out.size));clear hb HU2 HB2 HL5;go_wp2_with fail
 refine (HL6.out _).mono ?_;rintro r w4 ⟨rfl,hb⟩;have HU4:=hid (HU3.out.keep hb);have HB4:=hid (HB3.out.trans (hb.mono HB3.out.size));clear hb HU3 HB3 HL6;go_wp2_with fail
 refine (HL7.out _).mono ?_;rintro r w5 ⟨rfl,hb⟩;have HU5:=hid (HU4.out.keep hb);have HB5:=hid (HB4.out.trans (hb.mono HB4.out.size));clear hb HU4 HB4 HL7;go_wp2_with fail
 refine (HL9.out _).mono ?_;rintro r w6 ⟨rfl,hb⟩;have HU6:=hid (HU5.out.keep hb);have HB6:=hid (HB5.out.trans (hb.mono HB5.out.size));clear hb HU5 HB5 HL9;have HL10:=hid (Bm.lives_any w6 (HT.out.below HB6.out HT.out.lt));go_wp2_with fail
 refine HL10.out.mono ?_;rintro r w7 ⟨rfl,hb⟩;have HU7:=hid (HU6.out.keep hb);have HB7:=hid (HB6.out.trans (hb.mono HB6.out.size));clear hb HU6 HB6 HL10;have HOP:=hid (open_any HU7.out HP.out.may (by rw[rawW_len HP.out];exact HP.out.e4.symm) (rawW_read HP.out));go_wp2_with fail
 refine HOP.out.mono ?_;rintro r w8 ⟨vb,rfl,hvb,hvo,hb⟩
 have HV8:=hid (hvo.sub (Q':=fun k=>k < B∨k=vb) (fun k hk=>by
  rcases hk with hk | rfl
  · exact .inl hk
  · exact .inr ⟨hvb,hvo.lt⟩) (.inr rfl))
 have HB8:=hid (HB7.out.trans (hb.mono HB7.out.size));clear hvb hvo hb HOP HU7 HB7;have HSS:=hid (setSlot_yes HV8.out 0 0 1 65535 (-1) (by decide) (by decide) may_ex (by omega));go_wp2_with fail
 refine HSS.out.mono ?_;rintro r w9 ⟨rfl,hv9,hk⟩;have HV9:=hid hv9;have HB9:=hid (HB8.out.trans (hk.below HB8.out.size (fun k hk=>.inl (Nat.lt_of_lt_of_le hk HN.out.1))));clear hv9 hk HSS HV8 HB8;have HST:=hid (up_steps HV9.out.up);have HSN:=hid (up_stores HV9.out.up);go_wp2_with fail
 refine HST.out.mono ?_;rintro r w' ⟨rfl,rfl⟩;go_wp2_with fail
 refine HSN.out.mono ?_;rintro r w' ⟨rfl,rfl⟩;go_wp2
 go_ret
 exact⟨rfl,HB9.out⟩
end Vol
end
section
open Go.RowKit Go.MapKept
namespace Vol
structure Ov (w w':World) (Q:Nat→Prop) (vb a g gc n m s E:Nat) (W:List Nat):Prop where
 vo:Vo Q w' vb a n m s W 0 0
 qg:Q g
 ql:∀ k,k < w.heap.size→Q k
 wds:Pack.Wds w' (some ⟨g,0,none⟩) W
 cap:E≤gc
 below:Below w.heap.size w w'
 len:W.length=E
theorem Vo.put {Q:Nat→Prop} {w:World} {vb a n m s:Nat} {W:List Nat} {st sn:Nat} (h:Vo Q w vb a n m s W st sn) {p:Addr} (hp:Q p.block) (hne:vb≠p.block) (v:Value):Vo Q (w.setCell p v) vb a n m s W st sn:=
 ⟨(Below.heap_setCell _ _ _ _ hne).trans h.vol,h.q,h.up.put hp v,h.may,h.len⟩
section
variable {sl bm bk E : Nat} {ws : List Nat}
end
end Vol
end
section
open Lib (hid)
open Go.RowKit Go.MapKept
namespace Vol
theorem wds_part {w:World} {g f k:Nat} {W:List Nat} (h:Pack.Wds w (some ⟨g,0,none⟩) W) (hf:f+k≤W.length):Pack.Wds w (some ⟨g,f,none⟩) (rdw W f k):=by
 refine⟨rdw_u64 h.u64 f k,by rw[rdw_len];have:=h.len;omega,fun j hj=>?_⟩
 rw[rdw_len] at hj
 obtain⟨b,o,e,hb,hc⟩:=h.at' (f+j) (by omega)
 injection e with e
 injection e with e1 e2
 subst e1 e2
 refine⟨g,f,rfl,hb,?_⟩
 rw[rdw_get,List.getElem?_eq_getElem (by omega),Option.getD_some];rw[Nat.zero_add] at hc;exact hc
section
variable {w : World} {n m s sl bm bk E : Nat} {W : List Nat}
theorem rinode_yes (w:World) (g gc:Nat) (hW:Pack.Wds w (some ⟨g,0,none⟩) W) (hWE:W.length=E) (hc:E≤gc) (i:Nat) (hi:i < m) (hin:16+8 * i+8≤E) (hE:E≤1000) :
 Calls Tryz.prog 151 #[.agg (dv n m s sl bm bk E (.slice (some ⟨g,0,none⟩) E gc)),.int .i64 (i:Int)] w fun r w'=>r = .returned (Ino.rv (Ino.dec (rdw W (16+8 * i) 8)))∧Below w.heap.size w w':=by
 have HX:=hid (hb_new w (dv n m s sl bm bk E (.slice (some ⟨g,0,none⟩) E gc)) 102);have HB0:=hid ((Below.refl w.heap.size w).alloc (Nat.le_refl _) (.cells (dv n m s sl bm bk E (.slice (some ⟨g,0,none⟩) E gc)) 102));have HW:=hid hW
 obtain⟨F,hF⟩:∃ F,F=16+8 * i:=⟨_,rfl⟩
 obtain⟨G,hG⟩:∃ G,G=F+8:=⟨_,rfl⟩
 have HD:=hid (fun (w':World) (cp:Nat) (hb:Below w.heap.size w w')=>show Calls Tryz.prog 212 #[.slice (some ⟨g,F,none⟩) 8 cp] w' _ from by
  have hd:=Ino.refDecode_any (w:=w') (some ⟨g,F,none⟩) cp (rdw W F 8) (wds_part (hW.keep hb) (by omega));rw[rdw_len] at hd;exact hd)
 rw[← hF]
 obtain⟨g0,g1,g2,hg⟩:=gv_ino (Ino.dec (rdw W F 8))
 unfold Ino.rv at HD ⊢;rw[hg] at HD ⊢;generalize (Ino.dec (rdw W F 8)).isSome=is at *;clear hg;have hsum:(16:Int)+8 * (i:Int)=(F:Int):=by omega
 have hsum2:(F:Int)+8=(G:Int):=by omega
 have hi8:i≤200:=by omega
 have hFb:F≤1000∧G≤1000:=by omega
 have hGc:G≤gc:=by omega
 have hFG:F≤G:=by omega
 have hd1:decide ((i:Int) < 0)=false:=decide_eq_false (by omega);have hd2:decide ((m:Int)≤(i:Int))=false:=decide_eq_false (by omega);have hGF:G - F=8:=by omega
 have hd3:decide (m≤i)=false:=decide_eq_false (by omega);clear hF hG hi;unfold dv at HX HB0 ⊢;go_enter Tryz.func151,Tryz.ntmps151
 obtain⟨w0,hw0⟩:∃ w0,w0=w.alloc (.cells #[.int .i64 (n:Int),.int .i64 (m:Int),.int .i64 (s:Int),.int .i64 16,.int .i64 (sl:Int),.int .i64 (bm:Int),.int .i64 (bk:Int),.int .i64 (E:Int),.slice (some ⟨g,0,none⟩) E gc] 102):=⟨_,rfl⟩
 rw[← hw0] at HX HB0;have hz0:w0.heap.size=w.heap.size+1:=by rw[hw0,World.size_alloc]
 have hb1:=HB0.out.alloc HB0.out.size (.cells #[.int .i64 0,.int .i64 0,.int .i64 0] 231);have hx1:=hb_new w0 #[.int .i64 0,.int .i64 0,.int .i64 0] 231;rw[hz0] at hx1;have HB1:=hid hb1;have HX1:=hid hx1;clear hb1 hx1;go_wp2_with fail
 rw[← hw0];clear hw0;generalize w0.alloc (.cells #[.int .i64 0,.int .i64 0,.int .i64 0] 231)=w1 at *;refine (HD.out _ _ HB1.out).mono ?_;rintro r w2 ⟨rfl,hb⟩;have HB2:=hid (HB1.out.trans (hb.mono HB1.out.size));have HX2:=hid (HX1.out.keep hb);clear hb;have c0:=HX2.out.cell 0;have c1:=HX2.out.cell 1;have c2:=HX2.out.cell 2;have f0:=HX2.out.frozen 0;have f1:=HX2.out.frozen 1;have f2:=HX2.out.frozen 2;have hl2:=HX2.out.lt;go_wp2
 refine bodyPost_ret (v:=.tuple #[.agg #[.int .i64 g0,.int .i64 g1,.int .i64 g2],.bool is]) ?_ rfl ⟨rfl,?_⟩
 · simp[results,Tryz.results151,go_sem,c0,c1,c2]
 · exact ((HB2.out.setCell (Nat.le_succ _) _).setCell (Nat.le_succ _) _).setCell (Nat.le_succ _) _
end
end Vol
end
section
open Lib (hid)
open Go.RowKit Go.MapKept
namespace Clm
open Chn (row_base_lt3 own_keep3)
open Vol (Hb hb_new hb_grown dv Pl rdw)
section
theorem rread_nil (w:World) (v0 v1 v2 v3 v4 v5 v6 v7 v8:Value):Calls Tryz.prog 152 #[.agg #[v0,v1,v2,v3,v4,v5,v6,v7,v8],.int .i64 (-1)] w fun r w'=>r = .returned (.tuple #[.agg #[.slice none 0 0,.slice none 0 0],.bool true])∧Below w.heap.size w w':=by
 go_enter Tryz.func152,Tryz.ntmps152
 go_wp2
 have hb:=(((Below.refl w.heap.size w).alloc (Nat.le_refl _) (.cells #[v0,v1,v2,v3,v4,v5,v6,v7,v8] 102)).alloc (by simp) (.cells #[.slice none 0 0,.slice none 0 0] 236)).alloc (by simp;omega) (.cells #[.slice none 0 0,.slice none 0 0] 236);have h4:=(hb_new (w.alloc (.cells #[v0,v1,v2,v3,v4,v5,v6,v7,v8] 102)) #[.slice none 0 0,.slice none 0 0] 236).keep ((Below.refl _ _).alloc (Nat.le_refl _) (.cells #[.slice none 0 0,.slice none 0 0] 236));have h6:=hb_new ((w.alloc (.cells #[v0,v1,v2,v3,v4,v5,v6,v7,v8] 102)).alloc (.cells #[.slice none 0 0,.slice none 0 0] 236)) #[.slice none 0 0,.slice none 0 0] 236;simp only[World.size_alloc] at h4 h6;generalize ((w.alloc (.cells #[v0,v1,v2,v3,v4,v5,v6,v7,v8] 102)).alloc (.cells #[.slice none 0 0,.slice none 0 0] 236)).alloc (.cells #[.slice none 0 0,.slice none 0 0] 236)=W at *
 go_loopw [7] (fun s wr=>s = .int .i64 (-1)∧wr=W) (fun _ _=>0)
 case atStart=>exact⟨rfl,rfl⟩
 case round=>
  obtain⟨rfl,rfl⟩:=hrel
  have c0:=h4.cell 0;have c1:=h4.cell 1;have f0:=h4.frozen 0;have f1:=h4.frozen 1;have cl:=h4.lt;have d0:=h6.cell 0;have d1:=h6.cell 1;have dl:=h6.lt;have hB:=hid hb;clear h4 h6 hb;go_wp2
  refine bodyPost_ret (v:=.tuple #[.agg #[.slice none 0 0,.slice none 0 0],.bool true]) ?_ rfl ⟨rfl,?_⟩
  · simp[results,Tryz.results152,go_sem,c0,c1]
  · exact (hB.out.setCell (p:=⟨w.heap.size+1,0,none⟩) (Nat.le_succ _) _).setCell (p:=⟨w.heap.size+1,1,none⟩) (Nat.le_succ _) _
theorem rblk_nil (w:World):Calls Tryz.prog 153 #[.agg #[.slice none 0 0,.slice none 0 0]] w fun r w'=>r = .returned (.slice none 0 0)∧Below w.heap.size w w':=by
 go_enter Tryz.func153,Tryz.ntmps153
 go_wp2
 have hb:=(Below.refl w.heap.size w).alloc (Nat.le_refl _) (.cells #[.slice none 0 0,.slice none 0 0] 236);generalize w.alloc (.cells #[.slice none 0 0,.slice none 0 0] 236)=W at *
 go_loopw [3,10] (fun s i wr=>s = .slice none 0 0∧i = .int .i64 0∧wr=W) (fun _ _ _=>0)
 case atStart=>exact⟨rfl,rfl,rfl⟩
 case round=>
  obtain⟨rfl,rfl,rfl⟩:=hrel
  go_wp2
  go_ret
  exact⟨rfl,hb⟩
theorem rneed_zero (w:World) (s:Int):Calls Tryz.prog 154 #[.int .i64 s,.int .i64 0] w fun r w'=>r = .returned (.int .i64 0)∧Below w.heap.size w w':=by
 go_enter Tryz.func154,Tryz.ntmps154
 go_wp2
 go_loopw [5] (fun n wr=>n = .int .i64 0∧wr=w) (fun _ _=>0)
 case atStart=>exact⟨rfl,rfl⟩
 case round=>
  obtain⟨rfl,rfl⟩:=hrel
  go_wp2
  go_ret
  exact⟨rfl,Below.refl _ _⟩
end
theorem own_ne {w:World} {B B' n n' s s':Nat} {e e':TypeId} {v v':Value} {xs xs':List Value} (h:w.ownsRow B e s v n xs) (h':w.ownsRow B' e' s' v' n' xs') (he:e≠e'):v.ownBlock=none∨v.ownBlock≠v'.ownBlock:=by
 rcases h.2 with ⟨e1,_⟩ | ⟨g,cap,cur,e1,_,hg,_⟩
 · left;rw[e1];rfl
 rcases h'.2 with ⟨e2,_⟩ | ⟨g',cap',cur',e2,_,hg',_⟩
 · right;rw[e1,e2];intro k;cases k
 right
 rw[e1,e2];intro k;have k:g=g':=by simpa [Value.ownBlock] using k
 subst k;rw[hg] at hg';injection hg' with hg'
 injection hg' with _ h2
 exact he h2
theorem znode_info:(Tryz.prog.info? 231).map (fun i=>(i.zero,i.size,i.bytes))=some (some (.agg #[.int .i64 0,.int .i64 0,.int .i64 0]),3,24):=by kernel_rfl
theorem zchain_info:(Tryz.prog.info? 236).map (fun i=>(i.zero,i.size,i.bytes))=some (some (.agg #[.slice none 0 0,.slice none 0 0]),2,48):=by kernel_rfl
theorem zrow_slice {B n s:Nat} {W:World} {e:TypeId} {v:Value} {xs:List Value} (h:W.ownsRow B e s v n xs):∃ G c,v = .slice G n c:=by
 rcases h.2 with ⟨e,h0⟩ | ⟨g,cap,cur,e,_⟩
 · exact⟨none,0,by rw[e,h0]⟩
 · exact⟨_,_,e⟩
theorem zcells_two (w:World) (x y:Value) (t:TypeId):∀ j u,[x,y][j]? = some u→(w.alloc (.cells #[x,y] t)).cell? ((⟨w.heap.size,0,none⟩:Addr).add j)=some u:=by
 intro j u hj
 match j,hj with
 | 0,hj=>
   simp at hj;subst hj;simp[Addr.add]
 | 1,hj=>
   simp at hj;subst hj;simp[Addr.add]
structure Zr (w:World) (D:Array Value) (n k ic hc:Nat) (I H:Option Addr) (cs ds:List Value) (wr:World):Prop where
 vol:Hb wr w.heap.size D 102
 res:Hb wr (w.heap.size+1) #[.int .i64 0,.slice none 0 0,.slice none 0 0] 106
 box:Hb wr (w.heap.size+1+1) #[.int .i64 (n:Int),.slice I k ic,.slice H k hc] 106
 nds:wr.ownsRow w.heap.size 231 3 (.slice I k ic) k cs
 chs:wr.ownsRow w.heap.size 236 2 (.slice H k hc) k ds
 below:Below w.heap.size w wr
theorem Zr.keep {w w1 w2:World} {D:Array Value} {n k ic hc:Nat} {I H:Option Addr} {cs ds:List Value} (h:Zr w D n k ic hc I H cs ds w1) (hb:Below w1.heap.size w1 w2):Zr w D n k ic hc I H cs ds w2:=
 ⟨h.vol.keep hb,h.res.keep hb,h.box.keep hb,own_keep3 h.nds hb,own_keep3 h.chs hb,h.below.trans (hb.mono h.below.size)⟩
section
variable {w : World} {n m s sl' bm bk E g gc : Nat} {W : List Nat}
theorem rscan_free (hpl:Pl n m s sl' bm bk E) (hW:Pack.Wds w (some ⟨g,0,none⟩) W) (hWE:W.length=E) (hgc:E≤gc) (hz:∀ i,i < m→rdw W (16+8 * i) 8=Ino.ln 0 0 0) :
 Calls Tryz.prog 94 #[.agg (dv n m s sl' bm bk E (.slice (some ⟨g,0,none⟩) E gc))] w fun r w'=>
  ∃ I ic H hc,r = .returned (.tuple #[.agg #[.int .i64 (n:Int),.slice I m ic,.slice H m hc],.bool true])∧Below w.heap.size w w':=by
 have hn20:=hpl.n20;have hm20:=hpl.m20;have hs2:=hpl.s2;have HIN:=hid (fun w' (hb:Below w.heap.size w w') (i:Nat) (hi:i < m)=>Vol.rinode_yes (n:=n) (m:=m) (s:=s) (sl:=sl') (bm:=bm) (bk:=bk) w' g gc (hW.keep hb) hWE hgc i hi (by have:=hpl.at;omega) (by have:=hpl.at;omega))
 have HIN:=hid (fun w' (hb:Below w.heap.size w w') (i:Nat) (hi:i < m)=>by
  have:=HIN.out w' hb i hi
  rw[hz i hi,Ino.dec_ln (k:=0) (p:=0) (s:=0) (by decide)] at this;exact this)
 clear hz hW hpl;unfold dv at HIN ⊢;simp only[Ino.rv,Ino.gv,Option.isSome] at HIN;go_enter Tryz.func94,Tryz.ntmps94
 obtain⟨D,hD⟩:∃ D:Array Value,D=#[.int .i64 (n:Int),.int .i64 (m:Int),.int .i64 (s:Int),.int .i64 16,.int .i64 (sl':Int),.int .i64 (bm:Int),.int .i64 (bk:Int),.int .i64 (E:Int),.slice (some ⟨g,0,none⟩) E gc]:=⟨_,rfl⟩
 have HD:=hid hD
 have HRB:=hid (show Zr w D n 0 0 0 none none [] [] (((w.alloc (.cells #[.int .i64 (n:Int),.int .i64 (m:Int),.int .i64 (s:Int),.int .i64 16,.int .i64 (sl':Int),.int .i64 (bm:Int),.int .i64 (bk:Int),.int .i64 (E:Int),.slice (some ⟨g,0,none⟩) E gc] 102)).alloc (.cells #[.int .i64 0,.slice none 0 0,.slice none 0 0] 106)).alloc (.cells #[.int .i64 (n:Int),.slice none 0 0,.slice none 0 0] 106)) from by
  rw[← hD];have h1:=hb_new w D 102;have h2:=hb_new (w.alloc (.cells D 102)) #[.int .i64 0,.slice none 0 0,.slice none 0 0] 106;have h3:=hb_new ((w.alloc (.cells D 102)).alloc (.cells #[.int .i64 0,.slice none 0 0,.slice none 0 0] 106)) #[.int .i64 (n:Int),.slice none 0 0,.slice none 0 0] 106;simp only[World.size_alloc] at h2 h3;have k:=fun (W:World) o=>(Below.refl W.heap.size W).alloc (Nat.le_refl _) o
  exact⟨(h1.keep (k _ _)).keep (k _ _),h2.keep (k _ _),h3,⟨rfl,.inl ⟨rfl,rfl⟩⟩,⟨rfl,.inl ⟨rfl,rfl⟩⟩,((k w _).trans ((k _ _).mono (by simp))).trans ((k _ _).mono (by simp;omega))⟩)
 clear hD;go_wp2
 go_loopw [5,6,22] (fun v5 v6 q wr=>∃ (k ic hc:Nat) (I H:Option Addr) (cs ds:List Value),k≤m∧q = .int .i64 (k:Int)∧v5 = .slice none 0 0∧v6 = .slice none 0 0∧Zr w D n k ic hc I H cs ds wr) (fun _ _ q _=>m - (intOf q).toNat)
 case atStart=>exact⟨0,0,0,none,none,[],[],Nat.zero_le _,rfl,rfl,rfl,HRB.out⟩
 case round=>
  obtain⟨k,ic,hc,I,H,cs,ds,hk,rfl,rfl,rfl,hr⟩:=hrel
  clear HRB;have HR:=hid hr;by_cases hlt:k < m
  · have hvol:=hr.vol
    rw[HD.out] at hvol;have v0:=hvol.cell 0;have v1:=hvol.cell 1;have v2:=hvol.cell 2;have v3:=hvol.cell 3;have v4:=hvol.cell 4;have v5:=hvol.cell 5;have v6:=hvol.cell 6;have v7:=hvol.cell 7;have v8:=hvol.cell 8;have vl:=hvol.lt;have hti:(k:Int) < (m:Int):=by omega
    have HDC:=hid (HIN.out wr hr.below k hlt);clear hvol hr;go_wp2_with fail
    refine HDC.out.mono ?_;rintro e w1 ⟨rfl,hb⟩;clear v0 v1 v2 v3 v4 v5 v6 v7 v8 vl HDC;have HR1:=hid (HR.out.keep hb);clear hb;have HX2:=hid (hb_new w1 #[.int .i64 0,.int .i64 (-1),.int .i64 0] 231);have HR2:=hid (HR1.out.keep ((Below.refl w1.heap.size w1).alloc (Nat.le_refl _) (.cells #[.int .i64 0,.int .i64 (-1),.int .i64 0] 231)));have hvol:=HR2.out.vol;rw[HD.out] at hvol;have v0:=hvol.cell 0;have v1:=hvol.cell 1;have v2:=hvol.cell 2;have v3:=hvol.cell 3;have v4:=hvol.cell 4;have v5:=hvol.cell 5;have v6:=hvol.cell 6;have v7:=hvol.cell 7;have v8:=hvol.cell 8;have vl:=hvol.lt;have x1:=HX2.out.cell 1;have xl:=HX2.out.lt;clear hvol HR1;go_wp2_with fail
    clear v0 v1 v2 v3 v4 v5 v6 v7 v8 vl x1 xl;generalize w1.alloc (.cells #[.int .i64 0,.int .i64 (-1),.int .i64 0] 231)=w2 at *;generalize w1.heap.size=xb at *;refine (rread_nil w2 _ _ _ _ _ _ _ _ _).mono ?_;rintro e w3 ⟨rfl,hb⟩;have hal:=(Below.refl w3.heap.size w3).alloc (Nat.le_refl _) (.cells #[.slice none 0 0,.slice none 0 0] 236);have HR4:=hid (HR2.out.keep (hb.trans (hal.mono hb.size)));have HX4:=hid (HX2.out.keep (hb.trans (hal.mono hb.size)));have HY4:=hid (hb_new w3 #[.slice none 0 0,.slice none 0 0] 236);clear hb hal HR2 HX2;go_wp2_with fail
    generalize w3.alloc (.cells #[.slice none 0 0,.slice none 0 0] 236)=w4 at *;generalize w3.heap.size=yb at *;refine (rblk_nil w4).mono ?_;rintro e w5 ⟨rfl,hb⟩;have HR5:=hid (HR4.out.keep hb);have HX5:=hid (HX4.out.keep hb);have HY5:=hid (HY4.out.keep hb);clear hb HR4 HX4 HY4;have hvol:=HR5.out.vol;rw[HD.out] at hvol;have v0:=hvol.cell 0;have v2:=hvol.cell 2;have vl:=hvol.lt;have x2:=HX5.out.cell 2;have xl:=HX5.out.lt
    obtain⟨pr,hpr⟩:∃ pr,pr=s * n:=⟨_,rfl⟩
    have hmul:IntKind.i64.wrap ((s:Int) * (n:Int))=(pr:Int):=by
     rw[← Int.natCast_mul,← hpr];refine IntWalk.i64_in _ ?_
     have:pr≤2560:=by
      rw[hpr]
      rcases hs2 with h | h<;>rw[h]<;>omega
     omega
    have hz0:¬ (pr:Int) < 0:=by omega
    clear hvol hpr;go_wp2_with fail
    refine (rneed_zero _ _).mono ?_;rintro e w6 ⟨rfl,hb⟩;have HR6:=hid (HR5.out.keep hb);have HX6:=hid (HX5.out.keep hb);have HY6:=hid (HY5.out.keep hb);clear hb HR5 HX5 HY5 v0 v2 vl x2 xl hmul hz0;have y0:=HY6.out.cell 0;have y1:=HY6.out.cell 1;have yl:=HY6.out.lt;go_wp2
    go_loopw [6,69] (fun v6 q wq=>v6 = .slice none 0 0∧q = .int .i64 0∧wq=w6) (fun _ _ _=>0)
    case atStart=>exact⟨rfl,rfl,rfl⟩
    case round=>
     obtain⟨rfl,rfl,rfl⟩:=hrel
     go_wp2
     go_loopw [5,84] (fun v5 q wq=>v5 = .slice none 0 0∧q = .int .i64 0∧wq=wr) (fun _ _ _=>0)
     case atStart=>exact⟨rfl,rfl,rfl⟩
     case round=>
      obtain⟨rfl,rfl,rfl⟩:=hrel
      have hr6:=HR6.out;have b1:=hr6.box.cell 1;have b2:=hr6.box.cell 2;have bl':=hr6.box.lt;have bf1:=hr6.box.frozen 1;have bf2:=hr6.box.frozen 2;have x0:=HX6.out.cell 0;have x1:=HX6.out.cell 1;have x2:=HX6.out.cell 2;have xl:=HX6.out.lt;have hws:=hr6.below.size
      obtain⟨j0,hj0,hq0,hq1,hq2⟩:=info_parts znode_info
      obtain⟨k0,hk0,hr0,hr1,hr2⟩:=info_parts zchain_info
      have hcy:¬ w.heap.size+1+1=yb:=Pm.blk_ne hr6.box HY6.out (by decide);have hyc:¬ yb=w.heap.size+1+1:=fun e=>hcy e.symm
      have hal:=(Below.refl wr.heap.size wr).alloc (Nat.le_refl _) (.cells #[.int .i64 0,.int .i64 (-1),.int .i64 0] 231);have HO7:=hid (hr6.keep hal);have HY7:=hid (HY6.out.keep hal);clear hal hr6
      go_wp2_with (first
       | (at_builtin
          refine wpList_append_own_at _ rfl (.tmp 98) (.tmp 100) 103 rfl w.heap.size 231 j0 (.agg #[.int .i64 0,.int .i64 0,.int .i64 0]) 3 24 Tryz.underlying103 hj0 hq0 hq1 hq2 rfl (by decide) (.slice I k ic) k cs rfl HO7.out.nds ⟨wr.heap.size,0,none⟩ 1 1 [.int .i64 0,.int .i64 (-1),.int .i64 0] rfl rfl (Chn.cells_three_new _ _ _ _ _) (by simp[Value.oneCell']) (by unfold maxLen;omega) (by omega) (by simp;omega) ?_;intro v9 w9 hown9 hgr9 _ _
          obtain⟨G9,c9,rfl⟩:=zrow_slice hown9
          have hX9:=hb_grown HO7.out.box hgr9 (Chn.hb_apart3 HO7.out.box HO7.out.nds (by decide));have hY9:=hb_grown HY7.out hgr9 (Chn.hb_apart3 HY7.out HO7.out.nds (by decide));have hV9:=hb_grown HO7.out.vol hgr9 (Chn.hb_apart3 HO7.out.vol HO7.out.nds (by decide));have hZ9:=hb_grown HO7.out.res hgr9 (Chn.hb_apart3 HO7.out.res HO7.out.nds (by decide));have hH9:=World.ownsRow.kept HO7.out.chs hgr9 (own_ne HO7.out.chs HO7.out.nds (by decide));have hB9:=HO7.out.below.grown hgr9 HO7.out.below.size (fun _ hk=>row_base_lt3 HO7.out.nds hk);have HX10:=hid (hX9.set 1 (.slice G9 (k+1) c9));have HN10:=hid (Chn.own_far (i:=1) hown9 hX9 (by decide) (.slice G9 (k+1) c9));have HH10:=hid (Chn.own_far (i:=1) hH9 hX9 (by decide) (.slice G9 (k+1) c9));have HV10:=hid (hV9.far (p:=⟨w.heap.size+1+1,1,none⟩) (by show w.heap.size≠w.heap.size+1+1;omega) (.slice G9 (k+1) c9));have HZ10:=hid (hZ9.far (p:=⟨w.heap.size+1+1,1,none⟩) (by show w.heap.size+1≠w.heap.size+1+1;omega) (.slice G9 (k+1) c9));have HB10:=hid (hB9.setCell (p:=⟨w.heap.size+1+1,1,none⟩) (by show w.heap.size≤w.heap.size+1+1;omega) (.slice G9 (k+1) c9));have hz10:(w9.setCell ⟨w.heap.size+1+1,1,none⟩ (.slice G9 (k+1) c9)).heap.size=w9.heap.size:=by simp[World.setCell]
          have hal10:=(Below.refl (w9.setCell ⟨w.heap.size+1+1,1,none⟩ (.slice G9 (k+1) c9)).heap.size (w9.setCell ⟨w.heap.size+1+1,1,none⟩ (.slice G9 (k+1) c9))).alloc (Nat.le_refl _) (.cells #[.slice none 0 0,.slice none 0 0] 236);have HAL10:=hid hal10;have HH11:=hid (own_keep3 HH10.out hal10);have hn11:=zcells_two (w9.setCell ⟨w.heap.size+1+1,1,none⟩ (.slice G9 (k+1) c9)) (.slice none 0 0) (.slice none 0 0) 236;rw[hz10] at hn11;have HN11:=hid hn11;have b19:=hX9.cell 1;have b29:=hX9.cell 2;have bf19:=hX9.frozen 1;have bf29:=hX9.frozen 2;have bl9:=hX9.lt;have y09:=hY9.cell 0;have y19:=hY9.cell 1;have yl9:=hY9.lt;have hs9:=hB9.size;clear hown9 hgr9 hal10 hn11 hX9 hY9 hV9 hZ9 hH9 hB9 b1 b2 bf1 bf2 x0 x1 x2 xl y0 y1)
       | (at_builtin
          refine wpList_append_own_at _ rfl (.tmp 104) (.tmp 106) 104 rfl w.heap.size 236 k0 (.agg #[.slice none 0 0,.slice none 0 0]) 2 48 Tryz.underlying104 hk0 hr0 hr1 hr2 rfl (by decide) (.slice H k hc) k ds rfl HH11.out ⟨w9.heap.size,0,none⟩ 1 1 [.slice none 0 0,.slice none 0 0] rfl rfl HN11.out (by simp[Value.oneCell']) (by unfold maxLen;omega) (by omega) (by simp[World.setCell];omega) ?_;intro v12 w12 hown12 hgr12 _ _
          obtain⟨G12,c12,rfl⟩:=zrow_slice hown12
          have HX12:=hid (hb_grown (HX10.out.keep HAL10.out) hgr12 (Chn.hb_apart3 (HX10.out.keep HAL10.out) HH11.out (by decide)));have HV12:=hid (hb_grown (HV10.out.keep HAL10.out) hgr12 (Chn.hb_apart3 (HV10.out.keep HAL10.out) HH11.out (by decide)));have HZ12:=hid (hb_grown (HZ10.out.keep HAL10.out) hgr12 (Chn.hb_apart3 (HZ10.out.keep HAL10.out) HH11.out (by decide)));have HN12:=hid (World.ownsRow.kept (own_keep3 HN10.out HAL10.out) hgr12 (own_ne (own_keep3 HN10.out HAL10.out) HH11.out (by decide)));have HB12:=hid ((HB10.out.trans (HAL10.out.mono HB10.out.size)).grown hgr12 (HB10.out.trans (HAL10.out.mono HB10.out.size)).size (fun _ hk=>row_base_lt3 HH11.out hk));have HH12:=hid hown12;have b212:=HX12.out.cell 2;have bf212:=HX12.out.frozen 2;have bl12:=HX12.out.lt;clear hown12 hgr12))
      refine⟨⟨k+1,c9,c12,G9,G12,_,_,by omega,by go_num,rfl,rfl,⟨?_,?_,HX12.out.set 2 (.slice G12 (k+1) c12),Chn.own_far (i:=2) HN12.out HX12.out (by decide) _,Chn.own_far (i:=2) HH12.out HX12.out (by decide) _,?_⟩⟩,by simp[intOf];omega⟩
      · exact HV12.out.far (p:=⟨w.heap.size+1+1,2,none⟩) (by show w.heap.size≠w.heap.size+1+1;omega) _
      · exact HZ12.out.far (p:=⟨w.heap.size+1+1,2,none⟩) (by show w.heap.size+1≠w.heap.size+1+1;omega) _
      · exact HB12.out.setCell (p:=⟨w.heap.size+1+1,2,none⟩) (by show w.heap.size≤w.heap.size+1+1;omega) _
  · obtain rfl:k=m:=by omega
    have b0:=hr.box.cell 0;have b1:=hr.box.cell 1;have b2:=hr.box.cell 2;have bl':=hr.box.lt;have r0:=hr.res.cell 0;have r1:=hr.res.cell 1;have r2:=hr.res.cell 2;have rf0:=hr.res.frozen 0;have rf1:=hr.res.frozen 1;have rf2:=hr.res.frozen 2;have rl:=hr.res.lt;clear hr;go_wp2
    refine bodyPost_ret (v:=.tuple #[.agg #[.int .i64 (n:Int),.slice I k ic,.slice H k hc],.bool true]) ?_ rfl ⟨I,ic,H,hc,rfl,?_⟩
    · simp[results,Tryz.results94,go_sem,r0,r1,r2]
    · exact ((HR.out.below.setCell (p:=⟨w.heap.size+1,0,none⟩) (Nat.le_succ _) _).setCell (p:=⟨w.heap.size+1,1,none⟩) (Nat.le_succ _) _).setCell (p:=⟨w.heap.size+1,2,none⟩) (Nat.le_succ _) _
end
end Clm
end
section
open Lib (hid)
open Go.RowKit Go.MapKept
namespace Fld
open Clm (Cl Pc Cq scn gi scan_any ScTo rscan_free)
open Vol (Vo Up Kq Hb hb_new hb_grown hb_apart Ov Pl gn gs dv rawW rdev_any open_any rawW_len rawW_read Vo.put wds_block)
theorem cq_put {w:World} {P:Pc} {n m:Nat} {L:List Cl} {N C X:Array Value} (h:Cq w P n m L N C X) {a:Addr} (ha:a.block < P.lo) (v:Value):Cq (w.setCell a v) P n m L N C X:=by
 have hc:Bm.Chg a.block w (w.setCell a v):=(Bm.Chg.refl a.block w).setCell rfl v;have hl:=h.cr.ord.le;have hlt:=h.cr.ord.lt
 exact⟨⟨Clm.hb_chg h.cr.claim hc (by omega),Clm.hb_chg h.cr.nodes hc (by omega),Clm.hb_chg h.cr.chains hc (by omega),Clm.hb_chg h.cr.places hc (by omega),h.cr.sn,h.cr.sc,h.cr.sx,
  Clm.mp_far h.cr.bm (by omega) (by omega) v,Clm.mp_far h.cr.sm (by omega) (by omega) v,h.cr.ord,h.cr.max⟩,h.nod,h.chs.fr (Clm.fr_chg hc (by omega)),h.plc⟩
theorem hdo (W:World):Below W.heap.size W W.drew:=⟨rfl,rfl,rfl,Nat.le_refl _,fun _ _=>rfl⟩
section
variable {sl bm bk E : Nat} {ws : List Nat} {L : List Cl}
theorem fopen_any (w:World) (x y k:Nat) (hx:x < 256) (hy:y < 256) (hk:k < 256) (A:Option Addr) (c:Nat) (hws:Pack.Wds w A ws) (h:Pl (gn x) (gn y) (gs k) sl bm bk E) (hsc:scn (gi (rawW (gn x) (gn y) (gs k) E ws) (gn x) (gn y) (gs k)) (gn y)=some L) (hz:∀ i,i < gn y→Vol.rdw (rawW (gn x) (gn y) (gs k) E ws) (16+8 * i) 8=Ino.ln 0 0 0) :
 Calls Tryz.prog 44 #[.agg #[.int .u8 (x:Int),.int .u8 (y:Int),.int .u8 (k:Int),.slice A ws.length c]] w fun r w'=>
  ∃ (Q:Nat→Prop) (vb a g gc:Nat) (P:Pc) (N C X:Array Value) (I H:Option Addr) (ic hc:Nat),r = .returned (.tuple #[.pointer (some ⟨vb,0,none⟩),.pointer (some ⟨P.c,0,none⟩),.agg (dv (gn x) (gn y) (gs k) sl bm bk E (.slice (some ⟨g,0,none⟩) E gc)),.agg #[.int .i64 (gn x:Nat),.slice I (gn y) ic,.slice H (gn y) hc],.bool true]) ∧
    Vo Q w' vb a (gn x) (gn y) (gs k) (rawW (gn x) (gn y) (gs k) E ws) 0 0∧Cq w' P (gn x) (gn y) L N C X∧Below w.heap.size w w':=by
 have HD:=hid (fun w' (hb:Below w.heap.size w w')=>rdev_any w' x y k hx hy hk A c (hws.keep hb) h);have HP:=hid h
 obtain⟨n,hn⟩:∃ n,n=gn x:=⟨_,rfl⟩
 obtain⟨m,hm⟩:∃ m,m=gn y:=⟨_,rfl⟩
 obtain⟨s,hs⟩:∃ s,s=gs k:=⟨_,rfl⟩
 rw[← hn,← hm,← hs] at HP HD hsc hz ⊢;have HSC:=hid hsc;have HZ:=hid hz;clear hsc hz;clear hn hm hs h hws;go_enter Tryz.func44,Tryz.ntmps44
 go_wp2_with fail
 have hb0:=(Below.refl w.heap.size w).alloc (Nat.le_refl _) (.cells #[.int .u8 (x:Int),.int .u8 (y:Int),.int .u8 (k:Int),.slice A ws.length c] 110);have hz0:=World.size_alloc w (.cells #[.int .u8 (x:Int),.int .u8 (y:Int),.int .u8 (k:Int),.slice A ws.length c] 110);generalize w.alloc (.cells #[.int .u8 (x:Int),.int .u8 (y:Int),.int .u8 (k:Int),.slice A ws.length c] 110)=w0 at *;have hb1:=hb0.alloc hb0.size (.cells #[.int .i64 0,.int .i64 0,.int .i64 0,.int .i64 0,.int .i64 0,.int .i64 0,.int .i64 0,.int .i64 0,.slice none 0 0] 102);have hv1:=hb_new w0 #[.int .i64 0,.int .i64 0,.int .i64 0,.int .i64 0,.int .i64 0,.int .i64 0,.int .i64 0,.int .i64 0,.slice none 0 0] 102;have hz1:=World.size_alloc w0 (.cells #[.int .i64 0,.int .i64 0,.int .i64 0,.int .i64 0,.int .i64 0,.int .i64 0,.int .i64 0,.int .i64 0,.slice none 0 0] 102);rw[hz0] at hv1 hz1;generalize w0.alloc (.cells #[.int .i64 0,.int .i64 0,.int .i64 0,.int .i64 0,.int .i64 0,.int .i64 0,.int .i64 0,.int .i64 0,.slice none 0 0] 102)=w1 at *;have hal:=(Below.refl w1.heap.size w1).alloc (Nat.le_refl _) (.cells #[.int .i64 0,.slice none 0 0,.slice none 0 0] 106);have hc1:=hb_new w1 #[.int .i64 0,.slice none 0 0,.slice none 0 0] 106;rw[hz1] at hc1;have HB1:=hid (hb1.trans (hal.mono hb1.size));have HV1:=hid (hv1.keep hal);have HC1:=hid hc1;clear hb0 hz0 hb1 hv1 hz1 hal hc1;generalize w1.alloc (.cells #[.int .i64 0,.slice none 0 0,.slice none 0 0] 106)=w1' at *;clear w0;refine (HD.out _ HB1.out).mono ?_;rintro r w2 ⟨a,g,gc,B,rfl,h1,h2,h3,h4,hup,hwd,hb⟩;have HN:=hid (show w.heap.size+1+1 < B∧(w.heap.size+1+1 < g∧g < B)∧B≤w2.heap.size∧E≤gc from ⟨by have:=HC1.out.lt;omega,⟨by have:=HC1.out.lt;omega,h2.2⟩,h3,h4⟩);have HU2:=hid hup;have HD2:=hid hwd;have HV2:=hid (HV1.out.keep hb);have HC2:=hid (HC1.out.keep hb);have HB2:=hid (HB1.out.trans (hb.mono HB1.out.size));clear h1 h2 h3 h4 hup hwd hb HV1 HB1 HD HC1;unfold dv;have hb3:=(Below.refl w2.heap.size w2).alloc (Nat.le_refl _) (.cells #[.int .i64 (n:Int),.int .i64 (m:Int),.int .i64 (s:Int),.int .i64 16,.int .i64 (sl:Int),.int .i64 (bm:Int),.int .i64 (bk:Int),.int .i64 (E:Int),.slice (some ⟨g,0,none⟩) E gc] 102);have HX3:=hid (hb_new w2 #[.int .i64 (n:Int),.int .i64 (m:Int),.int .i64 (s:Int),.int .i64 16,.int .i64 (sl:Int),.int .i64 (bm:Int),.int .i64 (bk:Int),.int .i64 (E:Int),.slice (some ⟨g,0,none⟩) E gc] 102);have HU3:=hid (HU2.out.keep hb3);have HD3:=hid (HD2.out.keep hb3);have HV3:=hid (HV2.out.keep hb3);have HC3:=hid (HC2.out.keep hb3);have HB3:=hid (HB2.out.trans (hb3.mono HB2.out.size));have hz3:=World.size_alloc w2 (.cells #[.int .i64 (n:Int),.int .i64 (m:Int),.int .i64 (s:Int),.int .i64 16,.int .i64 (sl:Int),.int .i64 (bm:Int),.int .i64 (bk:Int),.int .i64 (E:Int),.slice (some ⟨g,0,none⟩) E gc] 102);have HS3:=hid hz3;have HOP:=hid (open_any HU3.out HP.out.may (by rw[rawW_len HP.out];exact HP.out.e4.symm) (rawW_read HP.out));clear hb3 hz3 HU2 HD2 HV2 HB2 HC2;go_wp2_with fail
 generalize w2.alloc (.cells #[.int .i64 (n:Int),.int .i64 (m:Int),.int .i64 (s:Int),.int .i64 16,.int .i64 (sl:Int),.int .i64 (bm:Int),.int .i64 (bk:Int),.int .i64 (E:Int),.slice (some ⟨g,0,none⟩) E gc] 102)=w3 at *;refine HOP.out.mono ?_;rintro r w4 ⟨vb,rfl,hvb,hvo,hb⟩
 have HV4:=hid (hvo.sub (Q':=fun k=>k < B∨k=vb) (fun k hk=>by
  rcases hk with hk | rfl
  · exact .inl hk
  · exact .inr ⟨hvb,hvo.lt⟩) (.inr rfl))
 have HX4:=hid (HX3.out.keep hb);have HD4:=hid (HD3.out.keep hb);have HR4:=hid (HV3.out.keep hb);have HC4:=hid (HC3.out.keep hb);have HB4:=hid (HB3.out.trans (hb.mono HB3.out.size));have HVB:=hid (show w2.heap.size+1≤vb by have:=HS3.out;omega);clear hvb hvo hb HOP HX3 HD3 HV3 HB3 HU3 HS3 HC3;have hx4:=HX4.out;have c0:=hx4.cell 0;have c1:=hx4.cell 1;have c2:=hx4.cell 2;have c3:=hx4.cell 3;have c4:=hx4.cell 4;have c5:=hx4.cell 5;have c6:=hx4.cell 6;have c7:=hx4.cell 7;have c8:=hx4.cell 8;have hxl:=hx4.lt;clear hx4;have HRS:=hid (rscan_free (w:=w4) (gc:=gc) HP.out HD4.out (rawW_len HP.out) HN.out.2.2.2 HZ.out);unfold dv at HRS;go_wp2_with fail
 refine HRS.out.mono ?_;rintro e w5 ⟨I,ic,H,hc,rfl,hb⟩;have hal:=(Below.refl w5.heap.size w5).alloc (Nat.le_refl _) (.cells #[.int .i64 (n:Int),.slice I m ic,.slice H m hc] 106);have hb6:=hb.trans (hal.mono hb.size);have HYB:=hid (show w2.heap.size < w5.heap.size from Nat.lt_of_lt_of_le HX4.out.lt hb.size);have HY6:=hid (hb_new w5 #[.int .i64 (n:Int),.slice I m ic,.slice H m hc] 106);have HV6:=hid (HV4.out.keep hb6);have HX6:=hid (HX4.out.keep hb6);have HR6:=hid (HR4.out.keep hb6);have HC6:=hid (HC4.out.keep hb6);have HB6:=hid (HB4.out.trans (hb6.mono HB4.out.size));clear hb hal hb6 HV4 HX4 HR4 HC4 HB4 HD4 HRS c0 c1 c2 c3 c4 c5 c6 c7 c8;go_wp2_with fail
 generalize w5.alloc (.cells #[.int .i64 (n:Int),.slice I m ic,.slice H m hc] 106)=w6 at *;generalize w5.heap.size=yb at *;refine (scan_any HV6.out).mono ?_;intro e w7 k7;unfold ScTo at k7;rw[HSC.out] at k7
 rcases k7 with ⟨h1,_⟩ | ⟨L',P,N,C,X,h1,rfl,hq,hlo,hb⟩
 · cases h1
 injection h1 with h1
 subst h1;have hx4:=HX6.out.keep hb;have c0:=hx4.cell 0;have c1:=hx4.cell 1;have c2:=hx4.cell 2;have c3:=hx4.cell 3;have c4:=hx4.cell 4;have c5:=hx4.cell 5;have c6:=hx4.cell 6;have c7:=hx4.cell 7;have c8:=hx4.cell 8;have hxl:=hx4.lt;have hr4:=HR6.out.keep hb;have d0:=hr4.cell 0;have d1:=hr4.cell 1;have d2:=hr4.cell 2;have d3:=hr4.cell 3;have d4:=hr4.cell 4;have d5:=hr4.cell 5;have d6:=hr4.cell 6;have d7:=hr4.cell 7;have d8:=hr4.cell 8;have f0:=hr4.frozen 0;have f1:=hr4.frozen 1;have f2:=hr4.frozen 2;have f3:=hr4.frozen 3;have f4:=hr4.frozen 4;have f5:=hr4.frozen 5;have f6:=hr4.frozen 6;have f7:=hr4.frozen 7;have f8:=hr4.frozen 8;have hrl:=hr4.lt;have hy4:=HY6.out.keep hb;have y0:=hy4.cell 0;have y1:=hy4.cell 1;have y2:=hy4.cell 2;have hyl:=hy4.lt;have hc4:=HC6.out.keep hb;have e0:=hc4.cell 0;have e1:=hc4.cell 1;have e2:=hc4.cell 2;have g0:=hc4.frozen 0;have g1:=hc4.frozen 1;have g2:=hc4.frozen 2;have hcl:=hc4.lt;have HQ7:=hid hq;have HV7:=hid (HV6.out.keep hb);have HB7:=hid (HB6.out.trans (hb.mono HB6.out.size));have HLO:=hid (show w.heap.size+1+1 < P.lo by have:=HC6.out.lt;omega);have hN:=HN.out;have hVB:=HVB.out;clear hx4 hr4 hy4 hc4 hq hb hlo;have hYB:=HYB.out;have n1:¬ w2.heap.size=w.heap.size+1:=by omega
 have n2:¬ w.heap.size+1=w2.heap.size:=by omega
 have n3:¬ w2.heap.size=w.heap.size+1+1:=by omega
 have n4:¬ w.heap.size+1+1=w2.heap.size:=by omega
 have n5:¬ yb=w.heap.size+1:=by omega
 have n6:¬ w.heap.size+1=yb:=by omega
 have n7:¬ yb=w.heap.size+1+1:=by omega
 have n8:¬ w.heap.size+1+1=yb:=by omega
 have n9:¬ w.heap.size+1+1=w.heap.size+1:=by omega
 have n10:¬ w.heap.size+1=w.heap.size+1+1:=by omega
 go_wp2_with fail
 go_region
 go_wp2
 refine bodyPost_ret (v:=.tuple #[.pointer (some ⟨vb,0,none⟩),.pointer (some ⟨P.c,0,none⟩),.agg #[.int .i64 (n:Int),.int .i64 (m:Int),.int .i64 (s:Int),.int .i64 16,.int .i64 (sl:Int),.int .i64 (bm:Int),.int .i64 (bk:Int),.int .i64 (E:Int),.slice (some ⟨g,0,none⟩) E gc],.agg #[.int .i64 (n:Int),.slice I m ic,.slice H m hc],.bool true]) ?_ rfl ⟨fun k=>k < B∨k=vb,vb,a,g,gc,P,N,C,X,I,H,ic,hc,rfl,?_,?_,?_⟩
 · simp[results,Tryz.results44,go_sem,d0,d1,d2,d3,d4,d5,d6,d7,d8,e0,e1,e2]
 · refine Vo.keep ?_ (hdo _)
   iterate 12 refine Vo.put ?_ (.inl (by show _ < B;simp only;omega)) (by show vb≠_;simp only;omega) _
   exact HV7.out
 · refine Cq.keep ?_ (hdo _)
   have hLO:=HLO.out
   iterate 12 refine cq_put ?_ (by simp only;omega) _
   exact HQ7.out
 · refine Below.trans ?_ ((hdo _).mono (by simp only[World.setCell,Array.size_modify];exact HB7.out.size))
   iterate 12 refine Below.setCell ?_ (by simp only;omega) _
   exact HB7.out
end
end Fld
end
section
open Lib (hid)
open Go.RowKit Go.MapKept
namespace Clm
open Vol (Vo Up Kq Hb hb_new hb_grown hb_apart Ov Pl gn gs dv rawW rdev_any open_any rawW_len rawW_read Vo.put wds_block)
section
variable {sl bm bk E : Nat} {ws : List Nat}
theorem kopen_any (w:World) (x y k:Nat) (hx:x < 256) (hy:y < 256) (hk:k < 256) (A:Option Addr) (c:Nat) (hws:Pack.Wds w A ws) (h:Pl (gn x) (gn y) (gs k) sl bm bk E) :
 Calls Tryz.prog 84 #[.agg #[.int .u8 (x:Int),.int .u8 (y:Int),.int .u8 (k:Int),.slice A ws.length c]] w fun r w'=>
  ∃ (Q:Nat→Prop) (vb a g gc:Nat),r = .returned (.tuple #[.pointer (some ⟨vb,0,none⟩),.agg (dv (gn x) (gn y) (gs k) sl bm bk E (.slice (some ⟨g,0,none⟩) E gc))])∧Ov w w' Q vb a g gc (gn x) (gn y) (gs k) E (rawW (gn x) (gn y) (gs k) E ws):=by
 have HD:=hid (fun w' (hb:Below w.heap.size w w')=>rdev_any w' x y k hx hy hk A c (hws.keep hb) h);have HP:=hid h
 obtain⟨n,hn⟩:∃ n,n=gn x:=⟨_,rfl⟩
 obtain⟨m,hm⟩:∃ m,m=gn y:=⟨_,rfl⟩
 obtain⟨s,hs⟩:∃ s,s=gs k:=⟨_,rfl⟩
 rw[← hn,← hm,← hs] at HP HD ⊢;clear hn hm hs h hws;go_enter Tryz.func84,Tryz.ntmps84
 go_wp2_with fail
 have hb0:=(Below.refl w.heap.size w).alloc (Nat.le_refl _) (.cells #[.int .u8 (x:Int),.int .u8 (y:Int),.int .u8 (k:Int),.slice A ws.length c] 110);have hz0:=World.size_alloc w (.cells #[.int .u8 (x:Int),.int .u8 (y:Int),.int .u8 (k:Int),.slice A ws.length c] 110);generalize w.alloc (.cells #[.int .u8 (x:Int),.int .u8 (y:Int),.int .u8 (k:Int),.slice A ws.length c] 110)=w0 at *;have hb1:=hb0.alloc hb0.size (.cells #[.int .i64 0,.int .i64 0,.int .i64 0,.int .i64 0,.int .i64 0,.int .i64 0,.int .i64 0,.int .i64 0,.slice none 0 0] 102);have hv1:=hb_new w0 #[.int .i64 0,.int .i64 0,.int .i64 0,.int .i64 0,.int .i64 0,.int .i64 0,.int .i64 0,.int .i64 0,.slice none 0 0] 102;rw[hz0] at hv1;have HB1:=hid hb1;have HV1:=hid hv1;clear hb0 hz0 hb1 hv1;generalize w0.alloc (.cells #[.int .i64 0,.int .i64 0,.int .i64 0,.int .i64 0,.int .i64 0,.int .i64 0,.int .i64 0,.int .i64 0,.slice none 0 0] 102)=w1 at *;clear w0;refine (HD.out _ HB1.out).mono ?_;rintro r w2 ⟨a,g,gc,B,rfl,h1,h2,h3,h4,hup,hwd,hb⟩;have HN:=hid (show w.heap.size+1 < B∧(w.heap.size+1 < g∧g < B)∧B≤w2.heap.size∧E≤gc from ⟨by have:=HV1.out.lt;omega,⟨by have:=HV1.out.lt;omega,h2.2⟩,h3,h4⟩);have HU2:=hid hup;have HD2:=hid hwd;have HV2:=hid (HV1.out.keep hb);have HB2:=hid (HB1.out.trans (hb.mono HB1.out.size));clear h1 h2 h3 h4 hup hwd hb HV1 HB1 HD;unfold dv;have hb3:=(Below.refl w2.heap.size w2).alloc (Nat.le_refl _) (.cells #[.int .i64 (n:Int),.int .i64 (m:Int),.int .i64 (s:Int),.int .i64 16,.int .i64 (sl:Int),.int .i64 (bm:Int),.int .i64 (bk:Int),.int .i64 (E:Int),.slice (some ⟨g,0,none⟩) E gc] 102);have HX3:=hid (hb_new w2 #[.int .i64 (n:Int),.int .i64 (m:Int),.int .i64 (s:Int),.int .i64 16,.int .i64 (sl:Int),.int .i64 (bm:Int),.int .i64 (bk:Int),.int .i64 (E:Int),.slice (some ⟨g,0,none⟩) E gc] 102);have HU3:=hid (HU2.out.keep hb3);have HD3:=hid (HD2.out.keep hb3);have HV3:=hid (HV2.out.keep hb3);have HB3:=hid (HB2.out.trans (hb3.mono HB2.out.size));have hz3:=World.size_alloc w2 (.cells #[.int .i64 (n:Int),.int .i64 (m:Int),.int .i64 (s:Int),.int .i64 16,.int .i64 (sl:Int),.int .i64 (bm:Int),.int .i64 (bk:Int),.int .i64 (E:Int),.slice (some ⟨g,0,none⟩) E gc] 102);have HS3:=hid hz3;have HOP:=hid (open_any HU3.out HP.out.may (by rw[rawW_len HP.out];exact HP.out.e4.symm) (rawW_read HP.out));clear hb3 hz3 HU2 HD2 HV2 HB2;go_wp2_with fail
 generalize w2.alloc (.cells #[.int .i64 (n:Int),.int .i64 (m:Int),.int .i64 (s:Int),.int .i64 16,.int .i64 (sl:Int),.int .i64 (bm:Int),.int .i64 (bk:Int),.int .i64 (E:Int),.slice (some ⟨g,0,none⟩) E gc] 102)=w3 at *;refine HOP.out.mono ?_;rintro r w4 ⟨vb,rfl,hvb,hvo,hb⟩
 have HV4:=hid (hvo.sub (Q':=fun k=>k < B∨k=vb) (fun k hk=>by
  rcases hk with hk | rfl
  · exact .inl hk
  · exact .inr ⟨hvb,hvo.lt⟩) (.inr rfl))
 have HX4:=hid (HX3.out.keep hb);have HD4:=hid (HD3.out.keep hb);have HR4:=hid (HV3.out.keep hb);have HB4:=hid (HB3.out.trans (hb.mono HB3.out.size));have HVB:=hid (show w2.heap.size+1≤vb by have:=HS3.out;omega);clear hvb hvo hb HOP HX3 HD3 HV3 HB3 HU3 HS3;have c0:=HX4.out.cell 0;have c1:=HX4.out.cell 1;have c2:=HX4.out.cell 2;have c3:=HX4.out.cell 3;have c4:=HX4.out.cell 4;have c5:=HX4.out.cell 5;have c6:=HX4.out.cell 6;have c7:=HX4.out.cell 7;have c8:=HX4.out.cell 8;have d0:=HR4.out.cell 0;have d1:=HR4.out.cell 1;have d2:=HR4.out.cell 2;have d3:=HR4.out.cell 3;have d4:=HR4.out.cell 4;have d5:=HR4.out.cell 5;have d6:=HR4.out.cell 6;have d7:=HR4.out.cell 7;have d8:=HR4.out.cell 8;have f0:=HR4.out.frozen 0;have f1:=HR4.out.frozen 1;have f2:=HR4.out.frozen 2;have f3:=HR4.out.frozen 3;have f4:=HR4.out.frozen 4;have f5:=HR4.out.frozen 5;have f6:=HR4.out.frozen 6;have f7:=HR4.out.frozen 7;have f8:=HR4.out.frozen 8;have hxl:=HX4.out.lt;have hrl:=HR4.out.lt;have hN:=HN.out;have hVB:=HVB.out;have hne1:¬ w2.heap.size=w.heap.size+1:=by omega
 have hne2:¬ w.heap.size+1=w2.heap.size:=by omega
 go_wp2_with fail
 go_region
 go_wp2
 have hd:∀ V:World,Below V.heap.size V V.drew:=fun V=>⟨rfl,rfl,rfl,Nat.le_refl _,fun _ _=>rfl⟩
 refine bodyPost_ret (v:=.tuple #[.pointer (some ⟨vb,0,none⟩),.agg #[.int .i64 (n:Int),.int .i64 (m:Int),.int .i64 (s:Int),.int .i64 16,.int .i64 (sl:Int),.int .i64 (bm:Int),.int .i64 (bk:Int),.int .i64 (E:Int),.slice (some ⟨g,0,none⟩) E gc]]) ?_ rfl ⟨fun k=>k < B∨k=vb,vb,a,g,gc,rfl,⟨?_,.inl hN.2.1.2,fun k hk=>.inl (by omega),?_,hN.2.2.2,?_,rawW_len HP.out⟩⟩
 · simp[results,Tryz.results84,go_sem,d0,d1,d2,d3,d4,d5,d6,d7,d8]
 · refine Vo.keep ?_ (hd _)
   iterate 9 refine Vo.put ?_ (.inl hN.1) (by show vb≠w.heap.size+1;omega) _
   exact HV4.out
 · refine Pack.Wds.keep ?_ (hd _)
   iterate 9 refine wds_block ?_ (Below.heap_setCell _ _ _ _ (by show g≠w.heap.size+1;omega))
   exact HD4.out
 · refine Below.trans ?_ ((hd _).mono (by simp only[World.setCell,Array.size_modify];exact HB4.out.size))
   iterate 9 refine Below.setCell ?_ (Nat.le_succ _) _
   exact HB4.out
end
end Clm
end
section
open Lib (hid)
open Go.RowKit Go.Shelf Go.MapKept
attribute [local go_sem] Oper.semAt_some
namespace Chn
section
variable {F : Fence} {n : Nat} {P : Program}
def Left (B:Nat) (I:Nat→World→Prop) (Ix:World→Prop) (k:Nat) (W:World):Exit→Act→World→Prop
 | .normal,_,W'=>(W'.heap[B]? = W.heap[B]?∧W'.heap[B+1]? = W.heap[B+1]?)∧I (k+1) W'
 | .ret,_,W'=>(W'.heap[B]? = W.heap[B]?∧W'.heap[B+1]? = W.heap[B+1]?)∧Ix W'
 | .exit _,_,_=>False
 | .goto _,_,_=>False
 | .panic _,_,_=>False
 | .outgrown,_,_=>False
theorem off_put (W:World) (l:Nat) (o:Obj):Pm.Off (fun k=>k=l) W (W.putObj l o):=
 (Pm.Off.refl _ W).grown (grownBy_putObj' W l o) (fun k e _=>by cases e;rfl)
theorem range_back {g:Operand} {ps:Array Tmp} {assign body:Code} {Q:Exit→Act→World→Prop} {a:Act} {w:World}
 (hro:F.round=none) (h1:1≤n) {gf:Nat} {lb:Array Value} (hg:a.eval g = .func (.func gf) #[] lb) (hFg:F.fn gf) (eg:∀ args w,(callFunc gf args).run P w = .ok (.enter gf args) w)
 {encs:Nat→Array Value} {N:Nat} (hps:∀ k,(encs k).size=ps.size)
 (I:Nat→World→Prop) (Ix:World→Prop)
 (hI:∀ k W W',I k W→Pm.Off (fun j=>j=w.heap.size+1) W W'→I k W') (hIx:∀ W W',Ix W→Pm.Off (fun j=>j=w.heap.size+1) W W'→Ix W')
 (h0:∀ r,I 0 ((w.alloc (.deferred (some []))).alloc (.loop r)))
 (hseq:∀ (l:Nat) (J:Nat→World→Prop) (Jx:World→Prop) (W:World),(∀ k W,J k W→I k W) →
   (∀ k W1,J k W1→k < N→YieldAt F (n - 1 - 1) P l (encs k) W1 fun e W'=>(e = .returned (.bool true)∧J (k+1) W')∨(e = .returned (.bool false)∧Jx W'))→J 0 W →
   CallsIn F (n - 1) P gf (#[.func (.yield l) #[] #[]]++lb) W fun e W'=>(∃ v,e = .returned v)∧(J N W'∨Jx W'))
 (a₁:Nat→Act)
 (hassign:∀ (l k:Nat) (W:World) (K:Act→World→Prop),K (a₁ k) W →
   assign.wpIn (F.inRound l) (n - 1 - 1) P (Exit.then K (fun _ _ _=>False)) { tmps:=(ps.zip (encs k)).foldl (fun t (p,v)=>t.setIfInBounds p v) a.tmps,defers:=[] } W)
 (hbody:∀ (l k:Nat) (W:World),I k W→k < N→body.wpIn (F.inRound l) (n - 1 - 1) P (Left w.heap.size I Ix k W) (a₁ k) W)
 (hdone:∀ W,I N W→W.heap[w.heap.size]? = some (.deferred (some []))→Q .normal { a with defers:={ target:=.collected w.heap.size,args:=#[] } :: a.defers } W)
 (hstop:∀ W,Ix W→W.heap[w.heap.size]? = some (.deferred (some []))→(Code.ret).wpIn F n P Q { a with defers:={ target:=.collected w.heap.size,args:=#[] } :: a.defers } W) :
 (Code.rangeFunc g ps assign body).wpIn F n P Q a w:=by
 refine wpIn_rangeFunc ?_;intro fn hfn;rw[hro]
 obtain⟨rec,hrec⟩:∃ rec:LoopState→Option Code→Loop,rec=fun st pe=>{ state:=st,pending:=pe,fn,tmps:=a.tmps,params:=ps,assign,body,defers:=w.heap.size }:=⟨_,rfl⟩
 have hrun:=run_enterLoop_outer (P:=P) (w:=w) fn a.tmps ps assign body;have hI1:=h0 (rec .ready none);have hL:=World.alloc_heap_new (w.alloc (.deferred (some []))) (.loop (rec .ready none));rw[World.size_alloc] at hL;have hD:((w.alloc (.deferred (some []))).alloc (.loop (rec .ready none))).heap[w.heap.size]? = some (.deferred (some [])):=(Below.heap_alloc _ _ _ (by simp)).trans (World.alloc_heap_new w _);have hrr:(Instr.enterLoop fn a.tmps ps assign body none).run P w = .ok (w.heap.size+1,[{ target:=.collected w.heap.size,args:=#[] }]) ((w.alloc (.deferred (some []))).alloc (.loop (rec .ready none))):=by rw[hrec];exact hrun
 clear hrun h0;generalize (w.alloc (.deferred (some []))).alloc (.loop (rec .ready none))=W1 at *
 refine⟨w.heap.size+1,_,W1,{ target:=.fn (.func gf) lb,args:=#[.func (.yield (w.heap.size+1)) #[] #[]] },W1,gf,#[.func (.yield (w.heap.size+1)) #[] #[]]++lb,W1,hrr,?_,?_,?_,fun _=>h1,?_⟩
 · simp only[resolve,hg]
   simp[go_sem]
 · intro f' hf'
   simp[Target.leads] at hf';subst hf';exact hFg
 · simp[invoke,go_sem,eg]
 · refine (hseq (w.heap.size+1)
    (fun k W=>I k W∧W.heap[w.heap.size+1]? = some (.loop (rec .ready none))∧W.heap[w.heap.size]? = some (.deferred (some [])))
    (fun W=>Ix W∧W.heap[w.heap.size+1]? = some (.loop (rec .done (some .ret)))∧W.heap[w.heap.size]? = some (.deferred (some [])))
    W1 (fun _ _ h=>h.1) ?_ ⟨hI1,hL,hD⟩).mono ?_
   · rintro k W ⟨hi,hl,hk⟩ hN
     have hlt:w.heap.size+1 < W.heap.size:=(Array.getElem?_eq_some_iff.1 hl).1;have hy:=run_yield (P:=P) (args:=encs k) hl (by rw[hrec];exact hps k);rw[hrec] at hy
     refine⟨fn,_,assign,body,hy,roundIn_of_wpIn hfn (hassign _ k W _ ⟨_,run_beginRound hl (by rw[hrec]),?_⟩)⟩
     have hl2:(W.putObj (w.heap.size+1) (.loop { rec .ready none with state:=.busy })).heap[w.heap.size+1]? = some (.loop { rec .ready none with state:=.busy }):=World.putObj_heap_same hlt;have hk2:(W.putObj (w.heap.size+1) (.loop { rec .ready none with state:=.busy })).heap[w.heap.size]? = some (.deferred (some [])):=(World.putObj_heap_other (by omega)).trans hk;have hi2:=hI k _ _ hi (off_put W (w.heap.size+1) (.loop { rec .ready none with state:=.busy }));generalize W.putObj (w.heap.size+1) (.loop { rec .ready none with state:=.busy })=W2 at *;refine wpIn_mono (hbody (w.heap.size+1) k W2 hi2 hN) ?_;rintro e a3 W3 hp
     cases e with
     | normal=>
       obtain⟨⟨e1,e2⟩,hi3⟩:=hp
       have hl3:=e2.trans hl2;have hr:=run_endRound (P:=P) none hl3;rw[hrec] at hr
       refine⟨_,_,hr,.inl ⟨rfl,hI _ _ _ hi3 (off_put _ _ _),?_,(World.putObj_heap_other (by omega)).trans (e1.trans hk2)⟩⟩
       rw[World.putObj_heap_same (Array.getElem?_eq_some_iff.1 hl3).1,hrec];rfl
     | ret=>
       obtain⟨⟨e1,e2⟩,hi3⟩:=hp
       have hl3:=e2.trans hl2;have hr:=run_endRound (P:=P) (some .ret) hl3;rw[hrec] at hr
       refine⟨_,_,hr,.inr ⟨rfl,hIx _ _ hi3 (off_put _ _ _),?_,(World.putObj_heap_other (by omega)).trans (e1.trans hk2)⟩⟩
       rw[World.putObj_heap_same (Array.getElem?_eq_some_iff.1 hl3).1,hrec];rfl
     | exit id=>exact hp.elim
     | goto t=>exact hp.elim
     | panic ch=>exact hp.elim
     | outgrown=>exact hp.elim
   · rintro e W2 ⟨⟨v,rfl⟩,(⟨hi,hl,hk⟩ | ⟨hi,hl,hk⟩)⟩
     · have hr:=run_endLoop (P:=P) hl (by rw[hrec];simp)
       rw[hrec] at hr
       exact⟨none,_,hr,hdone _ (hI _ _ _ hi (off_put _ _ _)) ((World.putObj_heap_other (by omega)).trans hk)⟩
     · have hr:=run_endLoop (P:=P) hl (by rw[hrec];simp)
       rw[hrec] at hr
       exact⟨some .ret,_,hr,hstop _ (hIx _ _ hi (off_put _ _ _)) ((World.putObj_heap_other (by omega)).trans hk)⟩
end
section
variable {F : Fence} {n : Nat} {P : Program} {ops : Array Oper} {Q : Exit → Act → World → Prop}
theorem op_mono {i:Nat} {K K':Act→World→Prop} (h:∀ a w,K a w→K' a w) {a:Act} {w:World} (hh:wpOpIn F n P ops Q i K a w):wpOpIn F n P ops Q i K' a w:=by
 unfold wpOpIn at *
 split
 · rename_i e;rw[e] at hh;exact h _ _ hh
 · rename_i o e
   rw[e] at hh;simp only at hh
   split
   · rename_i e2;rw[if_pos e2] at hh;exact Oper.wpIn_mono h hh
   · rename_i e2;rw[if_neg e2] at hh;exact⟨hh.1,h _ _ hh.2⟩
def rest (l:Array Bool):Nat:=l.toList.countP (fun b=>!b)
theorem count_set:∀ (l:List Bool) (i:Nat),l[i]? = some false→(l.set i true).countP (fun b=>!b)+1=l.countP (fun b=>!b)
 | [],i,h=>by simp at h
 | b :: l,0,h=>by
   obtain rfl:b=false:=by simpa using h
   simp
 | b :: l,i+1,h=>by
   have:=count_set l i (by simpa using h)
   rw[List.set_cons_succ,List.countP_cons,List.countP_cons];omega
theorem any_inv (St:Array Bool→Act→World→Prop)
 (hstep:∀ l a w i,l.size=ops.size→St l a w→i∈Region.ready .any ops l→wpOpIn F n P ops Q i (St (l.setIfInBounds i true)) a w)
 (hend:∀ l a w,l.size=ops.size→St l a w→Region.ready .any ops l=[]→Q .normal a w) :
 ∀ (fuel:Nat) (l:Array Bool) (a:Act) (w:World),l.size=ops.size→rest l≤fuel→St l a w→wpAnyIn F n P .any ops Q fuel l a w
 | 0,l,a,w,hs,hr,h=>by
   have h0:Region.ready .any ops l=[]:=by
    unfold Region.ready;rw[List.filter_eq_nil_iff];intro i hi;have hi:i < l.size:=by rw[hs];simpa using hi
    have hm:l[i]=true:=by
     cases e:l[i] with
     | true=>rfl
     | false=>
       have:0 < l.toList.countP (fun b=>!b):=List.countP_pos_iff.2 ⟨false,by rw[← e];simp,rfl⟩
       unfold rest at hr;omega
    simp[Array.getD,hi,hm]
   exact⟨h0,hend l a w hs h h0⟩
 | fuel+1,l,a,w,hs,hr,h=>by
   refine⟨hend l a w hs h,fun i hi=>op_mono (fun a' w' h'=>any_inv St hstep hend fuel _ a' w' (by simpa using hs) ?_ h') (hstep l a w i hs h hi)⟩
   have hi2:=(List.mem_filter.1 hi);have hlt:i < l.size:=by rw[hs];simpa using hi2.1
   have hf:l[i]=false:=by
    have:=hi2.2
    simp only[Bool.and_eq_true,Bool.not_eq_true',Array.getD,hlt,dite_true] at this;exact this.1
   have:=count_set l.toList i (by rw[List.getElem?_eq_getElem (by simpa using hlt)];simpa using hf)
   unfold rest at hr ⊢;rw[Array.toList_setIfInBounds];omega
end
def bw (l:List Int) (k:Nat):Array Value:=#[.int .i64 ((l.length:Int) - 1 - (k:Int)),.int .i64 (l[l.length - 1 - k]?.getD 0)]
theorem back1_in (F:Fence) (f:Nat) (hf:F.fn 231) (hro:F.round=none) (h1:1≤f) (lp Bn:Nat) (A:Option Addr) (c:Nat) (l:List Int) (hl:l.length≤1000000) (J:Nat→World→Prop) (Jx:World→Prop)
 (hm:∀ k W,J k W→W.cell? ⟨Bn,0,none⟩=some (.slice A l.length c)∧Pack.Nts W A l)
 (hY:∀ k W,J k W→k < l.length→YieldAt F (f - 1) Tryz.prog lp (bw l k) W fun e W'=>(e = .returned (.bool true)∧J (k+1) W')∨(e = .returned (.bool false)∧Jx W'))
 (W:World) (h0:J 0 W) :
 CallsIn F f Tryz.prog 231 #[.func (.yield lp) #[] #[],.pointer (some ⟨Bn,0,none⟩)] W fun e W'=>(∃ v,e = .returned v)∧(J l.length W'∨Jx W'):=by
 refine callsIn_of_wp Tryz.func231 rfl hf ?_ hro;simp only[Tryz.ntmps231,List.size_toArray,List.length_cons,List.length_nil,Nat.reduceAdd,Nat.reduceSub,Array.replicate_succ,Array.replicate_zero,List.push_toArray,List.append_toArray,List.nil_append,List.cons_append]
 obtain⟨hc0,hn0⟩:=hm 0 W h0
 have H0:=hid h0;clear h0 hn0
 gi_wp2_with fail
 gi_loopw [3] (fun i wr=>∃ k:Nat,k≤l.length∧i = .int .i64 ((l.length:Int) - 1 - (k:Int))∧J k wr) (fun i _=>((intOf i)+1).toNat)
 case atStart=>exact⟨0,Nat.zero_le _,by simp,H0.out⟩
 case round=>
  obtain⟨k,hk,rfl,hJ⟩:=hrel
  obtain⟨hc,hN⟩:=hm k wr hJ
  by_cases hlt:k < l.length
  · obtain⟨j,hj⟩:∃ j,l.length=k+1+j:=⟨l.length - k - 1,by omega⟩
    have hjl:j < l.length:=by omega
    obtain⟨b,o,hA,hb,hcj⟩:=hN.at' j hjl
    subst hA;have hRR:=hY k wr hJ hlt;unfold bw at hRR;rw[show l.length - 1 - k=j by omega,List.getElem?_eq_getElem hjl,Option.getD_some,show (l.length:Int) - 1 - (k:Int)=(j:Int) by omega] at hRR
    obtain⟨fn,tmps,assign,body,hy,hR⟩:=hRR
    have HR:=hid hR;rw[show (l.length:Int) - 1 - (k:Int)=(j:Int) by omega];have HJL:=hid hj;clear hR hJ hN H0 hj
    gi_wp2_with fail
    refine HR.out.mono ?_;rintro e W3 (⟨rfl,hJ3⟩ | ⟨rfl,hJx⟩)
    · have HJ3:=hid hJ3
      clear hJ3
      gi_wp2
      go_roundw
      case rel=>exact⟨k+1,by omega,by have:=HJL.out;congr 1;omega,HJ3.out⟩
      case measure=>simp[intOf]
    · have HJX:=hid hJx
      clear hJx
      gi_wp2
      refine bodyPost_ret (results_none rfl _ _ _) rfl ?_
      exact⟨⟨_,rfl⟩,.inr HJX.out⟩
  · obtain rfl:k=l.length:=by omega
    have HJ:=hid hJ;rw[show (l.length:Int) - 1 - (l.length:Int) = -1 by omega];clear hJ hN H0
    gi_wp2
    go_end0
    exact⟨⟨_,rfl⟩,.inl HJ.out⟩
end Chn
end
end Go.Proofs.YtlodpaaanfjkeaaGreatDoor
