/- Texts laid together: PackText, PackWords, SupMath, SupEnc, SupEncode, SupEqual, SupDecode, SupRef, SupRefDec, PmMem, PmSmall, PmMark, PmSettle. -/
import Derived.Test.YtlodpaaanfjkeaaGreatDoorKa1
import Derived.Test.YtlodpaaanfjkeaaGreatDoorKt1
import Derived.Laws.IdiomStrings
import Derived.Laws.BytesArg
import Derived.Laws.MakeOwn
import Derived.RegionTactic
import Derived.ChangeAlike
import Derived.ArgAppend
import Derived.Test.YtlodpaaanfjkeaaGreatDoorRows
import Derived.WalkKit
import Derived.ProofKit
import Derived.Maps.AppendAt
import Derived.MapKept
import Derived.Lib.Hide
import Derived.Deep.Draws
import Derived.BigRegion
set_option maxRecDepth 100000
set_option maxHeartbeats 2000000
namespace Go.Proofs.YtlodpaaanfjkeaaGreatDoor
section
open Lib (hid)
open Go.RowKit Go.MapKept
namespace Pack
structure Bts (w:World) (A:Option Addr) (l:List Nat):Prop where
 byt:Byt l
 len:l.length≤9223372036854775807
 at':∀ j (h:j < l.length),∃ b o,A=some ⟨b,o,none⟩∧b < w.heap.size∧w.cell? ⟨b,o+j,none⟩=some (.int .u8 (l[j]:Int))
theorem Bts.keep {w w':World} {A:Option Addr} {l:List Nat} (h:Bts w A l) (hb:Below w.heap.size w w'):Bts w' A l:=
 ⟨h.byt,h.len,fun j hj=>by
   obtain⟨b,o,e,hlt,hc⟩:=h.at' j hj
   exact⟨b,o,e,Nat.lt_of_lt_of_le hlt hb.size,(hb.cell (p:=⟨b,o+j,none⟩) hlt).trans hc⟩⟩
theorem Bts.alloc {w:World} {A:Option Addr} {l:List Nat} (h:Bts w A l) (o:Obj):Bts (w.alloc o) A l:=h.keep ((Below.refl _ _).alloc (Nat.le_refl _) o)
theorem ofNat_toNat {b:Nat} (h:b < 256):(UInt8.ofNat b).toNat=b:=by
 rw[UInt8.toNat_ofNat'];omega
def str (l:List Nat):ByteArray:=⟨(l.map UInt8.ofNat).toArray⟩
theorem conv_str {W:World} {A:Option Addr} {l:List Nat} (c:Nat) (h:Bts W A l):(convert 112 9 (.slice A l.length c)).run Tryz.prog W = .ok (.string (str l)) W:=by
 cases A with
 | none=>
   have hl:l=[]:=by
    cases l with
    | nil=>rfl
    | cons b l=>
      obtain⟨_,_,e,_⟩:=h.at' 0 (by simp)
      cases e
   subst hl;exact run_convert_bytes_nil W _ _ Tryz.underlying112 Tryz.underlying5 0 c _ Tryz.underlying9
 | some a=>
   have hr:=run_convert_bytes_back (P:=Tryz.prog) W 112 9 5 a c (l.map UInt8.ofNat) Tryz.underlying112 Tryz.underlying5 Tryz.underlying9 (fun j hj=>by
    rw[List.length_map] at hj
    obtain⟨b,o,e,_,hc⟩:=h.at' j hj
    injection e with e
    subst e;rw[Go.WideShapes.add_plain,hc,List.getElem_map,ofNat_toNat (h.byt _ (List.getElem_mem hj))])
   rw[List.length_map] at hr;exact hr
def u8s (l:List Nat):List Value:=l.map fun b:Nat=>Value.int .u8 (b:Int)
theorem own_bts {W:World} {B n c:Nat} {G:Option Addr} {l:List Nat} (h:W.ownsRow B 5 1 (.slice G n c) n (u8s l)) (hb:Byt l) (hm:n≤9223372036854775807):Bts W G l:=by
 have hl:l.length=n:=by
  have:=h.1
  simpa [u8s] using this
 refine⟨hb,by omega,fun j hj=>?_⟩
 obtain⟨g,e,h1,h2⟩:=own_cells h j (by omega)
 refine⟨g,0,e,h1,?_⟩
 rw[h2,u8s,List.getElem?_map,List.getElem?_eq_getElem hj];rfl
theorem row_cap {W:World} {B n c:Nat} {e:TypeId} {s:Nat} {G:Option Addr} {xs:List Value} (h:W.ownsRow B e s (.slice G n c) n xs):n≤c:=by
 rcases h.2 with ⟨e,h0⟩ | ⟨g,cap,cur,e,_,_,hc,_⟩
 · omega
 · injection e with _ _ e
   omega
theorem u8_info:(Tryz.prog.info? 5).map (fun i=>(i.zero,i.size,i.bytes))=some (some (.int .u8 0),1,1):=by kernel_rfl
def Got (w wr:World) (G:Option Addr) (n gc:Nat) (bs:List Nat):Prop:=wr.ownsRow w.heap.size 5 1 (.slice G n gc) n (u8s bs)∧Below w.heap.size w wr
section
variable {w : World}
theorem refBytes_any (A:Option Addr) (c:Nat) (l:List Nat) (h:Wds w A l) (h60:l.length≤60) :
 Calls Tryz.prog 211 #[.slice A l.length c] w fun e w'=>e = .returned (.string (str (wflat l)))∧Below w.heap.size w w':=by
 have H:=hid h;clear h;go_enter Tryz.func211,Tryz.ntmps211
 go_wp2
 go_loopw [3,8] (fun v i wr=>∃ (m:Nat) (G:Option Addr) (gc:Nat),m≤l.length∧i = .int .i64 (m:Int)∧v = .slice G (8 * m) gc∧Got w wr G (8 * m) gc (wflat (l.take m))) (fun _ i _=>l.length - (intOf i).toNat)
 case atStart=>exact⟨0,none,0,Nat.zero_le _,rfl,rfl,⟨by rw[List.take_zero];rfl,.inl ⟨rfl,rfl⟩⟩,Below.refl _ _⟩
 case round=>
  obtain⟨m,G,gc,hm,rfl,rfl,hgot⟩:=hrel
  by_cases hlt:m < l.length
  · obtain⟨b,o,rfl,hb,hcell0⟩:=H.out.at' m hlt
    have hcell:=(hgot.2.cell (p:=⟨b,o+m,none⟩) hb).trans hcell0;have hx:=H.out.u64 _ (List.getElem_mem hlt);have HR:=hid (wflat_take hlt);have HG:=hid hgot;generalize l[m]=x at *;clear hgot hcell0;go_wp2
    go_loopw [3,5,12] (fun v y i w2=>∃ (j:Nat) (G:Option Addr) (gc:Nat),j≤8∧i = .int .i64 (j:Int)∧y = .int .u64 ((x / 256 ^ j:Nat):Int)∧v = .slice G (8 * m+j) gc∧Got w w2 G (8 * m+j) gc (wflat (l.take m)++(wb x).take j)) (fun _ _ i _=>8 - (intOf i).toNat)
    case atStart=>exact⟨0,G,gc,Nat.zero_le _,rfl,by simp,rfl,by simpa using HG.out⟩
    case round=>
     obtain⟨j,G2,gc2,hj,rfl,rfl,rfl,hgot2⟩:=hrel
     by_cases hjl:j < 8
     · have hjw:j < (wb x).length:=by rw[wb_len];exact hjl
       have e1:(wb x).take (j+1)=(wb x).take j++[x / 256 ^ j % 256]:=by rw[List.take_succ_eq_append_getElem hjw,wb_get]
       have e2:=div_pow x j;have hyl:x / 256 ^ j < 18446744073709551616:=Nat.lt_of_le_of_lt (Nat.div_le_self _ _) hx;have HE1:=hid e1;have HE2:=hid e2;generalize x / 256 ^ j=y at *
       obtain⟨i0,hi0,hz0,hz1,hz2⟩:=info_parts u8_info
       have HOWN:=hid (hgot2.1.alloc (.cells #[.int .u8 ((y:Int) % 256)] 5));have HB2:=hid hgot2.2;have HRW:=hid hgot2.1;clear hgot2 e1 e2 hx
       go_wp2_with (at_builtin;refine wpList_append_own_at _ rfl (.tmp 14) (.tmp 18) 112 rfl w.heap.size 5 i0 (.int .u8 0) 1 1 Tryz.underlying112 hi0 hz0 hz1 hz2 rfl (by decide) (.slice G2 (8 * m+j) gc2) (8 * m+j) (u8s (wflat (l.take m)++(wb x).take j)) rfl HOWN.out ⟨wr.heap.size,0,none⟩ 1 1 [.int .u8 ((y:Int) % 256)] rfl rfl (cell_one_new _ _ _) (by simp[Value.oneCell']) (by unfold maxLen;omega) (by omega) (by have:=HB2.out.size;simp;omega) ?_
                    intro v' w3 hown3 hgr3 _ _
                    obtain⟨G',gc',rfl⟩:=row_slice hown3
                    have HO3:=hid hown3;have HG3:=hid hgr3;clear hown3 hgr3)
       refine⟨⟨j+1,G',gc',by omega,by go_num,?_,rfl,?_,?_⟩,by simp[intOf];omega⟩
       · rw[HE2.out]
         rfl
       · have e:u8s (wflat (l.take m)++(wb x).take (j+1))=u8s (wflat (l.take m)++(wb x).take j)++[.int .u8 ((y:Int) % 256)]:=by
          rw[HE1.out,← List.append_assoc];simp only[u8s,List.map_append];rfl
         rw[e];exact HO3.out
       · exact (HB2.out.alloc HB2.out.size _).grown HG3.out (by have:=HB2.out.size;simp;omega) (fun k hk=>row_base_lt HRW.out hk)
     · obtain rfl:j=8:=by omega
       rw[List.take_of_length_le (l:=wb x) (by rw[wb_len];exact Nat.le_refl _),← HR.out] at hgot2;have HG2:=hid hgot2;clear hgot2;go_wp2
       exact⟨⟨m+1,G2,gc2,by omega,by go_num,rfl,HG2.out⟩,by simp[intOf];omega⟩
  · obtain rfl:m=l.length:=by omega
    rw[List.take_length] at hgot;have hcv:=conv_str gc (own_bts hgot.1 (wflat_byt l) (by omega));rw[wflat_len] at hcv;have HB:=hid hgot.2;clear hgot;go_wp2
    go_ret
    exact⟨rfl,HB.out⟩
theorem bytes_any (A:Option Addr) (c:Nat) (l:List Nat) (h:Wds w A l) (h60:l.length≤1000000000000) :
 Calls Tryz.prog 161 #[.slice A l.length c] w fun e w'=>∃ (G:Option Addr) (gc:Nat),e = .returned (.slice G (8 * l.length) gc)∧8 * l.length≤gc∧Bts w' G (wflat l)∧Below w.heap.size w w':=by
 have H:=hid h;clear h
 obtain⟨i0,hi0,hz0,hz1,hz2⟩:=info_parts u8_info
 obtain⟨w1,hmk,hown,hgr⟩:=run_make_own (P:=Tryz.prog) w w.heap.size 112 5 i0 (.int .u8 0) 1 Tryz.underlying112 hi0 hz0 hz1 .i64 .i64 (8 * l.length) (by rw[hz2];omega) (by unfold maxLen;omega) (Nat.le_refl _)
 have HOW:=hid (show Got w w1 (some ⟨w.heap.size,0,none⟩) 0 (8 * l.length) [] from ⟨hown,(Below.refl _ _).grown hgr (Nat.le_refl _) (fun k hk=>by cases hk)⟩);have hmk2:((8 * l.length:Nat):Int)=8 * (l.length:Int):=by omega
 rw[hmk2] at hmk;clear hown hgr;clear hmk2;go_enter Tryz.func161,Tryz.ntmps161
 go_wp2
 go_loopw [3,13] (fun v i wr=>∃ (m:Nat) (G:Option Addr) (gc:Nat),m≤l.length∧i = .int .i64 (m:Int)∧v = .slice G (8 * m) gc∧Got w wr G (8 * m) gc (wflat (l.take m))) (fun _ i _=>l.length - (intOf i).toNat)
 case atStart=>exact⟨0,_,_,Nat.zero_le _,rfl,rfl,HOW.out⟩
 case round=>
  obtain⟨m,G,gc,hm,rfl,rfl,hgot⟩:=hrel
  by_cases hlt:m < l.length
  · obtain⟨b,o,rfl,hb,hcell0⟩:=H.out.at' m hlt
    have hcell:=(hgot.2.cell (p:=⟨b,o+m,none⟩) hb).trans hcell0;have hx:=H.out.u64 _ (List.getElem_mem hlt);have HR:=hid (wflat_take hlt);have HG:=hid hgot;generalize l[m]=x at *;clear hgot hcell0 hmk;go_wp2
    go_loopw [3,17] (fun v i w2=>∃ (j:Nat) (G:Option Addr) (gc:Nat),j≤8∧i = .int .i64 (j:Int)∧v = .slice G (8 * m+j) gc∧Got w w2 G (8 * m+j) gc (wflat (l.take m)++(wb x).take j)) (fun _ i _=>8 - (intOf i).toNat)
    case atStart=>exact⟨0,G,gc,Nat.zero_le _,rfl,rfl,by simpa using HG.out⟩
    case round=>
     obtain⟨j,G2,gc2,hj,rfl,rfl,hgot2⟩:=hrel
     by_cases hjl:j < 8
     · have hjw:j < (wb x).length:=by rw[wb_len];exact hjl
       have e1:(wb x).take (j+1)=(wb x).take j++[x / 256 ^ j % 256]:=by rw[List.take_succ_eq_append_getElem hjw,wb_get]
       have hyl:x / 256 ^ j < 18446744073709551616:=Nat.lt_of_le_of_lt (Nat.div_le_self _ _) hx
       have hsh:(x:Int) / 2 ^ (j * 8)=((x / 256 ^ j:Nat):Int):=by
        have:256 ^ j=2 ^ (j * 8):=by rw[Nat.mul_comm j 8,Nat.pow_mul]
        rw[this];simp
       have HE1:=hid e1;generalize x / 256 ^ j=y at *;have HOWN:=hid (hgot2.1.alloc (.cells #[.int .u8 ((y:Int) % 256)] 5));have HB2:=hid hgot2.2;have HRW:=hid hgot2.1;clear hgot2 e1
       go_wp2_with (at_builtin;refine wpList_append_own_at _ rfl (.tmp 20) (.tmp 26) 112 rfl w.heap.size 5 i0 (.int .u8 0) 1 1 Tryz.underlying112 hi0 hz0 hz1 hz2 rfl (by decide) (.slice G2 (8 * m+j) gc2) (8 * m+j) (u8s (wflat (l.take m)++(wb x).take j)) rfl HOWN.out ⟨wr.heap.size,0,none⟩ 1 1 [.int .u8 ((y:Int) % 256)] rfl rfl (cell_one_new _ _ _) (by simp[Value.oneCell']) (by unfold maxLen;omega) (by omega) (by have:=HB2.out.size;simp;omega) ?_
                    intro v' w3 hown3 hgr3 _ _
                    obtain⟨G',gc',rfl⟩:=row_slice hown3
                    have HO3:=hid hown3;have HG3:=hid hgr3;clear hown3 hgr3)
       refine⟨⟨j+1,G',gc',by omega,by go_num,rfl,?_,?_⟩,by simp[intOf];omega⟩
       · have e:u8s (wflat (l.take m)++(wb x).take (j+1))=u8s (wflat (l.take m)++(wb x).take j)++[.int .u8 ((y:Int) % 256)]:=by
          rw[HE1.out,← List.append_assoc];simp only[u8s,List.map_append];rfl
         rw[e];exact HO3.out
       · exact (HB2.out.alloc HB2.out.size _).grown HG3.out (by have:=HB2.out.size;simp;omega) (fun k hk=>row_base_lt HRW.out hk)
     · obtain rfl:j=8:=by omega
       rw[List.take_of_length_le (l:=wb x) (by rw[wb_len];exact Nat.le_refl _),← HR.out] at hgot2;have HG2:=hid hgot2;clear hgot2;go_wp2
       exact⟨⟨m+1,G2,gc2,by omega,by go_num,rfl,HG2.out⟩,by simp[intOf];omega⟩
  · obtain rfl:m=l.length:=by omega
    rw[List.take_length] at hgot;have HW:=hid (own_bts hgot.1 (wflat_byt l) (by omega));have HC:=hid (row_cap hgot.1);have HB:=hid hgot.2;clear hgot hmk;go_wp2
    go_ret
    exact⟨G,gc,rfl,HC.out,HW.out,HB.out⟩
end
end Pack
end
section
open Lib (hid)
open Go.RowKit Go.MapKept
namespace Pack
def cellOf (b:List Nat) (k i:Nat):Value:=.int .u64 ((part b i (min 8 (k - 8 * i)):Nat):Int)
theorem cellOf_step {b:List Nat} {k:Nat} (_h:k < b.length) (j:Nat):(if j=k / 8 then Value.int .u64 ((part b (k / 8) (k % 8)+at0 b k * 256 ^ (k % 8):Nat):Int) else cellOf b k j)=cellOf b (k+1) j:=by
 unfold cellOf;by_cases h:j=k / 8
 · subst h
   have e1:min 8 (k+1 - 8 * (k / 8))=k % 8+1:=by omega
   have e2:8 * (k / 8)+k % 8=k:=by omega
   rw[if_pos rfl,e1,part,e2]
 · rw[if_neg h]
   have e1:min 8 (k+1 - 8 * j)=min 8 (k - 8 * j):=by omega
   rw[e1]
theorem row_words {W:World} {g:Nat} {b:List Nat} (h:W.rowIs g 50 ((b.length+7) / 8) (cellOf b b.length)) (hb:Byt b) (hn:b.length≤9223372036854775807):Wds W (some ⟨g,0,none⟩) (wrds b):=
 ⟨wrds_u64 hb,by rw[wrds_len];omega,fun j hj=>⟨g,0,rfl,h.lt,by
   rw[wrds_get];rw[wrds_len] at hj;rw[Nat.zero_add,h.cell hj];unfold cellOf;by_cases h8:8≤b.length - 8 * j
   · rw[Nat.min_eq_left h8]
   · rw[Nat.min_eq_right (by omega)]
     have:=part_end (b:=b) (i:=j) (j:=b.length - 8 * j) (by omega) (8 - (b.length - 8 * j))
     rw[← this]
     congr 4
     omega⟩⟩
section
variable {w : World}
theorem words_any (A:Option Addr) (c:Nat) (l:List Nat) (h:Bts w A l) (hlen:l.length≤1000000000000) :
 Calls Tryz.prog 173 #[.slice A l.length c] w fun e w'=>∃ (G:Option Addr) (gc:Nat),e = .returned (.slice G (wrds l).length gc)∧Wds w' G (wrds l)∧Below w.heap.size w w':=by
 have H:=hid h;clear h;have HN:=hid (wrds_len l)
 obtain⟨n,hn⟩:∃ n,n=(l.length+7) / 8:=⟨_,rfl⟩
 have hmk:=run_make_row' (P:=Tryz.prog) 22 50 _ 8 Tryz.underlying22 u64_info rfl .i64 .i64 n (by omega) (by omega) w;have hrow:(w.alloc (.cells (madeCells #[.int .u64 0] n) 50)).rowIs w.heap.size 50 n (cellOf l 0):=(World.rowIs_made w (.int .u64 0) n 50).congr (fun i _=>by simp[cellOf,part]);have hbel:Below w.heap.size w (w.alloc (.cells (madeCells #[.int .u64 0] n) 50)):=(Below.refl _ _).alloc (Nat.le_refl _) _;have HR:=hid hrow;have HB:=hid hbel;generalize w.alloc (.cells (madeCells #[.int .u64 0] n) 50)=w1 at *;clear hrow hbel;have hq:((l.length:Int)+8 - 1) / 8=(n:Int):=by omega
 rw[← hq] at hmk;have HNN:=hid hn;clear hn hq;go_enter Tryz.func173,Tryz.ntmps173
 go_wp2
 go_loopw [14] (fun i wr=>∃ (k:Nat),k≤l.length∧i = .int .i64 (k:Int)∧wr.rowIs w.heap.size 50 n (cellOf l k)∧Below w.heap.size w wr) (fun i _=>l.length - (intOf i).toNat)
 case atStart=>exact⟨0,Nat.zero_le _,rfl,HR.out,HB.out⟩
 case round=>
  obtain⟨k,hk,rfl,hrow,hbel⟩:=hrel
  have hn:=HNN.out;by_cases hlt:k < l.length
  · obtain⟨b,o,rfl,hb,hcell⟩:=H.out.at' k hlt
    have hca:=(hbel.cell (p:=⟨b,o+k,none⟩) hb).trans hcell;clear hcell;have hxb:l[k] < 256:=H.out.byt _ (List.getElem_mem hlt);have HS:=hid (cellOf_step hlt);rw[at0_get hlt] at HS;have hdn:k / 8 < n:=by omega
    have hc0:=hrow.cell hdn;have hf0:=hrow.frozen (k / 8);have hpl:=part_lt H.out.byt (k / 8) (k % 8);have hmin:min 8 (k - 8 * (k / 8))=k % 8:=by omega
    unfold cellOf at hc0;rw[hmin] at hc0;generalize part l (k / 8) (k % 8)=y at *;generalize l[k]=x at *;have ht:256 ^ (k % 8)=2 ^ (k % 8 * 8):=by rw[Nat.mul_comm (k % 8) 8,Nat.pow_mul]
    rw[ht] at hpl HS;have ho:=or_field y x (k % 8 * 8) 8 hpl (by omega) (by omega);have HW:=hid hrow;have HBW:=hid hbel;clear hrow hbel ht hmin;have hwd:IntKind.wrap .i64 ((k:Int) / 8)=((k / 8:Nat):Int):=by rw[IntKind.wrap_i64];omega
    have hwt:IntKind.wrap .i64 ((k:Int) % 8 * 8)=((k % 8 * 8:Nat):Int):=by rw[IntKind.wrap_i64];omega
    have hwm:(k:Int) % 8 * 8=((k % 8 * 8:Nat):Int):=by omega
    have he:(k:Int) / 8=((k / 8:Nat):Int):=rfl;have hel:((k / 8:Nat):Int) < (n:Int):=by omega
    have hel0:(0:Int)≤((k / 8:Nat):Int):=by omega
    have hfl:k % 8 * 8≤56:=by omega
    clear hn hmk;generalize k % 8 * 8=T at *;generalize k / 8=d at *;have hwd2:IntKind.wrap .i64 (d:Int)=(d:Int):=by rw[IntKind.wrap_i64];omega
    have hwT2:IntKind.wrap .i64 (T:Int)=(T:Int):=by rw[IntKind.wrap_i64];omega
    have hT0:(0:Int)≤(T:Int):=by omega
    have hT1:(T:Int) < 64:=by omega
    go_wp2
    go_region
    clear hwd hwt hwm he hwd2 hwT2;go_wp2
    refine⟨⟨k+1,by omega,by go_num,?_,(HBW.out.setCell (p:=⟨w.heap.size,d,none⟩) (Nat.le_refl _) _).drew⟩,by simp[intOf];omega⟩
    have h2:=(HW.out.set d (.int .u64 ((y+x * 2 ^ T:Nat):Int))).congr (fun j _=>HS.out j);have h3:=h2.drew
    simpa using h3
  · obtain rfl:k=l.length:=by omega
    rw[HNN.out] at hrow;have HW:=hid (row_words hrow H.out.byt (by omega));have HBW:=hid hbel;clear hrow hbel hmk hn;go_wp2
    go_ret
    refine⟨_,n,?_,HW.out,HBW.out⟩
    rw[HN.out,← HNN.out];rfl
end
end Pack
end
section
open Go.RowKit Go.MapKept
namespace Sup
def magic:Nat:=3544409100874826051
def txt:List Nat:=[67,65,78,84,76,69,48,49]
theorem magic_lt:magic < 18446744073709551616:=by decide
theorem txt_word:Pack.wrds txt=[magic]:=by decide
def nums (n m s:Nat):Nat:=n+65536 * m+4294967296 * s
def front (n m s:Nat):List Nat:=[magic,nums n m s,0,0,0,0,0]
def sum (n m s:Nat):Nat:=Crc.S32 (Crc.wflat (front n m s))
def sb (n m s:Nat):List Nat:=[magic,nums n m s,0,0,0,0,0,sum n m s]
theorem sb_len (n m s:Nat):(sb n m s).length=8:=rfl
theorem front_len (n m s:Nat):(front n m s).length=7:=rfl
theorem nums_lt {n m s:Nat} (hn:n < 65536) (hm:m < 65536) (hs:s < 65536):nums n m s < 281474976710656:=by unfold nums;omega
theorem s32_lt (l:List Nat):Crc.S32 l < 4294967296:=by
 unfold Crc.S32;omega
theorem sum_lt (n m s:Nat):sum n m s < 4294967296:=s32_lt _
theorem sb_u64 {n m s:Nat} (hn:n < 65536) (hm:m < 65536) (hs:s < 65536):∀ x∈sb n m s,x < 18446744073709551616:=by
 intro x hx;have h1:=nums_lt hn hm hs;have h2:=sum_lt n m s;have h3:=magic_lt;simp only[sb,List.mem_cons,List.not_mem_nil,or_false] at hx
 rcases hx with rfl | rfl | rfl | rfl | rfl | rfl | rfl | rfl<;>omega
theorem pk_nums {n m s:Nat} (hn:n < 65536) (hm:m < 65536) (hs:s < 65536):Pack.pk 0 0 [⟨16,n⟩,⟨16,m⟩,⟨16,s⟩]=some (nums n m s,48):=by
 unfold nums;simp[Pack.pk,hn,hm,hs];omega
theorem split_nums (x:Nat):Pack.split x [16,16,16]=if x < 281474976710656 then some [x % 65536,x / 65536 % 65536,x / 4294967296 % 65536] else none:=by
 have h:Pack.tot 0 [16,16,16]=some 48:=by decide
 unfold Pack.split;rw[h];have e:(2:Nat) ^ 48=281474976710656:=rfl;simp only[e];by_cases hx:x < 281474976710656
 · have:x / 281474976710656=0:=by omega
   simp[hx,this,Pack.sp];omega
 · have:¬ x / 281474976710656=0:=by omega
   simp[hx,this]
def dec (l:List Nat):Option (Nat × Nat × Nat):=
 let x:Nat:=l[1]?.getD 0
 let n:Nat:=x % 65536
 let m:Nat:=x / 65536 % 65536
 let s:Nat:=x / 4294967296
 if l.length=8∧x < 281474976710656∧Geo.may n m s=true∧l=sb n m s then some (n,m,s) else none
theorem may_lt {n m s:Nat} (h:Geo.may n m s=true):n < 65536∧m < 65536∧s < 65536:=by
 obtain⟨⟨h1,h2,h3⟩,_⟩:=Geo.may_num h
 have:=h3.bounds
 omega
theorem dec_sb {n m s:Nat} (h:Geo.may n m s=true):dec (sb n m s)=some (n,m,s):=by
 obtain⟨h1,h2,h3⟩:=may_lt h
 have h4:=nums_lt h1 h2 h3;have e1:nums n m s % 65536=n:=by unfold nums;omega
 have e2:nums n m s / 65536 % 65536=m:=by unfold nums;omega
 have e3:nums n m s / 4294967296=s:=by unfold nums;omega
 have e:(sb n m s)[1]?.getD 0=nums n m s:=rfl;unfold dec;simp only[e,e1,e2,e3];exact if_pos ⟨rfl,h4,h,trivial⟩
theorem dec_some {l:List Nat} {n m s:Nat} (h:dec l=some (n,m,s)):Geo.may n m s=true∧l=sb n m s:=by
 unfold dec at h;simp only at h
 split at h
 · rename_i hc
   injection h with h
   injection h with h1 h2
   injection h2 with h2 h3
   subst h1 h2 h3;exact hc.2.2
 · cases h
end Sup
end
section
open Go.RowKit Go.MapKept
namespace Sup
theorem number_any (w:World) (n:Nat) (h:n < 65536) :
 Calls Tryz.prog 174 #[.int .i64 (n:Int)] w fun r w'=>r = .returned (.agg #[.int .i64 16,.int .u64 (n:Int)])∧Below w.heap.size w w':=by
 go_enter Tryz.func174,Tryz.ntmps174
 go_wp2
 refine bodyPost_ret (v:=.agg #[.int .i64 16,.int .u64 (n:Int)]) ?_ rfl ⟨rfl,?_⟩
 · simp[results,Tryz.results174,go_sem]
 · first
   | exact (Below.refl _ _).alloc (Nat.le_refl _) _
   | exact (((Below.refl _ _).alloc (Nat.le_refl _) _).setCell (by simp) _).setCell (by simp) _
def rowOf (l:List Nat) (i:Nat):Value:=.int .u64 ((l[i]?.getD 0:Nat):Int)
structure En (w0:World) (N b g:Nat) (n m s:Int) (l:List Nat) (w:World):Prop where
 box:Geo.Box w b n m s
 row:w.rowIs g 50 8 (rowOf l)
 bg:b≠g
 below:Below N w0 w
 nN:N≤g
theorem En.keep {w0 w w':World} {N b g:Nat} {n m s:Int} {l:List Nat} (h:En w0 N b g n m s l w) (hb:Below w.heap.size w w') (hN:N≤w.heap.size):En w0 N b g n m s l w':=
 ⟨h.box.keep hb,h.row.of_block (hb.block _ h.row.lt),h.bg,h.below.trans (hb.mono hN),h.nN⟩
theorem En.drew {w0 w:World} {N b g:Nat} {n m s:Int} {l:List Nat} (h:En w0 N b g n m s l w):En w0 N b g n m s l w.drew:=
 ⟨h.box.drew,h.row.drew,h.bg,h.below.drew,h.nN⟩
theorem cell_set_other {w:World} {p q:Addr} (h:p.block≠q.block) (v:Value):(w.setCell q v).cell? p=w.cell? p:=World.cell?_of_block (w:=w) (Below.heap_setCell w q v p.block h)
theorem En.set {w0 w:World} {N b g:Nat} {n m s:Int} {l l':List Nat} (h:En w0 N b g n m s l w) (i x:Nat) (e:∀ j,j < 8→(if j=i then x else l[j]?.getD 0)=l'[j]?.getD 0):En w0 N b g n m s l' (w.setCell ⟨g,i,none⟩ (.int .u64 (x:Int))):=
 ⟨⟨by simpa using h.box.lt,(cell_set_other h.bg _).trans h.box.c0,(cell_set_other h.bg _).trans h.box.c1,(cell_set_other h.bg _).trans h.box.c2⟩,
  (h.row.set i (.int .u64 (x:Int))).congr (fun j hj=>by
   have:=e j hj
   unfold rowOf;rw[← this]
   split<;>rfl),h.bg,h.below.setCell h.nN _,h.nN⟩
theorem set_magic (j:Nat) (h:j < 8):(if j=0 then magic else ([]:List Nat)[j]?.getD 0)=[magic][j]?.getD 0:=by
 match j,h with
 | 0,_=>rfl
 | j+1,_=>simp
theorem set_nums (x:Nat) (j:Nat) (h:j < 8):(if j=1 then x else [magic][j]?.getD 0)=[magic,x][j]?.getD 0:=by
 match j,h with
 | 0,_=>rfl
 | 1,_=>rfl
 | j+2,_=>simp
theorem set_sum (x y:Nat) (j:Nat) (h:j < 8):(if j=7 then y else [magic,x][j]?.getD 0)=[magic,x,0,0,0,0,0,y][j]?.getD 0:=by
 have:j=0∨j=1∨j=2∨j=3∨j=4∨j=5∨j=6∨j=7:=by omega
 rcases this with rfl | rfl | rfl | rfl | rfl | rfl | rfl | rfl<;>rfl
theorem row_crc {w:World} {g:Nat} {l k:List Nat} (h:w.rowIs g 50 8 (rowOf l)) (hk:k.length≤8) (hu:∀ x∈k,x < 18446744073709551616) (e:∀ j (h:j < k.length),l[j]?.getD 0=k[j]):Crc.Wds w (some ⟨g,0,none⟩) k:=
 ⟨hu,by omega,fun j hj=>⟨g,0,rfl,h.lt,by
   rw[Nat.zero_add,h.cell (by omega)];unfold rowOf;rw[e j hj]⟩⟩
theorem row_pack {w:World} {g:Nat} {l:List Nat} (h:w.rowIs g 50 8 (rowOf l)) (hk:l.length=8) (hu:∀ x∈l,x < 18446744073709551616):Pack.Wds w (some ⟨g,0,none⟩) l:=
 ⟨hu,by omega,fun j hj=>⟨g,0,rfl,h.lt,by
   rw[Nat.zero_add,h.cell (by omega)];unfold rowOf;rw[List.getElem?_eq_getElem hj]
   rfl⟩⟩
theorem front_crc {w:World} {g n m s:Nat} (h:w.rowIs g 50 8 (rowOf [magic,nums n m s])) (hn:n < 65536) (hm:m < 65536) (hs:s < 65536):Crc.Wds w (some ⟨g,0,none⟩) (front n m s):=by
 refine row_crc h (by rw[front_len];omega) ?_ ?_
 · intro x hx
   have h1:=nums_lt hn hm hs;have h3:=magic_lt;simp only[front,List.mem_cons,List.not_mem_nil,or_false] at hx
   rcases hx with rfl | rfl | rfl | rfl | rfl | rfl | rfl<;>omega
 · intro j hj
   have:j < 7:=hj
   have:j=0∨j=1∨j=2∨j=3∨j=4∨j=5∨j=6:=by omega
   rcases this with rfl | rfl | rfl | rfl | rfl | rfl | rfl<;>rfl
theorem bts_txt (w:World):Pack.Bts (w.alloc (.cells #[.int .u8 67,.int .u8 65,.int .u8 78,.int .u8 84,.int .u8 76,.int .u8 69,.int .u8 48,.int .u8 49] 5 (8,9))) (some ⟨w.heap.size,0,none⟩) txt:=
 ⟨by unfold Pack.Byt;decide,by decide,fun j hj=>⟨w.heap.size,0,rfl,by simp,by
   rw[World.cell?_alloc_mark,Nat.zero_add]
   have:j < 8:=hj
   match j,this with
   | 0,_=>rfl
   | 1,_=>rfl
   | 2,_=>rfl
   | 3,_=>rfl
   | 4,_=>rfl
   | 5,_=>rfl
   | 6,_=>rfl
   | 7,_=>rfl⟩⟩
theorem txt_any (w:World):Calls Tryz.prog 173 #[.slice (some ⟨w.heap.size,0,none⟩) 8 8] (w.alloc (.cells #[.int .u8 67,.int .u8 65,.int .u8 78,.int .u8 84,.int .u8 76,.int .u8 69,.int .u8 48,.int .u8 49] 5 (8,9))) fun e w'=>∃ (b o gc:Nat),e = .returned (.slice (some ⟨b,o,none⟩) 1 gc)∧w'.cell? ⟨b,o,none⟩=some (.int .u64 (magic:Int))∧Below w.heap.size w w':=by
 refine (Pack.words_any _ 8 _ (bts_txt w) (by decide)).mono ?_;rintro e w' ⟨G,gc,rfl,hw,hb⟩;rw[txt_word] at hw ⊢
 obtain⟨b,o,rfl,_,hc⟩:=hw.at' 0 (by decide)
 have hb0:=(Below.refl w.heap.size w).alloc (Nat.le_refl _) (.cells #[.int .u8 67,.int .u8 65,.int .u8 78,.int .u8 84,.int .u8 76,.int .u8 69,.int .u8 48,.int .u8 49] 5 (8,9))
 exact⟨b,o,gc,rfl,hc,hb0.trans (hb.mono hb0.size)⟩
theorem fds_three (w:World) {n m s:Nat} (hn:n < 65536) (hm:m < 65536) (hs:s < 65536):Pack.Fds (w.alloc (.cells #[.int .i64 16,.int .u64 (n:Int),.int .i64 16,.int .u64 (m:Int),.int .i64 16,.int .u64 (s:Int)] 208)) (some ⟨w.heap.size,0,none⟩) [⟨16,n⟩,⟨16,m⟩,⟨16,s⟩]:=
 ⟨fun f hf=>by
   simp only[List.mem_cons,List.not_mem_nil,or_false] at hf
   rcases hf with rfl | rfl | rfl<;>exact⟨by simp only;omega,by simp only;omega,by simp only;omega⟩,by simp,fun j hj=>by
   have:j < 3:=hj
   match j,this with
   | 0,_=>exact⟨w.heap.size,0,rfl,by simp,Pack.alloc_cell _ _ _ _,Pack.alloc_cell _ _ _ _⟩
   | 1,_=>exact⟨w.heap.size,0,rfl,by simp,Pack.alloc_cell _ _ _ _,Pack.alloc_cell _ _ _ _⟩
   | 2,_=>exact⟨w.heap.size,0,rfl,by simp,Pack.alloc_cell _ _ _ _,Pack.alloc_cell _ _ _ _⟩⟩
theorem nums_any (w:World) {n m s:Nat} (hn:n < 65536) (hm:m < 65536) (hs:s < 65536):Calls Tryz.prog 121 #[.slice (some ⟨w.heap.size,0,none⟩) 3 3] (w.alloc (.cells #[.int .i64 16,.int .u64 (n:Int),.int .i64 16,.int .u64 (m:Int),.int .i64 16,.int .u64 (s:Int)] 208)) fun e w'=>e = .returned (.tuple #[.int .u64 (nums n m s:Nat),.bool true])∧Below w.heap.size w w':=by
 refine (Pack.pack_any _ 3 _ (fds_three w hn hm hs)).mono ?_;rintro e w' ⟨rfl,hb⟩;rw[pk_nums hn hm hs];have hb0:=(Below.refl w.heap.size w).alloc (Nat.le_refl _) (.cells #[.int .i64 16,.int .u64 (n:Int),.int .i64 16,.int .u64 (m:Int),.int .i64 16,.int .u64 (s:Int)] 208)
 exact⟨rfl,hb0.trans (hb.mono hb0.size)⟩
end Sup
end
section
open Lib (hid)
open Go.RowKit Go.MapKept
namespace Sup
theorem encode_no (w:World) (n m s:Int) (hm:Geo.may n m s=false) :
 Calls Tryz.prog 107 #[.agg #[.int .i64 n,.int .i64 m,.int .i64 s]] w fun r w'=>r = .returned (.tuple #[.slice none 0 0,.int .i64 1])∧Below w.heap.size w w':=by
 have HM:=hid (fun w=>Geo.may_any w n m s);have HE:=hid hm;clear hm;have HB:=hid ((Below.refl w.heap.size w).alloc (Nat.le_refl _) (.cells #[.int .i64 n,.int .i64 m,.int .i64 s] 72));go_enter Tryz.func107,Tryz.ntmps107
 go_wp2_with fail
 refine (HM.out _).mono ?_;rintro e w' ⟨rfl,hb⟩;rw[HE.out];have HB1:=hid (HB.out.trans (hb.mono HB.out.size));clear hb;go_wp2
 go_ret2
 exact⟨rfl,HB1.out⟩
theorem encode_yes (w:World) (n m s:Nat) (hm:Geo.may n m s=true) :
 Calls Tryz.prog 107 #[.agg #[.int .i64 (n:Int),.int .i64 (m:Int),.int .i64 (s:Int)]] w fun r w'=>∃ g:Nat,w.heap.size≤g∧r = .returned (.tuple #[.slice (some ⟨g,0,none⟩) 8 8,.int .i64 0])∧w'.rowIs g 50 8 (rowOf (sb n m s))∧Below w.heap.size w w':=by
 obtain⟨h1,h2,h3⟩:=may_lt hm
 have HM:=hid (fun w=>Geo.may_any w n m s);have HE:=hid hm;clear hm;have HN1:=hid (fun w=>number_any w n h1);have HN2:=hid (fun w=>number_any w m h2);have HN3:=hid (fun w=>number_any w s h3);have HP:=hid (fun w=>nums_any w h1 h2 h3);have HT:=hid txt_any;have HB:=hid ((Below.refl w.heap.size w).alloc (Nat.le_refl _) (.cells #[.int .i64 (n:Int),.int .i64 (m:Int),.int .i64 (s:Int)] 72));have HX:=hid (Geo.boxed w n m s 72);go_enter Tryz.func107,Tryz.ntmps107
 go_wp2_with fail
 refine (HM.out _).mono ?_;rintro e w1 ⟨rfl,hb⟩;rw[HE.out];have HB1:=hid (HB.out.trans (hb.mono HB.out.size));have HX1:=hid (HX.out.keep hb);have hsz:w.heap.size < w1.heap.size:=HX1.out.lt;clear hb HX
 -- the words' memory
 have hmk:=run_make_row' (P:=Tryz.prog) 22 50 _ 8 Tryz.underlying22 Pack.u64_info rfl .i64 .i64 8 (by omega) (by omega) w1;rw[show ((8:Nat):Int)=8 from rfl] at hmk;have hrow:(w1.alloc (.cells (madeCells #[.int .u64 0] 8) 50)).rowIs w1.heap.size 50 8 (rowOf []):=(World.rowIs_made w1 (.int .u64 0) 8 50).congr (fun i _=>by simp[rowOf]);have hb2:=(Below.refl w1.heap.size w1).alloc (Nat.le_refl _) (.cells (madeCells #[.int .u64 0] 8) 50);have HE2:=hid (show En w w.heap.size w.heap.size w1.heap.size n m s [] (w1.alloc (.cells (madeCells #[.int .u64 0] 8) 50)) from ⟨HX1.out.keep hb2,hrow,by omega,HB1.out.trans (hb2.mono HB1.out.size),HB1.out.size⟩);clear hrow hb2 HX1 HB1 HB HM HE;generalize w1.alloc (.cells (madeCells #[.int .u64 0] 8) 50)=w2 at *;generalize hg:w1.heap.size=g at *;clear hg;have hs2:w.heap.size < w2.heap.size:=HE2.out.box.lt;have hcv:=Crc.conv_new w2 #[.int .u8 67,.int .u8 65,.int .u8 78,.int .u8 84,.int .u8 76,.int .u8 69,.int .u8 48,.int .u8 49] 8 8;go_wp2_with fail
 refine (HT.out _).mono ?_;rintro e w3 ⟨b,o,gc,rfl,hc,hb⟩;have HE3:=hid (HE2.out.keep hb (by omega));have hs3:w.heap.size < w3.heap.size:=HE3.out.box.lt;have hrc:=HE3.out.row.cell (i:=0) (by omega);have hrf:=HE3.out.row.frozen 0;clear hb hcv hs2 HE2 hmk;go_wp2
 have HE4:=hid (HE3.out.set 0 magic set_magic);clear hrc hrf hs3 HE3;generalize w3.setCell ⟨g,0,none⟩ (.int .u64 (magic:Int))=w4 at *;have hs4:w.heap.size < w4.heap.size:=HE4.out.box.lt;have HS4:=hid hs4;have hc0:=HE4.out.box.c0;have hc1:=HE4.out.box.c1;have hc2:=HE4.out.box.c2;clear hc
 go_region_held3 (fun W'=>W'.cell? ⟨w.heap.size,0,none⟩=some (.int .i64 (n:Int))∧W'.cell? ⟨w.heap.size,1,none⟩=some (.int .i64 (m:Int))∧W'.cell? ⟨w.heap.size,2,none⟩=some (.int .i64 (s:Int))) (go_keep)
  (first
  | (go_at_call 174
     with_reducible refine (HN1.out _).mono ?_
     rintro e w5 ⟨rfl,hb⟩;have HE5:=hid (HE4.out.drew.keep hb (Nat.le_of_lt HE4.out.drew.box.lt));have hk0:=HE5.out.box.c0;have hk1:=HE5.out.box.c1;have hk2:=HE5.out.box.c2;clear hb)
  | (go_at_call 174
     with_reducible refine (HN2.out _).mono ?_
     rintro e w6 ⟨rfl,hb⟩;have HE6:=hid (HE5.out.keep hb (Nat.le_of_lt HE5.out.box.lt));have hl0:=HE6.out.box.c0;have hl1:=HE6.out.box.c1;have hl2:=HE6.out.box.c2;clear hb)
  | (go_at_call 174
     with_reducible refine (HN3.out _).mono ?_
     rintro e w7 ⟨rfl,hb⟩;have HE7:=hid (HE6.out.keep hb (Nat.le_of_lt HE6.out.box.lt));have hm0:=HE7.out.box.c0;have hm1:=HE7.out.box.c1;have hm2:=HE7.out.box.c2;clear hb)
  | (go_at_call 121
     with_reducible refine (HP.out _).mono ?_
     rintro e w8 ⟨rfl,hb⟩;have HE8:=hid (HE7.out.keep hb (Nat.le_of_lt HE7.out.box.lt));have hn0:=HE8.out.box.c0;have hn1:=HE8.out.box.c1;have hn2:=HE8.out.box.c2;have hn3:=HE8.out.row.cell (i:=1) (by omega);have hn4:=HE8.out.row.frozen 1;have HE9:=hid (HE8.out.set 1 (nums n m s) (set_nums _));have hq0:=HE9.out.box.c0;have hq1:=HE9.out.box.c1;have hq2:=HE9.out.box.c2;clear hb))
 clear hk0 hk1 hk2 hl0 hl1 hl2 hm0 hm1 hm2 hn0 hn1 hn2 hn3 hn4 hq0 hq1 hq2 hc0 hc1 hc2 HE5 HE6 HE7 HE8 HE4 HN1 HN2 HN3 HP HT;generalize w8.setCell ⟨g,1,none⟩ (.int .u64 (nums n m s:Int))=w9 at *;have HC:=hid (Crc.words32_any (some ⟨g,0,none⟩) 8 (front n m s) (front_crc HE9.out.row h1 h2 h3));have hsl:=sum_lt n m s;have hrc:=HE9.out.row.cell (i:=7) (by omega);have hrf:=HE9.out.row.frozen 7;go_wp2_with fail
 refine HC.out.mono ?_;rintro e w' ⟨rfl,rfl⟩;rw[show Crc.S32 (Crc.wflat (front n m s))=sum n m s from rfl];go_wp2
 go_ret2;have h10:=HE9.out.set 7 (sum n m s) (set_sum _ _)
 exact⟨g,h10.nN,rfl,h10.row,h10.below⟩
end Sup
end
section
open Lib (hid)
open Go.RowKit Go.MapKept
namespace Sup
open Pack (Wds)
section
variable {w : World}
theorem equal_any (A B:Option Addr) (c d:Nat) (l m:List Nat) (h:Wds w A l) (g:Wds w B m) :
 Calls Tryz.prog 67 #[.slice A l.length c,.slice B m.length d] w fun e w'=>e = .returned (.bool (decide (l=m)))∧∃ n,w'=w.drewN n:=by
 have hn:=h.len;have hm:=g.len;have H:=hid h;have G:=hid g;clear h g;by_cases hlen:l.length=m.length
 · go_enter Tryz.func67,Tryz.ntmps67
   go_wp2
   go_loopw [13] (fun i wr=>∃ (k n:Nat),k≤l.length∧i = .int .i64 (k:Int)∧l.take k=m.take k∧wr=w.drewN n) (fun i _=>l.length - (intOf i).toNat)
   case atStart=>exact⟨0,0,Nat.zero_le _,rfl,rfl,rfl⟩
   case round=>
    obtain⟨k,n,hk,rfl,hs,rfl⟩:=hrel
    have HS:=hid hs;clear hs;by_cases hlt:k < l.length
    · have hlt2:k < m.length:=by omega
      obtain⟨b,o,rfl,hb,hcell⟩:=H.out.at' k hlt
      obtain⟨b2,o2,rfl,hb2,hcell2⟩:=G.out.at' k hlt2
      have hi0:(0:Int)≤(k:Int):=by omega
      have hi1:(k:Int) < (l.length:Int):=by omega
      have hi2:(k:Int) < (m.length:Int):=by omega
      have HE:=hid (show l.take (k+1)=m.take (k+1)↔l[k]=m[k] by
       rw[List.take_succ_eq_append_getElem hlt,List.take_succ_eq_append_getElem (l:=m) hlt2,HS.out,List.append_right_inj]
       simp)
      generalize l[k]=x at *;generalize m[k]=y at *;by_cases hxy:x=y
      · subst hxy
        have HE1:=hid (HE.out.2 rfl);clear HE;go_wp2
        go_quiet (fail)
        go_wp2
        refine⟨⟨k+1,n+nq,by omega,by go_num,HE1.out,rfl⟩,by simp[intOf];omega⟩
      · have hne:¬ (x:Int)=(y:Int):=by omega
        go_wp2
        go_quiet (fail)
        go_wp2
        go_ret
        refine⟨?_,n+nq,World.drewN_drewN _ _ _⟩
        have:¬ l=m:=fun h=>hxy (HE.out.1 (by rw[h]))
        rw[decide_eq_false this];rfl
    · obtain rfl:k=l.length:=by omega
      have he:l=m:=by
       have:=HS.out
       rwa [List.take_length,hlen,List.take_length] at this
      go_wp2
      go_ret
      refine⟨?_,n,rfl⟩
      rw[decide_eq_true he];rfl
 · have hne:¬ (l.length:Int)=(m.length:Int):=by omega
   have hlm:¬ l=m:=fun h=>hlen (by rw[h])
   go_enter Tryz.func67,Tryz.ntmps67
   go_wp2
   go_ret
   refine⟨?_,0,rfl⟩
   rw[decide_eq_false hlm];rfl
end
end Sup
end
section
open Lib (hid)
open Go.RowKit Go.MapKept
namespace Sup
def gv:Option (Nat × Nat × Nat)→Value
 | some (n,m,s)=>.agg #[.int .i64 (n:Int),.int .i64 (m:Int),.int .i64 (s:Int)]
 | none=>.agg #[.int .i64 0,.int .i64 0,.int .i64 0]
def ev:Option (Nat × Nat × Nat)→Int
 | some _=>0
 | none=>2
theorem nts_three (w:World):Pack.Nts (w.alloc (.cells #[.int .i64 16,.int .i64 16,.int .i64 16] 3)) (some ⟨w.heap.size,0,none⟩) [16,16,16]:=
 ⟨fun f hf=>by
   obtain rfl:f=16:=by simpa using hf
   exact⟨by decide,by decide⟩,by decide,fun j hj=>by
   have:j < 3:=hj
   match j,this with
   | 0,_=>exact⟨w.heap.size,0,rfl,by simp,Pack.alloc_cell _ _ _ _⟩
   | 1,_=>exact⟨w.heap.size,0,rfl,by simp,Pack.alloc_cell _ _ _ _⟩
   | 2,_=>exact⟨w.heap.size,0,rfl,by simp,Pack.alloc_cell _ _ _ _⟩⟩
theorem split_no (w:World) (N:Nat) (hN:w.heap.size=N) (x:Nat) (hx:x < 18446744073709551616) (h:¬ x < 281474976710656):Calls Tryz.prog 65 #[.int .u64 (x:Int),.slice (some ⟨N,0,none⟩) 3 3] (w.alloc (.cells #[.int .i64 16,.int .i64 16,.int .i64 16] 3)) fun e w'=>∃ (G:Option Addr) (gc:Nat),e = .returned (.tuple #[.slice G 0 gc,.bool false])∧Below w.heap.size w w':=by
 subst hN;refine (Pack.split_any x hx _ 3 _ (nts_three w)).mono ?_;rintro e w' ⟨G,gc,rfl,hw,hb⟩;have hb0:=(Below.refl w.heap.size w).alloc (Nat.le_refl _) (.cells #[.int .i64 16,.int .i64 16,.int .i64 16] 3);rw[split_nums,if_neg h]
 exact⟨G,gc,rfl,hb0.trans (hb.mono hb0.size)⟩
theorem split_yes (w:World) (N:Nat) (hN:w.heap.size=N) (x:Nat) (h:x < 281474976710656):Calls Tryz.prog 65 #[.int .u64 (x:Int),.slice (some ⟨N,0,none⟩) 3 3] (w.alloc (.cells #[.int .i64 16,.int .i64 16,.int .i64 16] 3)) fun e w'=>∃ (b o gc:Nat),e = .returned (.tuple #[.slice (some ⟨b,o,none⟩) 3 gc,.bool true])∧(b < w'.heap.size∧w'.cell? ⟨b,o,none⟩=some (.int .u64 ((x % 65536:Nat):Int))∧w'.cell? ⟨b,o+1,none⟩=some (.int .u64 ((x / 65536 % 65536:Nat):Int))∧w'.cell? ⟨b,o+2,none⟩=some (.int .u64 ((x / 4294967296:Nat):Int)))∧Below w.heap.size w w':=by
 subst hN;refine (Pack.split_any x (by omega) _ 3 _ (nts_three w)).mono ?_;rintro e w' ⟨G,gc,rfl,hw,hb⟩;have hb0:=(Below.refl w.heap.size w).alloc (Nat.le_refl _) (.cells #[.int .i64 16,.int .i64 16,.int .i64 16] 3);have e:x / 4294967296 % 65536=x / 4294967296:=by omega
 rw[split_nums,if_pos h,e] at hw ⊢;simp only[Option.getD_some] at hw
 obtain⟨b,o,rfl,hlt,hc0⟩:=hw.at' 0 (by simp)
 obtain⟨b',o',e,_,hc1⟩:=hw.at' 1 (by simp)
 injection e with e
 injection e with e1 e2
 subst e1 e2
 obtain⟨b',o',e,_,hc2⟩:=hw.at' 2 (by simp)
 injection e with e
 injection e with e1 e2
 subst e1 e2
 exact⟨b,o,gc,rfl,⟨hlt,hc0,hc1,hc2⟩,hb0.trans (hb.mono hb0.size)⟩
structure Own (w:World) (b:Nat) (n m s:Int):Prop where
 box:Geo.Box w b n m s
 f:∀ o,w.frozen? ⟨b,o,none⟩=false
theorem Own.keep {w w':World} {b:Nat} {n m s:Int} (h:Own w b n m s) (hb:Below w.heap.size w w'):Own w' b n m s:=
 ⟨h.box.keep hb,fun o=>(hb.frozen (p:=⟨b,o,none⟩) h.box.lt).trans (h.f o)⟩
theorem Own.drew {w:World} {b:Nat} {n m s:Int} (h:Own w b n m s):Own w.drew b n m s:=⟨h.box.drew,h.f⟩
theorem owned (w:World) (n m s:Int) (t:TypeId):Own (w.alloc (.cells #[.int .i64 n,.int .i64 m,.int .i64 s] t)) w.heap.size n m s:=
 ⟨Geo.boxed w n m s t,fun o=>(World.rowIs_alloc w #[.int .i64 n,.int .i64 m,.int .i64 s] t (fun i=>if i=0 then .int .i64 n else if i=1 then .int .i64 m else .int .i64 s) (fun i hi=>by
   have:i < 3:=hi
   match i,this with
   | 0,_=>rfl
   | 1,_=>rfl
   | 2,_=>rfl)).frozen o⟩
section
variable {w : World}
theorem decode_any (A:Option Addr) (c:Nat) (l:List Nat) (h:Pack.Wds w A l) :
 Calls Tryz.prog 55 #[.slice A l.length c] w fun r w'=>r = .returned (.tuple #[gv (dec l),.int .i64 (ev (dec l))])∧Below w.heap.size w w':=by
 have hlen:=h.len;have HB:=hid ((Below.refl w.heap.size w).alloc (Nat.le_refl _) (.cells #[.int .i64 0,.int .i64 0,.int .i64 0] 72));have HX:=hid (owned w 0 0 0 72);by_cases hl:l.length=8
 · rw[hl]
   obtain⟨b,o,rfl,hb,hcell⟩:=h.at' 1 (by omega)
   have hx:=h.u64 l[1] (List.getElem_mem _);have HD:=hid (show l[1]?.getD 0=l[1] by rw[List.getElem?_eq_getElem (by omega)];rfl);have H:=hid h;have HL:=hid hl;clear h;generalize l[1]=x at *;clear hl;by_cases h48:x < 281474976710656
   · obtain⟨n,hn⟩:∃ n,n=x % 65536:=⟨_,rfl⟩
     obtain⟨m,hm⟩:∃ m,m=x / 65536 % 65536:=⟨_,rfl⟩
     obtain⟨s,hs⟩:∃ s,s=x / 4294967296:=⟨_,rfl⟩
     have hn1:n < 65536:=by omega
     have hm1:m < 65536:=by omega
     have hs1:s < 65536:=by omega
     have HS:=hid (split_yes (w.alloc (.cells #[.int .i64 0,.int .i64 0,.int .i64 0] 72)) (w.heap.size+1) (World.size_alloc _ _) x h48);rw[← hn,← hm,← hs] at HS
     have HD:=hid (show dec l=if Geo.may n m s=true∧l=sb n m s then some (n,m,s) else none by
      unfold dec;simp only[HD.out,← hn,← hm,← hs];by_cases hc:Geo.may n m s=true∧l=sb n m s
      · rw[if_pos hc,if_pos ⟨HL.out,h48,hc⟩]
      · rw[if_neg hc,if_neg (fun h=>hc h.2.2)])
     clear hn hm hs h48;go_enter Tryz.func55,Tryz.ntmps55
     go_wp2_with fail
     refine HS.out.mono ?_;rintro e w1 ⟨b1,o1,gc,rfl,⟨hb1,hq0,hq1,hq2⟩,hbw⟩;have HX1:=hid (HX.out.keep hbw);have HB1:=hid (HB.out.trans (hbw.mono HB.out.size));have hz1:w.heap.size < w1.heap.size:=HX1.out.box.lt;have H1:=hid (H.out.keep HB1.out);have hwn:IntKind.wrap .i64 (n:Int)=(n:Int):=by rw[IntKind.wrap_i64];omega
     have hwm:IntKind.wrap .i64 (m:Int)=(m:Int):=by rw[IntKind.wrap_i64];omega
     have hws:IntKind.wrap .i64 (s:Int)=(s:Int):=by rw[IntKind.wrap_i64];omega
     clear hbw HS HX HB H hcell;go_wp2
     go_region
     have hba:=(Below.refl w1.heap.size w1).alloc (Nat.le_refl _) (.cells #[.int .i64 (n:Int),.int .i64 (m:Int),.int .i64 (s:Int)] 72);have HX2:=hid (HX1.out.keep hba).drew;have HG2:=hid (Geo.boxed w1 n m s 72).drew;have HB2:=hid (HB1.out.trans (hba.mono HB1.out.size)).drew;have H2:=hid (H1.out.keep hba.drew);clear hwn hwm hws hba HX1 HB1 H1 hb1 hq0 hq1 hq2;go_wp2_with fail
     generalize (w1.alloc (.cells #[.int .i64 (n:Int),.int .i64 (m:Int),.int .i64 (s:Int)] 72)).drew=w2 at *;generalize w1.heap.size=k1 at *
     cases hmay:Geo.may n m s with
     | false=>
       have HN:=hid (show dec l=none by rw[HD.out,if_neg (fun h=>by rw[hmay] at h;simp at h)]);refine (encode_no _ n m s hmay).mono ?_;rintro e w3 ⟨rfl,hb3⟩;have HX3:=hid (HX2.out.keep hb3);have HB3:=hid (HB2.out.trans (hb3.mono HB2.out.size));clear hb3 hmay HX2 HB2 H2 HD;have hc0:=HX3.out.box.c0;have hc1:=HX3.out.box.c1;have hc2:=HX3.out.box.c2;have hf0:=HX3.out.f 0;have hf1:=HX3.out.f 1;have hf2:=HX3.out.f 2;go_wp2
       rw[HN.out];refine bodyPost_ret (v:=.tuple #[gv none,.int .i64 (ev none)]) ?_ rfl ⟨rfl,?_⟩
       · simp[results,Tryz.results55,go_sem,gv,ev,hc0,hc1,hc2]
       · exact ((HB3.out.setCell (Nat.le_refl _) _).setCell (Nat.le_refl _) _).setCell (Nat.le_refl _) _
     | true=>
       refine (encode_yes _ n m s hmay).mono ?_;rintro e w3 ⟨g,hg,rfl,hrow,hb3⟩;have he:=equal_any (some ⟨b,o,none⟩) (some ⟨g,0,none⟩) c 8 l (sb n m s) (H2.out.keep hb3) (row_pack hrow rfl (sb_u64 hn1 hm1 hs1));rw[HL.out,sb_len] at he;have HE:=hid he;have HX3:=hid (HX2.out.keep hb3);have HG3:=hid (HG2.out.keep hb3);have HB3:=hid (HB2.out.trans (hb3.mono HB2.out.size));have HM:=hid hmay;clear hb3 hmay HX2 HB2 H2 he hrow HG2;go_wp2_with fail
       refine HE.out.mono ?_;rintro e w4 ⟨rfl,k,hk⟩;have HX4:=hid (show Own w4 w.heap.size 0 0 0 by rw[hk];exact⟨⟨HX3.out.box.lt,HX3.out.box.c0,HX3.out.box.c1,HX3.out.box.c2⟩,HX3.out.f⟩);have HG4:=hid (show Geo.Box w4 k1 n m s by rw[hk];exact⟨HG3.out.lt,HG3.out.c0,HG3.out.c1,HG3.out.c2⟩);have HB4:=hid (show Below w.heap.size w w4 by rw[hk];exact Pack.below_drewN HB3.out k);clear hk HX3 HG3 HB3 HE;have hc0:=HX4.out.box.c0;have hc1:=HX4.out.box.c1;have hc2:=HX4.out.box.c2;have hf0:=HX4.out.f 0;have hf1:=HX4.out.f 1;have hf2:=HX4.out.f 2;have hg0:=HG4.out.c0;have hg1:=HG4.out.c1;have hg2:=HG4.out.c2;by_cases hls:l=sb n m s
       · have HN:=hid (show dec l=some (n,m,s) by rw[HD.out,if_pos ⟨HM.out,hls⟩])
         rw[decide_eq_true hls];clear hls HD HM;go_wp2
         rw[HN.out];refine bodyPost_ret (v:=.tuple #[gv (some (n,m,s)),.int .i64 (ev (some (n,m,s)))]) ?_ rfl ⟨rfl,?_⟩
         · simp[results,Tryz.results55,go_sem,gv,ev,hc0,hc1,hc2]
         · exact ((HB4.out.setCell (Nat.le_refl _) _).setCell (Nat.le_refl _) _).setCell (Nat.le_refl _) _
       · have HN:=hid (show dec l=none by rw[HD.out,if_neg (fun h=>hls h.2)])
         rw[decide_eq_false hls];clear hls HD HM;go_wp2
         rw[HN.out];refine bodyPost_ret (v:=.tuple #[gv none,.int .i64 (ev none)]) ?_ rfl ⟨rfl,?_⟩
         · simp[results,Tryz.results55,go_sem,gv,ev,hc0,hc1,hc2]
         · exact ((HB4.out.setCell (Nat.le_refl _) _).setCell (Nat.le_refl _) _).setCell (Nat.le_refl _) _
   · have HN:=hid (show dec l=none by
      unfold dec;simp only[HD.out];exact if_neg (fun h=>h48 h.2.1))
     have HS:=hid (split_no (w.alloc (.cells #[.int .i64 0,.int .i64 0,.int .i64 0] 72)) (w.heap.size+1) (World.size_alloc _ _) x hx h48);go_enter Tryz.func55,Tryz.ntmps55
     go_wp2_with fail
     refine HS.out.mono ?_;rintro e w1 ⟨G,gc,rfl,hb1⟩;have HX1:=hid (HX.out.keep hb1);have HB1:=hid (HB.out.trans (hb1.mono HB.out.size));clear hb1;have hc0:=HX1.out.box.c0;have hc1:=HX1.out.box.c1;have hc2:=HX1.out.box.c2;have hf0:=HX1.out.f 0;have hf1:=HX1.out.f 1;have hf2:=HX1.out.f 2;go_wp2
     rw[HN.out];refine bodyPost_ret (v:=.tuple #[gv none,.int .i64 (ev none)]) ?_ rfl ⟨rfl,?_⟩
     · simp[results,Tryz.results55,go_sem,gv,ev,hc0,hc1,hc2]
     · exact ((HB1.out.setCell (Nat.le_refl _) _).setCell (Nat.le_refl _) _).setCell (Nat.le_refl _) _
 · have HN:=hid (show dec l=none by
    unfold dec;exact if_neg (fun h=>hl h.1))
   have hl':¬ (l.length:Int)=8:=by omega
   go_enter Tryz.func55,Tryz.ntmps55
   go_wp2
   rw[HN.out];refine bodyPost_ret (v:=.tuple #[gv none,.int .i64 (ev none)]) ?_ rfl ⟨rfl,?_⟩
   · simp[results,Tryz.results55,go_sem,gv,ev]
   · exact HB.out
end
end Sup
end
section
open Lib (hid)
open Go.RowKit Go.MapKept
namespace Sup
theorem wpList_append_run {P:Program} {w w':World} {ops:Array Oper} {rest:List Oper} {o:Oper} {a:Act} {Q:Exit→Act→World→Prop} (hgd:o.guard=none) (s x:Operand) (t:TypeId)
 (ho:o.op = .call { callee:=.builtin .append,args:=#[s,x],argTypes:=#[t,t] }) (v u v':Value) (hs:a.eval s=v) (hx:a.eval x=u) (hr:(Builtin.append_ #[t,t] o.type #[v,u]).run P w = .ok v' w')
 (h:wpList P ops Q rest (a.put o.dst v') w'):wpList P ops Q (o :: rest) a w:=by
 refine wpList_plain hgd fun K hK=>?_
 unfold Oper.wp execOp;simp only[ho,resolve,invoke,builtin,Sem.run_bind,Sem.run_pure,Result.andThen_ok,List.map_toArray,List.map_cons,List.map_nil,hs,hx,hr];exact hK _ _ h
theorem grow8 (W:World) (g n m s:Nat) (h:Crc.Wds W (some ⟨g,0,none⟩) (front n m s)) (hn:n < 65536) (hm:m < 65536) (hs:s < 65536) :
 ∃ (G:Option Addr) (gc:Nat) (w':World),(Builtin.append_ #[22,22] 22 #[.slice (some ⟨g,0,none⟩) 7 7,.slice (some ⟨W.heap.size,0,none⟩) 1 1]).run Tryz.prog (W.alloc (.cells #[.int .u64 (sum n m s:Nat)] 50)) = .ok (.slice G 8 gc) w'∧Pack.Wds w' G (sb n m s)∧Below W.heap.size W w':=by
 obtain⟨i1,hi1,hy⟩:=Option.map_eq_some_iff.1 Pack.u64_info
 injection hy with hy0 hy
 injection hy with hy1 hy2
 have hb:=(Below.refl W.heap.size W).alloc (Nat.le_refl _) (.cells #[.int .u64 (sum n m s:Nat)] 50);have h7:Crc.Wds (W.alloc (.cells #[.int .u64 (sum n m s:Nat)] 50)) (some ⟨g,0,none⟩) (front n m s):=h.keep hb
 obtain⟨v',w',hr,hown,hgr⟩:=run_append_arg_grows (P:=Tryz.prog) (W.alloc (.cells #[.int .u64 (sum n m s:Nat)] 50)) 22 22 50 i1 (.int .u64 0) 1 8 Tryz.underlying22 hi1 hy0 hy1 hy2 rfl (by decide)
  ⟨g,0,none⟩ 7 7 (Pack.u64s (front n m s)) rfl (fun j u hj=>by
    unfold Pack.u64s at hj;rw[List.getElem?_map] at hj
    rcases Nat.lt_or_ge j 7 with h1 | h1
    · obtain⟨b,o,e,_,hc⟩:=h7.at' j h1
      injection e with e
      injection e with e1 e2
      subst e1 e2;rw[List.getElem?_eq_getElem h1] at hj;rw[Go.WideShapes.add_plain,hc,← hj];rfl
    · rw[List.getElem?_eq_none h1] at hj
      cases hj)
  ⟨W.heap.size,0,none⟩ 1 1 [.int .u64 (sum n m s:Nat)] rfl (cell_one_new _ _ _) (by decide) (by decide) (by decide)
 obtain⟨G,gc,rfl⟩:=Pack.row_slice hown
 refine⟨G,gc,w',hr,?_,hb.grown hgr hb.size (fun k hk=>by cases hk)⟩
 exact Pack.own_wds (l:=sb n m s) hown (sb_u64 hn hm hs) (by decide)
theorem front_new (w:World) (n m s:Nat) (hn:n < 65536) (hm:m < 65536) (hs:s < 65536):Crc.Wds (w.alloc (.cells #[.int .u64 (magic:Int),.int .u64 ((n:Int)+65536 * (m:Int)+4294967296 * (s:Int)),.int .u64 0,.int .u64 0,.int .u64 0,.int .u64 0,.int .u64 0] 50)) (some ⟨w.heap.size,0,none⟩) (front n m s):=
 ⟨fun x hx=>by
   have h1:=nums_lt hn hm hs;have h3:=magic_lt;simp only[front,List.mem_cons,List.not_mem_nil,or_false] at hx
   rcases hx with rfl | rfl | rfl | rfl | rfl | rfl | rfl<;>omega,by rw[front_len];omega,fun j hj=>⟨w.heap.size,0,rfl,by simp,by
   rw[World.cell?_alloc_mark,Nat.zero_add]
   have:j < 7:=hj
   have e:(n:Int)+65536 * (m:Int)+4294967296 * (s:Int)=((nums n m s:Nat):Int):=by unfold nums;omega
   match j,this with
   | 0,_=>rfl
   | 1,_=>rw[e];rfl
   | 2,_=>rfl
   | 3,_=>rfl
   | 4,_=>rfl
   | 5,_=>rfl
   | 6,_=>rfl⟩⟩
def mg (k:Nat):Nat:=Crc.le (txt.drop k)
theorem mg8:mg 8=0:=rfl
theorem mg7:mg 7=49:=by decide
theorem mg6:mg 6=12592:=by decide
theorem mg5:mg 5=3223621:=by decide
theorem mg4:mg 4=825247052:=by decide
theorem mg3:mg 3=211263245396:=by decide
theorem mg2:mg 2=54083390821454:=by decide
theorem mg1:mg 1=13845348050292289:=by decide
theorem mg0:mg 0=magic:=by decide
theorem refEncode_yes (w:World) (n m s:Nat) (hm:Geo.may n m s=true) :
 Calls Tryz.prog 149 #[.int .i64 (n:Int),.int .i64 (m:Int),.int .i64 (s:Int)] w fun r w'=>∃ (G:Option Addr) (gc:Nat),r = .returned (.tuple #[.slice G 8 gc,.bool true])∧Pack.Wds w' G (sb n m s)∧Below w.heap.size w w':=by
 obtain⟨h1,h2,h3⟩:=may_lt hm
 have hof:=Geo.of_any w n m s;rw[hm,Geo.parts_yes hm] at hof;have HO:=hid hof;clear hof hm;go_enter Tryz.func149,Tryz.ntmps149
 go_wp2_with fail
 refine HO.out.mono ?_;rintro e w1 ⟨rfl,hb⟩;have HB:=hid (hb.alloc hb.size (.cells #[.int .i64 16,.int .i64 (16+(m:Int) * 8),.int .i64 (Geo.bmAt n m),.int .i64 (Geo.bkAt n m),.int .i64 (Geo.fin n m s)] 100));clear hb HO;go_wp2
 generalize w1.alloc (.cells #[.int .i64 16,.int .i64 (16+(m:Int) * 8),.int .i64 (Geo.bmAt n m),.int .i64 (Geo.bkAt n m),.int .i64 (Geo.fin n m s)] 100)=w2 at *
 go_loop [10,11] (fun v i=>∃ k:Nat,k≤8∧i = .int .i64 ((k:Int) - 1)∧v = .int .u64 ((mg k:Nat):Int)) (fun _ i=>(intOf i+1).toNat)
 case atStart=>exact⟨8,by omega,rfl,rfl⟩
 case round=>
  obtain⟨k,hk,rfl,rfl⟩:=hrel
  have:k=0∨k=1∨k=2∨k=3∨k=4∨k=5∨k=6∨k=7∨k=8:=by omega
  clear hk
  rcases this with rfl | rfl | rfl | rfl | rfl | rfl | rfl | rfl | rfl
  · rw[mg0]
    have hf:=front_new w2 n m s h1 h2 h3;have hb3:=HB.out.alloc HB.out.size (.cells #[.int .u64 (magic:Int),.int .u64 ((n:Int)+65536 * (m:Int)+4294967296 * (s:Int)),.int .u64 0,.int .u64 0,.int .u64 0,.int .u64 0,.int .u64 0] 50);have HF:=hid hf;have HB3:=hid hb3;clear hf hb3;go_wp2_with fail
    generalize w2.alloc (.cells #[.int .u64 (magic:Int),.int .u64 ((n:Int)+65536 * (m:Int)+4294967296 * (s:Int)),.int .u64 0,.int .u64 0,.int .u64 0,.int .u64 0,.int .u64 0] 50)=w3 at *;generalize w2.heap.size=g at *;refine (Crc.bytes_any _ 7 _ HF.out (by rw[front_len];omega)).mono ?_;rintro e w4 ⟨rfl,hb⟩;have HF4:=hid (HF.out.keep hb);have HB4:=hid (HB3.out.trans (hb.mono HB3.out.size));clear hb HF HB3 HB;have hsum:=Crc.ref32_any w4 (Crc.str (Crc.wflat (front n m s))) (by rw[Crc.str_size,Crc.wflat_len,front_len];omega);rw[Crc.tx_str (Crc.wflat_byt _),show Crc.S32 (Crc.wflat (front n m s))=sum n m s from rfl] at hsum;have HS:=hid hsum;clear hsum;have hlt:=sum_lt n m s;go_wp2_with fail
    refine HS.out.mono ?_;rintro e w' ⟨rfl,rfl⟩
    obtain⟨G,gc,w5,hap,hw,hb5⟩:=grow8 w4 g n m s HF4.out h1 h2 h3
    have HAP:=hid hap;have HW:=hid hw;have HB5:=hid (HB4.out.trans (hb5.mono HB4.out.size));clear hap hw hb5 HF4 HB4;go_wp2_with (at_builtin;refine wpList_append_run rfl (.tmp 44) (.tmp 49) 22 rfl _ _ _ rfl rfl HAP.out ?_)
    go_ret2
    exact⟨G,gc,rfl,HW.out,HB5.out⟩
  · rw[mg1]
    go_wp2
    go_round
    case rel=>exact⟨0,by omega,rfl,by rw[mg0];rfl⟩
    case measure=>simp[intOf]
  · rw[mg2]
    go_wp2
    go_round
    case rel=>exact⟨1,by omega,rfl,by rw[mg1];rfl⟩
    case measure=>simp[intOf]
  · rw[mg3]
    go_wp2
    go_round
    case rel=>exact⟨2,by omega,rfl,by rw[mg2];rfl⟩
    case measure=>simp[intOf]
  · rw[mg4]
    go_wp2
    go_round
    case rel=>exact⟨3,by omega,rfl,by rw[mg3];rfl⟩
    case measure=>simp[intOf]
  · rw[mg5]
    go_wp2
    go_round
    case rel=>exact⟨4,by omega,rfl,by rw[mg4];rfl⟩
    case measure=>simp[intOf]
  · rw[mg6]
    go_wp2
    go_round
    case rel=>exact⟨5,by omega,rfl,by rw[mg5];rfl⟩
    case measure=>simp[intOf]
  · rw[mg7]
    go_wp2
    go_round
    case rel=>exact⟨6,by omega,rfl,by rw[mg6];rfl⟩
    case measure=>simp[intOf]
  · rw[mg8]
    go_wp2
    go_round
    case rel=>exact⟨7,by omega,rfl,by rw[mg7];rfl⟩
    case measure=>simp[intOf]
end Sup
end
section
open Go.RowKit Go.MapKept
namespace Pm
structure Ent where
 key:Nat
 vals:List Int
 mark:Nat
 blk:Nat
 off:Nat
 cap:Nat
 born:Nat
def u64s (l:List Int):List Value:=l.map (Value.int .u64)
def i64s (l:List Nat):List Value:=l.map (fun k:Nat=>Value.int .i64 (k:Int))
def Ent.val (e:Ent):Value:=.agg #[.slice (some ⟨e.blk,e.off,none⟩) e.vals.length e.cap,.int .i64 (e.mark:Int)]
def Ent.entry (e:Ent):MapEntry:=⟨.int .i64 (e.key:Int),e.val,e.born⟩
structure Dev where
 steps:Nat
 stores:Nat
 armed:Bool
 left:Nat
 words:List Int
 ents:List Ent
 marked:List Nat
 wb:Nat
 mb:Nat
 clock:Nat
 mka:Option Addr
 mkc:Nat
 wcap:Nat
 spare:List Value:=[]
def Dev.mkv (D:Dev):Value:=.slice D.mka D.marked.length D.mkc
def Dev.cells (D:Dev):Array Value:=
 #[.int .i64 (D.steps:Int),.int .i64 (D.stores:Int),.bool D.armed,.int .i64 (D.left:Int),.slice (some ⟨D.wb,0,none⟩) D.words.length D.wcap,.map (some D.mb),.slice D.mka D.marked.length D.mkc]
def Ent.lies (w:World) (e:Ent):Prop:=
 ∃ cs:Array Value,w.heap[e.blk]? = some (.cells cs 50 (0,0))∧e.off+e.cap=cs.size∧e.vals.length≤e.cap∧(cs.toList.drop e.off).take e.vals.length=u64s e.vals
def Stamp (l:List Ent) (c:Nat):Prop:=(∀ e∈l,e.born < c)∧(l.map Ent.born).Nodup
structure Rep (w:World) (a:Nat) (D:Dev):Prop where
 dev:w.heap[a]? = some (.cells D.cells 42 (0,0))
 wds:w.heap[D.wb]? = some (.cells (u64s D.words++D.spare).toArray 50 (0,0))
 map:w.heap[D.mb]? = some (.map (D.ents.map Ent.entry).toArray D.clock)
 ent:∀ e∈D.ents,e.lies w
 mrk:w.ownsRow 0 3 1 D.mkv D.marked.length (i64s D.marked)
 nodup:(D.wb :: D.ents.map Ent.blk).Nodup
 keys:(D.ents.map Ent.key).Nodup
 stamp:Stamp D.ents D.clock
def Foot (a:Nat) (D:Dev) (k:Nat):Prop:=k=a∨k=D.wb∨k=D.mb∨k∈D.ents.map Ent.blk∨D.mkv.ownBlock=some k
structure Off (S:Nat→Prop) (w w':World):Prop where
 os:w'.os=w.os
 tape:w'.tape=w.tape
 output:w'.output=w.output
 size:w.heap.size≤w'.heap.size
 block:∀ k,k < w.heap.size→¬ S k→w'.heap[k]? = w.heap[k]?
section
variable {S S' : Nat → Prop} {w w' w'' : World}
theorem Off.refl (S:Nat→Prop) (w:World):Off S w w:=⟨rfl,rfl,rfl,Nat.le_refl _,fun _ _ _=>rfl⟩
theorem Off.trans (h:Off S w w') (k:Off S' w' w'') (hs:∀ b,b < w.heap.size→S' b→S b):Off S w w'':=
 ⟨k.os.trans h.os,k.tape.trans h.tape,k.output.trans h.output,Nat.le_trans h.size k.size,
   fun b hb hn=>(k.block b (Nat.lt_of_lt_of_le hb h.size) (fun hx=>hn (hs b hb hx))).trans (h.block b hb hn)⟩
theorem Off.drew (h:Off S w w'):Off S w w'.drew:=⟨h.os,h.tape,h.output,h.size,h.block⟩
theorem Off.alloc (h:Off S w w') (o:Obj):Off S w (w'.alloc o):=
 ⟨h.os,h.tape,h.output,Nat.le_trans h.size (by simp),fun b hb hn=>(Below.heap_alloc w' o b (Nat.lt_of_lt_of_le hb h.size)).trans (h.block b hb hn)⟩
theorem Off.setCell (h:Off S w w') {p:Addr} (hp:p.block < w.heap.size→S p.block) (u:Value):Off S w (w'.setCell p u):=
 ⟨h.os,h.tape,h.output,Nat.le_trans h.size (by simp[World.setCell]),fun b hb hn=>(Below.heap_setCell w' p u b (fun e=>hn (by subst e;exact hp hb))).trans (h.block b hb hn)⟩
theorem Off.grown (h:Off S w w') {row:Option Nat} (hg:w'.grownBy w'' row) (hr:∀ k,row=some k→k < w.heap.size→S k):Off S w w'':=
 ⟨hg.os.trans h.os,hg.tape.trans h.tape,hg.output.trans h.output,Nat.le_trans h.size hg.size,
   fun b hb hn=>(hg.block b (Nat.lt_of_lt_of_le hb h.size) (fun e=>hn (hr b e.symm hb))).trans (h.block b hb hn)⟩
theorem Off.mono (h:Off S w w') (hs:∀ b,b < w.heap.size→S b→S' b):Off S' w w':=
 ⟨h.os,h.tape,h.output,h.size,fun b hb hn=>h.block b hb (fun hx=>hn (hs b hb hx))⟩
theorem Off.below {B:Nat} (h:Off S w w') (hB:B≤w.heap.size) (hs:∀ b,S b→B≤b):Below B w w':=
 ⟨h.os,h.tape,h.output,h.size,fun b hb=>h.block b (by omega) (fun hx=>by have:=hs b hx;omega)⟩
end
structure Res (w:World) (a:Nat) (D:Dev) (w':World) (D':Dev):Prop where
 rep:Rep w' a D'
 off:Off (Foot a D) w w'
 foot:∀ k,Foot a D' k→Foot a D k∨w.heap.size≤k
theorem Res.trans {w w1 w2:World} {a:Nat} {D D1 D2:Dev} (h:Res w a D w1 D1) (k:Res w1 a D1 w2 D2):Res w a D w2 D2:=
 ⟨k.rep,h.off.trans k.off (fun b hb hf=>(h.foot b hf).resolve_right (by omega)),fun b hb=>by
   rcases k.foot b hb with h1 | h1
   · exact h.foot b h1
   · exact .inr (Nat.le_trans h.off.size h1)⟩
section
variable {w : World} {b c : Nat}
theorem under_map:Tryz.prog.underlying 39=some (.map 3 262):=Tryz.underlying39
theorem find_none (k:Nat):∀ (l:List Ent) (i:Nat),k∉l.map Ent.key→Instr.findNow (.int .i64) (.int .i64 (k:Int)) (l.map Ent.entry) i=some none
 | [],_,_=>rfl
 | e :: r,i,h=>by
   simp only[List.map_cons,List.mem_cons,not_or] at h;have hne:((k:Int) == (e.key:Int))=false:=by simp;omega
   simp only[List.map_cons,Instr.findNow,Ent.entry,Instr.sameNow,if_true,hne];exact find_none k r (i+1) h.2
theorem find_some (e:Ent) (post:List Ent):∀ (pre:List Ent) (i:Nat),e.key∉pre.map Ent.key →
 Instr.findNow (.int .i64) (.int .i64 (e.key:Int)) ((pre++e :: post).map Ent.entry) i=some (some (i+pre.length,e.val))
 | [],i,_=>by simp[Instr.findNow,Ent.entry,Instr.sameNow]
 | f :: r,i,h=>by
   simp only[List.map_cons,List.mem_cons,not_or] at h;have hne:((e.key:Int) == (f.key:Int))=false:=by simp;omega
   have ih:=find_some e post r (i+1) h.2;simp only[List.map_append,List.map_cons] at ih;simp only[List.cons_append,List.map_append,List.map_cons,Instr.findNow,Ent.entry,Instr.sameNow,if_true,hne];simp only[Ent.entry] at ih;rw[ih]
   simp;omega
theorem isKey (k:Int):IsKey (.int .i64) (.int .i64 k):=by simp[IsKey]
theorem run_look_none {l:List Ent} {k:Nat} (hb:w.heap[b]? = some (.map (l.map Ent.entry).toArray c)) (hk:k∉l.map Ent.key) (ok:Bool) :
 (Instr.lookup 39 (.map (some b)) (.int .i64 (k:Int)) ok).run Tryz.prog w = .ok (if ok then .tuple #[.agg #[.slice none 0 0,.int .i64 0],.bool false] else .agg #[.slice none 0 0,.int .i64 0]) w:=by
 have hf:=find_none k l 0 hk;simp[Instr.lookup,run_underlying under_map,MapKept.run_getObj_map hb,run_checkKey Tryz.underlying3 (isKey _),run_findKey Tryz.underlying3 hf,Result.andThen]
theorem run_look_some {pre post:List Ent} {e:Ent} (hb:w.heap[b]? = some (.map ((pre++e :: post).map Ent.entry).toArray c)) (hk:e.key∉pre.map Ent.key) (ok:Bool) :
 (Instr.lookup 39 (.map (some b)) (.int .i64 (e.key:Int)) ok).run Tryz.prog w = .ok (if ok then .tuple #[e.val,.bool true] else e.val) w:=by
 have hf:=find_some e post pre 0 hk;simp only[Instr.lookup,Sem.run_bind,run_underlying under_map,Result.andThen,MapKept.run_getObj_map hb,Sem.run_pure,run_checkKey Tryz.underlying3 (isKey _),run_findKey Tryz.underlying3 hf]
def putMap (w:World) (b:Nat) (l:List Ent) (c:Nat):World:={ w with heap:=w.heap.setIfInBounds b (.map (l.map Ent.entry).toArray c) }
theorem putMap_at {l:List Ent} (hb:b < w.heap.size):(putMap w b l c).heap[b]? = some (.map (l.map Ent.entry).toArray c):=by simp[putMap,hb]
theorem putMap_ne {l:List Ent} {k:Nat} (hk:k≠b):(putMap w b l c).heap[k]? = w.heap[k]?:=by simp[putMap,Ne.symm hk]
theorem putMap_size {l:List Ent}:(putMap w b l c).heap.size=w.heap.size:=by simp[putMap]
theorem Off.putMap {S:Nat→Prop} {w0:World} {l:List Ent} (h:Off S w0 w) (hp:b < w0.heap.size→S b):Off S w0 (putMap w b l c):=
 ⟨h.os,h.tape,h.output,Nat.le_trans h.size (by rw[putMap_size];exact Nat.le_refl _),fun k hk hn=>(putMap_ne (fun e=>hn (by subst e;exact hp hk))).trans (h.block k hk hn)⟩
theorem run_put_none {l:List Ent} {e:Ent} (hb:w.heap[b]? = some (.map (l.map Ent.entry).toArray c)) (hk:e.key∉l.map Ent.key) (hc:e.born=c) :
 (Instr.mapUpdate 39 (.map (some b)) (.int .i64 (e.key:Int)) e.val).run Tryz.prog w = .ok () (putMap w b (l++[e]) (c+1)):=by
 have hf:=find_none e.key l 0 hk;simp only[Instr.mapUpdate,Sem.run_bind,run_underlying under_map,Result.andThen,MapKept.run_getObj_map hb,run_checkKey Tryz.underlying3 (isKey _),run_findKey Tryz.underlying3 hf,run_setObj_map _ hb];subst hc;simp[putMap,Ent.entry]
theorem run_stays (k:Int) (w:World):(Instr.keyThatStays (.int .i64 k) (.int .i64 k)).run Tryz.prog w = .ok (.int .i64 k) w:=by
 simp[Instr.keyThatStays,Instr.sameBits]
theorem modify_pre {α:Type} (f:α→α) (post:List α) (e:α):∀ pre:List α,(pre++e :: post).modify pre.length f=pre++f e :: post
 | []=>rfl
 | x :: r=>by simp[modify_pre f post e r]
theorem erase_pre {α:Type} (post:List α) (e:α):∀ pre:List α,(pre++e :: post).eraseIdx pre.length=pre++post
 | []=>rfl
 | x :: r=>by simp[erase_pre post e r]
theorem run_put_some {pre post:List Ent} {e e':Ent} (hb:w.heap[b]? = some (.map ((pre++e :: post).map Ent.entry).toArray c)) (hk:e.key∉pre.map Ent.key) (he:e'.key=e.key) (hn:e'.born=e.born) :
 (Instr.mapUpdate 39 (.map (some b)) (.int .i64 (e.key:Int)) e'.val).run Tryz.prog w = .ok () (putMap w b (pre++e' :: post) c):=by
 have hf:=find_some e post pre 0 hk;have hat:((pre++e :: post).map Ent.entry)[pre.length]? = some e.entry:=by simp
 simp only[Instr.mapUpdate,Sem.run_bind,run_underlying under_map,Result.andThen,MapKept.run_getObj_map hb,run_checkKey Tryz.underlying3 (isKey _),run_findKey Tryz.underlying3 hf,Nat.zero_add,List.getElem?_toArray,hat,Option.map_some,Option.getD_some,Ent.entry,run_stays]
 have hm:(((pre++e :: post).map Ent.entry).toArray.modify pre.length fun x=>{ x with key:=.int .i64 (e.key:Int),val:=e'.val })=((pre++e' :: post).map Ent.entry).toArray:=by
  apply Array.toList_inj.1;simp only[Array.toList_modify,List.map_append,List.map_cons]
  have:=modify_pre (fun x:MapEntry=>{ x with key:=Value.int .i64 (e.key:Int),val:=e'.val }) (post.map Ent.entry) e.entry (pre.map Ent.entry)
  rw[List.length_map] at this;rw[this];simp[Ent.entry,he,hn]
 rw[hm,run_setObj_map _ hb];rfl
theorem run_del_some {pre post:List Ent} {e:Ent} (ty:TypeId) (hb:w.heap[b]? = some (.map ((pre++e :: post).map Ent.entry).toArray c)) (hk:e.key∉pre.map Ent.key) :
 (Builtin.delete_ #[39,3] ty #[.map (some b),.int .i64 (e.key:Int)]).run Tryz.prog w = .ok (.tuple #[]) (putMap w b (pre++post) c):=by
 have hf:=find_some e post pre 0 hk
 have hm:((pre++e :: post).map Ent.entry).toArray.eraseIdxIfInBounds pre.length=((pre++post).map Ent.entry).toArray:=by
  apply Array.toList_inj.1;unfold Array.eraseIdxIfInBounds
  split
  · simp only[Array.toList_eraseIdx,List.map_append,List.map_cons]
    have:=erase_pre (post.map Ent.entry) e.entry (pre.map Ent.entry)
    rw[List.length_map] at this;exact this
  · rename_i h;simp at h
 unfold putMap;rw[← hm];clear hm;generalize (pre++e :: post).map Ent.entry=l at *;simp[Builtin.delete_,run_underlying under_map,MapKept.run_getObj_map hb,run_checkKey Tryz.underlying3 (isKey _),run_findKey Tryz.underlying3 hf,Result.andThen,run_setObj_map _ hb]
end
end Pm
end
section
open Lib (hid)
open Go.RowKit Go.MapKept
namespace Pm
section
variable {w w' : World} {a : Nat} {D D' : Dev}
theorem lt_of_some {o:Obj} {k:Nat} (h:w.heap[k]? = some o):k < w.heap.size:=(Array.getElem?_eq_some_iff.1 h).1
theorem blk_cell {g:Nat} {t:TypeId} {cs:Array Value} (h:w.heap[g]? = some (.cells cs t (0,0))) (i:Nat):w.cell? ⟨g,i,none⟩=cs[i]?:=cell_of_row w g i cs t (0,0) h
theorem blk_frozen {g:Nat} {t:TypeId} {cs:Array Value} (h:w.heap[g]? = some (.cells cs t (0,0))) (i:Nat):w.frozen? ⟨g,i,none⟩=false:=by simp[World.frozen?,h]
theorem blk_set {g:Nat} {t:TypeId} {cs:Array Value} (h:w.heap[g]? = some (.cells cs t (0,0))) (i:Nat) (u:Value) :
 (w.setCell ⟨g,i,none⟩ u).heap[g]? = some (.cells (cs.setIfInBounds i u) t (0,0)):=by simp[World.setCell,Array.getElem?_modify,h]
theorem blk_far {g:Nat} {o:Obj} (h:w.heap[g]? = some o) {p:Addr} (hp:g≠p.block) (u:Value):(w.setCell p u).heap[g]? = some o:=(Below.heap_setCell w p u g hp).trans h
theorem blk_alloc {g:Nat} {o:Obj} (h:w.heap[g]? = some o) (o':Obj):(w.alloc o').heap[g]? = some o:=(Below.heap_alloc w o' g (lt_of_some h)).trans h
theorem blk_ne {g g':Nat} {t t':TypeId} {cs cs':Array Value} (h:w.heap[g]? = some (.cells cs t (0,0))) (h':w.heap[g']? = some (.cells cs' t' (0,0))) (hne:t≠t'):g≠g':=by
 rintro rfl;rw[h] at h';injection h' with h'
 injection h' with _ ht
 exact hne ht
theorem blk_map {g g':Nat} {t:TypeId} {cs:Array Value} {es:Array MapEntry} {c:Nat} (h:w.heap[g]? = some (.cells cs t (0,0))) (h':w.heap[g']? = some (.map es c)):g≠g':=by
 rintro rfl;rw[h] at h';injection h' with h'
 cases h'
theorem Rep.cell (h:Rep w a D) (i:Nat):w.cell? ⟨a,i,none⟩=D.cells[i]?:=blk_cell h.dev i
theorem Rep.frozen (h:Rep w a D) (i:Nat):w.frozen? ⟨a,i,none⟩=false:=blk_frozen h.dev i
theorem Rep.c1 (h:Rep w a D):w.cell? ⟨a,1,none⟩=some (.int .i64 (D.stores:Int)):=h.cell 1
theorem Rep.c4 (h:Rep w a D):w.cell? ⟨a,4,none⟩=some (.slice (some ⟨D.wb,0,none⟩) D.words.length D.wcap):=h.cell 4
theorem Rep.c5 (h:Rep w a D):w.cell? ⟨a,5,none⟩=some (.map (some D.mb)):=h.cell 5
theorem Rep.c6 (h:Rep w a D):w.cell? ⟨a,6,none⟩=some (.slice D.mka D.marked.length D.mkc):=h.cell 6
theorem Rep.lt (h:Rep w a D):a < w.heap.size:=lt_of_some h.dev
theorem Rep.ne_wb (h:Rep w a D):a≠D.wb:=blk_ne h.dev h.wds (by decide)
theorem Rep.ne_mb (h:Rep w a D):a≠D.mb:=blk_map h.dev h.map
theorem Rep.wb_mb (h:Rep w a D):D.wb≠D.mb:=blk_map h.wds h.map
theorem Rep.ne_ent (h:Rep w a D) {e:Ent} (he:e∈D.ents):a≠e.blk:=by
 obtain⟨cs,hcs,_⟩:=h.ent e he
 exact blk_ne h.dev hcs (by decide)
theorem Rep.ne_mkv (h:Rep w a D):D.mkv.ownBlock≠some a:=by
 rcases h.mrk.2 with ⟨e,_⟩ | ⟨g,cap,cur,e,_,hg,_⟩
 · rw[e];simp[Value.ownBlock]
 · rw[e]
   simp only[Value.ownBlock,ne_eq,Option.some.injEq];exact blk_ne hg h.dev (by decide)
theorem Rep.mb_mkv (h:Rep w a D):D.mkv.ownBlock≠some D.mb:=by
 rcases h.mrk.2 with ⟨e,_⟩ | ⟨g,cap,cur,e,_,hg,_⟩
 · rw[e];simp[Value.ownBlock]
 · rw[e]
   simp only[Value.ownBlock,ne_eq,Option.some.injEq];exact blk_map hg h.map
theorem Rep.u64_mkv (h:Rep w a D) {k:Nat} {cs:Array Value} (hk:w.heap[k]? = some (.cells cs 50 (0,0))):D.mkv.ownBlock≠some k:=by
 rcases h.mrk.2 with ⟨e,_⟩ | ⟨g,cap,cur,e,_,hg,_⟩
 · rw[e];simp[Value.ownBlock]
 · rw[e]
   simp only[Value.ownBlock,ne_eq,Option.some.injEq];exact blk_ne hg hk (by decide)
theorem Rep.foot_lt (h:Rep w a D) {k:Nat} (hk:Foot a D k):k < w.heap.size:=by
 rcases hk with rfl | rfl | rfl | hk | hk
 · exact lt_of_some h.dev
 · exact lt_of_some h.wds
 · exact lt_of_some h.map
 · obtain⟨e,he,rfl⟩:=List.mem_map.1 hk
   obtain⟨cs,hcs,_⟩:=h.ent e he
   exact lt_of_some hcs
 · rcases h.mrk.2 with ⟨e,_⟩ | ⟨g,cap,cur,e,_,hg,_⟩
   · rw[e] at hk;simp[Value.ownBlock] at hk
   · rw[e] at hk
     simp only[Value.ownBlock,Option.some.injEq] at hk;subst hk;exact lt_of_some hg
theorem lies_keep {e:Ent} (h:e.lies w) (hk:w'.heap[e.blk]? = w.heap[e.blk]?):e.lies w':=by
 obtain⟨cs,hcs,r⟩:=h
 exact⟨cs,hk.trans hcs,r⟩
theorem row_keep {base:Nat} {e:TypeId} {size n:Nat} {v:Value} {xs:List Value} (h:w.ownsRow base e size v n xs) (hk:∀ g,v.ownBlock=some g→w'.heap[g]? = w.heap[g]?):w'.ownsRow base e size v n xs:=by
 refine⟨h.1,?_⟩
 rcases h.2 with h2 | ⟨g,cap,cur,e,hb,hg,r⟩
 · exact .inl h2
 · exact .inr ⟨g,cap,cur,e,hb,(hk g (by rw[e];rfl)).trans hg,r⟩
theorem Rep.keep (h:Rep w a D) (hk:∀ k,Foot a D k→w'.heap[k]? = w.heap[k]?):Rep w' a D:={
 dev:=(hk _ (.inl rfl)).trans h.dev
 wds:=(hk _ (.inr (.inl rfl))).trans h.wds
 map:=(hk _ (.inr (.inr (.inl rfl)))).trans h.map
 ent:=fun e he=>lies_keep (h.ent e he) (hk _ (.inr (.inr (.inr (.inl (List.mem_map_of_mem he))))))
 mrk:=row_keep h.mrk (fun _ hg=>hk _ (.inr (.inr (.inr (.inr hg)))))
 nodup:=h.nodup
 keys:=h.keys
 stamp:=h.stamp }
theorem Rep.turn (h:Rep w a D) (hd:w'.heap[a]? = some (.cells D'.cells 42 (0,0))) (hk:∀ k,k < w.heap.size→k≠a→w'.heap[k]? = w.heap[k]?)
 (e1:D'.words=D.words) (e2:D'.ents=D.ents) (e3:D'.marked=D.marked) (e4:D'.wb=D.wb) (e5:D'.mb=D.mb) (e6:D'.clock=D.clock) (e7:D'.mkv=D.mkv) (e8:D'.spare=D.spare):Rep w' a D':={
 dev:=hd
 wds:=by rw[e4,e1,e8,hk _ (lt_of_some h.wds) h.ne_wb.symm];exact h.wds
 map:=by rw[e5,e2,e6,hk _ (lt_of_some h.map) h.ne_mb.symm];exact h.map
 ent:=fun e he=>by
  rw[e2] at he;exact lies_keep (h.ent e he) (hk _ (h.foot_lt (.inr (.inr (.inr (.inl (List.mem_map_of_mem he)))))) (h.ne_ent he).symm)
 mrk:=by
  rw[e7,e3];exact row_keep h.mrk (fun _ hg=>hk _ (h.foot_lt (.inr (.inr (.inr (.inr hg))))) (fun e=>h.ne_mkv (by rw[hg,e])))
 nodup:=by rw[e4,e2];exact h.nodup
 keys:=by rw[e2];exact h.keys
 stamp:=by rw[e2,e6];exact h.stamp }
end
def Dev.down (D:Dev):Bool:=D.armed && D.left == 0
def Dev.stepped (D:Dev):Dev:={ D with steps:=D.steps+1,left:=if D.armed then D.left - 1 else D.left }
theorem ret_bool {a b:Bool} (h:a=b):Ending.returned (.bool a) = .returned (.bool b):=by rw[h]
section
variable {w : World} {a : Nat} {D : Dev}
theorem down_any (h:Rep w a D):Calls Tryz.prog 191 #[.pointer (some ⟨a,0,none⟩)] w fun e w'=>e = .returned (.bool D.down)∧w=w':=by
 have c2:=h.cell 2;have c3:=h.cell 3;simp only[Dev.cells] at c2 c3;unfold Dev.down
 cases hA:D.armed
 · rw[hA] at c2
   clear hA;go_enter Tryz.func191,Tryz.ntmps191
   go_wp2
   go_ret
   exact⟨rfl,rfl⟩
 · rw[hA] at c2
   clear hA;go_enter Tryz.func191,Tryz.ntmps191
   go_wp2
   go_ret
   exact⟨ret_bool (by rw[Bool.eq_iff_iff];simp),rfl⟩
theorem step_no (h:Rep w a D) (hd:D.down=true):Calls Tryz.prog 133 #[.pointer (some ⟨a,0,none⟩)] w fun e w'=>e = .returned (.bool false)∧w=w':=by
 have hc:=down_any h;rw[hd] at hc;have H:=hid hc;clear hc hd;go_enter Tryz.func133,Tryz.ntmps133
 go_wp2_with (go_at_call 191;refine H.out.mono ?_;rintro e w' ⟨rfl,rfl⟩)
 go_ret
 exact⟨rfl,rfl⟩
theorem step_yes (h:Rep w a D) (hd:D.down=false) (hs:D.steps < 4611686018427387904) (hl:D.left < 4611686018427387904):Calls Tryz.prog 133 #[.pointer (some ⟨a,0,none⟩)] w fun e w'=>
 e = .returned (.bool true)∧Rep w' a D.stepped∧Off (·=a) w w'∧w'.heap.size=w.heap.size:=by
 have hc:=down_any h;rw[hd] at hc;have H:=hid hc;clear hc;have c0:=h.cell 0;have c2:=h.cell 2;have c3:=h.cell 3;have f0:=h.frozen 0;have f3:=h.frozen 3;simp only[Dev.cells] at c0 c2 c3;have hR:=hid h;clear h
 cases hA:D.armed
 · rw[hA] at c2
   have HA:=hid hA;clear hA hd;go_enter Tryz.func133,Tryz.ntmps133
   go_wp2_with (go_at_call 191;refine H.out.mono ?_;rintro e w' ⟨rfl,rfl⟩)
   go_ret;have h:=hR.out
   refine⟨rfl,h.turn (D':=D.stepped) ?_ (fun k hk hne=>Below.heap_setCell _ _ _ _ hne) rfl rfl rfl rfl rfl rfl rfl rfl,(Off.refl (·=a) w).setCell (fun _=>rfl) _,by simp[World.setCell]⟩
   have:=blk_set h.dev 0 (.int .i64 ((D.steps:Int)+1))
   rw[this];simp[Dev.cells,Dev.stepped,HA.out]
 · rw[hA] at c2
   have HA:=hid hA
   have hl0:0 < D.left:=by
    simp only[Dev.down,hA,Bool.true_and,beq_eq_false_iff_ne] at hd;omega
   clear hA hd;go_enter Tryz.func133,Tryz.ntmps133
   go_wp2_with (go_at_call 191;refine H.out.mono ?_;rintro e w' ⟨rfl,rfl⟩)
   go_ret;have h:=hR.out
   refine⟨rfl,h.turn (D':=D.stepped) ?_ (fun k hk hne=>(Below.heap_setCell _ _ _ _ hne).trans (Below.heap_setCell _ _ _ _ hne)) rfl rfl rfl rfl rfl rfl rfl rfl,((Off.refl (·=a) w).setCell (fun _=>rfl) _).setCell (fun _=>rfl) _,by simp[World.setCell]⟩
   rw[blk_set (blk_set h.dev 3 _) 0 _];simp[Dev.cells,Dev.stepped,HA.out];omega
def Dev.hasB (D:Dev) (i:Int):Bool:=decide (0≤i) && decide (i < (D.words.length:Int))
theorem has_any (h:Rep w a D) (i:Int):Calls Tryz.prog 106 #[.pointer (some ⟨a,0,none⟩),.int .i64 i] w fun e w'=>e = .returned (.bool (D.hasB i))∧w=w':=by
 have c4:=h.cell 4;simp only[Dev.cells] at c4;unfold Dev.hasB;by_cases h0:0≤i
 · go_enter Tryz.func106,Tryz.ntmps106
   go_wp2
   go_ret
   exact⟨ret_bool (by simp[h0]),rfl⟩
 · go_enter Tryz.func106,Tryz.ntmps106
   go_wp2
   go_ret
   exact⟨ret_bool (by rw[decide_eq_false (by omega)];rfl),rfl⟩
theorem len_any (h:Rep w a D):Calls Tryz.prog 57 #[.pointer (some ⟨a,0,none⟩)] w fun e w'=>e = .returned (.int .i64 (D.words.length:Int))∧w=w':=by
 have c4:=h.cell 4;simp only[Dev.cells] at c4;go_enter Tryz.func57,Tryz.ntmps57
 go_wp2
 go_ret
 exact⟨rfl,rfl⟩
theorem has_yes {i:Int} (h0:0≤i) (h1:i < (D.words.length:Int)):D.hasB i=true:=by simp[Dev.hasB,h0,h1]
theorem Rep.word (h:Rep w a D) (i:Nat) (hi:i < D.words.length):w.cell? ⟨D.wb,i,none⟩=some (.int .u64 D.words[i]):=by
 rw[blk_cell h.wds i,List.getElem?_toArray,List.getElem?_append_left (by simpa [u64s] using hi)];simp[u64s,List.getElem?_eq_getElem hi]
theorem load_no (h:Rep w a D) (i:Int) (hi:D.hasB i=false):Calls Tryz.prog 54 #[.pointer (some ⟨a,0,none⟩),.int .i64 i] w fun e w'=>e = .returned (.int .u64 0)∧w=w':=by
 have hc:=has_any h i;rw[hi] at hc;have H:=hid hc;clear hc hi h;go_enter Tryz.func54,Tryz.ntmps54
 go_wp2_with (go_at_call 106;refine H.out.mono ?_;rintro e w' ⟨rfl,rfl⟩)
 go_ret
 exact⟨rfl,rfl⟩
theorem load_yes (h:Rep w a D) (i:Nat) (hi:i < D.words.length):Calls Tryz.prog 54 #[.pointer (some ⟨a,0,none⟩),.int .i64 (i:Int)] w fun e w'=>e = .returned (.int .u64 D.words[i])∧w=w':=by
 have hc:=has_any h (i:Int);rw[has_yes (by omega) (by omega)] at hc;have c4:=h.cell 4;have cw:=h.word i hi;simp only[Dev.cells] at c4;have H:=hid hc;clear hc h;go_enter Tryz.func54,Tryz.ntmps54
 go_wp2_with (go_at_call 106;refine H.out.mono ?_;rintro e w' ⟨rfl,rfl⟩)
 go_ret
 exact⟨rfl,rfl⟩
def Dev.fresh (n g:Nat):Dev:={ steps:=0,stores:=0,armed:=false,left:=0,words:=List.replicate n 0,ents:=[],marked:=[],wb:=g,mb:=g+1,clock:=0,mka:=none,mkc:=0,wcap:=n }
theorem u64_info:(Tryz.prog.info? 50).map (fun i=>(i.zero,i.size,i.bytes))=some (some (.int .u64 0),1,8):=by kernel_rfl
theorem rep_fresh (w:World) (n:Nat):Rep (((w.alloc (.cells (madeCells #[.int .u64 0] n) 50)).alloc (.map #[] 0)).alloc (.cells (Dev.fresh n w.heap.size).cells 42)) (w.heap.size+2) (Dev.fresh n w.heap.size):={
 dev:=by
  have:=(heap_alloc ((w.alloc (.cells (madeCells #[.int .u64 0] n) 50)).alloc (.map #[] 0)) (.cells (Dev.fresh n w.heap.size).cells 42)).1
  simpa using this
 wds:=by
  refine blk_alloc (blk_alloc ?_ _) _;rw[show (Dev.fresh n w.heap.size).wb=w.heap.size from rfl,(heap_alloc w _).1]
  congr 2
  apply Array.toList_inj.1;rw[toList_madeCells_one];simp[Dev.fresh,u64s]
 map:=by
  refine blk_alloc ?_ _
  have:=(heap_alloc (w.alloc (.cells (madeCells #[.int .u64 0] n) 50)) (.map #[] 0)).1
  rw[World.size_alloc] at this;exact this
 ent:=by simp[Dev.fresh]
 mrk:=⟨by simp[Dev.fresh,i64s],.inl ⟨rfl,rfl⟩⟩
 nodup:=by simp[Dev.fresh]
 keys:=by simp[Dev.fresh]
 stamp:=by simp[Dev.fresh,Stamp] }
theorem run_new (m:Nat) (n:Int) (hn:n=(m:Int)) (hm:m≤4194304) (W:World):(Instr.makeSlice 22 (.int .i64 n) (.int .i64 n)).run Tryz.prog W = .ok (.slice (some ⟨W.heap.size,0,none⟩) m m) (W.alloc (.cells (madeCells #[.int .u64 0] m) 50)):=by
 obtain⟨i0,hi0,hz0,hz1,hz2⟩:=info_parts u64_info
 subst hn
 have:=run_make (P:=Tryz.prog) W 22 50 i0 _ Tryz.underlying22 hi0 hz0 .i64 .i64 (m:Int) (m:Int) (by omega) (by omega) (by rw[hz2];omega) (by omega)
 rw[hz1] at this
 simpa [Value.cells] using this
theorem own_any (w:World) (m g:Nat):Calls Tryz.prog 14 #[.slice (some ⟨g,0,none⟩) m m] w fun e w'=>e = .returned (.pointer (some ⟨w.heap.size+1,0,none⟩)) ∧
 w'=(w.alloc (.map #[] 0)).alloc (.cells #[.int .i64 0,.int .i64 0,.bool false,.int .i64 0,.slice (some ⟨g,0,none⟩) m m,.map (some w.heap.size),.slice none 0 0] 42):=by
 have hmm:=@run_makeMap Tryz.prog;go_enter Tryz.func14,Tryz.ntmps14
 go_wp2
 go_ret
 exact⟨rfl,rfl⟩
theorem fresh_cells (m g:Nat):(Dev.fresh m g).cells=#[.int .i64 0,.int .i64 0,.bool false,.int .i64 0,.slice (some ⟨g,0,none⟩) m m,.map (some (g+1)),.slice none 0 0]:=by simp[Dev.cells,Dev.fresh]
theorem new_any (w:World) (n:Int) (m:Nat) (hm:(m:Int)=min (max n 0) 4194304):Calls Tryz.prog 12 #[.int .i64 n] w fun e w'=>
 e = .returned (.pointer (some ⟨w.heap.size+2,0,none⟩))∧Rep w' (w.heap.size+2) (Dev.fresh m w.heap.size)∧Below w.heap.size w w'∧w'.heap.size=w.heap.size+3:=by
 have hrep0:=rep_fresh w m;rw[fresh_cells] at hrep0;have hrep:=hid hrep0;clear hrep0
 have hbel:Below w.heap.size w (((w.alloc (.cells (madeCells #[.int .u64 0] m) 50)).alloc (.map #[] 0)).alloc (.cells (Dev.fresh m w.heap.size).cells 42)):=
  (((Below.refl _ _).alloc (Nat.le_refl _) _).alloc (by simp) _).alloc (by simp;omega) _
 have hown:=own_any (w.alloc (.cells (madeCells #[.int .u64 0] m) 50)) m w.heap.size;rw[World.size_alloc] at hown;have HO:=hid hown;rw[fresh_cells] at hbel;have HB:=hid hbel;clear hown hbel
 rcases Int.lt_or_le n 0 with hn | hn
 · have hmk:=run_new m 0 (by omega) (by omega)
   clear hm;go_enter Tryz.func12,Tryz.ntmps12
   go_wp2_with (go_at_call 14;refine HO.out.mono ?_;rintro e w' ⟨rfl,rfl⟩)
   go_ret
   exact⟨rfl,hrep.out,HB.out,by simp⟩
 · rcases Int.lt_or_le 4194304 n with hn2 | hn2
   · have hmk:=run_new m 4194304 (by omega) (by omega)
     clear hm;go_enter Tryz.func12,Tryz.ntmps12
     go_wp2_with (go_at_call 14;refine HO.out.mono ?_;rintro e w' ⟨rfl,rfl⟩)
     go_ret
     exact⟨rfl,hrep.out,HB.out,by simp⟩
   · have hmk:=run_new m n (by omega) (by omega)
     clear hm;go_enter Tryz.func12,Tryz.ntmps12
     go_wp2_with (go_at_call 14;refine HO.out.mono ?_;rintro e w' ⟨rfl,rfl⟩)
     go_ret
     exact⟨rfl,hrep.out,HB.out,by simp⟩
end
end Pm
end
section
open Lib (hid)
open Go.RowKit Go.MapKept
namespace Pm
section
variable {w : World} {a : Nat} {D : Dev}
theorem mark_no (h:Rep w a D) (k:Nat) (hk:k∉D.ents.map Ent.key):Calls Tryz.prog 190 #[.pointer (some ⟨a,0,none⟩),.int .i64 (k:Int)] w fun e w'=>
 e = .returned (.tuple #[])∧Res w a D w' D:=by
 have c5:=h.cell 5;simp only[Dev.cells] at c5;have hl:=run_look_none h.map hk true;simp only[if_true] at hl;have H:=hid h;clear h hk;go_enter Tryz.func190,Tryz.ntmps190
 go_wp2
 refine bodyPost_ret (results_none rfl _ _ _) rfl ?_
 exact⟨rfl,H.out.keep (fun k hk=>Below.heap_alloc _ _ _ (H.out.foot_lt hk)),(Off.refl _ _).alloc _,fun _ h=>.inl h⟩
theorem int_info:(Tryz.prog.info? 3).map (fun i=>(i.zero,i.size,i.bytes))=some (some (.int .i64 0),1,8):=by kernel_rfl
theorem row_form {w:World} {base:Nat} {e:TypeId} {v:Value} {n:Nat} {xs:List Value} (h:w.ownsRow base e 1 v n xs) (hn:0 < n):∃ g c,v = .slice (some ⟨g,0,none⟩) n c:=by
 rcases h.2 with ⟨_,h⟩ | ⟨g,cap,cur,h,_⟩
 · omega
 · exact⟨g,cap,h⟩
theorem nodup_mid {α:Type} {pre post:List α} {x:α} (h:(pre++x :: post).Nodup):x∉pre∧x∉post:=by
 have h1:=List.nodup_append.1 h
 exact⟨fun hx=>h1.2.2 _ hx _ (.head _) rfl,(List.nodup_cons.1 h1.2.1).1⟩
theorem Rep.mid_key (h:Rep w a D) {pre post:List Ent} {e:Ent} (he:D.ents=pre++e :: post):e.key∉pre.map Ent.key∧e.key∉post.map Ent.key:=by
 have:=h.keys
 rw[he,List.map_append,List.map_cons] at this;exact nodup_mid this
theorem mark_facts {w2:World} {cs ds:Array Value} {t u:TypeId} (h:Rep w a D) (hg:((w.alloc (.cells cs t)).alloc (.cells ds u)).grownBy w2 (Value.slice D.mka D.marked.length D.mkc).ownBlock) :
 (∀ k,k < w.heap.size→D.mkv.ownBlock≠some k→w2.heap[k]? = w.heap[k]?)∧w2.heap[w.heap.size]? = some (.cells cs t (0,0)):=by
 refine⟨fun k hk hn=>?_,?_⟩
 · rw[hg.block k (by simp;omega) (fun e=>hn e.symm),Below.heap_alloc _ _ _ (by simp;omega),Below.heap_alloc _ _ _ hk]
 · rw[hg.block _ (by simp;omega) (fun e=>by
    have:=h.foot_lt (k:=w.heap.size) (.inr (.inr (.inr (.inr e.symm))))
    omega),Below.heap_alloc _ _ _ (by simp),(heap_alloc w _).1]
theorem cell_one_new2 (w:World) (o:Obj) (v:Value) (t:TypeId):∀ j u,[v][j]? = some u→((w.alloc o).alloc (.cells #[v] t)).cell? ((⟨w.heap.size+1,0,none⟩:Addr).add j)=some u:=by
 have:=cell_one_new (w.alloc o) v t
 rw[World.size_alloc] at this;exact this
theorem foot_mid {D:Dev} {pre post:List Ent} {e e':Ent} (he:D.ents=pre++e :: post) (hb:e'.blk=e.blk):(pre++e' :: post).map Ent.blk=D.ents.map Ent.blk:=by
 rw[he];simp[hb]
theorem keys_mid {D:Dev} {pre post:List Ent} {e e':Ent} (he:D.ents=pre++e :: post) (hb:e'.key=e.key):(pre++e' :: post).map Ent.key=D.ents.map Ent.key:=by
 rw[he];simp[hb]
theorem stamp_mid {l pre post:List Ent} {e e':Ent} {c:Nat} (h:Stamp l c) (he:l=pre++e :: post) (hb:e'.born=e.born):Stamp (pre++e' :: post) c:=by
 subst he
 refine⟨?_,?_⟩
 · intro x hx
   simp only[List.mem_append,List.mem_cons] at hx
   rcases hx with hx | rfl | hx
   · exact h.1 x (by simp[hx])
   · rw[hb];exact h.1 e (by simp)
   · exact h.1 x (by simp[hx])
 · have:=h.2
   simpa [hb] using this
theorem mark_res {w2:World} {g c:Nat} {cs:Array Value} {t:TypeId} {u:Value} {row:Option Nat} {pre post:List Ent} {e e':Ent} (h:Rep w a D) (he:D.ents=pre++e :: post)
 (e1:e'.key=e.key) (e2:e'.vals=e.vals) (e3:e'.blk=e.blk) (e4:e'.off=e.off) (e5:e'.cap=e.cap) (e6:e'.born=e.born)
 (ht3:t≠3) (hrow:row=D.mkv.ownBlock)
 (hoff:Off (fun k=>row=some k) w w2)
 (hnew:w2.heap[w.heap.size]? = some (.cells cs t (0,0))) (hown:w2.ownsRow 0 3 1 (.slice (some ⟨g,0,none⟩) (D.marked.length+1) c) (D.marked.length+1) (i64s D.marked++[.int .i64 (e.key:Int)]))
 (hloc:some g=row∨w.heap.size≤g) :
 Res w a D (putMap ((w2.setCell ⟨a,6,none⟩ (.slice (some ⟨g,0,none⟩) (D.marked.length+1) c)).setCell ⟨w.heap.size,1,none⟩ u).drew D.mb (pre++e' :: post) D.clock)
  { D with ents:=pre++e' :: post,marked:=D.marked++[e.key],mka:=some ⟨g,0,none⟩,mkc:=c }:=by
 have hal:=h.lt;have hml:=lt_of_some h.map;have hwl:=lt_of_some h.wds;subst hrow
 have hF:∀ k,k≠D.mb→k≠w.heap.size→k≠a→(putMap ((w2.setCell ⟨a,6,none⟩ (.slice (some ⟨g,0,none⟩) (D.marked.length+1) c)).setCell ⟨w.heap.size,1,none⟩ u).drew D.mb (pre++e' :: post) D.clock).heap[k]? = w2.heap[k]?:=
  fun k h1 h2 h3=>(putMap_ne h1).trans ((Below.heap_setCell _ _ _ _ h2).trans (Below.heap_setCell _ _ _ _ h3))
 have hold:∀ k,k < w.heap.size→D.mkv.ownBlock≠some k→w2.heap[k]? = w.heap[k]?:=fun k hk hn=>hoff.block k hk hn
 have hD:w2.heap[a]? = some (.cells D.cells 42 (0,0)):=(hold a hal h.ne_mkv).trans h.dev;have hM:w2.heap[D.mb]? = some (.map (D.ents.map Ent.entry).toArray D.clock):=(hold _ hml h.mb_mkv).trans h.map
 obtain⟨cur,hgb,hr⟩:∃ cur,w2.heap[g]? = some (.cells cur 3 (0,0))∧D.marked.length+1≤c∧c≤maxLen∧cur.size=c * 1∧cur.toList.take ((D.marked.length+1) * 1)=i64s D.marked++[.int .i64 (e.key:Int)]:=by
  rcases hown.2 with ⟨hx,_⟩ | ⟨g',c',cur,hx,_,hb,r⟩
  · cases hx
  · injection hx with hx1 _ hx2
    injection hx1 with hx1
    injection hx1 with hx1
    subst hx1 hx2
    exact⟨cur,hb,r⟩
 have hga:g≠a:=blk_ne hgb hD (by decide);have hgm:g≠D.mb:=blk_map hgb hM;have hgs:g≠w.heap.size:=blk_ne hgb hnew (fun e=>ht3 e.symm)
 have hents:∀ x∈D.ents,x.lies (putMap ((w2.setCell ⟨a,6,none⟩ (.slice (some ⟨g,0,none⟩) (D.marked.length+1) c)).setCell ⟨w.heap.size,1,none⟩ u).drew D.mb (pre++e' :: post) D.clock):=fun x hx=>by
  obtain⟨cs,hcs,r⟩:=h.ent x hx
  have hxl:=lt_of_some hcs
  exact⟨cs,(hF _ (blk_map hcs h.map) (by omega) (h.ne_ent hx).symm).trans ((hold _ hxl (h.u64_mkv hcs)).trans hcs),r⟩
 refine⟨⟨?_,?_,?_,?_,?_,?_,?_,stamp_mid h.stamp he e6⟩,?_,?_⟩
 · refine (putMap_ne h.ne_mb).trans ?_
   refine (blk_far (p:=⟨w.heap.size,1,none⟩) (blk_set hD 6 _) (by show a≠w.heap.size;omega) u).trans ?_;simp[Dev.cells]
 · exact (hF _ h.wb_mb (by omega) h.ne_wb.symm).trans ((hold _ hwl (h.u64_mkv h.wds)).trans h.wds)
 · exact putMap_at (by have:=hoff.size;show D.mb < ((w2.setCell _ _).setCell _ _).heap.size;simp[World.setCell];omega)
 · intro x hx
   simp only[List.mem_append,List.mem_cons] at hx
   rcases hx with hx | rfl | hx
   · exact hents x (by rw[he];simp[hx])
   · obtain⟨cs,hcs,r1,r2,r3⟩:=hents e (by rw[he];simp)
     exact⟨cs,by rw[e3];exact hcs,by rw[e4,e5];exact r1,by rw[e2,e5];exact r2,by rw[e4,e2];exact r3⟩
   · exact hents x (by rw[he];simp[hx])
 · refine⟨by simp[i64s],.inr ⟨g,c,cur,by simp[Dev.mkv],Nat.zero_le _,(hF g hgm hgs hga).trans hgb,?_⟩⟩
   simpa [i64s] using hr
 · rw[foot_mid he e3];exact h.nodup
 · rw[keys_mid he e1];exact h.keys
 · refine Off.putMap (Off.drew (Off.setCell (Off.setCell (hoff.mono (fun k _ hk=>.inr (.inr (.inr (.inr hk))))) (fun _=>.inl rfl) _) (fun hx=>absurd hx (Nat.lt_irrefl _)) _)) (fun _=>.inr (.inr (.inl rfl)))
 · rintro k (rfl | rfl | rfl | hk | hk)
   · exact .inl (.inl rfl)
   · exact .inl (.inr (.inl rfl))
   · exact .inl (.inr (.inr (.inl rfl)))
   · refine .inl (.inr (.inr (.inr (.inl ?_))))
     rw[← foot_mid he e3];exact hk
   · simp only[Dev.mkv,Value.ownBlock,Option.some.injEq] at hk
     subst hk
     rcases hloc with hx | hx
     · exact .inl (.inr (.inr (.inr (.inr hx.symm))))
     · exact .inr hx
theorem mark_first (h:Rep w a D) (pre post:List Ent) (e:Ent) (he:D.ents=pre++e :: post) (hm:e.mark=0) (hn:D.marked.length < 1000000000) (hv:1≤e.vals.length) (hv2:e.vals.length < 1000000000000):Calls Tryz.prog 190 #[.pointer (some ⟨a,0,none⟩),.int .i64 (e.key:Int)] w fun r w'=>
 r = .returned (.tuple #[])∧∃ mka mkc,Res w a D w' { D with ents:=pre++{ e with mark:=e.vals.length - 1 } :: post,marked:=D.marked++[e.key],mka:=mka,mkc:=mkc }:=by
 obtain⟨i0,hi0,hz0,hz1,hz2⟩:=info_parts int_info
 have c5:=h.c5;have c6:=h.c6;have f6:=h.frozen 6;have hm0:=h.map;rw[he] at hm0;have hl:=run_look_some hm0 (h.mid_key he).1 true;simp only[if_true,Ent.val,hm,Int.natCast_zero] at hl;have hlt:a < w.heap.size:=lt_of_some h.dev;have hmrk:=h.mrk;unfold Dev.mkv at hmrk;have hap:=((hmrk.alloc (.cells #[.slice (some ⟨e.blk,e.off,none⟩) e.vals.length e.cap,.int .i64 0] 262)).alloc (.cells #[.int .i64 (e.key:Int)] 3));have HAP:=hid hap;have H:=hid h;have HE:=hid he;have HM:=hid hm0;have HMM:=hid hm;clear h hm0 he hmrk hap hm;go_enter Tryz.func190,Tryz.ntmps190
 go_wp2_with (at_builtin;refine wpList_append_own_at _ rfl (.tmp 24) (.tmp 26) 40 rfl 0 3 i0 (.int .i64 0) 1 8 Tryz.underlying40 hi0 hz0 hz1 hz2 rfl (by decide) _ _ _ rfl HAP.out ⟨w.heap.size+1,0,none⟩ 1 1 [.int .i64 (e.key:Int)] rfl rfl (cell_one_new2 _ _ _ _) (by simp[Value.oneCell']) (by unfold maxLen;omega) (by omega) (by omega) ?_
              intro v' w2 hown hgrow hnil hloc
              obtain⟨hold,hnew⟩:=mark_facts H.out hgrow
              obtain⟨g,c,rfl⟩:=row_form hown (by omega)
              have k5:=(World.cell?_of_block (hold a hlt H.out.ne_mkv)).trans c5;have k6:=(World.cell?_of_block (hold a hlt H.out.ne_mkv)).trans c6;have e6:=(World.frozen?_of_block (hold a hlt H.out.ne_mkv)).trans f6;have k0:=blk_cell hnew 0;have k1:=blk_cell hnew 1;have e1:=blk_frozen hnew 1;have hne:a≠w.heap.size:=by omega
              have HO:=hid hown;have HG:=hid hgrow;have HD:=hid hold;have HN:=hid hnew;have HL:=hid hloc;clear hown hgrow hold hnew hloc hnil)
 have hput:=run_put_some (w:=((w2.setCell ⟨a,6,none⟩ (.slice (some ⟨g,0,none⟩) (D.marked.length+1) c)).setCell ⟨w.heap.size,1,none⟩ (.int .i64 ((e.vals.length:Int) - 1))).drew) (pre:=pre) (post:=post) (e:=e) (e':={ e with mark:=e.vals.length - 1 }) (b:=D.mb) (c:=D.clock) (by
  have h:=H.out;show ((w2.setCell ⟨a,6,none⟩ _).setCell ⟨w.heap.size,1,none⟩ _).heap[D.mb]? = _
  have hml:=lt_of_some h.map;rw[Below.heap_setCell _ _ _ _ (by show D.mb≠w.heap.size;omega),Below.heap_setCell _ _ _ _ h.ne_mb.symm,HD.out _ hml h.mb_mkv];exact HM.out) (H.out.mid_key HE.out).1 rfl rfl
 rw[show Ent.val { e with mark:=e.vals.length - 1 } = .agg #[.slice (some ⟨e.blk,e.off,none⟩) e.vals.length e.cap,.int .i64 ((e.vals.length:Int) - 1)] from by simp[Ent.val];omega] at hput
 go_region
 go_end0
 refine⟨rfl,some ⟨g,0,none⟩,c,?_⟩
 refine mark_res (row:=D.mkv.ownBlock) H.out HE.out rfl rfl rfl rfl rfl rfl (by decide) rfl ?_ HN.out HO.out ?_
 · exact (((Off.refl _ _).alloc _).alloc _).grown HG.out (fun k hk _=>hk)
 · rcases HL.out with hx | hx
   · exact .inl hx
   · refine .inr ?_
     simp[Value.ownBlock] at hx;omega
theorem ents_res {w2:World} (h:Rep w a D) (l:List Ent) (c:Nat) (hoff:Off (fun k=>k∈D.ents.map Ent.blk) w w2) (hl:∀ x∈l,x.lies w2) (hn:(D.wb :: l.map Ent.blk).Nodup) (hk:(l.map Ent.key).Nodup) (hst:Stamp l c)
 (hf:∀ x∈l,x.blk∈D.ents.map Ent.blk∨w.heap.size≤x.blk):Res w a D (putMap w2 D.mb l c) { D with ents:=l,clock:=c }:=by
 have hal:=h.lt;have hml:=lt_of_some h.map;have hwl:=lt_of_some h.wds
 have hblk:∀ {t:TypeId} {cs:Array Value} {k:Nat},t≠50→w.heap[k]? = some (.cells cs t (0,0))→k∉D.ents.map Ent.blk:=by
  intro t cs k ht hk hx
  obtain⟨x,hx2,e⟩:=List.mem_map.1 hx
  obtain⟨ds,hds,_⟩:=h.ent x hx2
  exact blk_ne hk hds ht e.symm
 have hmb:D.mb∉D.ents.map Ent.blk:=by
  intro hx
  obtain⟨x,hx,e⟩:=List.mem_map.1 hx
  obtain⟨ds,hds,_⟩:=h.ent x hx
  exact blk_map hds h.map e
 have hwb:D.wb∉D.ents.map Ent.blk:=(List.nodup_cons.1 h.nodup).1;have hM2:w2.heap[D.mb]? = some (.map (D.ents.map Ent.entry).toArray D.clock):=(hoff.block _ hml hmb).trans h.map
 refine⟨⟨?_,?_,?_,?_,?_,hn,hk,hst⟩,?_,?_⟩
 · exact (putMap_ne h.ne_mb).trans ((hoff.block _ hal (hblk (by decide) h.dev)).trans h.dev)
 · exact (putMap_ne h.wb_mb).trans ((hoff.block _ hwl hwb).trans h.wds)
 · exact putMap_at (lt_of_some hM2)
 · intro x hx
   obtain⟨cs,hcs,r⟩:=hl x hx
   exact⟨cs,(putMap_ne (blk_map hcs hM2)).trans hcs,r⟩
 · refine row_keep h.mrk (fun g hg=>?_)
   have hgl:=h.foot_lt (.inr (.inr (.inr (.inr hg))));have hgm:g≠D.mb:=fun e=>h.mb_mkv (by rw[← e];exact hg)
   refine (putMap_ne hgm).trans (hoff.block _ hgl (fun hx=>?_))
   obtain⟨x,hx2,e⟩:=List.mem_map.1 hx
   obtain⟨ds,hds,_⟩:=h.ent x hx2
   exact h.u64_mkv hds (by rw[e];exact hg)
 · exact Off.putMap (hoff.mono (fun k _ hk=>.inr (.inr (.inr (.inl hk))))) (fun _=>.inr (.inr (.inl rfl)))
 · rintro k (rfl | rfl | rfl | hk | hk)
   · exact .inl (.inl rfl)
   · exact .inl (.inr (.inl rfl))
   · exact .inl (.inr (.inr (.inl rfl)))
   · obtain⟨x,hx,rfl⟩:=List.mem_map.1 hk
     rcases hf x hx with hy | hy
     · exact .inl (.inr (.inr (.inr (.inl hy))))
     · exact .inr hy
   · exact .inl (.inr (.inr (.inr (.inr hk))))
theorem mid_res {w2:World} (h:Rep w a D) {pre post:List Ent} {e e':Ent} (he:D.ents=pre++e :: post) (e1:e'.key=e.key) (e6:e'.born=e.born) (e3:e'.blk=e.blk) (hoff:Off (fun k=>k=e.blk) w w2) (hl:e'.lies w2) :
 Res w a D (putMap w2 D.mb (pre++e' :: post) D.clock) { D with ents:=pre++e' :: post }:=by
 have hnd:=h.nodup;rw[he,List.map_append,List.map_cons] at hnd;have hmid:=nodup_mid (List.nodup_cons.1 hnd).2;have hmem:∀ x,x∈pre∨x∈post→x∈D.ents:=by intro x hx;rw[he];simp only[List.mem_append,List.mem_cons];rcases hx with hx | hx<;>simp[hx]
 have hoth:∀ x,x∈pre∨x∈post→x.blk≠e.blk:=by
  rintro x (hx | hx) hxe
  · exact hmid.1 (by rw[← hxe];exact List.mem_map_of_mem hx)
  · exact hmid.2 (by rw[← hxe];exact List.mem_map_of_mem hx)
 refine ents_res h (pre++e' :: post) D.clock (hoff.mono (fun k _ hk=>?_)) ?_ ?_ ?_ (stamp_mid h.stamp he e6) ?_
 · subst hk;rw[he];simp
 · intro x hx
   simp only[List.mem_append,List.mem_cons] at hx;have hxx:x=e'∨(x∈pre∨x∈post):=by rcases hx with hx | hx | hx<;>simp[hx]
   rcases hxx with rfl | hx
   · exact hl
   · exact lies_keep (h.ent x (hmem x hx)) (hoff.block _ (h.foot_lt (.inr (.inr (.inr (.inl (List.mem_map_of_mem (hmem x hx))))))) (hoth x hx))
 · rw[foot_mid he e3];exact h.nodup
 · rw[keys_mid he e1];exact h.keys
 · intro x hx
   refine .inl ?_;rw[← foot_mid he e3];exact List.mem_map_of_mem hx
theorem mark_again (h:Rep w a D) (pre post:List Ent) (e:Ent) (he:D.ents=pre++e :: post) (hm:0 < e.mark) (hv:1≤e.vals.length) (hv2:e.vals.length < 1000000000000):Calls Tryz.prog 190 #[.pointer (some ⟨a,0,none⟩),.int .i64 (e.key:Int)] w fun r w'=>
 r = .returned (.tuple #[])∧Res w a D w' { D with ents:=pre++{ e with mark:=e.vals.length - 1 } :: post }:=by
 have c5:=h.c5;have hm0:=h.map;rw[he] at hm0;have hl:=run_look_some hm0 (h.mid_key he).1 true;simp only[if_true,Ent.val] at hl;have hlt:a < w.heap.size:=h.lt;have hm1:((e.mark:Int) == 0)=false:=by simp;omega
 have hput:=run_put_some (w:=(w.alloc (.cells #[.slice (some ⟨e.blk,e.off,none⟩) e.vals.length e.cap,.int .i64 ((e.vals.length:Int) - 1)] 262)).drew) (pre:=pre) (post:=post) (e:=e) (e':={ e with mark:=e.vals.length - 1 }) (b:=D.mb) (c:=D.clock) (by
  have hml:=lt_of_some h.map;exact (Below.heap_alloc _ _ _ hml).trans hm0) (h.mid_key he).1 rfl rfl
 rw[show Ent.val { e with mark:=e.vals.length - 1 } = .agg #[.slice (some ⟨e.blk,e.off,none⟩) e.vals.length e.cap,.int .i64 ((e.vals.length:Int) - 1)] from by simp[Ent.val];omega] at hput;have H:=hid h;have HE:=hid he;clear h hm0 he;go_enter Tryz.func190,Tryz.ntmps190
 go_wp2
 go_region
 go_end0
 have h:=H.out;have he:=HE.out
 refine⟨rfl,mid_res h he rfl rfl rfl ?_ ?_⟩
 · exact Off.drew (Off.alloc (Off.refl _ _) _)
 · obtain⟨cs,hcs,r⟩:=h.ent e (by rw[he];simp)
   have hel:=lt_of_some hcs
   exact⟨cs,(Below.heap_alloc _ _ _ hel).trans hcs,r⟩
end
end Pm
end
section
open Lib (hid)
open Go.RowKit Go.MapKept
namespace Pm
section
variable {w : World} {a : Nat} {D : Dev}
theorem settle_one (h:Rep w a D) (pre post:List Ent) (e:Ent) (he:D.ents=pre++e :: post) (hm:e.mark+1=e.vals.length) (hc:e.vals.length≤e.cap):Calls Tryz.prog 134 #[.pointer (some ⟨a,0,none⟩),.int .i64 (e.key:Int)] w fun r w'=>
 r = .returned (.tuple #[])∧Res w a D w' { D with ents:=pre++post }:=by
 have c5:=h.c5;have hm0:=h.map;rw[he] at hm0;have hl:=run_look_some hm0 (h.mid_key he).1 false;simp only[Ent.val] at hl;have hlt:a < w.heap.size:=h.lt
 obtain⟨n,hn⟩:∃ n,n=e.vals.length:=⟨_,rfl⟩
 rw[← hn] at hl hm hc;have g1:e.mark < n:=by omega
 have g2:n < e.mark+2:=by omega
 have g3:e.cap≠e.mark:=by omega
 have hml:=lt_of_some h.map;have hdel:=run_del_some (w:=w.alloc (.cells #[.slice (some ⟨e.blk,e.off+e.mark,none⟩) (n - e.mark) (e.cap - e.mark),.int .i64 (e.mark:Int)] 262)) (b:=D.mb) (c:=D.clock) (e:=e) (pre:=pre) (post:=post) 0 ((Below.heap_alloc _ _ _ hml).trans hm0) (h.mid_key he).1;have HN:=hid hn;have H:=hid h;have HE:=hid he;clear h hm0 he hm hn;go_enter Tryz.func134,Tryz.ntmps134
 go_wp2
 refine bodyPost_ret (results_none rfl _ _ _) rfl ?_;have h:=H.out;have he:=HE.out
 have hsub:(pre++post).Sublist D.ents:=by
  rw[he];exact List.Sublist.append (List.Sublist.refl _) (List.sublist_cons_self _ _)
 refine⟨rfl,ents_res h (pre++post) D.clock (Off.alloc (Off.refl _ _) _) ?_ ?_ ?_ ⟨fun x hx=>h.stamp.1 x (hsub.subset hx),(hsub.map Ent.born).nodup h.stamp.2⟩ ?_⟩
 · intro x hx
   have hx:=hsub.subset hx;exact lies_keep (h.ent x hx) (Below.heap_alloc _ _ _ (h.foot_lt (.inr (.inr (.inr (.inl (List.mem_map_of_mem hx)))))))
 · exact ((hsub.map Ent.blk).cons_cons D.wb).nodup h.nodup
 · exact (hsub.map Ent.key).nodup h.keys
 · intro x hx
   exact .inl (List.mem_map_of_mem (hsub.subset hx))
theorem settle_more (h:Rep w a D) (pre post:List Ent) (e:Ent) (he:D.ents=pre++e :: post) (hm:e.mark+1 < e.vals.length) (hc:e.vals.length≤e.cap):Calls Tryz.prog 134 #[.pointer (some ⟨a,0,none⟩),.int .i64 (e.key:Int)] w fun r w'=>
 r = .returned (.tuple #[])∧Res w a D w' { D with ents:=pre++{ e with vals:=e.vals.drop e.mark,mark:=0,off:=e.off+e.mark,cap:=e.cap - e.mark } :: post }:=by
 have c5:=h.c5;have hm0:=h.map;rw[he] at hm0;have hl:=run_look_some hm0 (h.mid_key he).1 false;simp only[Ent.val] at hl;have hlt:a < w.heap.size:=h.lt
 obtain⟨n,hn⟩:∃ n,n=e.vals.length:=⟨_,rfl⟩
 rw[← hn] at hl hm hc;have g1:e.mark < n:=by omega
 have g2:e.mark+2≤n:=by omega
 have g3:e.cap≠e.mark:=by omega
 have hml:=lt_of_some h.map
 have hput:=run_put_some (w:=(w.alloc (.cells #[.slice (some ⟨e.blk,e.off+e.mark,none⟩) (n - e.mark) (e.cap - e.mark),.int .i64 0] 262)).drew) (pre:=pre) (post:=post) (e:=e) (e':={ e with vals:=e.vals.drop e.mark,mark:=0,off:=e.off+e.mark,cap:=e.cap - e.mark }) (b:=D.mb) (c:=D.clock)
  ((Below.heap_alloc _ _ _ hml).trans hm0) (h.mid_key he).1 rfl rfl
 rw[show Ent.val { e with vals:=e.vals.drop e.mark,mark:=0,off:=e.off+e.mark,cap:=e.cap - e.mark } = .agg #[.slice (some ⟨e.blk,e.off+e.mark,none⟩) (n - e.mark) (e.cap - e.mark),.int .i64 0] from by simp[Ent.val,hn]] at hput;have HN:=hid hn;have H:=hid h;have HE:=hid he;clear h hm0 he hm hn;go_enter Tryz.func134,Tryz.ntmps134
 go_wp2
 go_region
 go_end0
 have h:=H.out;have he:=HE.out;have hn:=HN.out
 refine⟨rfl,mid_res h he rfl rfl rfl (Off.drew (Off.alloc (Off.refl _ _) _)) ?_⟩
 obtain⟨cs,hcs,r1,r2,r3⟩:=h.ent e (by rw[he];simp)
 have hel:=lt_of_some hcs
 refine⟨cs,(Below.heap_alloc _ _ _ hel).trans hcs,?_,?_,?_⟩
 · show e.off+e.mark+(e.cap - e.mark)=cs.size
   omega
 · show (e.vals.drop e.mark).length≤e.cap - e.mark
   rw[List.length_drop];omega
 · show (cs.toList.drop (e.off+e.mark)).take (e.vals.drop e.mark).length=u64s (e.vals.drop e.mark)
   have:=congrArg (List.drop e.mark) r3
   rw[List.drop_take,List.drop_drop] at this;rw[List.length_drop,this];simp[u64s,List.map_drop]
end
end Pm
end
end Go.Proofs.YtlodpaaanfjkeaaGreatDoor
