/- Texts laid together: EntDecode, EntRef, EntRefDec, EntLives, EntAlike, EntDecodes, EntJoin, EntRows, EntRefAll, EntChunks, EntAll, FldEntries, PatMath, FldFind, FldModel, ChkModel, ChkMeet, ClmGive. -/
import Derived.Test.YtlodpaaanfjkeaaGreatDoorKt6
import Derived.Carry
import Derived.Laws.OwnMore
import Derived.OneCell
import Derived.ArgAppend
import Derived.RangeFuncNested
import Derived.RangeFuncBound
import Derived.RangeFuncCalls
import Derived.RangeFuncLeaves
import Derived.RangeFuncBox
import Derived.Shelf.Abstract
import Derived.Shelf.RegionOpen
import Derived.WalkKit
import Derived.OwnWalkIn
import Derived.TacticsInMore
import Derived.LoopNIn
import Derived.LoopIn
import Derived.Laws.Strings
import Derived.Test.YtlodpaaanfjkeaaGreatDoorKt4
import Derived.Test.YtlodpaaanfjkeaaGreatDoorKt5
set_option maxRecDepth 100000
set_option maxHeartbeats 8000000
namespace Go.Proofs.YtlodpaaanfjkeaaGreatDoor
section
open Lib (hid)
open Go.RowKit Go.MapKept
namespace Ent
def gv:Option (List Nat × Nat)→Value
 | some (l,k)=>.agg #[.string (Crc.str l),.int .i64 (k:Int)]
 | none=>.agg #[.string ⟨#[]⟩,.int .i64 0]
def ev:Option (List Nat × Nat)→Int
 | some _=>0
 | none=>2
theorem dec_len {l:List Nat} (h:l.length≠64):dec l=none:=by
 unfold dec;exact if_neg (fun e=>h e.1)
theorem dec_name {l:List Nat} (h:¬ l[2]?.getD 0≤48):dec l=none:=by
 unfold dec;exact if_neg (fun e=>h e.2.1)
theorem decode_len (w:World) (A:Option Addr) (n c:Nat) (h64:n≠64) :
 Calls Tryz.prog 193 #[.slice A n c] w fun r w'=>r = .returned (.tuple #[gv none,.int .i64 (ev none)])∧Below w.heap.size w w':=by
 have hne:((n:Int) != 64)=true:=by simp;omega
 go_enter Tryz.func193,Tryz.ntmps193
 go_wp2
 refine bodyPost_ret (v:=.tuple #[gv none,.int .i64 (ev none)]) ?_ rfl ⟨rfl,?_⟩
 · simp[results,Tryz.results193,go_sem,gv,ev]
 · first
   | exact (Below.refl _ _).alloc (Nat.le_refl _) _
   | exact (((Below.refl _ _).alloc (Nat.le_refl _) _).setCell (by simp) _).setCell (by simp) _
structure At64 (w:World) (b o:Nat) (l:List Nat):Prop where
 bts:Crc.Bts w (some ⟨b,o,none⟩) l
 len:l.length=64
 lt:b < w.heap.size
theorem At64.cell {w:World} {b o:Nat} {l:List Nat} (h:At64 w b o l) (j:Nat) (hj:j < 64):w.cell? ⟨b,o+j,none⟩=some (.int .u8 ((at' l j:Nat):Int)):=by
 have hl:=h.len
 obtain⟨b',o',e,_,hc⟩:=h.bts.at' j (by omega)
 injection e with e
 injection e with e1 e2
 subst e1 e2;rw[hc];unfold at';rw[List.getElem?_eq_getElem (by omega)];rfl
theorem At64.keep {w w':World} {b o:Nat} {l:List Nat} (h:At64 w b o l) (hb:Below w.heap.size w w'):At64 w' b o l:=⟨h.bts.keep hb,h.len,Nat.lt_of_lt_of_le h.lt hb.size⟩
theorem At64.byte {w:World} {b o:Nat} {l:List Nat} (h:At64 w b o l) (j:Nat):at' l j < 256:=by
 unfold at'
 rcases Nat.lt_or_ge j l.length with h1 | h1
 · rw[List.getElem?_eq_getElem h1]
   exact h.bts.byt _ (List.getElem_mem _)
 · rw[List.getElem?_eq_none h1]
   decide
theorem at64 {w:World} {A:Option Addr} {l:List Nat} (h:Crc.Bts w A l) (hl:l.length=64):∃ b o,A=some ⟨b,o,none⟩∧At64 w b o l:=by
 obtain⟨b,o,rfl,hlt,_⟩:=h.at' 0 (by omega)
 exact⟨b,o,rfl,h,hl,hlt⟩
theorem At64.name {w:World} {b o:Nat} {l:List Nat} (h:At64 w b o l):Crc.Bts w (some ⟨b,o+4,none⟩) (name l):=by
 have hl:=h.len
 refine⟨fun x hx=>h.bts.byt x (List.mem_of_mem_drop (List.mem_of_mem_take hx)),?_,fun j hj=>⟨b,o+4,rfl,h.lt,?_⟩⟩
 · unfold Ent.name
   rw[List.length_take,List.length_drop];omega
 · have hj':=hj
   unfold Ent.name at hj';rw[List.length_take,List.length_drop] at hj'
   have:=h.cell (4+j) (by omega)
   rw[← Nat.add_assoc] at this;have e:(Ent.name l)[j]=l[4+j]'(by omega):=by simp only[Ent.name,List.getElem_take,List.getElem_drop]
   rw[this,e];unfold at';rw[List.getElem?_eq_getElem (by omega)];rfl
theorem name_len {l:List Nat} (hl:l.length=64) (h:at' l 2≤48):(name l).length=at' l 2:=by
 unfold name;rw[List.length_take,List.length_drop];unfold at' at h ⊢;omega
theorem decode_name (w:World) (b o c:Nat) (l:List Nat) (h:At64 w b o l) (hn:¬ at' l 2≤48) :
 Calls Tryz.prog 193 #[.slice (some ⟨b,o,none⟩) 64 c] w fun r w'=>r = .returned (.tuple #[gv none,.int .i64 (ev none)])∧Below w.heap.size w w':=by
 have hb:=h.byte 2;have hc:=h.cell 2 (by omega);have hlt:=h.lt;have hn':(48:Int) < (at' l 2:Nat):=by omega
 clear h;go_enter Tryz.func193,Tryz.ntmps193
 go_wp2
 refine bodyPost_ret (v:=.tuple #[gv none,.int .i64 (ev none)]) ?_ rfl ⟨rfl,?_⟩
 · simp[results,Tryz.results193,go_sem,gv,ev]
 · first
   | exact (Below.refl _ _).alloc (Nat.le_refl _) _
   | exact (((Below.refl _ _).alloc (Nat.le_refl _) _).setCell (by simp) _).setCell (by simp) _
theorem i64_or_nat (a b:Nat) (ha:a < 256) (hb:b < 256):bits .or .i64 (a:Int) ((b:Int) * 256)=((a+256 * b:Nat):Int):=by
 have hx:a ||| b * 256=a+256 * b:=by
  have:=Nat.shiftLeft_add_eq_or_of_lt (b:=a) (i:=8) (show a < 2 ^ 8 from ha) b
  rw[Nat.shiftLeft_eq,show (2:Nat) ^ 8=256 from rfl] at this;rw[Nat.or_comm];omega
 show IntKind.i64.wrap ((BitVec.ofInt 64 (a:Int) ||| BitVec.ofInt 64 ((b:Int) * 256)).toNat:Int)=_
 have e:(b:Int) * 256=((b * 256:Nat):Int):=by omega
 rw[e,BitVec.toNat_or,ofInt_u64 a (by omega),ofInt_u64 (b * 256) (by omega),hx,IntKind.wrap_i64];omega
theorem str_beq {l m:List Nat} (hl:Crc.Byt l) (hm:Crc.Byt m):((Crc.str l).toList == (Crc.str m).toList)=decide (l=m):=by
 by_cases h:l=m
 · subst h
   simp
 · rw[decide_eq_false h]
   refine beq_false_of_ne (fun e=>h ?_);have h1:=Crc.tx_str hl;have h2:=Crc.tx_str hm;rw[tx_toList] at h1 h2;rw[← h1,← h2,e]
theorem equal_any (w:World) (A B:Option Addr) (c d n m:Nat) (l k:List Nat) (hl:Crc.Bts w A l) (hk:Crc.Bts w B k) (en:n=l.length) (em:m=k.length) :
 Calls Tryz.prog 224 #[.slice A n c,.slice B m d] w fun r w'=>r = .returned (.bool (decide (l=k)))∧w=w':=by
 have h1:=Crc.conv_str c hl;have h2:=Crc.conv_str d hk;rw[← en] at h1;rw[← em] at h2;have HE:=hid (str_beq hl.byt hk.byt);clear hl hk en em;generalize Crc.str l=S at *;generalize Crc.str k=T at *;go_enter Tryz.func224,Tryz.ntmps224
 go_wp2
 go_ret
 exact⟨by rw[← HE.out];rfl,rfl⟩
theorem row_enc {W:World} {g:Nat} {l:List Nat} (h:Row W g (at' l)) (hl:l.length=64) (hb:Crc.Byt l):Crc.Bts W (some ⟨g,0,none⟩) l:=
 h.bts 0 l hb (by omega) (fun j hj=>by
  rw[Nat.zero_add];unfold at';rw[List.getElem?_eq_getElem hj]
  rfl)
theorem decode_core (w:World) (b o c:Nat) (l:List Nat) (h:At64 w b o l) (hc:64≤c) (n x0 x1:Nat) (hn:at' l 2=n) (hx0:at' l 0=x0) (hx1:at' l 1=x1) (hn48:n≤48) :
 Calls Tryz.prog 193 #[.slice (some ⟨b,o,none⟩) 64 c] w fun r w'=>r = .returned (.tuple #[gv (dec l),.int .i64 (ev (dec l))])∧Below w.heap.size w w':=by
 have hlt:=h.lt;have HX:=hid (owned w ⟨#[]⟩ 0 154);have HB:=hid ((Below.refl w.heap.size w).alloc (Nat.le_refl _) (.cells #[.string ⟨#[]⟩,.int .i64 0] 154));have HA:=hid (h.keep HB.out);have hb0:x0 < 256:=by rw[← hx0];exact h.byte 0
 have hb1:x1 < 256:=by rw[← hx1];exact h.byte 1
 have hcl0:=h.cell 0 (by omega);rw[Nat.add_zero] at hcl0;have hcl1:=h.cell 1 (by omega);have hcl2:=h.cell 2 (by omega);have hnl:=name_len h.len (by rw[hn];exact hn48);rw[hn] at hcl2 hnl;rw[hx0] at hcl0;rw[hx1] at hcl1;have HNL:=hid hnl;have HN:=hid hn;have HX0:=hid hx0;have HX1:=hid hx1;clear h hn hx0 hx1 hnl;have hno:¬ (48:Int) < (n:Int):=by omega
 go_enter Tryz.func193,Tryz.ntmps193
 go_wp2
 clear hcl0 hcl1 hcl2;have hba:=fun W:World=>(Below.refl W.heap.size W).alloc (Nat.le_refl _) (.cells #[.string ⟨#[]⟩,.int .i64 0] 154)
 have HCV:=hid (fun (W:World) (hW:At64 W b o l)=>show (convert 112 9 (.slice (some ⟨b,o+4,none⟩) n (c - 4))).run Tryz.prog W = .ok (.string (Crc.str (name l))) W by
  have:=Crc.conv_str (c - 4) hW.name
  rwa [HNL.out] at this)
 have hz1:w.heap.size < (w.alloc (.cells #[.string ⟨#[]⟩,.int .i64 0] 154)).heap.size:=HX.out.box.lt;generalize w.alloc (.cells #[.string ⟨#[]⟩,.int .i64 0] 154)=w1 at *;have hv1:=HCV.out _ (HA.out.keep (Below.refl _ w1).drew);have hv2:=HCV.out _ (HA.out.keep ((hba w1).drew));have hcl0:=HA.out.cell 0 (by omega);rw[Nat.add_zero,HX0.out] at hcl0;have hcl1:=HA.out.cell 1 (by omega);rw[HX1.out] at hcl1;have hs1:IntKind.wrap .i64 (x0:Int)=(x0:Int):=by rw[IntKind.wrap_i64];omega
 have hs2:IntKind.wrap .i64 (x1:Int)=(x1:Int):=by rw[IntKind.wrap_i64];omega
 have hs3:IntKind.wrap .i64 ((x1:Int) * 256)=(x1:Int) * 256:=by rw[IntKind.wrap_i64];omega
 have hor:=i64_or_nat x0 x1 hb0 hb1;have hlb:b < w1.heap.size:=HA.out.lt;clear hba;have HK:=hid (show num l=x0+256 * x1 by rw[← HX0.out,← HX1.out];rfl);have HTX:=hid (Crc.tx_str HA.out.name.byt);have HTT:=hid (show Crc.str (name l)=Crc.str (name l) from rfl);generalize x0+256 * x1=k at *;have HZ:=hid (show (Crc.str (name l)).size≤9223372036854775807 by rw[Crc.str_size,HNL.out];omega);have HLL:=hid HA.out.len;generalize Crc.str (name l)=T at HZ HTX hv1 hv2 HCV HTT
 go_region
 all_goals
  (have hba:=(Below.refl w1.heap.size w1).alloc (Nat.le_refl _) (.cells #[.string T,.int .i64 (k:Int)] 154)
   have HX2:=hid (HX.out.keep hba).drew;have HG2:=hid (boxed w1 T k 154).drew;have HB2:=hid (HB.out.trans (hba.mono HB.out.size)).drew;have HA2:=hid (HA.out.keep hba.drew);clear hba hv1 hv2 hcl0 hcl1 hs1 hs2 hs3 hor HX HB HA HCV;go_wp2_with fail
   generalize (w1.alloc (.cells #[.string T,.int .i64 (k:Int)] 154)).drew=w2 at *;generalize w1.heap.size=k1 at *
   cases hmay:may (name l) (k:Int) with
   | false=>
     have HNO:=hid (show dec l=none by
      unfold dec;rw[HK.out,hmay];exact if_neg (fun e=>by simp at e))
     refine (encode_no _ T k HZ.out (by rw[HTX.out];exact hmay)).mono ?_;rintro e w3 ⟨rfl,hb3⟩;have HX3:=hid (HX2.out.keep hb3);have HB3:=hid (HB2.out.trans (hb3.mono HB2.out.size));have hc0:=HX3.out.box.c0;have hc1:=HX3.out.box.c1;have hf0:=HX3.out.f 0;have hf1:=HX3.out.f 1;clear hb3 hmay HX2 HB2 HG2 HA2;go_wp2
     rw[HNO.out];refine bodyPost_ret (v:=.tuple #[gv none,.int .i64 (ev none)]) ?_ rfl ⟨rfl,?_⟩
     · simp[results,Tryz.results193,go_sem,gv,ev,hc0,hc1]
     · exact (HB3.out.setCell (Nat.le_refl _) _).setCell (Nat.le_refl _) _
   | true=>
     refine (encode_yes _ T k (by rw[HTX.out];exact hmay)).mono ?_;rintro e w3 ⟨g,hg,rfl,hr,hb3⟩;rw[HTX.out] at hr;have hnl:=may_len hmay;have HA3:=hid (HA2.out.keep hb3);have HQ:=hid (equal_any w3 (some ⟨b,o,none⟩) (some ⟨g,0,none⟩) c 64 64 64 l (enc (name l) k) HA3.out.bts (row_enc hr (enc_len hnl k) (enc_byt HA3.out.name.byt hnl k)) HA3.out.len.symm (enc_len hnl k).symm);have HX3:=hid (HX2.out.keep hb3);have HG3:=hid (HG2.out.keep hb3);have HB3:=hid (HB2.out.trans (hb3.mono HB2.out.size));have hc0:=HX3.out.box.c0;have hc1:=HX3.out.box.c1;have hf0:=HX3.out.f 0;have hf1:=HX3.out.f 1;have hg0:=HG3.out.c0;have hg1:=HG3.out.c1;have HM:=hid hmay;clear hb3 hmay HX2 HB2 HG2 hr hnl;go_wp2_with fail
     refine HQ.out.mono ?_;rintro e w' ⟨rfl,rfl⟩;by_cases hls:l=enc (name l) k
     · have HNO:=hid (show dec l=some (name l,k) by
        unfold dec;rw[HK.out];exact if_pos ⟨HA3.out.len,by have:=HN.out;unfold at' at this;omega,HM.out,hls⟩)
       have HTE:=hid (show T=Crc.str (name l) by rw[← HTX.out,str_tx]);rw[decide_eq_true hls];clear hls HQ;go_wp2
       rw[HNO.out];refine bodyPost_ret (v:=.tuple #[gv (some (name l,k)),.int .i64 (ev (some (name l,k)))]) ?_ rfl ⟨rfl,?_⟩
       · simp[results,Tryz.results193,go_sem,gv,ev,hc0,hc1,HTE.out]
       · exact (HB3.out.setCell (Nat.le_refl _) _).setCell (Nat.le_refl _) _
     · have HNO:=hid (show dec l=none by
        unfold dec;rw[HK.out];exact if_neg (fun e=>hls e.2.2.2))
       rw[decide_eq_false hls];clear hls HQ;go_wp2
       rw[HNO.out];refine bodyPost_ret (v:=.tuple #[gv none,.int .i64 (ev none)]) ?_ rfl ⟨rfl,?_⟩
       · simp[results,Tryz.results193,go_sem,gv,ev,hc0,hc1]
       · exact (HB3.out.setCell (Nat.le_refl _) _).setCell (Nat.le_refl _) _)
theorem decode_any (w:World) (A:Option Addr) (c n:Nat) (l:List Nat) (h:Crc.Bts w A l) (hn:n=l.length) (hc:n≤c) :
 Calls Tryz.prog 193 #[.slice A n c] w fun r w'=>r = .returned (.tuple #[gv (dec l),.int .i64 (ev (dec l))])∧Below w.heap.size w w':=by
 by_cases h64:l.length=64
 · obtain⟨b,o,rfl,ha⟩:=at64 h h64
   rw[h64] at hn;subst hn;by_cases h48:at' l 2≤48
   · exact decode_core w b o c l ha hc _ _ _ rfl rfl rfl h48
   · rw[dec_name h48]
     exact decode_name w b o c l ha h48
 · rw[dec_len h64]
   exact decode_len w A n c (by omega)
end Ent
end
section
open Go.RowKit Go.MapKept
namespace Ent
theorem tx_inj {S T:ByteArray} (h:Crc.tx S=Crc.tx T):S=T:=by rw[← str_tx S,← str_tx T,h]
end Ent
end
section
open Go.RowKit Go.MapKept
namespace Ent
theorem tx_extract (s:ByteArray) (a b:Nat):Crc.tx (s.extract a b)=((Crc.tx s).drop a).take (b - a):=by
 unfold Crc.tx;rw[ByteArray.data_extract,Array.toList_extract,List.extract_eq_take_drop,List.map_take,List.map_drop]
end Ent
end
section
open Lib (hid)
open Go.RowKit Go.MapKept
namespace Ent
theorem may_ex:may (Crc.tx ⟨#[97,98]⟩) ((258:Nat):Int)=true:=by decide +kernel
theorem seven_ex:(enc (Crc.tx ⟨#[97,98]⟩) 258).take 7=[2,1,2,0,97,98,0]:=by decide +kernel
theorem str_ex:(Crc.str [2,1,2,0,97,98,0])=⟨#[2,1,2,0,97,98,0]⟩:=rfl
theorem row_part {W:World} {g:Nat} {l:List Nat} (h:Row W g (at' l)) (hl:l.length=64) (hb:Crc.Byt l) (n:Nat):Crc.Bts W (some ⟨g,0,none⟩) (l.take n):=
 h.bts 0 (l.take n) (hb.take n) (by rw[List.length_take];omega) (fun j hj=>by
  rw[List.length_take] at hj;rw[Nat.zero_add,List.getElem_take];unfold at';rw[List.getElem?_eq_getElem (by omega)]
  rfl)
theorem lives_any (w:World):Calls Tryz.prog 43 #[] w fun r w'=>r = .returned (.bool true)∧Below w.heap.size w w':=by
 have HE:=hid (encode_yes w ⟨#[97,98]⟩ 258 may_ex);have HC:=hid Crc.lives_any;have H48:=hid (may_len may_ex);rw[show ((258:Nat):Int)=258 from rfl] at HE;go_enter Tryz.func43,Tryz.ntmps43
 go_wp2_with fail
 refine HE.out.mono ?_;rintro e w1 ⟨g,hg,rfl,hr,hb⟩;have HR:=hid hr;have HB:=hid hb;clear hr hb hg;go_wp2_with fail
 refine (HC.out _).mono ?_;rintro e w2 ⟨rfl,hb2⟩;have HB2:=hid (HB.out.trans (hb2.mono HB.out.size));have hcv:=Crc.conv_str 64 (row_part (HR.out.keep hb2) (enc_len H48.out 258) (enc_byt (Crc.tx_byt _) H48.out 258) 7);rw[seven_ex,str_ex] at hcv;rw[show ([2,1,2,0,97,98,0]:List Nat).length=7 from rfl] at hcv;clear hb2 HB HR HE;go_wp2
 go_ret
 exact⟨rfl,HB2.out⟩
abbrev En:=ByteArray × Int
structure Es (w:World) (A:Option Addr) (l:List En):Prop where
 size:∀ e∈l,e.1.size≤9223372036854775807
 len:l.length≤9223372036854775807
 at':∀ j (h:j < l.length),∃ b o,A=some ⟨b,o,none⟩∧b < w.heap.size∧w.cell? ⟨b,o+j * 2,none⟩=some (.string l[j].1)∧w.cell? ⟨b,o+j * 2+1,none⟩=some (.int .i64 l[j].2)
def Few (l:List En):Prop:=(∀ e∈l,e.1.size≤100)∧l.length≤40
instance (l:List En):Decidable (Few l):=by unfold Few;infer_instance
def few (l:List En):Bool:=decide (Few l)
end Ent
end
section
open Lib (hid)
open Go.RowKit Go.MapKept
namespace Ent
def ment (i:Nat) (s:ByteArray):MapEntry:=⟨.string s,.bool true,i⟩
def ments (l:List ByteArray):List MapEntry:=l.mapIdx ment
theorem ments_snoc (l:List ByteArray) (s:ByteArray):ments (l++[s])=ments l++[ment l.length s]:=by
 unfold ments;rw[List.mapIdx_append];simp
theorem mem_ments {l:List ByteArray} {e:MapEntry} (h:e∈ments l):∃ i s,s∈l∧e=ment i s:=by
 unfold ments at h
 obtain⟨i,hi,rfl⟩:=List.mem_mapIdx.1 h
 exact⟨i,l[i],List.getElem_mem hi,rfl⟩
theorem ba_ne {s t:ByteArray} (h:s≠t):(s == t)=false:=by
 cases e:(s == t) with
 | false=>rfl
 | true=>exact absurd ((bytes_beq s t).1 e) h
theorem ba_eq (s:ByteArray):(s == s)=true:=(bytes_beq s s).2 rfl
theorem find_none (s:ByteArray):∀ (es:List MapEntry) (i:Nat),(∀ e∈es,∃ j t,t≠s∧e=ment j t)→Instr.findNow .string (.string s) es i=some none
 | [],_,_=>rfl
 | e :: r,i,h=>by
   obtain⟨j,t,ht,rfl⟩:=h e (List.mem_cons_self ..)
   have hne:(s == t)=false:=ba_ne (fun e=>ht e.symm);simp only[Instr.findNow,ment,Instr.sameNow,hne];exact find_none s r (i+1) (fun e he=>h e (List.mem_cons_of_mem _ he))
theorem find_some (s:ByteArray):∀ (es:List MapEntry) (i:Nat),(∀ e∈es,∃ j t,e=ment j t)→(∃ j,ment j s∈es)→∃ k,Instr.findNow .string (.string s) es i=some (some (k,.bool true))
 | [],_,_,h=>by
   obtain⟨j,h⟩:=h
   simp at h
 | e :: r,i,h,hx=>by
   obtain⟨j,t,rfl⟩:=h e (List.mem_cons_self ..)
   by_cases ht:s=t
   · subst ht
     exact⟨i,by simp[Instr.findNow,ment,Instr.sameNow,ba_eq]⟩
   · have hne:(s == t)=false:=ba_ne ht
     obtain⟨j',hj⟩:=hx
     obtain⟨k,hk⟩:=find_some s r (i+1) (fun e he=>h e (List.mem_cons_of_mem _ he)) ⟨j',by
      rcases List.mem_cons.1 hj with h1 | h1
      · simp[ment] at h1
        exact absurd h1.1 ht
      · exact h1⟩
     refine⟨k,?_⟩
     simp only[Instr.findNow,ment,Instr.sameNow,hne];exact hk
def putMap (w:World) (b:Nat) (es:List MapEntry) (c:Nat):World:={ w with heap:=w.heap.setIfInBounds b (.map es.toArray c) }
theorem putMap_at {w:World} {b c:Nat} {es:List MapEntry} (hb:b < w.heap.size):(putMap w b es c).heap[b]? = some (.map es.toArray c):=by simp[putMap,hb]
theorem putMap_below {w0 w:World} {N b c:Nat} {es:List MapEntry} (h:Below N w0 w) (hb:N≤b):Below N w0 (putMap w b es c):=
 h.trans ⟨rfl,rfl,rfl,by simp[putMap],fun k hk=>by
  have:b≠k:=by omega
  simp[putMap,this]⟩
section
variable {w : World} {b c : Nat} {l : List ByteArray} {s : ByteArray}
theorem run_look_no (hb:w.heap[b]? = some (.map (ments l).toArray c)) (hs:s∉l):(Instr.lookup 297 (.map (some b)) (.string s) false).run Tryz.prog w = .ok (.bool false) w:=by
 have hf:=find_none s (ments l) 0 (fun e he=>by
  obtain⟨i,t,ht,rfl⟩:=mem_ments he
  exact⟨i,t,fun h=>hs (h ▸ ht),rfl⟩)
 simp[Instr.lookup,run_underlying Tryz.underlying297,MapKept.run_getObj_map hb,run_checkKey (k:=.string s) Tryz.underlying9 trivial,run_findKey Tryz.underlying9 hf,Result.andThen]
theorem run_look_yes (hb:w.heap[b]? = some (.map (ments l).toArray c)) (hs:s∈l):(Instr.lookup 297 (.map (some b)) (.string s) false).run Tryz.prog w = .ok (.bool true) w:=by
 obtain⟨k,hf⟩:=find_some s (ments l) 0 (fun e he=>by
  obtain⟨i,t,_,rfl⟩:=mem_ments he
  exact⟨i,t,rfl⟩) (by
  obtain⟨i,hi,rfl⟩:=List.getElem_of_mem hs
  exact⟨i,by
   unfold ments;exact List.mem_mapIdx.2 ⟨i,hi,rfl⟩⟩)
 simp only[Instr.lookup,Sem.run_bind,run_underlying Tryz.underlying297,Result.andThen,MapKept.run_getObj_map hb,Sem.run_pure,run_checkKey (k:=.string s) Tryz.underlying9 trivial,run_findKey Tryz.underlying9 hf];rfl
theorem run_put (hb:w.heap[b]? = some (.map (ments l).toArray l.length)) (hs:s∉l):(Instr.mapUpdate 297 (.map (some b)) (.string s) (.bool true)).run Tryz.prog w = .ok () (putMap w b (ments (l++[s])) (l.length+1)):=by
 have hf:=find_none s (ments l) 0 (fun e he=>by
  obtain⟨i,t,ht,rfl⟩:=mem_ments he
  exact⟨i,t,fun h=>hs (h ▸ ht),rfl⟩)
 simp only[Instr.mapUpdate,Sem.run_bind,run_underlying Tryz.underlying297,Result.andThen,MapKept.run_getObj_map hb,run_checkKey (k:=.string s) Tryz.underlying9 trivial,run_findKey Tryz.underlying9 hf,run_setObj_map _ hb];simp[putMap,ments_snoc,ment]
end
theorem nameOf_any (w:World) (s:ByteArray) (i:Int):Calls Tryz.prog 195 #[.agg #[.string s,.int .i64 i]] w fun r w'=>r = .returned (.string s)∧Below w.heap.size w w':=by
 go_enter Tryz.func195,Tryz.ntmps195
 go_wp2
 go_ret
 exact⟨rfl,(Below.refl _ _).alloc (Nat.le_refl _) _⟩
def nms (l:List En):List ByteArray:=l.map Prod.fst
def twice (l:List ByteArray):Bool:=!decide l.Nodup
theorem twice_yes {l:List ByteArray} (h:¬ l.Nodup):twice l=true:=by
 unfold twice;rw[decide_eq_false h];rfl
theorem twice_no {l:List ByteArray} (h:l.Nodup):twice l=false:=by
 unfold twice;rw[decide_eq_true h];rfl
theorem nms_take {l:List En} {m:Nat} (h:m < l.length):nms (l.take (m+1))=nms (l.take m)++[l[m].1]:=by
 unfold nms;rw[List.take_succ_eq_append_getElem h,List.map_append];rfl
theorem nms_len (l:List En):(nms l).length=l.length:=by
 unfold nms;rw[List.length_map]
theorem alike_any (w:World) (A:Option Addr) (c n:Nat) (l:List En) (h:Es w A l) (hn:n=l.length) :
 Calls Tryz.prog 194 #[.slice A n c,.func (.func 195) #[] #[]] w fun r w'=>r = .returned (.bool (twice (nms l)))∧Below w.heap.size w w':=by
 subst hn;have hn:=h.len;have H:=hid h;clear h;have HNM:=hid nameOf_any;have hmm:=@run_makeMap Tryz.prog;go_enter Tryz.func194,Tryz.ntmps194
 go_wp2
 clear hmm
 go_loopw [12] (fun i wr=>∃ m:Nat,m≤l.length∧i = .int .i64 (m:Int)∧wr.heap[w.heap.size]? = some (.map (ments (nms (l.take m))).toArray m)∧(nms (l.take m)).Nodup∧Below w.heap.size w wr) (fun i _=>l.length - (intOf i).toNat)
 case atStart=>exact⟨0,Nat.zero_le _,rfl,get_new rfl,by simp[nms],(Below.refl _ _).alloc (Nat.le_refl _) _⟩
 case round=>
  obtain⟨m,hm,rfl,hmap,hnd,hb⟩:=hrel
  have HM:=hid hmap;have HD:=hid hnd;have HB:=hid hb;have hwr:w.heap.size < wr.heap.size:=(Array.getElem?_eq_some_iff.1 hmap).1;clear hmap hnd;by_cases hlt:m < l.length
  · obtain⟨b,o,rfl,hbb,hc0,hc1⟩:=H.out.at' m hlt
    have hc0:=(hb.cell (p:=⟨b,o+m * 2,none⟩) hbb).trans hc0;have hc1:=(hb.cell (p:=⟨b,o+m * 2+1,none⟩) hbb).trans hc1;have HT:=hid (nms_take hlt)
    have HPF:=hid (show nms (l.take m)++[l[m].1] <+: nms l by
     rw[← nms_take hlt];unfold nms;exact (List.take_prefix (m+1) l).map _)
    clear hb;have HML:=hid (show (nms (l.take m)).length=m by rw[nms_len,List.length_take];omega);generalize l[m]=e at *
    obtain⟨s,i⟩:=e
    simp only at hc0 hc1 HT HPF;have hba:=(Below.refl wr.heap.size wr).alloc (Nat.le_refl _) (.cells #[.string s,.int .i64 i] 154);go_wp2_with fail
    refine (HNM.out _ s i).mono ?_;rintro e w2 ⟨rfl,hb2⟩;have hb3:=hba.trans (hb2.mono hba.size);have hmp:w2.heap[w.heap.size]? = some (.map (ments (nms (l.take m))).toArray m):=(hb3.block _ hwr).trans HM.out;have HB3:=hid (HB.out.trans (hb3.mono HB.out.size));have hw2:w.heap.size < w2.heap.size:=Nat.lt_of_lt_of_le hwr hb3.size;clear hba hb2 hb3;by_cases hs:s∈nms (l.take m)
    · have hlk:=run_look_yes hmp hs
      have HTW:=hid (twice_yes (fun hnd:(nms l).Nodup=>by
       have h1:=hnd.sublist HPF.out.sublist;rw[List.nodup_append] at h1;exact h1.2.2 s hs s (by simp) rfl))
      go_wp2
      go_ret
      exact⟨by rw[HTW.out];rfl,HB3.out⟩
    · have hlk:=run_look_no hmp hs
      rw[← HML.out] at hmp;have hpt:=run_put (by rw[HML.out] at hmp ⊢;exact hmp) hs;rw[HML.out] at hpt;have HAT:=hid (putMap_at (c:=m+1) (es:=ments (nms (l.take m)++[s])) hw2);have HPB:=hid (putMap_below (c:=m+1) (es:=ments (nms (l.take m)++[s])) HB3.out (Nat.le_refl w.heap.size))
      have HND:=hid (show (nms (l.take m)++[s]).Nodup by
       rw[List.nodup_append]
       refine⟨HD.out,by simp,fun a ha b hb=>?_⟩
       obtain rfl:b=s:=by simpa using hb
       exact fun e=>hs (e ▸ ha))
      clear hmp;go_wp2
      refine⟨⟨m+1,by omega,by go_num,?_,?_,HPB.out⟩,by simp[intOf];omega⟩
      · rw[HT.out]
        exact HAT.out
      · rw[HT.out]
        exact HND.out
  · obtain rfl:m=l.length:=by omega
    rw[List.take_length] at HD;have HTW:=hid (twice_no HD.out);go_wp2
    go_ret
    exact⟨by rw[HTW.out];rfl,HB.out⟩
end Ent
end
section
open Go.RowKit Go.MapKept
namespace Ent
theorem wpList_append_run {P:Program} {w w':World} {ops:Array Oper} {rest:List Oper} {o:Oper} {a:Act} {Q:Exit→Act→World→Prop} (hgd:o.guard=none) (s x:Operand) (t:TypeId)
 (ho:o.op = .call { callee:=.builtin .append,args:=#[s,x],argTypes:=#[t,t] }) (v u v':Value) (hs:a.eval s=v) (hx:a.eval x=u) (hr:(Builtin.append_ #[t,t] o.type #[v,u]).run P w = .ok v' w')
 (h:wpList P ops Q rest (a.put o.dst v') w'):wpList P ops Q (o :: rest) a w:=by
 refine wpList_plain hgd fun K hK=>?_
 unfold Oper.wp execOp;simp only[ho,resolve,invoke,builtin,Sem.run_bind,Sem.run_pure,Result.andThen_ok,List.map_toArray,List.map_cons,List.map_nil,hs,hx,hr];exact hK _ _ h
section
variable {w : World}
end
end Ent
end
section
open Go.RowKit Go.MapKept
namespace Ent
theorem own_keep {W W':World} {B n s:Nat} {t:TypeId} {v:Value} {xs:List Value} (h:W.ownsRow B t s v n xs) (hb:Below W.heap.size W W'):W'.ownsRow B t s v n xs:=by
 refine⟨h.1,?_⟩
 rcases h.2 with h0 | ⟨g,cap,cur,e,hg,hh,r⟩
 · exact .inl h0
 · exact .inr ⟨g,cap,cur,e,hg,(hb.block g (Array.getElem?_eq_some_iff.1 hh).1).trans hh,r⟩
end Ent
end
section
open Go.RowKit Go.MapKept
namespace Ent
def ecells (l:List En):List Value:=l.flatMap fun e=>[.string e.1,.int .i64 e.2]
theorem ecells_get {l:List En}:∀ {j:Nat} (h:j < l.length),(ecells l)[j * 2]? = some (.string l[j].1)∧(ecells l)[j * 2+1]? = some (.int .i64 l[j].2):=by
 induction l with
 | nil=>intro j h;simp at h
 | cons f l ih=>
   intro j h
   cases j with
   | zero=>exact⟨rfl,rfl⟩
   | succ j=>
     have:=ih (j:=j) (by simpa using h)
     have e:(j+1) * 2=j * 2+1+1:=by omega
     rw[e]
     simpa [ecells] using this
theorem ecells_len (l:List En):(ecells l).length=l.length * 2:=by
 induction l with
 | nil=>rfl
 | cons f l ih=>simp only[ecells,List.flatMap_cons,List.length_append,List.length_cons,List.length_nil] at *;omega
theorem ecells_snoc (l:List En) (e:En):ecells (l++[e])=ecells l++[.string e.1,.int .i64 e.2]:=by
 unfold ecells;rw[List.flatMap_append];simp
theorem own_es {W:World} {B n c:Nat} {t:TypeId} {G:Option Addr} {l:List En} (h:W.ownsRow B t 2 (.slice G n c) n (ecells l)) (hs:∀ e∈l,e.1.size≤9223372036854775807) (hm:n≤9223372036854775807):Es W G l:=by
 have hl:l.length=n:=by
  have:=h.1
  rw[ecells_len] at this;omega
 refine⟨hs,by omega,fun j hj=>?_⟩
 obtain⟨f0,f1⟩:=ecells_get hj
 rcases h.2 with ⟨e,h0⟩ | ⟨g,cap,cur,e,_,hh,_,_,_,ht⟩
 · omega
 · injection e with e
   subst e
   have key:∀ i,i < n * 2→W.cell? ⟨g,0+i,none⟩=(ecells l)[i]?:=fun i hi=>by
    have:=congrArg (·[i]?) ht
    rw[List.getElem?_take,if_pos hi] at this;unfold World.cell?;rw[hh,Nat.zero_add];simp only;rw[← Array.getElem?_toList];exact this
   exact⟨g,0,rfl,(Array.getElem?_eq_some_iff.1 hh).1,(key _ (by omega)).trans f0,(key (j * 2+1) (by omega)).trans f1⟩
theorem row_slice2 {B n:Nat} {W:World} {e:TypeId} {v:Value} {xs:List Value} (h:W.ownsRow B e 2 v n xs):∃ G c,v = .slice G n c:=by
 rcases h.2 with ⟨e,h0⟩ | ⟨g,cap,cur,e,_⟩
 · exact⟨none,0,by rw[e,h0]⟩
 · exact⟨_,_,e⟩
theorem entry_info:(Tryz.prog.info? 154).map (fun i=>(i.zero,i.size,i.bytes))=some (some (.agg #[.string ⟨#[]⟩,.int .i64 0]),2,24):=by kernel_rfl
theorem cells_two_new (w:World) (x y:Value) (t:TypeId):∀ j u,[x,y][j]? = some u→(w.alloc (.cells #[x,y] t)).cell? ((⟨w.heap.size,0,none⟩:Addr).add j)=some u:=by
 intro j u hj
 match j,hj with
 | 0,hj=>
   simp at hj;subst hj;simp[Addr.add]
 | 1,hj=>
   simp at hj;subst hj;simp[Addr.add]
end Ent
end
section
open Go.RowKit Go.MapKept
namespace Ent
def chk (b:List Nat) (i:Nat):List Nat:=(b.drop (64 * i)).take 64
def ens (l:List (List Nat × Nat)):List En:=l.map fun p=>(Crc.str p.1,(p.2:Int))
def Decs (b:List Nat) (ds:List (List Nat × Nat)):Prop:=∀ i (h:i < ds.length),dec (chk b i)=some ds[i]
def All (b:List Nat) (l:List (List Nat × Nat)):Prop:=b.length=64 * l.length∧Decs b l∧(nms (ens l)).Nodup
theorem ens_len (l:List (List Nat × Nat)):(ens l).length=l.length:=by
 unfold ens;rw[List.length_map]
theorem ens_snoc (l:List (List Nat × Nat)) (p:List Nat × Nat):ens (l++[p])=ens l++[(Crc.str p.1,(p.2:Int))]:=by
 unfold ens;rw[List.map_append];rfl
theorem Decs.nil (b:List Nat):Decs b []:=fun i h=>absurd h (by simp)
theorem Decs.size {b:List Nat} {ds:List (List Nat × Nat)} (h:Decs b ds):∀ e∈ens ds,e.1.size≤9223372036854775807:=by
 intro e he
 obtain⟨p,hp,rfl⟩:=List.mem_map.1 he
 obtain⟨i,hi,rfl⟩:=List.getElem_of_mem hp
 have:=(dec_some (h i hi)).1
 have h48:=may_len this;rw[Crc.str_size];exact Nat.le_trans h48 (by decide)
theorem Decs.unique {b:List Nat} {ds es:List (List Nat × Nat)} (h:Decs b ds) (k:Decs b es) (e:ds.length=es.length):ds=es:=by
 refine List.ext_getElem e (fun i h1 h2=>?_);have a:=h i h1;rw[k i h2] at a;injection a with a
 exact a.symm
theorem All.unique {b:List Nat} {l m:List (List Nat × Nat)} (h:All b l) (k:All b m):l=m:=h.2.1.unique k.2.1 (by have:=h.1;have:=k.1;omega)
open Classical in
noncomputable def alls (b:List Nat):Option (List (List Nat × Nat)):=if h:∃ l,All b l then some (Classical.choose h) else none
theorem alls_some {b:List Nat} {l:List (List Nat × Nat)} (h:All b l):alls b=some l:=by
 have hx:∃ l,All b l:=⟨l,h⟩;unfold alls;rw[dif_pos hx,(Classical.choose_spec hx).unique h]
theorem alls_none {b:List Nat} (h:∀ l,¬ All b l):alls b=none:=by
 unfold alls;rw[dif_neg (fun ⟨l,hl⟩=>h l hl)]
theorem alls_is {b:List Nat} {l:List (List Nat × Nat)} (h:alls b=some l):All b l:=by
 unfold alls at h
 split at h
 · rename_i hx
   injection h with h
   rw[← h];exact Classical.choose_spec hx
 · cases h
theorem none_chunk {b:List Nat} {m:Nat} (hm:64 * m+64≤b.length) (h:dec (chk b m)=none):alls b=none:=
 alls_none (fun l hl=>by
  have h1:=hl.1;have h2:=hl.2.1 m (by omega);rw[h] at h2
  cases h2)
theorem none_len {b:List Nat} (h:b.length % 64≠0):alls b=none:=
 alls_none (fun l hl=>by
  have h1:=hl.1
  omega)
theorem none_twice {b:List Nat} {ds:List (List Nat × Nat)} (hd:Decs b ds) (hl:b.length=64 * ds.length) (h:¬ (nms (ens ds)).Nodup):alls b=none:=
 alls_none (fun l hk=>by
  have:=hk.2.1.unique hd (by have:=hk.1;omega)
  rw[this] at hk;exact h hk.2.2)
def RefTo (w:World) (b:List Nat) (r:Ending) (w':World):Prop:=
 match alls b with
 | none=>r = .returned (.tuple #[.slice none 0 0,.bool false])∧Below w.heap.size w w'
 | some l=>∃ (G:Option Addr) (gc:Nat),r = .returned (.tuple #[.slice G l.length gc,.bool true])∧Es w' G (ens l)∧Below w.heap.size w w'
theorem RefTo.none {w w':World} {b:List Nat} {r:Ending} (h:alls b=Option.none) (hr:r = .returned (.tuple #[.slice Option.none 0 0,.bool false])) (hb:Below w.heap.size w w'):RefTo w b r w':=by
 unfold RefTo;rw[h]
 exact⟨hr,hb⟩
theorem RefTo.some {w w':World} {b:List Nat} {l:List (List Nat × Nat)} {r:Ending} {G:Option Addr} {gc:Nat} (h:alls b=Option.some l) (hr:r = .returned (.tuple #[.slice G l.length gc,.bool true])) (he:Es w' G (ens l)) (hb:Below w.heap.size w w'):RefTo w b r w':=by
 unfold RefTo;rw[h]
 exact⟨G,gc,hr,he,hb⟩
end Ent
end
section
open Lib (hid)
open Go.RowKit Go.Shelf Go.MapKept
attribute [local go_sem] Oper.semAt_some
namespace Ent
def ech (b o c:Nat) {n:Nat} (x:Fin n):Array Value:=#[.slice (some ⟨b,o+64 * x.1,none⟩) 64 (c - 64 * x.1)]
def Kpt (B:Nat) (W W':World):Prop:=W'.heap[B]? = W.heap[B]?
def upto (n m:Nat):List (Fin n):=(List.finRange n).take m
theorem upto_len {n m:Nat} (h:m≤n):(upto n m).length=m:=by
 unfold upto;rw[List.length_take,List.length_finRange];omega
theorem upto_succ {n m:Nat} (h:m < n):upto n (m+1)=upto n m++[⟨m,h⟩]:=by
 unfold upto;rw[List.take_succ_eq_append_getElem (by rw[List.length_finRange];exact h),List.getElem_finRange];rfl
theorem upto_all (n:Nat):upto n n=List.finRange n:=by
 unfold upto;rw[List.take_of_length_le (by rw[List.length_finRange];exact Nat.le_refl _)]
theorem chunks1_in (F:Fence) (f:Nat) (h33:F.fn 223) (hro:F.round=none) (hf:1≤f) (l Bn:Nat) (A:Option Addr) (b o c n:Nat) (hA:0 < n→A=some ⟨b,o,none⟩) (hc:64 * n≤c) (hn:n≤1000) (J Jx:List (Fin n)→World→Prop)
 (hY:∀ pre x W,J pre W→pre.length < n→YieldAt F (f - 1) Tryz.prog l (ech b o c x) W fun e W'=>
   (e = .returned (.bool true)∧J (pre++[x]) W'∧Kpt Bn W W')∨(e = .returned (.bool false)∧Jx (pre++[x]) W'))
 (W:World) (hBn:Boxed W Bn 112 (.slice A (64 * n) c)) (h0:J [] W) :
 CallsIn F f Tryz.prog 223 #[.func (.yield l) #[] #[],.pointer (some ⟨Bn,0,none⟩)] W fun e W'=>(∃ v,e = .returned v) ∧
  ((∃ ys,ys=List.finRange n∧J ys W')∨(∃ pre,pre <+: List.finRange n∧Jx pre W')):=by
 refine callsIn_of_wp Tryz.func223 rfl h33 ?_ hro;simp only[Tryz.ntmps223,List.size_toArray,List.length_cons,List.length_nil,Nat.reduceAdd,Nat.reduceSub,Array.replicate_succ,Array.replicate_zero,List.push_toArray,List.append_toArray,List.nil_append,List.cons_append]
 gi_wp2
 gi_loopw [3] (fun p wr=>∃ m:Nat,m≤n∧p = .int .i64 ((64 * m:Nat):Int)∧Boxed wr Bn 112 (.slice A (64 * n) c)∧J (upto n m) wr)
  (fun p _=>64 * n - (intOf p).toNat)
 case atStart=>exact⟨0,Nat.zero_le _,rfl,hBn,h0⟩
 case round=>
  obtain⟨m,hm,rfl,hbx,hJs⟩:=hrel
  have hcell:=hbx.cell;by_cases hlt:m < n
  · obtain rfl:=hA (by omega)
    obtain⟨fn,tmps,assign,body,hy,hR⟩:=hY (upto n m) ⟨m,hlt⟩ wr hJs (by rw[upto_len hm];exact hlt)
    have HU:=hid (upto_succ hlt);have hRR:=hid hR
    dsimp only[ech] at hy
    clear hR
    gi_wp2
    refine hRR.out.mono ?_;rintro e W3 (⟨rfl,hJ3,hk3⟩ | ⟨rfl,hJx3⟩)
    · have hbx3:Boxed W3 Bn 112 (.slice (some ⟨b,o,none⟩) (64 * n) c):=Eq.trans hk3 hbx
      have HB3:=hid hbx3;have HJ3:=hid hJ3;clear hbx3 hJ3 hk3
      gi_wp2
      go_roundw
      case rel=>exact⟨m+1,by omega,by congr 1,HB3.out,by rw[HU.out];exact HJ3.out⟩
      case measure=>simp[intOf];omega
    · have HJX:=hid hJx3
      clear hJx3
      gi_wp2
      refine bodyPost_ret (results_none rfl _ _ _) rfl ?_
      exact⟨⟨_,rfl⟩,.inr ⟨_,by rw[← HU.out];exact List.take_prefix _ _,HJX.out⟩⟩
  · obtain rfl:m=n:=by omega
    rw[upto_all] at hJs
    gi_wp2
    go_end0
    exact⟨⟨_,rfl⟩,.inl ⟨_,rfl,hJs⟩⟩
theorem chunks_in (F:Fence) (f:Nat) (h28:F.fn 192) (hro:F.round=none) (v:Option Addr) (n c:Nat) (w:World) :
 CallsIn F f Tryz.prog 192 #[.slice v n c] w fun e w'=>e = .returned (.func (.func 223) #[] #[.pointer (some ⟨w.heap.size,0,none⟩)])∧w'=w.alloc (.cells #[.slice v n c] 112):=by
 refine callsIn_of_wp Tryz.func192 rfl h28 ?_ hro;simp only[Tryz.ntmps192,List.size_toArray,List.length_cons,List.length_nil,Nat.reduceAdd,Nat.reduceSub,Array.replicate_succ,Array.replicate_zero,List.push_toArray,List.append_toArray,List.nil_append,List.cons_append]
 gi_wp2
 go_ret
 exact⟨rfl,rfl⟩
theorem chunks_stops (F:Fence) (f:Nat) (h33:F.fn 223) (hro:F.round=none) (hf:1≤f) (Bn:Nat) (A:Option Addr) (b o c n:Nat) (hA:0 < n→A=some ⟨b,o,none⟩) (hc:64 * n≤c) (hn:n≤1000) (w:World) (hBn:Boxed w Bn 112 (.slice A (64 * n) c)) :
 SeqStopsK F f Tryz.prog 223 #[.pointer (some ⟨Bn,0,none⟩)] (ech b o c (n:=n)) (Kpt Bn) (fun ys=>ys=List.finRange n) (fun pre=>pre <+: List.finRange n) n w:=fun l J Jx W hW _ _ hY h0=>
 chunks1_in F f h33 hro hf l Bn A b o c n hA hc hn J Jx hY W ((hW.block Bn hBn.lt).trans hBn) h0
end Ent
end
section
open Lib (hid)
open Go.RowKit Go.Shelf Go.MapKept
attribute [local go_sem] Oper.semAt_some
namespace Ent
def AllTo (w:World) (b:List Nat) (r:Ending) (w':World):Prop:=
 match alls b with
 | none=>r = .returned (.tuple #[.slice none 0 0,.int .i64 2])∧Below w.heap.size w w'
 | some l=>∃ (G:Option Addr) (gc:Nat),r = .returned (.tuple #[.slice G l.length gc,.int .i64 0])∧Es w' G (ens l)∧Below w.heap.size w w'
theorem AllTo.none {w w':World} {b:List Nat} {r:Ending} (h:alls b=Option.none) (hr:r = .returned (.tuple #[.slice Option.none 0 0,.int .i64 2])) (hb:Below w.heap.size w w'):AllTo w b r w':=by
 unfold AllTo;rw[h]
 exact⟨hr,hb⟩
theorem AllTo.some {w w':World} {b:List Nat} {l:List (List Nat × Nat)} {r:Ending} {G:Option Addr} {gc:Nat} (h:alls b=Option.some l) (hr:r = .returned (.tuple #[.slice G l.length gc,.int .i64 0])) (he:Es w' G (ens l)) (hb:Below w.heap.size w w'):AllTo w b r w':=by
 unfold AllTo;rw[h]
 exact⟨G,gc,hr,he,hb⟩
def AllN (w:World) (b:List Nat) (r:Ending) (w':World):Prop:=
 match alls b with
 | none=>r = .returned (.tuple #[.slice none 0 0,.int .i64 2])∧Below w.heap.size w w'
 | some l=>∃ (G:Option Addr) (gc:Nat),r = .returned (.tuple #[.slice G l.length gc,.int .i64 0])∧Es w' G (ens l)∧(∀ ad,G = .some ad→w.heap.size≤ad.block)∧Below w.heap.size w w'
theorem AllN.none {w w':World} {b:List Nat} {r:Ending} (h:alls b=Option.none) (hr:r = .returned (.tuple #[.slice Option.none 0 0,.int .i64 2])) (hb:Below w.heap.size w w'):AllN w b r w':=by
 unfold AllN;rw[h]
 exact⟨hr,hb⟩
theorem AllN.some {w w':World} {b:List Nat} {l:List (List Nat × Nat)} {r:Ending} {G:Option Addr} {gc:Nat} (h:alls b=Option.some l) (hr:r = .returned (.tuple #[.slice G l.length gc,.int .i64 0])) (he:Es w' G (ens l)) (hn:∀ ad,G = .some ad→w.heap.size≤ad.block) (hb:Below w.heap.size w w'):AllN w b r w':=by
 unfold AllN;rw[h]
 exact⟨G,gc,hr,he,hn,hb⟩
theorem own_newE {w:World} {B n c s:Nat} {e:TypeId} {G:Option Addr} {xs:List Value} (h:w.ownsRow B e s (.slice G n c) n xs):∀ ad,G = .some ad→B≤ad.block:=by
 rintro ad rfl;exact (World.ownsRow.lt h ad.block rfl).1
theorem all_len (w:World) (A:Option Addr) (n c:Nat) (l:List Nat) (hn:n=l.length) (hm:n≤9223372036854775807) (h64:n % 64≠0) :
 Calls Tryz.prog 135 #[.slice A n c] w (AllN w l):=by
 have hne:((n:Int) % 64 != 0)=true:=by simp;omega
 have HNO:=hid (none_len (b:=l) (by rw[← hn];exact h64));clear hn h64;go_enter Tryz.func135,Tryz.ntmps135
 go_wp2
 refine bodyPost_ret (v:=.tuple #[.slice none 0 0,.int .i64 2]) ?_ rfl (AllN.none HNO.out rfl ?_)
 · simp[results,Tryz.results135,go_sem]
 · first
   | exact ((Below.refl _ _).alloc (Nat.le_refl _) _).alloc (by simp) _
   | exact ((((Below.refl _ _).alloc (Nat.le_refl _) _).alloc (by simp) _).setCell (by simp) _).setCell (by simp) _
def dso (l:List Nat) {n:Nat} (pre:List (Fin n)):List (List Nat × Nat):=pre.map fun x=>(dec (chk l x.1)).getD ([],0)
theorem dso_snoc (l:List Nat) {n:Nat} (pre:List (Fin n)) (x:Fin n) {p:List Nat × Nat} (h:dec (chk l x.1)=some p):dso l (pre++[x])=dso l pre++[p]:=by
 unfold dso;rw[List.map_append];simp[h]
def Inv (w:World) (B4:Nat) (u:Value) (l:List Nat) {n:Nat} (pre:List (Fin n)) (W:World):Prop:=
 Boxed W (B4+1) 112 u∧(∀ x∈pre,∃ p,dec (chk l x.1)=some p)∧Boxed W w.heap.size 150 (.slice none 0 0)∧Boxed W (w.heap.size+1) 31 (.int .i64 0) ∧
  (∃ v,Boxed W B4 150 v∧W.ownsRow w.heap.size 154 2 v pre.length (ecells (ens (dso l pre)))∧True)∧Below w.heap.size w W
def Lft (w:World) (l:List Nat) {n:Nat} (c:Code) (pre:List (Fin n)) (W:World):Prop:=
 (c = .ret∧∃ x∈pre,dec (chk l x.1)=none)∧Boxed W w.heap.size 150 (.slice none 0 0)∧Boxed W (w.heap.size+1) 31 (.int .i64 2)∧Below w.heap.size w W
theorem inv_own {w:World} {B4 B n:Nat} {u:Value} {l:List Nat} (hB:w.heap.size≤B):OwnFrom B (Inv w B4 u l (n:=n)):=
 OwnFrom.and ((boxed_own (B4+1) 112 (fun _=>u)).from B) <| OwnFrom.and (ownFrom_pure B (fun pre:List (Fin n)=>∀ x∈pre,∃ p,dec (chk l x.1)=some p)) (OwnFrom.and ((boxed_own w.heap.size 150 (fun _=>.slice none 0 0)).from B) (OwnFrom.and ((boxed_own (w.heap.size+1) 31 (fun _=>.int .i64 0)).from B)
  (OwnFrom.and ((holdsRow_own w.heap.size B4 150 154 2 (fun pre:List (Fin n)=>pre.length) (fun pre=>ecells (ens (dso l pre))) (fun _ _=>True)).from B) (ownFrom_below (Nat.le_refl _) hB))))
theorem lft_own {w:World} {B n:Nat} {l:List Nat} (hB:w.heap.size≤B) (c:Code):OwnFrom B (Lft w l c (n:=n)):=
 OwnFrom.and (ownFrom_pure B (fun pre:List (Fin n)=>c = .ret∧∃ x∈pre,dec (chk l x.1)=none)) (OwnFrom.and ((boxed_own w.heap.size 150 (fun _=>.slice none 0 0)).from B) (OwnFrom.and ((boxed_own (w.heap.size+1) 31 (fun _=>.int .i64 2)).from B) (ownFrom_below (Nat.le_refl _) hB)))
theorem putObj_other {W:World} {l B:Nat} {o:Obj} (h:B≠l):Kpt B W (W.putObj l o):=World.putObj_heap_other h
theorem keeps_below {B:Nat} {W W':World} (h:Below W.heap.size W W'):KeepsFrom B W W':=⟨h.size,fun k _ _ hk _=>(h.block k (Array.getElem?_eq_some_iff.1 hk).1).trans hk⟩
theorem chk_len {l:List Nat} {i:Nat} (h:64 * i+64≤l.length):(chk l i).length=64:=by
 unfold chk;rw[List.length_take,List.length_drop];omega
theorem chk_bts {W:World} {b o i:Nat} {l:List Nat} (h:Crc.Bts W (some ⟨b,o,none⟩) l) (hi:64 * i+64≤l.length):Crc.Bts W (some ⟨b,o+64 * i,none⟩) (chk l i):=by
 refine⟨fun x hx=>h.byt x (List.mem_of_mem_drop (List.mem_of_mem_take hx)),by rw[chk_len hi];omega,fun j hj=>?_⟩
 have hj':=hj;rw[chk_len hi] at hj'
 obtain⟨b',o',e,hlt,hc⟩:=h.at' (64 * i+j) (by omega)
 injection e with e
 injection e with e1 e2
 subst e1 e2;have e:(chk l i)[j]=l[64 * i+j]'(by omega):=by simp only[chk,List.getElem_take,List.getElem_drop]
 exact⟨b,o+64 * i,rfl,hlt,by rw[Nat.add_assoc,hc,e]⟩
theorem dso_decs {l:List Nat} {n:Nat} (h:∀ x∈List.finRange n,∃ p,dec (chk l x.1)=some p):Decs l (dso l (List.finRange n)):=by
 intro i hi;have hi':=hi;unfold dso at hi';rw[List.length_map,List.length_finRange] at hi'
 obtain⟨p,hp⟩:=h ⟨i,hi'⟩ (List.mem_finRange _)
 simp only[dso,List.getElem_map,List.getElem_finRange,Fin.val_cast];rw[hp];rfl
theorem all_core (w:World) (A:Option Addr) (b o n c:Nat) (l:List Nat) (h:Crc.Bts w A l) (hn:64 * n=l.length) (hA:0 < n→A=some ⟨b,o,none⟩) (hc:64 * n≤c) (h1000:n≤1000) :
 Calls Tryz.prog 135 #[.slice A (64 * n) c] w (AllN w l):=by
 have hne:((64 * (n:Int)) % 64 != 0)=false:=by simp
 have hdv:(64 * (n:Int)) / 64=(n:Int):=by omega
 obtain⟨i0,hi0,hz0,hz1,hz2⟩:=info_parts entry_info
 obtain⟨w2,hmk,hown,hgr⟩:=run_make_own (P:=Tryz.prog) ((w.alloc (.cells #[.slice none 0 0] 150)).alloc (.cells #[.int .i64 0] 31)) w.heap.size 150 154 i0 (.agg #[.string ⟨#[]⟩,.int .i64 0]) 2 Tryz.underlying150 hi0 hz0 hz1 .i64 .i64 n (by rw[hz2];omega) (by unfold maxLen;omega) (by simp;omega)
 rw[World.size_alloc,World.size_alloc] at hmk hown;have HOW:=hid hown;have HGR:=hid hgr;have HN:=hid hn;have H:=hid h;have HA:=hid hA;clear hown hgr hn h hA;refine (callsIn_wide (n:=3)).1 ?_;refine callsIn_of_wp_marks Tryz.func135 rfl trivial ?_ rfl;simp only[Tryz.ntmps135,List.size_toArray,List.length_cons,List.length_nil,Nat.reduceAdd,Nat.reduceSub,Array.replicate_succ,Array.replicate_zero,List.push_toArray,List.append_toArray,List.nil_append,List.cons_append]
 gi_wp2_with fail
 refine⟨trivial,?_⟩
 refine (chunks_in Fence.wide _ trivial rfl _ _ _ _).mono ?_;rintro e w' ⟨rfl,rfl⟩
 gi_wp2_with fail
 have bx2:Boxed w2 w.heap.size 150 (.slice none 0 0):=((Boxed.new w 150 (.slice none 0 0)).alloc (.cells #[.int .i64 0] 31)).kept HGR.out (by simp)
 have bx3:Boxed w2 (w.heap.size+1) 31 (.int .i64 0):=by
  have:=Boxed.new (w.alloc (.cells #[.slice none 0 0] 150)) 31 (.int .i64 0)
  rw[World.size_alloc] at this;exact this.kept HGR.out (by simp)
 have hlt2:w.heap.size+1 < w2.heap.size:=bx3.lt;have hB2:Below w.heap.size w w2:=((((Below.refl w.heap.size w).alloc (Nat.le_refl _) (.cells #[.slice none 0 0] 150)).alloc (by simp) (.cells #[.int .i64 0] 31))).grown HGR.out (by simp;omega) (fun k hk=>by cases hk);have bx4:=Boxed.new w2 150 (.slice (some ⟨w.heap.size+1+1,0,none⟩) 0 n);have bxn:=Boxed.new (w2.alloc (.cells #[.slice (some ⟨w.heap.size+1+1,0,none⟩) 0 n] 150)) 112 (.slice A (64 * n) c);rw[World.size_alloc] at bxn
 have HI0:=hid (show Inv w w2.heap.size (.slice A (64 * n) c) l (n:=n) [] ((w2.alloc (.cells #[.slice (some ⟨w.heap.size+1+1,0,none⟩) 0 n] 150)).alloc (.cells #[.slice A (64 * n) c] 112)) from
  ⟨bxn,fun x hx=>by simp at hx,(bx2.alloc _).alloc _,(bx3.alloc _).alloc _,⟨_,bx4.alloc _,(HOW.out.alloc _).alloc _,trivial⟩,(hB2.alloc hB2.size _).alloc (by have:=hB2.size;simp;omega) _⟩)
 have HXN:=hid bxn;clear hmk HOW HGR bx2 bx3 bx4 bxn hB2;generalize hW0:(w2.alloc (.cells #[.slice (some ⟨w.heap.size+1+1,0,none⟩) 0 n] 150)).alloc (.cells #[.slice A (64 * n) c] 112)=W0 at *;have hs0:W0.heap.size=w2.heap.size+1+1:=by rw[← hW0];simp
 have HS0:=hid hs0;have hle4:w.heap.size≤w2.heap.size:=by omega
 clear hW0 hs0
 refine wpIn_rangeFunc_ownG (α:=Fin n) rfl (by omega) (gf:=223) (lb:=#[.pointer (some ⟨w2.heap.size+1,0,none⟩)]) rfl trivial (enters_of Tryz.func223 (by kernel_rfl) rfl)
  (chunks_stops Fence.wide _ trivial rfl (by omega) (w2.heap.size+1) A b o c n HA.out hc h1000 W0 HXN.out) (fun h k=>Eq.trans k h) (fun W l ob ob' hl _ _ _=>putObj_other (by rw[HS0.out] at hl;omega)) (Below.refl _ _) (fun _=>rfl)
  (Inv w w2.heap.size (.slice A (64 * n) c) l) (Lft w l)
  (inv_own (by rw[HS0.out];omega)) (lft_own (by rw[HS0.out];omega)) HI0.out
  (fun x=>{ tmps:=#[.slice A (64 * n) c,undef,.pointer (some ⟨w.heap.size,0,none⟩),.pointer (some ⟨w.heap.size+1,0,none⟩),.pointer (some ⟨w2.heap.size,0,none⟩),.slice (some ⟨b,o+64 * x.1,none⟩) 64 (c - 64 * x.1),undef,undef,.slice A (64 * n) c,.int .i64 (64 * n),.int .i64 0,.bool false,.slice A (64 * n) c,.int .i64 (64 * n),.int .i64 n,.slice (some ⟨w.heap.size+1+1,0,none⟩) 0 n,.slice A (64 * n) c,.func (.func 223) #[] #[.pointer (some ⟨w2.heap.size+1,0,none⟩)],.slice (some ⟨b,o+64 * x.1,none⟩) 64 (c - 64 * x.1),undef,undef,undef,undef,undef,undef,undef,undef,undef,undef,undef,undef,undef,undef,undef],defers:=[] }) ?assign ?body ?done ?stop
 case assign=>
  intro l x W K hK
  dsimp only[ech]
  gi_wp2
  exact hK
 case body=>
  rintro lp pre x W ⟨hbn,hp,hb2,hb3,⟨v,hv,hrow,-⟩,hB⟩ hpl;have hxn:=x.2;obtain rfl:=HA.out (by omega);have hbl:=H.out.keep hB;have hcl:=chk_len (l:=l) (i:=x.1) (by have:=HN.out;omega);have HD:=hid (decode_any W (some ⟨b,o+64 * x.1,none⟩) (c - 64 * x.1) 64 (chk l x.1) (chk_bts hbl (by have:=HN.out;omega)) hcl.symm (by omega));have HP:=hid hp;have HB:=hid hB;have HBN:=hid hbn;have HB2:=hid hb2;have HB3:=hid hb3;have HV:=hid hv;have HROW:=hid hrow;have hd1:1≤3 - 1 - 1:=by omega
  clear hp hbl hcl hB hbn hb2 hb3 hv hrow
  cases hd:dec (chk l x.1) with
  | none=>
    have HNO:=hid hd;rw[hd] at HD;simp only[gv,ev] at HD;clear hd
    gi_wp2_with fail
    refine⟨trivial,?_⟩
    refine (CallsIn.inRound lp (callsIn_wide.2 HD.out)).mono ?_;rintro e w3 ⟨rfl,hb⟩;have hba:=hb.alloc hb.size (.cells #[.string ⟨#[]⟩,.int .i64 0] 154);have hx2:Boxed (w3.alloc (.cells #[.string ⟨#[]⟩,.int .i64 0] 154)) w.heap.size 150 (.slice none 0 0):=(hba.block _ HB2.out.lt).trans HB2.out;have hx3:Boxed (w3.alloc (.cells #[.string ⟨#[]⟩,.int .i64 0] 154)) (w.heap.size+1) 31 (.int .i64 0):=(hba.block _ HB3.out.lt).trans HB3.out;have HX2:=hid hx2;have HX3:=hid hx3;have HKB:=hid (keeps_below (B:=W0.heap.size) hba);have HBB:=hid (HB.out.trans (hba.mono HB.out.size));have hc2:=hx2.cell;have hf2:=hx2.frozen;have hc3:=hx3.cell;have hf3:=hx3.frozen;clear hb hba hx2 hx3
    gi_wp2
    exact⟨HKB.out.trans (((KeepsOthers.setCell _ _ _).from _).trans ((KeepsOthers.setCell _ _ _).from _)),
     ⟨rfl,x,by simp,HNO.out⟩,(HX2.out.set _).other (by omega) _,(HX3.out.other (by omega) _).set _,
     (HBB.out.setCell (p:=⟨w.heap.size,0,none⟩) (Nat.le_refl _) _).setCell (p:=⟨w.heap.size+1,0,none⟩) (by simp) _⟩
  | some p=>
    obtain⟨nm,k⟩:=p
    have HNO:=hid hd;have HDS:=hid (dso_snoc l pre x hd);rw[hd] at HD;simp only[gv,ev] at HD;clear hd;have HE:=hid (ens_snoc (dso l pre) (nm,k));generalize Crc.str nm=T at *
    gi_wp2_with fail
    refine⟨trivial,?_⟩
    refine (CallsIn.inRound lp (callsIn_wide.2 HD.out)).mono ?_;rintro e w3 ⟨rfl,hb⟩;have hba:=hb.alloc hb.size (.cells #[.string T,.int .i64 (k:Int)] 154);have HX2:=hid (show Boxed (w3.alloc (.cells #[.string T,.int .i64 (k:Int)] 154)) w.heap.size 150 (.slice none 0 0) from (hba.block _ HB2.out.lt).trans HB2.out);have HX3:=hid (show Boxed (w3.alloc (.cells #[.string T,.int .i64 (k:Int)] 154)) (w.heap.size+1) 31 (.int .i64 0) from (hba.block _ HB3.out.lt).trans HB3.out);have hx4:Boxed (w3.alloc (.cells #[.string T,.int .i64 (k:Int)] 154)) w2.heap.size 150 v:=(hba.block _ HV.out.lt).trans HV.out;have HX4:=hid hx4;have HXN:=hid (show Boxed (w3.alloc (.cells #[.string T,.int .i64 (k:Int)] 154)) (w2.heap.size+1) 112 (.slice (some ⟨b,o,none⟩) (64 * n) c) from (hba.block _ HBN.out.lt).trans HBN.out);have HKB:=hid (keeps_below (B:=W0.heap.size) hba);have HBB:=hid (HB.out.trans (hba.mono HB.out.size));have HRW4:=hid (own_keep HROW.out hba);have HOWN:=hid ((own_keep HROW.out hba).alloc (.cells #[.string T,.int .i64 (k:Int)] 154));have HCT:=hid (cells_two_new (w3.alloc (.cells #[.string T,.int .i64 (k:Int)] 154)) (.string T) (.int .i64 (k:Int)) 154);rw[World.size_alloc] at HCT;have hc4:=hx4.cell;have hpl2:pre.length≤1000:=by omega
    clear hb hba hx4
    gi_wp2_with (gi_at_builtin
                 refine wpListIn_append_own _ rfl _ _ 150 rfl w.heap.size 154 i0 (.agg #[.string ⟨#[]⟩,.int .i64 0]) 2 24 Tryz.underlying150 hi0 hz0 hz1 hz2 rfl (by decide) v pre.length (ecells (ens (dso l pre))) rfl HOWN.out ⟨w3.heap.size+1,0,none⟩ 1 1 [.string T,.int .i64 (k:Int)] rfl rfl HCT.out (by simp[Value.oneCell']) (by unfold maxLen;omega) (by omega) (by have:=HBB.out.size;simp at this ⊢;omega) ?_;intro v' w5 hown5 hgr5 _
                 obtain⟨g',cap',rfl⟩:=ownsRow_succ hown5
                 obtain⟨hv1,hv2,hr2,hk2,hb5⟩:=HX4.out.appended (by decide) HRW4.out (HBB.out.size) hle4 hown5 hgr5
                 have HV2:=hid hv2;have HR2:=hid hr2;have HK2:=hid hk2;have HB5:=hid hb5;have HGR5:=hid hgr5;have hc1:=hv1.cell;have hf1:=hv1.frozen;clear hv1 hv2 hr2 hk2 hb5 hown5 hgr5)
    have hyn:=((HXN.out.alloc _).kept HGR5.out (HXN.out.not_row (by decide) HRW4.out)).other (B':=w2.heap.size) (by omega) (.slice (some ⟨g',0,none⟩) (pre.length+1) cap');have hy2:=((HX2.out.alloc _).kept HGR5.out (HX2.out.not_row (by decide) HRW4.out)).other (B':=w2.heap.size) (by omega) (.slice (some ⟨g',0,none⟩) (pre.length+1) cap');have hy3:=((HX3.out.alloc _).kept HGR5.out (HX3.out.not_row (by decide) HRW4.out)).other (B':=w2.heap.size) (by omega) (.slice (some ⟨g',0,none⟩) (pre.length+1) cap')
    refine⟨HKB.out.trans (HK2.out.from _),Eq.trans hyn HBN.out.symm,hyn,fun y hy=>?_,hy2,hy3,⟨_,HV2.out,?_,trivial⟩,HBB.out.trans HB5.out⟩
    · rcases List.mem_append.1 hy with h1 | h1
      · exact HP.out y h1
      · obtain rfl:y=x:=by simpa using h1
        exact⟨_,HNO.out⟩
    · rw[HDS.out,HE.out,ecells_snoc,List.length_append]
      exact HR2.out
 case done=>
  rintro D ys W hD rfl ⟨hbn,hp,hb2,hb3,⟨v,hv,hrow,-⟩,hB⟩ hK;rw[List.length_finRange] at hrow;have hdc:=dso_decs (l:=l) (n:=n) hp;have hdl:(dso l (List.finRange n)).length=n:=by unfold dso;rw[List.length_map,List.length_finRange]
  have HLE:=hid (show l.length=64 * (dso l (List.finRange n)).length by rw[hdl,HN.out])
  obtain⟨G,gc,rfl⟩:=row_slice2 hrow
  have HDC:=hid hdc;have HDL:=hid hdl;have HAL:=hid (alike_any W G gc n (ens (dso l (List.finRange n))) (own_es hrow hdc.size (by omega)) (by rw[ens_len,hdl]));have HB:=hid hB;have HB2:=hid hb2;have HB3:=hid hb3;have HV:=hid hv;have HROW:=hid hrow;have HK:=hid hK;have hDB:w.heap.size+1+1≤D:=by have:=HS0.out;omega
  have hc4:=hv.cell;clear hdc hdl hp hbn hB hb2 hb3 hv hrow hK;generalize dso l (List.finRange n)=ds at *
  gi_wp2_with fail
  refine⟨trivial,?_⟩
  refine (callsIn_wide.2 HAL.out).mono ?_;rintro e w4 ⟨rfl,hb⟩;have hx2:Boxed w4 w.heap.size 150 (.slice none 0 0):=(hb.block _ HB2.out.lt).trans HB2.out;have hx3:Boxed w4 (w.heap.size+1) 31 (.int .i64 0):=(hb.block _ HB3.out.lt).trans HB3.out;have hx4:Boxed w4 w2.heap.size 150 (.slice G n gc):=(hb.block _ HV.out.lt).trans HV.out;have HK4:=hid (show w4.heap[D]? = some (.deferred (some [])) from (hb.block _ (Array.getElem?_eq_some_iff.1 HK.out).1).trans HK.out);have HR4:=hid (own_keep HROW.out hb);have HB4:=hid (HB.out.trans (hb.mono HB.out.size));have HX2:=hid hx2;have HX3:=hid hx3;have hd2:=hx2.cell;have hf2:=hx2.frozen;have hd3:=hx3.cell;have hf3:=hx3.frozen;have hd4:=hx4.cell;clear hb hx2 hx3 hx4 hc4 HAL HROW HK HB;by_cases hnd:(nms (ens ds)).Nodup
  · rw[twice_no hnd]
    have HOK:=hid (alls_some ⟨HLE.out,HDC.out,hnd⟩);clear hnd
    gi_wp2
    have hk1:=(KeepsOthers.setCell (w4.setCell ⟨w.heap.size,0,none⟩ (.slice G n gc)) ⟨w.heap.size+1,0,none⟩ (.int .i64 0)).same D _ ((KeepsOthers.setCell w4 ⟨w.heap.size,0,none⟩ (.slice G n gc)).same D _ HK4.out rfl) rfl
    refine⟨by simp,.inl ⟨_,_,rfl,run_takeDeferred hk1,?_⟩⟩
    have hy2:=((HX2.out.set (.slice G n gc)).other (B':=w.heap.size+1) (by omega) (.int .i64 0)).kept (grownBy_putObj' _ D (.deferred none)) (by simp;omega);have hy3:=((HX3.out.other (B':=w.heap.size) (by omega) (.slice G n gc)).set (.int .i64 0)).kept (grownBy_putObj' _ D (.deferred none)) (by simp;omega);have hr1:=HR4.out.kept (grownBy_setCell' w4 w.heap.size (.slice G n gc)) (.inr (HX2.out.not_row (by decide) HR4.out).symm);have hr2:=hr1.kept (grownBy_setCell' _ (w.heap.size+1) (.int .i64 0)) (.inr ((HX3.out.other (B':=w.heap.size) (by omega) (.slice G n gc)).not_row (by decide) hr1).symm);have hr3:=ownsRow_putObj hr2 (.deferred none) hk1 rfl;have he3:=own_es hr3 HDC.out.size (by omega);have hbb:=((HB4.out.setCell (p:=⟨w.heap.size,0,none⟩) (Nat.le_refl _) (.slice G n gc)).setCell (p:=⟨w.heap.size+1,0,none⟩) (by simp) (.int .i64 0)).trans (belowK_b (w:=w) (Nat.le_refl _) _ D _ (.deferred none) (by omega) hk1 rfl rfl);have hq2:=hy2.cell;have hq3:=hy3.cell
    refine⟨.tuple #[.slice G n gc,.int .i64 0],?_,AllN.some HOK.out (by rw[HDL.out]) he3 (own_newE hr3) hbb⟩
    simp[results,Tryz.results135,go_sem,hq2,hq3]
  · rw[twice_yes hnd]
    have HNO:=hid (none_twice HDC.out HLE.out hnd);clear hnd
    gi_wp2
    have hk1:=(KeepsOthers.setCell (w4.setCell ⟨w.heap.size,0,none⟩ (.slice none 0 0)) ⟨w.heap.size+1,0,none⟩ (.int .i64 2)).same D _ ((KeepsOthers.setCell w4 ⟨w.heap.size,0,none⟩ (.slice none 0 0)).same D _ HK4.out rfl) rfl
    refine⟨by simp,.inl ⟨_,_,rfl,run_takeDeferred hk1,?_⟩⟩
    have hy2:=((HX2.out.set (.slice none 0 0)).other (B':=w.heap.size+1) (by omega) (.int .i64 2)).kept (grownBy_putObj' _ D (.deferred none)) (by simp;omega);have hy3:=((HX3.out.other (B':=w.heap.size) (by omega) (.slice none 0 0)).set (.int .i64 2)).kept (grownBy_putObj' _ D (.deferred none)) (by simp;omega);have hbb:=((HB4.out.setCell (p:=⟨w.heap.size,0,none⟩) (Nat.le_refl _) (.slice none 0 0)).setCell (p:=⟨w.heap.size+1,0,none⟩) (by simp) (.int .i64 2)).trans (belowK_b (w:=w) (Nat.le_refl _) _ D _ (.deferred none) (by omega) hk1 rfl rfl);have hq2:=hy2.cell;have hq3:=hy3.cell
    refine⟨.tuple #[.slice none 0 0,.int .i64 2],?_,AllN.none HNO.out rfl hbb⟩
    simp[results,Tryz.results135,go_sem,hq2,hq3]
 case stop=>
  rintro D cd pre W hD hpre ⟨⟨rfl,x,hx,hno⟩,hb2,hb3,hB⟩ hK;have hDB:w.heap.size+1+1≤D:=by have:=HS0.out;omega
  have HNO:=hid (none_chunk (b:=l) (m:=x.1) (by have:=HN.out;have:=x.2;omega) hno)
  gi_wp2
  refine⟨by simp,.inl ⟨_,_,rfl,run_takeDeferred hK,?_⟩⟩
  have hq2:=(hb2.kept (grownBy_putObj' _ D (.deferred none)) (by simp;omega)).cell;have hq3:=(hb3.kept (grownBy_putObj' _ D (.deferred none)) (by simp;omega)).cell
  refine⟨.tuple #[.slice none 0 0,.int .i64 2],?_,AllN.none HNO.out rfl (hB.trans (belowK_b (w:=w) (Nat.le_refl _) _ D _ (.deferred none) (by omega) hK rfl rfl))⟩
  simp[results,Tryz.results135,go_sem,hq2,hq3]
theorem all_new (w:World) (A:Option Addr) (n c:Nat) (l:List Nat) (h:Crc.Bts w A l) (hn:n=l.length) (hc:n≤c) (h1000:n≤64000):Calls Tryz.prog 135 #[.slice A n c] w (AllN w l):=by
 by_cases h64:n % 64=0
 · obtain⟨k,rfl⟩:∃ k,n=64 * k:=⟨n / 64,by omega⟩
   by_cases h0:0 < k
   · obtain⟨b,o,e,_⟩:=h.at' 0 (by omega)
     exact all_core w A b o k c l h hn (fun _=>e) hc (by omega)
   · exact all_core w A 0 0 k c l h hn (fun h=>absurd h h0) hc (by omega)
 · exact all_len w A n c l hn (by omega) h64
end Ent
end
section
open Lib (hid)
open Go.RowKit Go.MapKept
namespace Fld
open Clm (Cl Pc Cq Ok inode_yes inode_no)
open Chn (New)
open Vol (Vo)
open Ent (AllN all_new alls Es ens)
theorem run_kind (x y z:Value) (W:World):(Instr.field 95 (.agg #[x,y,z]) 0).run Tryz.prog W = .ok x W:=by kernel_rfl
section
variable {w : World} {P : Pc} {n m : Nat} {L : List Cl} {N C X : Array Value}
theorem AllN.back {w w1 w':World} {b:List Nat} {r:Ending} (h:AllN w1 b r w') (hb:Below w.heap.size w w1):AllN w b r w':=by
 unfold AllN at h ⊢
 split<;>rename_i e<;>rw[e] at h
 · exact⟨h.1,hb.trans (h.2.mono hb.size)⟩
 · obtain⟨G,gc,h1,h2,h3,h4⟩:=h
   exact⟨G,gc,h1,h2,fun ad e=>Nat.le_trans hb.size (h3 ad e),hb.trans (h4.mono hb.size)⟩
theorem entries_file (v:Value) (h:Cq w P n m L N C X) (hL:L.length=m) (i:Nat) (hi:i < L.length) (hk:L[i].k=1) :
 Calls Tryz.prog 79 #[v,.pointer (some ⟨P.c,0,none⟩),.int .i64 (i:Int)] w fun r w'=>r = .returned (.tuple #[.slice none 0 0,.int .i64 6])∧Below w.heap.size w w':=by
 have HI:=hid (fun w' (hb:Below w.heap.size w w')=>inode_yes (h.keep hb) hL i hi);rw[hk] at HI;generalize (L[i].p:Int) - 1=hd at *;generalize L[i].z=z at *;clear h hk;go_enter Tryz.func79,Tryz.ntmps79
 go_wp2_with fail
 refine (HI.out _ (Below.refl _ _)).mono ?_;rintro r w1 ⟨rfl,hb1⟩;have hrk:=run_kind (.int .i64 1) (.int .i64 hd) (.int .i64 z) w1;go_wp2
 go_ret2
 exact⟨rfl,hb1⟩
theorem entries_none (v i:Value) (HI:∀ w',Below w.heap.size w w'→Calls Tryz.prog 39 #[.pointer (some ⟨P.c,0,none⟩),i] w' fun r w''=>r = .returned (.agg #[.int .i64 0,.int .i64 (-1),.int .i64 0])∧Below w'.heap.size w' w'') :
 Calls Tryz.prog 79 #[v,.pointer (some ⟨P.c,0,none⟩),i] w fun r w'=>r = .returned (.tuple #[.slice none 0 0,.int .i64 4])∧Below w.heap.size w w':=by
 have HI:=hid HI;have HBY:=hid (fun w' (hb:Below w.heap.size w w')=>bytes_none (w:=w') (P:=P) v i (fun w'' hb'=>HI.out w'' (hb.trans (hb'.mono hb.size))));go_enter Tryz.func79,Tryz.ntmps79
 go_wp2_with fail
 refine (HI.out _ (Below.refl _ _)).mono ?_;rintro r w1 ⟨rfl,hb1⟩;have HB1:=hid hb1;clear hb1;have hrk:=run_kind (.int .i64 0) (.int .i64 (-1)) (.int .i64 0) w1;go_wp2_with fail
 refine (HBY.out _ HB1.out).mono ?_;rintro r w2 ⟨rfl,hb2⟩;have HB2:=hid (HB1.out.trans (hb2.mono HB1.out.size));clear hb2;go_wp2
 go_ret2
 exact⟨rfl,HB2.out⟩
theorem entries_free (v:Value) (h:Cq w P n m L N C X) (hL:L.length=m) (i:Nat) (hi:i < L.length) (hk:L[i].k=0) (hp:L[i].p=0) (hz:L[i].z=0) :
 Calls Tryz.prog 79 #[v,.pointer (some ⟨P.c,0,none⟩),.int .i64 (i:Int)] w fun r w'=>r = .returned (.tuple #[.slice none 0 0,.int .i64 4])∧Below w.heap.size w w':=
 entries_none v (.int .i64 (i:Int)) fun w' hb=>by
  have:=inode_yes (h.keep hb) hL i hi
  rw[hk,hp,hz] at this;exact this
theorem entries_out (v:Value) (h:Cq w P n m L N C X) (i:Int) (hi:i < 0∨(m:Int)≤i) :
 Calls Tryz.prog 79 #[v,.pointer (some ⟨P.c,0,none⟩),.int .i64 i] w fun r w'=>r = .returned (.tuple #[.slice none 0 0,.int .i64 4])∧Below w.heap.size w w':=
 entries_none v (.int .i64 i) fun _ hb=>inode_no (h.keep hb) i hi
end
section
variable {Q : Nat → Prop} {w : World} {P : Pc} {vb a n m s st sn : Nat} {W : List Nat} {L : List Cl} {N C X : Array Value}
theorem entries_dir (hv:Vo Q w vb a n m s W st sn) (h:Cq w P n m L N C X) (hL:L.length=m) (f:Nat→Option (Nat × Nat × Nat)) (hf:∀ i x c q,f i=some (x,c,q)→Slo.may (x:Int) (c:Int) (Slo.nx q)=true)
 {bk q:Nat} (hbk:Geo.bkAt n m=(bk:Int)) (hq:s=8 * q) (i:Nat) (hi:i < L.length) (ho:Ok f n s L[i]) (hk:L[i].k=2) (hz:L[i].z≤64000) :
 Calls Tryz.prog 79 #[.pointer (some ⟨vb,0,none⟩),.pointer (some ⟨P.c,0,none⟩),.int .i64 (i:Int)] w (AllN w (fby W bk q L[i])):=by
 have hq8:0 < q:=by
  obtain⟨_,_,_,e2,hq8,_⟩:=hv.blk
  omega
 have HFL:=hid (fby_len (W:=W) (bk:=bk) (by rw[← hq];exact ho.tot) hq8);have HI:=hid (fun w' (hb:Below w.heap.size w w')=>inode_yes (h.keep hb) hL i hi);have HBY:=hid (fun w' (hb:Below w.heap.size w w')=>bytes_yes (hv.keep hb) (h.keep hb) hL f hf hbk hq i hi ho (by omega));rw[hk] at HI;generalize fby W bk q L[i]=F at *;generalize (L[i].p:Int) - 1=hd at *;generalize L[i].z=z at *;clear hv h ho hk hf;go_enter Tryz.func79,Tryz.ntmps79
 go_wp2_with fail
 refine (HI.out _ (Below.refl _ _)).mono ?_;rintro r w1 ⟨rfl,hb1⟩;have HB1:=hid hb1;clear hb1;have hrk:=run_kind (.int .i64 2) (.int .i64 hd) (.int .i64 z) w1;go_wp2_with fail
 refine (HBY.out _ HB1.out).mono ?_;rintro r w2 ⟨G,gc,rfl,hbt,hgc,_,hb2⟩;have HB2:=hid (HB1.out.trans (hb2.mono HB1.out.size));have HBT:=hid hbt;clear hb2 hbt;go_wp2_with fail
 refine (all_new w2 G z gc F HBT.out HFL.out.symm hgc hz).mono ?_;intro r w3 h3;have h4:=AllN.back h3 HB2.out;clear h3;have h5:=h4;unfold AllN at h5
 split at h5
 · obtain⟨rfl,_⟩:=h5
   go_wp2
   go_ret2;exact h4
 · obtain⟨G',gc',rfl,_⟩:=h5
   go_wp2
   go_ret2;exact h4
end
end Fld
end
section
open Go.RowKit Go.MapKept
namespace Pat
def less (a b:ByteArray):Bool:=Op.bytesLess a.toList b.toList
theorem toList_inj {a b:ByteArray} (h:a.toList=b.toList):a=b:=by
 have h1:=Ent.tx_toList a;have h2:=Ent.tx_toList b;rw[h,← h2] at h1;rw[← Ent.str_tx a,← Ent.str_tx b,h1]
end Pat
end
section
open Go.RowKit Go.MapKept
namespace Fld
open Clm (Cl Pc Cq Ok inode_yes inode_no)
open Chn (New)
open Vol (Vo Hb hb_new)
open Ent (AllN alls Es ens En ens_len)
noncomputable def fent (W:List Nat) (bk q:Nat) (L:List Cl) (i:Int):Except Nat (List (List Nat × Nat)):=
 if i < 0 then .error 4 else match L[i.toNat]? with
  | none=>.error 4
  | some c=>if c.k=0 then .error 4 else if c.k=1 then .error 6 else match alls (fby W bk q c) with
    | none=>.error 2
    | some l=>.ok l
def ffnd (e:Except Nat (List (List Nat × Nat))) (s:ByteArray):Except Nat (Nat × Nat):=
 match e with
 | .error n=>.error n
 | .ok l=>match (ens l).findIdx? (fun e=>decide (e.1=s)) with
   | none=>.error 4
   | some k=>.ok (((l[k]?).map (·.2)).getD 0,k)
def EnTo (w:World) (e:Except Nat (List (List Nat × Nat))) (r:Ending) (w':World):Prop:=
 match e with
 | .error n=>r = .returned (.tuple #[.slice none 0 0,.int .i64 (n:Int)])∧Below w.heap.size w w'
 | .ok l=>∃ (G:Option Addr) (gc:Nat),r = .returned (.tuple #[.slice G l.length gc,.int .i64 0])∧Es w' G (ens l)∧New w.heap.size G∧Below w.heap.size w w'
theorem may_kind {k h s:Int} (hm:Ino.may k h s=true):k=0∨k=1∨k=2:=by
 have:=of_decide_eq_true hm
 unfold Ino.May at this;omega
section
variable {Q : Nat → Prop} {w : World} {P : Pc} {vb a n m s st sn : Nat} {W : List Nat} {L : List Cl} {N C X : Array Value}
theorem entries_any (hv:Vo Q w vb a n m s W st sn) (h:Cq w P n m L N C X) (hL:L.length=m) (f:Nat→Option (Nat × Nat × Nat)) (hf:∀ i x c q,f i=some (x,c,q)→Slo.may (x:Int) (c:Int) (Slo.nx q)=true)
 {bk q:Nat} (hbk:Geo.bkAt n m=(bk:Int)) (hq:s=8 * q) (ho:∀ c∈L,Ok f n s c) (hz:∀ c∈L,c.z≤64000) (i:Int) :
 Calls Tryz.prog 79 #[.pointer (some ⟨vb,0,none⟩),.pointer (some ⟨P.c,0,none⟩),.int .i64 i] w (EnTo w (fent W bk q L i)):=by
 unfold fent;by_cases h0:i < 0
 · rw[if_pos h0]
   exact entries_out _ h i (.inl h0)
 rw[if_neg h0];by_cases h1:i.toNat < L.length
 · obtain⟨j,rfl⟩:∃ j:Nat,i=(j:Int):=⟨i.toNat,by omega⟩
   have hj:j < L.length:=by omega
   rw[Int.toNat_natCast,List.getElem?_eq_getElem hj];have hm:=List.getElem_mem hj;have hk:=may_kind (ho _ hm).may
   rcases (by omega:L[j].k=0∨L[j].k=1∨L[j].k=2) with hk | hk | hk
   · simp only[hk,if_true]
     obtain⟨h1,h2,_⟩:=(ho _ hm).free hk
     exact entries_free _ h hL j hj hk h1 h2
   · simp only[hk]
     exact entries_file _ h hL j hj hk
   · simp only[hk]
     refine (entries_dir hv h hL f hf hbk hq j hj (ho _ hm) hk (hz _ hm)).mono ?_;intro r w' h5;unfold AllN at h5;generalize alls (fby W bk q L[j])=o at h5 ⊢
     cases o<;>exact h5
 · rw[List.getElem?_eq_none (by omega)]
   exact entries_out _ h i (.inr (by omega))
end
end Fld
end
section
open Go.RowKit Go.MapKept
namespace Chk
open Ent (En)
def inn (at_ name:ByteArray):ByteArray:=if at_=⟨#[47]⟩ then ⟨#[47]⟩++name else at_++⟨#[47]⟩++name
def fold (g:Int→ByteArray→St→Nat × St) (at_:ByteArray):List En→St→Nat × St
 | [],S=>(0,S)
 | e :: r,S=>if (g e.2 (inn at_ e.1) S).1=0 then fold g at_ r (g e.2 (inn at_ e.1) S).2 else g e.2 (inn at_ e.1) S
def mt (kd:Int→Nat) (E:Int→Option (List En)):Nat→Int→ByteArray→St→Nat × St
 | 0,i,_,S=>if i∈keys S∨kd i=0 then (5,S) else (6,S)
 | f+1,i,at_,S=>if i∈keys S∨kd i=0 then (5,S) else
   if kd i≠2 then (0,S++[(i,at_)]) else match E i with
    | none=>(4,S++[(i,at_)])
    | some l=>fold (mt kd E f) at_ l (S++[(i,at_)])
theorem inn_size (a n:ByteArray):(inn a n).size≤a.size+n.size+1:=by
 unfold inn
 split
 · simp only[ByteArray.size_append]
   show 1+_≤_
   omega
 · simp only[ByteArray.size_append]
   show _+1+_≤_
   omega
theorem in_any (a n:ByteArray) (w:World) (ha:a.size≤1000000) (hn:n.size≤1000000):Calls Tryz.prog 80 #[.string a,.string n] w fun r w'=>r = .returned (.string (inn a n))∧w=w':=by
 unfold inn;by_cases h:a=⟨#[47]⟩
 · subst h
   rw[if_pos rfl];go_enter Tryz.func80,Tryz.ntmps80
   go_wp2
   go_ret
   exact⟨rfl,rfl⟩
 · rw[if_neg h]
   have h1:¬ a.toList=[47]:=fun e=>h (Pat.toList_inj (e.trans ((show (⟨#[47]⟩:ByteArray).toList=[47] by kernel_rfl).symm)))
   have h2:(a.toList == [47])=false:=beq_eq_false_iff_ne.2 h1;go_enter Tryz.func80,Tryz.ntmps80
   go_wp2
   go_ret
   exact⟨rfl,rfl⟩
end Chk
end
section
open Lib (hid)
open Go.RowKit Go.MapKept
namespace Chk
open Ent (En Es)
open Chn (New)
open Bm (Chg chg_of_below)
open Vol (Hb hb_new)
def Nde (k:Nat) (r:Ending):Prop:=(k=0∧r = .returned (.agg #[.int .i64 0,.int .i64 (-1),.int .i64 0]))∨(k≠0∧∃ h z:Int,r = .returned (.agg #[.int .i64 (k:Int),.int .i64 h,.int .i64 z]))
def Ens (B:Nat) (e:Option (List En)) (r:Ending) (w':World):Prop:=
 match e with
 | none=>∃ x:Int,x≠0∧r = .returned (.tuple #[.slice none 0 0,.int .i64 x])
 | some l=>∃ (G:Option Addr) (gc:Nat),r = .returned (.tuple #[.slice G l.length gc,.int .i64 0])∧Es w' G l∧New B G
structure Has (w0:World) (v c:Value) (kd:Int→Nat) (E:Int→Option (List En)):Prop where
 ino:∀ w',Below w0.heap.size w0 w'→∀ i:Int,Calls Tryz.prog 39 #[c,.int .i64 i] w' fun r w''=>Nde (kd i) r∧Below w'.heap.size w' w''
 ent:∀ w',Below w0.heap.size w0 w'→∀ i:Int,Calls Tryz.prog 79 #[v,c,.int .i64 i] w' fun r w''=>Ens w'.heap.size (E i) r w''∧Below w'.heap.size w' w''
 few:∀ i l,E i=some l→l.length≤4194304∧∀ e∈l,e.1.size≤100
theorem es_chg {w w':World} {q:Nat} {G:Option Addr} {l:List En} (h:Es w G l) (hc:Chg q w w') (hG:∀ a,G=some a→a.block≠q):Es w' G l:=
 ⟨h.size,h.len,fun j hj=>by
   obtain⟨b,o,e,hlt,h1,h2⟩:=h.at' j hj
   have hne:=hG _ e
   exact⟨b,o,e,Nat.lt_of_lt_of_le hlt hc.size,(hc.cell (p:=⟨b,o+j * 2,none⟩) hlt hne).trans h1,(hc.cell (p:=⟨b,o+j * 2+1,none⟩) hlt hne).trans h2⟩⟩
theorem hb_chg {w w':World} {q b:Nat} {cs:Array Value} {t:TypeId} (h:Hb w b cs t) (hc:Chg q w w') (hne:b≠q):Hb w' b cs t:=(hc.block b h.lt hne).trans h
theorem fold_cons (g:Int→ByteArray→St→Nat × St) (a:ByteArray) (p:ByteArray) (x:Int) (r:List En) (T:St):fold g a ((p,x) :: r) T=if (g x (inn a p) T).1=0 then fold g a r (g x (inn a p) T).2 else g x (inn a p) T:=rfl
theorem fold_le {g:Int→ByteArray→St→Nat × St} (hg:∀ i a S,(g i a S).1≤6) (a:ByteArray):∀ (l:List En) (S:St),(fold g a l S).1≤6
 | [],_=>Nat.zero_le _
 | e :: r,S=>by
   unfold fold
   split
   · exact fold_le hg a r _
   · exact hg _ _ _
theorem mt_le (kd:Int→Nat) (E:Int→Option (List En)):∀ (f:Nat) (i:Int) (a:ByteArray) (S:St),(mt kd E f i a S).1≤6
 | 0,i,a,S=>by
   unfold mt
   split<;>simp
 | f+1,i,a,S=>by
   rw[mt]
   split
   · simp
   split
   · simp
   split
   · simp
   · exact fold_le (mt_le kd E f) a _ _
theorem mt_deep {kd:Int→Nat} {E:Int→Option (List En)} {i:Int} {a:ByteArray} {S:St} (hi:i∉keys S) (hk:kd i≠0):mt kd E 0 i a S=(6,S):=by
 unfold mt;rw[if_neg (fun h=>h.elim hi hk)]
theorem mt_file {kd:Int→Nat} {E:Int→Option (List En)} {f:Nat} {i:Int} {a:ByteArray} {S:St} (hi:i∉keys S) (hk:kd i≠0) (h2:kd i≠2):mt kd E (f+1) i a S=(0,S++[(i,a)]):=by
 unfold mt;rw[if_neg (fun h=>h.elim hi hk),if_pos h2]
theorem mt_none {kd:Int→Nat} {E:Int→Option (List En)} {f:Nat} {i:Int} {a:ByteArray} {S:St} (hi:i∉keys S) (h2:kd i=2) (hE:E i=none):mt kd E (f+1) i a S=(4,S++[(i,a)]):=by
 unfold mt;rw[if_neg (fun h=>h.elim hi (by omega)),if_neg (by omega),hE]
theorem mt_dir {kd:Int→Nat} {E:Int→Option (List En)} {f:Nat} {i:Int} {a:ByteArray} {S:St} {l:List En} (hi:i∉keys S) (h2:kd i=2) (hE:E i=some l):mt kd E (f+1) i a S=fold (mt kd E f) a l (S++[(i,a)]):=by
 rw[mt,if_neg (fun h=>h.elim hi (by omega)),if_neg (by omega),hE]
section
variable {w0 : World} {v c : Value} {kd : Int → Nat} {E : Int → Option (List En)}
def MtTo (b:Nat) (p:Nat × St) (w:World) (r:Ending) (w':World):Prop:=r = .returned (.int .i64 (p.1:Int))∧Mm w' b p.2∧Chg b w w'
theorem meet_again (h:Has w0 v c kd E) (w:World) (b:Nat) (S:St) (i:Int) (a:ByteArray) (d:Int) (hm:Mm w b S) (hb:Below w0.heap.size w0 w) (hi:i∈keys S) :
 Calls Tryz.prog 40 #[.agg #[v,c,.map (some b)],.int .i64 i,.string a,.int .i64 d] w (MtTo b (5,S) w):=by
 have HI:=hid (h.ino);have HM:=hid hm;have HB:=hid hb;have hal:=(Below.refl w.heap.size w).alloc (Nat.le_refl _) (.cells #[v,c,.map (some b)] 68);have HA:=hid hal;have HX:=hid (hb_new w #[v,c,.map (some b)] 68);clear h hm hb hal;go_enter Tryz.func40,Tryz.ntmps40
 go_wp2_with fail
 refine (HI.out _ (HB.out.trans (HA.out.mono HB.out.size)) i).mono ?_;rintro r w1 ⟨hn,hb1⟩
 obtain⟨k,hh,z,rfl⟩:∃ k hh z:Int,r = .returned (.agg #[.int .i64 k,.int .i64 hh,.int .i64 z]):=by
  rcases hn with ⟨_,rfl⟩ | ⟨_,hh,z,rfl⟩
  · exact⟨0,-1,0,rfl⟩
  · exact⟨_,hh,z,rfl⟩
 have HB1:=hid (HA.out.trans (hb1.mono HA.out.size));have HX1:=hid (HX.out.keep hb1);clear hn hb1 HX HA;have HN:=hid (hb_new w1 #[.int .i64 k,.int .i64 hh,.int .i64 z] 95);have hal:=(Below.refl w1.heap.size w1).alloc (Nat.le_refl _) (.cells #[.int .i64 k,.int .i64 hh,.int .i64 z] 95);have HX2:=hid (HX1.out.keep hal);have HB2:=hid (HB1.out.trans (hal.mono HB1.out.size));clear hal HX1;have hx:=HX2.out.cell 0;have x1:=HX2.out.cell 1;have x2:=HX2.out.cell 2;have xl:=HX2.out.lt;have HM2:=hid (HM.out.keep HB2.out)
 obtain⟨t,hlk⟩:=run_look_yes HM2.out hi
 go_wp2_with fail
 have HC:=hid (chg_of_below (HB2.out.drew) b);clear hlk hx x1 x2 xl
 go_region
 go_wp2
 go_ret
 exact⟨rfl,HM2.out,HC.out⟩
theorem meet_free (h:Has w0 v c kd E) (w:World) (b:Nat) (S:St) (i:Int) (a:ByteArray) (d:Int) (hm:Mm w b S) (hb:Below w0.heap.size w0 w) (hi:i∉keys S) (hk:kd i=0) :
 Calls Tryz.prog 40 #[.agg #[v,c,.map (some b)],.int .i64 i,.string a,.int .i64 d] w (MtTo b (5,S) w):=by
 have HI:=hid (h.ino);have HM:=hid hm;have HB:=hid hb;have HNN:=hid (fun w=>Ino.none_any w);have hal:=(Below.refl w.heap.size w).alloc (Nat.le_refl _) (.cells #[v,c,.map (some b)] 68);have HA:=hid hal;have HX:=hid (hb_new w #[v,c,.map (some b)] 68);clear h hm hb hal;go_enter Tryz.func40,Tryz.ntmps40
 go_wp2_with fail
 refine (HI.out _ (HB.out.trans (HA.out.mono HB.out.size)) i).mono ?_;rintro r w1 ⟨hn,hb1⟩
 obtain rfl:r = .returned (.agg #[.int .i64 0,.int .i64 (-1),.int .i64 0]):=by
  rcases hn with ⟨_,rfl⟩ | ⟨hne,_⟩
  · rfl
  · exact absurd hk hne
 have HB1:=hid (HA.out.trans (hb1.mono HA.out.size));have HX1:=hid (HX.out.keep hb1);clear hn hb1 HX HA hk;have HN:=hid (hb_new w1 #[.int .i64 0,.int .i64 (-1),.int .i64 0] 95);have hal:=(Below.refl w1.heap.size w1).alloc (Nat.le_refl _) (.cells #[.int .i64 0,.int .i64 (-1),.int .i64 0] 95);have HX2:=hid (HX1.out.keep hal);have HB2:=hid (HB1.out.trans (hal.mono HB1.out.size));clear hal HX1;have hx:=HX2.out.cell 0;have x1:=HX2.out.cell 1;have x2:=HX2.out.cell 2;have xl:=HX2.out.lt;have HM2:=hid (HM.out.keep HB2.out);have hlk:=run_look_no HM2.out hi;go_wp2_with fail
 generalize w1.alloc (.cells #[.int .i64 0,.int .i64 (-1),.int .i64 0] 95)=w2 at *;generalize w1.heap.size=xb at *;have y0:=HN.out.cell 0;have y1:=HN.out.cell 1;have y2:=HN.out.cell 2;have yl:=HN.out.lt;clear hlk hx x1 x2 xl
 go_region_held3 (fun W'=>W'.cell? ⟨xb,0,none⟩=some (.int .i64 0)∧W'.cell? ⟨xb,1,none⟩=some (.int .i64 (-1))∧W'.cell? ⟨xb,2,none⟩=some (.int .i64 0)) (go_keep)
  (first
  | (go_at_call 78
     with_reducible refine (HNN.out _).mono ?_
     rintro r w3 ⟨rfl,hb⟩;have hb':=(Below.refl w2.heap.size w2).drew.trans (hb.mono (Nat.le_refl _));have HB3:=hid (HB2.out.trans (hb'.mono HB2.out.size));have HM3:=hid (HM2.out.keep hb');have HN3:=hid (HN.out.keep hb');have y0:=HN3.out.cell 0;have y1:=HN3.out.cell 1;have y2:=HN3.out.cell 2;clear hb hb'))
 go_wp2
 go_ret
 exact⟨rfl,HM3.out,chg_of_below HB3.out b⟩
theorem meet_live (h:Has w0 v c kd E) (w:World) (b:Nat) (S:St) (i:Int) (a:ByteArray) (f:Nat) (hf:f≤65) (ha:a.size≤1000 * (66 - f)) (hm:Mm w b S) (hb:Below w0.heap.size w0 w) (hB:w0.heap.size≤b) (hi:i∉keys S) (hk:kd i≠0)
 (rec:∀ g,f=g+1→∀ (i':Int) (a':ByteArray) (S':St) (w':World),a'.size≤1000 * (66 - g)→Mm w' b S'→Below w0.heap.size w0 w'→Calls Tryz.prog 40 #[.agg #[v,c,.map (some b)],.int .i64 i',.string a',.int .i64 (65 - (g:Int))] w' (MtTo b (mt kd E g i' a' S') w')) :
 Calls Tryz.prog 40 #[.agg #[v,c,.map (some b)],.int .i64 i,.string a,.int .i64 (65 - (f:Int))] w (MtTo b (mt kd E f i a S) w):=by
 have HI:=hid (h.ino);have HE:=hid (h.ent);have HFW:=hid (h.few);have HREC:=hid rec;have HM:=hid hm;have HB:=hid hb;have HA:=hid ha;have HNN:=hid (fun w=>Ino.none_any w);have hal:=(Below.refl w.heap.size w).alloc (Nat.le_refl _) (.cells #[v,c,.map (some b)] 68);have HAL:=hid hal;have HX:=hid (hb_new w #[v,c,.map (some b)] 68);have HF:=hid hf;have HBB:=hid hB
 obtain⟨d,hd⟩:∃ d:Int,d=65 - (f:Int):=⟨_,rfl⟩
 rw[← hd];have HD:=hid hd;clear h hm hb hal rec ha hf hB hd;go_enter Tryz.func40,Tryz.ntmps40
 go_wp2_with fail
 refine (HI.out _ (HB.out.trans (HAL.out.mono HB.out.size)) i).mono ?_;rintro r w1 ⟨hn,hb1⟩
 obtain⟨hh,z,rfl⟩:∃ hh z:Int,r = .returned (.agg #[.int .i64 (kd i:Int),.int .i64 hh,.int .i64 z]):=by
  rcases hn with ⟨h0,_⟩ | ⟨_,h1⟩
  · exact absurd h0 hk
  · exact h1
 have HB1:=hid (HAL.out.trans (hb1.mono HAL.out.size));have HX1:=hid (HX.out.keep hb1);have HKD:=hid hk
 obtain⟨k,hkk⟩:∃ k,k=kd i:=⟨_,rfl⟩
 have HKK:=hid hkk;have hkb:((k:Int) == 0)=false:=beq_eq_false_iff_ne.2 (by omega);have hk0:¬ (k:Int)=0:=by omega
 rw[← hkk];clear hn hb1 HX HAL hk hkk;have HN:=hid (hb_new w1 #[.int .i64 (k:Int),.int .i64 hh,.int .i64 z] 95);have hal:=(Below.refl w1.heap.size w1).alloc (Nat.le_refl _) (.cells #[.int .i64 (k:Int),.int .i64 hh,.int .i64 z] 95);have HX2:=hid (HX1.out.keep hal);have HB2:=hid (HB1.out.trans (hal.mono HB1.out.size));clear hal HX1;have hx:=HX2.out.cell 0;have x1:=HX2.out.cell 1;have x2:=HX2.out.cell 2;have xl:=HX2.out.lt;have HM2:=hid (HM.out.keep HB2.out);have hlk:=run_look_no HM2.out hi;go_wp2_with fail
 generalize w1.alloc (.cells #[.int .i64 (k:Int),.int .i64 hh,.int .i64 z] 95)=w2 at *
 obtain⟨xb,hxb⟩:∃ xb,xb=w1.heap.size:=⟨_,rfl⟩
 rw[← hxb] at HN ⊢
 have HXB:=hid (show b < xb∧b≠w.heap.size from by
  have h1:=HM.out.lt;have h2:=HB1.out.size
  omega)
 clear hxb;have y0:=HN.out.cell 0;have y1:=HN.out.cell 1;have y2:=HN.out.cell 2;have yl:=HN.out.lt;clear hlk hx x1 x2 xl
 go_region_held3 (fun W'=>W'.cell? ⟨xb,0,none⟩=some (.int .i64 (k:Int))∧W'.cell? ⟨xb,1,none⟩=some (.int .i64 hh)∧W'.cell? ⟨xb,2,none⟩=some (.int .i64 z)) (go_keep)
  (first
  | (go_at_call 78
     with_reducible refine (HNN.out _).mono ?_
     rintro r w3 ⟨rfl,hb⟩;have hb':=(Below.refl w2.heap.size w2).drew.trans (hb.mono (Nat.le_refl _));have HB3:=hid (HB2.out.trans (hb'.mono HB2.out.size));have HM3:=hid (HM2.out.keep hb');have HN3:=hid (HN.out.keep hb');have HX3:=hid (HX2.out.keep hb');have y0:=HN3.out.cell 0;have y1:=HN3.out.cell 1;have y2:=HN3.out.cell 2;clear hb hb'))
 clear y0 y1 y2 HM2 HN HX2 HM HB1 HB2;have HCH:=hid (chg_of_below HB3.out b)
 cases f with
 | zero=>
   have hd:(64:Int) < d:=by have:=HD.out;omega
   go_wp2
   go_ret;rw[mt_deep hi HKD.out]
   exact⟨rfl,HM3.out,HCH.out⟩
 | succ g=>
   have hd:¬ (64:Int) < d:=by have:=HD.out;omega
   have hput:=run_put a HM3.out hi;have HM4:=hid (HM3.out.put (i,a));have HC4:=hid (putMap_chg HCH.out (pents (S++[(i,a)])) (S.length+1));have hx:=HX3.out.cell 0;have x1:=HX3.out.cell 1;have x2:=HX3.out.cell 2;have xl:=HX3.out.lt;have HX4:=hid (hb_chg HX3.out (putMap_chg (Bm.Chg.refl b w3) (pents (S++[(i,a)])) (S.length+1)) (fun e=>HXB.out.2 e.symm));have HN4:=hid (hb_chg HN3.out (putMap_chg (Bm.Chg.refl b w3) (pents (S++[(i,a)])) (S.length+1)) (fun e=>Nat.lt_irrefl _ (e ▸ HXB.out.1)));generalize hw4:putMap w3 b (pents (S++[(i,a)])) (S.length+1)=w4 at *;have y0:=HN4.out.cell 0;have y1:=HN4.out.cell 1;have y2:=HN4.out.cell 2;have yl:=HN4.out.lt;have z0:=HX4.out.cell 0;have z1:=HX4.out.cell 1;have z2:=HX4.out.cell 2;have zl:=HX4.out.lt;clear hw4 hkb hk0;by_cases hk2:k=2
   · subst hk2
     have HB4:=hid (HB.out.trans (HC4.out.below HB.out.size HBB.out));have HEI:=hid (HE.out w4 HB4.out i);go_wp2_with fail
     refine HEI.out.mono ?_;rintro r w5 ⟨he,hb5⟩;have HC5:=hid (HC4.out.trans (chg_of_below hb5 b));have HB5:=hid (HB4.out.trans (hb5.mono HB4.out.size));have HM5:=hid (HM4.out.keep hb5);have HX5:=hid (HX4.out.keep hb5);have HXL:=hid (Nat.lt_of_lt_of_le HM4.out.lt (Nat.le_refl w4.heap.size));clear hb5 z0 z1 z2 zl y0 y1 y2 yl hx x1 x2 xl hput;unfold Ens at he
     cases hEi:E i with
     | none=>
       rw[hEi] at he
       obtain⟨e,hne,rfl⟩:=he
       have HEI2:=hid hEi;have he1:(e == 0)=false:=beq_eq_false_iff_ne.2 hne;clear hEi;go_wp2
       go_ret;rw[mt_none hi HKK.out.symm HEI2.out]
       exact⟨rfl,HM5.out,HC5.out⟩
     | some l=>
       rw[hEi] at he
       obtain⟨G,gc,rfl,hes,hnew⟩:=he
       have HEI2:=hid hEi;have HES:=hid hes;have HNW:=hid hnew;have HR:=hid (mt_dir (f:=g) (a:=a) (kd:=kd) (S:=S) hi HKK.out.symm hEi)
       obtain⟨R,hR⟩:∃ R,R=mt kd E (g+1) i a S:=⟨_,rfl⟩
       rw[← hR] at HR;have HRE:=hid hR;clear hEi hes hnew hR;go_wp2_with fail
       go_loopw [56] (fun q wr=>∃ (j:Nat) (T:St),j≤l.length∧q = .int .i64 (j:Int)∧R=fold (mt kd E g) a (l.drop j) T∧Mm wr b T∧Chg b w5 wr) (fun q _=>l.length - (intOf q).toNat)
       case atStart=>exact⟨0,_,Nat.zero_le _,rfl,by rw[List.drop_zero];exact HR.out,HM5.out,Bm.Chg.refl b w5⟩
       case round=>
        obtain⟨j,T,hj,rfl,hT,hM,hC⟩:=hrel
        by_cases hlt:j < l.length
        · have hG:∀ q,G=some q→q.block≠b:=fun q hq e=>by
           have h1:=HNW.out q hq;have h2:=HXL.out;omega
          obtain⟨gb,o,rfl,hgl,hc0,hc1⟩:=(es_chg HES.out hC hG).at' j hlt
          have HFE:=hid ((HFW.out i l HEI2.out).2 _ (List.getElem_mem hlt));have hdr:l.drop j=l[j] :: l.drop (j+1):=List.drop_eq_getElem_cons hlt;rw[hdr] at hT
          obtain⟨⟨p,x⟩,hp⟩:∃ e:En,e=l[j]:=⟨_,rfl⟩
          rw[← hp] at hT hc0 hc1 HFE;have HT:=hid hT;have hBw:=(HB5.out.trans (hC.below HB5.out.size HBB.out));have hx0:=hb_chg HX5.out hC (fun e=>HXB.out.2 e.symm);have hal:=(Below.refl wr.heap.size wr).alloc (Nat.le_refl _) (.cells #[.string p,.int .i64 x] 154);have HXX:=hid (hb_new wr #[.string p,.int .i64 x] 154);have HX6:=hid (hx0.keep hal);have HM6:=hid (hM.keep hal);have HC6:=hid (hC.trans (chg_of_below hal b));have HB6:=hid (hBw.trans (hal.mono hBw.size));have HIN:=hid (fun w'=>in_any a p w' (by have:=HA.out;omega) (by have:=HFE.out;simp only at this;omega))
          obtain⟨d1,hd1⟩:∃ d1:Int,d1=65 - (g:Int):=⟨_,rfl⟩
          have hdd:IntKind.i64.wrap (d+1)=d1:=by
           have h1:=HD.out;have h2:=HF.out;rw[IntWalk.i64_in _ (by omega)];omega
          have HRC:=hid (fun w'=>HREC.out g rfl x (inn a p) T w' (by
           have h1:=inn_size a p;have h2:=HA.out;have h3:=HFE.out;have h4:=HF.out;simp only at h3
           omega))
          rw[← hd1] at HRC;have HNE:=hid (show wr.heap.size≠b from by have:=hM.lt;omega);have HNM:=hid (show w.heap.size≠b from fun e=>HXB.out.2 e.symm);have hj0:(0:Int)≤(j:Int):=by omega
          have hj1:(j:Int) < (l.length:Int):=by omega
          clear hT hM hC hBw hx0 hal hdr hG hp hd1;go_wp2_with fail
          generalize wr.alloc (.cells #[.string p,.int .i64 x] 154)=w6 at *;generalize wr.heap.size=xc at *;have y0:=HX6.out.cell 0;have y1:=HX6.out.cell 1;have y2:=HX6.out.cell 2;have yl:=HX6.out.lt;have z0:=HXX.out.cell 0;have z1:=HXX.out.cell 1;have zl:=HXX.out.lt;clear hc0 hc1 hgl
          go_region_held3 (fun W'=>W'.cell? ⟨w.heap.size,0,none⟩=some v∧W'.cell? ⟨w.heap.size,1,none⟩=some c∧W'.cell? ⟨w.heap.size,2,none⟩=some (.map (some b))∧W'.cell? ⟨xc,0,none⟩=some (.string p)∧W'.cell? ⟨xc,1,none⟩=some (.int .i64 x)) (go_keep)
           (first
           | (go_at_call 80
              with_reducible refine (HIN.out _).mono ?_
              rintro r w7 ⟨rfl,rfl⟩)
           | (go_at_call 40
              with_reducible refine (HRC.out _ HM6.out.drew HB6.out.drew).mono ?_
              rintro r w7 ⟨rfl,hm7,hc7⟩;have HM7:=hid hm7;have HC7:=hid (HC6.out.drew.trans hc7);have HX7:=hid (hb_chg (HX6.out.drewN 1) hc7 HNM.out);have HXX7:=hid (hb_chg (HXX.out.drewN 1) hc7 HNE.out);have y0:=HX7.out.cell 0;have y1:=HX7.out.cell 1;have y2:=HX7.out.cell 2;have z0:=HXX7.out.cell 0;have z1:=HXX7.out.cell 1;clear hm7 hc7))
          have hT:=HT.out;rw[fold_cons] at hT;clear y0 y1 y2 yl z0 z1 zl HX7 HXX7 HX6 HXX HM6 HIN HRC HT;generalize mt kd E g x (inn a p) T=q at *
          obtain⟨q1,q2⟩:=q
          have HT:=hid hT;simp only at HT HM7;clear hT;by_cases h0:q1=0
          · subst h0
            have hll:=(HFW.out i l HEI2.out).1;have hjl:(j:Int)≤4194304:=by omega
            go_wp2
            exact⟨⟨j+1,q2,by omega,by go_num,by rw[HT.out];rfl,HM7.out,HC7.out⟩,by simp[intOf];omega⟩
          · have h1:((q1:Int) == 0)=false:=beq_eq_false_iff_ne.2 (by omega)
            have h2:¬ (q1:Int)=0:=by omega
            have HQ:=hid h0;clear h0;go_wp2
            go_ret;rw[← HRE.out,HT.out,if_neg HQ.out]
            exact⟨rfl,HM7.out,HC5.out.trans HC7.out⟩
        · obtain rfl:j=l.length:=by omega
          have HT:=hid hT;have HMT:=hid hM;have HCT:=hid hC;clear hT hM hC;go_wp2
          go_ret;rw[← HRE.out,HT.out,List.drop_length]
          exact⟨rfl,HMT.out,HC5.out.trans HCT.out⟩
   · have hk2b:((k:Int) == 2)=false:=beq_eq_false_iff_ne.2 (by omega)
     have hk2i:¬ (k:Int)=2:=by omega
     go_wp2
     go_ret;rw[mt_file hi HKD.out (by rw[← HKK.out];exact hk2)]
     exact⟨rfl,HM4.out,HC4.out⟩
theorem meet_any (h:Has w0 v c kd E):∀ (f:Nat) (i:Int) (a:ByteArray) (S:St) (w:World) (b:Nat),f≤65→a.size≤1000 * (66 - f)→Mm w b S→Below w0.heap.size w0 w→w0.heap.size≤b →
 Calls Tryz.prog 40 #[.agg #[v,c,.map (some b)],.int .i64 i,.string a,.int .i64 (65 - (f:Int))] w (MtTo b (mt kd E f i a S) w):=by
 intro f
 induction f with
 | zero=>
   intro i a S w b hf ha hm hb hB;by_cases hi:i∈keys S
   · rw[show mt kd E 0 i a S=(5,S) from if_pos (.inl hi)]
     exact meet_again h w b S i a _ hm hb hi
   by_cases hk:kd i=0
   · rw[show mt kd E 0 i a S=(5,S) from if_pos (.inr hk)]
     exact meet_free h w b S i a _ hm hb hi hk
   exact meet_live h w b S i a 0 hf ha hm hb hB hi hk (fun g hg=>by omega)
 | succ f ih=>
   intro i a S w b hf ha hm hb hB;by_cases hi:i∈keys S
   · rw[show mt kd E (f+1) i a S=(5,S) from by rw[mt,if_pos (.inl hi)]]
     exact meet_again h w b S i a _ hm hb hi
   by_cases hk:kd i=0
   · rw[show mt kd E (f+1) i a S=(5,S) from by rw[mt,if_pos (.inr hk)]]
     exact meet_free h w b S i a _ hm hb hi hk
   exact meet_live h w b S i a (f+1) hf ha hm hb hB hi hk (fun g hg i' a' S' w' ha' hm' hb'=>by
    obtain rfl:f=g:=by omega
    exact ih i' a' S' w' b (by omega) ha' hm' hb' hB)
end
end Chk
end
section
open Lib (hid)
open Go.RowKit Go.MapKept
namespace Clm
open Chn (Pt New Prt slots Mays tot blk blk_len)
open Vol (Vo Hb hb_new)
open Pack (Nts)
open Lin (take_yes take_no)
theorem sls_ints (l:List Pt):(sls l).map Int.ofNat=slots l:=by
 unfold sls slots;rw[List.map_map];rfl
theorem sls_len (l:List Pt):(sls l).length=l.length:=by simp[sls]
theorem pn_of {n:Nat} {X Y:List Nat} (hX:X.Nodup) (hY:∀ y∈Y,y < n):∃ v g,Bm.tn n true (ins X) (Y.map Int.ofNat)=(g,v)∧(((X++Y).Nodup∧v=Y.length∧g=ins (X++Y))∨(¬ (X++Y).Nodup∧v≠Y.length)):=by
 by_cases h:(X++Y).Nodup
 · exact⟨_,_,put_yes hX hY h,.inl ⟨h,rfl,rfl⟩⟩
 · exact⟨_,_,rfl,.inr ⟨h,put_no hX hY h⟩⟩
def GvTo (w:World) (P:Pc) (n m:Nat) (N C X:Array Value) (U S:List Nat) (l:List Pt) (i:Nat) (r:Ending) (w':World):Prop:=
 (¬ ((S++sls l).Nodup∧(U++blk l).Nodup)∧r = .returned (.bool false)∧Below P.lo w w') ∨
 (((S++sls l).Nodup∧(U++blk l).Nodup)∧r = .returned (.bool true)∧∃ X',Cr w' P n m N C X' (ins (U++blk l)) (ins (S++sls l))∧Pw X X' i (blk l)∧Fr (P.c+1) w w'∧Below P.lo w w')
section
variable {w : World} {P : Pc} {n m : Nat} {N C X : Array Value} {U S : List Nat}
theorem give_any (h:Cr w P n m N C X (ins U) (ins S)) (hU:U.Nodup) (hS:S.Nodup) (l:List Pt) (A D:Option Addr) (a d i:Nat) (hA:Nts w A (slots l)) (hD:Prt w D l) (hn:New (P.c+1) A) (hm:Mays l) (hl:l.length≤65534)
 (h1:∀ x∈sls l,x < n) (h2:∀ x∈blk l,x < n) :
 Calls Tryz.prog 63 #[.pointer (some ⟨P.c,0,none⟩),.int .i64 (i:Int),.agg #[.slice A l.length a,.slice D l.length d]] w (GvTo w P n m N C X U S l i):=by
 have HO:=hid (And.intro h.ord.le h.ord.lt);have HH:=hid h;have HA:=hid hA;have HN:=hid hn;have hBK:=fun w' (hb:Below w.heap.size w w')=>Chn.blocks_new w' A D l.length a d l (hD.keep hb) hm hl
 rw[← blk_len] at hBK;have HBK:=hid hBK
 obtain⟨v1,g1,e1,hp1⟩:=pn_of (n:=n) hS h1
 obtain⟨v2,g2,e2,hp2⟩:=pn_of (n:=n) hU h2
 rw[sls_ints] at e1;have HE1:=hid e1;have HE2:=hid e2;have HP1:=hid hp1;have HP2:=hid hp2;have HB2:=hid h2;have htl:=Chn.tot_le hm l.length;rw[List.take_length,← blk_len] at htl;have HTL:=hid (show (blk l).length≤5000000000 by omega);clear h hA htl hn hBK hD hm e1 e2 hp1 hp2 h1 h2 hU hS;have HB0:=hid ((Below.refl w.heap.size w).alloc (Nat.le_refl _) (.cells #[.slice A l.length a,.slice D l.length d] 130));have HX0:=hid (hb_new w #[.slice A l.length a,.slice D l.length d] 130);go_enter Tryz.func63,Tryz.ntmps63
 go_wp2_with fail
 generalize w.alloc (.cells #[.slice A l.length a,.slice D l.length d] 130)=w0 at *;refine (HBK.out _ HB0.out).mono ?_;rintro r w1 ⟨G,gc,rfl,hng,hnw,hb⟩;have hd:∀ W:World,Below W.heap.size W W.drew:=fun W=>⟨rfl,rfl,rfl,Nat.le_refl _,fun _ _=>rfl⟩
 have HB1:=hid (HB0.out.trans (hb.mono HB0.out.size));have HX1:=hid (HX0.out.keep hb);have hc1:=HH.out.keep HB1.out;have HXB:=hid (show P.c < w.heap.size from HH.out.lt)
 have hGn:∀ q',q'≤P.c→∀ W,Bm.Chg q' w1 W→Nts W G ((blk l).map Int.ofNat):=fun q' hq W hC=>
  nts_fr hng hnw (fr_chg hC (by have:=HB0.out.size;have:=HXB.out;omega))
 have HPS:=hid (Bm.put_any (hc1.sm.drew) A a (slots l) (fun W hC=>nts_fr (nts_fr HA.out HN.out (fr_below HB1.out)) HN.out (fr_chg ((Bm.chg_of_below (hd w1) P.sq).trans hC) (by have:=HO.out;omega))));rw[HE1.out,Chn.slots_len] at HPS;have c2:=hc1.claim.cell 2;have c3:=hc1.claim.cell 3;have cl:=hc1.lt;have x0:=HX1.out.cell 0;have xl:=HX1.out.lt
 rcases HP1.out with ⟨hs1,hs2,hs3⟩ | ⟨hs1,hs2⟩
 · rw[sls_len] at hs2
   subst hs2 hs3;have HS1:=hid hs1;clear hs1
   rcases HP2.out with ⟨ht1,ht2,ht3⟩ | ⟨ht1,ht2⟩
   · subst ht2 ht3
     have HT1:=hid ht1;clear ht1;go_wp2_with fail
     go_region_held3 (fun W'=>W'.cell? ⟨P.c,3,none⟩=some (.pointer (some ⟨P.sp,0,none⟩))∧W'.cell? ⟨P.c,2,none⟩=some (.pointer (some ⟨P.bp,0,none⟩))∧W'.cell? ⟨w.heap.size,0,none⟩=some (.slice A l.length a)) (go_keep)
      (first
      | (go_at_call 117
         with_reducible refine HPS.out.mono ?_
         rintro r w2 ⟨rfl,hm2,hC2⟩;have HR2:=hid ((hc1.keep (hd w1)).put_s hm2 hC2);have HC2:=hid ((Bm.chg_of_below (hd w1) P.sq).trans hC2);have hpb:=Bm.put_any HR2.out.bm G gc ((blk l).map Int.ofNat) (fun W hC=>nts_fr (hGn P.sq (by have:=HO.out;omega) w2 HC2.out) hnw (fr_chg hC (by have:=HB0.out.size;have:=HXB.out;have:=HO.out;omega)));rw[HE2.out,List.length_map] at hpb;have HPB:=hid hpb;have e2:=HR2.out.claim.cell 2;have e3:=HR2.out.claim.cell 3;have y0:=(HC2.out.cell (p:=⟨w.heap.size,0,none⟩) xl (by show w.heap.size≠P.sq;have:=HO.out;have:=HXB.out;omega)).trans x0;have cl2:=HR2.out.lt;have xl2:=Nat.lt_of_lt_of_le xl HC2.out.size;clear hm2 hC2 hpb)
      | (go_at_call 117
         with_reducible refine HPB.out.mono ?_
         rintro r w3 ⟨rfl,hm3,hC3⟩;have HR3:=hid (HR2.out.put_b hm3 hC3);have HC3:=hid hC3;have k2:=HR3.out.claim.cell 2;have k3:=HR3.out.claim.cell 3;have z0:=(hC3.cell (p:=⟨w.heap.size,0,none⟩) xl2 (by show w.heap.size≠P.bq;have:=HO.out;have:=HXB.out;omega)).trans y0;clear hm3 hC3))
     have HBF:=hid (show Below P.lo w w3 from (HB1.out.mono (by have:=HO.out;have:=HXB.out;omega)).trans
      ((HC2.out.below (by have:=HO.out;have:=HB1.out.size;have:=HXB.out;omega) (by have:=HO.out;omega)).trans
        (HC3.out.below (by have:=HO.out;have:=HB1.out.size;have:=HC2.out.size;have:=HXB.out;omega) (by have:=HO.out;omega))))
     go_wp2
     have HG3:=hid (show Nts w3 G ((blk l).map Int.ofNat) from nts_fr (nts_fr hng hnw (fr_chg HC2.out (by have:=HB0.out.size;have:=HXB.out;have:=HO.out;omega))) hnw (fr_chg HC3.out (by have:=HB0.out.size;have:=HXB.out;have:=HO.out;omega)));have HNW:=hid (show New w0.heap.size G from hnw);have HP0:=hid (show P.pb < w0.heap.size by have:=HB0.out.size;have:=HXB.out;have:=HO.out;omega);have HN0:=hid (show (blk l).Nodup by have:=HT1.out;rw[List.nodup_append] at this;exact this.2.1);have HZL:=hid (show n≤65534 from HH.out.bm.max);have HF3:=hid (show Fr (P.c+1) w w3 from (fr_below HB1.out).trans ((fr_chg HC2.out (by have:=HO.out;omega)).trans (fr_chg HC3.out (by have:=HO.out;omega))));clear c2 c3 cl x0 xl e2 e3 y0 cl2 xl2 k2 k3 z0 hng hnw hGn hc1 hd hb
     go_loopw [36] (fun q wr=>∃ (t:Nat) (X':Array Value),t≤(blk l).length∧q = .int .i64 (t:Int)∧Cr wr P n m N C X' (ins (U++blk l)) (ins (S++sls l))∧Pw X X' i ((blk l).take t)∧Bm.Chg P.pb w3 wr) (fun q _=>(blk l).length - (intOf q).toNat)
     case atStart=>exact⟨0,X,Nat.zero_le _,rfl,HR3.out,by rw[List.take_zero];exact Pw.nil X i,Bm.Chg.refl _ _⟩
     case round=>
      obtain⟨t,X',ht,rfl,hcr,hpw,hC⟩:=hrel
      by_cases hlt:t < (blk l).length
      · obtain⟨g,o,hG,hbb,hc0⟩:=(nts_fr HG3.out HNW.out (fr_chg hC HP0.out)).at' t (by rw[List.length_map];exact hlt)
        subst hG;rw[List.getElem_map] at hc0;have hbn:=HB2.out _ (List.getElem_mem hlt);have HNX:=hid (hpw.next hlt HN0.out hcr.sx hbn);generalize (blk l)[t]=b at *;have hc0:wr.cell? ⟨g,o+t,none⟩=some (.int .i64 (b:Int)):=hc0;have HR:=hid hcr;have HC:=hid hC;have c4:=hcr.claim.cell 4;have cl:=hcr.lt;have hsx:=hcr.sx
        obtain⟨u0,k0⟩:∃ v,wr.cell? ⟨P.pb,b * 2,none⟩=some v:=⟨_,(hcr.places.cell (b * 2)).trans (Array.getElem?_eq_getElem (by omega))⟩
        obtain⟨u1,k1⟩:∃ v,wr.cell? ⟨P.pb,b * 2+1,none⟩=some v:=⟨_,(hcr.places.cell (b * 2+1)).trans (Array.getElem?_eq_getElem (by omega))⟩
        have f0:=hcr.places.frozen (b * 2);have f1:=hcr.places.frozen (b * 2+1);have gl:=hcr.places.lt;have hzl:=HZL.out;have htl:=HTL.out;clear hsx hcr hC hpw;go_wp2
        refine⟨⟨t+1,_,by omega,by go_num,(HR.out.set_x (b * 2) (.int .i64 (i:Int))).set_x (b * 2+1) (.int .i64 (t:Int)),HNX.out,?_⟩,by simp[intOf];omega⟩
        exact (HC.out.setCell rfl _).setCell rfl _
      · obtain rfl:t=(blk l).length:=by omega
        rw[List.take_length] at hpw;go_wp2
        go_ret;refine .inr ⟨⟨HS1.out,HT1.out⟩,rfl,X',hcr,hpw,HF3.out.trans (fr_chg hC (by have:=HO.out;omega)),HBF.out.trans (hC.below ?_ ?_)⟩
        · have:=HO.out;have:=HB1.out.size;have:=HC2.out.size;have:=HC3.out.size;have:=HXB.out;omega
        · have:=HO.out;omega
   · have hne:((v2:Int) != ((blk l).length:Int))=true:=by
      simp only[bne_iff_ne,ne_eq];omega
     clear ht2;have HT1:=hid ht1;clear ht1;go_wp2_with fail
     go_region_held3 (fun W'=>W'.cell? ⟨P.c,3,none⟩=some (.pointer (some ⟨P.sp,0,none⟩))∧W'.cell? ⟨P.c,2,none⟩=some (.pointer (some ⟨P.bp,0,none⟩))∧W'.cell? ⟨w.heap.size,0,none⟩=some (.slice A l.length a)) (go_keep)
      (first
      | (go_at_call 117
         with_reducible refine HPS.out.mono ?_
         rintro r w2 ⟨rfl,hm2,hC2⟩;have HR2:=hid ((hc1.keep (hd w1)).put_s hm2 hC2);have HC2:=hid ((Bm.chg_of_below (hd w1) P.sq).trans hC2);have hpb:=Bm.put_any HR2.out.bm G gc ((blk l).map Int.ofNat) (fun W hC=>nts_fr (hGn P.sq (by have:=HO.out;omega) w2 HC2.out) hnw (fr_chg hC (by have:=HB0.out.size;have:=HXB.out;have:=HO.out;omega)));rw[HE2.out,List.length_map] at hpb;have HPB:=hid hpb;have e2:=HR2.out.claim.cell 2;have e3:=HR2.out.claim.cell 3;have y0:=(HC2.out.cell (p:=⟨w.heap.size,0,none⟩) xl (by show w.heap.size≠P.sq;have:=HO.out;have:=HXB.out;omega)).trans x0;have cl2:=HR2.out.lt;have xl2:=Nat.lt_of_lt_of_le xl HC2.out.size;clear hm2 hC2 hpb)
      | (go_at_call 117
         with_reducible refine HPB.out.mono ?_
         rintro r w3 ⟨rfl,hm3,hC3⟩;have HR3:=hid (HR2.out.put_b hm3 hC3);have HC3:=hid hC3;have k2:=HR3.out.claim.cell 2;have k3:=HR3.out.claim.cell 3;have z0:=(hC3.cell (p:=⟨w.heap.size,0,none⟩) xl2 (by show w.heap.size≠P.bq;have:=HO.out;have:=HXB.out;omega)).trans y0;clear hm3 hC3))
     have HBF:=hid (show Below P.lo w w3 from (HB1.out.mono (by have:=HO.out;have:=HXB.out;omega)).trans
      ((HC2.out.below (by have:=HO.out;have:=HB1.out.size;have:=HXB.out;omega) (by have:=HO.out;omega)).trans
        (HC3.out.below (by have:=HO.out;have:=HB1.out.size;have:=HC2.out.size;have:=HXB.out;omega) (by have:=HO.out;omega))))
     go_wp2
     go_ret;exact .inl ⟨fun h=>HT1.out h.2,rfl,HBF.out⟩
 · have hne:((v1:Int) != (l.length:Int))=true:=by
    rw[sls_len] at hs2;simp only[bne_iff_ne,ne_eq];omega
   clear hs2;have HS1:=hid hs1;clear hs1;go_wp2_with fail
   refine wp_region_held_drew (S:=(fun W'=>W'.cell? ⟨P.c,3,none⟩=some (.pointer (some ⟨P.sp,0,none⟩))∧W'.cell? ⟨w.heap.size,0,none⟩=some (.slice A l.length a))) (by kernel_rfl) ?_ (fun hHeld=>?_)
   · exact⟨c3,x0⟩
   refine take_yes 0 12 (.pointer (some ⟨P.c,0,none⟩)) rfl rfl (by kernel_rfl) (by kernel_rfl) (by kernel_rfl) (fun _ _ _ h=>h) rfl ?_ (by assumption) ?_
   · intro w hSw
     try dsimp only at hSw
     go_simp
   simp only[Act.put,List.setIfInBounds_toArray,List.set_cons_zero,List.set_cons_succ];refine take_yes 1 13 (.pointer (some ⟨P.c,0,none⟩)) rfl rfl (by kernel_rfl) (by kernel_rfl) (by kernel_rfl) (fun _ _ _ h=>h) rfl ?_ (by assumption) ?_
   · intro w hSw
     try dsimp only at hSw
     go_simp
   simp only[Act.put,List.setIfInBounds_toArray,List.set_cons_zero,List.set_cons_succ];refine take_yes 2 14 (.pointer (some ⟨P.c,3,none⟩)) rfl rfl (by kernel_rfl) (by kernel_rfl) (by kernel_rfl) (fun _ _ _ h=>h) rfl ?_ (by assumption) ?_
   · intro w hSw
     try dsimp only at hSw
     go_simp
   simp only[Act.put,List.setIfInBounds_toArray,List.set_cons_zero,List.set_cons_succ];refine take_yes 3 15 (.pointer (some ⟨P.sp,0,none⟩)) rfl rfl (by kernel_rfl) (by kernel_rfl) (by kernel_rfl) (fun _ _ _ h=>h) rfl ?_ (by assumption) ?_
   · intro w hSw
     try dsimp only at hSw
     go_simp
   simp only[Act.put,List.setIfInBounds_toArray,List.set_cons_zero,List.set_cons_succ];refine take_yes 4 16 (.pointer (some ⟨w.heap.size,0,none⟩)) rfl rfl (by kernel_rfl) (by kernel_rfl) (by kernel_rfl) (fun _ _ _ h=>h) rfl ?_ (by assumption) ?_
   · intro w hSw
     try dsimp only at hSw
     go_simp
   simp only[Act.put,List.setIfInBounds_toArray,List.set_cons_zero,List.set_cons_succ];refine take_yes 5 17 (.slice A l.length a) rfl rfl (by kernel_rfl) (by kernel_rfl) (by kernel_rfl) (fun _ _ _ h=>h) rfl ?_ (by assumption) ?_
   · intro w hSw
     try dsimp only at hSw
     go_simp
   simp only[Act.put,List.setIfInBounds_toArray,List.set_cons_zero,List.set_cons_succ];refine take_yes 7 19 (.pointer (some ⟨w.heap.size,0,none⟩)) rfl rfl (by kernel_rfl) (by kernel_rfl) (by kernel_rfl) (fun _ _ _ h=>h) rfl ?_ (by assumption) ?_
   · intro w hSw
     try dsimp only at hSw
     go_simp
   simp only[Act.put,List.setIfInBounds_toArray,List.set_cons_zero,List.set_cons_succ];refine take_yes 8 20 (.slice A l.length a) rfl rfl (by kernel_rfl) (by kernel_rfl) (by kernel_rfl) (fun _ _ _ h=>h) rfl ?_ (by assumption) ?_
   · intro w hSw
     try dsimp only at hSw
     go_simp
   simp only[Act.put,List.setIfInBounds_toArray,List.set_cons_zero,List.set_cons_succ];refine take_yes 9 21 (.int .i64 (l.length:Int)) rfl rfl (by kernel_rfl) (by kernel_rfl) (by kernel_rfl) (fun _ _ _ h=>h) rfl ?_ (by assumption) ?_
   · intro w hSw
     try dsimp only at hSw
     go_simp
   simp only[Act.put,List.setIfInBounds_toArray,List.set_cons_zero,List.set_cons_succ];refine wpAnyH_ready (rs:=[6]) (by kernel_rfl) (by simp) ?_;refine AllReadyH.cons rfl (fun K hK=>?_) AllReadyH.nil
   go_simp
   go_at_call 117
   with_reducible refine HPS.out.mono ?_
   rintro r w2 ⟨rfl,hm2,hC2⟩;have d3:=(hC2.cell (p:=⟨P.c,3,none⟩) cl (by show P.c≠P.sq;have:=HO.out;omega)).trans c3;have y0:=(hC2.cell (p:=⟨w.heap.size,0,none⟩) xl (by show w.heap.size≠P.sq;have:=HO.out;have:=HXB.out;omega)).trans x0;have HC2:=hid hC2;clear hm2 hC2 hHeld;go_wp2_with fail
   refine hK.out _ _ ⟨d3,y0⟩ (fun hHeld=>?_);clear hK K;refine take_yes 10 22 (.bool true) rfl rfl (by kernel_rfl) (by kernel_rfl) (by kernel_rfl) (fun _ _ _ h=>h) rfl ?_ (by assumption) ?_
   · intro w hSw
     try dsimp only at hSw
     go_simp
   simp only[Act.put,List.setIfInBounds_toArray,List.set_cons_zero,List.set_cons_succ];refine take_yes 11 23 (.bool true) rfl rfl (by kernel_rfl) (by kernel_rfl) (by kernel_rfl) (fun _ _ _ h=>h) rfl ?_ (by assumption) ?_
   · intro w hSw
     try dsimp only at hSw
     go_simp
   simp only[Act.put,List.setIfInBounds_toArray,List.set_cons_zero,List.set_cons_succ];refine take_no 12 24 rfl rfl (by kernel_rfl) (by kernel_rfl) (by kernel_rfl) (fun _ _ _ h=>h) rfl (by assumption) ?_;simp only[Act.put,List.setIfInBounds_toArray,List.set_cons_zero,List.set_cons_succ];refine take_no 13 25 rfl rfl (by kernel_rfl) (by kernel_rfl) (by kernel_rfl) (fun _ _ _ h=>h) rfl (by assumption) ?_;simp only[Act.put,List.setIfInBounds_toArray,List.set_cons_zero,List.set_cons_succ];refine take_no 14 26 rfl rfl (by kernel_rfl) (by kernel_rfl) (by kernel_rfl) (fun _ _ _ h=>h) rfl (by assumption) ?_;simp only[Act.put,List.setIfInBounds_toArray,List.set_cons_zero,List.set_cons_succ];refine take_no 15 27 rfl rfl (by kernel_rfl) (by kernel_rfl) (by kernel_rfl) (fun _ _ _ h=>h) rfl (by assumption) ?_;simp only[Act.put,List.setIfInBounds_toArray,List.set_cons_zero,List.set_cons_succ];refine take_no 16 28 rfl rfl (by kernel_rfl) (by kernel_rfl) (by kernel_rfl) (fun _ _ _ h=>h) rfl (by assumption) ?_;simp only[Act.put,List.setIfInBounds_toArray,List.set_cons_zero,List.set_cons_succ];refine take_no 17 29 rfl rfl (by kernel_rfl) (by kernel_rfl) (by kernel_rfl) (fun _ _ _ h=>h) rfl (by assumption) ?_;simp only[Act.put,List.setIfInBounds_toArray,List.set_cons_zero,List.set_cons_succ];refine take_no 18 30 rfl rfl (by kernel_rfl) (by kernel_rfl) (by kernel_rfl) (fun _ _ _ h=>h) rfl (by assumption) ?_;simp only[Act.put,List.setIfInBounds_toArray,List.set_cons_zero,List.set_cons_succ];refine take_no 19 31 rfl rfl (by kernel_rfl) (by kernel_rfl) (by kernel_rfl) (fun _ _ _ h=>h) rfl (by assumption) ?_;simp only[Act.put,List.setIfInBounds_toArray,List.set_cons_zero,List.set_cons_succ];refine take_no 20 32 rfl rfl (by kernel_rfl) (by kernel_rfl) (by kernel_rfl) (fun _ _ _ h=>h) rfl (by assumption) ?_;simp only[Act.put,List.setIfInBounds_toArray,List.set_cons_zero,List.set_cons_succ];refine take_yes 21 33 (.bool true) rfl rfl (by kernel_rfl) (by kernel_rfl) (by kernel_rfl) (fun _ _ _ h=>h) rfl ?_ (by assumption) ?_
   · intro w hSw
     try dsimp only at hSw
     go_simp
   simp only[Act.put,List.setIfInBounds_toArray,List.set_cons_zero,List.set_cons_succ];refine wpAnyH_done (by kernel_rfl) ?_ _;go_wp2
   go_ret;refine .inl ⟨fun h=>HS1.out h.1,rfl,?_⟩;refine (HB1.out.mono (by have:=HO.out;have:=HXB.out;omega)).trans ?_;exact (((Bm.chg_of_below (hd w1) P.sq).trans HC2.out).below (by have:=HO.out;have:=HB1.out.size;have:=HXB.out;omega) (by have:=HO.out;omega))
end
end Clm
end
end Go.Proofs.YtlodpaaanfjkeaaGreatDoor
