/- Texts laid together: TrkGrow, TrkWrite, TreIns, TreAll, TreKids, TreUnlink, TreRead, TreRmdir, TreTrunc, TreWrite, TrkWr, TrkRead, TrkDrop, TrkRm, TrkRmdir, TrkWf, CrcSums, TrkLives, ChkLives, ChkNamesLaw, PackArgs, ChkCard. -/
import Derived.Test.YtdafimdfbnphaaaGreatDoorKb9
import Derived.Deep.RegionHeld3
import Derived.Deep.RegionLaw
import Derived.Deep.DeepCutAuto
import Derived.Test.YtdafimdfbnphaaaGreatDoorKb8
import Derived.LaidEqlPtr
import Derived.Test.YtdafimdfbnphaaaGreatDoorKb1
import Derived.Test.YtdafimdfbnphaaaGreatDoorKb4
import Derived.Test.YtdafimdfbnphaaaGreatDoorKa1
import Derived.Deep.Slices
import Derived.OpenShut
import Derived.ChangeOld
import Derived.Test.YtdafimdfbnphaaaGreatDoorTie
import Derived.Test.YtdafimdfbnphaaaGreatDoorCards
import Derived.ProofKit
import Derived.Lay
import Derived.LaidMore
import Derived.LaidOnce
import Derived.Stop.Joined
import Derived.ChangeMaps5
import Derived.Test.YtdafimdfbnphaaaGreatDoorKa2
import Derived.Test.YtdafimdfbnphaaaGreatDoorKb2
import Derived.Test.YtdafimdfbnphaaaGreatDoorKb3
import Derived.Test.YtdafimdfbnphaaaGreatDoorKb5
import Derived.Test.YtdafimdfbnphaaaGreatDoorKb6
import Derived.Test.YtdafimdfbnphaaaGreatDoorKb7
/- Texts. -/
namespace Go.Proofs.YtdafimdfbnphaaaGreatDoor
open Lib (hid)
open Go.RowKit Go.MapKept
namespace Trk
open Tre (Nm Th fi isDirAt dirT goT goF setT dropT fileT addT zt)
open Pat (Txs)
def DatR (w:World) (N:Nat) (x:Nd) (f:ByteArray→Option Nat) (d:Bool) (s':ByteArray) (w':World):Prop:=
 ∃ A' c',Nod w' N ⟨x.b,A',c',x.m⟩ f d s'∧(∀ a,A'=some a→x.A.map (·.block)=some a.block∨w.heap.size≤a.block)∧Chg (·∈own x) w w'
theorem dat_nodup {w:World} {x:Nd} (h1:(own x).Nodup) (hlt:∀ i∈own x,i < w.heap.size) {A':Option Addr} {c':Nat} (hA:∀ a,A'=some a→x.A.map (·.block)=some a.block∨w.heap.size≤a.block):(own ⟨x.b,A',c',x.m⟩).Nodup:=by
 cases hA':A' with
 | none=>
   unfold own at h1 ⊢
   simp only[Option.map_none,Option.toList_none,List.append_nil]
   refine List.Nodup.sublist ?_ h1
   exact List.Sublist.cons_cons _ (List.sublist_append_left _ _)
 | some a=>
   rcases hA a hA' with h | h
   · have:own (⟨x.b,some a,c',x.m⟩:Nd)=own x:=by
      unfold own
      rw[h]
      rfl
     rw[this]
     exact h1
   · have hb:=hlt x.b (own_mem.2 (.inl rfl))
     unfold own
     cases hm:x.m with
     | none=>simp;omega
     | some g=>
       have hg:=hlt g (own_mem.2 (.inr (.inl hm)))
       have hbg:x.b≠g:=fun e=>by
        unfold own at h1
        rw[hm] at h1
        simp[e] at h1
       simp
       exact⟨⟨hbg,by omega⟩,by omega⟩
def Ld (L:Nm→Nd) (p:Nm) (A':Option Addr) (c':Nat) (q:Nm):Nd:=if q=p then ⟨(L p).b,A',c',(L p).m⟩ else L q
section
variable {L : Nm → Nd} {p : Nm} {A' : Option Addr} {c' : Nat}
theorem Ld_self:Ld L p A' c' p=⟨(L p).b,A',c',(L p).m⟩:=if_pos rfl
theorem Ld_other {q:Nm} (h:q≠p):Ld L p A' c' q=L q:=if_neg h
theorem Ld_b {q:Nm}:(Ld L p A' c' q).b=(L q).b:=by
 unfold Ld
 split
 · rename_i e
   rw[e]
 · rfl
end
theorem Mem.dat {w w':World} {N:Nat} {t t':List Th} {L:Nm→Nd} (h:Mem w N t L) {p:Nm} {d:Bool} {s s':ByteArray} (hp:T t p=some (d,s)) (hT:∀ n,T t' n=if n=p then some (d,s') else T t n)
 (hr:DatR w N (L p) (kb t L p) d s' w'):∃ A' c',Mem w' N t' (Ld L p A' c')∧Chg (Fp t L) w w'∧∀ i,Fp t' (Ld L p A' c') i→Fp t L i∨w.heap.size≤i:=by
 obtain⟨A',c',hN,hA,hc⟩:=hr
 have hFp:∀ i∈own (L p),Fp t L i:=fun i hi=>⟨p,_,hp,hi⟩
 have hown:∀ i,i∈own (Ld L p A' c' p)→i∈own (L p)∨w.heap.size≤i:=fun i hi=>by
  rw[Ld_self,own_mem] at hi
  simp only at hi
  rcases hi with hi | hi | hi
  · exact .inl (own_mem.2 (.inl hi))
  · exact .inl (own_mem.2 (.inr (.inl hi)))
  · cases hA':A' with
    | none=>rw[hA'] at hi;simp at hi
    | some a=>
      rw[hA'] at hi
      simp at hi
      subst hi
      rcases hA a hA' with h | h
      · exact .inl (own_mem.2 (.inr (.inr h)))
      · exact .inr h
 have hkb:∀ q x,kb t' (Ld L p A' c') q x=kb t L q x:=fun q x=>by
  unfold kb
  rw[Ld_b,hT]
  by_cases e:q++[x]=p
  · rw[if_pos e,e,hp]
    rfl
  · rw[if_neg e]
 refine⟨A',c',?_,⟨hc.os,hc.tape,hc.output,hc.size,fun k hk hn=>hc.block k hk (fun e=>hn (hFp k e))⟩,?_⟩
 · refine h.step (fun q=>q=p) (Nat.le_refl N) (fun q hq=>?_) (fun q hq=>?_) (fun q v hv hq i hi=>?_) (fun q x v hv hq=>hkb q x) (fun q d' s1 hq hv=>?_) (fun q v hq hv=>?_) (fun q r v u hq hv hu hne' i hi=>?_)
   · rw[hT,if_neg hq]
   · exact Ld_other hq
   · exact hc.block i (h.lt ⟨q,v,hv,hi⟩) (fun e=>h.apart q p v _ hv hp hq i hi e)
   · obtain rfl:q=p:=hq
     rw[hT,if_pos rfl] at hv
     injection hv with hv
     injection hv with h1 h2
     subst h1 h2
     rw[Ld_self]
     exact⟨hN.box,hN.row,hN.map.congr fun x=>(hkb q x).symm⟩
   · obtain rfl:q=p:=hq
     rw[Ld_self]
     exact dat_nodup (h.one _ _ hp) (fun i hi=>h.lt (hFp i hi)) hA
   · obtain rfl:q=p:=hq
     rw[hT,if_neg hne'] at hu
     rw[Ld_other hne']
     rcases hown i hi with h1 | h1
     · exact h.apart q r _ u hp hu (fun e=>hne' e.symm) i h1
     · intro hi'
       have:=h.lt ⟨r,u,hu,hi'⟩
       omega
 · rintro i ⟨q,v,hv,hi⟩
   by_cases e:q=p
   · subst e
     exact (hown i hi).imp (hFp i) id
   · rw[hT,if_neg e] at hv
     rw[Ld_other e] at hi
     exact .inl ⟨q,v,hv,hi⟩
def pad (s:ByteArray) (n:Nat):ByteArray:=s++zt (n - s.size)
theorem zt_zero:zt 0=ByteArray.empty:=rfl
theorem pad_none {s:ByteArray} {n:Nat} (h:n≤s.size):pad s n=s:=by
 unfold pad
 rw[show n - s.size=0 by omega,zt_zero]
 exact ByteArray.append_empty
theorem pad_size {s:ByteArray} {n:Nat} (h:s.size≤n):(pad s n).size=n:=by
 unfold pad
 rw[ByteArray.size_append,Tre.zt_size]
 omega
theorem tx_app (s z:ByteArray):Crc.tx (s++z)=Crc.tx s++Crc.tx z:=by
 unfold Crc.tx
 rw[ByteArray.data_append,Array.toList_append,List.map_append]
theorem tx_zt (n:Nat):Crc.tx (zt n)=List.replicate n 0:=Crc.tx_str (fun b hb=>by obtain⟨_,rfl⟩:=List.mem_replicate.1 hb;decide)
theorem tx_pad (s:ByteArray) (n:Nat):Crc.tx (pad s n)=Crc.tx s++List.replicate (n - s.size) 0:=by
 unfold pad
 rw[tx_app,tx_zt]
set_option maxRecDepth 100000 in
set_option maxHeartbeats 300000 in
theorem grow_any (w:World) (N:Nat) (x:Nd) (f:ByteArray→Option Nat) (d:Bool) (s:ByteArray) (n:Nat) (h:Nod w N x f d s) (h1:(own x).Nodup) (hs:s.size≤268435456) (hn:n≤268435456) :
 Calls Tryz.prog 100 #[.pointer (some ⟨x.b,0,none⟩),.int .i64 (n:Int)] w fun e w'=>e = .returned (.tuple #[])∧DatR w N x f d (pad s n) w':=by
 have H:=hid h
 have H1:=hid h1
 have hc1:=h.c1
 have hfr:=h.fr 1
 have hlt:=h.blt
 clear h h1
 by_cases hns:n≤s.size
 · have HR:=hid (show DatR w N x f d (pad s n) w from ⟨x.A,x.c,by rw[pad_none hns];exact H.out,fun a e=>.inl (by rw[e];rfl),Chg.refl _ _⟩)
   go_enter Tryz.func100,Tryz.ntmps100
   go_wp2
   refine⟨rfl,.tuple #[],?_,rfl,HR.out⟩
   simp[results,Tryz.results100,go_sem]
 · obtain⟨i0,hi0,hz0,hz1,hz2⟩:=info_parts Crc.u8_info
   obtain⟨v',w',hap0,ho',hg',hat⟩:=run_append_zeros (P:=Tryz.prog) w.drew 0 49 3 49 5 i0 (.int .u8 0) .i64 .i64 Tryz.underlying49 Tryz.underlying3 hi0 hz0 hz1 hz2 rfl rfl _ s.size _ H.out.row.drew (n - s.size) (by omega) (by omega) (Nat.zero_le _)
   rw[show s.size+(n - s.size)=n by omega] at ho'
   replace hg':w.grownBy w' _:=⟨hg'.os,hg'.tape,hg'.output,hg'.size,hg'.block⟩
   obtain⟨A',c',rfl⟩:=Crc.row_slice ho'
   have hap:(Builtin.append_ #[49,3] 49 #[.slice x.A s.size x.c,.int .i64 (IntKind.i64.wrap ((n:Int) - (s.size:Int)))]).run Tryz.prog w.drew = .ok (.slice A' n c') w':=by
    rw[show IntKind.i64.wrap ((n:Int) - (s.size:Int))=((n - s.size:Nat):Int) by rw[IntKind.wrap_i64];omega]
    exact hap0
   have hne:∀ a,x.A=some a→x.b≠a.block:=fun a e e'=>by
    have:=H1.out
    unfold own at this
    rw[e] at this
    simp[e'] at this
   have hbx:w'.heap[x.b]? = w.heap[x.b]?:=hg'.block x.b hlt (fun e=>by
    cases hA:x.A with
    | none=>rw[hA] at e;cases e
    | some a=>
      rw[hA] at e
      injection e with e
      exact hne a hA e)
   have hc1':w'.cell? ⟨x.b,1,none⟩=some (.slice x.A s.size x.c):=(World.cell?_of_block (w:=w) hbx).trans hc1
   have hfr':w'.frozen? ⟨x.b,1,none⟩=false:=(World.frozen?_of_block (w:=w) hbx).trans hfr
   have HR:=hid (show DatR w N x f d (pad s n) (w'.setCell ⟨x.b,1,none⟩ (.slice A' n c')) from by
    obtain⟨ty,hbox⟩:=H.out.box
    have hlt':x.b < w'.heap.size:=Nat.lt_of_lt_of_le hlt hg'.size
    have hps:(pad s n).size=n:=pad_size (by omega)
    have hoth:∀ k,k≠x.b→(w'.setCell ⟨x.b,1,none⟩ (.slice A' n c')).heap[k]? = w'.heap[k]?:=fun k hk=>Below.heap_setCell _ _ _ k hk
    have hAb:∀ a,A'=some a→x.A.map (·.block)=some a.block∨w.heap.size≤a.block:=fun a e=>by
     rw[e] at hat
     rcases hat with hat | hat
     · left
       cases hA:x.A with
       | none=>rw[hA] at hat;cases hat
       | some a0=>
         rw[hA] at hat
         simp only[Value.ownBlock] at hat
         exact hat.symm
     · right
       simp only[Value.ownBlock,Option.some.injEq] at hat
       have:w.drew.heap.size=w.heap.size:=rfl
       omega
    have hA'ne:∀ a,A'=some a→a.block≠x.b:=fun a e e'=>by
     rcases hAb a e with h | h
     · cases hA:x.A with
       | none=>rw[hA] at h;cases h
       | some a0=>
         rw[hA] at h
         injection h with h
         exact hne a0 hA (e'.symm.trans h.symm)
     · omega
    refine⟨A',c',⟨⟨ty,?_⟩,?_,?_⟩,hAb,⟨hg'.os,hg'.tape,hg'.output,by simpa [World.setCell] using hg'.size,fun k hk hk'=>?_⟩⟩
    · rw[heap_setCell_same _ _ 1 _ _ (.slice A' n c') (hbx.trans hbox),hps]
      rfl
    · rw[hps,tx_pad]
      have he:Crc.u8s (Crc.tx s++List.replicate (n - s.size) 0)=Crc.u8s (Crc.tx s)++List.replicate (n - s.size) (.int .u8 0):=by
       unfold Crc.u8s
       rw[List.map_append,List.map_replicate]
       rfl
      rw[he]
      rcases ho' with ⟨r1,r2⟩
      refine⟨r1,?_⟩
      rcases r2 with r0 | ⟨q,cap,cur,e,hB,hh,hr⟩
      · exact .inl r0
      · have hA:A'=some ⟨q,0,none⟩:=by injection e
        exact .inr ⟨q,cap,cur,e,hB,(hoth q (hA'ne _ hA)).trans hh,hr⟩
    · have hk:=H.out.map
      cases hm:x.m with
      | none=>rw[hm] at hk;exact hk
      | some g=>
        rw[hm] at hk
        obtain⟨D,hD⟩:=hk
        have hgx:g≠x.b:=fun e=>by
         have:=H1.out
         unfold own at this
         rw[hm] at this
         simp[e] at this
        refine⟨D,hD.block ((hoth g hgx).trans (hg'.block g hD.own.lt (fun e=>?_)))⟩
        cases hA:x.A with
        | none=>rw[hA] at e;cases e
        | some a=>
          rw[hA] at e
          injection e with e
          have:=H1.out
          unfold own at this
          rw[hm,hA] at this
          simp[e] at this
    · have hkx:k≠x.b:=fun e=>hk' (own_mem.2 (.inl e))
      refine (hoth k hkx).trans (hg'.block k hk (fun e=>?_))
      cases hA:x.A with
      | none=>rw[hA] at e;cases e
      | some a=>
        rw[hA] at e
        injection e with e
        exact hk' (own_mem.2 (.inr (.inr (by rw[hA,e];rfl)))))
   have HAP:=hid hap
   clear hap hap0 ho' hg' hat hne hbx
   go_enter Tryz.func100,Tryz.ntmps100
   go_upto_region 1 with fail
   go_region_law (refine step_append_zeros (w':=w') (by rfl) (.tmp 15) (.tmp 22) 49 3 (by rfl) _ _ (.slice A' n c') (by rfl) (by rfl) HAP.out ?_)
   all_goals go_wp2
   all_goals (go_end0;exact⟨rfl,HR.out⟩)
end Trk
end Go.Proofs.YtdafimdfbnphaaaGreatDoor
/- Texts. -/
namespace Go.Proofs.YtdafimdfbnphaaaGreatDoor
open Lib (hid)
open Go.RowKit Go.MapKept
namespace Trk
open Tre (Nm Th fi isDirAt dirT goT goF setT dropT fileT addT zt)
open Pat (Txs)
def ovl (l:List Nat) (a:Nat) (bs:List Nat):List Nat:=l.take a++bs++l.drop (a+bs.length)
def ovr (s:ByteArray) (a:Nat) (bs:List Nat):ByteArray:=if bs=[] then s else Crc.str (ovl (Crc.tx (pad s (a+bs.length))) a bs)
theorem ovl_len {l:List Nat} {a:Nat} {bs:List Nat} (h:a+bs.length≤l.length):(ovl l a bs).length=l.length:=by
 unfold ovl
 simp
 omega
theorem tx_byt (s:ByteArray):Crc.Byt (Crc.tx s):=by
 intro b hb
 unfold Crc.tx at hb
 obtain⟨u,_,rfl⟩:=List.mem_map.1 hb
 exact u.toNat_lt
theorem ovl_byt {l:List Nat} {a:Nat} {bs:List Nat} (h:Crc.Byt l) (h':Crc.Byt bs):Crc.Byt (ovl l a bs):=by
 intro b hb
 unfold ovl at hb
 rcases List.mem_append.1 hb with hb | hb
 · rcases List.mem_append.1 hb with hb | hb
   · exact h b (List.mem_of_mem_take hb)
   · exact h' b hb
 · exact h b (List.mem_of_mem_drop hb)
theorem row_splice {w:World} {B n c g a:Nat} {t:TypeId} {xs cs:List Value} {cur:Array Value} (h:w.ownsRow B t 1 (.slice (some ⟨g,0,none⟩) n c) n xs) (hg:w.heap[g]? = some (.cells cur t (0,0))) (ha:a+cs.length≤n) :
 (w.setRow g (cur.toList.take a++cs++cur.toList.drop (a+cs.length)).toArray).ownsRow B t 1 (.slice (some ⟨g,0,none⟩) n c) n (xs.take a++cs++xs.drop (a+cs.length)):=by
 rcases h with ⟨h1,h2⟩
 refine⟨by simp;omega,?_⟩
 rcases h2 with ⟨e,h0⟩ | ⟨q,cap,cur',e,hB,hh,hnc,hcm,hcs,ht⟩
 · cases e
 · injection e with e1 e2 e3
   injection e1 with e1
   injection e1 with e1
   subst e1 e3
   rw[hg] at hh
   injection hh with hh
   injection hh with hh
   subst hh
   refine .inr ⟨g,c,_,rfl,hB,setRow_heap w g cur _ t _ hg,hnc,hcm,?_,?_⟩
   · simp
     omega
   · rw[← ht]
     simp only[Nat.mul_one]
     rw[List.append_assoc,List.append_assoc,List.take_append,List.take_append,List.take_take,List.take_take,List.length_take,Array.length_toList,List.drop_take]
     rw[show min a cur.size=a by omega,show min n a=a by omega,show min a n=a by omega,List.take_of_length_le (show cs.length≤n - a by omega)]
     congr 3
     omega
set_option maxRecDepth 100000 in
set_option maxHeartbeats 1000000 in
theorem twrite_any (w:World) (N:Nat) (x:Nd) (f:ByteArray→Option Nat) (d:Bool) (s:ByteArray) (a m c:Nat) (B:Option Addr) (bs:List Nat) (h:Nod w N x f d s) (h1:(own x).Nodup) (hs:s.size≤268435456) (hm:bs.length=m) (hn:a+m≤268435456)
 (hB:Crc.Bts w B bs) (hap:∀ ad,B=some ad→bs≠[]→ad.block∉own x) :
 Calls Tryz.prog 47 #[.pointer (some ⟨x.b,0,none⟩),.int .i64 (a:Int),.slice B m c] w fun e w'=>e = .returned (.tuple #[])∧DatR w N x f d (ovr s a bs) w':=by
 by_cases h0:m=0
 · have hb0:bs=[]:=List.eq_nil_of_length_eq_zero (by omega)
   have HR:=hid (show DatR w N x f d (ovr s a bs) w from ⟨x.A,x.c,by unfold ovr;rw[if_pos hb0];exact h,fun a e=>.inl (by rw[e];rfl),Chg.refl _ _⟩)
   clear h h1 hB hap hm hb0
   subst h0
   go_enter Tryz.func47,Tryz.ntmps47
   go_wp2
   refine⟨rfl,.tuple #[],?_,rfl,HR.out⟩
   simp[results,Tryz.results47,go_sem]
 · have hb0:bs≠[]:=fun e=>by rw[e] at hm;simp at hm;omega
   have hgr:=grow_any w N x f d s (a+m) h h1 hs hn
   rw[show ((a+m:Nat):Int)=(a:Int)+(m:Int) by omega] at hgr
   have HG:=hid hgr
   clear hgr
   have H:=hid h
   have H1:=hid h1
   have HBB:=hid hB
   have HAP:=hid hap
   have HM:=hid hm
   have hadd:IntKind.i64.wrap ((a:Int)+(m:Int))=((a+m:Nat):Int):=by rw[IntKind.wrap_i64];omega
   clear h h1 hB hap hm
   go_enter Tryz.func47,Tryz.ntmps47
   go_wp2_with fail
   refine HG.out.mono ?_
   rintro e w1 ⟨rfl,A1,c1,hN1,hA1,hc1⟩
   have hsz:(pad s (a+m)).size=max s.size (a+m):=by
    by_cases h:s.size≤a+m
    · rw[pad_size h];omega
    · rw[pad_none (by omega)];omega
   obtain⟨n1,hn1⟩:∃ n1,n1=(pad s (a+m)).size:=⟨_,rfl⟩
   have hrow:=hN1.row
   rw[← hn1] at hrow
   have hpos:0 < n1:=by omega
   obtain⟨g,cur,hAe,hcur,hcs,hnc⟩:∃ g cur,A1=some ⟨g,0,none⟩∧w1.heap[g]? = some (.cells cur 5 (0,0))∧cur.size=c1∧n1≤c1:=by
    rcases hrow.2 with ⟨e,h⟩ | ⟨g,cap,cur,e,_,hh,h1,_,hq,_⟩
    · omega
    · simp only[Value.slice.injEq] at e
      obtain⟨e1,_,e3⟩:=e
      rw[← e3] at h1 hq
      exact⟨g,cur,e1,hh,by omega,h1⟩
   subst hAe
   have hcell:=hN1.c1
   rw[← hn1] at hcell
   have hsl:a+m≤n1:=by omega
   have hml:=HM.out
   have hB1:Crc.Bts w1 B bs:=by
    refine⟨HBB.out.byt,HBB.out.len,fun j hj=>?_⟩
    obtain⟨b,o,e,hlt,hc⟩:=HBB.out.at' j hj
    exact⟨b,o,e,Nat.lt_of_lt_of_le hlt hc1.size,(World.cell?_of_block (w:=w) (a:=⟨b,o+j,none⟩) (hc1.block b hlt (HAP.out _ e hb0))).trans hc⟩
   obtain⟨b,o,rfl⟩:∃ b o,B=some ⟨b,o,none⟩:=by
    obtain⟨b,o,e,_⟩:=HBB.out.at' 0 (by omega)
    exact⟨b,o,e⟩
   have hcl:(Crc.u8s bs).length=m:=by simp[Crc.u8s,hml]
   have hcp:=run_copy_row (P:=Tryz.prog) w1 49 49 3 5 g a (n1 - a) (c1 - a) ⟨b,o,none⟩ m c cur 5 (Crc.u8s bs) Tryz.underlying49 (by kernel_rfl) hcur (by rw[hcl];exact (Nat.min_eq_left (by omega)).symm) (fun j v hj=>by
    have hjl:j < bs.length:=by
     have:=(List.getElem?_eq_some_iff.1 hj).1
     omega
    obtain⟨b',o',e,_,hc'⟩:=hB1.at' j hjl
    injection e with e
    injection e with e1 e2
    subst e1 e2
    rw[Go.WideShapes.add_plain,hc',← hj]
    simp[Crc.u8s,List.getElem?_eq_getElem hjl]) (by rw[hcl];omega) (Crc.u8s_one bs)
   rw[hcl] at hcp
   have HR:=hid (show DatR w N x f d (ovr s a bs) (w1.setRow g (cur.toList.take a++Crc.u8s bs++cur.toList.drop (a+m)).toArray) from by
    have hsp:=row_splice (a:=a) (cs:=Crc.u8s bs) hrow hcur (by rw[hcl];omega)
    rw[hcl] at hsp
    have hov:(ovr s a bs).size=n1:=by
     unfold ovr
     rw[if_neg hb0,Crc.str_size,ovl_len (by rw[Crc.tx_len,hml,← hn1];omega),Crc.tx_len,hml,hn1]
    have htx:Crc.u8s (Crc.tx (ovr s a bs))=(Crc.u8s (Crc.tx (pad s (a+m)))).take a++Crc.u8s bs++(Crc.u8s (Crc.tx (pad s (a+m)))).drop (a+m):=by
     unfold ovr
     rw[if_neg hb0,Crc.tx_str (ovl_byt (tx_byt _) HBB.out.byt),hml]
     unfold ovl Crc.u8s
     rw[List.map_append,List.map_append,List.map_take,List.map_drop,hml]
    have hone:(own (⟨x.b,some ⟨g,0,none⟩,c1,x.m⟩:Nd)).Nodup:=dat_nodup H1.out (fun i hi=>H.out.lt i hi) hA1
    have hoth:∀ k,k≠g→(w1.setRow g (cur.toList.take a++Crc.u8s bs++cur.toList.drop (a+m)).toArray).heap[k]? = w1.heap[k]?:=fun k hk=>setRow_other w1 g k _ hk
    have hbg:x.b≠g:=fun e=>by
     unfold own at hone
     simp[e] at hone
    refine⟨some ⟨g,0,none⟩,c1,⟨?_,?_,?_⟩,hA1,⟨hc1.os,hc1.tape,hc1.output,by simpa [World.setRow] using hc1.size,fun k hk hk'=>?_⟩⟩
    · obtain⟨ty,hb⟩:=hN1.box
      exact⟨ty,by rw[hov,hoth _ hbg,hn1];exact hb⟩
    · rw[hov,htx]
      exact hsp
    · have hk:=hN1.map
      cases hm':x.m with
      | none=>rw[hm'] at hk;exact hk
      | some q=>
        rw[hm'] at hk
        obtain⟨D,hD⟩:=hk
        refine⟨D,hD.block (hoth q (fun e=>?_))⟩
        unfold own at hone
        rw[hm'] at hone
        simp[e] at hone
    · refine (hoth k (fun e=>?_)).trans (hc1.block k hk hk')
      rcases hA1 _ rfl with h | h
      · exact hk' (own_mem.2 (.inr (.inr (by rw[h,e]))))
      · simp only at h
        omega)
   clear hN1 hA1 hc1 hsz hn1 hrow hcur hcs hB1 hcl hml
   go_wp2_with fail
   rw[← List.append_assoc]
   go_end0
   exact⟨rfl,HR.out⟩
end Trk
end Go.Proofs.YtdafimdfbnphaaaGreatDoor
/- Texts. -/
namespace Go.Proofs.YtdafimdfbnphaaaGreatDoor
open Go.RowKit Go.MapKept
namespace Tre
section
variable {α : Type}
def ins (lt:α→α→Bool):List α→α→List α
 | [],x=>[x]
 | y :: o,x=>if lt y x=true then y :: ins lt o x else x :: y :: o
theorem ins_len (lt:α→α→Bool):∀ (o:List α) (x:α),(ins lt o x).length=o.length+1
 | [],_=>rfl
 | y :: o,x=>by
   rw[ins]
   split
   · rw[List.length_cons,ins_len lt o x];rfl
   · rfl
def sorted (lt:α→α→Bool) (l:List α):List α:=l.foldl (ins lt) []
theorem sorted_len (lt:α→α→Bool) (l:List α):(sorted lt l).length=l.length:=by
 have key:∀ (l o:List α),(l.foldl (ins lt) o).length=o.length+l.length:=by
  intro l
  induction l with
  | nil=>intro o;rfl
  | cons x l ih=>intro o;rw[List.foldl_cons,ih,ins_len,List.length_cons];omega
 have:=key l []
 simpa [sorted] using this
end
def kidT (t:List Th) (n:Nm):List ByteArray:=sorted Pat.less ((t.filter fun x=>decide (x.1.length=n.length+1∧x.1.take n.length=n)).map fun x=>x.1.getD n.length ByteArray.empty)
end Tre
end Go.Proofs.YtdafimdfbnphaaaGreatDoor
/- Texts. -/
/- Texts. -/
namespace Go.Proofs.YtdafimdfbnphaaaGreatDoor
open Go.RowKit Go.MapKept
namespace Tre
open Pat (Txs strs)
def kidL (t:List Th) (n:Nm):List ByteArray:=(t.filter fun x=>decide (x.1.length=n.length+1∧x.1.take n.length=n)).map fun x=>x.1.getD n.length ByteArray.empty
theorem kidT_eq (t:List Th) (n:Nm):kidT t n=sorted Pat.less (kidL t n):=rfl
end Tre
end Go.Proofs.YtdafimdfbnphaaaGreatDoor
/- Texts. -/
/- Texts. -/
namespace Go.Proofs.YtdafimdfbnphaaaGreatDoor
open Go.RowKit Go.MapKept
namespace Tre
open Pat (Txs)
def datT (t:List Th) (i:Nat):ByteArray:=match t[i]? with | some x=>x.2.2 | none=>ByteArray.empty
def rdT (s:ByteArray) (a n:Int):ByteArray:=if (s.size:Int)≤a then ⟨#[]⟩ else if n < ((s.extract a.toNat s.size).size:Int) then (s.extract a.toNat s.size).extract 0 n.toNat else s.extract a.toNat s.size
def readT (t:List Th) (p:ByteArray) (a n:Int):ByteArray × Int:=
 if (fileT t p).2≠0 then (⟨#[]⟩,(fileT t p).2) else if a < 0∨n < 0 then (⟨#[]⟩,9) else (rdT (datT t (fileT t p).1.toNat) a n,0)
end Tre
end Go.Proofs.YtdafimdfbnphaaaGreatDoor
/- Texts. -/
namespace Go.Proofs.YtdafimdfbnphaaaGreatDoor
open Go.RowKit Go.MapKept
namespace Tre
open Pat (Txs)
def rmdirT (t:List Th) (p:ByteArray):List Th × Int:=
 match Pat.spl p with
 | none=>(t,3)
 | some n=>if goT t n≠0 then (t,goT t n) else if dirT t n=false then (t,6) else if n=[] then (t,1) else if 0 < (kidT t n).length then (t,8) else (dropT t (fv t n).toNat,0)
end Tre
end Go.Proofs.YtdafimdfbnphaaaGreatDoor
/- Texts. -/
/- Texts. -/
namespace Go.Proofs.YtdafimdfbnphaaaGreatDoor
open Go.RowKit Go.MapKept
namespace Tre
open Pat (Txs)
def padT (s:ByteArray) (a:Int):ByteArray:=if (s.size:Int) < a then s++zt (a - s.size).toNat else s
def wrT (s:ByteArray) (a:Int) (b:ByteArray):ByteArray:=
 (padT s a).extract 0 a.toNat++b++(if a+(b.size:Int) < ((padT s a).size:Int) then (padT s a).extract (a.toNat+b.size) (padT s a).size else ⟨#[]⟩)
def writeT (t:List Th) (p:ByteArray) (a:Int) (b:ByteArray):List Th × Int:=
 if (fileT t p).2≠0 then (t,(fileT t p).2) else if a < 0∨268435456 < a∨268435456 < a+(b.size:Int) then (t,9) else if b.size=0 then (t,0) else
  (setT t (fileT t p).1.toNat (wrT (datT t (fileT t p).1.toNat) a b),0)
end Tre
end Go.Proofs.YtdafimdfbnphaaaGreatDoor
/- Texts. -/
namespace Go.Proofs.YtdafimdfbnphaaaGreatDoor
open Lib (hid)
open Go.RowKit Go.MapKept
namespace Trk
open Tre (Nm Th fi isDirAt dirT goT goF setT dropT fileT addT zt datT wrT padT writeT)
open Pat (Txs)
theorem pad_take (l:List Nat) (a k:Nat):(l++List.replicate (a+k - l.length) 0).take a=(l++List.replicate (a - l.length) 0).take a:=by
 rw[List.take_append,List.take_append,List.take_replicate,List.take_replicate]
 congr 2
 omega
theorem pad_drop (l:List Nat) (a k:Nat):(l++List.replicate (a+k - l.length) 0).drop (a+k)=l.drop (a+k):=by
 rw[List.drop_append,List.drop_replicate]
 simp
theorem padT_nat (s:ByteArray) (a:Nat):Crc.tx (padT s (a:Int))=Crc.tx s++List.replicate (a - s.size) 0:=by
 unfold Tre.padT
 by_cases h:(s.size:Int) < (a:Int)
 · rw[if_pos h,tx_app,show ((a:Int) - s.size).toNat=a - s.size by omega,tx_zt]
 · rw[if_neg h,show a - s.size=0 by omega]
   simp
theorem ovr_wr {s:ByteArray} {a:Nat} {bs:List Nat} (hb:Crc.Byt bs) (h0:bs≠[]):ovr s a bs=wrT s (a:Int) (Crc.str bs):=by
 apply Ent.tx_inj
 unfold ovr Tre.wrT
 rw[if_neg h0,Crc.tx_str (ovl_byt (tx_byt _) hb),tx_app,tx_app,Crc.tx_str hb,Ent.tx_extract,padT_nat]
 have hps:(padT s (a:Int)).size=max s.size a:=by
  rw[← Crc.tx_len,padT_nat,List.length_append,Crc.tx_len,List.length_replicate]
  omega
 have hd:Crc.tx (if (a:Int)+((Crc.str bs).size:Int) < ((padT s (a:Int)).size:Int) then (padT s (a:Int)).extract ((a:Int).toNat+(Crc.str bs).size) (padT s (a:Int)).size else ⟨#[]⟩)=(Crc.tx s).drop (a+bs.length):=by
  rw[Crc.str_size,hps,show (a:Int).toNat=a from rfl]
  by_cases h:(a:Int)+(bs.length:Int) < ((max s.size a:Nat):Int)
  · rw[if_pos h,Ent.tx_extract,padT_nat]
    have e:a - s.size=0:=by omega
    rw[e,List.replicate_zero,List.append_nil]
    exact List.take_of_length_le (by rw[List.length_drop,Crc.tx_len];omega)
  · rw[if_neg h]
    exact (List.drop_of_length_le (by rw[Crc.tx_len];omega)).symm
 rw[hd]
 unfold ovl
 rw[tx_pad,← Crc.tx_len s,pad_take,pad_drop]
 simp
theorem fileT_file {t:List Th} {p:ByteArray} {n:Nm} {i:Nat} {s:ByteArray} (h:IsFile t p n i s):datT t (fileT t p).1.toNat=s∧(fileT t p).1.toNat=i∧(fileT t p).2=0:=by
 rw[h.file]
 refine⟨?_,rfl,rfl⟩
 obtain⟨hi,h2⟩:=T_fi h.ne h.fi
 rw[h.at'] at h2
 injection h2 with h2
 show datT t i=s
 unfold Tre.datT
 rw[List.getElem?_eq_getElem hi]
 exact (congrArg Prod.snd h2).symm
theorem Wf.fsize {t:List Th} (h:Wf t) {n:Nm} {d:Bool} {s:ByteArray} (hv:T t n=some (d,s)):s.size≤268435456:=by
 by_cases h0:n=[]
 · rw[h0,T_root] at hv
   injection hv with hv
   injection hv with _ hv
   rw[← hv]
   decide
 · exact h.size _ (T_mem h0 hv)
set_option maxRecDepth 100000 in
set_option maxHeartbeats 1000000 in
theorem wr_any (w:World) (N b0:Nat) (t:List Th) (L:Nm→Nd) (p:ByteArray) (x:Int) (m c:Nat) (B:Option Addr) (bs:List Nat) (hM:Mem w N t L) (hb:(L []).b=b0) (hW:Wf t) (hp:p.size < 4294967281)
 (hm:bs.length=m) (hml:m≤1000000) (hB:Crc.Bts w B bs) (hap:∀ ad,B=some ad→bs≠[]→¬ Fp t L ad.block) :
 Calls Tryz.prog 19 #[.pointer (some ⟨b0,0,none⟩),.string p,.int .i64 x,.slice B m c] w fun e w'=>e = .returned (.int .i64 (writeT t p x (Crc.str bs)).2)∧TrkR w N t L (writeT t p x (Crc.str bs)).1 w':=by
 have HM:=hid hM
 have HB:=hid hB
 have HAP:=hid hap
 have HL:=hid hm
 have hbz:(Crc.str bs).size=m:=by rw[Crc.str_size,hm]
 have HZ0:=hid (show writeT t p x (Crc.str bs)=if (fileT t p).2≠0 then (t,(fileT t p).2) else if x < 0∨268435456 < x∨268435456 < x+(m:Int) then (t,9) else if m=0 then (t,0) else (setT t (fileT t p).1.toNat (wrT (datT t (fileT t p).1.toNat) x (Crc.str bs)),0) by
  unfold Tre.writeT
  rw[hbz])
 clear hM hB hap hm hbz
 go_enter Tryz.func19,Tryz.ntmps19
 go_wp2_with fail
 refine (fileAt_any w N b0 t L p HM.out hb hp).mono ?_
 rintro e w1 ⟨hf,hb1⟩
 have HB1:=hid hb1
 have HM1:=hid (HM.out.keep hb1)
 clear hb1
 rcases hf with ⟨he,rfl⟩ | ⟨n,i,s,hf,rfl⟩
 · have HZ:=hid (show writeT t p x (Crc.str bs)=(t,(fileT t p).2) by rw[HZ0.out,if_pos he])
   generalize hg:(fileT t p).2=g at *
   clear hg
   go_wp2
   refine bodyPost_ret (v:=.int .i64 g) ?_ rfl ⟨by rw[HZ.out],by rw[HZ.out];exact TrkR.same HM.out HB1.out⟩
   simp[results,Tryz.results19,go_sem]
 · obtain⟨f1,f2,f3⟩:=fileT_file hf
   have HF:=hid hf
   have HZ1:=hid (show writeT t p x (Crc.str bs)=if x < 0∨268435456 < x∨268435456 < x+(m:Int) then (t,9) else if m=0 then (t,0) else (setT t i (wrT s x (Crc.str bs)),0) by rw[HZ0.out,if_neg (fun h=>h f3),f1,f2])
   clear f1 f2 f3 hf
   by_cases hx:x < 0∨268435456 < x∨268435456 < x+(m:Int)
   · have HZ:=hid (HZ1.out.trans (if_pos hx))
     by_cases hx0:x < 0
     · clear hx
       go_wp2
       refine bodyPost_ret (v:=.int .i64 9) ?_ rfl ⟨by rw[HZ.out],by rw[HZ.out];exact TrkR.same HM.out HB1.out⟩
       simp[results,Tryz.results19,go_sem]
     · have hx1:268435456 - (m:Int) < x:=by omega
       clear hx
       go_wp2
       refine bodyPost_ret (v:=.int .i64 9) ?_ rfl ⟨by rw[HZ.out],by rw[HZ.out];exact TrkR.same HM.out HB1.out⟩
       simp[results,Tryz.results19,go_sem]
   · obtain⟨a,rfl⟩:∃ a:Nat,x=(a:Int):=⟨x.toNat,by omega⟩
     have hx0:¬ (a:Int) < 0:=by omega
     have hx1:¬ 268435456 - (m:Int) < (a:Int):=by omega
     have hx2:a+m≤268435456:=by omega
     have HZ:=hid (HZ1.out.trans (if_neg hx))
     have HN:=hid (HM1.out.nod _ _ _ HF.out.at')
     have HTW:=hid (twrite_any w1 N (L n) (kb t L n) false s a m c B bs HN.out (HM1.out.one _ _ HF.out.at') (hW.fsize HF.out.at') HL.out hx2 (HB.out.keep HB1.out) (fun ad e h0 h=>HAP.out ad e h0 ⟨n,_,HF.out.at',h⟩))
     clear hx
     generalize hy:L n=y at *
     go_wp2_with fail
     refine HTW.out.mono ?_
     rintro e w2 ⟨rfl,hr⟩
     have HR:=hid (show TrkR w N t L (writeT t p (a:Int) (Crc.str bs)).1 w2 from by
      rw[← hy] at hr
      refine TrkR.after HB1.out ?_
      rw[HZ.out]
      by_cases h0:m=0
      · have hb0:bs=[]:=List.eq_nil_of_length_eq_zero (by rw[HL.out];exact h0)
        rw[if_pos h0]
        unfold ovr at hr
        rw[if_pos hb0] at hr
        obtain⟨A',c',q1,q2,q3⟩:=HM1.out.dat HF.out.at' (t':=t) (s':=s) (fun k=>by
         by_cases e:k=n
         · rw[if_pos e,e,HF.out.at']
         · rw[if_neg e]) hr
        exact⟨q2,_,q1.mono (Nat.le_succ N),Ld_b,q3⟩
      · have hb0:bs≠[]:=fun e=>h0 (by rw[← HL.out,e];rfl)
        rw[if_neg h0]
        rw[ovr_wr HB.out.byt hb0] at hr
        obtain⟨A',c',q1,q2,q3⟩:=HM1.out.dat HF.out.at' (t':=setT t i (wrT s (a:Int) (Crc.str bs))) (T_set HF.out.ne HF.out.fi HF.out.at' _) hr
        exact⟨q2,_,q1.mono (Nat.le_succ N),Ld_b,q3⟩)
     have HZ2:=hid (show (writeT t p (a:Int) (Crc.str bs)).2=0 by rw[HZ.out];split<;>rfl)
     clear hr
     go_wp2
     refine bodyPost_ret (v:=.int .i64 0) ?_ rfl ⟨by rw[HZ2.out],HR.out⟩
     simp[results,Tryz.results19,go_sem]
end Trk
end Go.Proofs.YtdafimdfbnphaaaGreatDoor
/- Texts. -/
namespace Go.Proofs.YtdafimdfbnphaaaGreatDoor
open Lib (hid)
open Go.RowKit Go.MapKept
namespace Trk
open Tre (Nm Th fi isDirAt dirT goT goF setT dropT fileT addT zt datT wrT padT writeT rdT readT)
open Pat (Txs)
theorem bts_empty (w:World) (A:Option Addr):Crc.Bts w A []:=⟨fun _ h=>by simp at h,by simp,fun j h=>by simp at h⟩
theorem bts_sub {w:World} {g:Nat} {l:List Nat} (h:Crc.Bts w (some ⟨g,0,none⟩) l) (a k:Nat):Crc.Bts w (some ⟨g,a,none⟩) ((l.drop a).take k):=by
 refine⟨fun b hb=>h.byt b (List.mem_of_mem_drop (List.mem_of_mem_take hb)),?_,fun j hj=>?_⟩
 · have:=h.len
   rw[List.length_take,List.length_drop]
   omega
 · have hj':a+j < l.length:=by rw[List.length_take,List.length_drop] at hj;omega
   obtain⟨b,o,e,hlt,hc⟩:=h.at' (a+j) hj'
   injection e with e
   injection e with e1 e2
   subst e1 e2
   refine⟨g,a,rfl,hlt,?_⟩
   rw[show a+j=0+(a+j) by omega,hc]
   simp
theorem news_bts {W:World} {ad:Addr} {l:List Nat} (h:Crc.Bts W (some ad) l):∀ j u,(Crc.u8s l)[j]? = some u→W.cell? (ad.add j)=some u:=by
 intro j u hu
 have hj:j < l.length:=by
  have:=(List.getElem?_eq_some_iff.1 hu).1
  simpa [Crc.u8s] using this
 obtain⟨b,o,e,_,hc⟩:=h.at' j hj
 injection e with e
 subst e
 rw[Go.WideShapes.add_plain,hc,← hu]
 simp[Crc.u8s,List.getElem?_eq_getElem hj]
theorem run_copy_own {W:World} {ad:Addr} {l:List Nat} (n c:Nat) (h:Crc.Bts W (some ad) l) (hn:l.length=n) (hl:n≤268435456) :
 ∃ (G:Option Addr) (gc:Nat) (w':World),(Builtin.append_ #[49,49] 49 #[.slice (some ⟨W.heap.size,0,none⟩) 0 0,.slice (some ad) n c]).run Tryz.prog (W.alloc (.cells #[] 5)) = .ok (.slice G n gc) w'∧w'.ownsRow W.heap.size 5 1 (.slice G n gc) n (Crc.u8s l)∧Below W.heap.size W w':=by
 obtain⟨i0,hi0,hz0,hz1,hz2⟩:=info_parts Crc.u8_info
 have hown:(W.alloc (.cells #[] 5)).ownsRow W.heap.size 5 1 (.slice (some ⟨W.heap.size,0,none⟩) 0 0) 0 []:=World.ownsRow_made W #[] 0 (Nat.le_refl _) (by unfold maxLen;omega) rfl
 have hb:=(Below.refl W.heap.size W).alloc (Nat.le_refl _) (.cells #[] 5)
 obtain⟨v',w',hr,h2,h3,_,_⟩:=run_append_own_at (P:=Tryz.prog) (W.alloc (.cells #[] 5)) W.heap.size 49 49 5 i0 (.int .u8 0) 1 1 Tryz.underlying49 hi0 hz0 hz1 hz2 rfl (by decide) _ 0 [] hown ad n c (Crc.u8s l) (by simp[Crc.u8s,hn]) (news_bts (h.alloc _)) (Crc.u8s_one l) (by unfold maxLen;omega) (by omega) (by simp)
 rw[Nat.zero_add,List.nil_append] at h2
 obtain⟨G,gc,rfl⟩:=Crc.row_slice h2
 exact⟨G,gc,w',hr,h2,hb.grown h3 (by simp) (fun k hk=>Crc.row_base_lt hown hk)⟩
def NewR (w:World) (l:List Nat) (e:Ending) (w':World):Prop:=∃ G gc,e = .returned (.slice G l.length gc)∧w'.ownsRow w.heap.size 5 1 (.slice G l.length gc) l.length (Crc.u8s l)∧Below w.heap.size w w'
set_option maxRecDepth 100000 in
set_option maxHeartbeats 1000000 in
theorem bclone_any (w:World) (A:Option Addr) (n c:Nat) (l:List Nat) (h:Crc.Bts w A l) (hn:l.length=n) (hl:n≤268435456) :
 Calls Tryz.prog 101 #[.slice A n c] w (NewR w l):=by
 have hnil:∀ W a n c,(binOp .eql 49 (.slice a n c) (.slice none 0 0)).run Tryz.prog W = .ok (.bool a.isNone) W:=fun W a n c=>by
  exact Lib.run_eql_slice_nil W _ _ a n c 0 0 Tryz.underlying49
 cases A with
 | none=>
   have hl0:l=[]:=by
    cases l with
    | nil=>rfl
    | cons b l=>
      obtain⟨_,_,e,_⟩:=h.at' 0 (by simp)
      cases e
   subst hl0
   have HR:=hid (show NewR w [] (.returned (.slice none 0 0)) w from ⟨none,0,rfl,World.ownsRow_nil _ _ _ _,Below.refl _ _⟩)
   clear h hn
   go_enter Tryz.func101,Tryz.ntmps101
   go_wp2
   go_ret
   exact HR.out
 | some ad=>
   obtain⟨G,gc,w',hap,ho,hb⟩:=run_copy_own n c h hn hl
   have HR:=hid (show NewR w l (.returned (.slice G n gc)) w' from ⟨G,gc,by rw[hn],by rw[hn];exact ho,hb⟩)
   have HAP:=hid hap
   clear h hn ho hb hap
   go_enter Tryz.func101,Tryz.ntmps101
   go_wp2_with (at_builtin;refine Pat.wpList_append_run rfl (.tmp 5) (.tmp 6) 49 rfl _ _ _ rfl rfl HAP.out ?_)
   go_ret
   exact HR.out
theorem NewR.drewN {w w':World} {l:List Nat} {e:Ending} {j:Nat} (h:NewR (w.drewN j) l e w'):NewR w l e w':=by
 obtain⟨G,gc,h1,h2,h3⟩:=h
 exact⟨G,gc,h1,h2,⟨h3.os,h3.tape,h3.output,h3.size,h3.block⟩⟩
theorem own_low {w:World} {B B' n:Nat} {t:TypeId} {v:Value} {xs:List Value} (h:w.ownsRow B t 1 v n xs) (hB:B'≤B):w.ownsRow B' t 1 v n xs:=by
 rcases h with ⟨h1,h2⟩
 refine⟨h1,?_⟩
 rcases h2 with h0 | ⟨g,cap,cur,e,hg,hr⟩
 · exact .inl h0
 · exact .inr ⟨g,cap,cur,e,Nat.le_trans hB hg,hr⟩
def rdl (l:List Nat) (a k:Nat):List Nat:=(l.drop a).take k
set_option maxRecDepth 100000 in
set_option maxHeartbeats 1000000 in
theorem tread_any (w:World) (N:Nat) (x:Nd) (f:ByteArray→Option Nat) (d:Bool) (s:ByteArray) (a k:Nat) (h:Nod w N x f d s) (hs:s.size≤268435456) (ha:a≤9223372036854775807) (hk:k≤9223372036854775807) :
 Calls Tryz.prog 50 #[.pointer (some ⟨x.b,0,none⟩),.int .i64 (a:Int),.int .i64 (k:Int)] w (NewR w (rdl (Crc.tx s) a k)):=by
 have hc1:=h.c1
 obtain⟨n,hn⟩:∃ n,n=s.size:=⟨_,rfl⟩
 have hrow:=h.row
 have hB:=Crc.own_bts h.row (tx_byt s) (by omega)
 have hlen:=Crc.tx_len s
 rw[← hn] at hc1 hrow hlen hs
 generalize Crc.tx s=l at *
 clear h hn
 cases hA:x.A with
 | none=>
   rw[hA] at hc1 hrow
   have hn0:n=0∧x.c=0:=by
    rcases hrow.2 with ⟨e,h⟩ | ⟨_,_,_,e,_⟩
    · simp only[Value.slice.injEq] at e
      exact⟨h,e.2.2⟩
    · simp at e
   obtain⟨rfl,hc0⟩:=hn0
   rw[hc0] at hc1
   have hl0:l=[]:=List.eq_nil_of_length_eq_zero hlen
   have HC:=hid (fun j=>bclone_any (w.drewN j) none 0 0 [] (bts_empty _ none) rfl (by omega))
   have HL:=hid (show rdl l a k=[] by rw[hl0];simp[rdl])
   clear hrow hB hl0 hlen
   have hmin:min (a:Int) 0=0:=by omega
   have hmin2:min (k:Int) 0=0:=by omega
   go_enter Tryz.func50,Tryz.ntmps50
   go_wp2_with fail
   go_quiet (fail)
   go_wp2_with fail
   refine (HC.out _).mono ?_
   rintro e w' hr
   have HR:=hid (HL.out ▸ hr.drewN:NewR w (rdl l a k) e w')
   clear hr
   obtain⟨G,gc,rfl,_,_⟩:=HR.out
   go_wp2
   go_ret
   exact HR.out
 | some ad=>
   rw[hA] at hc1 hrow hB
   obtain⟨g,rfl,hnc⟩:∃ g,ad=⟨g,0,none⟩∧n≤x.c:=by
    rcases hrow.2 with ⟨e,h⟩ | ⟨g,cap,cur,e,_,hh,h1,_,hq,_⟩
    · simp at e
    · simp only[Value.slice.injEq] at e
      obtain⟨e1,_,e3⟩:=e
      injection e1 with e1
      rw[← e3] at h1
      exact⟨g,e1,h1⟩
   obtain⟨p,hp⟩:∃ p,p=min a n:=⟨_,rfl⟩
   obtain⟨q,hq⟩:∃ q,q=min k (n - p):=⟨_,rfl⟩
   have hmin:min (a:Int) (n:Int)=(p:Int):=by omega
   have hmin2:min (k:Int) ((n - p:Nat):Int)=(q:Int):=by omega
   have hpn:p≤n:=by omega
   have hqn:q≤n - p:=by omega
   have hrd:(l.drop p).take q=rdl l a k:=by
    unfold rdl
    rw[hp,hq,hp]
    by_cases h:a≤n
    · rw[Nat.min_eq_left h]
      by_cases h':k≤n - a
      · rw[Nat.min_eq_left h']
      · rw[Nat.min_eq_right (by omega),List.take_of_length_le (by rw[List.length_drop];omega),List.take_of_length_le (by rw[List.length_drop];omega)]
    · rw[show min k (n - min a n)=0 by omega,List.take_zero,List.drop_of_length_le (show l.length≤a by omega),List.take_nil]
   have hql:(rdl l a k).length=q:=by rw[← hrd,List.length_take,List.length_drop];omega
   have HC1:=hid (fun j=>bclone_any (w.drewN j) (some ⟨g,p,none⟩) q (x.c - p) (rdl l a k) (hrd ▸ bts_sub (w:=w.drewN j) ⟨hB.byt,hB.len,hB.at'⟩ p q) hql (by omega))
   have HC2:=hid (fun (h:x.c≤p) j=>bclone_any (w.drewN j) (some ⟨g,0,none⟩) q 0 (rdl l a k) (by
    have:rdl l a k=[]:=List.eq_nil_of_length_eq_zero (by omega)
    rw[this]
    exact bts_empty _ _) hql (by omega))
   clear hrow hB hlen hp hq hrd hql
   have fin:∀ (e:Ending) (w':World) (j:Nat),NewR (w.drewN j) (rdl l a k) e w'→NewR w (rdl l a k) e w':=fun e w' j h=>h.drewN
   have FIN:=hid fin
   clear fin
   go_enter Tryz.func50,Tryz.ntmps50
   go_wp2_with fail
   go_quiet (fail)
   go_wp2_with fail
   all_goals first
    | refine (HC1.out _).mono ?_
    | refine (HC2.out (by omega) _).mono ?_
   all_goals
    rintro e w' hr
    have HR:=hid (FIN.out _ _ _ hr)
    clear hr
    obtain⟨G,gc,rfl,_,_⟩:=HR.out
    go_wp2
    go_ret
    exact HR.out
set_option maxRecDepth 100000 in
set_option maxHeartbeats 1000000 in
theorem rd_any (w:World) (N b0:Nat) (t:List Th) (L:Nm→Nd) (p:ByteArray) (x y:Int) (hM:Mem w N t L) (hb:(L []).b=b0) (hW:Wf t) (hp:p.size < 4294967281) (hx:x≤9223372036854775807) (hy:y≤9223372036854775807) :
 Calls Tryz.prog 21 #[.pointer (some ⟨b0,0,none⟩),.string p,.int .i64 x,.int .i64 y] w fun e w'=>∃ (G:Option Addr) (n gc:Nat),e = .returned (.tuple #[.slice G n gc,.int .i64 (readT t p x y).2])∧(Crc.tx (readT t p x y).1).length=n∧w'.ownsRow w.heap.size 5 1 (.slice G n gc) n (Crc.u8s (Crc.tx (readT t p x y).1))∧Below w.heap.size w w':=by
 have HM:=hid hM
 clear hM
 go_enter Tryz.func21,Tryz.ntmps21
 go_wp2_with fail
 refine (fileAt_any w N b0 t L p HM.out hb hp).mono ?_
 rintro e w1 ⟨hf,hb1⟩
 have HB1:=hid hb1
 have HM1:=hid (HM.out.keep hb1)
 clear hb1
 rcases hf with ⟨he,rfl⟩ | ⟨n,i,s,hf,rfl⟩
 · have HZ:=hid (show readT t p x y=(⟨#[]⟩,(fileT t p).2) by unfold Tre.readT;rw[if_pos he])
   generalize hg:(fileT t p).2=g at *
   clear hg
   go_wp2
   refine bodyPost_ret (v:=.tuple #[.slice none 0 0,.int .i64 g]) ?_ rfl ⟨none,0,0,by rw[HZ.out],by rw[HZ.out];rfl,by rw[HZ.out];exact World.ownsRow_nil _ _ _ _,HB1.out⟩
   simp[results,Tryz.results21,go_sem]
 · obtain⟨f1,f2,f3⟩:=fileT_file hf
   have HF:=hid hf
   have HZ1:=hid (show readT t p x y=if x < 0∨y < 0 then (⟨#[]⟩,9) else (rdT s x y,0) by unfold Tre.readT;rw[if_neg (fun h=>h f3),f1])
   clear f1 f2 f3 hf
   by_cases hxy:x < 0∨y < 0
   · have HZ:=hid (HZ1.out.trans (if_pos hxy))
     by_cases hx0:x < 0
     · clear hxy
       generalize L n=z at *
       go_wp2
       refine bodyPost_ret (v:=.tuple #[.slice none 0 0,.int .i64 9]) ?_ rfl ⟨none,0,0,by rw[HZ.out],by rw[HZ.out];rfl,by rw[HZ.out];exact World.ownsRow_nil _ _ _ _,HB1.out⟩
       simp[results,Tryz.results21,go_sem]
     · have hy0:y < 0:=by omega
       clear hxy
       generalize L n=z at *
       go_wp2
       refine bodyPost_ret (v:=.tuple #[.slice none 0 0,.int .i64 9]) ?_ rfl ⟨none,0,0,by rw[HZ.out],by rw[HZ.out];rfl,by rw[HZ.out];exact World.ownsRow_nil _ _ _ _,HB1.out⟩
       simp[results,Tryz.results21,go_sem]
   · obtain⟨a,rfl⟩:∃ a:Nat,x=(a:Int):=⟨x.toNat,by omega⟩
     obtain⟨k,rfl⟩:∃ k:Nat,y=(k:Int):=⟨y.toNat,by omega⟩
     have hx0:¬ (a:Int) < 0:=by omega
     have hy0:¬ (k:Int) < 0:=by omega
     have HZ:=hid (HZ1.out.trans (if_neg hxy))
     have HRD:=hid (show Crc.tx (rdT s (a:Int) (k:Int))=rdl (Crc.tx s) a k from by
      unfold Tre.rdT rdl
      have e1:Crc.tx (s.extract (a:Int).toNat s.size)=(Crc.tx s).drop a:=by
       rw[Ent.tx_extract]
       exact List.take_of_length_le (by rw[List.length_drop,Crc.tx_len];exact Nat.le_refl _)
      have e2:(s.extract (a:Int).toNat s.size).size=s.size - a:=by
       rw[← Crc.tx_len,e1,List.length_drop,Crc.tx_len]
      by_cases h1:(s.size:Int)≤(a:Int)
      · rw[if_pos h1,List.drop_of_length_le (by rw[Crc.tx_len];omega),List.take_nil]
        rfl
      · rw[if_neg h1,e2]
        by_cases h2:(k:Int) < ((s.size - a:Nat):Int)
        · rw[if_pos h2,Ent.tx_extract,e1]
          rfl
        · rw[if_neg h2,e1]
          exact (List.take_of_length_le (by rw[List.length_drop,Crc.tx_len];omega)).symm)
     have HN:=hid (HM1.out.nod _ _ _ HF.out.at')
     have HTR:=hid (tread_any w1 N (L n) (kb t L n) false s a k HN.out (hW.fsize HF.out.at') (by omega) (by omega))
     clear hxy
     generalize L n=z at *
     go_wp2_with fail
     refine HTR.out.mono ?_
     rintro e w2 ⟨G,gc,rfl,ho,hb2⟩
     obtain⟨m,hm⟩:∃ m,m=(rdl (Crc.tx s) a k).length:=⟨_,rfl⟩
     rw[← hm] at ho ⊢
     have HO:=hid ho
     have HMM:=hid hm
     have HB2:=hid (HB1.out.trans (hb2.mono HB1.out.size))
     clear ho hb2 hm
     go_wp2
     refine bodyPost_ret (v:=.tuple #[.slice G m gc,.int .i64 0]) ?_ rfl ⟨G,m,gc,by rw[HZ.out],by rw[HZ.out,HRD.out,HMM.out],by rw[HZ.out,HRD.out];exact own_low HO.out HB1.out.size,HB2.out⟩
     simp[results,Tryz.results21,go_sem]
end Trk
end Go.Proofs.YtdafimdfbnphaaaGreatDoor
/- Texts. -/
namespace Go.Proofs.YtdafimdfbnphaaaGreatDoor
open Lib (hid)
open Go.RowKit Go.MapKept
namespace Trk
open Tre (Nm Th fi isDirAt dirT goT goF setT dropT fileT addT zt datT rmdirT kidT kidL)
open Pat (Txs)
theorem wf_take {t:List Th} (hW:Wf t) {n:Nm}:∀ (f k:Nat) (v:Bool × ByteArray),n.length - k=f→k≤n.length→T t (n.take k)=some v→∀ j,j < k→∃ s,T t (n.take j)=some (true,s)
 | f,0,v,_,_,_,j,hj=>absurd hj (Nat.not_lt_zero j)
 | f,k+1,v,hf,hk,hv,j,hj=>by
   have e:n.take (k+1)=n.take k++[n[k]]:=List.take_succ_eq_append_getElem (by omega)
   rw[e] at hv
   obtain⟨s,hs⟩:=hW.up _ _ _ hv
   rcases Nat.lt_or_ge j k with h | h
   · exact wf_take hW (f+1) k _ (by omega) (by omega) hs j h
   · obtain rfl:j=k:=by omega
     exact⟨s,hs⟩
theorem rest_wf {t:List Th} {n:Nm} (h:∀ j,j < n.length→∃ s,T t (n.take j)=some (true,s)) {v:Bool × ByteArray} (hv:T t n=some v):∀ (f k:Nat),n.length - k=f→k≤n.length→rest t n k true=0
 | 0,k,hf,hk=>by
   obtain rfl:k=n.length:=by omega
   exact rest_end
 | f+1,k,hf,hk=>by
   rcases Nat.lt_or_ge (k+1) n.length with hlt | hge
   · obtain⟨s,hs⟩:=h (k+1) hlt
     rw[rest_some (by omega) hs]
     exact rest_wf h hv f (k+1) (by omega) (by omega)
   · have e:n.take (k+1)=n:=List.take_of_length_le hge
     rw[rest_some (by omega) (e.symm ▸ hv),show k+1=n.length by omega]
     exact rest_end
theorem Wf.go {t:List Th} (hW:Wf t) {n:Nm} {v:Bool × ByteArray} (hv:T t n=some v):goT t n=0:=by
 rw[goT_rest]
 exact rest_wf (fun j hj=>wf_take hW 0 n.length v (by omega) (Nat.le_refl _) (by rw[List.take_length];exact hv) j hj) hv n.length 0 (by omega) (by omega)
theorem Mem.drop {w w':World} {N:Nat} {t:List Th} {L:Nm→Nd} (h:Mem w N t L) (hW:Wf t) {p:Nm} {nm:ByteArray} {s:ByteArray} {v:Bool × ByteArray} {i g:Nat} {D:DataW Unit} (hp:T t p=some (true,s)) (hn:T t (p++[nm])=some v) (hi:fi t (p++[nm])=some i)
 (hg:(L p).m=some g) (hA:Ask w' g N (fun x=>if x=nm then none else kb t L p x) D) (hgr:w.grownBy w' (some g)):Mem w' N (dropT t i) L∧Chg (Fp t L) w w'∧∀ i',Fp (dropT t i) L i'→Fp t L i':=by
 have hT:∀ q,T (dropT t i) q=if q=p++[nm] then none else T t q:=T_drop hW.once (by simp) hi
 have hgp:g∈own (L p):=own_mem.2 (.inr (.inl hg))
 have hgF:Fp t L g:=⟨p,_,hp,hgp⟩
 refine⟨?_,Chg.grown hgr hgF,?_⟩
 · refine h.step (fun q=>q=p∨q=p++[nm]) (Nat.le_refl N) (fun q hq=>?_) (fun q hq=>rfl) (fun q u hu hq i' hi'=>?_) (fun q x u hu hq=>?_) (fun q d' s' hq hv=>?_) (fun q u hq hv=>?_) (fun q r u1 u2 hq hv hu hne' i' hi'=>?_)
   · rw[hT,if_neg (fun e=>hq (.inr e))]
   · exact hgr.block i' (h.lt ⟨q,u,hu,hi'⟩) (fun e=>by
      injection e with e
      exact h.apart q p u _ hu hp (fun e'=>hq (.inl e')) i' hi' (e ▸ hgp))
   · unfold kb
     rw[hT,if_neg (app_ne (fun e=>hq (.inl e)))]
   · rcases hq with rfl | rfl
     · rw[hT,if_neg (fun e=>app_self e.symm),hp] at hv
       injection hv with hv
       injection hv with h1 h2
       subst h1 h2
       have hN:=h.nod _ _ _ hp
       have ho:=h.one _ _ hp
       have hbg:(L q).b≠g:=fun e=>by
        unfold own at ho
        rw[hg] at ho
        simp[e] at ho
       refine⟨?_,?_,?_⟩
       · obtain⟨ty,hb⟩:=hN.box
         exact⟨ty,(hgr.block _ hN.blt (fun e=>hbg (by injection e))).trans hb⟩
       · refine hN.row.kept hgr ?_
         cases hA':(L q).A with
         | none=>exact .inl rfl
         | some a=>
           refine .inr (fun e=>?_)
           have:a.block=g:=by simpa [Value.ownBlock] using e
           unfold own at ho
           rw[hg,hA'] at ho
           simp[this] at ho
       · rw[hg]
         have hf:(fun x=>if x=nm then none else kb t L q x)=kb (dropT t i) L q:=by
          funext x
          unfold kb
          rw[hT]
          by_cases e:x=nm
          · subst e
            rw[if_pos rfl,if_pos rfl]
            rfl
          · rw[if_neg e,if_neg (fun e'=>e (app_inj e'))]
         rw[← hf]
         exact⟨D,hA⟩
     · rw[hT,if_pos rfl] at hv
       cases hv
   · rcases hq with rfl | rfl
     · exact h.one _ _ hp
     · rw[hT,if_pos rfl] at hv
       cases hv
   · rcases hq with rfl | rfl
     · rw[hT] at hu
       by_cases e:r=q++[nm]
       · rw[if_pos e] at hu
         cases hu
       · rw[if_neg e] at hu
         exact h.apart q r _ u2 hp hu (fun e=>hne' e.symm) i' hi'
     · rw[hT,if_pos rfl] at hv
       cases hv
 · rintro i' ⟨q,u,hu,hi'⟩
   rw[hT] at hu
   by_cases e:q=p++[nm]
   · rw[if_pos e] at hu
     cases hu
   · rw[if_neg e] at hu
     exact⟨q,u,hu,hi'⟩
set_option maxRecDepth 100000 in
set_option maxHeartbeats 1000000 in
theorem drop_any (w:World) (N b0 i:Nat) (t:List Th) (L:Nm→Nd) (p:ByteArray) (m:Nm) (s:ByteArray) (v:Bool × ByteArray) (hM:Mem w N t L) (hb:(L []).b=b0) (hW:Wf t) (hp:p.size < 4294967281)
 (hs:Pat.spl p=some (m++[s])) (hv:T t (m++[s])=some v) (hi:fi t (m++[s])=some i) :
 Calls Tryz.prog 49 #[.pointer (some ⟨b0,0,none⟩),.string p] w fun e w'=>e = .returned (.tuple #[])∧TrkR w N t L (dropT t i) w':=by
 have HM:=hid hM
 have HS:=hid hs
 have HV:=hid hv
 have HI:=hid hi
 clear hM hs hv hi
 go_enter Tryz.func49,Tryz.ntmps49
 go_wp2_with fail
 refine (Pat.split_any w p hp).mono ?_
 rintro e w1 ⟨hb1,h1⟩
 have HB1:=hid hb1
 have HM1:=hid (HM.out.keep hb1)
 clear hb1
 rcases h1 with ⟨l,A,c,hs,rfl,hc,ht⟩ | ⟨hs,rfl⟩
 · obtain rfl:m++[s]=l:=by rw[HS.out] at hs;injection hs
   have HIN:=hid (spl_is hs)
   have HIm:=hid (show Pat.IsNames m from ⟨by have:=HIN.out.1;simp at this;omega,fun z hz=>HIN.out.2 z (by simp[hz])⟩)
   have hss:=right_len (HIN.out.2 s (by simp))
   have HT:=hid ht
   obtain⟨k,hk⟩:∃ k,k=m.length:=⟨_,rfl⟩
   obtain⟨n,hn⟩:∃ n,n=(m++[s]).length:=⟨_,rfl⟩
   rw[← hn]
   have hml:k≤1000000:=by have:=HIm.out.1;omega
   have HPAR:=hid (Pat.parent_yes w1 A c n k m s HT.out hk.symm (by rw[hn,hk];simp) hml)
   have HKL:=hid hk
   clear hs hc ht hn hk
   go_wp2_with fail
   refine HPAR.out.mono ?_
   rintro e w2 ⟨g,rfl,_,ho,hb2⟩
   have HB2:=hid (HB1.out.trans (hb2.mono HB1.out.size))
   have HM2:=hid (HM.out.keep HB2.out)
   have HO:=hid (Pat.Own.txs ho (fun z hz=>by have:=(HIm.out.2 z hz).1.2;rw[Crc.tx_len] at this;omega) (by have:=HKL.out;omega))
   have HFOL:=hid (follow_any w2 N b0 k k t L (some ⟨g,0,none⟩) m HM2.out hb HO.out HIm.out HKL.out.symm)
   clear ho hb2 HT HPAR
   go_wp2_with fail
   refine HFOL.out.mono ?_
   rintro e w3 ⟨rfl,rfl⟩
   obtain⟨s',hup⟩:=hW.up _ _ _ HV.out
   have HUP:=hid hup
   rw[gv_yes (hW.go hup),hW.go hup]
   unfold pv
   have HN:=hid (HM2.out.nod _ _ _ hup)
   have hc2:=HN.out.c2
   have hkd:=HN.out.map
   cases hm:(L m).m with
   | none=>
     rw[hm] at hkd
     have:=hkd s
     unfold kb at this
     rw[HV.out] at this
     cases this
   | some q=>
     rw[hm] at hkd hc2
     obtain⟨D,hD⟩:=hkd
     obtain⟨w4,D',hdel,hA,hgr⟩:=hD.strike s hss 0
     have HR:=hid (show TrkR w N t L (dropT t i) w4 from by
      obtain⟨q1,q2,q3⟩:=HM2.out.drop hW HUP.out HV.out HI.out hm hA hgr
      exact TrkR.after HB2.out ⟨q2,L,q1.mono (Nat.le_succ N),rfl,fun i' hi'=>.inl (q3 i' hi')⟩)
     clear hup hA hgr hD
     generalize L m=z at *
     go_wp2
     go_end0
     exact⟨rfl,HR.out⟩
 · rw[HS.out] at hs
   cases hs
end Trk
end Go.Proofs.YtdafimdfbnphaaaGreatDoor
/- Texts. -/
namespace Go.Proofs.YtdafimdfbnphaaaGreatDoor
open Go.RowKit Go.MapKept
namespace Trk
open Tre (Nm Th fi isDirAt dirT goT goF setT dropT fileT addT zt datT rmdirT kidT kidL fv)
open Pat (Txs)
theorem names_last {n:Nm} (h:n≠[]):∃ m s,n=m++[s]:=by
 rcases List.eq_nil_or_concat n with h' | ⟨m,s,h'⟩
 · exact absurd h' h
 · exact⟨m,s,by rw[h',List.concat_eq_append]⟩
section
variable (w : World) (N b0 : Nat) (t : List Th) (L : Nm → Nd) (p : ByteArray) (hM : Mem w N t L) (hb : (L []).b = b0) (hW : Wf t) (hp : p.size < 4294967281)
include hM hb hW hp
end
theorem kidL_mem {t:List Th} (ht:Once t) {n:Nm} {x:ByteArray}:x∈kidL t n↔(T t (n++[x])).isSome=true:=by
 unfold Tre.kidL
 rw[List.mem_map]
 constructor
 · rintro ⟨y,hy,rfl⟩
   obtain⟨hy,hc⟩:=List.mem_filter.1 hy
   obtain⟨h1,h2⟩:=of_decide_eq_true hc
   have e:n++[y.1.getD n.length ByteArray.empty]=y.1:=by
    rw[← h2]
    have hlt:n.length < y.1.length:=by omega
    rw[List.getD_eq_getElem?_getD,List.length_take,Nat.min_eq_left (by omega),List.getElem?_eq_getElem hlt,Option.getD_some,← List.take_succ_eq_append_getElem hlt,List.take_of_length_le (by omega)]
   rw[e,mem_T ht hy (fun h0=>by rw[h0] at h1;simp at h1)]
   rfl
 · intro h
   obtain⟨v,hv⟩:=Option.isSome_iff_exists.1 h
   have hm:=T_mem (by simp) hv
   refine⟨_,List.mem_filter.2 ⟨hm,decide_eq_true (by simp)⟩,by simp⟩
theorem kidL_once {t:List Th} (ht:Once t) (n:Nm):(kidL t n).Nodup:=by
 unfold Tre.kidL
 refine List.pairwise_map.2 ?_
 have h1:(t.filter fun x=>decide (x.1.length=n.length+1∧x.1.take n.length=n)).Pairwise (fun x y=>x.1≠y.1):=(List.pairwise_map.1 ht).sublist List.filter_sublist
 refine h1.imp_of_mem fun {a b} ha hb hne e=>hne ?_
 have key:∀ y∈(t.filter fun x=>decide (x.1.length=n.length+1∧x.1.take n.length=n)),y.1=n++[y.1.getD n.length ByteArray.empty]:=fun y hy=>by
  obtain⟨h1,h2⟩:=of_decide_eq_true (List.mem_filter.1 hy).2
  have hlt:n.length < y.1.length:=by omega
  conv=>rhs;rw[← h2]
  rw[List.getD_eq_getElem?_getD,List.length_take,Nat.min_eq_left (by omega),List.getElem?_eq_getElem hlt,Option.getD_some,← List.take_succ_eq_append_getElem hlt,List.take_of_length_le (by omega)]
 rw[key a ha,key b hb,e]
theorem kid_size {t:List Th} (hW:Wf t) {n:Nm} {x:ByteArray} (h:(T t (n++[x])).isSome=true):x.size≤maxLen:=by
 obtain⟨v,hv⟩:=Option.isSome_iff_exists.1 h
 have hm:=T_mem (by simp) hv
 exact right_len ((hW.nm _ hm).2.2 x (by simp))
theorem kidT_len (t:List Th) (n:Nm):(kidT t n).length=(kidL t n).length:=by
 rw[Tre.kidT_eq]
 exact Tre.sorted_len _ _
theorem Nod.kids {w:World} {N:Nat} {t:List Th} {L:Nm→Nd} {n:Nm} {d:Bool} {s:ByteArray} {x:Nd} (hW:Wf t) (h:Nod w N x (kb t L n) d s) (ty:TypeId) :
 (Builtin.len_ #[94] ty #[.map x.m]).run Tryz.prog w = .ok (.int .i64 ((kidL t n).length:Int)) w:=by
 have hk:=h.map
 cases hm:x.m with
 | none=>
   rw[hm] at hk
   have h0:kidL t n=[]:=by
    cases hl:kidL t n with
    | nil=>rfl
    | cons y r=>
      have:=(kidL_mem hW.once).1 (show y∈kidL t n by rw[hl];simp)
      have hy:=hk y
      unfold kb at hy
      cases hT:T t (n++[y]) with
      | none=>rw[hT] at this;cases this
      | some v=>rw[hT] at hy;cases hy
   rw[h0]
   exact Maps.len_nil Tryz.underlying94 ty
 | some g=>
   rw[hm] at hk
   obtain⟨D,hD⟩:=hk
   obtain⟨_,hsz⟩:=hD.keys (kidL_once hW.once n) (fun y=>by rw[kidL_mem hW.once];unfold kb;cases T t (n++[y])<;>simp) (fun y hy=>kid_size hW ((kidL_mem hW.once).1 hy))
   rw[← hsz]
   exact hD.own.len Tryz.underlying94 ty
end Trk
end Go.Proofs.YtdafimdfbnphaaaGreatDoor
/- Texts. -/
namespace Go.Proofs.YtdafimdfbnphaaaGreatDoor
open Lib (hid)
open Go.RowKit Go.MapKept
namespace Trk
open Tre (Nm Th fi isDirAt dirT goT goF setT dropT fileT addT zt datT rmdirT kidT kidL fv)
open Pat (Txs)
theorem rmdirT_no {t:List Th} {p:ByteArray} (h:dirE t p≠0):rmdirT t p=(t,dirE t p):=by
 unfold dirE at h
 unfold dirE Tre.rmdirT
 cases hs:Pat.spl p with
 | none=>rfl
 | some n=>
   rw[hs] at h
   simp only at h ⊢
   by_cases hg:goT t n≠0
   · rw[if_pos hg,if_pos hg]
   · rw[if_neg hg] at h ⊢
     rw[if_neg hg]
     by_cases hd:dirT t n=false
     · rw[if_pos hd,if_pos hd]
     · rw[if_neg hd] at h
       exact absurd rfl h
theorem rmdirT_yes {t:List Th} {p:ByteArray} {n:Nm} {s:ByteArray} (h:IsDir t p n s):rmdirT t p=if n=[] then (t,1) else if 0 < (kidT t n).length then (t,8) else (dropT t (fv t n).toNat,0):=by
 unfold Tre.rmdirT
 rw[h.spl]
 simp only[h.go,h.dir]
 simp
theorem thing_size:(Tryz.prog.info? 96).map (fun i=>i.size)=some 3:=by kernel_rfl
theorem eql_same (w:World) (b:Nat):(binOp .eql 102 (.pointer (some ⟨b,0,none⟩)) (.pointer (some ⟨b,0,none⟩))).run Tryz.prog w = .ok (.bool true) w:=by
 obtain⟨j,hj,_⟩:=Option.map_eq_some_iff.1 thing_size
 exact run_eql_ptr_same w _ Tryz.underlying102 hj
theorem eql_other {w:World} {N N':Nat} {x y:Nd} {f g:ByteArray→Option Nat} {d d':Bool} {s s':ByteArray} (h:Nod w N x f d s) (h':Nod w N' y g d' s') (hne:x.b≠y.b):(binOp .eql 102 (.pointer (some ⟨x.b,0,none⟩)) (.pointer (some ⟨y.b,0,none⟩))).run Tryz.prog w = .ok (.bool false) w:=by
 obtain⟨j,hj,hs⟩:=Option.map_eq_some_iff.1 thing_size
 obtain⟨t1,h1⟩:=h.box
 obtain⟨t2,h2⟩:=h'.box
 exact run_eql_ptr_other w Tryz.underlying102 hj (by rw[hs];decide) (fun e=>hne (by injection e)) h1 h2
set_option maxRecDepth 100000 in
set_option maxHeartbeats 1000000 in
theorem rmdir_any (w:World) (N b0:Nat) (t:List Th) (L:Nm→Nd) (p:ByteArray) (hM:Mem w N t L) (hb:(L []).b=b0) (hW:Wf t) (hp:p.size < 4294967281) :
 Calls Tryz.prog 20 #[.pointer (some ⟨b0,0,none⟩),.string p] w fun e w'=>e = .returned (.int .i64 (rmdirT t p).2)∧TrkR w N t L (rmdirT t p).1 w':=by
 have HM:=hid hM
 clear hM
 go_enter Tryz.func20,Tryz.ntmps20
 go_wp2_with fail
 refine (dirAt_any w N b0 t L p HM.out hb hp).mono ?_
 rintro e w1 ⟨hf,hb1⟩
 have HB1:=hid hb1
 have HM1:=hid (HM.out.keep hb1)
 clear hb1
 rcases hf with ⟨he,rfl⟩ | ⟨n,s,hf,rfl⟩
 · have HZ:=hid (rmdirT_no he)
   generalize hg:dirE t p=g at *
   clear hg
   go_wp2
   refine bodyPost_ret (v:=.int .i64 g) ?_ rfl ⟨by rw[HZ.out],by rw[HZ.out];exact TrkR.same HM.out HB1.out⟩
   simp[results,Tryz.results20,go_sem]
 · have HF:=hid hf
   have HZ1:=hid (rmdirT_yes hf)
   have HN:=hid (HM1.out.nod _ _ _ hf.at')
   have hc2:=HN.out.c2
   clear hf
   by_cases h0:n=[]
   · have HZ:=hid (HZ1.out.trans (if_pos h0))
     have heq:(binOp .eql 102 (.pointer (some ⟨(L n).b,0,none⟩)) (.pointer (some ⟨b0,0,none⟩))).run Tryz.prog w1 = .ok (.bool true) w1:=by
      rw[show (L n).b=b0 by rw[h0,hb]]
      exact eql_same w1 b0
     clear h0
     generalize hy:L n=y at *
     go_wp2
     refine bodyPost_ret (v:=.int .i64 1) ?_ rfl ⟨by rw[HZ.out],by rw[HZ.out];exact TrkR.same HM.out HB1.out⟩
     simp[results,Tryz.results20,go_sem]
   · have HZ2:=hid (HZ1.out.trans (if_neg h0))
     have hbb:(L n).b≠b0:=fun e=>by
      rw[← hb] at e
      exact HM1.out.apart n [] _ _ HF.out.at' (T_root t) h0 _ (own_mem.2 (.inl rfl)) (own_mem.2 (.inl e))
     have heq:(binOp .eql 102 (.pointer (some ⟨(L n).b,0,none⟩)) (.pointer (some ⟨b0,0,none⟩))).run Tryz.prog w1 = .ok (.bool false) w1:=by
      rw[← hb] at hbb ⊢
      exact eql_other HN.out (HM1.out.nod _ _ _ (T_root t)) hbb
     have hlen:=HN.out.kids hW
     have HK:=hid (kidT_len t n)
     obtain⟨m,z,rfl⟩:=names_last h0
     obtain⟨i,hi⟩:=fi_of_T h0 HF.out.at'
     have HD:=hid (drop_any w1 N b0 i t L p m z _ HM1.out hb hW hp HF.out.spl HF.out.at' hi)
     have HFV:=hid (show (fv t (m++[z])).toNat=i by unfold Tre.fv;rw[hi];rfl)
     clear h0 hi
     generalize hn:m++[z]=n at *
     generalize hy:L n=y at *
     generalize hk:(kidL t n).length=k at *
     by_cases hk0:0 < k
     · have HZ:=hid (HZ2.out.trans (if_pos (by rw[HK.out];exact hk0)))
       go_wp2
       refine bodyPost_ret (v:=.int .i64 8) ?_ rfl ⟨by rw[HZ.out],by rw[HZ.out];exact TrkR.same HM.out HB1.out⟩
       simp[results,Tryz.results20,go_sem]
     · have HZ:=hid (HZ2.out.trans (if_neg (by rw[HK.out];exact hk0)))
       go_wp2_with fail
       refine HD.out.mono ?_
       rintro e w2 ⟨rfl,hr⟩
       have HR:=hid (TrkR.after HB1.out hr)
       clear hr
       go_wp2
       refine bodyPost_ret (v:=.int .i64 0) ?_ rfl ⟨by rw[HZ.out],by rw[HZ.out,HFV.out];exact HR.out⟩
       simp[results,Tryz.results20,go_sem]
end Trk
end Go.Proofs.YtdafimdfbnphaaaGreatDoor
/- Texts. -/
namespace Go.Proofs.YtdafimdfbnphaaaGreatDoor
open Go.RowKit Go.MapKept
namespace Trk
open Tre (Nm Th fi isDirAt dirT goT goF setT dropT fileT addT zt datT rmdirT kidT kidL fv writeT wrT)
open Pat (Txs)
theorem Wf.added {t:List Th} (hW:Wf t) {n:Nm} {d:Bool} (h0:n≠[]) (hI:Pat.IsNames n) (hn:T t n=none) (hup:∃ s,T t (n.take (n.length - 1))=some (true,s)):Wf (t++[(n,d,ByteArray.empty)]):=by
 obtain⟨_,hfi⟩:=T_no hn
 have hT:∀ q,T (t++[(n,d,ByteArray.empty)]) q=if q=n then some (d,ByteArray.empty) else T t q:=T_app (x:=(n,d,ByteArray.empty)) h0 hfi
 have hnm:∀ x∈t,x.1≠n:=fun x hx e=>by
  obtain⟨i,hi⟩:=fi_mem hx
  rw[e,hfi] at hi
  cases hi
 refine⟨?_,fun x hx=>?_,fun p x v hv=>?_,fun p s hp=>?_,fun x hx=>?_⟩
 · unfold Once
   rw[List.map_append,List.nodup_append]
   refine⟨hW.once,by simp,fun a ha b hb e=>?_⟩
   obtain⟨x,hx,rfl⟩:=List.mem_map.1 ha
   have hb:b=n:=by simpa using hb
   exact hnm x hx (e.trans hb)
 · rcases List.mem_append.1 hx with hx | hx
   · exact hW.nm x hx
   · obtain rfl:x=(n,d,ByteArray.empty):=by simpa using hx
     exact⟨h0,hI⟩
 · rw[hT] at hv
   by_cases e:p++[x]=n
   · have ep:n.take (n.length - 1)=p:=by rw[← e];simp
     rw[ep] at hup
     obtain⟨s,hs⟩:=hup
     refine⟨s,?_⟩
     rw[hT,if_neg (fun e'=>app_self (x:=x) (e.trans e'.symm)),hs]
   · rw[if_neg e] at hv
     obtain⟨s,hs⟩:=hW.up _ _ _ hv
     refine⟨s,?_⟩
     rw[hT,if_neg (fun e'=>by rw[e',hn] at hs;cases hs),hs]
 · rw[hT] at hp
   by_cases e:p=n
   · rw[if_pos e] at hp
     injection hp with hp
     injection hp with _ hp
     exact hp.symm
   · rw[if_neg e] at hp
     exact hW.dat p s hp
 · rcases List.mem_append.1 hx with hx | hx
   · exact hW.size x hx
   · obtain rfl:x=(n,d,ByteArray.empty):=by simpa using hx
     show ByteArray.empty.size≤268435456
     decide
theorem Wf.add {t:List Th} (hW:Wf t) (p:ByteArray) (d:Bool):Wf (addT t p d).1:=by
 cases hs:Pat.spl p with
 | none=>rw[Tre.addT_none hs];exact hW
 | some n=>
   by_cases h0:n=[]
   · rw[h0] at hs
     rw[Tre.addT_root hs];exact hW
   · by_cases hg:goT t (n.take (n.length - 1))=0
     · obtain⟨v,hv⟩:=goT_some hg
       have hd:=dirT_T hv
       cases hv1:v.1 with
       | false=>rw[Tre.addT_file hs h0 hg (hd.trans hv1)];exact hW
       | true=>
         cases hf:fi t n with
         | some i=>rw[Tre.addT_there hs h0 hg (hd.trans hv1) hf];exact hW
         | none=>
           rw[Tre.addT_yes hs h0 hg (hd.trans hv1) hf]
           exact hW.added h0 (spl_is hs) (T_none h0 hf) ⟨v.2,by rw[hv,← hv1]⟩
     · rw[Tre.addT_go hs h0 hg];exact hW
theorem Wf.set {t:List Th} (hW:Wf t) {n:Nm} {i:Nat} {s u:ByteArray} (h0:n≠[]) (hi:fi t n=some i) (hv:T t n=some (false,s)) (hu:u.size≤268435456):Wf (setT t i u):=by
 have hT:=T_set h0 hi hv u
 refine⟨?_,fun x hx=>?_,fun p x v hv'=>?_,fun p s' hp=>?_,fun x hx=>?_⟩
 · unfold Once
   rw[setT_names]
   exact hW.once
 · have:x.1∈t.map (·.1):=by
    rw[← setT_names t i u]
    exact List.mem_map.2 ⟨x,hx,rfl⟩
   obtain⟨y,hy,e⟩:=List.mem_map.1 this
   rw[← e]
   exact hW.nm y hy
 · rw[hT] at hv'
   have key:∃ s,T t p=some (true,s):=by
    by_cases e:p++[x]=n
    · rw[← e] at hv
      exact hW.up _ _ _ hv
    · rw[if_neg e] at hv'
      exact hW.up _ _ _ hv'
   obtain⟨s',hs'⟩:=key
   refine⟨s',?_⟩
   rw[hT,if_neg (fun e=>by rw[e,hv] at hs';cases hs'),hs']
 · rw[hT] at hp
   by_cases e:p=n
   · rw[if_pos e] at hp
     cases hp
   · rw[if_neg e] at hp
     exact hW.dat p s' hp
 · obtain⟨j,hj⟩:=List.getElem?_of_mem hx
   rw[setT_at] at hj
   cases hy:t[j]? with
   | none=>rw[hy] at hj;cases hj
   | some y=>
     rw[hy] at hj
     simp only[Option.map_some,Option.some.injEq] at hj
     rw[← hj]
     split
     · exact hu
     · exact hW.size y (List.mem_of_getElem? hy)
theorem file_yes {t:List Th} {p:ByteArray} (h:(fileT t p).2=0):∃ n i s,IsFile t p n i s:=by
 by_cases hg:ge t p=0
 · obtain⟨n,⟨d,s⟩,hs,hn,hv,_⟩:=ge_yes (L:=fun _=>⟨0,none,0,none⟩) hg
   cases d with
   | true=>rw[no_file hs hn hv] at h;cases h
   | false=>
     obtain⟨i,hi⟩:=is_file hs hn hv
     exact⟨n,i,s,hi⟩
 · rw[(ge_no (L:=fun _=>⟨0,none,0,none⟩) hg).2] at h
   exact absurd h hg
theorem ovr_size {s:ByteArray} {a:Nat} {bs:List Nat} (h0:bs≠[]):(ovr s a bs).size=max s.size (a+bs.length):=by
 unfold ovr
 have hp:(pad s (a+bs.length)).size=max s.size (a+bs.length):=by
  by_cases h:s.size≤a+bs.length
  · rw[pad_size h];omega
  · rw[pad_none (by omega)];omega
 rw[if_neg h0,Crc.str_size,ovl_len (by rw[Crc.tx_len,hp];omega),Crc.tx_len,hp]
theorem Wf.write {t:List Th} (hW:Wf t) (p:ByteArray) (x:Int) {bs:List Nat} (hb:Crc.Byt bs):Wf (writeT t p x (Crc.str bs)).1:=by
 unfold Tre.writeT
 by_cases he:(fileT t p).2≠0
 · rw[if_pos he];exact hW
 · rw[if_neg he]
   obtain⟨n,i,s,hf⟩:=file_yes (by simpa using he)
   obtain⟨f1,f2,_⟩:=fileT_file hf
   rw[f1,f2]
   by_cases hx:x < 0∨268435456 < x∨268435456 < x+((Crc.str bs).size:Int)
   · rw[if_pos hx];exact hW
   · rw[if_neg hx]
     by_cases h0:(Crc.str bs).size=0
     · rw[if_pos h0];exact hW
     · rw[if_neg h0]
       have hb0:bs≠[]:=fun e=>h0 (by rw[e];rfl)
       obtain⟨a,rfl⟩:∃ a:Nat,x=(a:Int):=⟨x.toNat,by omega⟩
       rw[← ovr_wr hb hb0]
       refine hW.set hf.ne hf.fi hf.at' ?_
       rw[ovr_size hb0]
       rw[Crc.str_size] at hx
       have:=hW.fsize hf.at'
       omega
end Trk
end Go.Proofs.YtdafimdfbnphaaaGreatDoor
/- Texts. -/
/- Texts. -/
namespace Go.Proofs.YtdafimdfbnphaaaGreatDoor
open Lib (hid)
open Go.RowKit Go.MapKept
namespace Trk
open Tre (Nm Th fi isDirAt dirT goT goF setT dropT fileT addT zt datT rmdirT kidT kidL fv writeT wrT readT)
open Pat (Txs)
def Own (w0:World) (B N:Nat) (t:List Th) (b:Nat) (w:World):Prop:=∃ L,Mem w N t L∧(L []).b=b∧(∀ i,Fp t L i→B≤i)∧Below B w0 w∧B≤w.heap.size
theorem Own.keep {w0 w w':World} {B N b:Nat} {t:List Th} (h:Own w0 B N t b w) (hb:Below w.heap.size w w'):Own w0 B N t b w':=by
 obtain⟨L,h1,h2,h3,h4,h5⟩:=h
 exact⟨L,h1.keep hb,h2,h3,h4.trans (hb.mono h5),Nat.le_trans h5 hb.size⟩
theorem Own.step {w0 w w':World} {B N b:Nat} {t t':List Th} {L:Nm→Nd} (hF:∀ i,Fp t L i→B≤i) (hb:(L []).b=b) (hB:Below B w0 w) (hs:B≤w.heap.size) (h:TrkR w N t L t' w'):Own w0 B (N+1) t' b w':=by
 obtain⟨h1,L',h2,h3,h4⟩:=h
 refine⟨L',h2,h3.trans hb,fun i hi=>(h4 i hi).elim (hF i) (fun e=>Nat.le_trans hs e),hB.trans (h1.below hs hF),Nat.le_trans hs h1.size⟩
theorem own_new {w w':World} (hm:Mem w' 0 [] (L0 w.heap.size)) (hb:Below w.heap.size w w'):Own w w.heap.size 0 [] w.heap.size w':=by
 refine⟨_,hm,rfl,fun i hi=>?_,hb,hb.size⟩
 obtain⟨p,v,_,hi⟩:=hi
 have:i=w.heap.size:=by simpa [own,L0] using hi
 omega
def t1:List Th:=[([⟨#[97]⟩],true,ByteArray.empty)]
def t2:List Th:=[([⟨#[97]⟩],true,ByteArray.empty),([⟨#[97]⟩,⟨#[98]⟩],false,ByteArray.empty)]
def t3:List Th:=[([⟨#[97]⟩],true,ByteArray.empty),([⟨#[97]⟩,⟨#[98]⟩],false,⟨#[0,0,120]⟩)]
theorem e1:addT [] ⟨#[47,97]⟩ true=(t1,0):=by kernel_rfl
theorem e2:addT t1 ⟨#[47,97,47,98]⟩ false=(t2,0):=by kernel_rfl
theorem e3:writeT t2 ⟨#[47,97,47,98]⟩ 2 (Crc.str [120])=(t3,0):=by kernel_rfl
theorem e4:rmdirT t3 ⟨#[47,97]⟩=(t3,8):=by kernel_rfl
theorem e5:readT t3 ⟨#[47,97,47,98]⟩ 0 9=(⟨#[0,0,120]⟩,0):=by kernel_rfl
theorem w1f:Wf t1:=by
 have:=wf_nil.add ⟨#[47,97]⟩ true
 rw[e1] at this
 exact this
theorem w2f:Wf t2:=by
 have:=w1f.add ⟨#[47,97,47,98]⟩ false
 rw[e2] at this
 exact this
theorem w3f:Wf t3:=by
 have:=w2f.write ⟨#[47,97,47,98]⟩ 2 (bs:=[120]) (by unfold Crc.Byt;decide)
 rw[e3] at this
 exact this
theorem bts_mark (w:World):Crc.Bts (w.alloc (.cells #[.int .u8 120] 5 (1,2))) (some ⟨w.heap.size,0,none⟩) [120]:=by
 refine⟨by unfold Crc.Byt;decide,by decide,fun j hj=>⟨w.heap.size,0,rfl,by simp,?_⟩⟩
 obtain rfl:j=0:=by simpa using hj
 rw[World.cell?_alloc_mark]
 rfl
section
variable {w0 w : World} {B b : Nat}
theorem mkdir_ex (h:Own w0 B 0 [] b w) :
 Calls Tryz.prog 17 #[.pointer (some ⟨b,0,none⟩),.string ⟨#[47,97]⟩] w fun e w'=>e = .returned (.int .i64 0)∧Own w0 B 1 t1 b w':=by
 obtain⟨L,h1,h2,h3,h4,h5⟩:=h
 have h:=mkdir_any w 0 b [] L ⟨#[47,97]⟩ h1 h2 wf_nil (by decide) (by decide)
 rw[e1] at h
 exact h.mono fun e w' hr=>⟨hr.1,Own.step h3 h2 h4 h5 hr.2⟩
theorem create_ex (h:Own w0 B 1 t1 b w) :
 Calls Tryz.prog 18 #[.pointer (some ⟨b,0,none⟩),.string ⟨#[47,97,47,98]⟩] w fun e w'=>e = .returned (.int .i64 0)∧Own w0 B 2 t2 b w':=by
 obtain⟨L,h1,h2,h3,h4,h5⟩:=h
 have h:=create_any w 1 b t1 L ⟨#[47,97,47,98]⟩ h1 h2 w1f (by decide) (by decide)
 rw[e2] at h
 exact h.mono fun e w' hr=>⟨hr.1,Own.step h3 h2 h4 h5 hr.2⟩
theorem write_ex {w1:World} (c:Nat) (h:Own w0 B 2 t2 b w) (hb:Below w.heap.size w w1) (hB:Crc.Bts w1 (some ⟨w.heap.size,0,none⟩) [120]) :
 Calls Tryz.prog 19 #[.pointer (some ⟨b,0,none⟩),.string ⟨#[47,97,47,98]⟩,.int .i64 2,.slice (some ⟨w.heap.size,0,none⟩) 1 c] w1 fun e w'=>e = .returned (.int .i64 0)∧Own w0 B 3 t3 b w':=by
 obtain⟨L,h1,h2,h3,h4,h5⟩:=h
 have h:=wr_any w1 2 b t2 L ⟨#[47,97,47,98]⟩ 2 1 c _ [120] (h1.keep hb) h2 w2f (by decide) rfl (by decide) hB (fun ad e _ hi=>by injection e with e;subst e;have:=h1.lt hi;simp at this)
 rw[e3] at h
 exact h.mono fun e w' hr=>⟨hr.1,Own.step h3 h2 (h4.trans (hb.mono h5)) (Nat.le_trans h5 hb.size) hr.2⟩
theorem rmdir_ex (h:Own w0 B 3 t3 b w) :
 Calls Tryz.prog 20 #[.pointer (some ⟨b,0,none⟩),.string ⟨#[47,97]⟩] w fun e w'=>e = .returned (.int .i64 8)∧Own w0 B 4 t3 b w':=by
 obtain⟨L,h1,h2,h3,h4,h5⟩:=h
 have h:=rmdir_any w 3 b t3 L ⟨#[47,97]⟩ h1 h2 w3f (by decide)
 rw[e4] at h
 exact h.mono fun e w' hr=>⟨hr.1,Own.step h3 h2 h4 h5 hr.2⟩
theorem read_ex (h:Own w0 B 4 t3 b w) :
 Calls Tryz.prog 21 #[.pointer (some ⟨b,0,none⟩),.string ⟨#[47,97,47,98]⟩,.int .i64 0,.int .i64 9] w fun e w'=>∃ (G:Option Addr) (gc:Nat),e = .returned (.tuple #[.slice G 3 gc,.int .i64 0])∧Crc.Bts w' G [0,0,120]∧Below B w0 w':=by
 obtain⟨L,h1,h2,h3,h4,h5⟩:=h
 have h:=rd_any w 4 b t3 L ⟨#[47,97,47,98]⟩ 0 9 h1 h2 w3f (by decide) (by decide) (by decide)
 rw[e5] at h
 refine h.mono ?_
 rintro e w' ⟨G,n,gc,rfl,hn,ho,hb'⟩
 obtain rfl:n=3:=by rw[← hn];rfl
 exact⟨G,gc,rfl,Crc.own_bts ho (by unfold Crc.Byt;decide) (by decide),h4.trans (hb'.mono h5)⟩
end
set_option maxRecDepth 100000 in
set_option maxHeartbeats 1000000 in
theorem lives_any (w:World):Calls Tryz.prog 7 #[] w fun e w'=>e = .returned (.bool true)∧Below w.heap.size w w':=by
 have H0:=hid (new_any w)
 have H1:=hid Pat.lives_any
 go_enter Tryz.func7,Tryz.ntmps7
 go_wp2_with fail
 refine H0.out.mono ?_
 rintro e wa ⟨rfl,hm,hb,_⟩
 have HA:=hid (own_new hm hb)
 clear hm hb H0
 generalize hbb:w.heap.size=b at *
 have HBB:=hid hbb
 clear hbb
 go_wp2_with fail
 refine (H1.out _).mono ?_
 rintro e wb ⟨rfl,hb⟩
 have HB:=hid (HA.out.keep hb)
 clear hb
 go_wp2_with fail
 refine (mkdir_ex HB.out).mono ?_
 rintro e wc ⟨rfl,hc⟩
 have HC:=hid hc
 clear hc
 go_wp2_with fail
 refine (create_ex HC.out).mono ?_
 rintro e wd ⟨rfl,hd⟩
 have HD:=hid hd
 clear hd
 have hcv:=Crc.conv_new wd #[.int .u8 120] 1 1
 have HE:=hid (write_ex 1 HD.out ((Below.refl _ wd).alloc (Nat.le_refl _) (.cells #[.int .u8 120] 5 (1,2))) (bts_mark wd))
 go_wp2_with fail
 refine HE.out.mono ?_
 rintro e wf ⟨rfl,hf⟩
 have HF:=hid hf
 clear hf
 go_wp2_with fail
 refine (rmdir_ex HF.out).mono ?_
 rintro e wg ⟨rfl,hg⟩
 have HG:=hid hg
 clear hg
 go_wp2_with fail
 refine (read_ex HG.out).mono ?_
 rintro e wh ⟨G,gc2,rfl,hbt,hbh⟩
 have HH:=hid hbh
 have hcs:=Crc.conv_str gc2 hbt
 simp only[show Crc.str [0,0,120]=⟨#[0,0,120]⟩ from rfl,List.length_cons,List.length_nil,Nat.zero_add] at hcs
 clear hbt hbh
 go_wp2
 go_ret
 exact⟨rfl,by rw[HBB.out];exact HH.out⟩
end Trk
end Go.Proofs.YtdafimdfbnphaaaGreatDoor
/- Texts. -/
namespace Go.Proofs.YtdafimdfbnphaaaGreatDoor
open Lib (hid)
open Go.RowKit Go.MapKept
namespace Chk
set_option maxRecDepth 100000 in
theorem lives_any (w:World) (hT:Bm.Tab w):Calls Tryz.prog 4 #[] w fun r w'=>r = .returned (.bool true)∧Below w.heap.size w w':=by
 have HL18:=hid (Fld.lives_any w hT)
 have HL13:=hid (fun w'=>Trk.lives_any w')
 have HN:=hid (fun w'=>Vol.new_ls 100 (by decide) w')
 clear hT
 go_enter Tryz.func4,Tryz.ntmps4
 go_wp2_with fail
 refine HL18.out.mono ?_
 rintro r w1 ⟨rfl,hb1⟩
 have HB1:=hid hb1
 clear hb1
 go_wp2_with fail
 refine (HL13.out _).mono ?_
 rintro r w2 ⟨rfl,hb2⟩
 have HB2:=hid (HB1.out.trans (hb2.mono HB1.out.size))
 clear hb2
 go_wp2_with fail
 refine (HN.out _).mono ?_
 rintro r w3 ⟨a,rfl,_,hl,hb3⟩
 have HJ:=hid (judge_none hl.up (Vol.vsb_new 100))
 have HB3:=hid (HB2.out.trans (hb3.mono HB2.out.size))
 clear hl hb3
 go_wp2_with fail
 refine HJ.out.mono ?_
 rintro r w4 ⟨rfl,hb4⟩
 have HB4:=hid (HB3.out.trans (hb4.mono HB3.out.size))
 clear hb4
 go_wp2
 go_ret
 exact⟨rfl,HB4.out⟩
end Chk
end Go.Proofs.YtdafimdfbnphaaaGreatDoor
/- Texts. -/
namespace Go.Proofs.YtdafimdfbnphaaaGreatDoor
open Lib (hid)
open Go.RowKit Go.MapKept
namespace Chk
set_option maxRecDepth 100000 in
theorem names_law (f:Int) (w:World) (_hf:-9223372036854775808≤f∧f≤9223372036854775807) (hT:Bm.Tab w) (hN:Nms w):Calls Tryz.prog 3 #[.int .i64 f] w fun r w'=>r = .returned (.bool true)∧Below w.heap.size w w':=by
 have HL:=hid (lives_any w hT)
 have HNM:=hid (fun w' (hb:Below w.heap.size w w')=>hN.below hb hN.lt)
 clear hT hN
 by_cases hin:0≤f∧f < 10
 · obtain⟨h0,h9⟩:=hin
   obtain⟨j,rfl⟩:=Int.eq_ofNat_of_zero_le h0
   have hj:j < 10:=by omega
   have HY:=hid (fun w' hn=>name_yes j hj w' hn)
   clear h0
   go_enter Tryz.func3,Tryz.ntmps3
   go_wp2_with fail
   refine HL.out.mono ?_
   rintro r w1 ⟨rfl,hb1⟩
   have HB1:=hid hb1
   clear hb1
   have ha:=Vol.hb_new w1 (nml.map Value.string).toArray 9
   have hc:=(ha.cell j).trans (show (nml.map Value.string).toArray[j]? = some (.string (nm j)) from by
    have hl:j < nml.length:=hj
    simp[nm,List.getD_eq_getElem?_getD,hl])
   have HA:=hid ((Below.refl w1.heap.size w1).alloc (Nat.le_refl _) (.cells (nml.map Value.string).toArray 9))
   have hlt:=ha.lt
   simp only[nml,List.map_cons,List.map_nil] at ha hc HA hlt
   clear ha
   generalize nm j=s at *
   go_wp2_with fail
   have HB2:=hid (HB1.out.trans (HA.out.mono HB1.out.size))
   refine (HY.out _ (HNM.out _ HB2.out)).mono ?_
   rintro r w2 ⟨rfl,rfl⟩
   clear hc hlt HA
   go_wp2
   go_ret
   exact⟨rfl,HB2.out⟩
 · have HY:=hid (fun w'=>name_out f w' (by omega))
   by_cases h0:0≤f
   · have h9:10≤f:=by omega
     clear hin
     go_enter Tryz.func3,Tryz.ntmps3
     go_wp2_with fail
     refine HL.out.mono ?_
     rintro r w1 ⟨rfl,hb1⟩
     have HB1:=hid hb1
     clear hb1
     go_wp2_with fail
     refine (HY.out _).mono ?_
     rintro r w2 ⟨rfl,rfl⟩
     go_wp2
     go_ret
     exact⟨rfl,HB1.out⟩
   · clear hin
     go_enter Tryz.func3,Tryz.ntmps3
     go_wp2_with fail
     refine HL.out.mono ?_
     rintro r w1 ⟨rfl,hb1⟩
     have HB1:=hid hb1
     clear hb1
     go_wp2_with fail
     refine (HY.out _).mono ?_
     rintro r w2 ⟨rfl,rfl⟩
     go_wp2
     go_ret
     exact⟨rfl,HB1.out⟩
end Chk
end Go.Proofs.YtdafimdfbnphaaaGreatDoor
/- Texts. -/
namespace Go.Proofs.YtdafimdfbnphaaaGreatDoor
open Go.RowKit Go.MapKept Go.ChangeShapes Go.WideShapes Go.Deep
namespace Pack
section
variable {H : Type} {enc : TypeId × Value → H} {W : World} {fuel : Nat} {sp : Nat → Bool} {held : Bool}
end
end Pack
theorem ownKnob_none:ownKnob Tryz.prog.godebug=none:=by kernel_rfl
end Go.Proofs.YtdafimdfbnphaaaGreatDoor
/- Texts. -/
namespace Go.Proofs.YtdafimdfbnphaaaGreatDoor
open Go.ChangeShapes Go.WideShapes Go.ChangeAt Go.RowKit
abbrev lst : List (String × DataW Unit) := [("math/bits.deBruijn64tab", Rows.laid_math_bits_deBruijn64tab), ("unicode/utf8.acceptRanges", Rows.laid_unicode_utf8_acceptRanges), ("cantle/check.names", Rows.laid_cantle_check_names), ("unicode/utf8.first", Rows.laid_unicode_utf8_first)]
theorem tab_global : Tryz.prog.globalNamed "math/bits.deBruijn64tab" = some 1 := by kernel_rfl
theorem tab_type:(Tryz.prog.globals[1]?).map (·.type)=some 299:=by kernel_rfl
theorem tab_cells:Tryz.prog.cellsOf 5=1:=by kernel_rfl
theorem tab_datum:(Rows.laid_math_bits_deBruijn64tab:DataW Unit) = .agg (Lib.deBruijn64tab.map fun k:Nat=>.lit (.int .u8 (k:Int))):=rfl
theorem nms_global : Tryz.prog.globalNamed "cantle/check.names" = some 0 := by kernel_rfl
theorem nms_type:(Tryz.prog.globals[0]?).map (·.type)=some 30:=by kernel_rfl
theorem nms_cells:Tryz.prog.cellsOf 9=1:=by kernel_rfl
theorem nms_datum:(Rows.laid_cantle_check_names:DataW Unit) = .agg (Chk.nml.map fun s=>.lit (.string s.data.toList)):=rfl
theorem door_met (os:Os) (args:Array Value):laidMetH Tryz.prog lst ((World.laidAll Tryz.prog os lst).forCall (fun _ _=>0) ⟨#[],args,[]⟩).memory:=by
 rw[MakeChecks.laidMetH_plain _ _ _ (by kernel_rfl)]
 exact laidMet_laidAll _ (by kernel_rfl) (by kernel_rfl)
theorem tabs_of_laid {W:World} (h:laidMetH Tryz.prog lst W):Bm.Tab W∧Chk.Nms W:=by
 rw[MakeChecks.laidMetH_plain _ _ _ (by kernel_rfl)] at h
 obtain⟨ps,⟨g0,t0,cs0,f0,p0,q0,hg0,ht0,hv0,hd0,⟨_,_,_,_,_,_,_,_,_,_,⟨g2,t2,cs2,f2,p2,q2,hg2,ht2,hv2,hd2,_⟩,_⟩,_⟩,_,_⟩:=h
 obtain rfl:=Option.some.inj (tab_global.symm.trans hg0)
 obtain rfl:=Option.some.inj (tab_type.symm.trans ht0)
 obtain rfl:=Option.some.inj (nms_global.symm.trans hg2)
 obtain rfl:=Option.some.inj (nms_type.symm.trans ht2)
 refine⟨?_,?_⟩
 · obtain⟨xs,m1,rfl,hx1,hlen,hn,hel⟩:=DataW.trod_array Tryz.underlying299 hd0
   rw[tab_datum] at hx1
   injection hx1 with hx1 _
   injection hx1 with hx1
   intro j hj
   rw[World.var?_cell hg0 hv0 j]
   have hj':j < xs.length:=by omega
   have he:=hel j hj
   rw[List.getElem?_eq_getElem hj',tab_cells,Nat.mul_one] at he
   obtain⟨k,e1,e2,_⟩:=DataW.trod_int Tryz.underlying5 he
   have hk:=congrArg (·[j]?) hx1
   have hjd:j < Lib.deBruijn64tab.length:=hj
   simp only[List.getElem?_map,List.getElem?_eq_getElem hj',List.getElem?_eq_getElem hjd,Option.map_some,e2,Option.some.injEq,DataW.lit.injEq,Lit.int.injEq,true_and] at hk
   have hc:=congrArg (·[0]?) e1
   simp only[List.getElem?_take,List.getElem?_drop,Nat.add_zero,Nat.lt_one_iff,if_true,List.getElem?_cons_zero] at hc
   rw[Array.getElem?_toList] at hc
   rw[hc,← hk,List.getD_eq_getElem?_getD,List.getElem?_eq_getElem hjd]
   rfl
 · obtain⟨xs,m1,rfl,hx1,hlen,hn,hel⟩:=DataW.trod_array Tryz.underlying30 hd2
   rw[nms_datum] at hx1
   injection hx1 with hx1 _
   injection hx1 with hx1
   intro j hj
   rw[World.var?_cell hg2 hv2 j]
   have hj':j < xs.length:=by omega
   have he:=hel j hj
   rw[List.getElem?_eq_getElem hj',nms_cells,Nat.mul_one] at he
   obtain⟨s,e1,e2,_⟩:=DataW.trod_string Tryz.underlying9 he
   have hk:=congrArg (·[j]?) hx1
   have hjd:j < Chk.nml.length:=hj
   simp only[List.getElem?_map,List.getElem?_eq_getElem hj',List.getElem?_eq_getElem hjd,Option.map_some,e2,Option.some.injEq,DataW.lit.injEq,Lit.string.injEq] at hk
   have hc:=congrArg (·[0]?) e1
   simp only[List.getElem?_take,List.getElem?_drop,Nat.add_zero,Nat.lt_one_iff,if_true,List.getElem?_cons_zero] at hc
   rw[Array.getElem?_toList] at hc
   rw[hc]
   unfold Chk.nm
   rw[List.getD_eq_getElem?_getD,List.getElem?_eq_getElem hjd,Option.getD_some]
   refine congrArg some (congrArg Value.string ?_)
   have:s.data=(Chk.nml[j]).data:=Array.toList_inj.1 hk.symm
   cases s
   cases hq:Chk.nml[j]
   rw[hq] at this
   simp_all
end Go.Proofs.YtdafimdfbnphaaaGreatDoor
