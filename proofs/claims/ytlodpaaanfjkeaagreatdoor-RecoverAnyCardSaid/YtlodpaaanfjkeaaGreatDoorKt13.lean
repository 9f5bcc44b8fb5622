/- Texts laid together: TrkDrop, TrkRm, TrkRmdir, TrkWf, CrcSums, TrkLives, ChkLives, RcvLives, VolZero, RcvOf, VolRec, RcvWrite, RcvLaw, PackArgs, RcvArgs, RcvCard. -/
import Derived.Test.YtlodpaaanfjkeaaGreatDoorKt12
import Derived.LaidEqlPtr
import Derived.Test.YtlodpaaanfjkeaaGreatDoorKt1
import Derived.Test.YtlodpaaanfjkeaaGreatDoorKt11
import Derived.Test.YtlodpaaanfjkeaaGreatDoorKt9
import Derived.Test.YtlodpaaanfjkeaaGreatDoorKt4
import Derived.Test.YtlodpaaanfjkeaaGreatDoorKt6
import Derived.Test.YtlodpaaanfjkeaaGreatDoorKt8
import Derived.Test.YtlodpaaanfjkeaaGreatDoorKa1
import Derived.Deep.Slices
import Derived.OpenShut
import Derived.ChangeOld
import Derived.Test.YtlodpaaanfjkeaaGreatDoorTie
import Derived.Test.YtlodpaaanfjkeaaGreatDoorCards
import Derived.ProofKit
import Derived.Lay
import Derived.LaidMore
import Derived.LaidOnce
import Derived.Stop.Joined
import Derived.ChangeMaps5
set_option maxRecDepth 100000
set_option maxHeartbeats 4000000
namespace Go.Proofs.YtlodpaaanfjkeaaGreatDoor
section
open Lib (hid)
open Go.RowKit Go.MapKept
namespace Trk
open Tre (Nm Th fi isDirAt dirT goT goF setT dropT fileT addT zt datT rmdirT kidT kidL)
open Pat (Txs)
theorem wf_take {t:List Th} (hW:Wf t) {n:Nm}:∀ (f k:Nat) (v:Bool × ByteArray),n.length - k=f→k≤n.length→T t (n.take k)=some v→∀ j,j < k→∃ s,T t (n.take j)=some (true,s)
 | f,0,v,_,_,_,j,hj=>absurd hj (Nat.not_lt_zero j)
 | f,k+1,v,hf,hk,hv,j,hj=>by
   have e:n.take (k+1)=n.take k++[n[k]]:=List.take_succ_eq_append_getElem (by omega);rw[e] at hv
   obtain⟨s,hs⟩:=hW.up _ _ _ hv
   rcases Nat.lt_or_ge j k with h | h
   · exact wf_take hW (f+1) k _ (by omega) (by omega) hs j h
   · obtain rfl:j=k:=by omega
     exact⟨s,hs⟩
theorem rest_wf {t:List Th} {n:Nm} (h:∀ j,j < n.length→∃ s,T t (n.take j)=some (true,s)) {v:Bool × ByteArray} (hv:T t n=some v):∀ (f k:Nat),n.length - k=f→k≤n.length→rest t n k true=0
 | 0,k,hf,hk=>by
   obtain rfl:k=n.length:=by omega
   exact rest_end
 | f+1,k,hf,hk=>by
   rcases Nat.lt_or_ge (k+1) n.length with hlt | hge
   · obtain⟨s,hs⟩:=h (k+1) hlt
     rw[rest_some (by omega) hs];exact rest_wf h hv f (k+1) (by omega) (by omega)
   · have e:n.take (k+1)=n:=List.take_of_length_le hge
     rw[rest_some (by omega) (e.symm ▸ hv),show k+1=n.length by omega];exact rest_end
theorem Wf.go {t:List Th} (hW:Wf t) {n:Nm} {v:Bool × ByteArray} (hv:T t n=some v):goT t n=0:=by
 rw[goT_rest];exact rest_wf (fun j hj=>wf_take hW 0 n.length v (by omega) (Nat.le_refl _) (by rw[List.take_length];exact hv) j hj) hv n.length 0 (by omega) (by omega)
theorem Mem.drop {w w':World} {N:Nat} {t:List Th} {L:Nm→Nd} (h:Mem w N t L) (hW:Wf t) {p:Nm} {nm:ByteArray} {s:ByteArray} {v:Bool × ByteArray} {i g:Nat} {D:DataW Unit} (hp:T t p=some (true,s)) (hn:T t (p++[nm])=some v) (hi:fi t (p++[nm])=some i)
 (hg:(L p).m=some g) (hA:Ask w' g N (fun x=>if x=nm then none else kb t L p x) D) (hgr:w.grownBy w' (some g)):Mem w' N (dropT t i) L∧Chg (Fp t L) w w'∧∀ i',Fp (dropT t i) L i'→Fp t L i':=by
 have hT:∀ q,T (dropT t i) q=if q=p++[nm] then none else T t q:=T_drop hW.once (by simp) hi
 have hgp:g∈own (L p):=own_mem.2 (.inr (.inl hg));have hgF:Fp t L g:=⟨p,_,hp,hgp⟩
 refine⟨?_,Chg.grown hgr hgF,?_⟩
 · refine h.step (fun q=>q=p∨q=p++[nm]) (Nat.le_refl N) (fun q hq=>?_) (fun q hq=>rfl) (fun q u hu hq i' hi'=>?_) (fun q x u hu hq=>?_) (fun q d' s' hq hv=>?_) (fun q u hq hv=>?_) (fun q r u1 u2 hq hv hu hne' i' hi'=>?_)
   · rw[hT,if_neg (fun e=>hq (.inr e))]
   · exact hgr.block i' (h.lt ⟨q,u,hu,hi'⟩) (fun e=>by
      injection e with e
      exact h.apart q p u _ hu hp (fun e'=>hq (.inl e')) i' hi' (e ▸ hgp))
   · unfold kb
     rw[hT,if_neg (app_ne (fun e=>hq (.inl e)))]
   · rcases hq with rfl | rfl
     · rw[hT,if_neg (fun e=>app_self e.symm),hp] at hv
       injection hv with hv
       injection hv with h1 h2
       subst h1 h2;have hN:=h.nod _ _ _ hp;have ho:=h.one _ _ hp
       have hbg:(L q).b≠g:=fun e=>by
        unfold own at ho;rw[hg] at ho;simp[e] at ho
       refine⟨?_,?_,?_⟩
       · obtain⟨ty,hb⟩:=hN.box
         exact⟨ty,(hgr.block _ hN.blt (fun e=>hbg (by injection e))).trans hb⟩
       · refine hN.row.kept hgr ?_
         cases hA':(L q).A with
         | none=>exact .inl rfl
         | some a=>
           refine .inr (fun e=>?_)
           have:a.block=g:=by simpa [Value.ownBlock] using e
           unfold own at ho;rw[hg,hA'] at ho;simp[this] at ho
       · rw[hg]
         have hf:(fun x=>if x=nm then none else kb t L q x)=kb (dropT t i) L q:=by
          funext x
          unfold kb;rw[hT];by_cases e:x=nm
          · subst e
            rw[if_pos rfl,if_pos rfl];rfl
          · rw[if_neg e,if_neg (fun e'=>e (app_inj e'))]
         rw[← hf]
         exact⟨D,hA⟩
     · rw[hT,if_pos rfl] at hv
       cases hv
   · rcases hq with rfl | rfl
     · exact h.one _ _ hp
     · rw[hT,if_pos rfl] at hv
       cases hv
   · rcases hq with rfl | rfl
     · rw[hT] at hu
       by_cases e:r=q++[nm]
       · rw[if_pos e] at hu
         cases hu
       · rw[if_neg e] at hu
         exact h.apart q r _ u2 hp hu (fun e=>hne' e.symm) i' hi'
     · rw[hT,if_pos rfl] at hv
       cases hv
 · rintro i' ⟨q,u,hu,hi'⟩
   rw[hT] at hu;by_cases e:q=p++[nm]
   · rw[if_pos e] at hu
     cases hu
   · rw[if_neg e] at hu
     exact⟨q,u,hu,hi'⟩
theorem drop_any (w:World) (N b0 i:Nat) (t:List Th) (L:Nm→Nd) (p:ByteArray) (m:Nm) (s:ByteArray) (v:Bool × ByteArray) (hM:Mem w N t L) (hb:(L []).b=b0) (hW:Wf t) (hp:p.size < 4294967281)
 (hs:Pat.spl p=some (m++[s])) (hv:T t (m++[s])=some v) (hi:fi t (m++[s])=some i) :
 Calls Tryz.prog 104 #[.pointer (some ⟨b0,0,none⟩),.string p] w fun e w'=>e = .returned (.tuple #[])∧TrkR w N t L (dropT t i) w':=by
 have HM:=hid hM;have HS:=hid hs;have HV:=hid hv;have HI:=hid hi;clear hM hs hv hi;go_enter Tryz.func104,Tryz.ntmps104
 go_wp2_with fail
 refine (Pat.split_any w p hp).mono ?_;rintro e w1 ⟨hb1,h1⟩;have HB1:=hid hb1;have HM1:=hid (HM.out.keep hb1);clear hb1
 rcases h1 with ⟨l,A,c,hs,rfl,hc,ht⟩ | ⟨hs,rfl⟩
 · obtain rfl:m++[s]=l:=by rw[HS.out] at hs;injection hs
   have HIN:=hid (spl_is hs);have HIm:=hid (show Pat.IsNames m from ⟨by have:=HIN.out.1;simp at this;omega,fun z hz=>HIN.out.2 z (by simp[hz])⟩);have hss:=right_len (HIN.out.2 s (by simp));have HT:=hid ht
   obtain⟨k,hk⟩:∃ k,k=m.length:=⟨_,rfl⟩
   obtain⟨n,hn⟩:∃ n,n=(m++[s]).length:=⟨_,rfl⟩
   rw[← hn];have hml:k≤1000000:=by have:=HIm.out.1;omega
   have HPAR:=hid (Pat.parent_yes w1 A c n k m s HT.out hk.symm (by rw[hn,hk];simp) hml);have HKL:=hid hk;clear hs hc ht hn hk;go_wp2_with fail
   refine HPAR.out.mono ?_;rintro e w2 ⟨g,rfl,_,ho,hb2⟩;have HB2:=hid (HB1.out.trans (hb2.mono HB1.out.size));have HM2:=hid (HM.out.keep HB2.out);have HO:=hid (Pat.Own.txs ho (fun z hz=>by have:=(HIm.out.2 z hz).1.2;rw[Crc.tx_len] at this;omega) (by have:=HKL.out;omega));have HFOL:=hid (follow_any w2 N b0 k k t L (some ⟨g,0,none⟩) m HM2.out hb HO.out HIm.out HKL.out.symm);clear ho hb2 HT HPAR;go_wp2_with fail
   refine HFOL.out.mono ?_;rintro e w3 ⟨rfl,rfl⟩
   obtain⟨s',hup⟩:=hW.up _ _ _ HV.out
   have HUP:=hid hup;rw[gv_yes (hW.go hup),hW.go hup];unfold pv;have HN:=hid (HM2.out.nod _ _ _ hup);have hc2:=HN.out.c2;have hkd:=HN.out.map
   cases hm:(L m).m with
   | none=>
     rw[hm] at hkd
     have:=hkd s
     unfold kb at this;rw[HV.out] at this
     cases this
   | some q=>
     rw[hm] at hkd hc2
     obtain⟨D,hD⟩:=hkd
     obtain⟨w4,D',hdel,hA,hgr⟩:=hD.strike s hss 0
     have HR:=hid (show TrkR w N t L (dropT t i) w4 from by
      obtain⟨q1,q2,q3⟩:=HM2.out.drop hW HUP.out HV.out HI.out hm hA hgr
      exact TrkR.after HB2.out ⟨q2,L,q1.mono (Nat.le_succ N),rfl,fun i' hi'=>.inl (q3 i' hi')⟩)
     clear hup hA hgr hD;generalize L m=z at *;go_wp2
     go_end0
     exact⟨rfl,HR.out⟩
 · rw[HS.out] at hs
   cases hs
end Trk
end
section
open Go.RowKit Go.MapKept
namespace Trk
open Tre (Nm Th fi isDirAt dirT goT goF setT dropT fileT addT zt datT rmdirT kidT kidL fv)
open Pat (Txs)
theorem names_last {n:Nm} (h:n≠[]):∃ m s,n=m++[s]:=by
 rcases List.eq_nil_or_concat n with h' | ⟨m,s,h'⟩
 · exact absurd h' h
 · exact⟨m,s,by rw[h',List.concat_eq_append]⟩
section
variable (w : World) (N b0 : Nat) (t : List Th) (L : Nm → Nd) (p : ByteArray) (hM : Mem w N t L) (hb : (L []).b = b0) (hW : Wf t) (hp : p.size < 4294967281)
include hM hb hW hp
end
theorem kidL_mem {t:List Th} (ht:Once t) {n:Nm} {x:ByteArray}:x∈kidL t n↔(T t (n++[x])).isSome=true:=by
 unfold Tre.kidL;rw[List.mem_map]
 constructor
 · rintro ⟨y,hy,rfl⟩
   obtain⟨hy,hc⟩:=List.mem_filter.1 hy
   obtain⟨h1,h2⟩:=of_decide_eq_true hc
   have e:n++[y.1.getD n.length ByteArray.empty]=y.1:=by
    rw[← h2];have hlt:n.length < y.1.length:=by omega
    rw[List.getD_eq_getElem?_getD,List.length_take,Nat.min_eq_left (by omega),List.getElem?_eq_getElem hlt,Option.getD_some,← List.take_succ_eq_append_getElem hlt,List.take_of_length_le (by omega)]
   rw[e,mem_T ht hy (fun h0=>by rw[h0] at h1;simp at h1)];rfl
 · intro h
   obtain⟨v,hv⟩:=Option.isSome_iff_exists.1 h
   have hm:=T_mem (by simp) hv
   refine⟨_,List.mem_filter.2 ⟨hm,decide_eq_true (by simp)⟩,by simp⟩
theorem kidL_once {t:List Th} (ht:Once t) (n:Nm):(kidL t n).Nodup:=by
 unfold Tre.kidL;refine List.pairwise_map.2 ?_;have h1:(t.filter fun x=>decide (x.1.length=n.length+1∧x.1.take n.length=n)).Pairwise (fun x y=>x.1≠y.1):=(List.pairwise_map.1 ht).sublist List.filter_sublist;refine h1.imp_of_mem fun {a b} ha hb hne e=>hne ?_
 have key:∀ y∈(t.filter fun x=>decide (x.1.length=n.length+1∧x.1.take n.length=n)),y.1=n++[y.1.getD n.length ByteArray.empty]:=fun y hy=>by
  obtain⟨h1,h2⟩:=of_decide_eq_true (List.mem_filter.1 hy).2
  have hlt:n.length < y.1.length:=by omega
  conv=>rhs;rw[← h2]
  rw[List.getD_eq_getElem?_getD,List.length_take,Nat.min_eq_left (by omega),List.getElem?_eq_getElem hlt,Option.getD_some,← List.take_succ_eq_append_getElem hlt,List.take_of_length_le (by omega)]
 rw[key a ha,key b hb,e]
theorem kid_size {t:List Th} (hW:Wf t) {n:Nm} {x:ByteArray} (h:(T t (n++[x])).isSome=true):x.size≤maxLen:=by
 obtain⟨v,hv⟩:=Option.isSome_iff_exists.1 h
 have hm:=T_mem (by simp) hv;exact right_len ((hW.nm _ hm).2.2 x (by simp))
theorem kidT_len (t:List Th) (n:Nm):(kidT t n).length=(kidL t n).length:=by
 rw[Tre.kidT_eq];exact Tre.sorted_len _ _
theorem Nod.kids {w:World} {N:Nat} {t:List Th} {L:Nm→Nd} {n:Nm} {d:Bool} {s:ByteArray} {x:Nd} (hW:Wf t) (h:Nod w N x (kb t L n) d s) (ty:TypeId) :
 (Builtin.len_ #[173] ty #[.map x.m]).run Tryz.prog w = .ok (.int .i64 ((kidL t n).length:Int)) w:=by
 have hk:=h.map
 cases hm:x.m with
 | none=>
   rw[hm] at hk
   have h0:kidL t n=[]:=by
    cases hl:kidL t n with
    | nil=>rfl
    | cons y r=>
      have:=(kidL_mem hW.once).1 (show y∈kidL t n by rw[hl];simp)
      have hy:=hk y;unfold kb at hy
      cases hT:T t (n++[y]) with
      | none=>rw[hT] at this;cases this
      | some v=>rw[hT] at hy;cases hy
   rw[h0];exact Maps.len_nil Tryz.underlying173 ty
 | some g=>
   rw[hm] at hk
   obtain⟨D,hD⟩:=hk
   obtain⟨_,hsz⟩:=hD.keys (kidL_once hW.once n) (fun y=>by rw[kidL_mem hW.once];unfold kb;cases T t (n++[y])<;>simp) (fun y hy=>kid_size hW ((kidL_mem hW.once).1 hy))
   rw[← hsz];exact hD.own.len Tryz.underlying173 ty
end Trk
end
section
open Lib (hid)
open Go.RowKit Go.MapKept
namespace Trk
open Tre (Nm Th fi isDirAt dirT goT goF setT dropT fileT addT zt datT rmdirT kidT kidL fv)
open Pat (Txs)
theorem rmdirT_no {t:List Th} {p:ByteArray} (h:dirE t p≠0):rmdirT t p=(t,dirE t p):=by
 unfold dirE at h;unfold dirE Tre.rmdirT
 cases hs:Pat.spl p with
 | none=>rfl
 | some n=>
   rw[hs] at h;simp only at h ⊢;by_cases hg:goT t n≠0
   · rw[if_pos hg,if_pos hg]
   · rw[if_neg hg] at h ⊢
     rw[if_neg hg];by_cases hd:dirT t n=false
     · rw[if_pos hd,if_pos hd]
     · rw[if_neg hd] at h
       exact absurd rfl h
theorem rmdirT_yes {t:List Th} {p:ByteArray} {n:Nm} {s:ByteArray} (h:IsDir t p n s):rmdirT t p=if n=[] then (t,1) else if 0 < (kidT t n).length then (t,8) else (dropT t (fv t n).toNat,0):=by
 unfold Tre.rmdirT;rw[h.spl];simp only[h.go,h.dir];simp
theorem thing_size:(Tryz.prog.info? 175).map (fun i=>i.size)=some 3:=by kernel_rfl
theorem eql_same (w:World) (b:Nat):(binOp .eql 181 (.pointer (some ⟨b,0,none⟩)) (.pointer (some ⟨b,0,none⟩))).run Tryz.prog w = .ok (.bool true) w:=by
 obtain⟨j,hj,_⟩:=Option.map_eq_some_iff.1 thing_size
 exact run_eql_ptr_same w _ Tryz.underlying181 hj
theorem eql_other {w:World} {N N':Nat} {x y:Nd} {f g:ByteArray→Option Nat} {d d':Bool} {s s':ByteArray} (h:Nod w N x f d s) (h':Nod w N' y g d' s') (hne:x.b≠y.b):(binOp .eql 181 (.pointer (some ⟨x.b,0,none⟩)) (.pointer (some ⟨y.b,0,none⟩))).run Tryz.prog w = .ok (.bool false) w:=by
 obtain⟨j,hj,hs⟩:=Option.map_eq_some_iff.1 thing_size
 obtain⟨t1,h1⟩:=h.box
 obtain⟨t2,h2⟩:=h'.box
 exact run_eql_ptr_other w Tryz.underlying181 hj (by rw[hs];decide) (fun e=>hne (by injection e)) h1 h2
theorem rmdir_any (w:World) (N b0:Nat) (t:List Th) (L:Nm→Nd) (p:ByteArray) (hM:Mem w N t L) (hb:(L []).b=b0) (hW:Wf t) (hp:p.size < 4294967281) :
 Calls Tryz.prog 52 #[.pointer (some ⟨b0,0,none⟩),.string p] w fun e w'=>e = .returned (.int .i64 (rmdirT t p).2)∧TrkR w N t L (rmdirT t p).1 w':=by
 have HM:=hid hM;clear hM;go_enter Tryz.func52,Tryz.ntmps52
 go_wp2_with fail
 refine (dirAt_any w N b0 t L p HM.out hb hp).mono ?_;rintro e w1 ⟨hf,hb1⟩;have HB1:=hid hb1;have HM1:=hid (HM.out.keep hb1);clear hb1
 rcases hf with ⟨he,rfl⟩ | ⟨n,s,hf,rfl⟩
 · have HZ:=hid (rmdirT_no he)
   generalize hg:dirE t p=g at *;clear hg;go_wp2
   refine bodyPost_ret (v:=.int .i64 g) ?_ rfl ⟨by rw[HZ.out],by rw[HZ.out];exact TrkR.same HM.out HB1.out⟩;simp[results,Tryz.results52,go_sem]
 · have HF:=hid hf
   have HZ1:=hid (rmdirT_yes hf);have HN:=hid (HM1.out.nod _ _ _ hf.at');have hc2:=HN.out.c2;clear hf;by_cases h0:n=[]
   · have HZ:=hid (HZ1.out.trans (if_pos h0))
     have heq:(binOp .eql 181 (.pointer (some ⟨(L n).b,0,none⟩)) (.pointer (some ⟨b0,0,none⟩))).run Tryz.prog w1 = .ok (.bool true) w1:=by
      rw[show (L n).b=b0 by rw[h0,hb]];exact eql_same w1 b0
     clear h0;generalize hy:L n=y at *;go_wp2
     refine bodyPost_ret (v:=.int .i64 1) ?_ rfl ⟨by rw[HZ.out],by rw[HZ.out];exact TrkR.same HM.out HB1.out⟩;simp[results,Tryz.results52,go_sem]
   · have HZ2:=hid (HZ1.out.trans (if_neg h0))
     have hbb:(L n).b≠b0:=fun e=>by
      rw[← hb] at e;exact HM1.out.apart n [] _ _ HF.out.at' (T_root t) h0 _ (own_mem.2 (.inl rfl)) (own_mem.2 (.inl e))
     have heq:(binOp .eql 181 (.pointer (some ⟨(L n).b,0,none⟩)) (.pointer (some ⟨b0,0,none⟩))).run Tryz.prog w1 = .ok (.bool false) w1:=by
      rw[← hb] at hbb ⊢;exact eql_other HN.out (HM1.out.nod _ _ _ (T_root t)) hbb
     have hlen:=HN.out.kids hW;have HK:=hid (kidT_len t n)
     obtain⟨m,z,rfl⟩:=names_last h0
     obtain⟨i,hi⟩:=fi_of_T h0 HF.out.at'
     have HD:=hid (drop_any w1 N b0 i t L p m z _ HM1.out hb hW hp HF.out.spl HF.out.at' hi);have HFV:=hid (show (fv t (m++[z])).toNat=i by unfold Tre.fv;rw[hi];rfl);clear h0 hi;generalize hn:m++[z]=n at *;generalize hy:L n=y at *;generalize hk:(kidL t n).length=k at *;by_cases hk0:0 < k
     · have HZ:=hid (HZ2.out.trans (if_pos (by rw[HK.out];exact hk0)))
       go_wp2
       refine bodyPost_ret (v:=.int .i64 8) ?_ rfl ⟨by rw[HZ.out],by rw[HZ.out];exact TrkR.same HM.out HB1.out⟩;simp[results,Tryz.results52,go_sem]
     · have HZ:=hid (HZ2.out.trans (if_neg (by rw[HK.out];exact hk0)))
       go_wp2_with fail
       refine HD.out.mono ?_;rintro e w2 ⟨rfl,hr⟩;have HR:=hid (TrkR.after HB1.out hr);clear hr;go_wp2
       refine bodyPost_ret (v:=.int .i64 0) ?_ rfl ⟨by rw[HZ.out],by rw[HZ.out,HFV.out];exact HR.out⟩;simp[results,Tryz.results52,go_sem]
end Trk
end
section
open Go.RowKit Go.MapKept
namespace Trk
open Tre (Nm Th fi isDirAt dirT goT goF setT dropT fileT addT zt datT rmdirT kidT kidL fv writeT wrT)
open Pat (Txs)
theorem Wf.added {t:List Th} (hW:Wf t) {n:Nm} {d:Bool} (h0:n≠[]) (hI:Pat.IsNames n) (hn:T t n=none) (hup:∃ s,T t (n.take (n.length - 1))=some (true,s)):Wf (t++[(n,d,ByteArray.empty)]):=by
 obtain⟨_,hfi⟩:=T_no hn
 have hT:∀ q,T (t++[(n,d,ByteArray.empty)]) q=if q=n then some (d,ByteArray.empty) else T t q:=T_app (x:=(n,d,ByteArray.empty)) h0 hfi
 have hnm:∀ x∈t,x.1≠n:=fun x hx e=>by
  obtain⟨i,hi⟩:=fi_mem hx
  rw[e,hfi] at hi
  cases hi
 refine⟨?_,fun x hx=>?_,fun p x v hv=>?_,fun p s hp=>?_,fun x hx=>?_⟩
 · unfold Once
   rw[List.map_append,List.nodup_append]
   refine⟨hW.once,by simp,fun a ha b hb e=>?_⟩
   obtain⟨x,hx,rfl⟩:=List.mem_map.1 ha
   have hb:b=n:=by simpa using hb
   exact hnm x hx (e.trans hb)
 · rcases List.mem_append.1 hx with hx | hx
   · exact hW.nm x hx
   · obtain rfl:x=(n,d,ByteArray.empty):=by simpa using hx
     exact⟨h0,hI⟩
 · rw[hT] at hv
   by_cases e:p++[x]=n
   · have ep:n.take (n.length - 1)=p:=by rw[← e];simp
     rw[ep] at hup
     obtain⟨s,hs⟩:=hup
     refine⟨s,?_⟩
     rw[hT,if_neg (fun e'=>app_self (x:=x) (e.trans e'.symm)),hs]
   · rw[if_neg e] at hv
     obtain⟨s,hs⟩:=hW.up _ _ _ hv
     refine⟨s,?_⟩
     rw[hT,if_neg (fun e'=>by rw[e',hn] at hs;cases hs),hs]
 · rw[hT] at hp
   by_cases e:p=n
   · rw[if_pos e] at hp
     injection hp with hp
     injection hp with _ hp
     exact hp.symm
   · rw[if_neg e] at hp
     exact hW.dat p s hp
 · rcases List.mem_append.1 hx with hx | hx
   · exact hW.size x hx
   · obtain rfl:x=(n,d,ByteArray.empty):=by simpa using hx
     show ByteArray.empty.size≤268435456
     decide
theorem Wf.add {t:List Th} (hW:Wf t) (p:ByteArray) (d:Bool):Wf (addT t p d).1:=by
 cases hs:Pat.spl p with
 | none=>rw[Tre.addT_none hs];exact hW
 | some n=>
   by_cases h0:n=[]
   · rw[h0] at hs
     rw[Tre.addT_root hs];exact hW
   · by_cases hg:goT t (n.take (n.length - 1))=0
     · obtain⟨v,hv⟩:=goT_some hg
       have hd:=dirT_T hv
       cases hv1:v.1 with
       | false=>rw[Tre.addT_file hs h0 hg (hd.trans hv1)];exact hW
       | true=>
         cases hf:fi t n with
         | some i=>rw[Tre.addT_there hs h0 hg (hd.trans hv1) hf];exact hW
         | none=>
           rw[Tre.addT_yes hs h0 hg (hd.trans hv1) hf];exact hW.added h0 (spl_is hs) (T_none h0 hf) ⟨v.2,by rw[hv,← hv1]⟩
     · rw[Tre.addT_go hs h0 hg];exact hW
theorem Wf.set {t:List Th} (hW:Wf t) {n:Nm} {i:Nat} {s u:ByteArray} (h0:n≠[]) (hi:fi t n=some i) (hv:T t n=some (false,s)) (hu:u.size≤268435456):Wf (setT t i u):=by
 have hT:=T_set h0 hi hv u
 refine⟨?_,fun x hx=>?_,fun p x v hv'=>?_,fun p s' hp=>?_,fun x hx=>?_⟩
 · unfold Once
   rw[setT_names];exact hW.once
 · have:x.1∈t.map (·.1):=by
    rw[← setT_names t i u];exact List.mem_map.2 ⟨x,hx,rfl⟩
   obtain⟨y,hy,e⟩:=List.mem_map.1 this
   rw[← e];exact hW.nm y hy
 · rw[hT] at hv'
   have key:∃ s,T t p=some (true,s):=by
    by_cases e:p++[x]=n
    · rw[← e] at hv
      exact hW.up _ _ _ hv
    · rw[if_neg e] at hv'
      exact hW.up _ _ _ hv'
   obtain⟨s',hs'⟩:=key
   refine⟨s',?_⟩
   rw[hT,if_neg (fun e=>by rw[e,hv] at hs';cases hs'),hs']
 · rw[hT] at hp
   by_cases e:p=n
   · rw[if_pos e] at hp
     cases hp
   · rw[if_neg e] at hp
     exact hW.dat p s' hp
 · obtain⟨j,hj⟩:=List.getElem?_of_mem hx
   rw[setT_at] at hj
   cases hy:t[j]? with
   | none=>rw[hy] at hj;cases hj
   | some y=>
     rw[hy] at hj;simp only[Option.map_some,Option.some.injEq] at hj;rw[← hj]
     split
     · exact hu
     · exact hW.size y (List.mem_of_getElem? hy)
theorem file_yes {t:List Th} {p:ByteArray} (h:(fileT t p).2=0):∃ n i s,IsFile t p n i s:=by
 by_cases hg:ge t p=0
 · obtain⟨n,⟨d,s⟩,hs,hn,hv,_⟩:=ge_yes (L:=fun _=>⟨0,none,0,none⟩) hg
   cases d with
   | true=>rw[no_file hs hn hv] at h;cases h
   | false=>
     obtain⟨i,hi⟩:=is_file hs hn hv
     exact⟨n,i,s,hi⟩
 · rw[(ge_no (L:=fun _=>⟨0,none,0,none⟩) hg).2] at h
   exact absurd h hg
theorem ovr_size {s:ByteArray} {a:Nat} {bs:List Nat} (h0:bs≠[]):(ovr s a bs).size=max s.size (a+bs.length):=by
 unfold ovr
 have hp:(pad s (a+bs.length)).size=max s.size (a+bs.length):=by
  by_cases h:s.size≤a+bs.length
  · rw[pad_size h];omega
  · rw[pad_none (by omega)];omega
 rw[if_neg h0,Crc.str_size,ovl_len (by rw[Crc.tx_len,hp];omega),Crc.tx_len,hp]
theorem Wf.write {t:List Th} (hW:Wf t) (p:ByteArray) (x:Int) {bs:List Nat} (hb:Crc.Byt bs):Wf (writeT t p x (Crc.str bs)).1:=by
 unfold Tre.writeT;by_cases he:(fileT t p).2≠0
 · rw[if_pos he];exact hW
 · rw[if_neg he]
   obtain⟨n,i,s,hf⟩:=file_yes (by simpa using he)
   obtain⟨f1,f2,_⟩:=fileT_file hf
   rw[f1,f2];by_cases hx:x < 0∨268435456 < x∨268435456 < x+((Crc.str bs).size:Int)
   · rw[if_pos hx];exact hW
   · rw[if_neg hx]
     by_cases h0:(Crc.str bs).size=0
     · rw[if_pos h0];exact hW
     · rw[if_neg h0]
       have hb0:bs≠[]:=fun e=>h0 (by rw[e];rfl)
       obtain⟨a,rfl⟩:∃ a:Nat,x=(a:Int):=⟨x.toNat,by omega⟩
       rw[← ovr_wr hb hb0];refine hW.set hf.ne hf.fi hf.at' ?_;rw[ovr_size hb0];rw[Crc.str_size] at hx
       have:=hW.fsize hf.at'
       omega
end Trk
end
section
open Lib (hid)
open Go.RowKit Go.MapKept
namespace Trk
open Tre (Nm Th fi isDirAt dirT goT goF setT dropT fileT addT zt datT rmdirT kidT kidL fv writeT wrT readT)
open Pat (Txs)
def Own (w0:World) (B N:Nat) (t:List Th) (b:Nat) (w:World):Prop:=∃ L,Mem w N t L∧(L []).b=b∧(∀ i,Fp t L i→B≤i)∧Below B w0 w∧B≤w.heap.size
theorem Own.keep {w0 w w':World} {B N b:Nat} {t:List Th} (h:Own w0 B N t b w) (hb:Below w.heap.size w w'):Own w0 B N t b w':=by
 obtain⟨L,h1,h2,h3,h4,h5⟩:=h
 exact⟨L,h1.keep hb,h2,h3,h4.trans (hb.mono h5),Nat.le_trans h5 hb.size⟩
theorem Own.step {w0 w w':World} {B N b:Nat} {t t':List Th} {L:Nm→Nd} (hF:∀ i,Fp t L i→B≤i) (hb:(L []).b=b) (hB:Below B w0 w) (hs:B≤w.heap.size) (h:TrkR w N t L t' w'):Own w0 B (N+1) t' b w':=by
 obtain⟨h1,L',h2,h3,h4⟩:=h
 refine⟨L',h2,h3.trans hb,fun i hi=>(h4 i hi).elim (hF i) (fun e=>Nat.le_trans hs e),hB.trans (h1.below hs hF),Nat.le_trans hs h1.size⟩
theorem own_new {w w':World} (hm:Mem w' 0 [] (L0 w.heap.size)) (hb:Below w.heap.size w w'):Own w w.heap.size 0 [] w.heap.size w':=by
 refine⟨_,hm,rfl,fun i hi=>?_,hb,hb.size⟩
 obtain⟨p,v,_,hi⟩:=hi
 have:i=w.heap.size:=by simpa [own,L0] using hi
 omega
def t1:List Th:=[([⟨#[97]⟩],true,ByteArray.empty)]
def t2:List Th:=[([⟨#[97]⟩],true,ByteArray.empty),([⟨#[97]⟩,⟨#[98]⟩],false,ByteArray.empty)]
def t3:List Th:=[([⟨#[97]⟩],true,ByteArray.empty),([⟨#[97]⟩,⟨#[98]⟩],false,⟨#[0,0,120]⟩)]
theorem e1:addT [] ⟨#[47,97]⟩ true=(t1,0):=by kernel_rfl
theorem e2:addT t1 ⟨#[47,97,47,98]⟩ false=(t2,0):=by kernel_rfl
theorem e3:writeT t2 ⟨#[47,97,47,98]⟩ 2 (Crc.str [120])=(t3,0):=by kernel_rfl
theorem e4:rmdirT t3 ⟨#[47,97]⟩=(t3,8):=by kernel_rfl
theorem e5:readT t3 ⟨#[47,97,47,98]⟩ 0 9=(⟨#[0,0,120]⟩,0):=by kernel_rfl
theorem w1f:Wf t1:=by
 have:=wf_nil.add ⟨#[47,97]⟩ true
 rw[e1] at this;exact this
theorem w2f:Wf t2:=by
 have:=w1f.add ⟨#[47,97,47,98]⟩ false
 rw[e2] at this;exact this
theorem w3f:Wf t3:=by
 have:=w2f.write ⟨#[47,97,47,98]⟩ 2 (bs:=[120]) (by unfold Crc.Byt;decide)
 rw[e3] at this;exact this
theorem bts_mark (w:World):Crc.Bts (w.alloc (.cells #[.int .u8 120] 5 (1,2))) (some ⟨w.heap.size,0,none⟩) [120]:=by
 refine⟨by unfold Crc.Byt;decide,by decide,fun j hj=>⟨w.heap.size,0,rfl,by simp,?_⟩⟩
 obtain rfl:j=0:=by simpa using hj
 rw[World.cell?_alloc_mark];rfl
section
variable {w0 w : World} {B b : Nat}
theorem mkdir_ex (h:Own w0 B 0 [] b w) :
 Calls Tryz.prog 49 #[.pointer (some ⟨b,0,none⟩),.string ⟨#[47,97]⟩] w fun e w'=>e = .returned (.int .i64 0)∧Own w0 B 1 t1 b w':=by
 obtain⟨L,h1,h2,h3,h4,h5⟩:=h
 have h:=mkdir_any w 0 b [] L ⟨#[47,97]⟩ h1 h2 wf_nil (by decide) (by decide);rw[e1] at h;exact h.mono fun e w' hr=>⟨hr.1,Own.step h3 h2 h4 h5 hr.2⟩
theorem create_ex (h:Own w0 B 1 t1 b w) :
 Calls Tryz.prog 50 #[.pointer (some ⟨b,0,none⟩),.string ⟨#[47,97,47,98]⟩] w fun e w'=>e = .returned (.int .i64 0)∧Own w0 B 2 t2 b w':=by
 obtain⟨L,h1,h2,h3,h4,h5⟩:=h
 have h:=create_any w 1 b t1 L ⟨#[47,97,47,98]⟩ h1 h2 w1f (by decide) (by decide);rw[e2] at h;exact h.mono fun e w' hr=>⟨hr.1,Own.step h3 h2 h4 h5 hr.2⟩
theorem write_ex {w1:World} (c:Nat) (h:Own w0 B 2 t2 b w) (hb:Below w.heap.size w w1) (hB:Crc.Bts w1 (some ⟨w.heap.size,0,none⟩) [120]) :
 Calls Tryz.prog 51 #[.pointer (some ⟨b,0,none⟩),.string ⟨#[47,97,47,98]⟩,.int .i64 2,.slice (some ⟨w.heap.size,0,none⟩) 1 c] w1 fun e w'=>e = .returned (.int .i64 0)∧Own w0 B 3 t3 b w':=by
 obtain⟨L,h1,h2,h3,h4,h5⟩:=h
 have h:=wr_any w1 2 b t2 L ⟨#[47,97,47,98]⟩ 2 1 c _ [120] (h1.keep hb) h2 w2f (by decide) rfl (by decide) hB (fun ad e _ hi=>by injection e with e;subst e;have:=h1.lt hi;simp at this);rw[e3] at h;exact h.mono fun e w' hr=>⟨hr.1,Own.step h3 h2 (h4.trans (hb.mono h5)) (Nat.le_trans h5 hb.size) hr.2⟩
theorem rmdir_ex (h:Own w0 B 3 t3 b w) :
 Calls Tryz.prog 52 #[.pointer (some ⟨b,0,none⟩),.string ⟨#[47,97]⟩] w fun e w'=>e = .returned (.int .i64 8)∧Own w0 B 4 t3 b w':=by
 obtain⟨L,h1,h2,h3,h4,h5⟩:=h
 have h:=rmdir_any w 3 b t3 L ⟨#[47,97]⟩ h1 h2 w3f (by decide);rw[e4] at h;exact h.mono fun e w' hr=>⟨hr.1,Own.step h3 h2 h4 h5 hr.2⟩
theorem read_ex (h:Own w0 B 4 t3 b w) :
 Calls Tryz.prog 53 #[.pointer (some ⟨b,0,none⟩),.string ⟨#[47,97,47,98]⟩,.int .i64 0,.int .i64 9] w fun e w'=>∃ (G:Option Addr) (gc:Nat),e = .returned (.tuple #[.slice G 3 gc,.int .i64 0])∧Crc.Bts w' G [0,0,120]∧Below B w0 w':=by
 obtain⟨L,h1,h2,h3,h4,h5⟩:=h
 have h:=rd_any w 4 b t3 L ⟨#[47,97,47,98]⟩ 0 9 h1 h2 w3f (by decide) (by decide) (by decide);rw[e5] at h;refine h.mono ?_;rintro e w' ⟨G,n,gc,rfl,hn,ho,hb'⟩;obtain rfl:n=3:=by rw[← hn];rfl
 exact⟨G,gc,rfl,Crc.own_bts ho (by unfold Crc.Byt;decide) (by decide),h4.trans (hb'.mono h5)⟩
end
theorem lives_any (w:World):Calls Tryz.prog 25 #[] w fun e w'=>e = .returned (.bool true)∧Below w.heap.size w w':=by
 have H0:=hid (new_any w);have H1:=hid Pat.lives_any;go_enter Tryz.func25,Tryz.ntmps25
 go_wp2_with fail
 refine H0.out.mono ?_;rintro e wa ⟨rfl,hm,hb,_⟩;have HA:=hid (own_new hm hb);clear hm hb H0;generalize hbb:w.heap.size=b at *;have HBB:=hid hbb;clear hbb;go_wp2_with fail
 refine (H1.out _).mono ?_;rintro e wb ⟨rfl,hb⟩;have HB:=hid (HA.out.keep hb);clear hb;go_wp2_with fail
 refine (mkdir_ex HB.out).mono ?_;rintro e wc ⟨rfl,hc⟩;have HC:=hid hc;clear hc;go_wp2_with fail
 refine (create_ex HC.out).mono ?_;rintro e wd ⟨rfl,hd⟩;have HD:=hid hd;clear hd;have hcv:=Crc.conv_new wd #[.int .u8 120] 1 1;have HE:=hid (write_ex 1 HD.out ((Below.refl _ wd).alloc (Nat.le_refl _) (.cells #[.int .u8 120] 5 (1,2))) (bts_mark wd));go_wp2_with fail
 refine HE.out.mono ?_;rintro e wf ⟨rfl,hf⟩;have HF:=hid hf;clear hf;go_wp2_with fail
 refine (rmdir_ex HF.out).mono ?_;rintro e wg ⟨rfl,hg⟩;have HG:=hid hg;clear hg;go_wp2_with fail
 refine (read_ex HG.out).mono ?_;rintro e wh ⟨G,gc2,rfl,hbt,hbh⟩;have HH:=hid hbh;have hcs:=Crc.conv_str gc2 hbt;simp only[show Crc.str [0,0,120]=⟨#[0,0,120]⟩ from rfl,List.length_cons,List.length_nil,Nat.zero_add] at hcs;clear hbt hbh;go_wp2
 go_ret
 exact⟨rfl,by rw[HBB.out];exact HH.out⟩
end Trk
end
section
open Lib (hid)
open Go.RowKit Go.MapKept
namespace Chk
theorem lives_any (w:World) (hT:Bm.Tab w):Calls Tryz.prog 13 #[] w fun r w'=>r = .returned (.bool true)∧Below w.heap.size w w':=by
 have HL18:=hid (Fld.lives_any w hT);have HL13:=hid (fun w'=>Trk.lives_any w');have HN:=hid (fun w'=>Vol.new_ls 100 (by decide) w');clear hT;go_enter Tryz.func13,Tryz.ntmps13
 go_wp2_with fail
 refine HL18.out.mono ?_;rintro r w1 ⟨rfl,hb1⟩;have HB1:=hid hb1;clear hb1;go_wp2_with fail
 refine (HL13.out _).mono ?_;rintro r w2 ⟨rfl,hb2⟩;have HB2:=hid (HB1.out.trans (hb2.mono HB1.out.size));clear hb2;go_wp2_with fail
 refine (HN.out _).mono ?_;rintro r w3 ⟨a,rfl,_,hl,hb3⟩;have HJ:=hid (judge_none hl.up (Vol.vsb_new 100));have HB3:=hid (HB2.out.trans (hb3.mono HB2.out.size));clear hl hb3;go_wp2_with fail
 refine HJ.out.mono ?_;rintro r w4 ⟨rfl,hb4⟩;have HB4:=hid (HB3.out.trans (hb4.mono HB3.out.size));clear hb4;go_wp2
 go_ret
 exact⟨rfl,HB4.out⟩
end Chk
end
section
open Lib (hid)
open Go.RowKit Go.MapKept
namespace Rcv
theorem lives_any (w:World) (hT:Bm.Tab w):Calls Tryz.prog 4 #[] w fun r w'=>r = .returned (.bool true)∧Below w.heap.size w w':=by
 have HN:=hid (Vol.new_ls 100 (by decide) w);have HT:=hid hT;clear hT;go_enter Tryz.func4,Tryz.ntmps4
 go_wp2_with fail
 refine HN.out.mono ?_;rintro r w1 ⟨a,rfl,_,hl,hb⟩;have HB1:=hid hb;have HR:=hid (recover_of (w:=w1) (a:=a) 1 (by decide) (fun w' hb'=>Chk.judge_none (hl.up.keep hb') (Vol.vsb_new 100)));clear hl hb HN;go_wp2_with fail
 refine HR.out.mono ?_;rintro r w2 ⟨rfl,hb⟩;have HX2:=hid (Vol.hb_new w2 #[.int .i64 0,.int .i64 0,.int .i64 0,.int .i64 0,.int .i64 0,.int .i64 0,.int .i64 0] 30);have HB2:=hid ((HB1.out.trans (hb.mono HB1.out.size)).alloc (Nat.le_trans HB1.out.size hb.size) (.cells #[.int .i64 0,.int .i64 0,.int .i64 0,.int .i64 0,.int .i64 0,.int .i64 0,.int .i64 0] 30));clear hb HR HB1;have HL:=hid (Chk.lives_any _ (HT.out.below HB2.out HT.out.lt));go_wp2_with fail
 refine HL.out.mono ?_;rintro r w3 ⟨rfl,hb⟩;have HB3:=hid (HB2.out.trans (hb.mono HB2.out.size));have hx:=HX2.out.keep hb;have x0:=hx.cell 0;have x1:=hx.cell 1;have x2:=hx.cell 2;have x3:=hx.cell 3;have x4:=hx.cell 4;have x5:=hx.cell 5;have x6:=hx.cell 6;have xl:=hx.lt;clear hb HL HB2 hx HX2;go_wp2
 go_ret
 exact⟨rfl,HB3.out⟩
end Rcv
end
section
open Lib (hid)
open Go.RowKit Go.MapKept
namespace Vol
def Em (w:World) (A:Option Addr) (c:Nat):Prop:=(A=none→c=0)∧∀ ad,A=some ad→ad.block < w.heap.size
def Dz (w:World) (a:Nat):Prop:=∃ (G:Option Addr) (c mb:Nat),Em w G c∧Hb w a #[.int .i64 0,.int .i64 0,.bool false,.int .i64 0,.slice G 0 c,.map (some mb),.slice none 0 0] 42
section
variable {w w' : World} {a : Nat}
theorem Em.keep {A:Option Addr} {c:Nat} (h:Em w A c) (hb:Below w.heap.size w w'):Em w' A c:=⟨h.1,fun ad e=>Nat.lt_of_lt_of_le (h.2 ad e) hb.size⟩
theorem Dz.keep (h:Dz w a) (hb:Below w.heap.size w w'):Dz w' a:=by
 obtain⟨G,c,mb,h0,h1⟩:=h
 exact⟨G,c,mb,h0.keep hb,h1.keep hb⟩
theorem clone_zero {A:Option Addr} {c:Nat} (hA:Em w A c):Calls Tryz.prog 15 #[.slice A 0 c] w fun r w'=>∃ (G:Option Addr) (c':Nat),r = .returned (.slice G 0 c')∧Em w' G c'∧Below w.heap.size w w':=by
 cases A with
 | none=>
   obtain rfl:=hA.1 rfl;have hq:∀ W:World,(binOp .eql 22 (.slice none 0 0) (.slice none 0 0)).run Tryz.prog W = .ok (.bool true) W:=fun W=>Lib.run_eql_slice_nil W _ _ _ _ _ _ _ Tryz.underlying22
   clear hA;go_enter Tryz.func15,Tryz.ntmps15
   go_wp2
   go_ret
   exact⟨none,0,rfl,⟨fun _=>rfl,fun _ e=>by cases e⟩,Below.refl _ _⟩
 | some ad=>
   refine (Pm.clone_any (w:=w) ad c [] (hA.2 _ rfl) (by decide) (fun j u hu=>by simp[Pm.u64s] at hu)).mono ?_;rintro r w1 ⟨v,rfl,hown,hoff⟩;have hb:=off_below hoff
   rcases hown.2 with ⟨rfl,_⟩ | ⟨g,cap,cur,rfl,h1,h2,h3,h4,h5,h6⟩
   · exact⟨none,0,rfl,⟨fun _=>rfl,fun _ e=>by cases e⟩,hb⟩
   · exact⟨some ⟨g,0,none⟩,cap,rfl,⟨fun e=>(by cases e),fun ad' e=>by
      injection e with e
      subst e;exact Pm.lt_of_some (by assumption)⟩,hb⟩
theorem of_zero {A:Option Addr} {c:Nat} (hA:Em w A c):Calls Tryz.prog 5 #[.slice A 0 c] w fun r w'=>∃ a,r = .returned (.pointer (some ⟨a,0,none⟩))∧Dz w' a∧Below w.heap.size w w':=by
 have HC:=hid (clone_zero hA);have HO:=hid (fun (w:World) G n m=>@own_room w G n m);have h0:=hA.1;have HA:=hid hA;clear hA
 cases A with
 | none=>
   obtain rfl:=h0 rfl;clear h0;go_enter Tryz.func5,Tryz.ntmps5
   go_wp2_with fail
   refine HC.out.mono ?_;rintro r w1 ⟨G,c',rfl,he,hb⟩;have HE:=hid he;have HB:=hid hb;clear he hb HC;go_wp2_with fail
   refine (HO.out _ _ _ _).mono ?_;rintro r w2 ⟨rfl,rfl⟩;go_wp2
   go_ret;have hal:=((Below.refl w1.heap.size w1).alloc (Nat.le_refl _) (.map #[] 0)).alloc (by simp) (.cells #[.int .i64 0,.int .i64 0,.bool false,.int .i64 0,.slice G 0 c',.map (some w1.heap.size),.slice none 0 0] 42)
   refine⟨_,rfl,⟨G,c',w1.heap.size,HE.out.keep hal,?_⟩,HB.out.trans (hal.mono HB.out.size)⟩
   have:=hb_new (w1.alloc (.map #[] 0)) #[.int .i64 0,.int .i64 0,.bool false,.int .i64 0,.slice G 0 c',.map (some w1.heap.size),.slice none 0 0] 42
   rwa [World.size_alloc] at this
 | some ad=>
   clear h0;go_enter Tryz.func5,Tryz.ntmps5
   go_wp2_with fail
   refine HC.out.mono ?_;rintro r w1 ⟨G,c',rfl,he,hb⟩;have HE:=hid he;have HB:=hid hb;clear he hb HC;go_wp2_with fail
   refine (HO.out _ _ _ _).mono ?_;rintro r w2 ⟨rfl,rfl⟩;go_wp2
   go_ret;have hal:=((Below.refl w1.heap.size w1).alloc (Nat.le_refl _) (.map #[] 0)).alloc (by simp) (.cells #[.int .i64 0,.int .i64 0,.bool false,.int .i64 0,.slice G 0 c',.map (some w1.heap.size),.slice none 0 0] 42)
   refine⟨_,rfl,⟨G,c',w1.heap.size,HE.out.keep hal,?_⟩,HB.out.trans (hal.mono HB.out.size)⟩
   have:=hb_new (w1.alloc (.map #[] 0)) #[.int .i64 0,.int .i64 0,.bool false,.int .i64 0,.slice G 0 c',.map (some w1.heap.size),.slice none 0 0] 42
   rwa [World.size_alloc] at this
theorem len_zero (h:Dz w a):Calls Tryz.prog 57 #[.pointer (some ⟨a,0,none⟩)] w fun r w'=>r = .returned (.int .i64 0)∧w=w':=by
 obtain⟨G,c,mb,_,h1⟩:=h
 have c4:=h1.cell 4;have hl:=h1.lt;clear h1;go_enter Tryz.func57,Tryz.ntmps57
 go_wp2
 go_ret
 exact⟨rfl,rfl⟩
theorem has_zero (h:Dz w a) (k:Int):Calls Tryz.prog 106 #[.pointer (some ⟨a,0,none⟩),.int .i64 k] w fun r w'=>r = .returned (.bool false)∧w=w':=by
 obtain⟨G,c,mb,_,h1⟩:=h
 have c4:=h1.cell 4;have hl:=h1.lt;clear h1;by_cases hk:0≤k
 · go_enter Tryz.func106,Tryz.ntmps106
   go_wp2
   go_ret
   exact⟨congrArg (fun b=>Ending.returned (.bool b)) (decide_eq_false (by omega)),rfl⟩
 · go_enter Tryz.func106,Tryz.ntmps106
   go_wp2
   go_ret
   exact⟨rfl,rfl⟩
theorem load_zero (h:Dz w a) (k:Int):Calls Tryz.prog 54 #[.pointer (some ⟨a,0,none⟩),.int .i64 k] w fun r w'=>r = .returned (.int .u64 0)∧w=w':=by
 have H:=hid (has_zero h k);clear h;go_enter Tryz.func54,Tryz.ntmps54
 go_wp2_with (go_at_call 106;refine H.out.mono ?_;rintro e w' ⟨rfl,rfl⟩)
 go_ret
 exact⟨rfl,rfl⟩
theorem steps_zero (h:Dz w a):Calls Tryz.prog 8 #[.pointer (some ⟨a,0,none⟩)] w fun r w'=>r = .returned (.int .i64 0)∧w=w':=by
 obtain⟨G,c,mb,_,h1⟩:=h
 have c0:=h1.cell 0;have hl:=h1.lt;clear h1;go_enter Tryz.func8,Tryz.ntmps8
 go_wp2
 go_ret
 exact⟨rfl,rfl⟩
theorem words_zero (h:Dz w a):Calls Tryz.prog 10 #[.pointer (some ⟨a,0,none⟩)] w fun r w'=>∃ (G:Option Addr) (c':Nat),r = .returned (.slice G 0 c')∧Em w' G c'∧Below w.heap.size w w':=by
 obtain⟨G,c,mb,he,h1⟩:=h
 have c4:=h1.cell 4;have hl:=h1.lt;have HC:=hid (clone_zero he);clear h1 he;go_enter Tryz.func10,Tryz.ntmps10
 go_wp2_with fail
 refine HC.out.mono ?_;rintro r w1 ⟨G1,c1,rfl,he,hb⟩;have HE:=hid he;have HB:=hid hb;clear he hb;go_wp2
 go_ret
 exact⟨G1,c1,rfl,HE.out,HB.out⟩
theorem read_zero (h:Dz w a):Calls Tryz.prog 26 #[.pointer (some ⟨a,0,none⟩)] w fun r w'=>r = .returned (.tuple #[Sup.gv none,.int .i64 (Sup.ev none)])∧Below w.heap.size w w':=by
 have hr:=Sup.read_core (w:=w) (a:=a) (A:=⟨0,0,false,0,[],[],[]⟩) (by intro x hx;cases hx) (fun W hb k hk=>by
  have e:(Sup.rd (⟨0,0,false,0,[],[],[]⟩:Pm.Abs))[k]?.getD 0=0:=by
   rw[Sup.rd_get _ hk];rfl
  rw[e];exact load_zero (h.keep hb) k) (fun W hb=>len_zero (h.keep hb))
 have e:Sup.ron (Sup.rd (⟨0,0,false,0,[],[],[]⟩:Pm.Abs)) 0=none:=by decide
 have e':Sup.ron (Sup.rd (⟨0,0,false,0,[],[],[]⟩:Pm.Abs)) (([]:List Int).length)=none:=e;rw[e'] at hr;exact hr
theorem open_zero (h:Dz w a):Calls Tryz.prog 16 #[.pointer (some ⟨a,0,none⟩)] w fun r w'=>r = .returned (.tuple #[.pointer none,.int .i64 2])∧Below w.heap.size w w':=by
 have HC:=hid (read_zero h);clear h;simp only[Sup.gv,Sup.ev] at HC;go_enter Tryz.func16,Tryz.ntmps16
 go_wp2_with fail
 refine HC.out.mono ?_;rintro r w1 ⟨rfl,hb⟩;have HB:=hid (hb.alloc hb.size (.cells #[.int .i64 0,.int .i64 0,.int .i64 0] 72));clear hb HC;go_wp2
 go_ret2
 exact⟨rfl,HB.out⟩
end
end Vol
end
section
open Go.RowKit Go.MapKept
namespace Rcv
open Vol (Up Dz Em)
open Chk (jdg)
structure Hnd (w:World) (A:Option Addr) (l:List Nat) (c:Nat):Prop where
 wds:Pack.Wds w A l
 cap:l.length≤c
 nil:A=none→c=0
 blk:∀ ad,A=some ad→ad.block < w.heap.size
theorem Hnd.keep {w w':World} {A:Option Addr} {l:List Nat} {c:Nat} (h:Hnd w A l c) (hb:Below w.heap.size w w'):Hnd w' A l c:=
 ⟨h.wds.keep hb,h.cap,h.nil,fun ad e=>Nat.lt_of_lt_of_le (h.blk ad e) hb.size⟩
noncomputable def jj (l:List Nat):Nat:=if l=[] then 1 else jdg l
structure Dv (w:World) (a:Nat) (l:List Nat):Prop where
 judge:∀ w',Below w.heap.size w w'→Calls Tryz.prog 11 #[.pointer (some ⟨a,0,none⟩)] w' fun r w''=>r = .returned (.int .i64 (jj l:Int))∧Below w'.heap.size w' w''
 steps:∀ w',Below w.heap.size w w'→Calls Tryz.prog 8 #[.pointer (some ⟨a,0,none⟩)] w' fun r w''=>r = .returned (.int .i64 0)∧w'=w''
 words:∀ w',Below w.heap.size w w'→Calls Tryz.prog 10 #[.pointer (some ⟨a,0,none⟩)] w' fun r w''=>∃ (A:Option Addr) (c:Nat),r = .returned (.slice A l.length c)∧Pack.Wds w'' A l∧Below w'.heap.size w' w''
theorem Dv.keep {w w':World} {a:Nat} {l:List Nat} (h:Dv w a l) (hb:Below w.heap.size w w'):Dv w' a l:=
 ⟨fun w'' h'=>h.judge w'' (hb.trans (h'.mono hb.size)),fun w'' h'=>h.steps w'' (hb.trans (h'.mono hb.size)),fun w'' h'=>h.words w'' (hb.trans (h'.mono hb.size))⟩
theorem wds_none (w:World) (A:Option Addr):Pack.Wds w A []:=⟨fun _ h=>by simp at h,by simp,fun j h=>absurd h (by simp)⟩
theorem Dv.of_zero {w:World} {a:Nat} (h:Dz w a):Dv w a [] where
 judge:=fun w' hb=>by
  have:=Chk.judge_bad (w:=w') (a:=a) (fun w'' hb'=>Vol.open_zero ((h.keep hb).keep hb'))
  exact this
 steps:=fun w' hb=>Vol.steps_zero (h.keep hb)
 words:=fun w' hb=>(Vol.words_zero (h.keep hb)).mono fun r w'' ⟨G,c,e,_,hb'⟩=>⟨G,c,e,wds_none _ _,hb'⟩
theorem Dv.of_up {Q:Nat→Prop} {w:World} {a sn:Nat} {l:List Nat} (h:Up Q w a l 0 sn) (h0:l≠[]) (hl:l.length≤8000):Dv w a l where
 judge:=fun w' hb=>by
  unfold jj;rw[if_neg h0];exact Chk.judge_any (h.keep hb) hl
 steps:=fun w' hb=>Vol.up_steps (h.keep hb)
 words:=fun w' hb=>(Vol.up_words (h.keep hb) (List.length_pos_iff.2 h0)).mono fun r w'' ⟨g,c,e,_,hw,hb'⟩=>⟨_,c,e,hw,hb'⟩
theorem of_hnd {w:World} {A:Option Addr} {l:List Nat} {c:Nat} (h:Hnd w A l c) (hl:l.length≤8000) :
 Calls Tryz.prog 5 #[.slice A l.length c] w fun r w'=>∃ a,r = .returned (.pointer (some ⟨a,0,none⟩))∧Dv w' a l∧(l≠[]→Up (fun k=>k < w.heap.size) w' a l 0 0)∧Below w.heap.size w w':=by
 by_cases h0:l=[]
 · subst h0
   refine (Vol.of_zero ⟨h.nil,h.blk⟩).mono ?_;rintro r w' ⟨a,rfl,hd,hb⟩
   exact⟨a,rfl,Dv.of_zero hd,fun e=>absurd rfl e,hb⟩
 · have hp:=List.length_pos_iff.2 h0
   obtain⟨g,o,rfl,hg,_⟩:=h.wds.at' 0 hp
   refine (Vol.of_at g o c l h.wds hg h.cap hp (by omega)).mono ?_;rintro r w' ⟨a,rfl,hu,hb⟩
   exact⟨a,rfl,Dv.of_up hu.up h0 hl,fun _=>hu.up,hb⟩
theorem jj_small {l:List Nat} (h:jj l=0∨jj l=8∨jj l=9):l≠[]∧jj l=jdg l:=by
 by_cases h0:l=[]
 · unfold jj at h
   rw[if_pos h0] at h;omega
 · exact⟨h0,by unfold jj;rw[if_neg h0]⟩
end Rcv
end
section
open Lib (hid)
open Go.RowKit Go.MapKept
namespace Vol
section
variable {Q Q' : Nat → Prop} {w w' : World} {vb a n m s : Nat} {W : List Nat} {st sn : Nat}
theorem record_place (h:Vo Q w vb a n m s W st sn) (w:World):Calls Tryz.prog 32 #[.agg #[.int .i64 n,.int .i64 m,.int .i64 s]] w fun r w'=>r = .returned (.int .i64 8)∧Below w.heap.size w w':=by
 have hp:=Geo.record_any w (n:Int) (m:Int) (s:Int);rw[Geo.plc_yes h.may (by omega) (by omega)] at hp;exact hp
theorem record_in (h:Vo Q w vb a n m s W st sn):8+8≤W.length:=by
 obtain⟨h1,h2,h3⟩:=h.num
 have h4:=Geo.bm_bounds h1 h2;have h5:=Geo.bk_bounds h1 h2;have h6:=Geo.fin_bounds h1 h2 h3;have h7:=h.len;unfold Geo.fin at h7;omega
theorem made_zero (w:World):Pack.Wds (w.alloc (.cells (madeCells #[.int .u64 0] 8) 50)) (some ⟨w.heap.size,0,none⟩) (nts0 8):=by
 refine row_words (n:=8) ((World.rowIs_made w (.int .u64 0) 8 50).congr (fun i _=>?_)) (nts0_len 8) (by omega) (nts0_u64 8)
 have h0:(nts0 8)[i]?.getD 0=0:=by
  unfold nts0;rw[List.getElem?_replicate]
  split<;>rfl
 rw[h0];rfl
theorem clearRecord_any (h:Vo Q w vb a n m s W st sn) (hs:st+16 < 100000000000) :
 Calls Tryz.prog 22 #[.pointer (some ⟨vb,0,none⟩)] w fun r w'=>
  r = .returned (.tuple #[.int .i64 ((dif W 8 (nts0 8)).length:Int),.int .i64 0])∧Vo Q w' vb a n m s (puts W (dif W 8 (nts0 8))) (st+(dif W 8 (nts0 8)).length+(lns (dif W 8 (nts0 8))).length) (sn+(dif W 8 (nts0 8)).length)∧Kq Q w w':=by
 obtain⟨c0,c1,c2,c3⟩:=h.cells
 have hlt:=h.lt;have HP:=hid (record_place h);have H:=hid h;have HIN:=hid (record_in h)
 obtain⟨d,hd⟩:∃ d,d=dif W 8 (nts0 8):=⟨_,rfl⟩
 have HCH:=hid (fun (w':World) (g:Nat) (hb:Below w.heap.size w w') (hr:Pack.Wds w' (some ⟨g,0,none⟩) (nts0 8))=>
  show Calls Tryz.prog 35 #[.agg #[.pointer (some ⟨a,0,none⟩)],.int .i64 8,.slice (some ⟨g,0,none⟩) 8 8] w' fun r w''=>
   r = .returned (.tuple #[.int .i64 (d.length:Int),.int .i64 0])∧Vo Q w'' vb a n m s (puts W d) (st+d.length+(lns d).length) (sn+d.length)∧Kq Q w w'' from by
  have hc:=change_any (H.out.up.keep hb) 8 (some ⟨g,0,none⟩) 8 (nts0 8) hr (by rw[nts0_len];exact HIN.out) (by rw[nts0_len];omega);rw[nts0_len,← hd] at hc;refine hc.mono ?_;rintro r w'' ⟨rfl,hu,hk⟩;have hk2:=(kq_below (Q:=Q) hb).trans hk
  exact⟨rfl,H.out.next hu hk2 (puts_len _ _),hk2⟩)
 have HDD:=hid hd;have hmk:=fun W=>Pm.run_new 8 8 rfl (by omega) W
 clear h hd hs;go_enter Tryz.func22,Tryz.ntmps22
 go_wp2_with fail
 go_region_with (first
  | (go_at_call 32
     refine (HP.out _).mono ?_;rintro r w2 ⟨rfl,hb⟩;have hbw:Below w.heap.size w w2:=by first | exact (bel_d w).trans hb | exact ((bel_d w).alloc (Nat.le_refl _) _).trans (hb.mono (by simp))
     obtain⟨d0,d1,d2,d3⟩:=(H.out.keep hbw).cells
     have hl3:=(H.out.keep hbw).lt
     first | (have HZ:=hid (show Pack.Wds w2 (some ⟨w.heap.size,0,none⟩) (nts0 8) from (made_zero w.drew).keep hb)) | skip
     have HB2:=hid hbw;clear hb hbw)
  | (go_at_call 35
     first
     | (with_reducible refine (HCH.out _ _ HB2.out HZ.out).mono ?_)
     | (with_reducible refine (HCH.out _ _ (HB2.out.alloc HB2.out.size _) (made_zero w2)).mono ?_)
     rintro r w3 ⟨rfl,hv,hk⟩;have HV:=hid hv;have HK:=hid hk
     obtain⟨f0,f1,f2,f3⟩:=hv.cells
     have hl4:=hv.lt;clear hv hk))
 all_goals
  go_wp2
  go_ret2;obtain rfl:=HDD.out
  exact⟨rfl,HV.out,HK.out⟩
end
end Vol
end
section
open Lib (hid)
open Go.RowKit Go.MapKept
namespace Rcv
open Vol (Up Vo Kq vsb rdw kq_below Hb hb_new)
open Clm (Cl Cq scn gi bl ins)
open Chk (jdg)
section
variable {Q : Nat → Prop} {w : World} {vb a n m s st sn : Nat} {W : List Nat}
theorem settle_any (h:Vo Q w vb a n m s W st sn) (k:Nat) (hs:st+1 < 100000000000) :
 Calls Tryz.prog 21 #[.pointer (some ⟨vb,0,none⟩),.int .i64 (k:Int),.int .i64 0] w fun r w'=>r = .returned (.int .i64 0)∧Vo Q w' vb a n m s W (st+stt k) sn∧Kq Q w w':=by
 have HS:=hid (Vol.sync_any h hs);have H:=hid h;clear h hs;by_cases hk:k=0
 · subst hk
   go_enter Tryz.func21,Tryz.ntmps21
   go_wp2
   go_ret
   exact⟨rfl,H.out,kq_below (Below.refl _ _)⟩
 · have hst:=hid (show stt k=1 from if_neg hk)
   have e0:((k:Int) == 0)=false:=beq_eq_false_iff_ne.2 (by omega);have n0:¬ (k:Int)=0:=by omega
   rw[hst.out];clear hk;go_enter Tryz.func21,Tryz.ntmps21
   go_wp2_with fail
   refine HS.out.mono ?_;rintro r w1 ⟨rfl,hv,hk⟩;have HV:=hid hv;have HK:=hid hk;clear hv hk HS;go_wp2
   go_ret
   exact⟨rfl,HV.out,HK.out⟩
theorem set_claims (h:Vo Q w vb a n m s W st sn) {L:List Cl} {p q C:Nat} (hM:Bm.Mp w p q ((n+63) / 64) C n (ins (bl L))) (hs:st+2100 < 100000000000) :
 Calls Tryz.prog 19 #[.pointer (some ⟨vb,0,none⟩),.pointer (some ⟨p,0,none⟩)] w fun r w'=>
  r = .returned (.tuple #[.int .i64 ((da W n m L).length:Int),.int .i64 0])∧Vo Q w' vb a n m s (Wa W n m L) (st+(da W n m L).length+(Vol.lns (da W n m L)).length) (sn+(da W n m L).length)∧Kq Q w w':=by
 obtain⟨h1,h2,_⟩:=h.num
 have h3:=Geo.bm_bounds h1 h2;exact Vol.setBitmap_yes h (bm:=(Geo.bmAt n m).toNat) (by omega) hM (by omega)
theorem up_set7 (h:Up Q w a W st sn) {b:Nat} (hb:Q b) (v0 v1 v2 v3 v4 v5 v6:Value):Up Q (set7 w b v0 v1 v2 v3 v4 v5 v6) a W st sn:=
 ((((((h.put (p:=⟨b,0,none⟩) hb v0).put (p:=⟨b,1,none⟩) hb v1).put (p:=⟨b,2,none⟩) hb v2).put (p:=⟨b,3,none⟩) hb v3).put (p:=⟨b,4,none⟩) hb v4).put (p:=⟨b,5,none⟩) hb v5).put (p:=⟨b,6,none⟩) hb v6
theorem stt_le (k:Nat):stt k≤1:=by unfold stt;split<;>omega
def rep (W:List Nat) (n m:Nat) (L:List Cl) (r:Value):Prop:=
 ∃ x y z t:Int,Rec.gv (Rec.dec (rdw W 8 8)) = .agg #[.int .i64 x,.int .i64 y,.int .i64 z,.int .i64 t] ∧
   r = .agg #[.int .i64 ((da W n m L).length:Int),.int .i64 ((db (Wa W n m L)).length:Int),.int .i64 (Rec.st (rdw W 8 8)),.int .i64 x,.int .i64 y,.int .i64 z,.int .i64 t]
def RcTo (Q:Nat→Prop) (w:World) (a:Nat) (W:List Nat) (st sn:Nat) (r:Ending) (w':World):Prop:=
 ∃ (n m s:Nat) (L:List Cl) (v:Value),vsb W=some (n,m,s)∧scn (gi W n m s) m=some L∧r = .returned (.tuple #[v,.int .i64 0])∧rep W n m L v ∧
   Up Q w' a (Wb (Wa W n m L)) (st+sb W n m L) (sn+(da W n m L).length+(db (Wa W n m L)).length)∧Kq Q w w'
theorem recover_yes (h:Up Q w a W st sn) (hW:W.length≤8000) (hs:st+10000 < 100000000000) (hj:jdg W=8∨jdg W=9) :
 Calls Tryz.prog 6 #[.pointer (some ⟨a,0,none⟩)] w (RcTo Q w a W st sn):=by
 have hn:=fun (w':World) (hb:Below w.heap.size w w')=>needs_of (w:=w') (a:=a) (jdg W) (fun w'' hb'=>Chk.judge_any ((h.keep hb).keep hb') hW)
 rw[decide_eq_true hj,if_pos (by omega)] at hn;have HN:=hid hn;have HB0:=hid ((Below.refl w.heap.size w).alloc (Nat.le_refl _) (.cells #[.int .i64 0,.int .i64 0,.int .i64 0,.int .i64 0,.int .i64 0,.int .i64 0,.int .i64 0] 30));have HX0:=hid (hb_new w #[.int .i64 0,.int .i64 0,.int .i64 0,.int .i64 0,.int .i64 0,.int .i64 0,.int .i64 0] 30)
 obtain⟨n,m,s,L,hv,hL⟩:∃ (n m s:Nat) (L:List Cl),vsb W=some (n,m,s)∧scn (gi W n m s) m=some L:=by
  cases hv:vsb W with
  | none=>
    have:=Chk.jdg_super hv
    omega
  | some q=>
    obtain⟨n,m,s⟩:=q
    cases hL:scn (gi W n m s) m with
    | none=>
      have:=Chk.jdg_claims hv hL
      omega
    | some L=>exact⟨n,m,s,L,rfl,hL⟩
 have HO:=hid (fun w' (hb:Below w.heap.size w w')=>(show Calls Tryz.prog 16 #[.pointer (some ⟨a,0,none⟩)] w' fun r w''=>∃ vb,r = .returned (.tuple #[.pointer (some ⟨vb,0,none⟩),.int .i64 0])∧w'.heap.size≤vb∧Vo (fun k=>(Q k∨(w.heap.size≤k∧k < w'.heap.size))∨(w'.heap.size≤k∧k < w''.heap.size)) w'' vb a n m s W st sn∧Below w'.heap.size w' w'' from by
  have ho:=Vol.open_gen (h.grow hb);unfold Vol.OpTo at ho;rw[hv] at ho;exact ho))
 have HSB:=hid hv;have HSC:=hid hL;have HST:=hid hs
 have HAL:=hid (show (da W n m L).length≤1024∧(Vol.lns (da W n m L)).length≤1024 from by
  obtain⟨h1,_,_⟩:=Vol.vsb_some hv
  obtain⟨k1,_,_⟩:=(Geo.may_num h1).1
  have h2:=da_len (W:=W) (n:=n) (m:=m) (L:=L);have h3:=lns_le (da W n m L)
  omega)
 have HBL:=hid (show (db (Wa W n m L)).length≤8∧(Vol.lns (db (Wa W n m L))).length≤8 from ⟨db_len,Nat.le_trans (lns_le _) db_len⟩)
 obtain⟨g0,g1,g2,g3,hg⟩:=Vol.gv_rec (Rec.dec (rdw W 8 8))
 have HG:=hid hg;have HREP:=hid (show rep W n m L (.agg #[.int .i64 ((da W n m L).length:Int),.int .i64 ((db (Wa W n m L)).length:Int),.int .i64 (Rec.st (rdw W 8 8)),.int .i64 g0,.int .i64 g1,.int .i64 g2,.int .i64 g3]) from ⟨g0,g1,g2,g3,hg,rfl⟩)
 have HRD:=hid (fun (Q':Nat→Prop) (w':World) (vb:Nat) (h:Vo Q' w' vb a n m s W st sn)=>show Calls Tryz.prog 18 #[.pointer (some ⟨vb,0,none⟩)] w' fun r w''=>r = .returned (.tuple #[.agg #[.int .i64 g0,.int .i64 g1,.int .i64 g2,.int .i64 g3],.int .i64 (Rec.st (rdw W 8 8))])∧Below w'.heap.size w' w'' from by
  have:=Vol.vrecord_any h
  rw[hg] at this;exact this)
 obtain⟨S,hS⟩:∃ S,S=Rec.st (rdw W 8 8):=⟨_,rfl⟩
 obtain⟨x,hx⟩:∃ x,x=(da W n m L).length:=⟨_,rfl⟩
 obtain⟨y,hy⟩:∃ y,y=(db (Wa W n m L)).length:=⟨_,rfl⟩
 have HSA:=hid (fun (Q':Nat→Prop) (w':World) (vb p q C:Nat) (h:Vo Q' w' vb a n m s W st sn) (hM:Bm.Mp w' p q ((n+63) / 64) C n (ins (bl L)))=>set_claims h hM (by omega));rw[← hS] at HRD HREP;rw[← hx] at HREP HSA HAL;rw[← hy] at HREP HBL;have HLX:=hid hx;have HLY:=hid hy;have HNQ:=hid (show ¬ Q w.heap.size from fun e=>Nat.lt_irrefl _ (h.lt _ e));clear h hW hs hj hn hv hL hg hS hx hy;go_enter Tryz.func6,Tryz.ntmps6
 go_wp2_with fail
 refine (HN.out _ HB0.out).mono ?_;rintro r w1 ⟨rfl,hb⟩;have HB1:=hid (HB0.out.trans (hb.mono HB0.out.size));have HX1:=hid (HX0.out.keep hb);have HIN:=hid (show w.heap.size < w1.heap.size from HX1.out.lt);clear hb HN HX0 HB0;go_wp2_with fail
 refine (HO.out _ HB1.out).mono ?_;rintro r w2 ⟨vb,rfl,_,hv,hb⟩;have HB2:=hid (HB1.out.trans (hb.mono HB1.out.size));have HX2:=hid (HX1.out.keep hb);have HV2:=hid hv;have HS:=hid (Clm.scan_any hv);clear hb hv HO HB1;go_wp2_with fail
 refine HS.out.mono ?_;rintro r w3 (⟨hs,_⟩ | ⟨L',P,N,C,X,hs,rfl,hc,_,hb⟩)
 · rw[HSC.out] at hs
   cases hs
 obtain rfl:=Option.some.inj (HSC.out.symm.trans hs);have HB3:=hid (HB2.out.trans (hb.mono HB2.out.size));have HX3:=hid (HX2.out.keep hb);have HV3:=hid (HV2.out.keep hb);have HC3:=hid hc;clear hs hc hb HS HV2 HB2;go_wp2_with fail
 refine (HRD.out _ _ _ HV3.out).mono ?_;rintro r w4 ⟨rfl,hb⟩;have hal:=(Below.refl w4.heap.size w4).alloc (Nat.le_refl _) (.cells #[.int .i64 g0,.int .i64 g1,.int .i64 g2,.int .i64 g3] 28);have hm4:=hb_new w4 #[.int .i64 g0,.int .i64 g1,.int .i64 g2,.int .i64 g3] 28;have HMI:=hid (show w4.heap.size < (w4.alloc (.cells #[.int .i64 g0,.int .i64 g1,.int .i64 g2,.int .i64 g3] 28)).heap.size from hm4.lt);have HM4:=hid hm4;have HV4:=hid ((HV3.out.keep hb).grow hal);have hb:=hb.trans (hal.mono hb.size);have HB4:=hid (HB3.out.trans (hb.mono HB3.out.size));have HX4:=hid (HX3.out.keep hb);have HC4:=hid (Clm.cblocks_any (HC3.out.keep hb));clear hal hm4;clear hb HRD HV3 HB3 HC3;go_wp2_with fail
 refine HC4.out.mono ?_;rintro r w5 ⟨p,q,C',rfl,_,_,hM,hb⟩;have HB5:=hid (HB4.out.trans (hb.mono HB4.out.size));have HX5:=hid (HX4.out.keep hb);have HM5:=hid (HM4.out.keep hb);have HSB5:=hid (HSA.out _ _ _ _ _ _ (HV4.out.keep hb) hM);clear hb hM HC4 HV4 HB4 HSA;go_wp2_with fail
 refine HSB5.out.mono ?_;rintro r w6 ⟨rfl,hv,hk⟩;have HV6:=hid hv;have HK6:=hid hk;have HS6:=hid (settle_any hv x (by have:=HAL.out;have:=HST.out;omega));clear hv hk HSB5;go_wp2_with fail
 refine HS6.out.mono ?_;rintro r w7 ⟨rfl,hv,hk⟩;have HK7:=hid (HK6.out.trans hk);have hcl:=Vol.clearRecord_any hv (by have:=HAL.out;have:=HST.out;unfold stt;split<;>omega);have HC7:=hid (show Calls Tryz.prog 22 #[.pointer (some ⟨vb,0,none⟩)] w7 fun r w'=>r = .returned (.tuple #[.int .i64 (y:Int),.int .i64 0])∧Vo _ w' vb a n m s (Wb (Wa W n m L)) (st+x+(Vol.lns (da W n m L)).length+stt x+y+(Vol.lns (db (Wa W n m L))).length) (sn+x+y)∧Kq _ w7 w' from by rw[HLY.out];exact hcl);clear hv hk hcl HS6 HV6 HK6;go_wp2_with fail
 refine HC7.out.mono ?_;rintro r w8 ⟨rfl,hv,hk⟩;have HK8:=hid (HK7.out.trans hk);have HS8:=hid (settle_any hv y (by have:=HAL.out;have:=HBL.out;have:=HST.out;have:=stt_le x;omega));clear hv hk HC7 HK7;go_wp2_with fail
 refine HS8.out.mono ?_;rintro r w9 ⟨rfl,hv,hk⟩;have HK9:=hid (HK8.out.trans hk);have HV9:=hid hv;have hm:=HM5.out.kq HK9.out (.inr ⟨Nat.le_refl _,HMI.out⟩);have m0:=hm.cell 0;have m1:=hm.cell 1;have m2:=hm.cell 2;have m3:=hm.cell 3;have ml:=hm.lt;have hx:=HX5.out.kq HK9.out (.inl (.inl (.inr ⟨Nat.le_refl _,HIN.out⟩)));have x0:=hx.cell 0;have x1:=hx.cell 1;have x2:=hx.cell 2;have x3:=hx.cell 3;have x4:=hx.cell 4;have x5:=hx.cell 5;have x6:=hx.cell 6;have f0:=hx.frozen 0;have f1:=hx.frozen 1;have f2:=hx.frozen 2;have f3:=hx.frozen 3;have f4:=hx.frozen 4;have f5:=hx.frozen 5;have f6:=hx.frozen 6;have xl:=hx.lt;have HX10:=hid (hb_set7 hx (.int .i64 (x:Int)) (.int .i64 (y:Int)) (.int .i64 S) (.int .i64 g0) (.int .i64 g1) (.int .i64 g2) (.int .i64 g3));clear hv hk hx hm HS8 HK8 HX5 HM5;go_wp2
 have y0:=HX10.out.cell 0;have y1:=HX10.out.cell 1;have y2:=HX10.out.cell 2;have y3:=HX10.out.cell 3;have y4:=HX10.out.cell 4;have y5:=HX10.out.cell 5;have y6:=HX10.out.cell 6;refine bodyPost_ret (v:=.tuple #[.agg #[.int .i64 (x:Int),.int .i64 (y:Int),.int .i64 S,.int .i64 g0,.int .i64 g1,.int .i64 g2,.int .i64 g3],.int .i64 0]) ?_ rfl ?_
 · simp[results,Tryz.results6,go_sem,y0,y1,y2,y3,y4,y5,y6]
 have hks:=kq_set7 (w:=w9) HNQ.out (.int .i64 (x:Int)) (.int .i64 (y:Int)) (.int .i64 S) (.int .i64 g0) (.int .i64 g1) (.int .i64 g2) (.int .i64 g3)
 refine⟨n,m,s,L,_,HSB.out,HSC.out,rfl,HREP.out,?_,((kq_below HB5.out).trans (HK9.out.sub fun k hk=>.inl (.inl (.inl hk)))).trans hks⟩
 have hu:=up_set7 HV9.out.up (b:=w.heap.size) (.inl (.inl (.inr ⟨Nat.le_refl _,HIN.out⟩))) (.int .i64 (x:Int)) (.int .i64 (y:Int)) (.int .i64 S) (.int .i64 g0) (.int .i64 g1) (.int .i64 g2) (.int .i64 g3);have hu:=hu.sub (Q':=Q) fun k hk=>.inl (.inl (.inl hk))
 rw[← HLX.out,← HLY.out]
 have e:st+sb W n m L=st+x+(Vol.lns (da W n m L)).length+stt x+y+(Vol.lns (db (Wa W n m L))).length+stt y:=by
  unfold sb;rw[← HLX.out,← HLY.out];omega
 rw[e];exact hu
end
end Rcv
end
section
open Lib (hid)
open Go.RowKit Go.MapKept
namespace Rcv
open Vol (Up Kq)
open Chk (jdg)
section
variable {w : World} {A : Option Addr} {l : List Nat} {c : Nat}
theorem law_many (hT:Bm.Tab w) (hl:400 < l.length):Calls Tryz.prog 3 #[.slice A l.length c] w fun r w'=>r = .returned (.bool true)∧Below w.heap.size w w':=by
 have HT:=hid hT;have HL:=hid (lives_any w hT)
 obtain⟨k,hk⟩:∃ k,k=l.length:=⟨_,rfl⟩
 rw[← hk] at hl ⊢;have e1:(400:Int) < (k:Int):=by omega
 clear hT hk;go_enter Tryz.func3,Tryz.ntmps3
 go_wp2_with fail
 refine HL.out.mono ?_;rintro r w1 ⟨rfl,hb⟩;have HB1:=hid hb;clear hb HL;have HL:=hid (lives_any w1 (HT.out.below HB1.out HT.out.lt));go_wp2_with fail
 refine HL.out.mono ?_;rintro r w2 ⟨rfl,hb⟩;have HB2:=hid (HB1.out.trans (hb.mono HB1.out.size));clear hb HL HB1;go_wp2
 go_ret
 exact⟨rfl,HB2.out⟩
theorem law_bad (h:Hnd w A l c) (hT:Bm.Tab w) (hl:l.length≤400) (hj:¬ (jj l=0∨jj l=8∨jj l=9)):Calls Tryz.prog 3 #[.slice A l.length c] w fun r w'=>r = .returned (.bool true)∧Below w.heap.size w w':=by
 have HL:=hid (lives_any w hT);have HO:=hid (fun w' (hb:Below w.heap.size w w')=>of_hnd (h.keep hb) (show l.length≤8000 by omega))
 have HR:=hid (fun (w':World) (a:Nat) (hd:Dv w' a l)=>(show Calls Tryz.prog 6 #[.pointer (some ⟨a,0,none⟩)] w' fun r w''=>r = .returned (.tuple #[.agg #[.int .i64 0,.int .i64 0,.int .i64 0,.int .i64 0,.int .i64 0,.int .i64 0,.int .i64 0],.int .i64 2])∧Below w'.heap.size w' w'' from by
  have hr:=recover_of (jj l) (by omega) hd.judge;rw[if_neg (by omega)] at hr;exact hr))
 have HN:=hid (fun (w':World) (a:Nat) (hd:Dv w' a l)=>(show Calls Tryz.prog 7 #[.pointer (some ⟨a,0,none⟩)] w' fun r w''=>r = .returned (.tuple #[.bool false,.int .i64 2])∧Below w'.heap.size w' w'' from by
  have hr:=needs_of (jj l) hd.judge;rw[if_neg (by omega),decide_eq_false (by omega)] at hr;exact hr))
 have HW:=hid (fun (w':World) (B:Option Addr) (d:Nat) (hb:Below w.heap.size w w') (hB:Pack.Wds w' B l)=>(show Calls Tryz.prog 9 #[.slice B l.length d,.slice A l.length c] w' fun r w''=>r = .returned (.bool true)∧Below w'.heap.size w' w'' from by
  refine (Pack.same_any B A d c l l hB (h.wds.keep hb)).mono ?_;rintro r w'' ⟨rfl,n,rfl⟩;rw[decide_eq_true rfl]
  exact⟨rfl,Bm.below_drewN (Below.refl _ _) n⟩))
 have HDW:=hid (fun (w':World) (a:Nat) (hd:Dv w' a l)=>hd.words w' (Below.refl _ _));have HDS:=hid (fun (w':World) (a:Nat) (hd:Dv w' a l)=>hd.steps w' (Below.refl _ _))
 obtain⟨k,hk⟩:∃ k,k=l.length:=⟨_,rfl⟩
 rw[← hk] at hl HO HW HDW ⊢;have e1:¬ (400:Int) < (k:Int):=by omega
 clear hT h hk hj;go_enter Tryz.func3,Tryz.ntmps3
 go_wp2_with fail
 refine HL.out.mono ?_;rintro r w1 ⟨rfl,hb⟩;have HB1:=hid hb;clear hb HL;go_wp2_with fail
 refine (HO.out _ HB1.out).mono ?_;rintro r w2 ⟨a,rfl,hd,_,hb⟩;have HB2:=hid (HB1.out.trans (hb.mono HB1.out.size));have HD2:=hid hd;clear hb hd HB1;go_wp2_with fail
 refine (HR.out _ _ HD2.out).mono ?_;rintro r w3 ⟨rfl,hb⟩;have hb:=hb.trans (((Below.refl w3.heap.size w3).alloc (Nat.le_refl _) (.cells #[.int .i64 0,.int .i64 0,.int .i64 0,.int .i64 0,.int .i64 0,.int .i64 0,.int .i64 0] 30)).mono hb.size);have HB3:=hid (HB2.out.trans (hb.mono HB2.out.size));have HD3:=hid (HD2.out.keep hb);clear hb HB2 HD2 HR;go_wp2_with fail
 refine (HO.out _ HB3.out).mono ?_;rintro r w4 ⟨b,rfl,hd,_,hb⟩;have HB4:=hid (HB3.out.trans (hb.mono HB3.out.size));have HD4:=hid (HD3.out.keep hb);have HE4:=hid hd;clear hb hd HB3 HD3 HO;go_wp2_with fail
 refine (HN.out _ _ HE4.out).mono ?_;rintro r w5 ⟨rfl,hb⟩;have HB5:=hid (HB4.out.trans (hb.mono HB4.out.size));have HD5:=hid (HD4.out.keep hb);clear hb HB4 HD4 HE4 HN;go_wp2_with fail
 refine (HDS.out _ _ HD5.out).mono ?_;rintro r w6 ⟨rfl,rfl⟩;clear HDS;go_wp2_with fail
 refine (HDW.out _ _ HD5.out).mono ?_;rintro r w6 ⟨G,d,rfl,hw,hb⟩;have HB6:=hid (HB5.out.trans (hb.mono HB5.out.size));have HW6:=hid (HW.out _ _ d HB6.out hw);clear hb hw HB5 HD5 HDW HW;go_wp2_with fail
 refine HW6.out.mono ?_;rintro r w7 ⟨rfl,hb⟩;have HB7:=hid (HB6.out.trans (hb.mono HB6.out.size));clear hb HB6 HW6;go_wp2
 go_ret
 exact⟨rfl,HB7.out⟩
theorem law_image (h:Hnd w A l c) (hT:Bm.Tab w) (hl:l.length≤400) (hj:jj l=0):Calls Tryz.prog 3 #[.slice A l.length c] w fun r w'=>r = .returned (.bool true)∧Below w.heap.size w w':=by
 have HL:=hid (lives_any w hT);have HO:=hid (fun w' (hb:Below w.heap.size w w')=>of_hnd (h.keep hb) (show l.length≤8000 by omega))
 have HR:=hid (fun (w':World) (a:Nat) (hd:Dv w' a l)=>(show Calls Tryz.prog 6 #[.pointer (some ⟨a,0,none⟩)] w' fun r w''=>r = .returned (.tuple #[.agg #[.int .i64 0,.int .i64 0,.int .i64 0,.int .i64 0,.int .i64 0,.int .i64 0,.int .i64 0],.int .i64 0])∧Below w'.heap.size w' w'' from by
  have hr:=recover_of (jj l) (by omega) hd.judge;rw[if_pos hj] at hr;exact hr))
 have HN:=hid (fun (w':World) (a:Nat) (hd:Dv w' a l)=>(show Calls Tryz.prog 7 #[.pointer (some ⟨a,0,none⟩)] w' fun r w''=>r = .returned (.tuple #[.bool false,.int .i64 0])∧Below w'.heap.size w' w'' from by
  have hr:=needs_of (jj l) hd.judge;rw[if_pos (.inl hj),decide_eq_false (by omega)] at hr;exact hr))
 have HDJ:=hid (fun (w':World) (a:Nat) (hd:Dv w' a l)=>(show Calls Tryz.prog 11 #[.pointer (some ⟨a,0,none⟩)] w' fun r w''=>r = .returned (.int .i64 0)∧Below w'.heap.size w' w'' from by
  have hr:=hd.judge w' (Below.refl _ _);rw[hj] at hr;exact hr))
 have HDS:=hid (fun (w':World) (a:Nat) (hd:Dv w' a l)=>hd.steps w' (Below.refl _ _))
 obtain⟨k,hk⟩:∃ k,k=l.length:=⟨_,rfl⟩
 rw[← hk] at hl HO ⊢;have e1:¬ (400:Int) < (k:Int):=by omega
 clear hT h hk hj;go_enter Tryz.func3,Tryz.ntmps3
 go_wp2_with fail
 refine HL.out.mono ?_;rintro r w1 ⟨rfl,hb⟩;have HB1:=hid hb;clear hb HL;go_wp2_with fail
 refine (HO.out _ HB1.out).mono ?_;rintro r w2 ⟨a,rfl,hd,_,hb⟩;have HB2:=hid (HB1.out.trans (hb.mono HB1.out.size));have HD2:=hid hd;clear hb hd HB1;go_wp2_with fail
 refine (HR.out _ _ HD2.out).mono ?_;rintro r w3 ⟨rfl,hb⟩;have hb:=hb.trans (((Below.refl w3.heap.size w3).alloc (Nat.le_refl _) (.cells #[.int .i64 0,.int .i64 0,.int .i64 0,.int .i64 0,.int .i64 0,.int .i64 0,.int .i64 0] 30)).mono hb.size);have HB3:=hid (HB2.out.trans (hb.mono HB2.out.size));have HD3:=hid (HD2.out.keep hb);clear hb HB2 HD2 HR;go_wp2_with fail
 refine (HO.out _ HB3.out).mono ?_;rintro r w4 ⟨b,rfl,hd,_,hb⟩;have HB4:=hid (HB3.out.trans (hb.mono HB3.out.size));have HD4:=hid (HD3.out.keep hb);have HE4:=hid hd;clear hb hd HB3 HD3 HO;go_wp2_with fail
 refine (HN.out _ _ HE4.out).mono ?_;rintro r w5 ⟨rfl,hb⟩;have HB5:=hid (HB4.out.trans (hb.mono HB4.out.size));have HD5:=hid (HD4.out.keep hb);clear hb HB4 HD4 HE4 HN;go_wp2_with fail
 refine (HDJ.out _ _ HD5.out).mono ?_;rintro r w6 ⟨rfl,hb⟩;have HB6:=hid (HB5.out.trans (hb.mono HB5.out.size));have HD6:=hid (HD5.out.keep hb);clear hb HB5 HD5 HDJ;go_wp2_with fail
 refine (HDS.out _ _ HD6.out).mono ?_;rintro r w7 ⟨rfl,rfl⟩;go_wp2
 go_ret
 exact⟨rfl,HB6.out⟩
theorem law_sound (h:Hnd w A l c) (hT:Bm.Tab w) (hl:l.length≤400) (hj:jj l=8∨jj l=9):Calls Tryz.prog 3 #[.slice A l.length c] w fun r w'=>r = .returned (.bool true)∧Below w.heap.size w w':=by
 obtain⟨hne,hjj⟩:=jj_small (l:=l) (by omega)
 have HL:=hid (lives_any w hT);have HO:=hid (fun w' (hb:Below w.heap.size w w')=>of_hnd (h.keep hb) (show l.length≤8000 by omega));have HR:=hid (fun (w':World) (a:Nat) (Q:Nat→Prop) (hu:Up Q w' a l 0 0)=>recover_yes hu (by omega) (by decide) (by rw[← hjj];exact hj))
 have HN:=hid (fun (w':World) (a:Nat) (hd:Dv w' a l)=>(show Calls Tryz.prog 7 #[.pointer (some ⟨a,0,none⟩)] w' fun r w''=>r = .returned (.tuple #[.bool true,.int .i64 0])∧Below w'.heap.size w' w'' from by
  have hr:=needs_of (jj l) hd.judge;rw[if_pos (.inr hj),decide_eq_true hj] at hr;exact hr))
 have HNE:=hid hne;have HJJ:=hid (show 7 < jdg l by rw[← hjj];omega)
 obtain⟨k,hk⟩:∃ k,k=l.length:=⟨_,rfl⟩
 have HLK:=hid (show l.length≤400 from hl);rw[← hk] at hl HO ⊢;have e1:¬ (400:Int) < (k:Int):=by omega
 clear hT h hk hj hne hjj;go_enter Tryz.func3,Tryz.ntmps3
 go_wp2_with fail
 refine HL.out.mono ?_;rintro r w1 ⟨rfl,hb⟩;have HB1:=hid hb;clear hb HL;go_wp2_with fail
 refine (HO.out _ HB1.out).mono ?_;rintro r w2 ⟨a,rfl,_,hu,hb⟩;have HB2:=hid (HB1.out.trans (hb.mono HB1.out.size));have HU2:=hid (hu HNE.out);clear hb hu;go_wp2_with fail
 refine (HR.out _ _ _ HU2.out).mono ?_;rintro r w3 ⟨n,m,s,L,v,hv,hL,rfl,⟨x,y,z,t,_,rfl⟩,hu,hk⟩;have HB3:=hid (HB2.out.trans ((hk.below (B:=w.heap.size) HB2.out.size (fun k hk=>Nat.lt_of_lt_of_le hk HB1.out.size))))
 obtain⟨S,hS⟩:∃ S,S=0+sb l n m L:=⟨_,rfl⟩
 have hp:=some_b hv hL HJJ.out;have h0:0 < S:=by rw[hS];unfold sb;omega
 rw[← hS] at hu
 have HJ3:=hid (fun w' (hb:Below w3.heap.size w3 w')=>(show Calls Tryz.prog 11 #[.pointer (some ⟨a,0,none⟩)] w' fun r w''=>r = .returned (.int .i64 0)∧Below w'.heap.size w' w'' from by
  have hr:=Chk.judge_any (hu.keep hb) (by rw[wb_len,wa_len];have:=HLK.out;omega);rw[jdg_b hv hL (.inr HJJ.out)] at hr;exact hr))
 have HS3:=hid (fun w' (hb:Below w3.heap.size w3 w')=>Vol.up_steps (hu.keep hb));have e2:(0:Int) < (S:Int):=by omega
 generalize (da l n m L).length=X1;generalize (db (Wa l n m L)).length=X2;generalize Rec.st (Vol.rdw l 8 8)=X3;have hal:=(Below.refl w3.heap.size w3).alloc (Nat.le_refl _) (.cells #[.int .i64 (X1:Int),.int .i64 (X2:Int),.int .i64 X3,.int .i64 x,.int .i64 y,.int .i64 z,.int .i64 t] 30);have HA3:=hid hal;have HB3:=hid (HB3.out.trans (hal.mono HB3.out.size));clear hk hv hL hu hS hp hal HR HU2 HB2 HB1;go_wp2_with fail
 refine (HO.out _ HB3.out).mono ?_;rintro r w4 ⟨b,rfl,hd,_,hb⟩;have HB4:=hid (HB3.out.trans (hb.mono HB3.out.size));have HC4:=hid (HA3.out.trans (hb.mono HA3.out.size));have HE4:=hid hd;clear hb hd HB3 HO HA3;go_wp2_with fail
 refine (HN.out _ _ HE4.out).mono ?_;rintro r w5 ⟨rfl,hb⟩;have HB5:=hid (HB4.out.trans (hb.mono HB4.out.size));have HC5:=hid (HC4.out.trans (hb.mono HC4.out.size));clear hb HB4 HC4 HE4 HN;go_wp2_with fail
 refine (HJ3.out _ HC5.out).mono ?_;rintro r w6 ⟨rfl,hb⟩;have HB6:=hid (HB5.out.trans (hb.mono HB5.out.size));have HC6:=hid (HC5.out.trans (hb.mono HC5.out.size));clear hb HB5 HC5 HJ3;go_wp2_with fail
 refine (HS3.out _ HC6.out).mono ?_;rintro r w7 ⟨rfl,rfl⟩;go_wp2
 go_ret
 exact⟨rfl,HB6.out⟩
theorem any_law (h:Hnd w A l c) (hT:Bm.Tab w):Calls Tryz.prog 3 #[.slice A l.length c] w fun r w'=>r = .returned (.bool true)∧Below w.heap.size w w':=by
 by_cases hl:l.length≤400
 · by_cases h0:jj l=0
   · exact law_image h hT hl h0
   by_cases h1:jj l=8∨jj l=9
   · exact law_sound h hT hl h1
   · exact law_bad h hT hl (by omega)
 · exact law_many hT (by omega)
end
end Rcv
end
section
open Go.RowKit Go.MapKept Go.ChangeShapes Go.WideShapes Go.Deep
namespace Pack
section
variable {H : Type} {enc : TypeId × Value → H} {W : World} {fuel : Nat} {sp : Nat → Bool} {held : Bool}
theorem cells_u64:Tryz.prog.cellsOf 50=1:=by kernel_rfl
theorem u64_bounds {k:Int} (h:(Lit.int .u64 k).wf=true):0≤k∧k < 18446744073709551616:=by
 have:=bounds_u64 h
 omega
theorem cell_lt {b o:Nat} {v:Value} (h:W.cell? ⟨b,o,none⟩=some v):b < W.heap.size:=by
 rcases Nat.lt_or_ge b W.heap.size with h1 | h1
 · exact h1
 · simp[World.cell?,Array.getElem?_eq_none h1] at h
theorem open_ones {t e:TypeId} {v:Value} {x:DataW H × List MemPlace} {α:Type} (d:α) (R:α→Value→Prop) (ht:Tryz.prog.underlying t=some (.slice e)) (h1:Tryz.prog.cellsOf e=1)
 (hR:∀ n u y,DataW.trod enc Tryz.prog W 0 sp held n e [u]=some y→∃ a,R a u)
 (h:DataW.trod enc Tryz.prog W 0 sp held fuel t [v]=some x) :
 ∃ (A:Option Addr) (l:List α) (c:Nat),v = .slice A l.length c∧(A=none→c=0)∧l.length≤9223372036854775807∧∀ j (hj:j < l.length),∃ b o u,A=some ⟨b,o,none⟩∧b < W.heap.size∧W.cell? ⟨b,o+j,none⟩=some u∧R l[j] u:=by
 rcases open_slice1 ht h1 h with ⟨hcs,_⟩ | ⟨a,len,cap,m,n,V,D,Pl,hcs,_,hl,hm,hmm,_,hi⟩
 · simp at hcs
   exact⟨none,[],0,hcs,fun _=>rfl,by simp,fun j hj=>absurd hj (by simp)⟩
 · simp at hcs
   have hlen:len≤9223372036854775807:=by unfold maxLen at hm;omega
   have hjm:∀ i,i < len→i < m:=fun i hi=>by rw[hmm];split<;>omega
   have one:∀ i,∃ a':α,i < len→R a' (V i):=fun i=>by
    by_cases hil:i < len
    · obtain⟨a',ha⟩:=hR _ _ _ (hi i (hjm i hil)).2
      exact⟨a',fun _=>ha⟩
    · exact⟨d,fun h=>absurd h hil⟩
   obtain⟨f,hf⟩:=Classical.skolem.1 one
   refine⟨some a,(List.range len).map f,cap,by rw[List.length_map,List.length_range];exact hcs,(fun h=>by cases h),by rw[List.length_map,List.length_range];exact hlen,fun j hj=>?_⟩
   rw[List.length_map,List.length_range] at hj;have hc0:=(hi 0 (hjm 0 (by omega))).1
   obtain⟨b,o,spot⟩:=a
   have hspot:spot=none:=by simpa [Addr.add] using World.cell?_spot hc0
   subst hspot;have hc:=(hi j (hjm j hj)).1;rw[add_plain] at hc
   refine⟨b,o,V j,rfl,cell_lt hc,hc,?_⟩
   rw[List.getElem_map,List.getElem_range];exact hf j hj
theorem open_words {v:Value} {x:DataW H × List MemPlace} (h:DataW.trod enc Tryz.prog W 0 sp held fuel 22 [v]=some x):∃ A l c,v = .slice A l.length c∧Wds W A l:=by
 obtain⟨A,l,c,e,hc,hl,ha⟩:=open_ones (α:=Nat) 0 (fun k u=>u = .int .u64 (k:Int)∧k < 18446744073709551616) Tryz.underlying22 cells_u64 (fun n u y hu=>by
  obtain⟨k,e,_,hw⟩:=DataW.trod_int Tryz.underlying50 hu
  simp at e;have hb:=u64_bounds hw
  obtain⟨q,rfl⟩:=Int.eq_ofNat_of_zero_le hb.1
  exact⟨q,e,by omega⟩) h
 refine⟨A,l,c,e,fun b hb=>?_,hl,fun j hj=>?_⟩
 · obtain⟨j,hj,rfl⟩:=List.getElem_of_mem hb
   obtain⟨_,_,_,_,_,_,_,h2⟩:=ha j hj
   exact h2
 · obtain⟨b,o,u,e,h1,h2,rfl,_⟩:=ha j hj
   exact⟨b,o,e,h1,h2⟩
end
end Pack
theorem laidOut_try:laidOutB Tryz.prog=true:=by kernel_rfl
theorem ownKnob_none:ownKnob Tryz.prog.godebug=none:=by kernel_rfl
end
section
open Go.ChangeShapes Go.WideShapes Go.ChangeAt Go.RowKit Go.Deep
namespace Rcv
section
variable {H : Type} {enc : TypeId × Value → H} {W : World} {sp : Nat → Bool} {held : Bool} {r : Reach} {b0 : Nat} {v : Value} {d : DataW H} {p : List MemPlace}
theorem open_hnd (hv:Value.okWide Tryz.prog W r b0 22 v) (h:DataW.Trod enc Tryz.prog W 0 sp held 22 v d p):∃ y:Option Addr × List Nat × Nat,v = .slice y.1 y.2.1.length y.2.2∧Hnd W y.1 y.2.1 y.2.2:=by
 obtain⟨A0,n0,c0,rfl⟩:=okWide_slice Tryz.underlying22 hv
 obtain⟨fuel,hf⟩:=h
 obtain⟨A,l,c,e,hw⟩:=Pack.open_words hf
 injection e with e1 e2 e3
 subst e1 e2 e3
 refine⟨(A0,l,c0),rfl,hw,?_,?_,?_⟩
 · simp only[Value.okWide,Tryz.underlying22,Cell.okWide] at hv
   cases A0 with
   | none=>cases hl:l.length<;>cases c0<;>simp_all [Cell.ok]
   | some ad=>simp_all [Cell.ok]
 · rintro rfl
   simp only[Value.okWide,Tryz.underlying22,Cell.okWide] at hv
   cases hl:l.length<;>cases c0<;>simp_all [Cell.ok]
 · rintro ad rfl
   simp only[Value.okWide,Tryz.underlying22,Cell.okWide,Cell.ok] at hv
   obtain⟨_,_,_,_,row,cells,hs,_⟩:=hv
   unfold World.shape? at hs
   rcases Nat.lt_or_ge ad.block W.heap.size with h1 | h1
   · exact h1
   · rw[Array.getElem?_eq_none h1] at hs
     cases hs
end
end Rcv
end
section
open Go.ChangeShapes Go.WideShapes Go.ChangeAt Go.RowKit
abbrev lst : List (String × DataW Unit) := [("math/bits.deBruijn64tab", Rows.laid_math_bits_deBruijn64tab), ("unicode/utf8.acceptRanges", Rows.laid_unicode_utf8_acceptRanges), ("unicode/utf8.first", Rows.laid_unicode_utf8_first)]
theorem tab_global : Tryz.prog.globalNamed "math/bits.deBruijn64tab" = some 0 := by kernel_rfl
theorem tab_type:(Tryz.prog.globals[0]?).map (·.type)=some 317:=by kernel_rfl
theorem tab_cells:Tryz.prog.cellsOf 5=1:=by kernel_rfl
theorem tab_datum:(Rows.laid_math_bits_deBruijn64tab:DataW Unit) = .agg (Lib.deBruijn64tab.map fun k:Nat=>.lit (.int .u8 (k:Int))):=rfl
theorem door_met (os:Os) (args:Array Value):laidMetH Tryz.prog lst ((World.laidAll Tryz.prog os lst).forCall (fun _ _=>0) ⟨#[],args,[]⟩).memory:=by
 rw[MakeChecks.laidMetH_plain _ _ _ (by kernel_rfl)];exact laidMet_laidAll _ (by kernel_rfl) (by kernel_rfl)
theorem tab_of_laid {W:World} (h:laidMetH Tryz.prog lst W):Bm.Tab W:=by
 rw[MakeChecks.laidMetH_plain _ _ _ (by kernel_rfl)] at h
 obtain⟨ps,⟨g0,t0,cs0,f0,p0,q0,hg0,ht0,hv0,hd0,_⟩,_⟩:=h
 obtain rfl:=Option.some.inj (tab_global.symm.trans hg0);obtain rfl:=Option.some.inj (tab_type.symm.trans ht0)
 obtain⟨xs,m1,rfl,hx1,hlen,hn,hel⟩:=DataW.trod_array Tryz.underlying317 hd0
 rw[tab_datum] at hx1;injection hx1 with hx1 _
 injection hx1 with hx1
 intro j hj;rw[World.var?_cell hg0 hv0 j];have hj':j < xs.length:=by omega
 have he:=hel j hj;rw[List.getElem?_eq_getElem hj',tab_cells,Nat.mul_one] at he
 obtain⟨k,e1,e2,_⟩:=DataW.trod_int Tryz.underlying5 he
 have hk:=congrArg (·[j]?) hx1;have hjd:j < Lib.deBruijn64tab.length:=hj;simp only[List.getElem?_map,List.getElem?_eq_getElem hj',List.getElem?_eq_getElem hjd,Option.map_some,e2,Option.some.injEq,DataW.lit.injEq,Lit.int.injEq,true_and] at hk;have hc:=congrArg (·[0]?) e1;simp only[List.getElem?_take,List.getElem?_drop,Nat.add_zero,Nat.lt_one_iff,if_true,List.getElem?_cons_zero] at hc;rw[Array.getElem?_toList] at hc;rw[hc,← hk,List.getD_eq_getElem?_getD,List.getElem?_eq_getElem hjd];rfl
end
end Go.Proofs.YtlodpaaanfjkeaaGreatDoor
