/- Texts laid together: TrkMath, TrkMem, TrkLay, TrkFollow, TrkAt, TrkFind, TrkPut, TrkAdd, TrkCreate, TrkZeros, TrkGrow, TrkWrite, TreIns, TreAll, TreKids, TreUnlink, TreRead, TreRmdir, TreTrunc, TreWrite, TrkWr, TrkRead. -/
import Derived.Test.YtlodpaaanfjkeaaGreatDoorKt11
import Derived.Test.YtlodpaaanfjkeaaGreatDoorKt1
import Derived.Maps.OwnSet
import Derived.Maps.OwnIn
import Derived.Sort.KeysCollected
import Derived.Shelf.Strconv.Clone
import Derived.Ground.NamesProg
import Derived.Test.YtlodpaaanfjkeaaGreatDoorProg
import Derived.WalkSpells
import Derived.Maps.AppendAt
import Derived.Lib.AppendZerosOnto
import Derived.Laws.CopyRow
import Derived.Deep.RegionHeld3
import Derived.Deep.RegionLaw
import Derived.Deep.DeepCutAuto
import Derived.Test.YtlodpaaanfjkeaaGreatDoorKt7
set_option maxRecDepth 100000
set_option maxHeartbeats 4000000
namespace Go.Proofs.YtlodpaaanfjkeaaGreatDoor
section
open Go.RowKit Go.MapKept
namespace Trk
open Tre (Nm Th fi isDirAt dirT goT goF setT dropT)
def T (t:List Th) (n:Nm):Option (Bool × ByteArray):=if n=[] then some (true,ByteArray.empty) else (fi t n).bind fun i=>t[i]?.map (·.2)
theorem T_root (t:List Th):T t []=some (true,ByteArray.empty):=if_pos rfl
theorem T_fi {t:List Th} {n:Nm} {i:Nat} (h0:n≠[]) (h:fi t n=some i):∃ h:i < t.length,T t n=some t[i].2:=by
 obtain⟨h1,_,_⟩:=Tre.fi_some h
 refine⟨h1,?_⟩
 unfold T;rw[if_neg h0,h];simp[List.getElem?_eq_getElem h1]
theorem T_none {t:List Th} {n:Nm} (h0:n≠[]) (h:fi t n=none):T t n=none:=by
 unfold T;rw[if_neg h0,h];rfl
theorem T_no {t:List Th} {n:Nm} (h:T t n=none):n≠[]∧fi t n=none:=by
 have h0:n≠[]:=fun e=>by rw[e,T_root] at h;cases h
 refine⟨h0,?_⟩
 cases hf:fi t n with
 | none=>rfl
 | some i=>
   obtain⟨_,h1⟩:=T_fi h0 hf
   rw[h1] at h
   cases h
theorem T_mem {t:List Th} {n:Nm} (h0:n≠[]) {v:Bool × ByteArray} (h:T t n=some v):(n,v)∈t:=by
 cases hf:fi t n with
 | none=>rw[T_none h0 hf] at h;cases h
 | some i=>
   obtain⟨h1,h2⟩:=T_fi h0 hf
   obtain⟨_,h3,_⟩:=Tre.fi_some hf
   rw[h2] at h;injection h with h
   have:t[i]=(n,v):=by rw[← h,← h3]
   rw[← this];exact List.getElem_mem h1
theorem fi_mem {t:List Th} {x:Th} (h:x∈t):∃ i,fi t x.1=some i:=by
 cases hf:fi t x.1 with
 | some i=>exact⟨i,rfl⟩
 | none=>
   unfold Tre.fi at hf;rw[List.findIdx?_eq_none_iff] at hf
   have:=hf x h
   simp at this
def Once (t:List Th):Prop:=(t.map (·.1)).Nodup
theorem once_at {t:List Th} (h:Once t) {i j:Nat} (hi:i < t.length) (hj:j < t.length) (e:t[i].1=t[j].1):i=j:=by
 have:=List.pairwise_iff_getElem.1 h
 rcases Nat.lt_trichotomy i j with hl | hl | hl
 · exact absurd (show (t.map (·.1))[i]'(by simpa using hi)=(t.map (·.1))[j]'(by simpa using hj) by rw[List.getElem_map,List.getElem_map];exact e) (this i j (by simpa using hi) (by simpa using hj) hl)
 · exact hl
 · exact absurd (show (t.map (·.1))[j]'(by simpa using hj)=(t.map (·.1))[i]'(by simpa using hi) by rw[List.getElem_map,List.getElem_map];exact e.symm) (this j i (by simpa using hj) (by simpa using hi) hl)
theorem mem_T {t:List Th} (h:Once t) {x:Th} (hx:x∈t) (h0:x.1≠[]):T t x.1=some x.2:=by
 obtain⟨i,hi⟩:=fi_mem hx
 obtain⟨h1,h2⟩:=T_fi h0 hi
 obtain⟨_,h3,_⟩:=Tre.fi_some hi
 obtain⟨j,hj,rfl⟩:=List.getElem_of_mem hx
 have:=once_at h h1 hj h3
 subst this;exact h2
theorem fi_app {t:List Th} {x:Th} (h:fi t x.1=none) (n:Nm):fi (t++[x]) n=if n=x.1 then some t.length else fi t n:=by
 have hx:∀ y∈t,y.1≠x.1:=fun y hy e=>by
  obtain⟨i,hi⟩:=fi_mem hy
  rw[e,h] at hi
  cases hi
 by_cases e:n=x.1
 · subst e
   rw[if_pos rfl];refine Tre.fi_at (by simp) (by simp) (fun j hj=>?_);rw[List.getElem_append_left hj];exact hx _ (List.getElem_mem _)
 · rw[if_neg e]
   cases hf:fi t n with
   | none=>
     refine Tre.fi_none (fun j hj=>?_);by_cases hjt:j < t.length
     · rw[List.getElem_append_left hjt]
       intro e'
       obtain⟨i,hi⟩:=fi_mem (List.getElem_mem hjt)
       rw[e',hf] at hi
       cases hi
     · have:j=t.length:=by simp at hj;omega
       subst this
       simpa using fun e':x.1=n=>e e'.symm
   | some i=>
     obtain⟨h1,h2,h3⟩:=Tre.fi_some hf
     refine Tre.fi_at (by simp;omega) (by rw[List.getElem_append_left h1];exact h2) (fun j hj=>?_);rw[List.getElem_append_left (by omega)];exact h3 j hj
theorem T_app {t:List Th} {x:Th} (h0:x.1≠[]) (h:fi t x.1=none) (n:Nm):T (t++[x]) n=if n=x.1 then some x.2 else T t n:=by
 by_cases e:n=x.1
 · subst e
   rw[if_pos rfl]
   obtain⟨h1,h2⟩:=T_fi (t:=t++[x]) (i:=t.length) h0 (by rw[fi_app h,if_pos rfl])
   rw[h2];simp
 · rw[if_neg e]
   unfold T;by_cases hn:n=[]
   · rw[if_pos hn,if_pos hn]
   · rw[if_neg hn,if_neg hn,fi_app h,if_neg e]
     cases hf:fi t n with
     | none=>rfl
     | some i=>
       obtain⟨h1,_,_⟩:=Tre.fi_some hf
       simp only[Option.bind_some];rw[List.getElem?_append_left h1]
theorem setT_at:∀ (t:List Th) (i j:Nat) (s:ByteArray),(setT t i s)[j]? = t[j]?.map fun x=>if j=i then (x.1,x.2.1,s) else x
 | [],i,j,s=>by simp[setT]
 | x :: t,0,0,s=>by simp[setT]
 | x :: t,0,j+1,s=>by simp[setT]
 | x :: t,i+1,0,s=>by simp[setT]
 | x :: t,i+1,j+1,s=>by
   rw[setT,List.getElem?_cons_succ,List.getElem?_cons_succ,setT_at t i j s];simp
theorem setT_names (t:List Th) (i:Nat) (s:ByteArray):(setT t i s).map (·.1)=t.map (·.1):=by
 apply List.ext_getElem?;intro j;rw[List.getElem?_map,List.getElem?_map,setT_at]
 cases t[j]? with
 | none=>rfl
 | some x=>simp only[Option.map_some];split<;>rfl
theorem fi_set (t:List Th) (i:Nat) (s:ByteArray) (n:Nm):fi (setT t i s) n=fi t n:=by
 have key:∀ u:List Th,fi u n=(u.map (·.1)).findIdx? (fun x=>decide (x=n)):=fun u=>by
  unfold Tre.fi;rw[List.findIdx?_map];rfl
 rw[key,key,setT_names]
theorem T_set {t:List Th} {p:Nm} {i:Nat} (h0:p≠[]) (h:fi t p=some i) {d:Bool} {s:ByteArray} (hv:T t p=some (d,s)) (u:ByteArray) (n:Nm):T (setT t i u) n=if n=p then some (d,u) else T t n:=by
 obtain⟨h1,h2,_⟩:=Tre.fi_some h
 unfold T;rw[fi_set];by_cases e:n=p
 · subst e
   rw[if_pos rfl,if_neg h0,h]
   obtain⟨h3,h4⟩:=T_fi h0 h
   rw[hv] at h4;injection h4 with h4
   simp only[Option.bind_some];rw[setT_at,List.getElem?_eq_getElem h1];simp[← h4]
 · rw[if_neg e]
   by_cases hn:n=[]
   · rw[if_pos hn,if_pos hn]
   · rw[if_neg hn,if_neg hn]
     cases hf:fi t n with
     | none=>rfl
     | some j=>
       obtain⟨g1,g2,_⟩:=Tre.fi_some hf
       simp only[Option.bind_some];rw[setT_at,List.getElem?_eq_getElem g1]
       have:j≠i:=fun e'=>by
        subst e';exact e (g2.symm.trans h2)
       simp[this]
theorem once_drop {t:List Th} (h:Once t) (i:Nat):Once (dropT t i):=by
 unfold Once Tre.dropT at *;rw[← List.eraseIdx_eq_take_drop_succ];exact ((List.eraseIdx_sublist t i).map _).nodup h
theorem mem_drop {t:List Th} (h:Once t) {i:Nat} (hi:i < t.length) (x:Th):x∈dropT t i↔x∈t∧x.1≠t[i].1:=by
 unfold Tre.dropT;rw[List.mem_append]
 constructor
 · rintro (hx | hx)
   · obtain⟨j,hj,rfl⟩:=List.getElem_of_mem hx
     have hj':j < i:=by simp at hj;omega
     rw[List.getElem_take]
     exact⟨List.getElem_mem _,fun e=>by have:=once_at h (by omega) hi e;omega⟩
   · obtain⟨j,hj,rfl⟩:=List.getElem_of_mem hx
     rw[List.getElem_drop]
     exact⟨List.getElem_mem _,fun e=>by have:=once_at h (by simp at hj;omega) hi e;omega⟩
 · rintro ⟨hx,hne⟩
   obtain⟨j,hj,rfl⟩:=List.getElem_of_mem hx
   have hji:j≠i:=fun e=>by subst e;exact hne rfl
   rcases Nat.lt_or_gt_of_ne hji with hl | hl
   · refine .inl (List.mem_of_getElem? (i:=j) ?_)
     rw[List.getElem?_take,if_pos hl,List.getElem?_eq_getElem hj]
   · refine .inr (List.mem_of_getElem? (i:=j - (i+1)) ?_)
     rw[List.getElem?_drop,show i+1+(j - (i+1))=j by omega,List.getElem?_eq_getElem hj]
theorem T_drop {t:List Th} (h:Once t) {p:Nm} {i:Nat} (h0:p≠[]) (hi:fi t p=some i) (n:Nm):T (dropT t i) n=if n=p then none else T t n:=by
 obtain⟨h1,h2,_⟩:=Tre.fi_some hi
 by_cases e:n=p
 · subst e
   rw[if_pos rfl];refine T_none h0 ?_
   cases hf:fi (dropT t i) n with
   | none=>rfl
   | some j=>
     obtain⟨g1,g2,_⟩:=Tre.fi_some hf
     exact absurd (g2.trans h2.symm) ((mem_drop h h1 _).1 (List.getElem_mem g1)).2
 · rw[if_neg e]
   by_cases hn:n=[]
   · subst hn;rw[T_root,T_root]
   cases hv:T t n with
   | some v=>
     have hm:=T_mem hn hv;exact mem_T (once_drop h i) ((mem_drop h h1 (n,v)).2 ⟨hm,fun e'=>e (e'.trans h2)⟩) hn
   | none=>
     cases hv':T (dropT t i) n with
     | none=>rfl
     | some v=>
       have hm:=((mem_drop h h1 _).1 (T_mem hn hv')).1;rw[mem_T h hm hn] at hv
       cases hv
end Trk
end
section
open Go.RowKit Go.MapKept
namespace Trk
open Tre (Nm Th fi setT dropT)
structure Nd where
 b:Nat
 A:Option Addr
 c:Nat
 m:Option Nat
def own (x:Nd):List Nat:=x.b :: (x.m.toList++(x.A.map (·.block)).toList)
def Rp:Value→Option (DataW Unit × List MemPlace)
 | .pointer none=>some (.nil,[])
 | .pointer (some ⟨b,0,none⟩)=>some (.lit (.int .i64 (b:Int)),[])
 | _=>none
def pd:Option Nat→DataW Unit
 | none=>.nil
 | some b=>.lit (.int .i64 (b:Int))
def pv:Option Nat→Value
 | none=>.pointer none
 | some b=>.pointer (some ⟨b,0,none⟩)
theorem rp_pv (o:Option Nat):Rp (pv o)=some (pd o,[]):=by cases o<;>rfl
theorem rp_inv {v:Value} {o:Option Nat} {ps:List MemPlace} (h:Rp v=some (pd o,ps)):v=pv o:=by
 cases o with
 | none=>
   unfold Rp pd at h
   split at h
   · rfl
   · simp at h
   · simp at h
 | some b=>
   unfold Rp pd at h
   split at h
   · simp at h
   · rename_i b'
     simp at h;obtain rfl:b'=b:=by omega
     rfl
   · simp at h
structure Ask (w:World) (g N:Nat) (f:ByteArray→Option Nat) (D:DataW Unit):Prop where
 own:w.ownsMap Tryz.prog 9 Rp g N D
 ask:∀ s:ByteArray,s.size≤maxLen→D.atKey (.string s.data.toList) .nil=pd (f s)
 non:∀ s:ByteArray,f s=none→Maps.has D (.string s.data.toList)=false
theorem Ask.block {w w':World} {g N:Nat} {f:ByteArray→Option Nat} {D:DataW Unit} (h:Ask w g N f D) (hb:w'.heap[g]? = w.heap[g]?):Ask w' g N f D:=
 ⟨by obtain⟨es,clock,h1,h2⟩:=h.own;exact⟨es,clock,hb.trans h1,h2⟩,h.ask,h.non⟩
theorem key_of {s:ByteArray} (hs:s.size≤maxLen):keyOf Tryz.prog 9 (.string s)=some (.string s.data.toList):=by
 simp[keyOf,mapKey,Tryz.underlying9,hs]
theorem keyed:Go.Maps.Keyed Tryz.prog 9:=Go.Maps.string_keyed Tryz.underlying9
theorem zero_p (w:World):(zeroValue 181).run Tryz.prog w = .ok (.pointer none) w:=by
 first | exact Tryz.zeroValue181 w | exact Tryz.zeroValue181
theorem Ask.look {w:World} {g N:Nat} {f:ByteArray→Option Nat} {D:DataW Unit} (h:Ask w g N f D) (s:ByteArray) (hs:s.size≤maxLen) :
 (Instr.lookup 173 (.map (some g)) (.string s) false).run Tryz.prog w = .ok (pv (f s)) w:=by
 obtain⟨v,ps,h1,h2⟩:=h.own.lookup keyed Tryz.underlying173 (zero_p w) (zd:=.nil) (zp:=[]) rfl (key_of hs)
 rw[h.ask s hs] at h2;rw[h1,rp_inv h2]
theorem look_nil (w:World) (s:ByteArray) (hs:s.size≤maxLen):(Instr.lookup 173 (.map none) (.string s) false).run Tryz.prog w = .ok (.pointer none) w:=
 Maps.look_nil false keyed Tryz.underlying173 (zero_p w) (key_of hs)
theorem data_inj {s u:ByteArray} (h:s.data.toList=u.data.toList):s=u:=by
 apply ByteArray.ext;exact Array.toList_inj.1 h
theorem Ask.store {w:World} {g N:Nat} {f:ByteArray→Option Nat} {D:DataW Unit} (h:Ask w g N f D) (s:ByteArray) (hs:s.size≤maxLen) (b:Nat) (hN:N≤1000000) :
 ∃ w' D',(Instr.mapUpdate 173 (.map (some g)) (.string s) (.pointer (some ⟨b,0,none⟩))).run Tryz.prog w = .ok () w'∧Ask w' g (N+1) (fun x=>if x=s then some b else f x) D'∧w.grownBy w' (some g):=by
 obtain⟨w',h1,h2,h3⟩:=h.own.update keyed Tryz.underlying173 (by unfold maxLen;omega) (key_of hs) (rp_pv (some b))
 refine⟨w',_,h1,⟨h2,fun x hx=>?_,fun x hx=>?_⟩,h3⟩
 · by_cases e:x=s
   · subst e
     rw[if_pos rfl,Maps.atKey_put_same (k:=.string x.data.toList) h.own.isMap trivial]
   · rw[if_neg e,Maps.atKey_put_other (fun e'=>e (data_inj (by injection e'))),h.ask x hx]
 · by_cases e:x=s
   · rw[if_pos e] at hx
     cases hx
   · rw[if_neg e] at hx
     rw[Maps.has_put_other (fun e'=>e (data_inj (by injection e')))];exact h.non x hx
theorem Ask.strike {w:World} {g N:Nat} {f:ByteArray→Option Nat} {D:DataW Unit} (h:Ask w g N f D) (s:ByteArray) (hs:s.size≤maxLen) (ty:TypeId) :
 ∃ w' D',(Builtin.delete_ #[173,9] ty #[.map (some g),.string s]).run Tryz.prog w = .ok (.tuple #[]) w'∧Ask w' g N (fun x=>if x=s then none else f x) D'∧w.grownBy w' (some g):=by
 obtain⟨w',h1,h2,h3⟩:=h.own.drop keyed Tryz.underlying173 (key_of hs) ty
 refine⟨w',_,h1,⟨h2,fun x hx=>?_,fun x hx=>?_⟩,h3.grown⟩
 · by_cases e:x=s
   · subst e
     rw[if_pos rfl,Maps.atKey_del_same];rfl
   · rw[if_neg e,Maps.atKey_del_other (fun e'=>e (data_inj (by injection e'))),h.ask x hx]
 · by_cases e:x=s
   · subst e
     exact Maps.has_del_same
   · rw[if_neg e] at hx
     rw[Maps.has_del_other (fun e'=>e (data_inj (by injection e')))];exact h.non x hx
theorem ask_made (w:World):Ask (w.alloc (.map #[] 0)) w.heap.size 0 (fun _=>none) (.map []):=⟨World.ownsMap_made w _ _ _,fun _ _=>rfl,fun _ _=>rfl⟩
theorem Ask.has {w:World} {g N:Nat} {f:ByteArray→Option Nat} {D:DataW Unit} (h:Ask w g N f D) (s:ByteArray) (hs:s.size≤maxLen):Maps.has D (.string s.data.toList)=(f s).isSome:=by
 cases hf:f s with
 | none=>exact h.non s hf
 | some b=>
   cases hh:Maps.has D (.string s.data.toList) with
   | true=>rfl
   | false=>
     have:=h.ask s hs
     rw[Maps.atKey_of_not_has hh,hf] at this
     cases this
theorem Ask.keys {w:World} {g N:Nat} {f:ByteArray→Option Nat} {D:DataW Unit} (h:Ask w g N f D) {ks:List ByteArray} (hk:ks.Nodup) (hm:∀ x,x∈ks↔(f x).isSome=true) (hl:∀ x∈ks,x.size≤maxLen):(ks.map fun x=>x.data.toList).Perm (strKeys D)∧Maps.size D=ks.length:=by
 obtain⟨es,hD,hpw,_⟩:=h.own.entries keyed
 obtain⟨es',hD',hko⟩:=h.own.keysOf
 obtain rfl:es=es':=by rw[hD] at hD';simpa using hD'
 subst hD
 have hp:(ks.map fun x=>x.data.toList).Perm (strKeys (.map es)):=by
  refine perm_strKeys hpw (fun p hp=>by obtain⟨v,hv⟩:=hko p hp;obtain⟨x,_,hx,_⟩:=Maps.keyOf_str Tryz.underlying9 hv;exact⟨x,hx⟩) (List.pairwise_map.2 (hk.imp fun hne e=>hne (data_inj e))) (fun x=>?_);rw[List.mem_map]
  constructor
  · rintro ⟨y,hy,rfl⟩
    rw[h.has y (hl y hy)];exact (hm y).1 hy
  · intro hx
    have hxs:x∈strKeys (.map es):=by
     rw[Maps.has_eq,List.any_eq_true] at hx
     obtain⟨p,hp,e⟩:=hx
     exact List.mem_map.2 ⟨p,hp,by rw[WideAt.sameKey_eq e];rfl⟩
    have hxl:=strKeys_le h.own Tryz.underlying9 x hxs
    refine⟨⟨x.toArray⟩,(hm _).2 ?_,by simp⟩
    rw[← h.has ⟨x.toArray⟩ (show x.toArray.size≤maxLen by simpa using hxl)]
    simpa using hx
 refine⟨hp,?_⟩
 have:=hp.length_eq
 rw[List.length_map] at this;rw[this];show es.length=(es.map _).length
 rw[List.length_map]
def Kd (w:World) (N:Nat) (f:ByteArray→Option Nat):Option Nat→Prop
 | none=>∀ x,f x=none
 | some g=>∃ D,Ask w g N f D
theorem Kd.congr {w:World} {N:Nat} {f f':ByteArray→Option Nat} {m:Option Nat} (h:Kd w N f m) (e:∀ x,f x=f' x):Kd w N f' m:=by
 have:f=f':=funext e
 rw[← this];exact h
theorem Kd.mono {w:World} {N N':Nat} {f:ByteArray→Option Nat} {m:Option Nat} (h:Kd w N f m) (hN:N≤N'):Kd w N' f m:=by
 cases m with
 | none=>exact h
 | some g=>obtain⟨D,hD⟩:=h;exact⟨D,hD.own.mono hN,hD.ask,hD.non⟩
def kb (t:List Th) (L:Nm→Nd) (p:Nm) (x:ByteArray):Option Nat:=(T t (p++[x])).map fun _=>(L (p++[x])).b
structure Nod (w:World) (N:Nat) (x:Nd) (f:ByteArray→Option Nat) (d:Bool) (s:ByteArray):Prop where
 box:∃ ty,w.heap[x.b]? = some (.cells #[.bool (!d),.slice x.A s.size x.c,.map x.m] ty (0,0))
 row:w.ownsRow 0 5 1 (.slice x.A s.size x.c) s.size (Crc.u8s (Crc.tx s))
 map:Kd w N f x.m
theorem Nod.block {w w':World} {N:Nat} {x:Nd} {f:ByteArray→Option Nat} {d:Bool} {s:ByteArray} (h:Nod w N x f d s) (hb:∀ i∈own x,w'.heap[i]? = w.heap[i]?):Nod w' N x f d s:=by
 refine⟨?_,?_,?_⟩
 · obtain⟨ty,h1⟩:=h.box
   exact⟨ty,(hb _ (by simp[own])).trans h1⟩
 · rcases h.row with ⟨h1,h2⟩
   refine⟨h1,?_⟩
   rcases h2 with h0 | ⟨g,cap,cur,e,hB,hh,hr⟩
   · exact .inl h0
   · have hA:x.A=some ⟨g,0,none⟩:=by injection e
     exact .inr ⟨g,cap,cur,e,hB,(hb g (by simp[own,hA])).trans hh,hr⟩
 · have:=h.map
   cases hm:x.m with
   | none=>rw[hm] at this;exact this
   | some g=>
     rw[hm] at this
     obtain⟨D,hD⟩:=this
     exact⟨D,hD.block (hb g (by simp[own,hm]))⟩
theorem Nod.lt {w:World} {N:Nat} {x:Nd} {f:ByteArray→Option Nat} {d:Bool} {s:ByteArray} (h:Nod w N x f d s):∀ i∈own x,i < w.heap.size:=by
 intro i hi;simp only[own,List.mem_cons,List.mem_append,Option.mem_toList] at hi
 rcases hi with rfl | hi | hi
 · obtain⟨ty,h1⟩:=h.box
   exact (Array.getElem?_eq_some_iff.1 h1).1
 · have:=h.map
   rw[hi] at this
   obtain⟨D,hD⟩:=this
   exact hD.own.lt
 · rcases h.row with ⟨_,h0 | ⟨g,cap,cur,e,hB,hh,hr⟩⟩
   · have hA:x.A=none:=by injection h0.1
     rw[hA] at hi;simp at hi
   · have hA:x.A=some ⟨g,0,none⟩:=by injection e
     rw[hA] at hi;simp at hi;subst hi;exact (Array.getElem?_eq_some_iff.1 hh).1
section
variable {w : World} {N : Nat} {x : Nd} {f : ByteArray → Option Nat} {d : Bool} {s : ByteArray} (h : Nod w N x f d s)
include h
theorem Nod.c0:w.cell? ⟨x.b,0,none⟩=some (.bool (!d)):=by
 obtain⟨ty,h1⟩:=h.box
 simp[World.cell?,h1]
theorem Nod.c1:w.cell? ⟨x.b,1,none⟩=some (.slice x.A s.size x.c):=by
 obtain⟨ty,h1⟩:=h.box
 simp[World.cell?,h1]
theorem Nod.c2:w.cell? ⟨x.b,2,none⟩=some (.map x.m):=by
 obtain⟨ty,h1⟩:=h.box
 simp[World.cell?,h1]
theorem Nod.fr (o:Nat):w.frozen? ⟨x.b,o,none⟩=false:=by
 obtain⟨ty,h1⟩:=h.box
 simp[World.frozen?,h1]
theorem Nod.look (z:ByteArray) (hz:z.size≤maxLen):(Instr.lookup 173 (.map x.m) (.string z) false).run Tryz.prog w = .ok (pv (f z)) w:=by
 have:=h.map
 cases hm:x.m with
 | none=>
   rw[hm] at this;rw[this z];exact look_nil w z hz
 | some g=>
   rw[hm] at this
   obtain⟨D,hD⟩:=this
   exact hD.look z hz
theorem Nod.blt:x.b < w.heap.size:=h.lt _ (by simp[own])
end
structure Mem (w:World) (N:Nat) (t:List Th) (L:Nm→Nd):Prop where
 nod:∀ p d s,T t p=some (d,s)→Nod w N (L p) (kb t L p) d s
 one:∀ p v,T t p=some v→(own (L p)).Nodup
 apart:∀ p q v u,T t p=some v→T t q=some u→p≠q→∀ i∈own (L p),i∉own (L q)
def Fp (t:List Th) (L:Nm→Nd) (i:Nat):Prop:=∃ p v,T t p=some v∧i∈own (L p)
theorem Mem.lt {w:World} {N:Nat} {t:List Th} {L:Nm→Nd} (h:Mem w N t L) {i:Nat} (hi:Fp t L i):i < w.heap.size:=by
 obtain⟨p,⟨d,s⟩,h1,h2⟩:=hi
 exact (h.nod p d s h1).lt i h2
theorem Mem.block {w w':World} {N:Nat} {t:List Th} {L:Nm→Nd} (h:Mem w N t L) (hb:∀ i,Fp t L i→w'.heap[i]? = w.heap[i]?):Mem w' N t L:=
 ⟨fun p d s e=>(h.nod p d s e).block fun i hi=>hb i ⟨p,_,e,hi⟩,h.one,h.apart⟩
theorem Mem.keep {w w':World} {N:Nat} {t:List Th} {L:Nm→Nd} (h:Mem w N t L) (hb:Below w.heap.size w w'):Mem w' N t L:=h.block fun i hi=>hb.block i (h.lt hi)
theorem Mem.step {w w':World} {N N':Nat} {t t':List Th} {L L':Nm→Nd} (h:Mem w N t L) (S:Nm→Prop) (hN:N≤N')
 (hT:∀ q,¬ S q→T t' q=T t q) (hL:∀ q,¬ S q→L' q=L q)
 (hH:∀ q v,T t q=some v→¬ S q→∀ i∈own (L q),w'.heap[i]? = w.heap[i]?)
 (hC:∀ q x v,T t q=some v→¬ S q→kb t' L' q x=kb t L q x)
 (hn:∀ q d s,S q→T t' q=some (d,s)→Nod w' N' (L' q) (kb t' L' q) d s)
 (h1:∀ q v,S q→T t' q=some v→(own (L' q)).Nodup)
 (ha:∀ q r v u,S q→T t' q=some v→T t' r=some u→r≠q→∀ i∈own (L' q),i∉own (L' r)):Mem w' N' t' L':=by
 refine⟨fun p d s e=>?_,fun p v e=>?_,fun p q v u ep eq hne i hi=>?_⟩
 · by_cases hS:S p
   · exact hn p d s hS e
   · have e':=(hT p hS).symm.trans e
     have:=(h.nod p d s e').block (hH p _ e' hS)
     rw[hL p hS]
     exact⟨this.box,this.row,(this.map.congr fun x=>(hC p x _ e' hS).symm).mono hN⟩
 · by_cases hS:S p
   · exact h1 p v hS e
   · rw[hL p hS]
     exact h.one p v ((hT p hS).symm.trans e)
 · by_cases hS:S p
   · exact ha p q v u hS ep eq (fun e=>hne e.symm) i hi
   · by_cases hS':S q
     · intro hi'
       exact ha q p u v hS' eq ep hne i hi' hi
     · rw[hL p hS] at hi
       rw[hL q hS'];exact h.apart p q v u ((hT p hS).symm.trans ep) ((hT q hS').symm.trans eq) hne i hi
structure Chg (F:Nat→Prop) (w w':World):Prop where
 os:w'.os=w.os
 tape:w'.tape=w.tape
 output:w'.output=w.output
 size:w.heap.size≤w'.heap.size
 block:∀ k,k < w.heap.size→¬ F k→w'.heap[k]? = w.heap[k]?
theorem Chg.refl (F:Nat→Prop) (w:World):Chg F w w:=⟨rfl,rfl,rfl,Nat.le_refl _,fun _ _ _=>rfl⟩
theorem Chg.of_below {F:Nat→Prop} {w w':World} (h:Below w.heap.size w w'):Chg F w w':=⟨h.os,h.tape,h.output,h.size,fun k hk _=>h.block k hk⟩
theorem Chg.trans {F G:Nat→Prop} {a b c:World} (h:Chg F a b) (k:Chg G b c) (hG:∀ i,G i→F i∨a.heap.size≤i):Chg F a c:=
 ⟨k.os.trans h.os,k.tape.trans h.tape,k.output.trans h.output,Nat.le_trans h.size k.size,fun i hi hF=>(k.block i (Nat.lt_of_lt_of_le hi h.size) (fun hg=>by rcases hG i hg with h' | h';exact hF h';omega)).trans (h.block i hi hF)⟩
theorem Chg.then {F:Nat→Prop} {a b c:World} (h:Chg F a b) (k:Below b.heap.size b c):Chg F a c:=h.trans (Chg.of_below (F:=fun _=>False) k) (fun _ h=>h.elim)
theorem Chg.after {F:Nat→Prop} {a b c:World} (h:Below a.heap.size a b) (k:Chg F b c):Chg F a c:=(Chg.of_below h).trans k (fun _ h=>.inl h)
theorem Chg.grown {F:Nat→Prop} {a b:World} {g:Nat} (h:a.grownBy b (some g)) (hg:F g):Chg F a b:=⟨h.os,h.tape,h.output,h.size,fun k hk hF=>h.block k hk (fun e=>by injection e with e;subst e;exact hF hg)⟩
theorem Chg.below {F:Nat→Prop} {a b:World} {B:Nat} (h:Chg F a b) (hB:B≤a.heap.size) (hF:∀ i,F i→B≤i):Below B a b:=⟨h.os,h.tape,h.output,h.size,fun k hk=>h.block k (by omega) (fun hf=>by have:=hF k hf;omega)⟩
end Trk
end
end Go.Proofs.YtlodpaaanfjkeaaGreatDoor
/- Texts. -/
namespace Go.Proofs
open Go.Shelf
def Tryz.cloneA_ren : Go.Shelf.Ren := ⟨fun | 316 => 217 | n => n, fun | 9 => 9 | 3 => 3 | 4 => 4 | 37 => 112 | 0 => 0 | 127 => 306 | 5 => 5 | n => n, fun | n => n⟩
theorem Tryz.cloneA : Go.Proofs.LaysM.n316 Tryz.prog Tryz.cloneA_ren := {
  mixed := by kernel_rfl
  f316 := Tryz.func217.trans (congrArg some (by kernel_rfl))
  t0 := Tryz.underlying0
  a0 := Tryz.isAgg0
  z0 := Tryz.sizeOf0
  v0 := Tryz.zeroValue0
  t3 := Tryz.underlying3
  a3 := Tryz.isAgg3
  z3 := Tryz.sizeOf3
  v3 := Tryz.zeroValue3
  t4 := Tryz.underlying4
  a4 := Tryz.isAgg4
  z4 := Tryz.sizeOf4
  v4 := Tryz.zeroValue4
  t9 := Tryz.underlying9
  a9 := Tryz.isAgg9
  z9 := Tryz.sizeOf9
  v9 := Tryz.zeroValue9
  t37 := Tryz.underlying112
  a37 := Tryz.isAgg112
  z37 := Tryz.sizeOf112
  v37 := Tryz.zeroValue112
  t127 := Tryz.underlying306
  a127 := Tryz.isAgg306
  z127 := Tryz.sizeOf306
  v127 := Tryz.zeroValue306
  t5 := Tryz.underlying5
  a5 := Tryz.isAgg5
  z5 := Tryz.sizeOf5
  v5 := Tryz.zeroValue5
  i0 := by kernel_rfl
  i3 := by kernel_rfl
  i4 := by kernel_rfl
  i5 := by kernel_rfl
  i9 := by kernel_rfl
  i37 := by kernel_rfl
  i127 := by kernel_rfl }
end Go.Proofs
namespace Go.Proofs.YtlodpaaanfjkeaaGreatDoor
section
open Lib (hid)
open Go.RowKit Go.MapKept
namespace Trk
open Tre (Nm Th fi isDirAt dirT goT goF setT dropT)
open Pat (Txs)
structure Wf (t:List Th):Prop where
 once:Once t
 nm:∀ x∈t,x.1≠[]∧Pat.IsNames x.1
 up:∀ p x v,T t (p++[x])=some v→∃ s,T t p=some (true,s)
 dat:∀ p s,T t p=some (true,s)→s=ByteArray.empty
 size:∀ x∈t,x.2.2.size≤268435456
def rest (t:List Th) (n:Nm) (k:Nat) (d:Bool):Int:=if k=n.length then 0 else if d=false then 6 else goF t n (n.length - k) (k+1)
theorem goT_rest (t:List Th) (n:Nm):goT t n=rest t n 0 true:=by
 unfold Tre.goT rest;by_cases h:0=n.length
 · rw[if_pos h,← h]
   rfl
 · rw[if_neg h,if_neg (by simp)]
   rfl
theorem rest_end {t:List Th} {n:Nm} {d:Bool}:rest t n n.length d=0:=if_pos rfl
theorem rest_file {t:List Th} {n:Nm} {k:Nat} (hk:k < n.length):rest t n k false=6:=by
 unfold rest;rw[if_neg (by omega),if_pos rfl]
theorem take_ne {n:Nm} {k:Nat} (hk:k < n.length):n.take (k+1)≠[]:=fun e=>by
 have:=congrArg List.length e
 rw[List.length_take] at this;simp at this;rw[this] at hk;simp at hk
theorem rest_none {t:List Th} {n:Nm} {k:Nat} (hk:k < n.length) (h:T t (n.take (k+1))=none):rest t n k true=4:=by
 unfold rest;rw[if_neg (by omega),if_neg (by simp),show n.length - k=(n.length - k - 1)+1 by omega];unfold Tre.goF;rw[(T_no h).2]
theorem rest_some {t:List Th} {n:Nm} {k:Nat} (hk:k < n.length) {v:Bool × ByteArray} (h:T t (n.take (k+1))=some v):rest t n k true=rest t n (k+1) v.1:=by
 cases hf:fi t (n.take (k+1)) with
 | none=>rw[T_none (take_ne hk) hf] at h;cases h
 | some i=>
   obtain⟨hi,h2⟩:=T_fi (take_ne hk) hf
   rw[h2] at h;injection h with h
   have hd:isDirAt t i=v.1:=by unfold Tre.isDirAt;rw[List.getElem?_eq_getElem hi,← h]
   unfold rest;rw[if_neg (by omega),if_neg (by simp),show n.length - k=(n.length - (k+1))+1 by omega];rw[Tre.goF,hf];simp only[hd];by_cases he:k+1=n.length
   · rw[if_neg (by omega),if_pos he,he,Nat.sub_self]
     rfl
   · rw[if_neg he]
     by_cases hv:v.1=false
     · rw[if_pos ⟨by omega,hv⟩,if_pos hv]
     · rw[if_neg (fun h=>hv h.2),if_neg hv]
theorem right_len {s:ByteArray} (h:Ent.Right (Crc.tx s)):s.size≤maxLen:=by
 have:=h.1.2
 rw[Crc.tx_len] at this;unfold maxLen;omega
def gv (t:List Th) (L:Nm→Nd) (n:Nm):Option Nat:=if goT t n=0 then some (L n).b else none
theorem gv_yes {t:List Th} {L:Nm→Nd} {n:Nm} (h:goT t n=0):gv t L n=some (L n).b:=if_pos h
theorem gv_no {t:List Th} {L:Nm→Nd} {n:Nm} (h:goT t n≠0):gv t L n=none:=if_neg h
theorem follow_any (w:World) (N b0 c m:Nat) (t:List Th) (L:Nm→Nd) (A:Option Addr) (n:Nm) (hM:Mem w N t L) (hb:(L []).b=b0) (h:Txs w A n) (hn:Pat.IsNames n) (hm:n.length=m) :
 Calls Tryz.prog 167 #[.pointer (some ⟨b0,0,none⟩),.slice A m c] w fun e w'=>e = .returned (.tuple #[pv (gv t L n),.int .i64 (goT t n)])∧w'=w:=by
 subst hm;have hl:=h.len;have H:=hid h;have HM:=hid hM;have HN:=hid hn;have HX:=hid (goT_rest t n);clear h hM hn;go_enter Tryz.func167,Tryz.ntmps167
 go_wp2
 go_loopw [6,14] (fun x ix wr=>∃ (k:Nat) (d:Bool) (s:ByteArray),k≤n.length∧x=pv (some (L (n.take k)).b)∧ix = .int .i64 (k:Int)∧wr=w∧T t (n.take k)=some (d,s)∧goT t n=rest t n k d) (fun _ ix _=>n.length - (intOf ix).toNat)
 case atStart=>exact⟨0,true,ByteArray.empty,Nat.zero_le _,by rw[List.take_zero,hb];rfl,rfl,rfl,by rw[List.take_zero,T_root],HX.out⟩
 case round=>
  obtain⟨k,d,s,hk,rfl,rfl,rfl,hT,hR⟩:=hrel
  by_cases hlt:k < n.length
  · obtain⟨b,o,rfl,_,hc0⟩:=H.out.at' k hlt
    have hs:=right_len (HN.out.2 _ (List.getElem_mem hlt));have HD:=hid (HM.out.nod _ _ _ hT);have h0:=HD.out.c0;have h2:=HD.out.c2;have HK:=hid HD.out.map;have HT:=hid hT;have HR:=hid hR;have HE:=hid (show n.take (k+1)=n.take k++[n[k]] from List.take_succ_eq_append_getElem hlt);clear hT hR;unfold pv;generalize n[k]=s0 at *;generalize hx:L (n.take k)=x at *
    cases d with
    | false=>
      simp only[Bool.not_false] at h0;have h6:=HR.out;rw[rest_file hlt] at h6;have HZ:=hid (show (.tuple #[.pointer none,.int .i64 6]:Value) = .tuple #[pv (gv t L n),.int .i64 (goT t n)] by rw[gv_no (by omega),h6];rfl);clear h6;go_wp2
      refine bodyPost_ret (v:=.tuple #[.pointer none,.int .i64 6]) ?_ rfl ⟨by rw[HZ.out],rfl⟩;simp[results,Tryz.results167,go_sem]
    | true=>
      simp only[Bool.not_true] at h0;have hlk:=HD.out.look s0 hs;unfold kb at hlk;rw[← HE.out] at hlk
      cases hv:T t (n.take (k+1)) with
      | none=>
        rw[hv] at hlk;simp only[Option.map_none,pv] at hlk;have h4:=HR.out;rw[rest_none hlt hv] at h4;have HZ:=hid (show (.tuple #[.pointer none,.int .i64 4]:Value) = .tuple #[pv (gv t L n),.int .i64 (goT t n)] by rw[gv_no (by omega),h4];rfl);clear hv h4;go_wp2
        refine bodyPost_ret (v:=.tuple #[.pointer none,.int .i64 4]) ?_ rfl ⟨by rw[HZ.out],rfl⟩;simp[results,Tryz.results167,go_sem]
      | some v=>
        rw[hv] at hlk;simp only[Option.map_some,pv] at hlk;have HV:=hid hv;have h4:=HR.out;rw[rest_some hlt hv] at h4;have H4:=hid h4;clear hv h4;go_wp2
        refine⟨⟨k+1,v.1,v.2,by omega,rfl,by go_num,by first | rfl | trivial,HV.out,H4.out⟩,by simp[intOf];omega⟩
  · obtain rfl:k=n.length:=by omega
    rw[List.take_length] at hT;rw[rest_end] at hR;have HZ:=hid (show (.tuple #[pv (some (L n).b),.int .i64 0]:Value) = .tuple #[pv (gv t L n),.int .i64 (goT t n)] by rw[gv_yes hR,hR]);rw[List.take_length];clear hR;generalize pv (some (L n).b)=z at *;go_wp2
    refine bodyPost_ret (v:=.tuple #[z,.int .i64 0]) ?_ rfl ⟨by rw[HZ.out],rfl⟩;simp[results,Tryz.results167,go_sem]
end Trk
end
section
open Lib (hid)
open Go.RowKit Go.MapKept
namespace Trk
open Tre (Nm Th fi isDirAt dirT goT goF setT dropT fileT)
open Pat (Txs)
theorem rest_zero {t:List Th} {n:Nm}:∀ (f k:Nat) (v:Bool × ByteArray),n.length - k=f→k≤n.length→T t (n.take k)=some v→rest t n k v.1=0→∃ u,T t n=some u
 | 0,k,v,hf,hk,hv,_=>by
   obtain rfl:k=n.length:=by omega
   rw[List.take_length] at hv
   exact⟨v,hv⟩
 | f+1,k,(d,s),hf,hk,hv,h0=>by
   have hlt:k < n.length:=by omega
   cases d with
   | false=>rw[rest_file hlt] at h0;omega
   | true=>
     cases hu:T t (n.take (k+1)) with
     | none=>rw[rest_none hlt hu] at h0;omega
     | some u=>
       rw[rest_some hlt hu] at h0;exact rest_zero f (k+1) u (by omega) (by omega) hu h0
theorem goT_some {t:List Th} {n:Nm} (h:goT t n=0):∃ u,T t n=some u:=by
 rw[goT_rest] at h;exact rest_zero n.length 0 (true,ByteArray.empty) (by omega) (by omega) (by rw[List.take_zero,T_root]) h
theorem dirT_T {t:List Th} {n:Nm} {v:Bool × ByteArray} (h:T t n=some v):dirT t n=v.1:=by
 unfold Tre.dirT;by_cases h0:n=[]
 · rw[if_pos h0]
   rw[h0,T_root] at h;injection h with h
   rw[← h]
 · rw[if_neg h0]
   cases hf:fi t n with
   | none=>rw[T_none h0 hf] at h;cases h
   | some i=>
     obtain⟨hi,h2⟩:=T_fi h0 hf
     rw[h2] at h;injection h with h
     simp only;unfold Tre.isDirAt;rw[List.getElem?_eq_getElem hi,← h]
theorem fi_of_T {t:List Th} {n:Nm} (h0:n≠[]) {v:Bool × ByteArray} (h:T t n=some v):∃ i,fi t n=some i:=by
 cases hf:fi t n with
 | none=>rw[T_none h0 hf] at h;cases h
 | some i=>exact⟨i,rfl⟩
theorem spl_is {s:ByteArray} {l:List ByteArray} (h:Pat.spl s=some l):Pat.IsNames l:=by
 unfold Pat.spl at h
 split at h
 · cases h
 · split at h
   · split at h
     · injection h with h
       subst h
       exact⟨by simp,fun n hn=>by simp at hn⟩
     · split at h
       · rename_i hi
         injection h with h
         subst h;exact hi
       · cases h
   · cases h
def ge (t:List Th) (p:ByteArray):Int:=match Pat.spl p with | none=>3 | some n=>goT t n
def gn (t:List Th) (L:Nm→Nd) (p:ByteArray):Option Nat:=match Pat.spl p with | none=>none | some n=>gv t L n
theorem goTo_any (w:World) (N b0:Nat) (t:List Th) (L:Nm→Nd) (p:ByteArray) (hM:Mem w N t L) (hb:(L []).b=b0) (hp:p.size < 4294967281) :
 Calls Tryz.prog 170 #[.pointer (some ⟨b0,0,none⟩),.string p] w fun e w'=>e = .returned (.tuple #[pv (gn t L p),.int .i64 (ge t p)])∧Below w.heap.size w w':=by
 have HM:=hid hM;clear hM;go_enter Tryz.func170,Tryz.ntmps170
 go_wp2_with fail
 refine (Pat.split_any w p hp).mono ?_;rintro e w1 ⟨hb1,h1⟩;have HB1:=hid hb1;clear hb1
 rcases h1 with ⟨l,A,c,hs,rfl,hc,ht⟩ | ⟨hs,rfl⟩
 · have HS:=hid hs
   have HZ:=hid (show (.tuple #[pv (gv t L l),.int .i64 (goT t l)]:Value) = .tuple #[pv (gn t L p),.int .i64 (ge t p)] by unfold gn ge;rw[hs]);have HF:=hid (follow_any w1 N b0 c l.length t L A l (HM.out.keep HB1.out) hb ht (spl_is hs) rfl);clear hs ht hc;go_wp2_with fail
   refine HF.out.mono ?_;rintro e w' ⟨rfl,rfl⟩;generalize pv (gv t L l)=z at *;generalize goT t l=g at *;go_wp2
   refine bodyPost_ret (v:=.tuple #[z,.int .i64 g]) ?_ rfl ⟨by rw[HZ.out],HB1.out⟩;simp[results,Tryz.results170,go_sem]
 · have HZ:=hid (show (.tuple #[.pointer none,.int .i64 3]:Value) = .tuple #[pv (gn t L p),.int .i64 (ge t p)] by unfold gn ge;rw[hs];rfl)
   clear hs;go_wp2
   refine bodyPost_ret (v:=.tuple #[.pointer none,.int .i64 3]) ?_ rfl ⟨by rw[HZ.out],HB1.out⟩;simp[results,Tryz.results170,go_sem]
end Trk
end
section
open Lib (hid)
open Go.RowKit Go.MapKept
namespace Trk
open Tre (Nm Th fi isDirAt dirT goT goF setT dropT fileT)
open Pat (Txs)
structure IsFile (t:List Th) (p:ByteArray) (n:Nm) (i:Nat) (s:ByteArray):Prop where
 spl:Pat.spl p=some n
 ne:n≠[]
 fi:fi t n=some i
 at':T t n=some (false,s)
 go:goT t n=0
 file:fileT t p=(((i:Nat):Int),0)
theorem ge_no {t:List Th} {L:Nm→Nd} {p:ByteArray} (h:ge t p≠0):gn t L p=none∧(fileT t p).2=ge t p:=by
 unfold gn;unfold ge at *
 cases hs:Pat.spl p with
 | none=>exact⟨rfl,by rw[Tre.fileT_none hs]⟩
 | some n=>
   rw[hs] at h
   exact⟨gv_no h,by rw[Tre.fileT_go hs h]⟩
theorem ge_yes {t:List Th} {L:Nm→Nd} {p:ByteArray} (h:ge t p=0):∃ n v,Pat.spl p=some n∧goT t n=0∧T t n=some v∧gn t L p=some (L n).b:=by
 unfold gn;unfold ge at h
 cases hs:Pat.spl p with
 | none=>rw[hs] at h;simp at h
 | some n=>
   rw[hs] at h
   obtain⟨v,hv⟩:=goT_some h
   exact⟨n,v,rfl,h,hv,gv_yes h⟩
theorem is_file {t:List Th} {p:ByteArray} {n:Nm} {s:ByteArray} (hs:Pat.spl p=some n) (hg:goT t n=0) (hv:T t n=some (false,s)):∃ i,IsFile t p n i s:=by
 have h0:n≠[]:=fun e=>by rw[e,T_root] at hv;cases hv
 obtain⟨i,hi⟩:=fi_of_T h0 hv
 refine⟨i,hs,h0,hi,hv,hg,?_⟩
 unfold Tre.fileT;rw[hs];simp only[hg,ne_eq,not_true,if_false,dirT_T hv,Bool.false_eq_true];unfold Tre.fv;rw[hi]
theorem no_file {t:List Th} {p:ByteArray} {n:Nm} {s:ByteArray} (hs:Pat.spl p=some n) (hg:goT t n=0) (hv:T t n=some (true,s)):fileT t p=(-1,7):=Tre.fileT_dir hs hg (dirT_T hv)
def FileR (t:List Th) (L:Nm→Nd) (p:ByteArray) (e:Ending):Prop:=
 ((fileT t p).2≠0∧e = .returned (.tuple #[.pointer none,.int .i64 (fileT t p).2]))∨∃ n i s,IsFile t p n i s∧e = .returned (.tuple #[.pointer (some ⟨(L n).b,0,none⟩),.int .i64 0])
theorem fileAt_any (w:World) (N b0:Nat) (t:List Th) (L:Nm→Nd) (p:ByteArray) (hM:Mem w N t L) (hb:(L []).b=b0) (hp:p.size < 4294967281) :
 Calls Tryz.prog 101 #[.pointer (some ⟨b0,0,none⟩),.string p] w fun e w'=>FileR t L p e∧Below w.heap.size w w':=by
 have HM:=hid hM;clear hM;go_enter Tryz.func101,Tryz.ntmps101
 go_wp2_with fail
 refine (goTo_any w N b0 t L p HM.out hb hp).mono ?_;rintro e w1 ⟨rfl,hb1⟩;have HB1:=hid hb1;have HM1:=hid (HM.out.keep hb1);clear hb1;by_cases hg:ge t p=0
 · obtain⟨n,⟨d,s⟩,hs,hn,hv,hx⟩:=ge_yes (L:=L) hg
   rw[hx,hg];have HD:=hid (HM1.out.nod _ _ _ hv);have h0:=HD.out.c0;unfold pv
   cases d with
   | true=>
     simp only[Bool.not_true] at h0;have HR:=hid (show FileR t L p (.returned (.tuple #[.pointer none,.int .i64 7])) from .inl (by rw[no_file hs hn hv];exact⟨by simp,rfl⟩));clear hs hn hv hx hg;generalize L n=x at *;go_wp2
     refine bodyPost_ret (v:=.tuple #[.pointer none,.int .i64 7]) ?_ rfl ⟨HR.out,HB1.out⟩;simp[results,Tryz.results101,go_sem]
   | false=>
     simp only[Bool.not_false] at h0;have HR:=hid (show FileR t L p (.returned (.tuple #[.pointer (some ⟨(L n).b,0,none⟩),.int .i64 0])) from .inr (by obtain⟨i,hi⟩:=is_file hs hn hv;exact⟨n,i,s,hi,rfl⟩));clear hs hn hv hx hg;generalize L n=x at *;go_wp2
     refine bodyPost_ret (v:=.tuple #[.pointer (some ⟨x.b,0,none⟩),.int .i64 0]) ?_ rfl ⟨HR.out,HB1.out⟩;simp[results,Tryz.results101,go_sem]
 · obtain⟨hx,he⟩:=ge_no (L:=L) hg
   have HR:=hid (show FileR t L p (.returned (.tuple #[.pointer none,.int .i64 (ge t p)])) from .inl ⟨by rw[he];exact hg,by rw[he]⟩);rw[hx];unfold pv;clear hx he;generalize ge t p=g at *;go_wp2
   refine bodyPost_ret (v:=.tuple #[.pointer none,.int .i64 g]) ?_ rfl ⟨HR.out,HB1.out⟩;simp[results,Tryz.results101,go_sem]
structure IsDir (t:List Th) (p:ByteArray) (n:Nm) (s:ByteArray):Prop where
 spl:Pat.spl p=some n
 at':T t n=some (true,s)
 go:goT t n=0
 dir:dirT t n=true
def dirE (t:List Th) (p:ByteArray):Int:=match Pat.spl p with | none=>3 | some n=>if goT t n≠0 then goT t n else if dirT t n=false then 6 else 0
def DirR (t:List Th) (L:Nm→Nd) (p:ByteArray) (e:Ending):Prop:=
 (dirE t p≠0∧e = .returned (.tuple #[.pointer none,.int .i64 (dirE t p)]))∨∃ n s,IsDir t p n s∧e = .returned (.tuple #[.pointer (some ⟨(L n).b,0,none⟩),.int .i64 0])
theorem ge_dir {t:List Th} {p:ByteArray} (h:ge t p≠0):dirE t p=ge t p:=by
 unfold ge at *;unfold dirE
 cases hs:Pat.spl p with
 | none=>rfl
 | some n=>
   rw[hs] at h;exact if_pos h
theorem dirAt_any (w:World) (N b0:Nat) (t:List Th) (L:Nm→Nd) (p:ByteArray) (hM:Mem w N t L) (hb:(L []).b=b0) (hp:p.size < 4294967281) :
 Calls Tryz.prog 103 #[.pointer (some ⟨b0,0,none⟩),.string p] w fun e w'=>DirR t L p e∧Below w.heap.size w w':=by
 have HM:=hid hM;clear hM;go_enter Tryz.func103,Tryz.ntmps103
 go_wp2_with fail
 refine (goTo_any w N b0 t L p HM.out hb hp).mono ?_;rintro e w1 ⟨rfl,hb1⟩;have HB1:=hid hb1;have HM1:=hid (HM.out.keep hb1);clear hb1;by_cases hg:ge t p=0
 · obtain⟨n,⟨d,s⟩,hs,hn,hv,hx⟩:=ge_yes (L:=L) hg
   rw[hx,hg];have HD:=hid (HM1.out.nod _ _ _ hv);have h0:=HD.out.c0;unfold pv
   cases d with
   | false=>
     simp only[Bool.not_false] at h0
     have HR:=hid (show DirR t L p (.returned (.tuple #[.pointer none,.int .i64 6])) from .inl (by
      have:dirE t p=6:=by unfold dirE;rw[hs];simp only[hn,ne_eq,not_true,if_false,dirT_T hv,if_true]
      rw[this];exact⟨by simp,rfl⟩))
     clear hs hn hv hx hg;generalize L n=x at *;go_wp2
     refine bodyPost_ret (v:=.tuple #[.pointer none,.int .i64 6]) ?_ rfl ⟨HR.out,HB1.out⟩;simp[results,Tryz.results103,go_sem]
   | true=>
     simp only[Bool.not_true] at h0;have HR:=hid (show DirR t L p (.returned (.tuple #[.pointer (some ⟨(L n).b,0,none⟩),.int .i64 0])) from .inr ⟨n,s,⟨hs,hv,hn,dirT_T hv⟩,rfl⟩);clear hs hn hv hx hg;generalize L n=x at *;go_wp2
     refine bodyPost_ret (v:=.tuple #[.pointer (some ⟨x.b,0,none⟩),.int .i64 0]) ?_ rfl ⟨HR.out,HB1.out⟩;simp[results,Tryz.results103,go_sem]
 · obtain⟨hx,_⟩:=ge_no (L:=L) hg
   have he:=ge_dir hg;have HR:=hid (show DirR t L p (.returned (.tuple #[.pointer none,.int .i64 (ge t p)])) from .inl ⟨by rw[he];exact hg,by rw[he]⟩);rw[hx];unfold pv;clear hx he;generalize ge t p=g at *;go_wp2
   refine bodyPost_ret (v:=.tuple #[.pointer none,.int .i64 g]) ?_ rfl ⟨HR.out,HB1.out⟩;simp[results,Tryz.results103,go_sem]
theorem clone_any (w:World) (s:ByteArray) (hs:s.size≤1000000):Calls Tryz.prog 169 #[.string s] w fun e w'=>e = .returned (.string s)∧Below w.heap.size w w':=by
 go_enter Tryz.func169,Tryz.ntmps169
 go_wp2_with fail
 refine (Any.stringslite_Clone Tryz.cloneA s w (by omega)).mono ?_;rintro e w' ⟨rfl,hb⟩;have HB:=hid hb;clear hb;go_wp2
 go_ret
 exact⟨rfl,HB.out⟩
def L0 (b:Nat):Nm→Nd:=fun _=>⟨b,none,0,none⟩
theorem T_nil (n:Nm):T [] n=if n=[] then some (true,ByteArray.empty) else none:=rfl
theorem mem_new {w:World} {b:Nat} {ty:TypeId} (h:w.heap[b]? = some (.cells #[.bool false,.slice none 0 0,.map none] ty (0,0))):Mem w 0 [] (L0 b):=by
 have hT:∀ {p:Nm} {v},T [] p=some v→p=[]∧v=(true,ByteArray.empty):=fun {p v} e=>by
  rw[T_nil] at e
  split at e
  · rename_i h0
    injection e with e
    exact⟨h0,e.symm⟩
  · cases e
 refine⟨fun p d s e=>?_,fun p v e=>by simp[own,L0],fun p q v u ep eq hne=>absurd ((hT ep).1.trans (hT eq).1.symm) hne⟩
 obtain⟨rfl,e2⟩:=hT e
 injection e2 with e2 e3
 subst e2 e3
 exact⟨⟨ty,h⟩,⟨rfl,.inl ⟨rfl,rfl⟩⟩,fun x=>by unfold kb;rw[T_nil];simp⟩
theorem wf_nil:Wf []:=by
 refine⟨List.nodup_nil,fun x h=>by simp at h,fun p x v h=>?_,fun p s h=>?_,fun x h=>by simp at h⟩
 · rw[T_nil] at h
   simp at h
 · rw[T_nil] at h
   split at h
   · simp at h
     exact h.symm
   · cases h
theorem new_any (w:World):Calls Tryz.prog 47 #[] w fun e w'=>e = .returned (.pointer (some ⟨w.heap.size,0,none⟩))∧Mem w' 0 [] (L0 w.heap.size)∧Below w.heap.size w w'∧w'.heap.size=w.heap.size+1:=by
 go_enter Tryz.func47,Tryz.ntmps47
 go_wp2
 go_ret
 exact⟨rfl,mem_new (heap_alloc_new w _),(Below.refl _ _).alloc (Nat.le_refl _) _,by simp⟩
end Trk
end
section
open Lib (hid)
open Go.RowKit Go.MapKept
namespace Trk
open Tre (Nm Th fi isDirAt dirT goT goF setT dropT fileT)
open Pat (Txs)
def PutR (w:World) (N:Nat) (x:Nd) (f:ByteArray→Option Nat) (d:Bool) (s:ByteArray) (nm:ByteArray) (nb:Nat) (w':World):Prop:=
 ∃ g,(x.m=some g∨g=w.heap.size)∧Nod w' (N+1) ⟨x.b,x.A,x.c,some g⟩ (fun z=>if z=nm then some nb else f z) d s∧Chg (·∈own x) w w'
theorem tput_any (w:World) (N:Nat) (x:Nd) (f:ByteArray→Option Nat) (d:Bool) (s nm:ByteArray) (nb:Nat) (h:Nod w N x f d s) (h1:(own x).Nodup) (hs:nm.size≤maxLen) (hN:N≤1000000) :
 Calls Tryz.prog 168 #[.pointer (some ⟨x.b,0,none⟩),.string nm,.pointer (some ⟨nb,0,none⟩)] w fun e w'=>e = .returned (.tuple #[])∧PutR w N x f d s nm nb w':=by
 have H:=hid h;have h2:=h.c2;have hfr:=h.fr 2;have hnil:∀ W r,(binOp .eql 173 (.map r) (.map none)).run Tryz.prog W = .ok (.bool r.isNone) W:=fun W r=>run_eql_map_nil W _ _ _ r Tryz.underlying173
 have hmk:∀ W,(Instr.makeMap 173 none).run Tryz.prog W = .ok (.map (some W.heap.size)) (W.alloc (.map #[] 0)):=fun W=>by
  exact run_makeMap _ W
 have hlt:=h.blt;clear h
 cases hm:x.m with
 | none=>
   rw[hm] at h2;have hk:=H.out.map;rw[hm] at hk;have hsz0:(w.setCell ⟨x.b,2,none⟩ (.map (some w.heap.size))).heap.size=w.heap.size:=by simp[World.setCell]
   have hA0:Ask ((w.setCell ⟨x.b,2,none⟩ (.map (some w.heap.size))).alloc (.map #[] 0)) w.heap.size N f (.map []):=by
    have:=ask_made (w.setCell ⟨x.b,2,none⟩ (.map (some w.heap.size)))
    rw[hsz0] at this
    exact⟨this.own.mono (Nat.zero_le _),fun z hz=>by rw[this.ask z hz,hk z],fun z _=>this.non z rfl⟩
   obtain⟨w',D',hrun,hA,hg⟩:=hA0.store nm hs nb hN
   have HP:=hid (show PutR w N x f d s nm nb w' from by
    obtain⟨ty,hbox⟩:=H.out.box
    have hw1:=heap_setCell_same _ _ 2 _ _ (.map (some w.heap.size)) hbox;have hw2:=(Below.heap_alloc _ (.map #[] 0) x.b (by omega)).trans hw1;have hsz:((w.setCell ⟨x.b,2,none⟩ (.map (some w.heap.size))).alloc (.map #[] 0)).heap.size=w.heap.size+1:=by simp[World.setCell]
    have hoth:∀ k,k < w.heap.size→k≠x.b→w'.heap[k]? = w.heap[k]?:=fun k hk' hne=>
     (hg.block k (by omega) (fun e=>by injection e with e;omega)).trans ((Below.heap_alloc _ _ k (by omega)).trans (Below.heap_setCell _ _ _ k hne))
    refine⟨w.heap.size,.inr rfl,⟨⟨ty,?_⟩,?_,⟨D',hA⟩⟩,⟨hg.os,hg.tape,hg.output,by have:=hg.size;omega,fun k hk' hne=>hoth k hk' (fun e=>hne (by simp[own,e]))⟩⟩
    · exact (hg.block x.b (by omega) (fun e=>by injection e with e;omega)).trans hw2
    · rcases H.out.row with ⟨r1,r2⟩
      refine⟨r1,?_⟩
      rcases r2 with r0 | ⟨q,cap,cur,e,hB,hh,hr⟩
      · exact .inl r0
      · have hA':x.A=some ⟨q,0,none⟩:=by injection e
        have hq:q≠x.b:=fun e'=>by
         rw[own,hA',e'] at h1;simp at h1
        exact .inr ⟨q,cap,cur,e,hB,(hoth q (Array.getElem?_eq_some_iff.1 hh).1 hq).trans hh,hr⟩)
   clear hA0 hA hg hk;go_enter Tryz.func168,Tryz.ntmps168
   go_wp2
   go_end0
   exact⟨rfl,HP.out⟩
 | some g=>
   rw[hm] at h2;have hk:=H.out.map;rw[hm] at hk
   obtain⟨D,hD⟩:=hk
   obtain⟨w',D',hrun,hA,hg⟩:=hD.store nm hs nb hN
   have HP:=hid (show PutR w N x f d s nm nb w' from by
    obtain⟨ty,hbox⟩:=H.out.box
    have hgx:x.b≠g:=fun e=>by rw[own,hm,e] at h1;simp at h1
    refine⟨g,.inl hm,⟨⟨ty,?_⟩,?_,⟨D',hA⟩⟩,Chg.grown hg (by simp[own,hm])⟩
    · rw[← hm]
      exact (hg.block x.b hlt (fun e=>hgx (by injection e))).trans hbox
    · refine H.out.row.kept hg ?_
      cases hA:x.A with
      | none=>exact .inl rfl
      | some a=>
        refine .inr (fun e=>?_)
        have:a.block=g:=by simpa [Value.ownBlock] using e
        rw[own,hm,hA] at h1;simp[this] at h1)
   clear hD hA hg;go_enter Tryz.func168,Tryz.ntmps168
   go_wp2
   go_end0
   exact⟨rfl,HP.out⟩
end Trk
end
section
open Go.RowKit Go.MapKept
namespace Trk
open Tre (Nm Th fi isDirAt dirT goT goF setT dropT fileT addT)
open Pat (Txs)
theorem app_ne {p q:Nm} {x y:ByteArray} (h:q≠p):q++[x]≠p++[y]:=fun e=>h (List.append_inj' e rfl).1
theorem app_inj {p:Nm} {x y:ByteArray} (h:p++[x]=p++[y]):x=y:=by
 have:=(List.append_inj' h rfl).2
 injection this
theorem app_self {p:Nm} {x:ByteArray}:p++[x]≠p:=fun e=>by
 have:=congrArg List.length e
 simp at this
def La (L:Nm→Nd) (p:Nm) (nm:ByteArray) (nb g:Nat) (q:Nm):Nd:=if q=p++[nm] then ⟨nb,none,0,none⟩ else if q=p then ⟨(L p).b,(L p).A,(L p).c,some g⟩ else L q
section
variable {L : Nm → Nd} {p : Nm} {nm : ByteArray} {nb g : Nat}
theorem La_new:La L p nm nb g (p++[nm])=⟨nb,none,0,none⟩:=if_pos rfl
theorem La_up:La L p nm nb g p=⟨(L p).b,(L p).A,(L p).c,some g⟩:=by
 unfold La;rw[if_neg (fun e=>app_self e.symm),if_pos rfl]
theorem La_other {q:Nm} (h:q≠p++[nm]) (h':q≠p):La L p nm nb g q=L q:=by
 unfold La;rw[if_neg h,if_neg h']
theorem La_b {q:Nm} (h:q≠p++[nm]):(La L p nm nb g q).b=(L q).b:=by
 unfold La;rw[if_neg h]
 split
 · rename_i e
   rw[e]
 · rfl
end
theorem own_mem {x:Nd} {i:Nat}:i∈own x↔i=x.b∨x.m=some i∨x.A.map (·.block)=some i:=by
 simp[own]
theorem Mem.add {w w':World} {N:Nat} {t:List Th} {L:Nm→Nd} (h:Mem w N t L) (hW:Wf t) {p:Nm} {nm:ByteArray} {s:ByteArray} {nb:Nat} {d:Bool} {ty:TypeId} (hp:T t p=some (true,s)) (hn:T t (p++[nm])=none)
 (hnb:w.heap[nb]? = some (.cells #[.bool (!d),.slice none 0 0,.map none] ty (0,0))) (hF:¬ Fp t L nb) (hr:PutR w N (L p) (kb t L p) true s nm nb w') :
 ∃ g,(Fp t L g∨g=w.heap.size)∧Mem w' (N+1) (t++[(p++[nm],d,ByteArray.empty)]) (La L p nm nb g)∧Chg (Fp t L) w w':=by
 obtain⟨g,hg,hN,hc⟩:=hr
 have hlt:=(Array.getElem?_eq_some_iff.1 hnb).1;have hFp:∀ i∈own (L p),Fp t L i:=fun i hi=>⟨p,_,hp,hi⟩
 have hgF:Fp t L g∨g=w.heap.size:=by
  rcases hg with hg | hg
  · exact .inl (hFp g (own_mem.2 (.inr (.inl hg))))
  · exact .inr hg
 refine⟨g,hgF,?_,⟨hc.os,hc.tape,hc.output,hc.size,fun k hk hn=>hc.block k hk (fun e=>hn (hFp k e))⟩⟩
 obtain⟨hne,hfi⟩:=T_no hn
 have hT:∀ q,T (t++[(p++[nm],d,ByteArray.empty)]) q=if q=p++[nm] then some (d,ByteArray.empty) else T t q:=T_app (x:=(p++[nm],d,ByteArray.empty)) hne hfi
 have hkid:∀ x,T t (p++[nm]++[x])=none:=fun x=>by
  cases hv:T t (p++[nm]++[x]) with
  | none=>rfl
  | some v=>
    obtain⟨s',hs'⟩:=hW.up _ _ _ hv
    rw[hn] at hs'
    cases hs'
 have hown:∀ i,i∈own (La L p nm nb g p)→i∈own (L p)∨i=w.heap.size:=fun i hi=>by
  rw[La_up,own_mem] at hi;simp only[Option.some.injEq] at hi
  rcases hi with hi | hi | hi
  · exact .inl (own_mem.2 (.inl hi))
  · rcases hg with hg | hg
    · exact .inl (own_mem.2 (.inr (.inl (hi ▸ hg))))
    · exact .inr (by omega)
  · exact .inl (own_mem.2 (.inr (.inr hi)))
 refine h.step (fun q=>q=p++[nm]∨q=p) (Nat.le_succ N) (fun q hq=>?_) (fun q hq=>?_) (fun q v hv hq i hi=>?_) (fun q x v hv hq=>?_) (fun q d' s' hq hv=>?_) (fun q v hq hv=>?_) (fun q r v u hq hv hu hne' i hi=>?_)
 · rw[hT,if_neg (fun e=>hq (.inl e))]
 · exact La_other (fun e=>hq (.inl e)) (fun e=>hq (.inr e))
 · exact hc.block i (h.lt ⟨q,v,hv,hi⟩) (fun e=>h.apart q p v _ hv hp (fun e=>hq (.inr e)) i hi e)
 · unfold kb
   rw[hT,if_neg (app_ne (fun e=>hq (.inr e))),La_b (app_ne (fun e=>hq (.inr e)))]
 · rcases hq with rfl | rfl
   · rw[hT,if_pos rfl] at hv
     injection hv with hv
     injection hv with h1 h2
     subst h1 h2;rw[La_new]
     refine⟨⟨ty,(hc.block nb hlt (fun e=>hF (hFp _ e))).trans hnb⟩,⟨rfl,.inl ⟨rfl,rfl⟩⟩,fun x=>?_⟩
     unfold kb;rw[hT,if_neg app_self,hkid];rfl
   · rw[hT,if_neg (fun e=>app_self e.symm),hp] at hv
     injection hv with hv
     injection hv with h1 h2
     subst h1 h2;rw[La_up]
     refine⟨hN.box,hN.row,hN.map.congr fun x=>?_⟩
     unfold kb;rw[hT];by_cases e:x=nm
     · subst e
       rw[if_pos rfl,if_pos rfl,La_new];rfl
     · rw[if_neg e,if_neg (fun e'=>e (app_inj e')),La_b (fun e'=>e (app_inj e'))]
 · rcases hq with rfl | rfl
   · rw[La_new]
     simp[own]
   · rw[La_up]
     have ho:=h.one _ _ hp
     rcases hg with hg | hg
     · have:(⟨(L q).b,(L q).A,(L q).c,some g⟩:Nd)=L q:=by rw[← hg]
       rw[this];exact ho
     · have hb:(L q).b < w.heap.size:=h.lt ⟨q,_,hp,own_mem.2 (.inl rfl)⟩
       have hA:∀ a,(L q).A=some a→a.block < w.heap.size:=fun a e=>h.lt ⟨q,_,hp,own_mem.2 (.inr (.inr (by rw[e];rfl)))⟩
       unfold own at ho ⊢
       cases hA':(L q).A with
       | none=>simp;omega
       | some a=>
         have:=hA a hA'
         rw[hA'] at ho;simp at ho ⊢
         exact⟨⟨by omega,ho.1.2⟩,by omega⟩
 · rcases hq with rfl | rfl
   · rw[La_new] at hi
     have hi:i=nb:=by simpa [own] using hi
     subst hi;rw[hT,if_neg hne'] at hu;by_cases e:r=p
     · subst e
       intro hi'
       rcases hown _ hi' with h1 | h1
       · exact hF (hFp _ h1)
       · omega
     · rw[La_other hne' e]
       exact fun h1=>hF ⟨r,u,hu,h1⟩
   · intro hi'
     by_cases e:r=q++[nm]
     · subst e
       rw[La_new] at hi';have hi':i=nb:=by simpa [own] using hi'
       subst hi'
       rcases hown _ hi with h1 | h1
       · exact hF (hFp _ h1)
       · omega
     · rw[hT,if_neg e] at hu
       rw[La_other e hne'] at hi'
       rcases hown _ hi with h1 | h1
       · exact h.apart q r _ u hp hu (fun e=>hne' e.symm) i h1 hi'
       · have:=h.lt ⟨r,u,hu,hi'⟩
         omega
theorem Mem.mono {w:World} {N N':Nat} {t:List Th} {L:Nm→Nd} (h:Mem w N t L) (hN:N≤N'):Mem w N' t L:=
 ⟨fun p d s e=>⟨(h.nod p d s e).box,(h.nod p d s e).row,(h.nod p d s e).map.mono hN⟩,h.one,h.apart⟩
end Trk
end
section
open Lib (hid)
open Go.RowKit Go.MapKept
namespace Trk
open Tre (Nm Th fi isDirAt dirT goT goF setT dropT fileT addT)
open Pat (Txs)
def TrkR (w:World) (N:Nat) (t:List Th) (L:Nm→Nd) (t':List Th) (w':World):Prop:=
 Chg (Fp t L) w w'∧∃ L',Mem w' (N+1) t' L'∧(L' []).b=(L []).b∧∀ i,Fp t' L' i→Fp t L i∨w.heap.size≤i
theorem TrkR.same {w w':World} {N:Nat} {t:List Th} {L:Nm→Nd} (h:Mem w N t L) (hb:Below w.heap.size w w'):TrkR w N t L t w':=
 ⟨Chg.of_below hb,L,(h.keep hb).mono (Nat.le_succ N),rfl,fun _ hi=>.inl hi⟩
theorem TrkR.after {w w1 w':World} {N:Nat} {t t':List Th} {L:Nm→Nd} (hb:Below w.heap.size w w1) (h:TrkR w1 N t L t' w'):TrkR w N t L t' w':=by
 obtain⟨h1,L',h2,h3,h4⟩:=h
 exact⟨Chg.after hb h1,L',h2,h3,fun i hi=>(h4 i hi).imp id (fun e=>Nat.le_trans hb.size e)⟩
def PutsR (w:World) (N:Nat) (t:List Th) (L:Nm→Nd) (nb:Nat) (t':List Th) (w':World):Prop:=
 Chg (Fp t L) w w'∧∃ L',Mem w' (N+1) t' L'∧(L' []).b=(L []).b∧∀ i,Fp t' L' i→Fp t L i∨i=nb∨w.heap.size≤i
theorem PutsR.same {w w':World} {N nb:Nat} {t:List Th} {L:Nm→Nd} (h:Mem w N t L) (hb:Below w.heap.size w w'):PutsR w N t L nb t w':=
 ⟨Chg.of_below hb,L,(h.keep hb).mono (Nat.le_succ N),rfl,fun _ hi=>.inl hi⟩
theorem fp_add {w:World} {t:List Th} {L:Nm→Nd} {p:Nm} {nm:ByteArray} {nb g:Nat} {d:Bool} {s:ByteArray} (hp:T t p=some (true,s)) (hn:T t (p++[nm])=none) (hg:Fp t L g∨g=w.heap.size) :
 ∀ i,Fp (t++[(p++[nm],d,ByteArray.empty)]) (La L p nm nb g) i→Fp t L i∨i=nb∨w.heap.size≤i:=by
 rintro i ⟨q,v,hv,hi⟩
 obtain⟨hne,hfi⟩:=T_no hn
 rw[T_app (x:=(p++[nm],d,ByteArray.empty)) hne hfi] at hv;by_cases e:q=p++[nm]
 · subst e
   rw[La_new] at hi;exact .inr (.inl (by simpa [own] using hi))
 · rw[if_neg e] at hv
   by_cases e':q=p
   · subst e'
     rw[La_up,own_mem] at hi;simp only[Option.some.injEq] at hi
     rcases hi with hi | hi | hi
     · exact .inl ⟨q,_,hp,own_mem.2 (.inl hi)⟩
     · subst hi
       exact hg.imp id (fun e=>.inr (by omega))
     · exact .inl ⟨q,_,hp,own_mem.2 (.inr (.inr hi))⟩
   · rw[La_other e e'] at hi
     exact .inl ⟨q,v,hv,hi⟩
theorem put_any (w:World) (N b0 nb:Nat) (t:List Th) (L:Nm→Nd) (p:ByteArray) (d:Bool) (ty:TypeId) (hM:Mem w N t L) (hb:(L []).b=b0) (hW:Wf t) (hp:p.size < 4294967281) (hN:N≤1000000)
 (hnb:w.heap[nb]? = some (.cells #[.bool (!d),.slice none 0 0,.map none] ty (0,0))) (hF:¬ Fp t L nb) :
 Calls Tryz.prog 100 #[.pointer (some ⟨b0,0,none⟩),.string p,.pointer (some ⟨nb,0,none⟩)] w fun e w'=>e = .returned (.int .i64 (addT t p d).2)∧PutsR w N t L nb (addT t p d).1 w':=by
 have HM:=hid hM;have hlt:=(Array.getElem?_eq_some_iff.1 hnb).1;have HNB:=hid hnb;have HL:=hid hlt;have HF:=hid hF;clear hM hnb hF hlt;go_enter Tryz.func100,Tryz.ntmps100
 go_wp2_with fail
 refine (Pat.split_any w p hp).mono ?_;rintro e w1 ⟨hb1,h1⟩;have HB1:=hid hb1;have HM1:=hid (HM.out.keep hb1);clear hb1
 rcases h1 with ⟨l,A,c,hs,rfl,hc,ht⟩ | ⟨hs,rfl⟩
 · have HS:=hid hs
   have HC:=hid hc;have HI:=hid (spl_is hs);have HT:=hid ht;clear hs ht hc
   rcases List.eq_nil_or_concat l with rfl | ⟨m,s,rfl⟩
   · have HZ:=hid (Tre.addT_root (t:=t) (d:=d) HS.out)
     simp only[List.length_nil];go_wp2_with fail
     refine (Pat.parent_no w1 A c).mono ?_;rintro e w2 ⟨rfl,rfl⟩;go_wp2
     refine bodyPost_ret (v:=.int .i64 5) ?_ rfl ⟨by rw[HZ.out],by rw[HZ.out];exact PutsR.same HM.out HB1.out⟩;simp[results,Tryz.results100,go_sem]
   · rw[List.concat_eq_append] at *
     have hk:(m++[s]).take ((m++[s]).length - 1)=m:=by simp
     have hne:m++[s]≠[]:=by simp
     have HIm:=hid (show Pat.IsNames m from ⟨by have:=HI.out.1;simp at this;omega,fun z hz=>HI.out.2 z (by simp[hz])⟩);have hss:=right_len (HI.out.2 s (by simp))
     have hss2:s.size≤1000000:=by
      have:=(HI.out.2 s (by simp)).1.2
      rw[Crc.tx_len] at this;omega
     have hml:m.length≤1000000:=by have:=HIm.out.1;omega
     have HG:=hid (fun h=>hk ▸ Tre.addT_go (t:=t) (d:=d) HS.out hne (hk.symm ▸ h))
     obtain⟨n,hn⟩:∃ n,n=(m++[s]).length:=⟨_,rfl⟩
     rw[← hn];have hn':n=m.length+1:=by rw[hn];simp
     obtain⟨k,hk'⟩:∃ k,k=m.length:=⟨_,rfl⟩
     rw[← hk'] at hn' hml;have HPAR:=hid (Pat.parent_yes w1 A c n k m s HT.out hk'.symm hn' hml);have HKL:=hid hk';clear hn hn' hk';go_wp2_with fail
     refine HPAR.out.mono ?_;rintro e w2 ⟨g,rfl,_,ho,hb2⟩;have HB2:=hid (HB1.out.trans (hb2.mono HB1.out.size));have HM2:=hid (HM.out.keep HB2.out);have HO:=hid (Pat.Own.txs ho (fun z hz=>by have:=(HIm.out.2 z hz).1.2;rw[Crc.tx_len] at this;omega) (by have:=HKL.out;omega));have HFOL:=hid (follow_any w2 N b0 k k t L (some ⟨g,0,none⟩) m HM2.out hb HO.out HIm.out HKL.out.symm);clear ho hb2 HT HC HPAR;go_wp2_with fail
     refine HFOL.out.mono ?_;rintro e w3 ⟨rfl,rfl⟩;by_cases hg:goT t m=0
     · obtain⟨⟨d',s'⟩,hv⟩:=goT_some hg
       have HGO:=hid (hk.symm ▸ hg:goT t ((m++[s]).take ((m++[s]).length - 1))=0);rw[gv_yes hg,hg];have HD:=hid (HM2.out.nod _ _ _ hv);have h0:=HD.out.c0;have h2:=HD.out.c2;have HV:=hid hv;have HDI:=hid (hk.symm ▸ dirT_T hv:dirT t ((m++[s]).take ((m++[s]).length - 1))=d');have hlk:=HD.out.look s hss;unfold pv;clear hv hg HG
       cases d' with
       | false=>
         simp only[Bool.not_false] at h0;have HZ:=hid (Tre.addT_file (t:=t) (d:=d) HS.out hne HGO.out HDI.out);clear hlk;generalize hx:L m=x at *;go_wp2
         refine bodyPost_ret (v:=.int .i64 6) ?_ rfl ⟨by rw[HZ.out],by rw[HZ.out];exact PutsR.same HM.out HB2.out⟩;simp[results,Tryz.results100,go_sem]
       | true=>
         simp only[Bool.not_true] at h0;unfold kb at hlk
         cases hv':T t (m++[s]) with
         | some u=>
           rw[hv'] at hlk;simp only[Option.map_some,pv] at hlk
           obtain⟨i,hi⟩:=fi_of_T hne hv'
           have HZ:=hid (Tre.addT_there (t:=t) (d:=d) HS.out hne HGO.out HDI.out hi);clear hv' hi;generalize hx:L m=x at *;generalize hy:L (m++[s])=y at *;go_wp2
           refine bodyPost_ret (v:=.int .i64 5) ?_ rfl ⟨by rw[HZ.out],by rw[HZ.out];exact PutsR.same HM.out HB2.out⟩;simp[results,Tryz.results100,go_sem]
         | none=>
           rw[hv'] at hlk;simp only[Option.map_none,pv] at hlk;have HZ:=hid (Tre.addT_yes (t:=t) (d:=d) HS.out hne HGO.out HDI.out (T_no hv').2);have HVN:=hid hv';have HCL:=hid (clone_any w3 s hss2);clear hv';generalize hx:L m=x at *;go_wp2_with fail
           refine HCL.out.mono ?_;rintro e w5 ⟨rfl,hb3⟩;have HB3:=hid (HB2.out.trans (hb3.mono HB2.out.size));have HM3:=hid (HM.out.keep HB3.out);have HPT:=hid (tput_any w5 N x (kb t L m) true s' s nb (HD.out.block fun i hi=>hb3.block i (HD.out.lt i hi)) (hx ▸ HM.out.one _ _ HV.out) hss hN);clear hb3;go_wp2_with fail
           refine HPT.out.mono ?_;rintro e w4 ⟨rfl,hr⟩
           have HR:=hid (show PutsR w N t L nb (t++[(m++[s],d,ByteArray.empty)]) w4 from by
            rw[← hx] at hr
            obtain⟨g',hg',hm4,hc4⟩:=HM3.out.add hW HV.out HVN.out (d:=d) (ty:=ty) ((HB3.out.block nb HL.out).trans HNB.out) HF.out hr
            refine⟨Chg.after HB3.out hc4,_,hm4,La_b (by simp),fun i hi=>?_⟩
            rcases fp_add HV.out HVN.out hg' i hi with h | h | h
            · exact .inl h
            · exact .inr (.inl h)
            · exact .inr (.inr (Nat.le_trans HB3.out.size h)))
           clear hr;go_wp2
           refine bodyPost_ret (v:=.int .i64 0) ?_ rfl ⟨by rw[HZ.out],by rw[HZ.out];exact HR.out⟩;simp[results,Tryz.results100,go_sem]
     · have HZ:=hid (HG.out hg)
       rw[gv_no hg];unfold pv;clear HG;generalize goT t m=g at *;go_wp2
       refine bodyPost_ret (v:=.int .i64 g) ?_ rfl ⟨by rw[HZ.out],by rw[HZ.out];exact PutsR.same HM.out HB2.out⟩;simp[results,Tryz.results100,go_sem]
 · have HZ:=hid (Tre.addT_none (t:=t) (d:=d) hs)
   clear hs;go_wp2
   refine bodyPost_ret (v:=.int .i64 3) ?_ rfl ⟨by rw[HZ.out],by rw[HZ.out];exact PutsR.same HM.out HB1.out⟩;simp[results,Tryz.results100,go_sem]
theorem PutsR.trk {w w1 w':World} {N nb:Nat} {t t':List Th} {L:Nm→Nd} (hb:Below w.heap.size w w1) (hn:w.heap.size≤nb) (h:PutsR w1 N t L nb t' w'):TrkR w N t L t' w':=by
 obtain⟨h1,L',h2,h3,h4⟩:=h
 refine⟨Chg.after hb h1,L',h2,h3,fun i hi=>?_⟩
 rcases h4 i hi with h | h | h
 · exact .inl h
 · exact .inr (h ▸ hn)
 · exact .inr (Nat.le_trans hb.size h)
section
variable (w : World) (N b0 : Nat) (t : List Th) (L : Nm → Nd) (p : ByteArray) (hM : Mem w N t L) (hb : (L []).b = b0) (hW : Wf t) (hp : p.size < 4294967281) (hN : N ≤ 1000000)
include hM hb hW hp hN
theorem create_any:Calls Tryz.prog 50 #[.pointer (some ⟨b0,0,none⟩),.string p] w fun e w'=>e = .returned (.int .i64 (addT t p false).2)∧TrkR w N t L (addT t p false).1 w':=by
 have hb1:=(Below.refl w.heap.size w).alloc (Nat.le_refl _) (.cells #[.bool true,.slice none 0 0,.map none] 175);have HM:=hid hM;have HB1:=hid hb1;have HP:=hid (put_any _ N b0 w.heap.size t L p false 175 (HM.out.keep hb1) hb hW hp hN (heap_alloc_new w _) (fun h=>by have:=HM.out.lt h;omega));clear hM hb1;go_enter Tryz.func50,Tryz.ntmps50
 go_wp2_with fail
 refine HP.out.mono ?_;rintro e w1 ⟨rfl,h1⟩;have HR:=hid (PutsR.trk HB1.out (Nat.le_refl _) h1);clear h1;generalize hg:(addT t p false).2=g;have HG:=hid hg;clear hg;go_wp2
 refine bodyPost_ret (v:=.int .i64 g) ?_ rfl ⟨by rw[HG.out],HR.out⟩;simp[results,Tryz.results50,go_sem]
theorem mkdir_any:Calls Tryz.prog 49 #[.pointer (some ⟨b0,0,none⟩),.string p] w fun e w'=>e = .returned (.int .i64 (addT t p true).2)∧TrkR w N t L (addT t p true).1 w':=by
 have hb1:=(Below.refl w.heap.size w).alloc (Nat.le_refl _) (.cells #[.bool false,.slice none 0 0,.map none] 175);have HM:=hid hM;have HB1:=hid hb1;have HP:=hid (put_any _ N b0 w.heap.size t L p true 175 (HM.out.keep hb1) hb hW hp hN (heap_alloc_new w _) (fun h=>by have:=HM.out.lt h;omega));clear hM hb1;go_enter Tryz.func49,Tryz.ntmps49
 go_wp2_with fail
 refine HP.out.mono ?_;rintro e w1 ⟨rfl,h1⟩;have HR:=hid (PutsR.trk HB1.out (Nat.le_refl _) h1);clear h1;generalize hg:(addT t p true).2=g;have HG:=hid hg;clear hg;go_wp2
 refine bodyPost_ret (v:=.int .i64 g) ?_ rfl ⟨by rw[HG.out],HR.out⟩;simp[results,Tryz.results49,go_sem]
end
end Trk
end
section
open Go.RowKit Go.MapKept
namespace Trk
theorem zero_list (v:Value) (k:Nat):(Builtin.zeroCells #[v] k).toList=List.replicate k v:=by
 apply List.ext_getElem
 · simp[Builtin.zeroCells]
 · intro i h1 h2
   simp[Builtin.zeroCells,Nat.mod_one]
section
variable {P : Program}
theorem run_append_zeros (w:World) (base:Nat) (t tn ty e:TypeId) (i:TypeInfo) (z:Value) (kq kn:IntKind) (ht:P.underlying t=some (.slice e)) (htn:P.underlying tn=some (.int kn)) (hi:P.info? e=some i) (hz:i.zero=some z)
 (hsize:i.size=1) (hby:i.bytes=1) (hzs:z.cells=#[z]) (hz1:z.oneCell'=true) (v:Value) (n:Nat) (xs:List Value) (hown:w.ownsRow base e 1 v n xs) (k:Nat) (h0:0 < k) (hk:n+k≤1000000000) (hbase:base≤w.heap.size) :
 ∃ v' w',(Builtin.append_ #[t,tn] ty #[v,.int kq (k:Int)]).run P w = .ok v' w'∧w'.ownsRow base e 1 v' (n+k) (xs++List.replicate k z)∧w.grownBy w' v.ownBlock∧(v'.ownBlock=v.ownBlock∨v'.ownBlock=some w.heap.size):=by
 have hlen:(xs++List.replicate k z).length=(n+k) * 1:=by rw[List.length_append,hown.1,List.length_replicate,Nat.mul_one,Nat.mul_one]
 have grown:∀ (old:Nat) (row:Option Nat),
  (w.drew.alloc (.cells (xs.toArray++Builtin.zeroCells z.cells k++Builtin.zeroCells z.cells (grownCap w (n+k) old e - (n+k))) e)).ownsRow base e 1
    (.slice (some ⟨w.heap.size,0,none⟩) (n+k) (grownCap w (n+k) old e)) (n+k) (xs++List.replicate k z) ∧
  w.grownBy (w.drew.alloc (.cells (xs.toArray++Builtin.zeroCells z.cells k++Builtin.zeroCells z.cells (grownCap w (n+k) old e - (n+k))) e)) row:=by
  intro old row;have hge:=grownCap_ge w (n+k) old e;have hcm:grownCap w (n+k) old e≤maxLen:=grownCap_le_maxLen w (n+k) old e (by unfold maxLen;omega);have hxl:xs.length=n:=by have:=hown.1;omega
  refine⟨⟨hlen,.inr ⟨w.heap.size,_,_,rfl,hbase,heap_alloc_new w.drew _,hge,hcm,?_,?_⟩⟩,⟨rfl,rfl,rfl,by simp,fun k' hk' _=>Below.heap_alloc w.drew _ k' hk'⟩⟩
  · simp only[Array.size_append,List.size_toArray,size_zeroCells,hzs,hxl]
    simp;omega
  · simp only[Array.toList_append,List.append_assoc]
    rw[← List.append_assoc,← hlen,hzs,zero_list];exact List.take_left
 rcases hown.2 with ⟨rfl,rfl⟩ | ⟨g,cap,cur,rfl,hbg,hg,hnc,hcm,hcs,htake⟩
 · have hx:xs=[]:=List.eq_nil_of_length_eq_zero (by simpa using hown.1)
   subst hx;have hr:=Lib.run_append_nil_zeros (P:=P) w t tn ty e i z kq kn ht htn hi hz k h0 (by omega) (by omega) (by rw[hby];omega);have hgr:=grown 0 (Value.ownBlock (.slice none 0 0));simp only[Nat.zero_add,List.nil_append] at hgr ⊢
   exact⟨_,_,hr,by simpa using hgr.1,by simpa using hgr.2,.inr rfl⟩
 · have hxl:xs.length=n:=by have:=hown.1;omega
   by_cases hroom:n+k≤cap
   · have hst:=run_storeCells_at P g n e (List.replicate k z) 0 cur w hg (by rw[List.length_replicate,hcs];omega) (fun x hx=>by obtain⟨_,rfl⟩:=List.mem_replicate.1 hx;exact hz1)
     have hw:IntKind.i64.wrap (k:Int)=k:=by rw[IntKind.wrap_i64];omega
     have hadd:(⟨g,0,none⟩:Addr).add n=⟨g,n,none⟩:=by rw[Go.WideShapes.add_plain,Nat.zero_add]
     refine⟨.slice (some ⟨g,0,none⟩) (n+k) cap,w.setRow g (cur.toList.take (n+0)++List.replicate k z++cur.toList.drop (n+0+(List.replicate k z).length)).toArray,?_,⟨hlen,.inr ⟨g,cap,_,rfl,hbg,setRow_heap w g cur _ e _ hg,hroom,hcm,?_,?_⟩⟩,⟨rfl,rfl,rfl,by simp,fun k _ hk=>setRow_other w g k _ (fun e=>hk (by simp[Value.ownBlock,e]))⟩,.inl rfl⟩
     · have h1:¬ (281474976710656 < (k:Int)):=by omega
       have h2:¬ k=0:=by omega
       have h3:¬ ((k:Int) < 0):=by omega
       have hst':(storeCells ⟨g,n,none⟩ (List.replicate k z)).run P w=_:=hst;simp[Builtin.append_,run_underlying ht,run_underlying htn,sizeOf,typeInfo,zeroValue,hi,hz,hsize,hby,asInt,asIntOf,hw,h1,h2,h3,hroom,hzs,zero_list,hadd,hst']
     · simp only[List.size_toArray,List.length_append,List.length_take,List.length_drop,Array.length_toList,List.length_replicate]
       omega
     · have ht':cur.toList.take (n+0)=xs:=by rw[Nat.add_zero,← htake,Nat.mul_one]
       rw[ht',← hlen];exact List.take_left
   · have holds:∀ j u,xs[j]? = some u→w.drew.cell? ((⟨g,0,none⟩:Addr).add j)=some u:=fun j u hu=>hown.cells (g:=g) rfl j u (by simpa using hu)
     have hl:=run_loadCells_list (P:=P) w.drew ⟨g,0,none⟩ xs holds
     have hr:=Lib.run_append_grow_zeros (P:=P) w t tn ty e i z kq kn ht htn hi hz (some ⟨g,0,none⟩) n cap xs (by
      unfold Builtin.firstCells;rw[hsize,Nat.mul_one,← hxl]
      exact hl) k h0 (by omega) (by omega) (by omega) (by rw[hby];omega) (by
       rw[hby]
       have:=nextslicecap_le (show cap < n+k by omega)
       omega)
     have hgr:=grown cap (Value.ownBlock (.slice (some ⟨g,0,none⟩) n cap))
     exact⟨_,_,hr,hgr.1,hgr.2,.inr rfl⟩
end
theorem step_append_zeros {P:Program} {w w':World} {ops:Array Oper} {o:Oper} {a:Act} {K:Act→World→Prop} {Q:Exit→Act→World→Prop} {E:Prop} (hgd:o.guard=none) (s x:Operand) (t tn:TypeId)
 (ho:o.op = .call { callee:=.builtin .append,args:=#[s,x],argTypes:=#[t,tn] }) (v u v':Value) (hs:a.eval s=v) (hx:a.eval x=u) (hr:(Builtin.append_ #[t,tn] o.type #[v,u]).run P w = .ok v' w')
 (h:K (a.put o.dst v') w'):if Region.wanted o (yielded ops a.tmps)=true then Oper.wp P o a w K Q else E:=by
 have hw:Region.wanted o (yielded ops a.tmps)=true:=by simp[Region.wanted,hgd]
 rw[if_pos hw];unfold Oper.wp execOp;simp only[ho,resolve,invoke,builtin,Sem.run_bind,Sem.run_pure,Result.andThen_ok,List.map_toArray,List.map_cons,List.map_nil,hs,hx,hr];exact h
end Trk
end
section
open Lib (hid)
open Go.RowKit Go.MapKept
namespace Trk
open Tre (Nm Th fi isDirAt dirT goT goF setT dropT fileT addT zt)
open Pat (Txs)
def DatR (w:World) (N:Nat) (x:Nd) (f:ByteArray→Option Nat) (d:Bool) (s':ByteArray) (w':World):Prop:=
 ∃ A' c',Nod w' N ⟨x.b,A',c',x.m⟩ f d s'∧(∀ a,A'=some a→x.A.map (·.block)=some a.block∨w.heap.size≤a.block)∧Chg (·∈own x) w w'
theorem dat_nodup {w:World} {x:Nd} (h1:(own x).Nodup) (hlt:∀ i∈own x,i < w.heap.size) {A':Option Addr} {c':Nat} (hA:∀ a,A'=some a→x.A.map (·.block)=some a.block∨w.heap.size≤a.block):(own ⟨x.b,A',c',x.m⟩).Nodup:=by
 cases hA':A' with
 | none=>
   unfold own at h1 ⊢;simp only[Option.map_none,Option.toList_none,List.append_nil];refine List.Nodup.sublist ?_ h1;exact List.Sublist.cons_cons _ (List.sublist_append_left _ _)
 | some a=>
   rcases hA a hA' with h | h
   · have:own (⟨x.b,some a,c',x.m⟩:Nd)=own x:=by
      unfold own;rw[h];rfl
     rw[this];exact h1
   · have hb:=hlt x.b (own_mem.2 (.inl rfl))
     unfold own
     cases hm:x.m with
     | none=>simp;omega
     | some g=>
       have hg:=hlt g (own_mem.2 (.inr (.inl hm)))
       have hbg:x.b≠g:=fun e=>by
        unfold own at h1;rw[hm] at h1;simp[e] at h1
       simp
       exact⟨⟨hbg,by omega⟩,by omega⟩
def Ld (L:Nm→Nd) (p:Nm) (A':Option Addr) (c':Nat) (q:Nm):Nd:=if q=p then ⟨(L p).b,A',c',(L p).m⟩ else L q
section
variable {L : Nm → Nd} {p : Nm} {A' : Option Addr} {c' : Nat}
theorem Ld_self:Ld L p A' c' p=⟨(L p).b,A',c',(L p).m⟩:=if_pos rfl
theorem Ld_other {q:Nm} (h:q≠p):Ld L p A' c' q=L q:=if_neg h
theorem Ld_b {q:Nm}:(Ld L p A' c' q).b=(L q).b:=by
 unfold Ld
 split
 · rename_i e
   rw[e]
 · rfl
end
theorem Mem.dat {w w':World} {N:Nat} {t t':List Th} {L:Nm→Nd} (h:Mem w N t L) {p:Nm} {d:Bool} {s s':ByteArray} (hp:T t p=some (d,s)) (hT:∀ n,T t' n=if n=p then some (d,s') else T t n)
 (hr:DatR w N (L p) (kb t L p) d s' w'):∃ A' c',Mem w' N t' (Ld L p A' c')∧Chg (Fp t L) w w'∧∀ i,Fp t' (Ld L p A' c') i→Fp t L i∨w.heap.size≤i:=by
 obtain⟨A',c',hN,hA,hc⟩:=hr
 have hFp:∀ i∈own (L p),Fp t L i:=fun i hi=>⟨p,_,hp,hi⟩
 have hown:∀ i,i∈own (Ld L p A' c' p)→i∈own (L p)∨w.heap.size≤i:=fun i hi=>by
  rw[Ld_self,own_mem] at hi;simp only at hi
  rcases hi with hi | hi | hi
  · exact .inl (own_mem.2 (.inl hi))
  · exact .inl (own_mem.2 (.inr (.inl hi)))
  · cases hA':A' with
    | none=>rw[hA'] at hi;simp at hi
    | some a=>
      rw[hA'] at hi;simp at hi;subst hi
      rcases hA a hA' with h | h
      · exact .inl (own_mem.2 (.inr (.inr h)))
      · exact .inr h
 have hkb:∀ q x,kb t' (Ld L p A' c') q x=kb t L q x:=fun q x=>by
  unfold kb;rw[Ld_b,hT];by_cases e:q++[x]=p
  · rw[if_pos e,e,hp]
    rfl
  · rw[if_neg e]
 refine⟨A',c',?_,⟨hc.os,hc.tape,hc.output,hc.size,fun k hk hn=>hc.block k hk (fun e=>hn (hFp k e))⟩,?_⟩
 · refine h.step (fun q=>q=p) (Nat.le_refl N) (fun q hq=>?_) (fun q hq=>?_) (fun q v hv hq i hi=>?_) (fun q x v hv hq=>hkb q x) (fun q d' s1 hq hv=>?_) (fun q v hq hv=>?_) (fun q r v u hq hv hu hne' i hi=>?_)
   · rw[hT,if_neg hq]
   · exact Ld_other hq
   · exact hc.block i (h.lt ⟨q,v,hv,hi⟩) (fun e=>h.apart q p v _ hv hp hq i hi e)
   · obtain rfl:q=p:=hq
     rw[hT,if_pos rfl] at hv;injection hv with hv
     injection hv with h1 h2
     subst h1 h2;rw[Ld_self]
     exact⟨hN.box,hN.row,hN.map.congr fun x=>(hkb q x).symm⟩
   · obtain rfl:q=p:=hq
     rw[Ld_self];exact dat_nodup (h.one _ _ hp) (fun i hi=>h.lt (hFp i hi)) hA
   · obtain rfl:q=p:=hq
     rw[hT,if_neg hne'] at hu;rw[Ld_other hne']
     rcases hown i hi with h1 | h1
     · exact h.apart q r _ u hp hu (fun e=>hne' e.symm) i h1
     · intro hi'
       have:=h.lt ⟨r,u,hu,hi'⟩
       omega
 · rintro i ⟨q,v,hv,hi⟩
   by_cases e:q=p
   · subst e
     exact (hown i hi).imp (hFp i) id
   · rw[hT,if_neg e] at hv
     rw[Ld_other e] at hi;exact .inl ⟨q,v,hv,hi⟩
def pad (s:ByteArray) (n:Nat):ByteArray:=s++zt (n - s.size)
theorem zt_zero:zt 0=ByteArray.empty:=rfl
theorem pad_none {s:ByteArray} {n:Nat} (h:n≤s.size):pad s n=s:=by
 unfold pad;rw[show n - s.size=0 by omega,zt_zero];exact ByteArray.append_empty
theorem pad_size {s:ByteArray} {n:Nat} (h:s.size≤n):(pad s n).size=n:=by
 unfold pad;rw[ByteArray.size_append,Tre.zt_size];omega
theorem tx_app (s z:ByteArray):Crc.tx (s++z)=Crc.tx s++Crc.tx z:=by
 unfold Crc.tx;rw[ByteArray.data_append,Array.toList_append,List.map_append]
theorem tx_zt (n:Nat):Crc.tx (zt n)=List.replicate n 0:=Crc.tx_str (fun b hb=>by obtain⟨_,rfl⟩:=List.mem_replicate.1 hb;decide)
theorem tx_pad (s:ByteArray) (n:Nat):Crc.tx (pad s n)=Crc.tx s++List.replicate (n - s.size) 0:=by
 unfold pad;rw[tx_app,tx_zt]
theorem grow_any (w:World) (N:Nat) (x:Nd) (f:ByteArray→Option Nat) (d:Bool) (s:ByteArray) (n:Nat) (h:Nod w N x f d s) (h1:(own x).Nodup) (hs:s.size≤268435456) (hn:n≤268435456) :
 Calls Tryz.prog 171 #[.pointer (some ⟨x.b,0,none⟩),.int .i64 (n:Int)] w fun e w'=>e = .returned (.tuple #[])∧DatR w N x f d (pad s n) w':=by
 have H:=hid h;have H1:=hid h1;have hc1:=h.c1;have hfr:=h.fr 1;have hlt:=h.blt;clear h h1;by_cases hns:n≤s.size
 · have HR:=hid (show DatR w N x f d (pad s n) w from ⟨x.A,x.c,by rw[pad_none hns];exact H.out,fun a e=>.inl (by rw[e];rfl),Chg.refl _ _⟩)
   go_enter Tryz.func171,Tryz.ntmps171
   go_wp2
   refine⟨rfl,.tuple #[],?_,rfl,HR.out⟩
   simp[results,Tryz.results171,go_sem]
 · obtain⟨i0,hi0,hz0,hz1,hz2⟩:=info_parts Crc.u8_info
   obtain⟨v',w',hap0,ho',hg',hat⟩:=run_append_zeros (P:=Tryz.prog) w.drew 0 112 3 112 5 i0 (.int .u8 0) .i64 .i64 Tryz.underlying112 Tryz.underlying3 hi0 hz0 hz1 hz2 rfl rfl _ s.size _ H.out.row.drew (n - s.size) (by omega) (by omega) (Nat.zero_le _)
   rw[show s.size+(n - s.size)=n by omega] at ho'
   replace hg':w.grownBy w' _:=⟨hg'.os,hg'.tape,hg'.output,hg'.size,hg'.block⟩
   obtain⟨A',c',rfl⟩:=Crc.row_slice ho'
   have hap:(Builtin.append_ #[112,3] 112 #[.slice x.A s.size x.c,.int .i64 (IntKind.i64.wrap ((n:Int) - (s.size:Int)))]).run Tryz.prog w.drew = .ok (.slice A' n c') w':=by
    rw[show IntKind.i64.wrap ((n:Int) - (s.size:Int))=((n - s.size:Nat):Int) by rw[IntKind.wrap_i64];omega];exact hap0
   have hne:∀ a,x.A=some a→x.b≠a.block:=fun a e e'=>by
    have:=H1.out
    unfold own at this;rw[e] at this;simp[e'] at this
   have hbx:w'.heap[x.b]? = w.heap[x.b]?:=hg'.block x.b hlt (fun e=>by
    cases hA:x.A with
    | none=>rw[hA] at e;cases e
    | some a=>
      rw[hA] at e;injection e with e
      exact hne a hA e)
   have hc1':w'.cell? ⟨x.b,1,none⟩=some (.slice x.A s.size x.c):=(World.cell?_of_block (w:=w) hbx).trans hc1;have hfr':w'.frozen? ⟨x.b,1,none⟩=false:=(World.frozen?_of_block (w:=w) hbx).trans hfr
   have HR:=hid (show DatR w N x f d (pad s n) (w'.setCell ⟨x.b,1,none⟩ (.slice A' n c')) from by
    obtain⟨ty,hbox⟩:=H.out.box
    have hlt':x.b < w'.heap.size:=Nat.lt_of_lt_of_le hlt hg'.size;have hps:(pad s n).size=n:=pad_size (by omega);have hoth:∀ k,k≠x.b→(w'.setCell ⟨x.b,1,none⟩ (.slice A' n c')).heap[k]? = w'.heap[k]?:=fun k hk=>Below.heap_setCell _ _ _ k hk
    have hAb:∀ a,A'=some a→x.A.map (·.block)=some a.block∨w.heap.size≤a.block:=fun a e=>by
     rw[e] at hat
     rcases hat with hat | hat
     · left
       cases hA:x.A with
       | none=>rw[hA] at hat;cases hat
       | some a0=>
         rw[hA] at hat;simp only[Value.ownBlock] at hat;exact hat.symm
     · right
       simp only[Value.ownBlock,Option.some.injEq] at hat
       have:w.drew.heap.size=w.heap.size:=rfl
       omega
    have hA'ne:∀ a,A'=some a→a.block≠x.b:=fun a e e'=>by
     rcases hAb a e with h | h
     · cases hA:x.A with
       | none=>rw[hA] at h;cases h
       | some a0=>
         rw[hA] at h;injection h with h
         exact hne a0 hA (e'.symm.trans h.symm)
     · omega
    refine⟨A',c',⟨⟨ty,?_⟩,?_,?_⟩,hAb,⟨hg'.os,hg'.tape,hg'.output,by simpa [World.setCell] using hg'.size,fun k hk hk'=>?_⟩⟩
    · rw[heap_setCell_same _ _ 1 _ _ (.slice A' n c') (hbx.trans hbox),hps]
      rfl
    · rw[hps,tx_pad]
      have he:Crc.u8s (Crc.tx s++List.replicate (n - s.size) 0)=Crc.u8s (Crc.tx s)++List.replicate (n - s.size) (.int .u8 0):=by
       unfold Crc.u8s;rw[List.map_append,List.map_replicate];rfl
      rw[he]
      rcases ho' with ⟨r1,r2⟩
      refine⟨r1,?_⟩
      rcases r2 with r0 | ⟨q,cap,cur,e,hB,hh,hr⟩
      · exact .inl r0
      · have hA:A'=some ⟨q,0,none⟩:=by injection e
        exact .inr ⟨q,cap,cur,e,hB,(hoth q (hA'ne _ hA)).trans hh,hr⟩
    · have hk:=H.out.map
      cases hm:x.m with
      | none=>rw[hm] at hk;exact hk
      | some g=>
        rw[hm] at hk
        obtain⟨D,hD⟩:=hk
        have hgx:g≠x.b:=fun e=>by
         have:=H1.out
         unfold own at this;rw[hm] at this;simp[e] at this
        refine⟨D,hD.block ((hoth g hgx).trans (hg'.block g hD.own.lt (fun e=>?_)))⟩
        cases hA:x.A with
        | none=>rw[hA] at e;cases e
        | some a=>
          rw[hA] at e;injection e with e
          have:=H1.out
          unfold own at this;rw[hm,hA] at this;simp[e] at this
    · have hkx:k≠x.b:=fun e=>hk' (own_mem.2 (.inl e))
      refine (hoth k hkx).trans (hg'.block k hk (fun e=>?_))
      cases hA:x.A with
      | none=>rw[hA] at e;cases e
      | some a=>
        rw[hA] at e;injection e with e
        exact hk' (own_mem.2 (.inr (.inr (by rw[hA,e];rfl)))))
   have HAP:=hid hap;clear hap hap0 ho' hg' hat hne hbx;go_enter Tryz.func171,Tryz.ntmps171
   go_upto_region 1 with fail
   go_region_law (refine step_append_zeros (w':=w') (by rfl) (.tmp 15) (.tmp 22) 112 3 (by rfl) _ _ (.slice A' n c') (by rfl) (by rfl) HAP.out ?_)
   all_goals go_wp2
   all_goals (go_end0;exact⟨rfl,HR.out⟩)
end Trk
end
section
open Lib (hid)
open Go.RowKit Go.MapKept
namespace Trk
open Tre (Nm Th fi isDirAt dirT goT goF setT dropT fileT addT zt)
open Pat (Txs)
def ovl (l:List Nat) (a:Nat) (bs:List Nat):List Nat:=l.take a++bs++l.drop (a+bs.length)
def ovr (s:ByteArray) (a:Nat) (bs:List Nat):ByteArray:=if bs=[] then s else Crc.str (ovl (Crc.tx (pad s (a+bs.length))) a bs)
theorem ovl_len {l:List Nat} {a:Nat} {bs:List Nat} (h:a+bs.length≤l.length):(ovl l a bs).length=l.length:=by
 unfold ovl;simp;omega
theorem tx_byt (s:ByteArray):Crc.Byt (Crc.tx s):=by
 intro b hb;unfold Crc.tx at hb
 obtain⟨u,_,rfl⟩:=List.mem_map.1 hb
 exact u.toNat_lt
theorem ovl_byt {l:List Nat} {a:Nat} {bs:List Nat} (h:Crc.Byt l) (h':Crc.Byt bs):Crc.Byt (ovl l a bs):=by
 intro b hb;unfold ovl at hb
 rcases List.mem_append.1 hb with hb | hb
 · rcases List.mem_append.1 hb with hb | hb
   · exact h b (List.mem_of_mem_take hb)
   · exact h' b hb
 · exact h b (List.mem_of_mem_drop hb)
theorem row_splice {w:World} {B n c g a:Nat} {t:TypeId} {xs cs:List Value} {cur:Array Value} (h:w.ownsRow B t 1 (.slice (some ⟨g,0,none⟩) n c) n xs) (hg:w.heap[g]? = some (.cells cur t (0,0))) (ha:a+cs.length≤n) :
 (w.setRow g (cur.toList.take a++cs++cur.toList.drop (a+cs.length)).toArray).ownsRow B t 1 (.slice (some ⟨g,0,none⟩) n c) n (xs.take a++cs++xs.drop (a+cs.length)):=by
 rcases h with ⟨h1,h2⟩
 refine⟨by simp;omega,?_⟩
 rcases h2 with ⟨e,h0⟩ | ⟨q,cap,cur',e,hB,hh,hnc,hcm,hcs,ht⟩
 · cases e
 · injection e with e1 e2 e3
   injection e1 with e1
   injection e1 with e1
   subst e1 e3;rw[hg] at hh;injection hh with hh
   injection hh with hh
   subst hh;refine .inr ⟨g,c,_,rfl,hB,setRow_heap w g cur _ t _ hg,hnc,hcm,?_,?_⟩
   · simp
     omega
   · rw[← ht]
     simp only[Nat.mul_one];rw[List.append_assoc,List.append_assoc,List.take_append,List.take_append,List.take_take,List.take_take,List.length_take,Array.length_toList,List.drop_take];rw[show min a cur.size=a by omega,show min n a=a by omega,show min a n=a by omega,List.take_of_length_le (show cs.length≤n - a by omega)]
     congr 3
     omega
theorem twrite_any (w:World) (N:Nat) (x:Nd) (f:ByteArray→Option Nat) (d:Bool) (s:ByteArray) (a m c:Nat) (B:Option Addr) (bs:List Nat) (h:Nod w N x f d s) (h1:(own x).Nodup) (hs:s.size≤268435456) (hm:bs.length=m) (hn:a+m≤268435456)
 (hB:Crc.Bts w B bs) (hap:∀ ad,B=some ad→bs≠[]→ad.block∉own x) :
 Calls Tryz.prog 102 #[.pointer (some ⟨x.b,0,none⟩),.int .i64 (a:Int),.slice B m c] w fun e w'=>e = .returned (.tuple #[])∧DatR w N x f d (ovr s a bs) w':=by
 by_cases h0:m=0
 · have hb0:bs=[]:=List.eq_nil_of_length_eq_zero (by omega)
   have HR:=hid (show DatR w N x f d (ovr s a bs) w from ⟨x.A,x.c,by unfold ovr;rw[if_pos hb0];exact h,fun a e=>.inl (by rw[e];rfl),Chg.refl _ _⟩);clear h h1 hB hap hm hb0;subst h0;go_enter Tryz.func102,Tryz.ntmps102
   go_wp2
   refine⟨rfl,.tuple #[],?_,rfl,HR.out⟩
   simp[results,Tryz.results102,go_sem]
 · have hb0:bs≠[]:=fun e=>by rw[e] at hm;simp at hm;omega
   have hgr:=grow_any w N x f d s (a+m) h h1 hs hn;rw[show ((a+m:Nat):Int)=(a:Int)+(m:Int) by omega] at hgr;have HG:=hid hgr;clear hgr;have H:=hid h;have H1:=hid h1;have HBB:=hid hB;have HAP:=hid hap;have HM:=hid hm;have hadd:IntKind.i64.wrap ((a:Int)+(m:Int))=((a+m:Nat):Int):=by rw[IntKind.wrap_i64];omega
   clear h h1 hB hap hm;go_enter Tryz.func102,Tryz.ntmps102
   go_wp2_with fail
   refine HG.out.mono ?_;rintro e w1 ⟨rfl,A1,c1,hN1,hA1,hc1⟩
   have hsz:(pad s (a+m)).size=max s.size (a+m):=by
    by_cases h:s.size≤a+m
    · rw[pad_size h];omega
    · rw[pad_none (by omega)];omega
   obtain⟨n1,hn1⟩:∃ n1,n1=(pad s (a+m)).size:=⟨_,rfl⟩
   have hrow:=hN1.row;rw[← hn1] at hrow;have hpos:0 < n1:=by omega
   obtain⟨g,cur,hAe,hcur,hcs,hnc⟩:∃ g cur,A1=some ⟨g,0,none⟩∧w1.heap[g]? = some (.cells cur 5 (0,0))∧cur.size=c1∧n1≤c1:=by
    rcases hrow.2 with ⟨e,h⟩ | ⟨g,cap,cur,e,_,hh,h1,_,hq,_⟩
    · omega
    · simp only[Value.slice.injEq] at e
      obtain⟨e1,_,e3⟩:=e
      rw[← e3] at h1 hq
      exact⟨g,cur,e1,hh,by omega,h1⟩
   subst hAe;have hcell:=hN1.c1;rw[← hn1] at hcell;have hsl:a+m≤n1:=by omega
   have hml:=HM.out
   have hB1:Crc.Bts w1 B bs:=by
    refine⟨HBB.out.byt,HBB.out.len,fun j hj=>?_⟩
    obtain⟨b,o,e,hlt,hc⟩:=HBB.out.at' j hj
    exact⟨b,o,e,Nat.lt_of_lt_of_le hlt hc1.size,(World.cell?_of_block (w:=w) (a:=⟨b,o+j,none⟩) (hc1.block b hlt (HAP.out _ e hb0))).trans hc⟩
   obtain⟨b,o,rfl⟩:∃ b o,B=some ⟨b,o,none⟩:=by
    obtain⟨b,o,e,_⟩:=HBB.out.at' 0 (by omega)
    exact⟨b,o,e⟩
   have hcl:(Crc.u8s bs).length=m:=by simp[Crc.u8s,hml]
   have hcp:=run_copy_row (P:=Tryz.prog) w1 112 112 3 5 g a (n1 - a) (c1 - a) ⟨b,o,none⟩ m c cur 5 (Crc.u8s bs) Tryz.underlying112 (by kernel_rfl) hcur (by rw[hcl];exact (Nat.min_eq_left (by omega)).symm) (fun j v hj=>by
    have hjl:j < bs.length:=by
     have:=(List.getElem?_eq_some_iff.1 hj).1
     omega
    obtain⟨b',o',e,_,hc'⟩:=hB1.at' j hjl
    injection e with e
    injection e with e1 e2
    subst e1 e2;rw[Go.WideShapes.add_plain,hc',← hj];simp[Crc.u8s,List.getElem?_eq_getElem hjl]) (by rw[hcl];omega) (Crc.u8s_one bs)
   rw[hcl] at hcp
   have HR:=hid (show DatR w N x f d (ovr s a bs) (w1.setRow g (cur.toList.take a++Crc.u8s bs++cur.toList.drop (a+m)).toArray) from by
    have hsp:=row_splice (a:=a) (cs:=Crc.u8s bs) hrow hcur (by rw[hcl];omega);rw[hcl] at hsp
    have hov:(ovr s a bs).size=n1:=by
     unfold ovr;rw[if_neg hb0,Crc.str_size,ovl_len (by rw[Crc.tx_len,hml,← hn1];omega),Crc.tx_len,hml,hn1]
    have htx:Crc.u8s (Crc.tx (ovr s a bs))=(Crc.u8s (Crc.tx (pad s (a+m)))).take a++Crc.u8s bs++(Crc.u8s (Crc.tx (pad s (a+m)))).drop (a+m):=by
     unfold ovr;rw[if_neg hb0,Crc.tx_str (ovl_byt (tx_byt _) HBB.out.byt),hml];unfold ovl Crc.u8s;rw[List.map_append,List.map_append,List.map_take,List.map_drop,hml]
    have hone:(own (⟨x.b,some ⟨g,0,none⟩,c1,x.m⟩:Nd)).Nodup:=dat_nodup H1.out (fun i hi=>H.out.lt i hi) hA1;have hoth:∀ k,k≠g→(w1.setRow g (cur.toList.take a++Crc.u8s bs++cur.toList.drop (a+m)).toArray).heap[k]? = w1.heap[k]?:=fun k hk=>setRow_other w1 g k _ hk
    have hbg:x.b≠g:=fun e=>by
     unfold own at hone;simp[e] at hone
    refine⟨some ⟨g,0,none⟩,c1,⟨?_,?_,?_⟩,hA1,⟨hc1.os,hc1.tape,hc1.output,by simpa [World.setRow] using hc1.size,fun k hk hk'=>?_⟩⟩
    · obtain⟨ty,hb⟩:=hN1.box
      exact⟨ty,by rw[hov,hoth _ hbg,hn1];exact hb⟩
    · rw[hov,htx]
      exact hsp
    · have hk:=hN1.map
      cases hm':x.m with
      | none=>rw[hm'] at hk;exact hk
      | some q=>
        rw[hm'] at hk
        obtain⟨D,hD⟩:=hk
        refine⟨D,hD.block (hoth q (fun e=>?_))⟩
        unfold own at hone;rw[hm'] at hone;simp[e] at hone
    · refine (hoth k (fun e=>?_)).trans (hc1.block k hk hk')
      rcases hA1 _ rfl with h | h
      · exact hk' (own_mem.2 (.inr (.inr (by rw[h,e]))))
      · simp only at h
        omega)
   clear hN1 hA1 hc1 hsz hn1 hrow hcur hcs hB1 hcl hml;go_wp2_with fail
   rw[← List.append_assoc]
   go_end0
   exact⟨rfl,HR.out⟩
end Trk
end
section
open Go.RowKit Go.MapKept
namespace Tre
section
variable {α : Type}
def ins (lt:α→α→Bool):List α→α→List α
 | [],x=>[x]
 | y :: o,x=>if lt y x=true then y :: ins lt o x else x :: y :: o
theorem ins_len (lt:α→α→Bool):∀ (o:List α) (x:α),(ins lt o x).length=o.length+1
 | [],_=>rfl
 | y :: o,x=>by
   rw[ins]
   split
   · rw[List.length_cons,ins_len lt o x];rfl
   · rfl
def sorted (lt:α→α→Bool) (l:List α):List α:=l.foldl (ins lt) []
theorem sorted_len (lt:α→α→Bool) (l:List α):(sorted lt l).length=l.length:=by
 have key:∀ (l o:List α),(l.foldl (ins lt) o).length=o.length+l.length:=by
  intro l
  induction l with
  | nil=>intro o;rfl
  | cons x l ih=>intro o;rw[List.foldl_cons,ih,ins_len,List.length_cons];omega
 have:=key l []
 simpa [sorted] using this
end
def kidT (t:List Th) (n:Nm):List ByteArray:=sorted Pat.less ((t.filter fun x=>decide (x.1.length=n.length+1∧x.1.take n.length=n)).map fun x=>x.1.getD n.length ByteArray.empty)
end Tre
end
section
open Go.RowKit Go.MapKept
namespace Tre
open Pat (Txs strs)
def kidL (t:List Th) (n:Nm):List ByteArray:=(t.filter fun x=>decide (x.1.length=n.length+1∧x.1.take n.length=n)).map fun x=>x.1.getD n.length ByteArray.empty
theorem kidT_eq (t:List Th) (n:Nm):kidT t n=sorted Pat.less (kidL t n):=rfl
def Fr (w:World) (A:Option Addr):Prop:=∀ a,A=some a→w.heap.size≤a.block
theorem Fr.back {w w':World} {A:Option Addr} (h:Fr w' A) (hs:w.heap.size≤w'.heap.size):Fr w A:=fun a e=>Nat.le_trans hs (h a e)
end Tre
end
section
open Go.RowKit Go.MapKept
namespace Tre
open Pat (Txs)
def datT (t:List Th) (i:Nat):ByteArray:=match t[i]? with | some x=>x.2.2 | none=>ByteArray.empty
def rdT (s:ByteArray) (a n:Int):ByteArray:=if (s.size:Int)≤a then ⟨#[]⟩ else if n < ((s.extract a.toNat s.size).size:Int) then (s.extract a.toNat s.size).extract 0 n.toNat else s.extract a.toNat s.size
def readT (t:List Th) (p:ByteArray) (a n:Int):ByteArray × Int:=
 if (fileT t p).2≠0 then (⟨#[]⟩,(fileT t p).2) else if a < 0∨n < 0 then (⟨#[]⟩,9) else (rdT (datT t (fileT t p).1.toNat) a n,0)
end Tre
end
section
open Go.RowKit Go.MapKept
namespace Tre
open Pat (Txs)
def rmdirT (t:List Th) (p:ByteArray):List Th × Int:=
 match Pat.spl p with
 | none=>(t,3)
 | some n=>if goT t n≠0 then (t,goT t n) else if dirT t n=false then (t,6) else if n=[] then (t,1) else if 0 < (kidT t n).length then (t,8) else (dropT t (fv t n).toNat,0)
end Tre
end
section
open Go.RowKit Go.MapKept
namespace Tre
open Pat (Txs)
def padT (s:ByteArray) (a:Int):ByteArray:=if (s.size:Int) < a then s++zt (a - s.size).toNat else s
def wrT (s:ByteArray) (a:Int) (b:ByteArray):ByteArray:=
 (padT s a).extract 0 a.toNat++b++(if a+(b.size:Int) < ((padT s a).size:Int) then (padT s a).extract (a.toNat+b.size) (padT s a).size else ⟨#[]⟩)
def writeT (t:List Th) (p:ByteArray) (a:Int) (b:ByteArray):List Th × Int:=
 if (fileT t p).2≠0 then (t,(fileT t p).2) else if a < 0∨268435456 < a∨268435456 < a+(b.size:Int) then (t,9) else if b.size=0 then (t,0) else
  (setT t (fileT t p).1.toNat (wrT (datT t (fileT t p).1.toNat) a b),0)
end Tre
end
section
open Lib (hid)
open Go.RowKit Go.MapKept
namespace Trk
open Tre (Nm Th fi isDirAt dirT goT goF setT dropT fileT addT zt datT wrT padT writeT)
open Pat (Txs)
theorem pad_take (l:List Nat) (a k:Nat):(l++List.replicate (a+k - l.length) 0).take a=(l++List.replicate (a - l.length) 0).take a:=by
 rw[List.take_append,List.take_append,List.take_replicate,List.take_replicate]
 congr 2
 omega
theorem pad_drop (l:List Nat) (a k:Nat):(l++List.replicate (a+k - l.length) 0).drop (a+k)=l.drop (a+k):=by
 rw[List.drop_append,List.drop_replicate];simp
theorem padT_nat (s:ByteArray) (a:Nat):Crc.tx (padT s (a:Int))=Crc.tx s++List.replicate (a - s.size) 0:=by
 unfold Tre.padT;by_cases h:(s.size:Int) < (a:Int)
 · rw[if_pos h,tx_app,show ((a:Int) - s.size).toNat=a - s.size by omega,tx_zt]
 · rw[if_neg h,show a - s.size=0 by omega]
   simp
theorem ovr_wr {s:ByteArray} {a:Nat} {bs:List Nat} (hb:Crc.Byt bs) (h0:bs≠[]):ovr s a bs=wrT s (a:Int) (Crc.str bs):=by
 apply Ent.tx_inj;unfold ovr Tre.wrT;rw[if_neg h0,Crc.tx_str (ovl_byt (tx_byt _) hb),tx_app,tx_app,Crc.tx_str hb,Ent.tx_extract,padT_nat]
 have hps:(padT s (a:Int)).size=max s.size a:=by
  rw[← Crc.tx_len,padT_nat,List.length_append,Crc.tx_len,List.length_replicate];omega
 have hd:Crc.tx (if (a:Int)+((Crc.str bs).size:Int) < ((padT s (a:Int)).size:Int) then (padT s (a:Int)).extract ((a:Int).toNat+(Crc.str bs).size) (padT s (a:Int)).size else ⟨#[]⟩)=(Crc.tx s).drop (a+bs.length):=by
  rw[Crc.str_size,hps,show (a:Int).toNat=a from rfl];by_cases h:(a:Int)+(bs.length:Int) < ((max s.size a:Nat):Int)
  · rw[if_pos h,Ent.tx_extract,padT_nat]
    have e:a - s.size=0:=by omega
    rw[e,List.replicate_zero,List.append_nil];exact List.take_of_length_le (by rw[List.length_drop,Crc.tx_len];omega)
  · rw[if_neg h]
    exact (List.drop_of_length_le (by rw[Crc.tx_len];omega)).symm
 rw[hd];unfold ovl;rw[tx_pad,← Crc.tx_len s,pad_take,pad_drop];simp
theorem fileT_file {t:List Th} {p:ByteArray} {n:Nm} {i:Nat} {s:ByteArray} (h:IsFile t p n i s):datT t (fileT t p).1.toNat=s∧(fileT t p).1.toNat=i∧(fileT t p).2=0:=by
 rw[h.file]
 refine⟨?_,rfl,rfl⟩
 obtain⟨hi,h2⟩:=T_fi h.ne h.fi
 rw[h.at'] at h2;injection h2 with h2
 show datT t i=s
 unfold Tre.datT;rw[List.getElem?_eq_getElem hi];exact (congrArg Prod.snd h2).symm
theorem Wf.fsize {t:List Th} (h:Wf t) {n:Nm} {d:Bool} {s:ByteArray} (hv:T t n=some (d,s)):s.size≤268435456:=by
 by_cases h0:n=[]
 · rw[h0,T_root] at hv
   injection hv with hv
   injection hv with _ hv
   rw[← hv];decide
 · exact h.size _ (T_mem h0 hv)
theorem wr_any (w:World) (N b0:Nat) (t:List Th) (L:Nm→Nd) (p:ByteArray) (x:Int) (m c:Nat) (B:Option Addr) (bs:List Nat) (hM:Mem w N t L) (hb:(L []).b=b0) (hW:Wf t) (hp:p.size < 4294967281)
 (hm:bs.length=m) (hml:m≤1000000) (hB:Crc.Bts w B bs) (hap:∀ ad,B=some ad→bs≠[]→¬ Fp t L ad.block) :
 Calls Tryz.prog 51 #[.pointer (some ⟨b0,0,none⟩),.string p,.int .i64 x,.slice B m c] w fun e w'=>e = .returned (.int .i64 (writeT t p x (Crc.str bs)).2)∧TrkR w N t L (writeT t p x (Crc.str bs)).1 w':=by
 have HM:=hid hM;have HB:=hid hB;have HAP:=hid hap;have HL:=hid hm;have hbz:(Crc.str bs).size=m:=by rw[Crc.str_size,hm]
 have HZ0:=hid (show writeT t p x (Crc.str bs)=if (fileT t p).2≠0 then (t,(fileT t p).2) else if x < 0∨268435456 < x∨268435456 < x+(m:Int) then (t,9) else if m=0 then (t,0) else (setT t (fileT t p).1.toNat (wrT (datT t (fileT t p).1.toNat) x (Crc.str bs)),0) by
  unfold Tre.writeT;rw[hbz])
 clear hM hB hap hm hbz;go_enter Tryz.func51,Tryz.ntmps51
 go_wp2_with fail
 refine (fileAt_any w N b0 t L p HM.out hb hp).mono ?_;rintro e w1 ⟨hf,hb1⟩;have HB1:=hid hb1;have HM1:=hid (HM.out.keep hb1);clear hb1
 rcases hf with ⟨he,rfl⟩ | ⟨n,i,s,hf,rfl⟩
 · have HZ:=hid (show writeT t p x (Crc.str bs)=(t,(fileT t p).2) by rw[HZ0.out,if_pos he])
   generalize hg:(fileT t p).2=g at *;clear hg;go_wp2
   refine bodyPost_ret (v:=.int .i64 g) ?_ rfl ⟨by rw[HZ.out],by rw[HZ.out];exact TrkR.same HM.out HB1.out⟩;simp[results,Tryz.results51,go_sem]
 · obtain⟨f1,f2,f3⟩:=fileT_file hf
   have HF:=hid hf;have HZ1:=hid (show writeT t p x (Crc.str bs)=if x < 0∨268435456 < x∨268435456 < x+(m:Int) then (t,9) else if m=0 then (t,0) else (setT t i (wrT s x (Crc.str bs)),0) by rw[HZ0.out,if_neg (fun h=>h f3),f1,f2]);clear f1 f2 f3 hf;by_cases hx:x < 0∨268435456 < x∨268435456 < x+(m:Int)
   · have HZ:=hid (HZ1.out.trans (if_pos hx))
     by_cases hx0:x < 0
     · clear hx
       go_wp2
       refine bodyPost_ret (v:=.int .i64 9) ?_ rfl ⟨by rw[HZ.out],by rw[HZ.out];exact TrkR.same HM.out HB1.out⟩;simp[results,Tryz.results51,go_sem]
     · have hx1:268435456 - (m:Int) < x:=by omega
       clear hx;go_wp2
       refine bodyPost_ret (v:=.int .i64 9) ?_ rfl ⟨by rw[HZ.out],by rw[HZ.out];exact TrkR.same HM.out HB1.out⟩;simp[results,Tryz.results51,go_sem]
   · obtain⟨a,rfl⟩:∃ a:Nat,x=(a:Int):=⟨x.toNat,by omega⟩
     have hx0:¬ (a:Int) < 0:=by omega
     have hx1:¬ 268435456 - (m:Int) < (a:Int):=by omega
     have hx2:a+m≤268435456:=by omega
     have HZ:=hid (HZ1.out.trans (if_neg hx));have HN:=hid (HM1.out.nod _ _ _ HF.out.at');have HTW:=hid (twrite_any w1 N (L n) (kb t L n) false s a m c B bs HN.out (HM1.out.one _ _ HF.out.at') (hW.fsize HF.out.at') HL.out hx2 (HB.out.keep HB1.out) (fun ad e h0 h=>HAP.out ad e h0 ⟨n,_,HF.out.at',h⟩));clear hx;generalize hy:L n=y at *;go_wp2_with fail
     refine HTW.out.mono ?_;rintro e w2 ⟨rfl,hr⟩
     have HR:=hid (show TrkR w N t L (writeT t p (a:Int) (Crc.str bs)).1 w2 from by
      rw[← hy] at hr;refine TrkR.after HB1.out ?_;rw[HZ.out];by_cases h0:m=0
      · have hb0:bs=[]:=List.eq_nil_of_length_eq_zero (by rw[HL.out];exact h0)
        rw[if_pos h0];unfold ovr at hr;rw[if_pos hb0] at hr
        obtain⟨A',c',q1,q2,q3⟩:=HM1.out.dat HF.out.at' (t':=t) (s':=s) (fun k=>by
         by_cases e:k=n
         · rw[if_pos e,e,HF.out.at']
         · rw[if_neg e]) hr
        exact⟨q2,_,q1.mono (Nat.le_succ N),Ld_b,q3⟩
      · have hb0:bs≠[]:=fun e=>h0 (by rw[← HL.out,e];rfl)
        rw[if_neg h0];rw[ovr_wr HB.out.byt hb0] at hr
        obtain⟨A',c',q1,q2,q3⟩:=HM1.out.dat HF.out.at' (t':=setT t i (wrT s (a:Int) (Crc.str bs))) (T_set HF.out.ne HF.out.fi HF.out.at' _) hr
        exact⟨q2,_,q1.mono (Nat.le_succ N),Ld_b,q3⟩)
     have HZ2:=hid (show (writeT t p (a:Int) (Crc.str bs)).2=0 by rw[HZ.out];split<;>rfl);clear hr;go_wp2
     refine bodyPost_ret (v:=.int .i64 0) ?_ rfl ⟨by rw[HZ2.out],HR.out⟩;simp[results,Tryz.results51,go_sem]
end Trk
end
section
open Lib (hid)
open Go.RowKit Go.MapKept
namespace Trk
open Tre (Nm Th fi isDirAt dirT goT goF setT dropT fileT addT zt datT wrT padT writeT rdT readT)
open Pat (Txs)
theorem bts_empty (w:World) (A:Option Addr):Crc.Bts w A []:=⟨fun _ h=>by simp at h,by simp,fun j h=>by simp at h⟩
theorem bts_sub {w:World} {g:Nat} {l:List Nat} (h:Crc.Bts w (some ⟨g,0,none⟩) l) (a k:Nat):Crc.Bts w (some ⟨g,a,none⟩) ((l.drop a).take k):=by
 refine⟨fun b hb=>h.byt b (List.mem_of_mem_drop (List.mem_of_mem_take hb)),?_,fun j hj=>?_⟩
 · have:=h.len
   rw[List.length_take,List.length_drop];omega
 · have hj':a+j < l.length:=by rw[List.length_take,List.length_drop] at hj;omega
   obtain⟨b,o,e,hlt,hc⟩:=h.at' (a+j) hj'
   injection e with e
   injection e with e1 e2
   subst e1 e2
   refine⟨g,a,rfl,hlt,?_⟩
   rw[show a+j=0+(a+j) by omega,hc];simp
theorem news_bts {W:World} {ad:Addr} {l:List Nat} (h:Crc.Bts W (some ad) l):∀ j u,(Crc.u8s l)[j]? = some u→W.cell? (ad.add j)=some u:=by
 intro j u hu
 have hj:j < l.length:=by
  have:=(List.getElem?_eq_some_iff.1 hu).1
  simpa [Crc.u8s] using this
 obtain⟨b,o,e,_,hc⟩:=h.at' j hj
 injection e with e
 subst e;rw[Go.WideShapes.add_plain,hc,← hu];simp[Crc.u8s,List.getElem?_eq_getElem hj]
theorem run_copy_own {W:World} {ad:Addr} {l:List Nat} (n c:Nat) (h:Crc.Bts W (some ad) l) (hn:l.length=n) (hl:n≤268435456) :
 ∃ (G:Option Addr) (gc:Nat) (w':World),(Builtin.append_ #[112,112] 112 #[.slice (some ⟨W.heap.size,0,none⟩) 0 0,.slice (some ad) n c]).run Tryz.prog (W.alloc (.cells #[] 5)) = .ok (.slice G n gc) w'∧w'.ownsRow W.heap.size 5 1 (.slice G n gc) n (Crc.u8s l)∧Below W.heap.size W w':=by
 obtain⟨i0,hi0,hz0,hz1,hz2⟩:=info_parts Crc.u8_info
 have hown:(W.alloc (.cells #[] 5)).ownsRow W.heap.size 5 1 (.slice (some ⟨W.heap.size,0,none⟩) 0 0) 0 []:=World.ownsRow_made W #[] 0 (Nat.le_refl _) (by unfold maxLen;omega) rfl;have hb:=(Below.refl W.heap.size W).alloc (Nat.le_refl _) (.cells #[] 5)
 obtain⟨v',w',hr,h2,h3,_,_⟩:=run_append_own_at (P:=Tryz.prog) (W.alloc (.cells #[] 5)) W.heap.size 112 112 5 i0 (.int .u8 0) 1 1 Tryz.underlying112 hi0 hz0 hz1 hz2 rfl (by decide) _ 0 [] hown ad n c (Crc.u8s l) (by simp[Crc.u8s,hn]) (news_bts (h.alloc _)) (Crc.u8s_one l) (by unfold maxLen;omega) (by omega) (by simp)
 rw[Nat.zero_add,List.nil_append] at h2
 obtain⟨G,gc,rfl⟩:=Crc.row_slice h2
 exact⟨G,gc,w',hr,h2,hb.grown h3 (by simp) (fun k hk=>Crc.row_base_lt hown hk)⟩
def NewR (w:World) (l:List Nat) (e:Ending) (w':World):Prop:=∃ G gc,e = .returned (.slice G l.length gc)∧w'.ownsRow w.heap.size 5 1 (.slice G l.length gc) l.length (Crc.u8s l)∧Below w.heap.size w w'
theorem bclone_any (w:World) (A:Option Addr) (n c:Nat) (l:List Nat) (h:Crc.Bts w A l) (hn:l.length=n) (hl:n≤268435456) :
 Calls Tryz.prog 172 #[.slice A n c] w (NewR w l):=by
 have hnil:∀ W a n c,(binOp .eql 112 (.slice a n c) (.slice none 0 0)).run Tryz.prog W = .ok (.bool a.isNone) W:=fun W a n c=>by
  exact Lib.run_eql_slice_nil W _ _ a n c 0 0 Tryz.underlying112
 cases A with
 | none=>
   have hl0:l=[]:=by
    cases l with
    | nil=>rfl
    | cons b l=>
      obtain⟨_,_,e,_⟩:=h.at' 0 (by simp)
      cases e
   subst hl0;have HR:=hid (show NewR w [] (.returned (.slice none 0 0)) w from ⟨none,0,rfl,World.ownsRow_nil _ _ _ _,Below.refl _ _⟩);clear h hn;go_enter Tryz.func172,Tryz.ntmps172
   go_wp2
   go_ret;exact HR.out
 | some ad=>
   obtain⟨G,gc,w',hap,ho,hb⟩:=run_copy_own n c h hn hl
   have HR:=hid (show NewR w l (.returned (.slice G n gc)) w' from ⟨G,gc,by rw[hn],by rw[hn];exact ho,hb⟩);have HAP:=hid hap;clear h hn ho hb hap;go_enter Tryz.func172,Tryz.ntmps172
   go_wp2_with (at_builtin;refine Pat.wpList_append_run rfl (.tmp 5) (.tmp 6) 112 rfl _ _ _ rfl rfl HAP.out ?_)
   go_ret;exact HR.out
theorem NewR.drewN {w w':World} {l:List Nat} {e:Ending} {j:Nat} (h:NewR (w.drewN j) l e w'):NewR w l e w':=by
 obtain⟨G,gc,h1,h2,h3⟩:=h
 exact⟨G,gc,h1,h2,⟨h3.os,h3.tape,h3.output,h3.size,h3.block⟩⟩
theorem own_low {w:World} {B B' n:Nat} {t:TypeId} {v:Value} {xs:List Value} (h:w.ownsRow B t 1 v n xs) (hB:B'≤B):w.ownsRow B' t 1 v n xs:=by
 rcases h with ⟨h1,h2⟩
 refine⟨h1,?_⟩
 rcases h2 with h0 | ⟨g,cap,cur,e,hg,hr⟩
 · exact .inl h0
 · exact .inr ⟨g,cap,cur,e,Nat.le_trans hB hg,hr⟩
def rdl (l:List Nat) (a k:Nat):List Nat:=(l.drop a).take k
theorem tread_any (w:World) (N:Nat) (x:Nd) (f:ByteArray→Option Nat) (d:Bool) (s:ByteArray) (a k:Nat) (h:Nod w N x f d s) (hs:s.size≤268435456) (ha:a≤9223372036854775807) (hk:k≤9223372036854775807) :
 Calls Tryz.prog 105 #[.pointer (some ⟨x.b,0,none⟩),.int .i64 (a:Int),.int .i64 (k:Int)] w (NewR w (rdl (Crc.tx s) a k)):=by
 have hc1:=h.c1
 obtain⟨n,hn⟩:∃ n,n=s.size:=⟨_,rfl⟩
 have hrow:=h.row;have hB:=Crc.own_bts h.row (tx_byt s) (by omega);have hlen:=Crc.tx_len s;rw[← hn] at hc1 hrow hlen hs;generalize Crc.tx s=l at *;clear h hn
 cases hA:x.A with
 | none=>
   rw[hA] at hc1 hrow
   have hn0:n=0∧x.c=0:=by
    rcases hrow.2 with ⟨e,h⟩ | ⟨_,_,_,e,_⟩
    · simp only[Value.slice.injEq] at e
      exact⟨h,e.2.2⟩
    · simp at e
   obtain⟨rfl,hc0⟩:=hn0
   rw[hc0] at hc1;have hl0:l=[]:=List.eq_nil_of_length_eq_zero hlen;have HC:=hid (fun j=>bclone_any (w.drewN j) none 0 0 [] (bts_empty _ none) rfl (by omega));have HL:=hid (show rdl l a k=[] by rw[hl0];simp[rdl]);clear hrow hB hl0 hlen;have hmin:min (a:Int) 0=0:=by omega
   have hmin2:min (k:Int) 0=0:=by omega
   go_enter Tryz.func105,Tryz.ntmps105
   go_wp2_with fail
   go_quiet (fail)
   go_wp2_with fail
   refine (HC.out _).mono ?_;rintro e w' hr;have HR:=hid (HL.out ▸ hr.drewN:NewR w (rdl l a k) e w');clear hr
   obtain⟨G,gc,rfl,_,_⟩:=HR.out
   go_wp2
   go_ret;exact HR.out
 | some ad=>
   rw[hA] at hc1 hrow hB
   obtain⟨g,rfl,hnc⟩:∃ g,ad=⟨g,0,none⟩∧n≤x.c:=by
    rcases hrow.2 with ⟨e,h⟩ | ⟨g,cap,cur,e,_,hh,h1,_,hq,_⟩
    · simp at e
    · simp only[Value.slice.injEq] at e
      obtain⟨e1,_,e3⟩:=e
      injection e1 with e1
      rw[← e3] at h1
      exact⟨g,e1,h1⟩
   obtain⟨p,hp⟩:∃ p,p=min a n:=⟨_,rfl⟩
   obtain⟨q,hq⟩:∃ q,q=min k (n - p):=⟨_,rfl⟩
   have hmin:min (a:Int) (n:Int)=(p:Int):=by omega
   have hmin2:min (k:Int) ((n - p:Nat):Int)=(q:Int):=by omega
   have hpn:p≤n:=by omega
   have hqn:q≤n - p:=by omega
   have hrd:(l.drop p).take q=rdl l a k:=by
    unfold rdl;rw[hp,hq,hp];by_cases h:a≤n
    · rw[Nat.min_eq_left h]
      by_cases h':k≤n - a
      · rw[Nat.min_eq_left h']
      · rw[Nat.min_eq_right (by omega),List.take_of_length_le (by rw[List.length_drop];omega),List.take_of_length_le (by rw[List.length_drop];omega)]
    · rw[show min k (n - min a n)=0 by omega,List.take_zero,List.drop_of_length_le (show l.length≤a by omega),List.take_nil]
   have hql:(rdl l a k).length=q:=by rw[← hrd,List.length_take,List.length_drop];omega
   have HC1:=hid (fun j=>bclone_any (w.drewN j) (some ⟨g,p,none⟩) q (x.c - p) (rdl l a k) (hrd ▸ bts_sub (w:=w.drewN j) ⟨hB.byt,hB.len,hB.at'⟩ p q) hql (by omega))
   have HC2:=hid (fun (h:x.c≤p) j=>bclone_any (w.drewN j) (some ⟨g,0,none⟩) q 0 (rdl l a k) (by
    have:rdl l a k=[]:=List.eq_nil_of_length_eq_zero (by omega)
    rw[this];exact bts_empty _ _) hql (by omega))
   clear hrow hB hlen hp hq hrd hql;have fin:∀ (e:Ending) (w':World) (j:Nat),NewR (w.drewN j) (rdl l a k) e w'→NewR w (rdl l a k) e w':=fun e w' j h=>h.drewN
   have FIN:=hid fin;clear fin;go_enter Tryz.func105,Tryz.ntmps105
   go_wp2_with fail
   go_quiet (fail)
   go_wp2_with fail
   all_goals first
    | refine (HC1.out _).mono ?_
    | refine (HC2.out (by omega) _).mono ?_
   all_goals
    rintro e w' hr;have HR:=hid (FIN.out _ _ _ hr);clear hr
    obtain⟨G,gc,rfl,_,_⟩:=HR.out
    go_wp2
    go_ret;exact HR.out
theorem rd_any (w:World) (N b0:Nat) (t:List Th) (L:Nm→Nd) (p:ByteArray) (x y:Int) (hM:Mem w N t L) (hb:(L []).b=b0) (hW:Wf t) (hp:p.size < 4294967281) (hx:x≤9223372036854775807) (hy:y≤9223372036854775807) :
 Calls Tryz.prog 53 #[.pointer (some ⟨b0,0,none⟩),.string p,.int .i64 x,.int .i64 y] w fun e w'=>∃ (G:Option Addr) (n gc:Nat),e = .returned (.tuple #[.slice G n gc,.int .i64 (readT t p x y).2])∧(Crc.tx (readT t p x y).1).length=n∧w'.ownsRow w.heap.size 5 1 (.slice G n gc) n (Crc.u8s (Crc.tx (readT t p x y).1))∧Below w.heap.size w w':=by
 have HM:=hid hM;clear hM;go_enter Tryz.func53,Tryz.ntmps53
 go_wp2_with fail
 refine (fileAt_any w N b0 t L p HM.out hb hp).mono ?_;rintro e w1 ⟨hf,hb1⟩;have HB1:=hid hb1;have HM1:=hid (HM.out.keep hb1);clear hb1
 rcases hf with ⟨he,rfl⟩ | ⟨n,i,s,hf,rfl⟩
 · have HZ:=hid (show readT t p x y=(⟨#[]⟩,(fileT t p).2) by unfold Tre.readT;rw[if_pos he])
   generalize hg:(fileT t p).2=g at *;clear hg;go_wp2
   refine bodyPost_ret (v:=.tuple #[.slice none 0 0,.int .i64 g]) ?_ rfl ⟨none,0,0,by rw[HZ.out],by rw[HZ.out];rfl,by rw[HZ.out];exact World.ownsRow_nil _ _ _ _,HB1.out⟩;simp[results,Tryz.results53,go_sem]
 · obtain⟨f1,f2,f3⟩:=fileT_file hf
   have HF:=hid hf;have HZ1:=hid (show readT t p x y=if x < 0∨y < 0 then (⟨#[]⟩,9) else (rdT s x y,0) by unfold Tre.readT;rw[if_neg (fun h=>h f3),f1]);clear f1 f2 f3 hf;by_cases hxy:x < 0∨y < 0
   · have HZ:=hid (HZ1.out.trans (if_pos hxy))
     by_cases hx0:x < 0
     · clear hxy
       generalize L n=z at *;go_wp2
       refine bodyPost_ret (v:=.tuple #[.slice none 0 0,.int .i64 9]) ?_ rfl ⟨none,0,0,by rw[HZ.out],by rw[HZ.out];rfl,by rw[HZ.out];exact World.ownsRow_nil _ _ _ _,HB1.out⟩;simp[results,Tryz.results53,go_sem]
     · have hy0:y < 0:=by omega
       clear hxy;generalize L n=z at *;go_wp2
       refine bodyPost_ret (v:=.tuple #[.slice none 0 0,.int .i64 9]) ?_ rfl ⟨none,0,0,by rw[HZ.out],by rw[HZ.out];rfl,by rw[HZ.out];exact World.ownsRow_nil _ _ _ _,HB1.out⟩;simp[results,Tryz.results53,go_sem]
   · obtain⟨a,rfl⟩:∃ a:Nat,x=(a:Int):=⟨x.toNat,by omega⟩
     obtain⟨k,rfl⟩:∃ k:Nat,y=(k:Int):=⟨y.toNat,by omega⟩
     have hx0:¬ (a:Int) < 0:=by omega
     have hy0:¬ (k:Int) < 0:=by omega
     have HZ:=hid (HZ1.out.trans (if_neg hxy))
     have HRD:=hid (show Crc.tx (rdT s (a:Int) (k:Int))=rdl (Crc.tx s) a k from by
      unfold Tre.rdT rdl
      have e1:Crc.tx (s.extract (a:Int).toNat s.size)=(Crc.tx s).drop a:=by
       rw[Ent.tx_extract];exact List.take_of_length_le (by rw[List.length_drop,Crc.tx_len];exact Nat.le_refl _)
      have e2:(s.extract (a:Int).toNat s.size).size=s.size - a:=by
       rw[← Crc.tx_len,e1,List.length_drop,Crc.tx_len]
      by_cases h1:(s.size:Int)≤(a:Int)
      · rw[if_pos h1,List.drop_of_length_le (by rw[Crc.tx_len];omega),List.take_nil]
        rfl
      · rw[if_neg h1,e2]
        by_cases h2:(k:Int) < ((s.size - a:Nat):Int)
        · rw[if_pos h2,Ent.tx_extract,e1]
          rfl
        · rw[if_neg h2,e1]
          exact (List.take_of_length_le (by rw[List.length_drop,Crc.tx_len];omega)).symm)
     have HN:=hid (HM1.out.nod _ _ _ HF.out.at');have HTR:=hid (tread_any w1 N (L n) (kb t L n) false s a k HN.out (hW.fsize HF.out.at') (by omega) (by omega));clear hxy;generalize L n=z at *;go_wp2_with fail
     refine HTR.out.mono ?_;rintro e w2 ⟨G,gc,rfl,ho,hb2⟩
     obtain⟨m,hm⟩:∃ m,m=(rdl (Crc.tx s) a k).length:=⟨_,rfl⟩
     rw[← hm] at ho ⊢;have HO:=hid ho;have HMM:=hid hm;have HB2:=hid (HB1.out.trans (hb2.mono HB1.out.size));clear ho hb2 hm;go_wp2
     refine bodyPost_ret (v:=.tuple #[.slice G m gc,.int .i64 0]) ?_ rfl ⟨G,m,gc,by rw[HZ.out],by rw[HZ.out,HRD.out,HMM.out],by rw[HZ.out,HRD.out];exact own_low HO.out HB1.out.size,HB2.out⟩;simp[results,Tryz.results53,go_sem]
end Trk
end
end Go.Proofs.YtlodpaaanfjkeaaGreatDoor
