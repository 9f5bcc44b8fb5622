/- Texts laid together: ClmMath, FldMath, LinOrd, SloEncode, SloDecode, VolSlot, ChnRead, ChnRuns, ClmRep. -/
import Derived.Test.YtlodpaaanfjkeaaGreatDoorKt4
import Derived.Test.YtlodpaaanfjkeaaGreatDoorKa1
import Derived.Test.YtlodpaaanfjkeaaGreatDoorKt1
import Derived.Test.YtlodpaaanfjkeaaGreatDoorKa2
set_option maxRecDepth 100000
set_option maxHeartbeats 4000000
namespace Go.Proofs.YtlodpaaanfjkeaaGreatDoor
section
namespace Clm
open Chn (Pt pat rd rd_iff path_mem path_nodup path_len Mays tot blk blk_len)
structure Cl where
 k:Nat
 p:Nat
 z:Nat
 l:List Pt
def need (s z:Nat):Nat:=(z+s - 1) / s
theorem need_iff {s z c:Nat} (hs:0 < s):c=need s z↔z≤c * s∧(∀ d,d < c→d * s < z):=by
 unfold need
 constructor
 · rintro rfl
   have h1:=Nat.div_add_mod (z+s - 1) s;have h2:=Nat.mod_lt (z+s - 1) hs
   refine⟨?_,fun d hd=>?_⟩
   · rw[Nat.mul_comm];omega
   · have h3:(d+1) * s≤(z+s - 1) / s * s:=Nat.mul_le_mul_right s (by omega)
     rw[Nat.add_mul,Nat.mul_comm ((z+s - 1) / s)] at h3;omega
 · rintro ⟨h1,h2⟩
   symm
   cases c with
   | zero=>
     refine Nat.div_eq_of_lt ?_;omega
   | succ d=>
     have h3:=h2 d (by omega);rw[Nat.add_mul] at h1;refine Nat.div_eq_of_lt_le ?_ ?_
     · rw[Nat.add_mul];omega
     · rw[show d+1+1=d+2 from rfl,Nat.add_mul];omega
def sls (l:List Pt):List Nat:=l.map Pt.s
def sl (L:List Cl):List Nat:=L.flatMap fun c=>sls c.l
def bl (L:List Cl):List Nat:=L.flatMap fun c=>blk c.l
theorem sl_snoc (L:List Cl) (c:Cl):sl (L++[c])=sl L++sls c.l:=by simp[sl]
theorem bl_snoc (L:List Cl) (c:Cl):bl (L++[c])=bl L++blk c.l:=by simp[bl]
def one (f:Nat→Option (Nat × Nat × Nat)) (n s:Nat):Option (Nat × Nat × Nat)→Option Cl
 | none=>none
 | some (k,p,z)=>match rd (pat f n) n ((p:Int) - 1) with
   | none=>none
   | some l=>if tot l=need s z then some ⟨k,p,z,l⟩ else none
def add (L:List Cl):Option Cl→Option (List Cl)
 | none=>none
 | some c=>if (sl L++sls c.l).Nodup∧(bl L++blk c.l).Nodup then some (L++[c]) else none
def scn (g:Nat→Option Cl):Nat→Option (List Cl)
 | 0=>some []
 | i+1=>(scn g i).bind fun L=>add L (g i)
theorem scn_none {g:Nat→Option Cl} {i:Nat} (h:scn g i=none):∀ m,i≤m→scn g m=none
 | 0,hm=>by
   obtain rfl:i=0:=by omega
   exact h
 | m+1,hm=>by
   by_cases e:i=m+1
   · rw[← e];exact h
   · rw[scn,scn_none h m (by omega)];rfl
theorem scn_stop {g:Nat→Option Cl} {i m:Nat} {L:List Cl} (h:scn g i=some L) (ha:add L (g i)=none) (hm:i < m):scn g m=none:=
 scn_none (i:=i+1) (by rw[scn,h];exact ha) m hm
theorem scn_next {g:Nat→Option Cl} {i:Nat} {L:List Cl} {c:Cl} (h:scn g i=some L) (hg:g i=some c) (h1:(sl L++sls c.l).Nodup) (h2:(bl L++blk c.l).Nodup):scn g (i+1)=some (L++[c]):=by
 rw[scn,h];show add L (g i)=_
 rw[hg];exact if_pos ⟨h1,h2⟩
theorem add_not {L:List Cl} {c:Cl} (h:¬ ((sl L++sls c.l).Nodup∧(bl L++blk c.l).Nodup)):add L (some c)=none:=if_neg h
theorem one_none {f:Nat→Option (Nat × Nat × Nat)} {n s k p z:Nat} (h:rd (pat f n) n ((p:Int) - 1)=none):one f n s (some (k,p,z))=none:=by
 unfold one;simp only[h]
theorem one_not {f:Nat→Option (Nat × Nat × Nat)} {n s k p z:Nat} {l:List Pt} (h:rd (pat f n) n ((p:Int) - 1)=some l) (ht:tot l≠need s z):one f n s (some (k,p,z))=none:=by
 unfold one;simp only[h];exact if_neg ht
theorem one_yes {f:Nat→Option (Nat × Nat × Nat)} {n s k p z:Nat} {l:List Pt} (h:rd (pat f n) n ((p:Int) - 1)=some l) (ht:tot l=need s z):one f n s (some (k,p,z))=some ⟨k,p,z,l⟩:=by
 unfold one;simp only[h];exact if_pos ht
structure Ok (f:Nat→Option (Nat × Nat × Nat)) (n s:Nat) (c:Cl):Prop where
 may:Ino.may (c.k:Int) ((c.p:Int) - 1) (c.z:Int)=true
 rd:rd (pat f n) n ((c.p:Int) - 1)=some c.l
 tot:tot c.l=need s c.z
theorem one_ok {f:Nat→Option (Nat × Nat × Nat)} {n s:Nat} {d:Option (Nat × Nat × Nat)} {c:Cl} (h:one f n s d=some c) (hd:∀ k p z,d=some (k,p,z)→Ino.may (k:Int) ((p:Int) - 1) (z:Int)=true):Ok f n s c:=by
 cases d with
 | none=>cases h
 | some t=>
   obtain⟨k,p,z⟩:=t
   unfold one at h;simp only at h
   split at h
   · cases h
   · rename_i l hl
     split at h
     · injection h with h
       subst h
       exact⟨hd _ _ _ rfl,hl,by assumption⟩
     · cases h
structure Oks (f:Nat→Option (Nat × Nat × Nat)) (n s:Nat) (L:List Cl):Prop where
 each:∀ c∈L,Ok f n s c
 sl:(sl L).Nodup
 bl:(bl L).Nodup
theorem oks_nil (f:Nat→Option (Nat × Nat × Nat)) (n s:Nat):Oks f n s []:=⟨by simp,by simp[Clm.sl],by simp[Clm.bl]⟩
theorem Oks.snoc {f:Nat→Option (Nat × Nat × Nat)} {n s:Nat} {L:List Cl} {c:Cl} (h:Oks f n s L) (hc:Ok f n s c) (h1:(Clm.sl L++sls c.l).Nodup) (h2:(Clm.bl L++blk c.l).Nodup):Oks f n s (L++[c]):=
 ⟨fun x hx=>by
   rcases List.mem_append.1 hx with hx | hx
   · exact h.each x hx
   · obtain rfl:x=c:=by simpa using hx
     exact hc,by rw[sl_snoc];exact h1,by rw[bl_snoc];exact h2⟩
theorem scn_oks {f:Nat→Option (Nat × Nat × Nat)} {n s:Nat} {g:Nat→Option Cl} (hg:∀ i c,g i=some c→Ok f n s c):∀ {i:Nat} {L:List Cl},scn g i=some L→Oks f n s L∧L.length=i
 | 0,L,h=>by
   injection h with h
   subst h
   exact⟨oks_nil f n s,rfl⟩
 | i+1,L,h=>by
   rw[scn] at h
   cases e:scn g i with
   | none=>rw[e] at h;cases h
   | some L0=>
     rw[e] at h
     obtain⟨h1,h2⟩:=scn_oks hg e
     simp only[Option.bind_some] at h
     cases e2:g i with
     | none=>rw[e2] at h;cases h
     | some c=>
       rw[e2,add] at h
       split at h
       · rename_i hn
         injection h with h
         subst h
         exact⟨h1.snoc (hg i c e2) hn.1 hn.2,by simp[h2]⟩
       · cases h
section
variable {f : Nat → Option (Nat × Nat × Nat)} (hf : ∀ i x c q, f i = some (x, c, q) → Slo.may (x : Int) (c : Int) (Slo.nx q) = true) {n s : Nat}
theorem Ok.few {c:Cl} (h:Ok f n s c):c.l.length≤n:=(rd_iff.1 h.rd).2
include hf in
theorem Ok.mays {c:Cl} (h:Ok f n s c):Mays c.l:=fun p hp=>hf _ _ _ _ (path_mem (rd_iff.1 h.rd).1 p hp).2.1
theorem blk_mem {l:List Pt} {b:Nat} (h:b∈blk l):∃ p∈l,p.x≤b∧b < p.x+p.c:=by
 obtain⟨p,hp,hb⟩:=List.mem_flatMap.1 h
 obtain⟨j,hj,rfl⟩:=List.mem_map.1 hb
 have:=List.mem_range.1 hj
 exact⟨p,hp,by omega,by omega⟩
theorem Ok.blk_lt {c:Cl} (h:Ok f n s c):∀ x∈blk c.l,x < n:=fun x hx=>by
 obtain⟨p,hp,h1,h2⟩:=blk_mem hx
 have:=(path_mem (rd_iff.1 h.rd).1 p hp).2.2
 omega
theorem Ok.free {c:Cl} (h:Ok f n s c) (hk:c.k=0):c.p=0∧c.z=0∧c.l=[]:=by
 have h1:=h.may;rw[hk] at h1
 obtain⟨h2,h3⟩:=Ino.may_free h1
 have h4:=h.rd;rw[h2] at h4;have h5:=(rd_iff.1 h4).1
 refine⟨h2,h3,?_⟩
 cases e:c.l with
 | nil=>rfl
 | cons p l=>rw[e] at h5;exact absurd rfl h5.1
end
section
variable {f : Nat → Option (Nat × Nat × Nat)} (hf : ∀ i x c q, f i = some (x, c, q) → Slo.may (x : Int) (c : Int) (Slo.nx q) = true) {n s : Nat} {L : List Cl}
theorem Oks.bl_lt (h:Oks f n s L):∀ x∈Clm.bl L,x < n:=fun x hx=>by
 obtain⟨c,hc,hx⟩:=List.mem_flatMap.1 hx
 exact (h.each c hc).blk_lt x hx
end
def ins (X:List Nat) (b:Nat):Bool:=decide (b∈X)
theorem ins_nil:ins []=fun _=>false:=by funext b;simp[ins]
theorem ins_upd (X:List Nat) (y:Nat):Bm.upd (ins X) y true=ins (X++[y]):=by
 funext b
 unfold Bm.upd ins;by_cases h:b=y
 · rw[if_pos h];simp[h]
 · rw[if_neg h];simp[h]
theorem put_fold {n:Nat}:∀ (Y:List Nat) (X:List Nat) (c:Nat),X.Nodup→(∀ y∈Y,y < n) →
 ((X++Y).Nodup→((Y.map Int.ofNat).foldl (Bm.tnp n true) (ins X,c))=(ins (X++Y),c+Y.length)) ∧
 (¬ (X++Y).Nodup→((Y.map Int.ofNat).foldl (Bm.tnp n true) (ins X,c)).2 < c+Y.length)
 | [],X,c,hX,_=>⟨fun _=>by simp,fun h=>absurd (by simpa using hX) h⟩
 | y :: Y,X,c,hX,hY=>by
   have hy:y < n:=hY y (by simp);have hY':∀ z∈Y,z < n:=fun z hz=>hY z (List.mem_cons_of_mem _ hz)
   simp only[List.map_cons,List.foldl_cons];have e1:(Int.ofNat y)=(y:Int):=rfl;rw[e1];have eX:X++y :: Y=(X++[y])++Y:=by simp
   by_cases hm:y∈X
   · rw[Bm.tnp_same (x:=(ins X,c)) (by simp[ins,hm])]
     have hno:¬ (X++y :: Y).Nodup:=fun h=>by
      rw[List.nodup_append] at h;exact h.2.2 y hm y (by simp) rfl
     refine⟨fun h=>absurd h hno,fun _=>?_⟩
     have h3:=put_fold Y X c hX hY';by_cases h4:(X++Y).Nodup
     · rw[h3.1 h4];simp
     · have:=h3.2 h4
       simp only[List.length_cons];omega
   · rw[Bm.tnp_turn (x:=(ins X,c)) hy (by simp[ins,hm])]
     simp only;rw[ins_upd]
     have hX2:(X++[y]).Nodup:=by
      rw[List.nodup_append]
      refine⟨hX,by simp,fun a ha b hb=>?_⟩
      obtain rfl:b=y:=by simpa using hb
      exact fun e=>hm (by rw[← e];exact ha)
     have h3:=put_fold Y (X++[y]) (c+1) hX2 hY';rw[eX]
     refine⟨fun h=>?_,fun h=>?_⟩
     · rw[h3.1 h];simp;omega
     · have:=h3.2 h
       simp only[List.length_cons];omega
theorem put_yes {n:Nat} {X Y:List Nat} (hX:X.Nodup) (hY:∀ y∈Y,y < n) (h:(X++Y).Nodup):Bm.tn n true (ins X) (Y.map Int.ofNat)=(ins (X++Y),Y.length):=by
 have:=(put_fold Y X 0 hX hY).1 h
 rw[Nat.zero_add] at this;exact this
theorem put_no {n:Nat} {X Y:List Nat} (hX:X.Nodup) (hY:∀ y∈Y,y < n) (h:¬ (X++Y).Nodup):(Bm.tn n true (ins X) (Y.map Int.ofNat)).2≠Y.length:=by
 have:=(put_fold Y X 0 hX hY).2 h
 rw[Nat.zero_add] at this;exact Nat.ne_of_lt this
theorem cnt_ins:∀ (n:Nat) (X:List Nat),X.Nodup→(∀ x∈X,x < n)→Bm.cnt (ins X) n=X.length
 | 0,X,_,h=>by
   cases X with
   | nil=>rfl
   | cons x X=>have:=h x (by simp);omega
 | n+1,X,hX,h=>by
   by_cases hm:n∈X
   · have h1:=cnt_ins n (X.erase n) (hX.erase n) (fun x hx=>by
      have h2:=h x (List.mem_of_mem_erase hx)
      have h3:x≠n:=fun e=>by
       subst e;exact (List.Nodup.mem_erase_iff hX).1 hx |>.1 rfl
      omega)
     have h2:Bm.cnt (ins X) n=Bm.cnt (ins (X.erase n)) n:=Bm.cnt_congr fun i hi=>by
      have:i∈X.erase n↔i∈X:=by
       rw[List.Nodup.mem_erase_iff hX]
       exact⟨fun h=>h.2,fun h=>⟨by omega,h⟩⟩
      unfold ins;simp[this]
     have h3:=List.length_erase_of_mem hm;have h4:=List.length_pos_of_mem hm;rw[Bm.cnt,h2,h1];simp[ins,hm];omega
   · have h1:=cnt_ins n X hX (fun x hx=>by
      have h2:=h x hx;have h3:x≠n:=fun e=>hm (e ▸ hx)
      omega)
     rw[Bm.cnt,h1];simp[ins,hm]
def Own (L:List Cl) (i k b:Nat):Prop:=∃ h:i < L.length,(blk L[i].l)[k]? = some b
theorem own_mem {L:List Cl} {i k b:Nat} (h:Own L i k b):b∈bl L:=by
 obtain⟨hi,hk⟩:=h
 exact List.mem_flatMap.2 ⟨_,List.getElem_mem hi,List.mem_of_getElem? hk⟩
theorem own_snoc {L:List Cl} {c:Cl} {i k b:Nat}:Own (L++[c]) i k b↔Own L i k b∨(i=L.length∧(blk c.l)[k]? = some b):=by
 constructor
 · rintro ⟨h,hk⟩
   by_cases e:i < L.length
   · rw[List.getElem_append_left e] at hk
     exact .inl ⟨e,hk⟩
   · obtain rfl:i=L.length:=by simp at h;omega
     simp at hk;exact .inr ⟨rfl,hk⟩
 · rintro (⟨h,hk⟩ | ⟨rfl,hk⟩)
   · exact⟨by simp;omega,by rw[List.getElem_append_left h];exact hk⟩
   · exact⟨by simp,by simpa using hk⟩
end Clm
end
section
namespace Fld
open Clm (Cl need need_iff)
open Chn (Pt tot blk blk_len)
open Vol (rdw rdw_len)
def bb (W:List Nat) (bk q b:Nat):List Nat:=Pack.wflat (rdw W (bk+b * q) q)
theorem bb_len (W:List Nat) (bk q b:Nat):(bb W bk q b).length=8 * q:=by
 unfold bb;rw[Pack.wflat_len,rdw_len]
theorem bb_byt (W:List Nat) (bk q b:Nat):Pack.Byt (bb W bk q b):=Pack.wflat_byt _
def bbs (W:List Nat) (bk q:Nat) (l:List Nat):List Nat:=l.flatMap (bb W bk q)
theorem bbs_len (W:List Nat) (bk q:Nat) (l:List Nat):(bbs W bk q l).length=l.length * (8 * q):=by
 induction l with
 | nil=>simp[bbs]
 | cons b l ih=>
   have e:bbs W bk q (b :: l)=bb W bk q b++bbs W bk q l:=rfl;rw[e,List.length_append,ih,bb_len,List.length_cons,Nat.add_mul];omega
theorem bbs_snoc (W:List Nat) (bk q:Nat) (l:List Nat) (b:Nat):bbs W bk q (l++[b])=bbs W bk q l++bb W bk q b:=by simp[bbs]
theorem bbs_byt (W:List Nat) (bk q:Nat) (l:List Nat):Pack.Byt (bbs W bk q l):=fun x hx=>by
 obtain⟨b,_,hb⟩:=List.mem_flatMap.1 hx
 exact bb_byt W bk q b x hb
def fby (W:List Nat) (bk q:Nat) (c:Cl):List Nat:=(bbs W bk q (blk c.l)).take c.z
theorem fby_byt (W:List Nat) (bk q:Nat) (c:Cl):Pack.Byt (fby W bk q c):=fun x hx=>bbs_byt W bk q (blk c.l) x (List.mem_of_mem_take hx)
theorem fby_len {W:List Nat} {bk q:Nat} {c:Cl} (h:tot c.l=need (8 * q) c.z) (hq:0 < q):(fby W bk q c).length=c.z:=by
 have h1:=((need_iff (by omega)).1 h).1;unfold fby;rw[List.length_take,bbs_len,blk_len];omega
def upto (W:List Nat) (bk q z:Nat) (l:List Nat) (j:Nat):List Nat:=(bbs W bk q (l.take j)).take z
theorem upto_zero (W:List Nat) (bk q z:Nat) (l:List Nat):upto W bk q z l 0=[]:=by simp[upto,bbs]
theorem upto_len (W:List Nat) (bk q z:Nat) (l:List Nat) (j:Nat) (hj:j≤l.length):(upto W bk q z l j).length=min z (j * (8 * q)):=by
 unfold upto;rw[List.length_take,bbs_len,List.length_take,Nat.min_eq_left hj]
theorem upto_all (W:List Nat) (bk q z:Nat) (l:List Nat):upto W bk q z l l.length=(bbs W bk q l).take z:=by
 unfold upto;rw[List.take_length]
theorem upto_snoc (W:List Nat) (bk q z:Nat) (l:List Nat) (j:Nat) (hj:j < l.length) (k:Nat) (hk:k=min (8 * q) (z - (upto W bk q z l j).length)) :
 upto W bk q z l (j+1)=upto W bk q z l j++(bb W bk q l[j]).take k:=by
 have e:l.take (j+1)=l.take j++[l[j]]:=by rw[List.take_succ_eq_append_getElem hj]
 have hl:=upto_len W bk q z l j (by omega);have hb:=bbs_len W bk q (l.take j);rw[List.length_take,Nat.min_eq_left (by omega)] at hb;rw[hk];unfold upto at hl ⊢;rw[e,bbs_snoc,List.take_append,hl,hb]
 congr 1
 generalize j * (8 * q)=x;refine List.ext_getElem? fun i=>?_
 rw[List.getElem?_take,List.getElem?_take];by_cases h1:i < 8 * q
 · by_cases h2:i < z - x
   · rw[if_pos h2,if_pos (by omega)]
   · rw[if_neg h2,if_neg (by omega)]
 · rw[List.getElem?_eq_none (by rw[bb_len];omega)]
   split<;>split<;>rfl
end Fld
end
section
open Lib (hid)
open Go.RowKit Go.MapKept
namespace Lin
section
variable {P : Program} {ops : Array Oper} {Q : Exit → Act → World → Prop} {md : Region.Mode} {S : World → Prop}
theorem any_states {σ:Type} (L:σ→Array Bool) (n:σ→Nat) (rdy:σ→List Nat) (I:σ→Act→World→Prop) (m:Nat)
 (ready:∀ s a w,I s a w→n s≠0→Region.ready md ops (L s)=rdy s∧rdy s≠[])
 (step:∀ s a w,I s a w→n s≠0→∀ i∈rdy s,wpOp P ops Q i (fun a' w'=>∃ s',L s'=(L s).setIfInBounds i true∧n s=n s'+1∧S w'∧I s' a' w') a w)
 (last:∀ s a w,I s a w→n s=0→wpAnyH P md ops Q S m (L s) a w) :
 ∀ k s a w,n s=k→I s a w→wpAnyH P md ops Q S (k+m) (L s) a w:=by
 intro k
 induction k with
 | zero=>
   intro s a w hn hI;rw[Nat.zero_add];exact last s a w hI hn
 | succ k ih=>
   intro s a w hn hI;have h0:n s≠0:=by omega
   obtain⟨hr,hne⟩:=ready s a w hI h0
   rw[show k+1+m=(k+m)+1 by omega];refine wpAnyH_all hr hne (fun i hi=>wpOp_mono (fun a' w' h=>?_) (step s a w hI h0 i hi))
   obtain⟨s',hL,hn',hS,hI'⟩:=h
   exact⟨hS,hL ▸ ih s' a' w' (by omega) hI'⟩
theorem op_step {i:Nat} {o:Oper} {K:Act→World→Prop} {a:Act} {w:World} (ho:ops[i]? = some o)
 (h:∀ K':Act→World→Prop,Hid (∀ a w,K a w→K' a w)→if Region.wanted o (yielded ops a.tmps)=true then Oper.wp P o a w K' Q else K' (a.put o.dst undef) w):wpOp P ops Q i K a w:=
 wpOp_step ho (fun K' hK=>h K' (hid hK))
end
structure Fw (w:World) (b:Nat) (n:Int) (v:Nat):Prop where
 lt:b < w.heap.size
 c0:w.cell? ⟨b,0,none⟩=some (.int .i64 n)
 c1:w.cell? ⟨b,1,none⟩=some (.int .u64 (v:Int))
 f:∀ o,w.frozen? ⟨b,o,none⟩=false
theorem Fw.keep {w w':World} {b v:Nat} {n:Int} (h:Fw w b n v) (hb:Below w.heap.size w w'):Fw w' b n v:=
 ⟨Nat.lt_of_lt_of_le h.lt hb.size,(hb.cell (p:=⟨b,0,none⟩) h.lt).trans h.c0,(hb.cell (p:=⟨b,1,none⟩) h.lt).trans h.c1,fun o=>(hb.frozen (p:=⟨b,o,none⟩) h.lt).trans (h.f o)⟩
theorem Fw.drew {w:World} {b v:Nat} {n:Int} (h:Fw w b n v):Fw w.drew b n v:=⟨h.lt,h.c0,h.c1,h.f⟩
theorem fw_new (w:World) (n:Int) (v:Nat) (t:TypeId):Fw (w.alloc (.cells #[.int .i64 n,.int .u64 (v:Int)] t)) w.heap.size n v:=
 ⟨by simp,World.cell?_alloc_mark w _ t _ 0,World.cell?_alloc_mark w _ t _ 1,fun o=>(World.rowIs_alloc w #[.int .i64 n,.int .u64 (v:Int)] t (fun i=>if i=0 then .int .i64 n else .int .u64 (v:Int)) (fun i hi=>by
   have:i < 2:=hi
   match i,this with
   | 0,_=>rfl
   | 1,_=>rfl)).frozen o⟩
theorem Fw.set {w:World} {b v:Nat} {n:Int} (h:Fw w b n v) (m:Int) (u:Nat):Fw ((w.setCell ⟨b,0,none⟩ (.int .i64 m)).setCell ⟨b,1,none⟩ (.int .u64 (u:Int))) b m u:=
 ⟨by simpa using h.lt,by rw[World.cell?_setCell_other _ _ _ _ (by simp)];exact World.cell?_setCell_same _ _ _ h.c0,World.cell?_setCell_same _ _ _ ((World.cell?_setCell_other _ _ _ _ (by simp)).trans h.c1),fun o=>by rw[World.frozen?_setCell,World.frozen?_setCell];exact h.f o⟩
theorem Fw.other {w:World} {b v d:Nat} {n:Int} (h:Fw w b n v) (hd:b≠d) (x y:Value):Fw ((w.setCell ⟨d,0,none⟩ x).setCell ⟨d,1,none⟩ y) b n v:=
 ⟨by simpa using h.lt,(cell_set_other hd _).trans ((cell_set_other hd _).trans h.c0),(cell_set_other hd _).trans ((cell_set_other hd _).trans h.c1),fun o=>by rw[World.frozen?_setCell,World.frozen?_setCell];exact h.f o⟩
theorem Box.other {w:World} {b d:Nat} {n m s:Int} (h:Box w b n m s) (hd:b≠d) (x y:Value):Box ((w.setCell ⟨d,0,none⟩ x).setCell ⟨d,1,none⟩ y) b n m s:=
 ⟨by simpa using h.lt,(cell_set_other hd _).trans ((cell_set_other hd _).trans h.c0),(cell_set_other hd _).trans ((cell_set_other hd _).trans h.c1),(cell_set_other hd _).trans ((cell_set_other hd _).trans h.c2)⟩
end Lin
end
section
open Lib (hid)
open Go.RowKit Go.MapKept
namespace Slo
open Lin
theorem encode_no (w:World) (s c n:Int) (hm:may s c n=false) :
 Calls Tryz.prog 221 #[.agg #[.int .i64 s,.int .i64 c,.int .i64 n]] w fun r w'=>r = .returned (.tuple #[.int .u64 0,.int .i64 1])∧Below w.heap.size w w':=by
 have HM:=hid (fun w=>may_any w s c n);have HE:=hid hm;clear hm;have HB:=hid ((Below.refl w.heap.size w).alloc (Nat.le_refl _) (.cells #[.int .i64 s,.int .i64 c,.int .i64 n] 190));go_enter Tryz.func221,Tryz.ntmps221
 go_wp2_with fail
 refine (HM.out _).mono ?_;rintro e w' ⟨rfl,hb⟩;rw[HE.out];have HB1:=hid (HB.out.trans (hb.mono HB.out.size));clear hb;go_wp2
 go_ret2
 exact⟨rfl,HB1.out⟩
theorem fds_three (w:World) {n m q:Nat} (hn:n < 65536) (hm:m < 65536) (hq:q < 65536):Pack.Fds (w.alloc (.cells #[.int .i64 16,.int .u64 (n:Int),.int .i64 16,.int .u64 (m:Int),.int .i64 16,.int .u64 (q:Int)] 208)) (some ⟨w.heap.size,0,none⟩) [⟨16,n⟩,⟨16,m⟩,⟨16,q⟩]:=
 ⟨fun f hf=>by
   simp only[List.mem_cons,List.not_mem_nil,or_false] at hf
   rcases hf with rfl | rfl | rfl<;>exact⟨by simp only;omega,by simp only;omega,by simp only;omega⟩,by simp,fun j hj=>by
   have:j < 3:=hj
   match j,this with
   | 0,_=>exact⟨w.heap.size,0,rfl,by simp,Pack.alloc_cell _ _ _ _,Pack.alloc_cell _ _ _ _⟩
   | 1,_=>exact⟨w.heap.size,0,rfl,by simp,Pack.alloc_cell _ _ _ _,Pack.alloc_cell _ _ _ _⟩
   | 2,_=>exact⟨w.heap.size,0,rfl,by simp,Pack.alloc_cell _ _ _ _,Pack.alloc_cell _ _ _ _⟩⟩
theorem fds_four (w:World) {n m q s:Nat} (hn:n < 65536) (hm:m < 65536) (hq:q < 65536) (hs:s < 65536):Pack.Fds (w.alloc (.cells #[.int .i64 16,.int .u64 (n:Int),.int .i64 16,.int .u64 (m:Int),.int .i64 16,.int .u64 (q:Int),.int .i64 16,.int .u64 (s:Int)] 208)) (some ⟨w.heap.size,0,none⟩) [⟨16,n⟩,⟨16,m⟩,⟨16,q⟩,⟨16,s⟩]:=
 ⟨fun f hf=>by
   simp only[List.mem_cons,List.not_mem_nil,or_false] at hf
   rcases hf with rfl | rfl | rfl | rfl<;>exact⟨by simp only;omega,by simp only;omega,by simp only;omega⟩,by simp,fun j hj=>by
   have:j < 4:=hj
   match j,this with
   | 0,_=>exact⟨w.heap.size,0,rfl,by simp,Pack.alloc_cell _ _ _ _,Pack.alloc_cell _ _ _ _⟩
   | 1,_=>exact⟨w.heap.size,0,rfl,by simp,Pack.alloc_cell _ _ _ _,Pack.alloc_cell _ _ _ _⟩
   | 2,_=>exact⟨w.heap.size,0,rfl,by simp,Pack.alloc_cell _ _ _ _,Pack.alloc_cell _ _ _ _⟩
   | 3,_=>exact⟨w.heap.size,0,rfl,by simp,Pack.alloc_cell _ _ _ _,Pack.alloc_cell _ _ _ _⟩⟩
theorem three_any (w:World) {n m q:Nat} (hn:n < 65536) (hm:m < 65536) (hq:q < 65536):Calls Tryz.prog 121 #[.slice (some ⟨w.heap.size,0,none⟩) 3 3] (w.alloc (.cells #[.int .i64 16,.int .u64 (n:Int),.int .i64 16,.int .u64 (m:Int),.int .i64 16,.int .u64 (q:Int)] 208)) fun e w'=>e = .returned (.tuple #[.int .u64 (nums n m q:Nat),.bool true])∧Below w.heap.size w w':=by
 refine (Pack.pack_any _ 3 _ (fds_three w hn hm hq)).mono ?_;rintro e w' ⟨rfl,hb⟩;rw[pk_three hn hm hq];have hb0:=(Below.refl w.heap.size w).alloc (Nat.le_refl _) (.cells #[.int .i64 16,.int .u64 (n:Int),.int .i64 16,.int .u64 (m:Int),.int .i64 16,.int .u64 (q:Int)] 208)
 exact⟨rfl,hb0.trans (hb.mono hb0.size)⟩
theorem four_any (w:World) {n m q s:Nat} (hn:n < 65536) (hm:m < 65536) (hq:q < 65536) (hs:s < 65536):Calls Tryz.prog 121 #[.slice (some ⟨w.heap.size,0,none⟩) 4 4] (w.alloc (.cells #[.int .i64 16,.int .u64 (n:Int),.int .i64 16,.int .u64 (m:Int),.int .i64 16,.int .u64 (q:Int),.int .i64 16,.int .u64 (s:Int)] 208)) fun e w'=>e = .returned (.tuple #[.int .u64 (nums n m q+281474976710656 * s:Nat),.bool true])∧Below w.heap.size w w':=by
 refine (Pack.pack_any _ 4 _ (fds_four w hn hm hq hs)).mono ?_;rintro e w' ⟨rfl,hb⟩;rw[pk_four hn hm hq hs];have hb0:=(Below.refl w.heap.size w).alloc (Nat.le_refl _) (.cells #[.int .i64 16,.int .u64 (n:Int),.int .i64 16,.int .u64 (m:Int),.int .i64 16,.int .u64 (q:Int),.int .i64 16,.int .u64 (s:Int)] 208)
 exact⟨rfl,hb0.trans (hb.mono hb0.size)⟩
theorem one_wds (w:World) {x:Nat} (h:x < 18446744073709551616):Pack.Wds (w.alloc (.cells #[.int .u64 (x:Int)] 50)) (some ⟨w.heap.size,0,none⟩) [x]:=
 ⟨fun y hy=>by
   obtain rfl:y=x:=by simpa using hy
   exact h,by simp,fun j hj=>by
   have:j < 1:=hj
   match j,this with
   | 0,_=>exact⟨w.heap.size,0,rfl,by simp,Pack.alloc_cell _ _ _ _⟩⟩
theorem bytes_one (w:World) {x:Nat} (h:x < 18446744073709551616):Calls Tryz.prog 161 #[.slice (some ⟨w.heap.size,0,none⟩) 1 1] (w.alloc (.cells #[.int .u64 (x:Int)] 50)) fun e w'=>∃ (b o gc:Nat),e = .returned (.slice (some ⟨b,o,none⟩) 8 gc)∧8≤gc∧Crc.Bts w' (some ⟨b,o,none⟩) (six x)∧Below w.heap.size w w':=by
 refine (Pack.bytes_any _ 1 _ (one_wds w h) (by simp)).mono ?_;rintro e w' ⟨G,gc,rfl,hc,hw,hb⟩;have hb0:=(Below.refl w.heap.size w).alloc (Nat.le_refl _) (.cells #[.int .u64 (x:Int)] 50);have e8:Pack.wflat [x]=Pack.wb x:=by simp[Pack.wflat]
 rw[e8] at hw
 obtain⟨b,o,rfl,_,_⟩:=hw.at' 0 (by rw[Pack.wb_len];omega)
 refine⟨b,o,gc,rfl,hc,⟨six_byt x,by rw[six_len];omega,fun j hj=>?_⟩,hb0.trans (hb.mono hb0.size)⟩
 rw[six_len] at hj
 obtain⟨b',o',e,hlt,hc⟩:=hw.at' j (by rw[Pack.wb_len];omega)
 refine⟨b',o',e,hlt,hc.trans ?_⟩
 have:(six x)[j]'(by rw[six_len];exact hj)=(Pack.wb x)[j]'(by rw[Pack.wb_len];omega):=by
  unfold six;rw[List.getElem_take];rfl
 rw[this]
def on (b:Bool) (v:Value):Value:=bif b then v else undef
theorem on_true (v:Value):on true v=v:=rfl
theorem on_false (v:Value):on false v=undef:=rfl
def fv (n:Nat):Value:=.agg #[.int .i64 16,.int .u64 (n:Int)]
def ptr (p:Nat):Value:=.pointer (some ⟨p,0,none⟩)
structure St (w0:World) (N:Nat) (s c n:Int) (x y z:Bool) (p1 p2 p3:Nat) (W:World):Prop where
 box:Box W N s c n
 below:Below N w0 W
 f1:x=true→Fw W p1 0 0∧N < p1
 f2:y=true→Fw W p2 0 0∧N < p2
 f3:z=true→Fw W p3 0 0∧N < p3
 d12:x=true→y=true→p1≠p2
 d13:x=true→z=true→p1≠p3
 d23:y=true→z=true→p2≠p3
section
variable {w0 W W' : World} {N p1 p2 p3 : Nat} {s c n : Int} {x y z : Bool}
theorem St.keep (h:St w0 N s c n x y z p1 p2 p3 W) (hb:Below W.heap.size W W'):St w0 N s c n x y z p1 p2 p3 W':=
 ⟨h.box.keep hb,h.below.trans (hb.mono (Nat.le_of_lt h.box.lt)),fun e=>⟨(h.f1 e).1.keep hb,(h.f1 e).2⟩,fun e=>⟨(h.f2 e).1.keep hb,(h.f2 e).2⟩,fun e=>⟨(h.f3 e).1.keep hb,(h.f3 e).2⟩,h.d12,h.d13,h.d23⟩
theorem St.new1 (h:St w0 N s c n x y z p1 p2 p3 W) (t:TypeId):St w0 N s c n true y z W.heap.size p2 p3 (W.alloc (.cells #[.int .i64 0,.int .u64 0] t)):=by
 have hb:=(Below.refl W.heap.size W).alloc (Nat.le_refl _) (.cells #[.int .i64 0,.int .u64 0] t);have hk:=h.keep hb
 exact⟨hk.box,hk.below,fun _=>⟨fw_new W 0 0 t,h.box.lt⟩,hk.f2,hk.f3,fun _ e=>Nat.ne_of_gt (h.f2 e).1.lt,fun _ e=>Nat.ne_of_gt (h.f3 e).1.lt,hk.d23⟩
theorem St.new2 (h:St w0 N s c n x y z p1 p2 p3 W) (t:TypeId):St w0 N s c n x true z p1 W.heap.size p3 (W.alloc (.cells #[.int .i64 0,.int .u64 0] t)):=by
 have hb:=(Below.refl W.heap.size W).alloc (Nat.le_refl _) (.cells #[.int .i64 0,.int .u64 0] t);have hk:=h.keep hb
 exact⟨hk.box,hk.below,hk.f1,fun _=>⟨fw_new W 0 0 t,h.box.lt⟩,hk.f3,fun e _=>Nat.ne_of_lt (h.f1 e).1.lt,hk.d13,fun _ e=>Nat.ne_of_gt (h.f3 e).1.lt⟩
theorem St.new3 (h:St w0 N s c n x y z p1 p2 p3 W) (t:TypeId):St w0 N s c n x y true p1 p2 W.heap.size (W.alloc (.cells #[.int .i64 0,.int .u64 0] t)):=by
 have hb:=(Below.refl W.heap.size W).alloc (Nat.le_refl _) (.cells #[.int .i64 0,.int .u64 0] t);have hk:=h.keep hb
 exact⟨hk.box,hk.below,hk.f1,hk.f2,fun _=>⟨fw_new W 0 0 t,h.box.lt⟩,hk.d12,fun e _=>Nat.ne_of_lt (h.f1 e).1.lt,fun e _=>Nat.ne_of_lt (h.f2 e).1.lt⟩
end
def lst (s:Nat × Bool × Bool × Bool):Array Bool:=#[true,true,Nat.blt 0 s.1,true,true,Nat.blt 1 s.1,true,true,Nat.blt 2 s.1,Nat.blt 3 s.1,s.2.1,s.2.2.1,s.2.2.2,false,false,false]
def left (s:Nat × Bool × Bool × Bool):Nat:=(4 - s.1)+((!s.2.1).toNat+((!s.2.2.1).toNat+(!s.2.2.2).toNat))
def calls:Nat→List Nat
 | 0=>[2]
 | 1=>[5]
 | 2=>[8]
 | 3=>[9]
 | _=>[]
def rdy (s:Nat × Bool × Bool × Bool):List Nat:=calls s.1++((bif s.2.1 then [] else [10])++((bif s.2.2.1 then [] else [11])++(bif s.2.2.2 then [] else [12])))
def act (N s c q:Nat) (n:Int) (k:Nat) (x y z:Bool) (p1 p2 p3:Nat):Act:=
 { tmps:=#[.agg #[.int .i64 (s:Int),.int .i64 (c:Int),.int .i64 n],.pointer (some ⟨N,0,none⟩),.int .u64 0,.int .i64 0,on x (ptr p1),on y (ptr p2),on z (ptr p3),undef,undef,undef,undef,undef,.agg #[.int .i64 (s:Int),.int .i64 (c:Int),.int .i64 n],.bool true,.bool false,.pointer (some ⟨N,0,none⟩),.int .i64 (s:Int),on (Nat.blt 0 k) (fv s),.pointer (some ⟨N,1,none⟩),.int .i64 (c:Int),on (Nat.blt 1 k) (fv c),.pointer (some ⟨N,2,none⟩),.int .i64 n,on (Nat.blt 2 k) (.int .i64 (q:Int)),on (Nat.blt 3 k) (fv q),undef,undef,undef,undef,undef,undef,undef,undef,undef,undef,undef,undef,undef,undef,undef,undef,undef,undef,undef,undef,undef,undef,undef,undef,undef,undef],defers:=[] }
theorem left_pos {k:Nat} {x y z:Bool} (hk:k≤4) (h:left (k,x,y,z)=0):k=4∧x=true∧y=true∧z=true:=by
 unfold left at h
 cases x<;>cases y<;>cases z<;>simp at h ⊢<;>omega
theorem left_call {k:Nat} {x y z:Bool} (hk:k < 4):left (k,x,y,z)=left (k+1,x,y,z)+1:=by
 unfold left;simp only;omega
theorem left_one (k:Nat) (y z:Bool):left (k,false,y,z)=left (k,true,y,z)+1:=by
 unfold left;simp;omega
theorem left_two (k:Nat) (x z:Bool):left (k,x,false,z)=left (k,x,true,z)+1:=by
 unfold left;simp;omega
theorem left_three (k:Nat) (x y:Bool):left (k,x,y,false)=left (k,x,y,true)+1:=by
 unfold left;simp;omega
theorem encode_yes (w:World) (s c q:Nat) (n:Int) (hn:n=nx q) (hm:may s c (nx q)=true) :
 Calls Tryz.prog 221 #[.agg #[.int .i64 (s:Int),.int .i64 (c:Int),.int .i64 n]] w fun r w'=>r = .returned (.tuple #[.int .u64 (wd s c q:Nat),.int .i64 0])∧Below w.heap.size w w':=by
 obtain⟨h1,h2,h3,h4⟩:=may_lt hm
 have hs64:s < 65536:=by omega
 have hc64:c < 65536:=by omega
 have HM:=hid (fun w=>may_any w s c n);have HE:=hid (show may s c n=true by rw[hn];exact hm);have HT:=hid (fun w=>toField_any w n q hn h4);have HF1:=hid (fun w=>field_any w s hs64);have HF2:=hid (fun w=>field_any w c hc64);have HF3:=hid (fun w=>field_any w q h4);have HF4:=hid (fun w=>field_any w (sum s c q) (sum_lt s c q));have HP3:=hid (fun w=>three_any w hs64 hc64 h4);have HP4:=hid (fun w=>four_any w hs64 hc64 h4 (sum_lt s c q));have hnl:=nums_lt hs64 hc64 h4;have HBY:=hid (fun w=>bytes_one w (x:=nums s c q) (by omega));have hsl:=sum_lt s c q;clear hm hn h1 h2 h3;have HB:=hid ((Below.refl w.heap.size w).alloc (Nat.le_refl _) (.cells #[.int .i64 (s:Int),.int .i64 (c:Int),.int .i64 n] 190));have HX:=hid (boxed w s c n 190);go_enter Tryz.func221,Tryz.ntmps221
 go_wp2_with fail
 refine (HM.out _).mono ?_;rintro e w1 ⟨rfl,hb⟩;rw[HE.out];have HB1:=hid (HB.out.trans (hb.mono HB.out.size));have HX1:=hid (HX.out.keep hb);clear hb HX HB HM HE;have hk0:=HX1.out.c0;have hk1:=HX1.out.c1;have hk2:=HX1.out.c2;have hsz:w.heap.size < w1.heap.size:=HX1.out.lt;go_wp2
 refine wp_region_held_drew (S:=(fun W'=>Box W' w.heap.size s c n)) (by kernel_rfl) HX1.out.drew (fun hHeld=>?_);clear hk0 hk1 hk2;refine take_yes 0 15 (.pointer (some ⟨w.heap.size,0,none⟩)) rfl rfl (by kernel_rfl) (by kernel_rfl) (by kernel_rfl) (fun _ _ _ h=>h) rfl ?_ (by assumption) ?_
 · intro W hSw
   try dsimp only at hSw
   go_simp
 simp only[Act.put,List.setIfInBounds_toArray,List.set_cons_zero,List.set_cons_succ];refine take_yes 1 16 (.int .i64 (s:Int)) rfl rfl (by kernel_rfl) (by kernel_rfl) (by kernel_rfl) (fun _ _ _ h=>h) rfl ?_ (by assumption) ?_
 · intro W hSw
   try dsimp only at hSw
   have hv:=hSw.c0
   go_simp
 simp only[Act.put,List.setIfInBounds_toArray,List.set_cons_zero,List.set_cons_succ];refine take_yes 3 18 (.pointer (some ⟨w.heap.size,1,none⟩)) rfl rfl (by kernel_rfl) (by kernel_rfl) (by kernel_rfl) (fun _ _ _ h=>h) rfl ?_ (by assumption) ?_
 · intro W hSw
   try dsimp only at hSw
   go_simp
 simp only[Act.put,List.setIfInBounds_toArray,List.set_cons_zero,List.set_cons_succ];refine take_yes 4 19 (.int .i64 (c:Int)) rfl rfl (by kernel_rfl) (by kernel_rfl) (by kernel_rfl) (fun _ _ _ h=>h) rfl ?_ (by assumption) ?_
 · intro W hSw
   try dsimp only at hSw
   have hv:=hSw.c1
   go_simp
 simp only[Act.put,List.setIfInBounds_toArray,List.set_cons_zero,List.set_cons_succ];refine take_yes 6 21 (.pointer (some ⟨w.heap.size,2,none⟩)) rfl rfl (by kernel_rfl) (by kernel_rfl) (by kernel_rfl) (fun _ _ _ h=>h) rfl ?_ (by assumption) ?_
 · intro W hSw
   try dsimp only at hSw
   go_simp
 simp only[Act.put,List.setIfInBounds_toArray,List.set_cons_zero,List.set_cons_succ];refine take_yes 7 22 (.int .i64 n) rfl rfl (by kernel_rfl) (by kernel_rfl) (by kernel_rfl) (fun _ _ _ h=>h) rfl ?_ (by assumption) ?_
 · intro W hSw
   try dsimp only at hSw
   have hv:=hSw.c2
   go_simp
 simp only[Act.put,List.setIfInBounds_toArray,List.set_cons_zero,List.set_cons_succ];refine any_states (σ:=Nat × Bool × Bool × Bool) lst left rdy (fun st a W=>st.1≤4∧∃ p1 p2 p3,a=act w.heap.size s c q n st.1 st.2.1 st.2.2.1 st.2.2.2 p1 p2 p3∧St w w.heap.size s c n st.2.1 st.2.2.1 st.2.2.2 p1 p2 p3 W) 3 ?_ ?_ ?_ 7 (0,false,false,false) _ _ rfl ⟨by omega,0,0,0,rfl,HX1.out.drew,HB1.out.drew,(fun e=>by cases e),(fun e=>by cases e),(fun e=>by cases e),(fun e=>by cases e),(fun e=>by cases e),(fun e=>by cases e)⟩
 · rintro ⟨k,x,y,z⟩ a W ⟨hk,_⟩ hn
   have hk':k=0∨k=1∨k=2∨k=3∨k=4:=by simp only at hk;omega
   clear hk
   rcases hk' with rfl | rfl | rfl | rfl | rfl<;>cases x<;>cases y<;>cases z<;>first | exact absurd rfl hn | exact⟨by kernel_rfl,by decide⟩
 · rintro ⟨k,x,y,z⟩ a W ⟨hk,p1,p2,p3,rfl,hst⟩ hn i hi
   clear hn;simp only[rdy,List.mem_append] at hi hst hk ⊢;have HS:=hid hst;clear hst
   rcases hi with hi | hi | hi | hi
   · have hk':k=0∨k=1∨k=2∨k=3∨k=4:=by omega
     clear hk
     rcases hk' with rfl | rfl | rfl | rfl | rfl
     · obtain rfl:i=2:=by simpa [calls] using hi
       refine op_step rfl (fun K hK=>?_);simp only[act,Nat.blt,Nat.ble,on_false]
       go_simp
       go_at_call 240
       with_reducible refine (HF1.out _).mono ?_
       rintro e W' ⟨rfl,hb⟩;exact hK.out _ _ ⟨(1,x,y,z),rfl,left_call (by omega),(HS.out.keep hb).box,by omega,p1,p2,p3,rfl,(HS.out.keep hb)⟩
     · obtain rfl:i=5:=by simpa [calls] using hi
       refine op_step rfl (fun K hK=>?_);simp only[act,Nat.blt,Nat.ble,on_true,on_false]
       go_simp
       go_at_call 240
       with_reducible refine (HF2.out _).mono ?_
       rintro e W' ⟨rfl,hb⟩;exact hK.out _ _ ⟨(2,x,y,z),rfl,left_call (by omega),(HS.out.keep hb).box,by omega,p1,p2,p3,rfl,(HS.out.keep hb)⟩
     · obtain rfl:i=8:=by simpa [calls] using hi
       refine op_step rfl (fun K hK=>?_);simp only[act,Nat.blt,Nat.ble,on_true,on_false]
       go_simp
       go_at_call 241
       with_reducible refine (HT.out _).mono ?_
       rintro e W' ⟨rfl,rfl⟩;exact hK.out _ _ ⟨(3,x,y,z),rfl,left_call (by omega),HS.out.box,by omega,p1,p2,p3,rfl,HS.out⟩
     · obtain rfl:i=9:=by simpa [calls] using hi
       refine op_step rfl (fun K hK=>?_);simp only[act,Nat.blt,Nat.ble,on_true,on_false]
       go_simp
       go_at_call 240
       with_reducible refine (HF3.out _).mono ?_
       rintro e W' ⟨rfl,hb⟩;exact hK.out _ _ ⟨(4,x,y,z),rfl,left_call (by omega),(HS.out.keep hb).box,by omega,p1,p2,p3,rfl,(HS.out.keep hb)⟩
     · simp[calls] at hi
   · cases x with
     | true=>simp at hi
     | false=>
       obtain rfl:i=10:=by simpa using hi
       refine op_step rfl (fun K hK=>?_);simp only[act]
       go_simp
       exact hK.out _ _ ⟨(k,true,y,z),rfl,left_one _ _ _,(HS.out.new1 _).box,hk,W.heap.size,p2,p3,rfl,HS.out.new1 _⟩
   · cases y with
     | true=>simp at hi
     | false=>
       obtain rfl:i=11:=by simpa using hi
       refine op_step rfl (fun K hK=>?_);simp only[act]
       go_simp
       exact hK.out _ _ ⟨(k,x,true,z),rfl,left_two _ _ _,(HS.out.new2 _).box,hk,p1,W.heap.size,p3,rfl,HS.out.new2 _⟩
   · cases z with
     | true=>simp at hi
     | false=>
       obtain rfl:i=12:=by simpa using hi
       refine op_step rfl (fun K hK=>?_);simp only[act]
       go_simp
       exact hK.out _ _ ⟨(k,x,y,true),rfl,left_three _ _ _,(HS.out.new3 _).box,hk,p1,p2,W.heap.size,rfl,HS.out.new3 _⟩
 · rintro ⟨k,x,y,z⟩ a W ⟨hk,p1,p2,p3,rfl,hst⟩ hn
   obtain⟨rfl,rfl,rfl,rfl⟩:=left_pos hk hn
   clear hk hn;have HS:=hid hst;clear hst;simp only[act,Nat.blt,Nat.ble,on_true,ptr,fv]
   obtain⟨ha1,hb1⟩:=HS.out.f1 rfl
   obtain⟨ha2,hb2⟩:=HS.out.f2 rfl
   obtain⟨ha3,hb3⟩:=HS.out.f3 rfl
   have hd12:=HS.out.d12 rfl rfl;have hd13:=HS.out.d13 rfl rfl;have hd23:=HS.out.d23 rfl rfl;have HBX:=hid HS.out.box;have HBL:=hid HS.out.below;have hg0:=ha1.c0;have hg1:=ha1.c1;have hg2:=ha1.f 0;have hg3:=ha1.f 1;have H1:=hid ha1;have H2:=hid ha2;have H3:=hid ha3;clear ha1 ha2 ha3 HS hHeld;refine wpAnyH_ready (rs:=[13]) (by kernel_rfl) (by simp) ?_;refine AllReadyH.cons rfl (fun K hK=>?_) AllReadyH.nil
   go_simp
   refine hK.out _ _ (HBX.out.other (by omega) _ _) (fun _=>?_);clear hK K hg0 hg1 hg2 hg3;have HBX_1:=hid (HBX.out.other (show w.heap.size≠p1 by omega) (.int .i64 16) (.int .u64 (s:Int)));have HBL_1:=hid ((HBL.out.setCell (p:=⟨p1,0,none⟩) (Nat.le_of_lt hb1) (.int .i64 16)).setCell (p:=⟨p1,1,none⟩) (Nat.le_of_lt hb1) (.int .u64 (s:Int)));have H1_1:=hid (H1.out.set 16 s);have H2_1:=hid (H2.out.other (show p2≠p1 by omega) (.int .i64 16) (.int .u64 (s:Int)));have H3_1:=hid (H3.out.other (show p3≠p1 by omega) (.int .i64 16) (.int .u64 (s:Int)));clear HBX HBL H1 H2 H3;generalize (W.setCell ⟨p1,0,none⟩ (.int .i64 16)).setCell ⟨p1,1,none⟩ (.int .u64 (s:Int))=W1 at *;have hg0_1:=H2_1.out.c0;have hg1_1:=H2_1.out.c1;have hg2_1:=H2_1.out.f 0;have hg3_1:=H2_1.out.f 1;refine wpAnyH_ready (rs:=[14]) (by kernel_rfl) (by simp) ?_;refine AllReadyH.cons rfl (fun K hK=>?_) AllReadyH.nil
   go_simp
   refine hK.out _ _ (HBX_1.out.other (by omega) _ _) (fun _=>?_);clear hK K hg0_1 hg1_1 hg2_1 hg3_1;have HBX_2:=hid (HBX_1.out.other (show w.heap.size≠p2 by omega) (.int .i64 16) (.int .u64 (c:Int)));have HBL_2:=hid ((HBL_1.out.setCell (p:=⟨p2,0,none⟩) (Nat.le_of_lt hb2) (.int .i64 16)).setCell (p:=⟨p2,1,none⟩) (Nat.le_of_lt hb2) (.int .u64 (c:Int)));have H1_2:=hid (H1_1.out.other (show p1≠p2 by omega) (.int .i64 16) (.int .u64 (c:Int)));have H2_2:=hid (H2_1.out.set 16 c);have H3_2:=hid (H3_1.out.other (show p3≠p2 by omega) (.int .i64 16) (.int .u64 (c:Int)));clear HBX_1 HBL_1 H1_1 H2_1 H3_1;generalize (W1.setCell ⟨p2,0,none⟩ (.int .i64 16)).setCell ⟨p2,1,none⟩ (.int .u64 (c:Int))=W2 at *;have hg0_2:=H3_2.out.c0;have hg1_2:=H3_2.out.c1;have hg2_2:=H3_2.out.f 0;have hg3_2:=H3_2.out.f 1;refine wpAnyH_ready (rs:=[15]) (by kernel_rfl) (by simp) ?_;refine AllReadyH.cons rfl (fun K hK=>?_) AllReadyH.nil
   go_simp
   refine hK.out _ _ (HBX_2.out.other (by omega) _ _) (fun _=>?_);clear hK K hg0_2 hg1_2 hg2_2 hg3_2;have HBX_3:=hid (HBX_2.out.other (show w.heap.size≠p3 by omega) (.int .i64 16) (.int .u64 (q:Int)));have HBL_3:=hid ((HBL_2.out.setCell (p:=⟨p3,0,none⟩) (Nat.le_of_lt hb3) (.int .i64 16)).setCell (p:=⟨p3,1,none⟩) (Nat.le_of_lt hb3) (.int .u64 (q:Int)));have H1_3:=hid (H1_2.out.other (show p1≠p3 by omega) (.int .i64 16) (.int .u64 (q:Int)));have H2_3:=hid (H2_2.out.other (show p2≠p3 by omega) (.int .i64 16) (.int .u64 (q:Int)));have H3_3:=hid (H3_2.out.set 16 q);clear HBX_2 HBL_2 H1_2 H2_2 H3_2;generalize (W2.setCell ⟨p3,0,none⟩ (.int .i64 16)).setCell ⟨p3,1,none⟩ (.int .u64 (q:Int))=W3 at *;refine wpAnyH_done (by kernel_rfl) ?_ _;have hg0:=H1_3.out.c0;have hg1:=H1_3.out.c1;have hg2:=H2_3.out.c0;have hg3:=H2_3.out.c1;have hg4:=H3_3.out.c0;have hg5:=H3_3.out.c1;clear HBX_3 HF1 HF2 HF3 HT HX1 HB1 hsz;go_wp2_with fail
   refine (HP3.out _).mono ?_;rintro e W4 ⟨rfl,hb⟩;have HBL_4:=hid (HBL_3.out.trans (hb.mono HBL_3.out.size));have H1_4:=hid (H1_3.out.keep hb);have H2_4:=hid (H2_3.out.keep hb);have H3_4:=hid (H3_3.out.keep hb);clear hb hg0 hg1 hg2 hg3 hg4 hg5 HBL_3 H1_3 H2_3 H3_3 HP3;go_wp2_with fail
   refine (HBY.out _).mono ?_;rintro e W5 ⟨b,o,gc,rfl,hgc,hbt,hb⟩;have HBL_5:=hid (HBL_4.out.trans (hb.mono HBL_4.out.size));have H1_5:=hid (H1_4.out.keep hb);have H2_5:=hid (H2_4.out.keep hb);have H3_5:=hid (H3_4.out.keep hb);have hs16:=Crc.sum16_one gc 1 hbt;rw[six_len,show Crc.S16 (six (nums s c q))=sum s c q from rfl] at hs16;have HS16:=hid hs16;clear hb hbt hs16 HBL_4 H1_4 H2_4 H3_4 HBY;go_wp2_with fail
   refine HS16.out.mono ?_;rintro e w' ⟨rfl,rfl⟩;have hba:=(Below.refl W5.heap.size W5).alloc (Nat.le_refl _) (.cells #[.slice (some ⟨b,o,none⟩) 6 gc] 112);have HBL_6:=hid (HBL_5.out.trans (hba.mono HBL_5.out.size));have H1_6:=hid (H1_5.out.keep hba);have H2_6:=hid (H2_5.out.keep hba);have H3_6:=hid (H3_5.out.keep hba);clear hba HS16 HBL_5 H1_5 H2_5 H3_5;generalize W5.alloc (.cells #[.slice (some ⟨b,o,none⟩) 6 gc] 112)=W6 at *;have hg0:=H1_6.out.c0;have hg1:=H1_6.out.c1;have hg2:=H2_6.out.c0;have hg3:=H2_6.out.c1;have hg4:=H3_6.out.c0;have hg5:=H3_6.out.c1;have hws:IntKind.wrap .i64 ((sum s c q:Nat):Int)=((sum s c q:Nat):Int):=by rw[IntKind.wrap_i64];omega
   go_wp2
   go_region_held3 (fun W'=>(W'.cell? ⟨p1,0,none⟩=some (.int .i64 16)∧W'.cell? ⟨p1,1,none⟩=some (.int .u64 (s:Int)))∧(W'.cell? ⟨p2,0,none⟩=some (.int .i64 16)∧W'.cell? ⟨p2,1,none⟩=some (.int .u64 (c:Int)))∧(W'.cell? ⟨p3,0,none⟩=some (.int .i64 16)∧W'.cell? ⟨p3,1,none⟩=some (.int .u64 (q:Int)))) (go_keep)
    (first
    | (go_at_call 240
       with_reducible refine (HF4.out _).mono ?_
       rintro e W7 ⟨rfl,hb⟩;have HBL_7:=hid (HBL_6.out.drew.trans (hb.mono HBL_6.out.drew.size));have H1_7:=hid (H1_6.out.drew.keep hb);have H2_7:=hid (H2_6.out.drew.keep hb);have H3_7:=hid (H3_6.out.drew.keep hb);have hh0:=H1_7.out.c0;have hh1:=H1_7.out.c1;have hh2:=H2_7.out.c0;have hh3:=H2_7.out.c1;have hh4:=H3_7.out.c0;have hh5:=H3_7.out.c1;clear hb)
    | (go_at_call 121
       with_reducible refine (HP4.out _).mono ?_
       rintro e W8 ⟨rfl,hb⟩;have HBL_8:=hid (HBL_7.out.trans (hb.mono HBL_7.out.size));have H1_8:=hid (H1_7.out.keep hb);have H2_8:=hid (H2_7.out.keep hb);have H3_8:=hid (H3_7.out.keep hb);have hi0:=H1_8.out.c0;have hi1:=H1_8.out.c1;have hi2:=H2_8.out.c0;have hi3:=H2_8.out.c1;have hi4:=H3_8.out.c0;have hi5:=H3_8.out.c1;clear hb))
   go_wp2
   go_ret2
   exact⟨rfl,HBL_8.out⟩
end Slo
end
section
open Lib (hid)
open Go.RowKit Go.MapKept
namespace Slo
open Lin
def gv:Option (Nat × Nat × Nat)→Value
 | some (s,c,q)=>.agg #[.int .i64 (s:Int),.int .i64 (c:Int),.int .i64 (nx q)]
 | none=>.agg #[.int .i64 0,.int .i64 0,.int .i64 0]
def ev:Option (Nat × Nat × Nat)→Int
 | some _=>0
 | none=>2
theorem nts_four (w:World):Pack.Nts (w.alloc (.cells #[.int .i64 16,.int .i64 16,.int .i64 16,.int .i64 16] 3)) (some ⟨w.heap.size,0,none⟩) [16,16,16,16]:=
 ⟨fun f hf=>by
   obtain rfl:f=16:=by simpa using hf
   exact⟨by decide,by decide⟩,by decide,fun j hj=>by
   have:j < 4:=hj
   match j,this with
   | 0,_=>exact⟨w.heap.size,0,rfl,by simp,Pack.alloc_cell _ _ _ _⟩
   | 1,_=>exact⟨w.heap.size,0,rfl,by simp,Pack.alloc_cell _ _ _ _⟩
   | 2,_=>exact⟨w.heap.size,0,rfl,by simp,Pack.alloc_cell _ _ _ _⟩
   | 3,_=>exact⟨w.heap.size,0,rfl,by simp,Pack.alloc_cell _ _ _ _⟩⟩
theorem split_any (w:World) (N:Nat) (hN:w.heap.size=N) (x s c q:Nat) (h:x < 18446744073709551616) (hs:s=x % 65536) (hc:c=x / 65536 % 65536) (hq:q=x / 4294967296 % 65536):Calls Tryz.prog 65 #[.int .u64 (x:Int),.slice (some ⟨N,0,none⟩) 4 4] (w.alloc (.cells #[.int .i64 16,.int .i64 16,.int .i64 16,.int .i64 16] 3)) fun e w'=>∃ (b o gc:Nat),e = .returned (.tuple #[.slice (some ⟨b,o,none⟩) 4 gc,.bool true])∧(b < w'.heap.size∧w'.cell? ⟨b,o,none⟩=some (.int .u64 (s:Int))∧w'.cell? ⟨b,o+1,none⟩=some (.int .u64 (c:Int))∧w'.cell? ⟨b,o+2,none⟩=some (.int .u64 (q:Int)))∧Below w.heap.size w w':=by
 subst hN hs hc hq;refine (Pack.split_any x h _ 4 _ (nts_four w)).mono ?_;rintro e w' ⟨G,gc,rfl,hw,hb⟩;have hb0:=(Below.refl w.heap.size w).alloc (Nat.le_refl _) (.cells #[.int .i64 16,.int .i64 16,.int .i64 16,.int .i64 16] 3);rw[split_four h] at hw ⊢;simp only[Option.getD_some] at hw
 obtain⟨b,o,rfl,hlt,hc0⟩:=hw.at' 0 (by simp)
 obtain⟨b',o',e,_,hc1⟩:=hw.at' 1 (by simp)
 injection e with e
 injection e with e1 e2
 subst e1 e2
 obtain⟨b',o',e,_,hc2⟩:=hw.at' 2 (by simp)
 injection e with e
 injection e with e1 e2
 subst e1 e2
 exact⟨b,o,gc,rfl,⟨hlt,hc0,hc1,hc2⟩,hb0.trans (hb.mono hb0.size)⟩
theorem decode_any (w:World) (x:Nat) (hx:x < 18446744073709551616) :
 Calls Tryz.prog 179 #[.int .u64 (x:Int)] w fun r w'=>r = .returned (.tuple #[gv (dec x),.int .i64 (ev (dec x))])∧Below w.heap.size w w':=by
 obtain⟨s,hs⟩:∃ s,s=x % 65536:=⟨_,rfl⟩
 obtain⟨c,hc⟩:∃ c,c=x / 65536 % 65536:=⟨_,rfl⟩
 obtain⟨q,hq⟩:∃ q,q=x / 4294967296 % 65536:=⟨_,rfl⟩
 have hs1:s < 65536:=by omega
 have hc1:c < 65536:=by omega
 have hq1:q < 65536:=by omega
 have HB:=hid ((Below.refl w.heap.size w).alloc (Nat.le_refl _) (.cells #[.int .i64 0,.int .i64 0,.int .i64 0] 190));have HX:=hid (owned w 0 0 0 190);have HS:=hid (split_any (w.alloc (.cells #[.int .i64 0,.int .i64 0,.int .i64 0] 190)) (w.heap.size+1) (World.size_alloc _ _) x s c q hx hs hc hq)
 have HD:=hid (show dec x=if may s c (nx q)=true∧x=wd s c q then some (s,c,q) else none by
  unfold dec;simp only[← hs,← hc,← hq])
 have HTN:=hid (fun w=>toNext_any w q)
 obtain⟨n,hn⟩:∃ n,n=nx q:=⟨_,rfl⟩
 rw[← hn] at HTN;have HN:=hid hn;have hws:IntKind.wrap .i64 (s:Int)=(s:Int):=by rw[IntKind.wrap_i64];omega
 have hwc:IntKind.wrap .i64 (c:Int)=(c:Int):=by rw[IntKind.wrap_i64];omega
 have hwq:IntKind.wrap .i64 (q:Int)=(q:Int):=by rw[IntKind.wrap_i64];omega
 clear hs hc hq hn;go_enter Tryz.func179,Tryz.ntmps179
 go_wp2_with fail
 refine HS.out.mono ?_;rintro e w1 ⟨b1,o1,gc,rfl,⟨hb1,hq0,hq1,hq2⟩,hbw⟩;have HX1:=hid (HX.out.keep hbw);have HB1:=hid (HB.out.trans (hbw.mono HB.out.size));have hz1:w.heap.size < w1.heap.size:=HX1.out.box.lt;clear hbw HS HX HB;go_wp2
 go_region_held3 (fun W'=>W'.cell? ⟨b1,o1,none⟩=some (.int .u64 (s:Int))∧W'.cell? ⟨b1,o1+1,none⟩=some (.int .u64 (c:Int))∧W'.cell? ⟨b1,o1+2,none⟩=some (.int .u64 (q:Int))) (go_keep)
  (first
  | (go_at_call 220
     with_reducible refine (HTN.out _).mono ?_
     rintro e w' ⟨rfl,rfl⟩))
 all_goals
  (have hba:=(Below.refl w1.heap.size w1).alloc (Nat.le_refl _) (.cells #[.int .i64 (s:Int),.int .i64 (c:Int),.int .i64 n] 190)
   have HX2:=hid (HX1.out.keep hba).drew;have HG2:=hid (boxed w1 s c n 190).drew;have HB2:=hid (HB1.out.trans (hba.mono HB1.out.size)).drew;clear hws hwc hwq hba HX1 HB1 hb1 hq0 hq1 hq2;go_wp2_with fail
   generalize (w1.alloc (.cells #[.int .i64 (s:Int),.int .i64 (c:Int),.int .i64 n] 190)).drew=w2 at *;generalize w1.heap.size=k1 at *
   cases hmay:may s c (nx q) with
   | false=>
     have HNO:=hid (show dec x=none by rw[HD.out,if_neg (fun h=>by rw[hmay] at h;simp at h)]);refine (encode_no _ s c n (by rw[HN.out];exact hmay)).mono ?_;rintro e w3 ⟨rfl,hb3⟩;have HX3:=hid (HX2.out.keep hb3);have HB3:=hid (HB2.out.trans (hb3.mono HB2.out.size));have hc0:=HX3.out.box.c0;have hc1:=HX3.out.box.c1;have hc2:=HX3.out.box.c2;have hf0:=HX3.out.f 0;have hf1:=HX3.out.f 1;have hf2:=HX3.out.f 2;clear hb3 hmay HX2 HB2 HD HN HG2;go_wp2
     rw[HNO.out];refine bodyPost_ret (v:=.tuple #[gv none,.int .i64 (ev none)]) ?_ rfl ⟨rfl,?_⟩
     · simp[results,Tryz.results179,go_sem,gv,ev,hc0,hc1,hc2]
     · exact ((HB3.out.setCell (Nat.le_refl _) _).setCell (Nat.le_refl _) _).setCell (Nat.le_refl _) _
   | true=>
     refine (encode_yes _ s c q n HN.out hmay).mono ?_;rintro e w3 ⟨rfl,hb3⟩;have HX3:=hid (HX2.out.keep hb3);have HG3:=hid (HG2.out.keep hb3);have HB3:=hid (HB2.out.trans (hb3.mono HB2.out.size));have hc0:=HX3.out.box.c0;have hc1:=HX3.out.box.c1;have hc2:=HX3.out.box.c2;have hf0:=HX3.out.f 0;have hf1:=HX3.out.f 1;have hf2:=HX3.out.f 2;have hg0:=HG3.out.c0;have hg1:=HG3.out.c1;have hg2:=HG3.out.c2;have HM:=hid hmay;clear hb3 hmay HX2 HB2 HG2;by_cases hls:x=wd s c q
     · have HNO:=hid (show dec x=some (s,c,q) by rw[HD.out,if_pos ⟨HM.out,hls⟩])
       have hbe:(((x:Nat):Int) != ((wd s c q:Nat):Int))=false:=by rw[← hls];simp
       clear hls HD HM;go_wp2
       rw[HNO.out];refine bodyPost_ret (v:=.tuple #[gv (some (s,c,q)),.int .i64 (ev (some (s,c,q)))]) ?_ rfl ⟨rfl,?_⟩
       · simp[results,Tryz.results179,go_sem,gv,ev,hc0,hc1,hc2,HN.out]
       · exact ((HB3.out.setCell (Nat.le_refl _) _).setCell (Nat.le_refl _) _).setCell (Nat.le_refl _) _
     · have HNO:=hid (show dec x=none by rw[HD.out,if_neg (fun h=>hls h.2)])
       have hbe:(((x:Nat):Int) != ((wd s c q:Nat):Int))=true:=by simp;omega
       clear hls HD HM;go_wp2
       rw[HNO.out];refine bodyPost_ret (v:=.tuple #[gv none,.int .i64 (ev none)]) ?_ rfl ⟨rfl,?_⟩
       · simp[results,Tryz.results179,go_sem,gv,ev,hc0,hc1,hc2]
       · exact ((HB3.out.setCell (Nat.le_refl _) _).setCell (Nat.le_refl _) _).setCell (Nat.le_refl _) _)
end Slo
end
section
open Lib (hid)
open Go.RowKit Go.MapKept
namespace Vol
section
variable {Q Q' : Nat → Prop} {w w' : World} {vb a n m s : Nat} {W : List Nat} {st sn : Nat}
theorem Vo.num (h:Vo Q w vb a n m s W st sn):(1≤(n:Int)∧(n:Int)≤65534)∧(1≤(m:Int)∧(m:Int)≤65534)∧Geo.Sz s:=(Geo.may_num h.may).1
theorem slot_no (h:Vo Q w vb a n m s W st sn) (i:Int) (hi:i < 0∨(n:Int)≤i) :
 Calls Tryz.prog 112 #[.pointer (some ⟨vb,0,none⟩),.int .i64 i] w fun r w'=>r = .returned (.tuple #[.agg #[.int .i64 0,.int .i64 0,.int .i64 0],.int .i64 9])∧Below w.heap.size w w':=by
 obtain⟨c0,c1,c2,c3⟩:=h.cells
 have hlt:=h.lt
 have HP:=hid (fun w=>show Calls Tryz.prog 178 #[.agg #[.int .i64 n,.int .i64 m,.int .i64 s],.int .i64 i] w _ from by
  have hp:=Geo.slot_any w (n:Int) (m:Int) (s:Int) i;rw[Geo.plc_out (by omega)] at hp;exact hp)
 have HN:=hid (fun w=>isNone_any w (-1));have HX:=hid (Lin.owned w 0 0 0 190);have HB0:=hid ((Below.refl w.heap.size w).alloc (Nat.le_refl _) (.cells #[.int .i64 0,.int .i64 0,.int .i64 0] 190));clear h hi;go_enter Tryz.func112,Tryz.ntmps112
 go_wp2_with fail
 generalize w.alloc (.cells #[.int .i64 0,.int .i64 0,.int .i64 0] 190)=w0 at *;refine (HP.out _).mono ?_;rintro r w1 ⟨rfl,hb⟩;have HB:=hid (HB0.out.trans (hb.mono HB0.out.size));have HX1:=hid (HX.out.keep hb);clear hb HP HX;go_wp2_with fail
 refine (HN.out _).mono ?_;rintro r w2 ⟨rfl,rfl⟩;have hc0:=HX1.out.box.c0;have hc1:=HX1.out.box.c1;have hc2:=HX1.out.box.c2;have hf0:=HX1.out.f 0;have hf1:=HX1.out.f 1;have hf2:=HX1.out.f 2;have hl1:=HX1.out.box.lt;go_wp2
 refine bodyPost_ret (v:=.tuple #[.agg #[.int .i64 0,.int .i64 0,.int .i64 0],.int .i64 9]) ?_ rfl ⟨rfl,?_⟩
 · simp[results,Tryz.results112,go_sem,hc0,hc1,hc2]
 · exact ((HB.out.setCell (Nat.le_refl _) _).setCell (Nat.le_refl _) _).setCell (Nat.le_refl _) _
theorem gv_three (q:Option (Nat × Nat × Nat)):∃ x y z:Int,Slo.gv q = .agg #[.int .i64 x,.int .i64 y,.int .i64 z]:=by
 cases q with
 | none=>exact⟨0,0,0,rfl⟩
 | some t=>exact⟨_,_,_,rfl⟩
theorem at_lt {W:List Nat} (h:∀ x∈W,x < 18446744073709551616) (p:Nat):W[p]?.getD 0 < 18446744073709551616:=by
 rcases Nat.lt_or_ge p W.length with h1 | h1
 · rw[List.getElem?_eq_getElem h1]
   exact h _ (List.getElem_mem h1)
 · rw[List.getElem?_eq_none h1]
   decide
theorem pos_not (p:Nat):decide ((p:Int) < 0)=false:=decide_eq_false (by omega)
theorem slot_place (h:Vo Q w vb a n m s W st sn) (i:Nat) (hi:i < n) (w':World):Calls Tryz.prog 178 #[.agg #[.int .i64 n,.int .i64 m,.int .i64 s],.int .i64 (i:Int)] w' fun r w''=>r = .returned (.int .i64 ((16+m * 8+i:Nat):Int))∧Below w'.heap.size w' w'':=by
 have hp:=Geo.slot_any w' (n:Int) (m:Int) (s:Int) (i:Int);rw[Geo.plc_yes h.may (by omega) (by omega),show 16+(m:Int) * 8+(i:Int) * 1=((16+m * 8+i:Nat):Int) by omega] at hp;exact hp
theorem slot_in (h:Vo Q w vb a n m s W st sn) {i:Nat} (hi:i < n):16+m * 8+i < W.length:=by
 obtain⟨h1,h2,h3⟩:=h.num
 have h4:=Geo.bm_bounds h1 h2;have h5:=Geo.bk_bounds h1 h2;have h6:=Geo.fin_bounds h1 h2 h3;have h7:=h.len;unfold Geo.fin at h7;omega
theorem slot_yes (h:Vo Q w vb a n m s W st sn) (i:Nat) (hi:i < n) :
 Calls Tryz.prog 112 #[.pointer (some ⟨vb,0,none⟩),.int .i64 (i:Int)] w fun r w'=>
  r = .returned (.tuple #[Slo.gv (Slo.dec (W[16+m * 8+i]?.getD 0)),.int .i64 (Slo.ev (Slo.dec (W[16+m * 8+i]?.getD 0)))])∧Below w.heap.size w w':=by
 obtain⟨c0,c1,c2,c3⟩:=h.cells
 have hlt:=h.lt;have HP:=hid (slot_place h i hi);have HX:=hid (Lin.owned w 0 0 0 190);have HB0:=hid ((Below.refl w.heap.size w).alloc (Nat.le_refl _) (.cells #[.int .i64 0,.int .i64 0,.int .i64 0] 190));have HL:=hid (fun w' (hb:Below w.heap.size w w')=>up_load (h.up.keep hb) (16+m * 8+i));have hx:=at_lt h.up.u64 (16+m * 8+i);have HD:=hid (fun w=>Slo.decode_any w _ hx);have hp0:=pos_not (16+m * 8+i);generalize 16+m * 8+i=p at *;generalize W[p]?.getD 0=x at *;have HN:=hid (fun w=>isNone_any w (p:Int));rw[hp0] at HN
 obtain⟨g0,g1,g2,hg⟩:=gv_three (Slo.dec x)
 rw[hg] at HD ⊢;generalize Slo.ev (Slo.dec x)=e at *;have H:=hid h;clear h hi hg hp0 hx;go_enter Tryz.func112,Tryz.ntmps112
 go_wp2_with fail
 generalize w.alloc (.cells #[.int .i64 0,.int .i64 0,.int .i64 0] 190)=w0 at *;refine (HP.out _).mono ?_;rintro r w1 ⟨rfl,hb⟩;have HB:=hid (HB0.out.trans (hb.mono HB0.out.size));have HX1:=hid (HX.out.keep hb);clear hb HP HX c0 c1 c2 c3
 obtain⟨c0,_,_,_⟩:=(H.out.keep HB.out).cells
 go_wp2_with fail
 refine (HN.out _).mono ?_;rintro r w2 ⟨rfl,rfl⟩;go_wp2_with fail
 refine (HL.out _ HB.out).mono ?_;rintro r w2 ⟨rfl,rfl⟩;go_wp2_with fail
 refine (HD.out _).mono ?_;rintro r w3 ⟨rfl,hb⟩;have HB3:=hid (HB.out.trans (hb.mono HB.out.size));have HX3:=hid (HX1.out.keep hb);clear hb HX1 HB HD HL c0;have hc0:=HX3.out.box.c0;have hc1:=HX3.out.box.c1;have hc2:=HX3.out.box.c2;have hf0:=HX3.out.f 0;have hf1:=HX3.out.f 1;have hf2:=HX3.out.f 2;go_wp2
 refine bodyPost_ret (v:=.tuple #[.agg #[.int .i64 g0,.int .i64 g1,.int .i64 g2],.int .i64 e]) ?_ rfl ⟨rfl,?_⟩
 · simp[results,Tryz.results112,go_sem,hc0,hc1,hc2]
 · exact ((HB3.out.setCell (Nat.le_refl _) _).setCell (Nat.le_refl _) _).setCell (Nat.le_refl _) _
theorem sts_one (w:World) (p x:Nat):Sts (w.alloc (.cells #[.int .i64 (p:Int),.int .u64 (x:Int)] 143)) w.heap.size [(p,x)]:=
 ⟨by simp,fun j hj=>by
   obtain rfl:j=0:=by simpa using hj
   exact⟨Pack.alloc_cell w _ _ 0,Pack.alloc_cell w _ _ 1⟩⟩
theorem setSlot_yes (h:Vo Q w vb a n m s W st sn) (i x y q:Nat) (z:Int) (hi:i < n) (hz:z=Slo.nx q) (hm:Slo.may x y (Slo.nx q)=true) (hs:st+2 < 100000000000) :
 Calls Tryz.prog 203 #[.pointer (some ⟨vb,0,none⟩),.int .i64 (i:Int),.agg #[.int .i64 (x:Int),.int .i64 (y:Int),.int .i64 z]] w fun r w'=>
  r = .returned (.int .i64 0)∧Vo Q w' vb a n m s (W.set (16+m * 8+i) (Slo.wd x y q)) (st+2) (sn+1)∧Kq Q w w':=by
 obtain⟨c0,c1,c2,c3⟩:=h.cells
 have hlt:=h.lt;have HX:=hid (Lin.boxed w (x:Int) (y:Int) z 190);have HB0:=hid ((Below.refl w.heap.size w).alloc (Nat.le_refl _) (.cells #[.int .i64 (x:Int),.int .i64 (y:Int),.int .i64 z] 190));have HP:=hid (slot_place h i hi);have hin:=slot_in h hi;have hp0:=pos_not (16+m * 8+i);generalize 16+m * 8+i=p at *;have HN:=hid (fun w=>isNone_any w (p:Int));rw[hp0] at HN;have HE:=hid (fun w=>Slo.encode_yes w x y q z hz hm)
 obtain⟨l1,l2,l3,l4⟩:=Slo.may_lt hm
 have hwl:=Slo.wd_lt (s:=x) (c:=y) (q:=q) (by omega) (by omega) l4;generalize Slo.wd x y q=v at *;have HI:=hid hin;have HV:=hid hwl;have H:=hid h;clear h hi hm hp0 hz hin hwl l1 l2 l3 l4;go_enter Tryz.func203,Tryz.ntmps203
 go_wp2_with fail
 generalize w.alloc (.cells #[.int .i64 (x:Int),.int .i64 (y:Int),.int .i64 z] 190)=w0 at *;refine (HP.out _).mono ?_;rintro r w1 ⟨rfl,hb⟩;have HB:=hid (HB0.out.trans (hb.mono HB0.out.size));have HX1:=hid (HX.out.keep hb);clear hb HP HX HB0;go_wp2_with fail
 refine (HN.out _).mono ?_;rintro r w2 ⟨rfl,rfl⟩;have x0:=HX1.out.c0;have x1:=HX1.out.c1;have x2:=HX1.out.c2;have xl:=HX1.out.lt;go_wp2_with fail
 refine (HE.out _).mono ?_;rintro r w2 ⟨rfl,hb⟩;have HB2:=hid (HB.out.trans (hb.mono HB.out.size));clear hb HB HE c0 c1 c2 c3
 obtain⟨c0,_,_,_⟩:=(H.out.keep HB2.out).cells
 have hlt2:=(H.out.keep HB2.out).lt;go_wp2_with fail
 have hb3:=HB2.out.alloc HB2.out.size (.cells #[.int .i64 (p:Int),.int .u64 (v:Int)] 143)
 have hw:=write_any (H.out.up.grow hb3) w2.heap.size 1 [(p,v)] (sts_one w2 p v) (.inr ⟨HB2.out.size,by simp⟩) (fun t ht=>by
  obtain rfl:t=(p,v):=by simpa using ht
  exact⟨HI.out,HV.out⟩) (by simp;omega) (by simp)
 have HW:=hid hw;have HB3:=hid hb3;clear hw hb3;refine HW.out.mono ?_;rintro r w3 ⟨rfl,hu,hk⟩;have HU:=hid (hu.sub (Q':=Q) (fun k h=>.inl h));have HK:=hid ((kq_below (Q:=Q) HB3.out).trans (hk.sub (fun k h=>.inl h)));clear hu hk HW;go_wp2
 go_ret
 exact⟨rfl,H.out.next HU.out HK.out (List.length_set ..),HK.out⟩
end
end Vol
end
section
open Lib (hid)
open Go.RowKit Go.MapKept
namespace Chn
open Vol (Vo Up Kq Hb hb_new hb_grown hb_apart)
theorem run_blocks2 (u v x:Value) (W:World):(Instr.field 72 (.agg #[u,v,x]) 0).run Tryz.prog W = .ok u W:=by kernel_rfl
structure Rt (w:World) (C:Nat) (l:List Pt) (A:Option Addr) (c:Nat) (B:Option Addr) (d:Nat) (wr:World):Prop where
 res:Hb wr w.heap.size #[.slice none 0 0,.slice none 0 0] 130
 box:Hb wr C #[.slice A l.length c,.slice B l.length d] 130
 ints:wr.ownsRow w.heap.size 3 1 (.slice A l.length c) l.length (Pack.i64s (slots l))
 prts:wr.ownsRow w.heap.size 190 3 (.slice B l.length d) l.length (pcells l)
 below:Below w.heap.size w wr
theorem Rt.keep {w w1 w2:World} {C:Nat} {l:List Pt} {A B:Option Addr} {c d:Nat} (h:Rt w C l A c B d w1) (hb:Below w1.heap.size w1 w2):Rt w C l A c B d w2:=
 ⟨h.res.keep hb,h.box.keep hb,own_keep3 h.ints hb,own_keep3 h.prts hb,h.below.trans (hb.mono h.below.size)⟩
section
variable {Q : Nat → Prop} {w : World} {vb a n m s : Nat} {W : List Nat} {st sn : Nat}
theorem own_far {w:World} {B n s b i:Nat} {e t:TypeId} {v:Value} {xs:List Value} {cs:Array Value} (h:w.ownsRow B e s v n xs) (hb:Hb w b cs t) (ht:e≠t) (u:Value):(w.setCell ⟨b,i,none⟩ u).ownsRow B e s v n xs:=by
 rcases h with ⟨h1,h2⟩
 refine⟨h1,?_⟩
 rcases h2 with h0 | ⟨g,cap,cur,e2,hB,hh,hr⟩
 · exact .inl h0
 · exact .inr ⟨g,cap,cur,e2,hB,(Below.heap_setCell _ _ _ _ (show g≠b from Pm.blk_ne hh hb ht)).trans hh,hr⟩
theorem part_info:(Tryz.prog.info? 190).map (fun i=>(i.zero,i.size,i.bytes))=some (some (.agg #[.int .i64 0,.int .i64 0,.int .i64 0]),3,24):=by kernel_rfl
theorem cells_three_new (w:World) (x y z:Value) (t:TypeId):∀ j u,[x,y,z][j]? = some u→(w.alloc (.cells #[x,y,z] t)).cell? ((⟨w.heap.size,0,none⟩:Addr).add j)=some u:=by
 intro j u hj
 match j,hj with
 | 0,hj=>
   simp at hj;subst hj;simp[Addr.add]
 | 1,hj=>
   simp at hj;subst hj;simp[Addr.add]
 | 2,hj=>
   simp at hj;subst hj;simp[Addr.add]
theorem hb_apart3 {w:World} {b:Nat} {cs:Array Value} {t e:TypeId} {B n s:Nat} {v:Value} {xs:List Value} (h:Hb w b cs t) (ho:w.ownsRow B e s v n xs) (ht:e≠t):v.ownBlock≠some b:=by
 rcases ho.2 with ⟨e1,_⟩ | ⟨g,cap,cur,e1,_,hg,_⟩
 · rw[e1];simp[Value.ownBlock]
 · rw[e1]
   simp only[Value.ownBlock,ne_eq,Option.some.injEq];exact Pm.blk_ne hg h ht
def lenOf:Value→Nat
 | .slice _ n _=>n
 | _=>0
def RdTo (n:Nat) (f:Nat→Option (Nat × Nat × Nat)) (h:Int) (w:World) (r:Ending) (w':World):Prop:=
 match rd (pat f n) n h with
 | none=>r = .returned (.tuple #[.agg #[.slice none 0 0,.slice none 0 0],.int .i64 2])∧Below w.heap.size w w'
 | some l=>∃ (A:Option Addr) (c:Nat) (B:Option Addr) (d:Nat),r = .returned (.tuple #[.agg #[.slice A l.length c,.slice B l.length d],.int .i64 0])∧Pack.Nts w' A (slots l)∧Prt w' B l∧l.length≤c∧l.length≤d∧Below w.heap.size w w'
theorem row_cap3 {w:World} {B n c:Nat} {e:TypeId} {G:Option Addr} {xs:List Value} {s:Nat} (h:w.ownsRow B e s (.slice G n c) n xs):n≤c:=by
 rcases h.2 with ⟨e,h0⟩ | ⟨g,cap,cur,e,_,_,hn,_⟩
 · injection e with e1 e2 e3;omega
 · injection e with e1 e2 e3;omega
theorem RdTo.none {n:Nat} {f:Nat→Option (Nat × Nat × Nat)} {h:Int} {w w':World} {r:Ending} (hn:rd (pat f n) n h=Option.none) (hr:r = .returned (.tuple #[.agg #[.slice Option.none 0 0,.slice Option.none 0 0],.int .i64 2])) (hb:Below w.heap.size w w'):RdTo n f h w r w':=by
 unfold RdTo;rw[hn]
 exact⟨hr,hb⟩
def New (B:Nat) (A:Option Addr):Prop:=∀ a,A=Option.some a→B≤a.block
theorem own_new {w:World} {B n c s:Nat} {e:TypeId} {G:Option Addr} {xs:List Value} (h:w.ownsRow B e s (.slice G n c) n xs):New B G:=by
 rintro a rfl;exact row_base_lt3 h rfl
def RdN (n:Nat) (f:Nat→Option (Nat × Nat × Nat)) (h:Int) (w:World) (r:Ending) (w':World):Prop:=
 match rd (pat f n) n h with
 | none=>r = .returned (.tuple #[.agg #[.slice none 0 0,.slice none 0 0],.int .i64 2])∧Below w.heap.size w w'
 | some l=>∃ (A:Option Addr) (c:Nat) (B:Option Addr) (d:Nat),r = .returned (.tuple #[.agg #[.slice A l.length c,.slice B l.length d],.int .i64 0])∧Pack.Nts w' A (slots l)∧Prt w' B l∧(l.length≤c∧l.length≤d)∧(New w.heap.size A∧New w.heap.size B)∧Below w.heap.size w w'
theorem RdN.none {n:Nat} {f:Nat→Option (Nat × Nat × Nat)} {h:Int} {w w':World} {r:Ending} (hn:rd (pat f n) n h=Option.none) (hr:r = .returned (.tuple #[.agg #[.slice Option.none 0 0,.slice Option.none 0 0],.int .i64 2])) (hb:Below w.heap.size w w'):RdN n f h w r w':=by
 unfold RdN;rw[hn]
 exact⟨hr,hb⟩
theorem RdN.some {n:Nat} {f:Nat→Option (Nat × Nat × Nat)} {h:Int} {w w':World} {r:Ending} {l:List Pt} {A B:Option Addr} {c d:Nat} (hn:rd (pat f n) n h=Option.some l) (hr:r = .returned (.tuple #[.agg #[.slice A l.length c,.slice B l.length d],.int .i64 0])) (h1:Pack.Nts w' A (slots l)) (h2:Prt w' B l) (h3:l.length≤c∧l.length≤d) (h4:New w.heap.size A∧New w.heap.size B) (hb:Below w.heap.size w w'):RdN n f h w r w':=by
 unfold RdN;rw[hn]
 exact⟨A,c,B,d,hr,h1,h2,h3,h4,hb⟩
theorem RdTo.some {n:Nat} {f:Nat→Option (Nat × Nat × Nat)} {h:Int} {w w':World} {r:Ending} {l:List Pt} {A B:Option Addr} {c d:Nat} (hn:rd (pat f n) n h=Option.some l) (hr:r = .returned (.tuple #[.agg #[.slice A l.length c,.slice B l.length d],.int .i64 0])) (h1:Pack.Nts w' A (slots l)) (h2:Prt w' B l) (h3:l.length≤c) (h4:l.length≤d) (hb:Below w.heap.size w w'):RdTo n f h w r w':=by
 unfold RdTo;rw[hn]
 exact⟨A,c,B,d,hr,h1,h2,h3,h4,hb⟩
theorem read_new (h:Vo Q w vb a n m s W st sn) (hd:Int) :
 Calls Tryz.prog 60 #[.pointer (some ⟨vb,0,none⟩),.int .i64 hd] w (RdN n (fw W (16+m * 8)) hd w):=by
 have HG:=hid (fun w' (hb:Below w.heap.size w w')=>Vol.geometry_any (h.keep hb));have HV:=hid h;have hrf:=run_blocks2 (.int .i64 (n:Int)) (.int .i64 (m:Int)) (.int .i64 (s:Int));clear h;go_enter Tryz.func60,Tryz.ntmps60
 go_wp2_with fail
 have hb0:=(Below.refl w.heap.size w).alloc (Nat.le_refl _) (.cells #[.slice none 0 0,.slice none 0 0] 130);have HX0:=hid (hb_new w #[.slice none 0 0,.slice none 0 0] 130);have HB0:=hid hb0;clear hb0;generalize w.alloc (.cells #[.slice none 0 0,.slice none 0 0] 130)=w0 at *;refine (HG.out _ HB0.out).mono ?_;rintro r w1 ⟨rfl,hb⟩;have HX1:=hid (HX0.out.keep hb);have HB1:=hid (HB0.out.trans (hb.mono HB0.out.size));clear hb HX0 HB0 HG;go_wp2_with fail
 have HR:=hid (show Rt w w1.heap.size [] none 0 none 0 (w1.alloc (.cells #[.slice none 0 0,.slice none 0 0] 130)) from
  ⟨HX1.out.keep ((Below.refl _ _).alloc (Nat.le_refl _) _),hb_new w1 _ _,World.ownsRow_nil ..,World.ownsRow_nil ..,HB1.out.alloc HB1.out.size _⟩)
 generalize hC:w1.heap.size=C at *;have HCS:=hid (show w.heap.size < C by rw[← hC];exact HX1.out.lt);clear hC HX1 HB1
 go_loopw [8] (fun s' wr=>∃ (sv:Int) (l:List Pt) (A:Option Addr) (c:Nat) (B:Option Addr) (d:Nat),s' = .int .i64 sv∧Path (pat (fw W (16+m * 8)) n) hd l sv∧l.length≤n∧Rt w C l A c B d wr) (fun _ wr=>n - ((wr.cell? ⟨C,0,none⟩).map lenOf).getD 0)
 case atStart=>exact⟨hd,[],none,0,none,0,rfl,rfl,Nat.zero_le _,HR.out⟩
 case round=>
  obtain⟨sv,l,A,c,B,d,rfl,hpath,hln,hrt⟩:=hrel
  have HRT:=hid hrt;have HPT:=hid hpath;have b0:=hrt.box.cell 0;have b1:=hrt.box.cell 1;have bl:=hrt.box.lt;have bf0:=hrt.box.frozen 0;have bf1:=hrt.box.frozen 1;have rl:=hrt.res.lt;have r0:=hrt.res.cell 0;have r1:=hrt.res.cell 1;have rf0:=hrt.res.frozen 0;have rf1:=hrt.res.frozen 1;clear hrt hpath;by_cases hs:sv = -1
  · subst hs
    go_wp2
    have hR:=HRT.out;have hB0:=hR.res.set 0 (.slice A l.length c);have i1:=own_far (i:=0) hR.ints hR.res (by decide) (.slice A l.length c);have p1:=own_far (i:=0) hR.prts hR.res (by decide) (.slice A l.length c);have i2:=own_far (i:=1) i1 hB0 (by decide) (.slice B l.length d);have p2:=own_far (i:=1) p1 hB0 (by decide) (.slice B l.length d);have hmem:=path_mem HPT.out;have hn64:=HV.out.num.1.2;refine bodyPost_ret (v:=.tuple #[.agg #[.slice A l.length c,.slice B l.length d],.int .i64 0]) ?_ rfl (RdN.some (rd_iff.2 ⟨HPT.out,hln⟩) rfl (Pack.own_nts i2 (fun x hx=>?_) (by omega)) (own_prt p2).1 ⟨Pack.row_cap i2,row_cap3 p2⟩ ⟨own_new i2,own_new p2⟩ ?_)
    · simp[results,Tryz.results60,go_sem,r0,r1]
    · obtain⟨p,hp,rfl⟩:=List.mem_map.1 hx
      have:=(hmem p hp).1
      omega
    · exact (hR.below.setCell (p:=⟨w.heap.size,0,none⟩) (Nat.le_refl _) _).setCell (p:=⟨w.heap.size,1,none⟩) (Nat.le_refl _) _
  · have hsb:(sv != -1)=true:=by simp[hs]
    by_cases hlen:l.length=n
    · have HN:=hid (rd_full HPT.out hs hlen)
      have hR:=HRT.out;have HBE:=hid hR.below;clear hR;go_wp2
      refine bodyPost_ret (v:=.tuple #[.agg #[.slice none 0 0,.slice none 0 0],.int .i64 2]) ?_ rfl (RdN.none HN.out rfl ?_)
      · simp[results,Tryz.results60,go_sem,r0,r1]
      · exact (HBE.out.setCell (p:=⟨w.heap.size,0,none⟩) (Nat.le_refl _) _).setCell (p:=⟨w.heap.size,1,none⟩) (Nat.le_refl _) _
    · have hls:((l.length:Int) == (n:Int))=false:=beq_eq_false_iff_ne.2 (by omega)
      by_cases hin:0≤sv∧sv < (n:Int)
      · obtain⟨i,rfl⟩:=Int.eq_ofNat_of_zero_le hin.1
        have hil:i < n:=by omega
        have hsl:=fun w' (hb:Below w.heap.size w w')=>Vol.slot_yes (HV.out.keep hb) i hil
        have HFW:=hid (show fw W (16+m * 8) i=Slo.dec (W[16+m * 8+i]?.getD 0) from rfl);generalize Slo.dec (W[16+m * 8+i]?.getD 0)=dc at *
        cases dc with
        | none=>
          have HN:=hid (rd_stop (n:=n) HPT.out hs (pat_none HFW.out));simp only[Slo.gv,Slo.ev] at hsl;have HS:=hid hsl;clear hsl;go_wp2_with fail
          refine (HS.out _ HRT.out.below).mono ?_;rintro r w2 ⟨rfl,hb2⟩;have HRT2:=hid ((HRT.out.keep hb2).keep ((Below.refl w2.heap.size w2).alloc (Nat.le_refl _) (.cells #[.int .i64 0,.int .i64 0,.int .i64 0] 190)));have HP2:=hid (hb_new w2 #[.int .i64 0,.int .i64 0,.int .i64 0] 190);have r02:=HRT2.out.res.cell 0;have r12:=HRT2.out.res.cell 1;have rl2:=HRT2.out.res.lt;have rf02:=HRT2.out.res.frozen 0;have rf12:=HRT2.out.res.frozen 1;have HBE:=hid HRT2.out.below;clear hb2 HS r0 r1 rl rf0 rf1 b0 b1 bl bf0 bf1;go_wp2
          generalize w2.alloc (.cells #[.int .i64 0,.int .i64 0,.int .i64 0] 190)=w3 at *;refine bodyPost_ret (v:=.tuple #[.agg #[.slice none 0 0,.slice none 0 0],.int .i64 2]) ?_ rfl (RdN.none HN.out rfl ?_)
          · simp[results,Tryz.results60,go_sem,r02,r12]
          · exact (HBE.out.setCell (p:=⟨w.heap.size,0,none⟩) (Nat.le_refl _) _).setCell (p:=⟨w.heap.size,1,none⟩) (Nat.le_refl _) _
        | some t=>
          obtain⟨x,y,q⟩:=t
          simp only[Slo.gv,Slo.ev] at hsl;have HS:=hid hsl;have hmy:=Slo.may_lt (Slo.dec_some HFW.out).1;have HWI:=hid (fun w=>within_any w n (x:Int) (y:Int) (by have:=HV.out.num.1.2;omega) (by omega));have HRO:=hid (fun w=>runOf_any w (x:Int) (y:Int) (Slo.nx q));have HWN:=hid (show win n (x:Int) (y:Int)=decide (x+y≤n) from decide_eq_decide.2 (by omega))
          obtain⟨z,hz⟩:∃ z,z=Slo.nx q:=⟨_,rfl⟩
          have HZ:=hid hz;rw[← hz] at HS HRO;clear hsl hz;by_cases hxy:x+y≤n
          · have HPN:=hid (path_snoc HPT.out hs (pat_yes (n:=n) HFW.out hil hxy))
            rw[HWN.out,decide_eq_true hxy] at HWI;clear HWN
            obtain⟨j1,hj1,hj2,hj3,hj4⟩:=info_parts Pack.int_info
            obtain⟨k1,hk1,hk2,hk3,hk4⟩:=info_parts part_info
            have hn64:=HV.out.num.1.2;go_wp2_with fail
            refine (HS.out _ HRT.out.below).mono ?_;rintro r w2 ⟨rfl,hb2⟩;have HRT2:=hid ((HRT.out.keep hb2).keep ((Below.refl w2.heap.size w2).alloc (Nat.le_refl _) (.cells #[.int .i64 (x:Int),.int .i64 (y:Int),.int .i64 z] 190)));have HP2:=hid (hb_new w2 #[.int .i64 (x:Int),.int .i64 (y:Int),.int .i64 z] 190);have HPR:=hid (show w.heap.size≤w2.heap.size from Nat.le_trans HRT.out.below.size hb2.size);have HPB:=hid (show (Value.slice B l.length d).ownBlock≠some w2.heap.size from fun hg=>by have:=(World.ownsRow.lt HRT.out.prts _ hg).2;have:=hb2.size;omega);clear hb2 HS r0 r1 rl rf0 rf1 b0 b1 bl bf0 bf1;go_wp2_with fail
            generalize hw3:w2.alloc (.cells #[.int .i64 (x:Int),.int .i64 (y:Int),.int .i64 z] 190)=w3 at *;clear hw3;generalize w2.heap.size=pb at *;refine (HRO.out _).mono ?_;rintro r w4 ⟨rfl,hb4⟩;have HRT4:=hid (HRT2.out.keep hb4);have HP4:=hid (HP2.out.keep hb4);clear hb4 HRT2 HP2;go_wp2_with fail
            refine (HWI.out _).mono ?_;rintro r w5 ⟨rfl,hb5⟩;have HRT5:=hid (HRT4.out.keep hb5);have HP5:=hid (HP4.out.keep hb5);clear hb5 HRT4 HP4;have b05:=HRT5.out.box.cell 0;have b15:=HRT5.out.box.cell 1;have bl5:=HRT5.out.box.lt;have bs5:=HRT5.out.below.size;have HI5:=hid (HRT5.out.ints.alloc (.cells #[.int .i64 (i:Int)] 3));go_wp2_with (first
            | (at_builtin
               refine wpList_append_own_at _ rfl (.tmp 40) (.tmp 42) 40 rfl w.heap.size 3 j1 (.int .i64 0) 1 8 Tryz.underlying40 hj1 hj2 hj3 hj4 rfl (by decide) (.slice A l.length c) l.length (Pack.i64s (slots l)) rfl HI5.out ⟨w5.heap.size,0,none⟩ 1 1 [.int .i64 (i:Int)] rfl rfl (cell_one_new _ _ _) (by simp[Value.oneCell']) (by unfold maxLen;omega) (by omega) (by simp;omega) ?_;intro v6 w6 hown6 hgr6 _ hat6
               obtain⟨G6,c6,rfl⟩:=Pack.row_slice hown6
               have hal:=(Below.refl w5.heap.size w5).alloc (Nat.le_refl _) (.cells #[.int .i64 (i:Int)] 3);have hr6:=hb_grown (HRT5.out.res.keep hal) hgr6 (hb_apart HRT5.out.res HRT5.out.ints (by decide));have hb6:=hb_grown (HRT5.out.box.keep hal) hgr6 (hb_apart HRT5.out.box HRT5.out.ints (by decide));have hp6:=hb_grown (HP5.out.keep hal) hgr6 (hb_apart HP5.out HRT5.out.ints (by decide));have hq6:=(HRT5.out.prts.alloc (.cells #[.int .i64 (i:Int)] 3)).kept hgr6 (Pack.rows_apart HRT5.out.prts HRT5.out.ints (by decide));have hbl6:=(HRT5.out.below.alloc HRT5.out.below.size (.cells #[.int .i64 (i:Int)] 3)).grown hgr6 (by simp;omega) (fun k hk=>row_base_lt3 HRT5.out.ints hk);have hcp:¬ C=pb:=Pm.blk_ne hb6 hp6 (by decide);have hcr:¬ C=w.heap.size:=by have:=HCS.out;omega
               have HR7:=hid (hr6.far (p:=⟨C,0,none⟩) (fun e=>hcr e.symm) (.slice G6 (l.length+1) c6));have HB7:=hid (hb6.set 0 (.slice G6 (l.length+1) c6));have HP7:=hid (hp6.far (p:=⟨C,0,none⟩) (fun e=>hcp e.symm) (.slice G6 (l.length+1) c6));have HI7:=hid (own_far (i:=0) hown6 hb6 (by decide) (.slice G6 (l.length+1) c6));have HQ7:=hid (own_far (i:=0) hq6 hb6 (by decide) (.slice G6 (l.length+1) c6));have HBL7:=hid (hbl6.setCell (p:=⟨C,0,none⟩) (by show w.heap.size≤C;have:=HCS.out;omega) (.slice G6 (l.length+1) c6));have b06:=hb6.cell 0;have b16:=hb6.cell 1;have f06:=hb6.frozen 0;have bl6:=hb6.lt;have q06:=hp6.cell 0;have q16:=hp6.cell 1;have q26:=hp6.cell 2;have hz7:(w6.setCell ⟨C,0,none⟩ (.slice G6 (l.length+1) c6)).heap.size=w6.heap.size:=by simp[World.setCell]
               have hn7:=cells_three_new (w6.setCell ⟨C,0,none⟩ (.slice G6 (l.length+1) c6)) (.int .i64 (x:Int)) (.int .i64 (y:Int)) (.int .i64 z) 190;rw[hz7] at hn7;have HN7:=hid hn7;have HQ8:=hid (HQ7.out.alloc (.cells #[.int .i64 (x:Int),.int .i64 (y:Int),.int .i64 z] 190));have bs6:w.heap.size≤w6.heap.size:=by have:=HBL7.out.size;omega
               clear hown6 hgr6 hat6 hal hr6 hb6 hp6 hq6 hbl6 hn7 hz7)
            | (at_builtin
               refine wpList_append_own_at _ rfl (.tmp 46) (.tmp 48) 128 rfl w.heap.size 190 k1 (.agg #[.int .i64 0,.int .i64 0,.int .i64 0]) 3 24 Tryz.underlying128 hk1 hk2 hk3 hk4 rfl (by decide) (.slice B l.length d) l.length (pcells l) rfl HQ8.out ⟨w6.heap.size,0,none⟩ 1 1 [.int .i64 (x:Int),.int .i64 (y:Int),.int .i64 z] rfl rfl HN7.out (by simp[Value.oneCell']) (by unfold maxLen;omega) (by omega) (by simp[World.setCell];omega) ?_;intro v8 w8 hown8 hgr8 _ hat8
               obtain⟨G8,d8,rfl⟩:=row_slice3 hown8
               have hal:=(Below.refl (w6.setCell ⟨C,0,none⟩ (.slice G6 (l.length+1) c6)).heap.size (w6.setCell ⟨C,0,none⟩ (.slice G6 (l.length+1) c6))).alloc (Nat.le_refl _) (.cells #[.int .i64 (x:Int),.int .i64 (y:Int),.int .i64 z] 190);have hr8:=hb_grown (HR7.out.keep hal) hgr8 (hb_apart3 HR7.out HQ7.out (by decide));have hb8:=hb_grown (HB7.out.keep hal) hgr8 (hb_apart3 HB7.out HQ7.out (by decide));have hp8:=hb_grown (HP7.out.keep hal) hgr8 HPB.out;have hi8:=(HI7.out.alloc (.cells #[.int .i64 (x:Int),.int .i64 (y:Int),.int .i64 z] 190)).kept hgr8 (Pack.rows_apart HI7.out HQ7.out (by decide));have hbl8:=(HBL7.out.alloc HBL7.out.size (.cells #[.int .i64 (x:Int),.int .i64 (y:Int),.int .i64 z] 190)).grown hgr8 (by simp[World.setCell];omega) (fun k hk=>row_base_lt3 HQ7.out hk);have HR9:=hid (hr8.far (p:=⟨C,1,none⟩) (fun e=>hcr e.symm) (.slice G8 (l.length+1) d8));have HB9:=hid (hb8.set 1 (.slice G8 (l.length+1) d8));have HI9:=hid (own_far (i:=1) hi8 hb8 (by decide) (.slice G8 (l.length+1) d8));have HQ9:=hid (own_far (i:=1) hown8 hb8 (by decide) (.slice G8 (l.length+1) d8));have HBL9:=hid (hbl8.setCell (p:=⟨C,1,none⟩) (by show w.heap.size≤C;have:=HCS.out;omega) (.slice G8 (l.length+1) d8));have b18:=hb8.cell 1;have f18:=hb8.frozen 1;have bl8:=hb8.lt;have q08:=hp8.cell 0;have q18:=hp8.cell 1;have q28:=hp8.cell 2;have pl8:=hp8.lt;clear hown8 hgr8 hat8 hal hr8 hb8 hp8 hi8 hbl8))
            have e:(l++[(⟨i,x,y,q⟩:Pt)]).length=l.length+1:=by simp
            refine⟨⟨z,l++[⟨i,x,y,q⟩],G6,c6,G8,d8,rfl,by rw[HZ.out];exact HPN.out,by rw[e];omega,⟨HR9.out,by rw[e];exact HB9.out,?_,?_,HBL9.out⟩⟩,?_⟩
            · rw[e,slots_snoc]
              unfold Pack.i64s;rw[List.map_append];exact HI9.out
            · rw[e,pcells_snoc]
              simp only;rw[← HZ.out];exact HQ9.out
            · rw[HB9.out.cell 0,HRT.out.box.cell 0]
              simp[lenOf];omega
          · have HN:=hid (rd_stop (n:=n) HPT.out hs (pat_far HFW.out (by omega)))
            rw[HWN.out,decide_eq_false hxy] at HWI;clear HWN;go_wp2_with fail
            refine (HS.out _ HRT.out.below).mono ?_;rintro r w2 ⟨rfl,hb2⟩;have HRT2:=hid ((HRT.out.keep hb2).keep ((Below.refl w2.heap.size w2).alloc (Nat.le_refl _) (.cells #[.int .i64 (x:Int),.int .i64 (y:Int),.int .i64 z] 190)));have HP2:=hid (hb_new w2 #[.int .i64 (x:Int),.int .i64 (y:Int),.int .i64 z] 190);have r02:=HRT2.out.res.cell 0;have r12:=HRT2.out.res.cell 1;have rl2:=HRT2.out.res.lt;have rf02:=HRT2.out.res.frozen 0;have rf12:=HRT2.out.res.frozen 1;have HBE:=hid HRT2.out.below;clear hb2 HS r0 r1 rl rf0 rf1 b0 b1 bl bf0 bf1;go_wp2_with fail
            generalize w2.alloc (.cells #[.int .i64 (x:Int),.int .i64 (y:Int),.int .i64 z] 190)=w3 at *;refine (HRO.out _).mono ?_;rintro r w4 ⟨rfl,hb4⟩;have HRT4:=hid (HRT2.out.keep hb4);clear hb4 r02 r12 rl2 rf02 rf12 HRT2 HP2 HBE;go_wp2_with fail
            refine (HWI.out _).mono ?_;rintro r w5 ⟨rfl,hb5⟩;have HRT5:=hid (HRT4.out.keep hb5);have r05:=HRT5.out.res.cell 0;have r15:=HRT5.out.res.cell 1;have rl5:=HRT5.out.res.lt;have rf05:=HRT5.out.res.frozen 0;have rf15:=HRT5.out.res.frozen 1;clear hb5 HRT4;go_wp2
            refine bodyPost_ret (v:=.tuple #[.agg #[.slice none 0 0,.slice none 0 0],.int .i64 2]) ?_ rfl (RdN.none HN.out rfl ?_)
            · simp[results,Tryz.results60,go_sem,r05,r15]
            · exact (HRT5.out.below.setCell (p:=⟨w.heap.size,0,none⟩) (Nat.le_refl _) _).setCell (p:=⟨w.heap.size,1,none⟩) (Nat.le_refl _) _
      · have HN:=hid (rd_stop (n:=n) HPT.out hs (pat_out (by omega)))
        have HS:=hid (fun w' (hb:Below w.heap.size w w')=>Vol.slot_no (HV.out.keep hb) sv (by omega));go_wp2_with fail
        refine (HS.out _ HRT.out.below).mono ?_;rintro r w2 ⟨rfl,hb2⟩;have HRT2:=hid ((HRT.out.keep hb2).keep ((Below.refl w2.heap.size w2).alloc (Nat.le_refl _) (.cells #[.int .i64 0,.int .i64 0,.int .i64 0] 190)));have HP2:=hid (hb_new w2 #[.int .i64 0,.int .i64 0,.int .i64 0] 190);have r02:=HRT2.out.res.cell 0;have r12:=HRT2.out.res.cell 1;have rl2:=HRT2.out.res.lt;have rf02:=HRT2.out.res.frozen 0;have rf12:=HRT2.out.res.frozen 1;have HBE:=hid HRT2.out.below;clear hb2 HS r0 r1 rl rf0 rf1 b0 b1 bl bf0 bf1;go_wp2
        generalize w2.alloc (.cells #[.int .i64 0,.int .i64 0,.int .i64 0] 190)=w3 at *;refine bodyPost_ret (v:=.tuple #[.agg #[.slice none 0 0,.slice none 0 0],.int .i64 2]) ?_ rfl (RdN.none HN.out rfl ?_)
        · simp[results,Tryz.results60,go_sem,r02,r12]
        · exact (HBE.out.setCell (p:=⟨w.heap.size,0,none⟩) (Nat.le_refl _) _).setCell (p:=⟨w.heap.size,1,none⟩) (Nat.le_refl _) _
theorem read_any (h:Vo Q w vb a n m s W st sn) (hd:Int) :
 Calls Tryz.prog 60 #[.pointer (some ⟨vb,0,none⟩),.int .i64 hd] w (RdTo n (fw W (16+m * 8)) hd w):=by
 refine (read_new h hd).mono ?_;intro r w' k;unfold RdN at k;unfold RdTo
 cases e:rd (pat (fw W (16+m * 8)) n) n hd with
 | none=>
   rw[e] at k;exact k
 | some l=>
   rw[e] at k
   obtain⟨A,c,B,d,h1,h2,h3,h4,_,h6⟩:=k
   exact⟨A,c,B,d,h1,h2,h3,h4.1,h4.2,h6⟩
end
end Chn
end
section
open Lib (hid)
open Go.RowKit Go.MapKept
namespace Chn
open Vol (Hb hb_new hb_grown hb_apart)
theorem blk_snoc {l:List Pt} {m:Nat} (h:m < l.length):blk (l.take (m+1))=blk (l.take m)++(List.range l[m].c).map (l[m].x+·):=by
 unfold blk;rw[List.take_succ_eq_append_getElem h,List.flatMap_append];simp
def Rw (cs:Array Value) (l:List Pt) (m:Nat):Prop:=∀ j (h:j < l.length),j < m→cs[j * 2]? = some (.int .i64 (l[j].x:Int))∧cs[j * 2+1]? = some (.int .i64 (l[j].c:Int))
theorem Rw.next {cs:Array Value} {l:List Pt} {m:Nat} (h:Rw cs l m) (hm:m < l.length) (hs:cs.size=l.length * 2):Rw ((cs.setIfInBounds (m * 2) (.int .i64 (l[m].x:Int))).setIfInBounds (m * 2+1) (.int .i64 (l[m].c:Int))) l (m+1):=by
 intro j hj hjm;by_cases e:j=m
 · subst e
   refine⟨?_,?_⟩
   · rw[Array.getElem?_setIfInBounds_ne (by omega),Array.getElem?_setIfInBounds_self_of_lt (by omega)]
   · rw[Array.getElem?_setIfInBounds_self_of_lt (by simp;omega)]
 · obtain⟨h0,h1⟩:=h j hj (by omega)
   refine⟨?_,?_⟩
   · rw[Array.getElem?_setIfInBounds_ne (by omega),Array.getElem?_setIfInBounds_ne (by omega)];exact h0
   · rw[Array.getElem?_setIfInBounds_ne (by omega),Array.getElem?_setIfInBounds_ne (by omega)];exact h1
theorem blocks_new (w:World) (A B:Option Addr) (n' c d:Nat) (l:List Pt) (h:Prt w B l) (hm:Mays l) (hl:l.length≤65534) :
 Calls Tryz.prog 97 #[.agg #[.slice A n' c,.slice B l.length d]] w fun r w'=>∃ G gc,r = .returned (.slice G (tot l) gc)∧Pack.Nts w' G ((blk l).map Int.ofNat)∧New w.heap.size G∧Below w.heap.size w w':=by
 have H:=hid h;have HC:=hid (fun w' (hb:Below w.heap.size w w')=>count_any w' A B n' c d l (h.keep hb) hm hl);have HM:=hid hm;clear h hm;go_enter Tryz.func97,Tryz.ntmps97
 go_wp2_with fail
 refine (HC.out _ ((Below.refl w.heap.size w).alloc (Nat.le_refl _) _)).mono ?_;rintro r w1 ⟨rfl,hb1⟩
 obtain⟨i0,hi0,hz0,hz1,hz2⟩:=info_parts Pack.int_info
 have htl:=tot_le HM.out l.length;rw[List.take_length] at htl;have hbw:=((Below.refl w.heap.size w).alloc (Nat.le_refl _) (.cells #[.slice A n' c,.slice B l.length d] 130)).trans (hb1.mono (by simp))
 obtain⟨w2,hmk,hown,hgr⟩:=run_make_own (P:=Tryz.prog) w1 w.heap.size 40 3 i0 (.int .i64 0) 1 Tryz.underlying40 hi0 hz0 hz1 .i64 .i64 (tot l) (by rw[hz2];omega) (by unfold maxLen;omega) hbw.size
 have HB2:=hid (hbw.grown hgr hbw.size (fun k hk=>by cases hk));have HO:=hid hown;have HTL:=hid htl;have x1:=(hb_grown ((hb_new w #[.slice A n' c,.slice B l.length d] 130).keep hb1) hgr (fun e=>by cases e)).cell 1;clear hbw hown hgr hb1 htl;generalize w1.heap.size=g0 at *;go_wp2_with fail
 clear hmk x1 HC
 go_loopw [3,13] (fun v i wr=>∃ (m:Nat) (G:Option Addr) (gc:Nat),m≤l.length∧i = .int .i64 (m:Int)∧v = .slice G (tot (l.take m)) gc∧wr.ownsRow w.heap.size 3 1 (.slice G (tot (l.take m)) gc) (tot (l.take m)) (Pack.i64s ((blk (l.take m)).map Int.ofNat))∧Below w.heap.size w wr) (fun _ i _=>l.length - (intOf i).toNat)
 case atStart=>exact⟨0,some ⟨g0,0,none⟩,tot l,Nat.zero_le _,rfl,rfl,HO.out,HB2.out⟩
 case round=>
  obtain⟨m,G,gc,hm,rfl,rfl,hrow,hb⟩:=hrel
  clear HO HB2;by_cases hlt:m < l.length
  · obtain⟨b,o,rfl,hbb,hc0,hc1,hc2⟩:=H.out.at' m hlt
    have hc0:=(hb.cell (p:=⟨b,o+m * 3,none⟩) hbb).trans hc0;have hc1:=(hb.cell (p:=⟨b,o+m * 3+1,none⟩) hbb).trans hc1;have hc2:=(hb.cell (p:=⟨b,o+m * 3+2,none⟩) hbb).trans hc2;have hbb:=Nat.lt_of_lt_of_le hbb hb.size;have HBO:=hid (fun w=>blocksOf_any w l[m].x l[m].c l[m].q _ rfl (HM.out _ (List.getElem_mem hlt)));have HT:=hid (tot_snoc hlt);have HK:=hid (blk_snoc hlt);have htk:=tot_le HM.out m;have htk2:=tot_le HM.out (m+1);rw[HT.out] at htk2;have hcl:=Slo.may_lt (HM.out _ (List.getElem_mem hlt));generalize l[m]=p at *
    obtain⟨p0,x,y,q⟩:=p
    simp only at hc0 hc1 hc2 HBO HT HK hcl htk2;generalize Slo.nx q=z at *
    obtain⟨T,hT⟩:∃ T,T=tot (l.take m):=⟨_,rfl⟩
    obtain⟨K,hK⟩:∃ K,K=blk (l.take m):=⟨_,rfl⟩
    rw[← hT] at hrow HT htk htk2 ⊢;rw[← hK] at hrow HK;clear hT hK;have hal:=(Below.refl wr.heap.size wr).alloc (Nat.le_refl _) (.cells #[.int .i64 (x:Int),.int .i64 (y:Int),.int .i64 z] 190);have HB:=hid (hb.trans (hal.mono hb.size));have HX:=hid (hb_new wr #[.int .i64 (x:Int),.int .i64 (y:Int),.int .i64 z] 190);have HO:=hid (own_keep3 hrow hal);clear hal hb hrow;go_wp2_with fail
    generalize hw3:wr.alloc (.cells #[.int .i64 (x:Int),.int .i64 (y:Int),.int .i64 z] 190)=w3 at *;clear hw3;generalize wr.heap.size=pb at *;refine (HBO.out _).mono ?_;rintro r w4 ⟨rfl,hb4⟩;have HB4:=hid (HB.out.trans (hb4.mono HB.out.size));have HX4:=hid (HX.out.keep hb4);have HO4:=hid (own_keep3 HO.out hb4);clear hb4 HB HX HO HBO hc0 hc1 hc2 hbb;clear wr;go_wp2
    go_loopw [3,19] (fun v i wr=>∃ (t:Nat) (G:Option Addr) (gc:Nat),t≤y∧i = .int .i64 (t:Int)∧v = .slice G (T+t) gc∧wr.ownsRow w.heap.size 3 1 (.slice G (T+t) gc) (T+t) (Pack.i64s ((K++(List.range t).map (x+·)).map Int.ofNat))∧Hb wr pb #[.int .i64 (x:Int),.int .i64 (y:Int),.int .i64 z] 190∧Below w.heap.size w wr) (fun _ i _=>y - (intOf i).toNat)
    case atStart=>exact⟨0,G,gc,Nat.zero_le _,rfl,rfl,by simpa using HO4.out,HX4.out,HB4.out⟩
    case round=>
     obtain⟨t,G,gc,ht,rfl,rfl,hrow,hx,hb⟩:=hrel
     clear HO4 HX4 HB4;by_cases hty:t < y
     · have x0:=hx.cell 0
       have xl:=hx.lt;have bs:=hb.size;have HX:=hid hx;have HB:=hid hb;have HR:=hid hrow;have HO:=hid (hrow.alloc (.cells #[.int .i64 ((x:Int)+(t:Int))] 3));clear hx hb hrow
       go_wp2_with (at_builtin
                    refine wpList_append_own_at _ rfl (.tmp 22) (.tmp 27) 40 rfl w.heap.size 3 i0 (.int .i64 0) 1 8 Tryz.underlying40 hi0 hz0 hz1 hz2 rfl (by decide) (.slice G (T+t) gc) (T+t) (Pack.i64s ((K++(List.range t).map (x+·)).map Int.ofNat)) rfl HO.out ⟨wr.heap.size,0,none⟩ 1 1 [.int .i64 ((x:Int)+(t:Int))] rfl rfl (cell_one_new _ _ _) (by simp[Value.oneCell']) (by unfold maxLen;omega) (by omega) (by simp;omega) ?_;intro v6 w6 hown6 hgr6 _ hat6
                    obtain⟨G6,c6,rfl⟩:=Pack.row_slice hown6
                    have hal:=(Below.refl wr.heap.size wr).alloc (Nat.le_refl _) (.cells #[.int .i64 ((x:Int)+(t:Int))] 3);have HX6:=hid (hb_grown (HX.out.keep hal) hgr6 (hb_apart HX.out HR.out (by decide)));have HB6:=hid ((HB.out.trans (hal.mono HB.out.size)).grown hgr6 (by simp;omega) (fun k hk=>row_base_lt3 HR.out hk));have HO6:=hid hown6;clear hown6 hgr6 hat6 hal)
       go_roundw
       case rel=>
        refine⟨t+1,G6,c6,by omega,by go_num,by rw[← Nat.add_assoc],?_,HX6.out,HB6.out⟩
        have e:(K++(List.range (t+1)).map (x+·)).map Int.ofNat=(K++(List.range t).map (x+·)).map Int.ofNat++[(x:Int)+(t:Int)]:=by simp[List.range_succ]
        have h6:=HO6.out;rw[e];unfold Pack.i64s at h6 ⊢;rw[List.map_append,← Nat.add_assoc];exact h6
       case measure=>simp[intOf];omega
     · obtain rfl:t=y:=by omega
       have HX:=hid hx;have HB:=hid hb;have HR:=hid hrow;clear hx hb hrow;go_wp2
       refine⟨⟨m+1,G,gc,by omega,by go_num,by rw[HT.out],?_,HB.out⟩,by simp[intOf];omega⟩
       rw[HT.out,HK.out];exact HR.out
  · obtain rfl:m=l.length:=by omega
    rw[List.take_length] at hrow ⊢;have hcap:=row_cap3 hrow;have htl:=HTL.out;go_wp2
    go_ret
    refine⟨G,gc,rfl,Pack.own_nts hrow (fun x hx=>?_) (by omega),own_new hrow,hb⟩
    obtain⟨k,hk,rfl⟩:=List.mem_map.1 hx
    obtain⟨p,hp,hk⟩:=List.mem_flatMap.1 hk
    obtain⟨j,hj,rfl⟩:=List.mem_map.1 hk
    have:=Slo.may_lt (HM.out p hp)
    have:=List.mem_range.1 hj
    simp only[Int.ofNat_eq_natCast];omega
theorem blocks_any (w:World) (A B:Option Addr) (n' c d:Nat) (l:List Pt) (h:Prt w B l) (hm:Mays l) (hl:l.length≤65534) :
 Calls Tryz.prog 97 #[.agg #[.slice A n' c,.slice B l.length d]] w fun r w'=>∃ G gc,r = .returned (.slice G (tot l) gc)∧Pack.Nts w' G ((blk l).map Int.ofNat)∧Below w.heap.size w w':=by
 refine (blocks_new w A B n' c d l h hm hl).mono ?_;rintro r w' ⟨G,gc,h1,h2,_,h4⟩
 exact⟨G,gc,h1,h2,h4⟩
end Chn
end
section
open Go.RowKit Go.MapKept
namespace Clm
open Chn (Pt New Prt slots Mays tot blk blk_len)
open Vol (Vo Hb hb_new)
open Pack (Nts)
structure Pc where
 lo:Nat
 nb:Nat
 cb:Nat
 bq:Nat
 bp:Nat
 sq:Nat
 sp:Nat
 pb:Nat
 c:Nat
 bC:Nat
 sC:Nat
structure Ds (P:Pc):Prop where
 le:P.lo≤P.nb∧P.lo≤P.cb∧P.lo≤P.bq∧P.lo≤P.bp∧P.lo≤P.sq∧P.lo≤P.sp∧P.lo≤P.pb∧P.lo≤P.c
 lt:P.nb < P.c∧P.cb < P.c∧P.bq < P.c∧P.bp < P.c∧P.sq < P.c∧P.sp < P.c∧P.pb < P.c
 ne:P.nb≠P.cb∧P.nb≠P.bq∧P.nb≠P.bp∧P.nb≠P.sq∧P.nb≠P.sp∧P.nb≠P.pb∧P.cb≠P.bq∧P.cb≠P.bp∧P.cb≠P.sq∧P.cb≠P.sp∧P.cb≠P.pb∧P.bq≠P.bp∧P.bq≠P.sq∧P.bq≠P.sp∧P.bq≠P.pb∧P.bp≠P.sq∧P.bp≠P.sp∧P.bp≠P.pb∧P.sq≠P.sp∧P.sq≠P.pb∧P.sp≠P.pb
structure Cr (w:World) (P:Pc) (n m:Nat) (N C X:Array Value) (fb fs:Nat→Bool):Prop where
 claim:Hb w P.c #[.slice (some ⟨P.nb,0,none⟩) m m,.slice (some ⟨P.cb,0,none⟩) m m,.pointer (some ⟨P.bp,0,none⟩),.pointer (some ⟨P.sp,0,none⟩),.slice (some ⟨P.pb,0,none⟩) n n] 85
 nodes:Hb w P.nb N 95
 chains:Hb w P.cb C 130
 places:Hb w P.pb X 201
 sn:N.size=m * 3
 sc:C.size=m * 2
 sx:X.size=n * 2
 bm:Bm.Mp w P.bp P.bq ((n+63) / 64) P.bC n fb
 sm:Bm.Mp w P.sp P.sq ((n+63) / 64) P.sC n fs
 ord:Ds P
 max:m≤65534
section
variable {w w' : World} {P : Pc} {n m : Nat} {N C X : Array Value} {fb fs : Nat → Bool}
theorem Cr.lt (h:Cr w P n m N C X fb fs):P.c < w.heap.size:=h.claim.lt
theorem Cr.keep (h:Cr w P n m N C X fb fs) (hb:Below w.heap.size w w'):Cr w' P n m N C X fb fs:=
 ⟨h.claim.keep hb,h.nodes.keep hb,h.chains.keep hb,h.places.keep hb,h.sn,h.sc,h.sx,h.bm.keep hb,h.sm.keep hb,h.ord,h.max⟩
theorem hb_chg {b:Nat} {cs:Array Value} {t:TypeId} {q:Nat} (h:Hb w b cs t) (hc:Bm.Chg q w w') (hq:b≠q):Hb w' b cs t:=(hc.block b h.lt hq).trans h
theorem Cr.put_b {g:Nat→Bool} (h:Cr w P n m N C X fb fs) (hm:Bm.Mp w' P.bp P.bq ((n+63) / 64) P.bC n g) (hc:Bm.Chg P.bq w w'):Cr w' P n m N C X g fs:=by
 have hl:=h.ord.lt
 obtain⟨a0,a1,a2,a3,a4,a5,a6,a7,a8,a9,a10,a11,a12,a13,a14,a15,a16,a17,a18,a19,a20⟩:=h.ord.ne
 exact⟨hb_chg h.claim hc (by first | assumption | exact Ne.symm (by assumption) | omega),hb_chg h.nodes hc (by first | assumption | exact Ne.symm (by assumption) | omega),hb_chg h.chains hc (by first | assumption | exact Ne.symm (by assumption) | omega),hb_chg h.places hc (by first | assumption | exact Ne.symm (by assumption) | omega),h.sn,h.sc,h.sx,hm,h.sm.chg hc (by first | assumption | exact Ne.symm (by assumption) | omega) (by first | assumption | exact Ne.symm (by assumption) | omega),h.ord,h.max⟩
theorem Cr.put_s {g:Nat→Bool} (h:Cr w P n m N C X fb fs) (hm:Bm.Mp w' P.sp P.sq ((n+63) / 64) P.sC n g) (hc:Bm.Chg P.sq w w'):Cr w' P n m N C X fb g:=by
 have hl:=h.ord.lt
 obtain⟨a0,a1,a2,a3,a4,a5,a6,a7,a8,a9,a10,a11,a12,a13,a14,a15,a16,a17,a18,a19,a20⟩:=h.ord.ne
 exact⟨hb_chg h.claim hc (by first | assumption | exact Ne.symm (by assumption) | omega),hb_chg h.nodes hc (by first | assumption | exact Ne.symm (by assumption) | omega),hb_chg h.chains hc (by first | assumption | exact Ne.symm (by assumption) | omega),hb_chg h.places hc (by first | assumption | exact Ne.symm (by assumption) | omega),h.sn,h.sc,h.sx,h.bm.chg hc (by first | assumption | exact Ne.symm (by assumption) | omega) (by first | assumption | exact Ne.symm (by assumption) | omega),hm,h.ord,h.max⟩
theorem mp_far {p q K C n:Nat} {f:Nat→Bool} (h:Bm.Mp w p q K C n f) {a:Addr} (hp:p≠a.block) (hq:q≠a.block) (v:Value):Bm.Mp (w.setCell a v) p q K C n f:=
 h.chg ((Bm.Chg.refl a.block w).setCell rfl v) hp hq
theorem Cr.set_n (h:Cr w P n m N C X fb fs) (i:Nat) (v:Value):Cr (w.setCell ⟨P.nb,i,none⟩ v) P n m (N.setIfInBounds i v) C X fb fs:=by
 have hl:=h.ord.lt
 obtain⟨a0,a1,a2,a3,a4,a5,a6,a7,a8,a9,a10,a11,a12,a13,a14,a15,a16,a17,a18,a19,a20⟩:=h.ord.ne
 exact⟨h.claim.far (show P.c≠P.nb by first | assumption | exact Ne.symm (by assumption) | omega) v,h.nodes.set i v,h.chains.far (show P.cb≠P.nb by first | assumption | exact Ne.symm (by assumption) | omega) v,h.places.far (show P.pb≠P.nb by first | assumption | exact Ne.symm (by assumption) | omega) v,by simp[h.sn],h.sc,h.sx,
  mp_far h.bm (show P.bp≠P.nb by first | assumption | exact Ne.symm (by assumption) | omega) (show P.bq≠P.nb by first | assumption | exact Ne.symm (by assumption) | omega) v,mp_far h.sm (show P.sp≠P.nb by first | assumption | exact Ne.symm (by assumption) | omega) (show P.sq≠P.nb by first | assumption | exact Ne.symm (by assumption) | omega) v,h.ord,h.max⟩
theorem Cr.set_c (h:Cr w P n m N C X fb fs) (i:Nat) (v:Value):Cr (w.setCell ⟨P.cb,i,none⟩ v) P n m N (C.setIfInBounds i v) X fb fs:=by
 have hl:=h.ord.lt
 obtain⟨a0,a1,a2,a3,a4,a5,a6,a7,a8,a9,a10,a11,a12,a13,a14,a15,a16,a17,a18,a19,a20⟩:=h.ord.ne
 exact⟨h.claim.far (show P.c≠P.cb by first | assumption | exact Ne.symm (by assumption) | omega) v,h.nodes.far (show P.nb≠P.cb by first | assumption | exact Ne.symm (by assumption) | omega) v,h.chains.set i v,h.places.far (show P.pb≠P.cb by first | assumption | exact Ne.symm (by assumption) | omega) v,h.sn,by simp[h.sc],h.sx,
  mp_far h.bm (show P.bp≠P.cb by first | assumption | exact Ne.symm (by assumption) | omega) (show P.bq≠P.cb by first | assumption | exact Ne.symm (by assumption) | omega) v,mp_far h.sm (show P.sp≠P.cb by first | assumption | exact Ne.symm (by assumption) | omega) (show P.sq≠P.cb by first | assumption | exact Ne.symm (by assumption) | omega) v,h.ord,h.max⟩
theorem Cr.set_x (h:Cr w P n m N C X fb fs) (i:Nat) (v:Value):Cr (w.setCell ⟨P.pb,i,none⟩ v) P n m N C (X.setIfInBounds i v) fb fs:=by
 have hl:=h.ord.lt
 obtain⟨a0,a1,a2,a3,a4,a5,a6,a7,a8,a9,a10,a11,a12,a13,a14,a15,a16,a17,a18,a19,a20⟩:=h.ord.ne
 exact⟨h.claim.far (show P.c≠P.pb by first | assumption | exact Ne.symm (by assumption) | omega) v,h.nodes.far (show P.nb≠P.pb by first | assumption | exact Ne.symm (by assumption) | omega) v,h.chains.far (show P.cb≠P.pb by first | assumption | exact Ne.symm (by assumption) | omega) v,h.places.set i v,h.sn,h.sc,by simp[h.sx],
  mp_far h.bm (show P.bp≠P.pb by first | assumption | exact Ne.symm (by assumption) | omega) (show P.bq≠P.pb by first | assumption | exact Ne.symm (by assumption) | omega) v,mp_far h.sm (show P.sp≠P.pb by first | assumption | exact Ne.symm (by assumption) | omega) (show P.sq≠P.pb by first | assumption | exact Ne.symm (by assumption) | omega) v,h.ord,h.max⟩
end
structure Fr (B:Nat) (w w':World):Prop where
 size:w.heap.size≤w'.heap.size
 block:∀ k,B≤k→k < w.heap.size→w'.heap[k]? = w.heap[k]?
section
variable {B : Nat} {w w' w'' : World}
theorem Fr.refl (B:Nat) (w:World):Fr B w w:=⟨Nat.le_refl _,fun _ _ _=>rfl⟩
theorem Fr.trans (h:Fr B w w') (k:Fr B w' w''):Fr B w w'':=
 ⟨Nat.le_trans h.size k.size,fun b h1 h2=>(k.block b h1 (Nat.lt_of_lt_of_le h2 h.size)).trans (h.block b h1 h2)⟩
theorem fr_below (h:Below w.heap.size w w'):Fr B w w':=⟨h.size,fun b _ h2=>h.block b h2⟩
theorem fr_chg {q:Nat} (h:Bm.Chg q w w') (hq:q < B):Fr B w w':=⟨h.size,fun b h1 h2=>h.block b h2 (by omega)⟩
theorem Fr.set (h:Fr B w w') {a:Addr} (ha:a.block < B) (v:Value):Fr B w (w'.setCell a v):=
 h.trans (fr_chg ((Bm.Chg.refl a.block w').setCell rfl v) ha)
theorem nts_fr {A:Option Addr} {l:List Int} (h:Nts w A l) (hn:New B A) (hf:Fr B w w'):Nts w' A l:=
 ⟨h.i64,h.len,fun j hj=>by
   obtain⟨b,o,rfl,hb,hc⟩:=h.at' j hj
   exact⟨b,o,rfl,Nat.lt_of_lt_of_le hb hf.size,(World.cell?_of_block (w:=w) (a:=⟨b,o+j,none⟩) (hf.block b (hn _ rfl) hb)).trans hc⟩⟩
theorem prt_fr {A:Option Addr} {l:List Pt} (h:Prt w A l) (hn:New B A) (hf:Fr B w w'):Prt w' A l:=
 ⟨fun j hj=>by
   obtain⟨b,o,rfl,hb,hc,hd,he⟩:=h.at' j hj
   have k:=hf.block b (hn _ rfl) hb
   exact⟨b,o,rfl,Nat.lt_of_lt_of_le hb hf.size,(World.cell?_of_block (w:=w) (a:=⟨b,o+j * 3,none⟩) k).trans hc,(World.cell?_of_block (w:=w) (a:=⟨b,o+j * 3+1,none⟩) k).trans hd,(World.cell?_of_block (w:=w) (a:=⟨b,o+j * 3+2,none⟩) k).trans he⟩⟩
end
def Nod (N:Array Value) (L:List Cl):Prop:=∀ j (h:j < L.length),N[j * 3]? = some (.int .i64 (L[j].k:Int))∧N[j * 3+1]? = some (.int .i64 ((L[j].p:Int) - 1))∧N[j * 3+2]? = some (.int .i64 (L[j].z:Int))
def Chs (w:World) (B:Nat) (C:Array Value) (L:List Cl):Prop:=∀ j (h:j < L.length),∃ (A:Option Addr) (a:Nat) (D:Option Addr) (d:Nat),C[j * 2]? = some (.slice A L[j].l.length a)∧C[j * 2+1]? = some (.slice D L[j].l.length d) ∧
 Nts w A (slots L[j].l)∧Prt w D L[j].l∧(L[j].l.length≤a∧L[j].l.length≤d)∧(New B A∧New B D)
def Plc (X:Array Value) (L:List Cl):Prop:=∀ i k b,Own L i k b→X[b * 2]? = some (.int .i64 (i:Int))∧X[b * 2+1]? = some (.int .i64 (k:Int))
theorem Nod.nil (N:Array Value):Nod N []:=fun _ h=>absurd h (Nat.not_lt_zero _)
theorem Chs.nil (w:World) (B:Nat) (C:Array Value):Chs w B C []:=fun _ h=>absurd h (Nat.not_lt_zero _)
theorem Plc.nil (X:Array Value):Plc X []:=fun _ _ _ h=>absurd h.1 (Nat.not_lt_zero _)
theorem Nod.snoc {N:Array Value} {L:List Cl} {c:Cl} {m:Nat} (h:Nod N L) (hs:N.size=m * 3) (hm:L.length < m) :
 Nod (((N.setIfInBounds (L.length * 3) (.int .i64 (c.k:Int))).setIfInBounds (L.length * 3+1) (.int .i64 ((c.p:Int) - 1))).setIfInBounds (L.length * 3+2) (.int .i64 (c.z:Int))) (L++[c]):=by
 intro j hj;by_cases e:j < L.length
 · obtain⟨h0,h1,h2⟩:=h j e
   rw[List.getElem_append_left e]
   refine⟨?_,?_,?_⟩<;>(repeat rw[Array.getElem?_setIfInBounds_ne (by omega)])<;>assumption
 · obtain rfl:j=L.length:=by simp at hj;omega
   rw[List.getElem_concat_length rfl]
   refine⟨?_,?_,?_⟩
   · rw[Array.getElem?_setIfInBounds_ne (by omega),Array.getElem?_setIfInBounds_ne (by omega),Array.getElem?_setIfInBounds_self_of_lt (by omega)]
   · rw[Array.getElem?_setIfInBounds_ne (by omega),Array.getElem?_setIfInBounds_self_of_lt (by simp;omega)]
   · rw[Array.getElem?_setIfInBounds_self_of_lt (by simp;omega)]
theorem Chs.fr {w w':World} {B:Nat} {C:Array Value} {L:List Cl} (h:Chs w B C L) (hf:Fr B w w'):Chs w' B C L:=fun j hj=>by
 obtain⟨A,a,D,d,h1,h2,h3,h4,h5,h6⟩:=h j hj
 exact⟨A,a,D,d,h1,h2,nts_fr h3 h6.1 hf,prt_fr h4 h6.2 hf,h5,h6⟩
theorem Chs.snoc {w:World} {B:Nat} {C:Array Value} {L:List Cl} {c:Cl} {m:Nat} {A D:Option Addr} {a d:Nat} (h:Chs w B C L) (hs:C.size=m * 2) (hm:L.length < m)
 (h1:Nts w A (slots c.l)) (h2:Prt w D c.l) (h3:c.l.length≤a∧c.l.length≤d) (h4:New B A∧New B D) :
 Chs w B ((C.setIfInBounds (L.length * 2) (.slice A c.l.length a)).setIfInBounds (L.length * 2+1) (.slice D c.l.length d)) (L++[c]):=by
 intro j hj;by_cases e:j < L.length
 · obtain⟨A',a',D',d',k1,k2,k⟩:=h j e
   rw[List.getElem_append_left e]
   refine⟨A',a',D',d',?_,?_,k⟩<;>(repeat rw[Array.getElem?_setIfInBounds_ne (by omega)])<;>assumption
 · obtain rfl:j=L.length:=by simp at hj;omega
   rw[List.getElem_concat_length rfl]
   refine⟨A,a,D,d,?_,?_,h1,h2,h3,h4⟩
   · rw[Array.getElem?_setIfInBounds_ne (by omega),Array.getElem?_setIfInBounds_self_of_lt (by omega)]
   · rw[Array.getElem?_setIfInBounds_self_of_lt (by simp;omega)]
def Pw (X X':Array Value) (i:Nat) (Y:List Nat):Prop:=
 (∀ k b:Nat,Y[k]? = some b→X'[b * 2]? = some (.int .i64 (i:Int))∧X'[b * 2+1]? = some (.int .i64 (k:Int)))∧∀ b:Nat,b∉Y→X'[b * 2]? = X[b * 2]?∧X'[b * 2+1]? = X[b * 2+1]?
theorem Pw.nil (X:Array Value) (i:Nat):Pw X X i []:=⟨fun k b h=>by simp at h,fun b _=>⟨rfl,rfl⟩⟩
theorem Pw.next {X X':Array Value} {i n t:Nat} {Y:List Nat} (h:Pw X X' i (Y.take t)) (ht:t < Y.length) (hY:Y.Nodup) (hs:X'.size=n * 2) (hb:Y[t] < n) :
 Pw X ((X'.setIfInBounds (Y[t] * 2) (.int .i64 (i:Int))).setIfInBounds (Y[t] * 2+1) (.int .i64 (t:Int))) i (Y.take (t+1)):=by
 have e:Y.take (t+1)=Y.take t++[Y[t]]:=List.take_succ_eq_append_getElem ht
 have hnew:Y[t]∉Y.take t:=fun hm=>by
  have h2:(Y.take (t+1)).Nodup:=hY.sublist (List.take_sublist _ _);rw[e,List.nodup_append] at h2;exact h2.2.2 _ hm _ (by simp) rfl
 generalize Y[t]=y at *;rw[e];have hl:(Y.take t).length=t:=by rw[List.length_take];omega
 refine⟨fun k b hk=>?_,fun b hb'=>?_⟩
 · by_cases hkt:k < t
   · rw[List.getElem?_append_left (by omega)] at hk
     have hne:b≠y:=fun e=>hnew (e ▸ List.mem_of_getElem? hk)
     obtain⟨h1,h2⟩:=h.1 k b hk
     refine⟨?_,?_⟩<;>(repeat rw[Array.getElem?_setIfInBounds_ne (by omega)])<;>assumption
   · rw[List.getElem?_append_right (by omega),hl] at hk
     have hk0:k=t:=by
      rcases Nat.eq_zero_or_pos (k - t) with h0 | h0
      · omega
      · rw[List.getElem?_eq_none (by simp;omega)] at hk
        cases hk
     subst hk0;simp at hk;subst hk
     refine⟨?_,?_⟩
     · rw[Array.getElem?_setIfInBounds_ne (by omega),Array.getElem?_setIfInBounds_self_of_lt (by omega)]
     · rw[Array.getElem?_setIfInBounds_self_of_lt (by simp;omega)]
 · simp only[List.mem_append,List.mem_singleton,not_or] at hb'
   obtain⟨h1,h2⟩:=h.2 b hb'.1
   have:=hb'.2
   refine⟨?_,?_⟩<;>(repeat rw[Array.getElem?_setIfInBounds_ne (by omega)])<;>assumption
theorem Plc.snoc {X X':Array Value} {L:List Cl} {c:Cl} (h:Plc X L) (hw:Pw X X' L.length (blk c.l)) (hn:(bl L++blk c.l).Nodup):Plc X' (L++[c]):=by
 intro i k b ho
 rcases own_snoc.1 ho with ho | ⟨rfl,hk⟩
 · have hb:b∉blk c.l:=fun hm=>by
    rw[List.nodup_append] at hn;exact hn.2.2 b (own_mem ho) b hm rfl
   obtain⟨h1,h2⟩:=hw.2 b hb
   rw[h1,h2];exact h i k b ho
 · exact hw.1 k b hk
structure Cq (w:World) (P:Pc) (n m:Nat) (L:List Cl) (N C X:Array Value):Prop where
 cr:Cr w P n m N C X (ins (bl L)) (ins (sl L))
 nod:Nod N L
 chs:Chs w (P.c+1) C L
 plc:Plc X L
theorem Cq.keep {w w':World} {P:Pc} {n m:Nat} {L:List Cl} {N C X:Array Value} (h:Cq w P n m L N C X) (hb:Below w.heap.size w w'):Cq w' P n m L N C X:=
 ⟨h.cr.keep hb,h.nod,h.chs.fr (fr_below hb),h.plc⟩
end Clm
end
end Go.Proofs.YtlodpaaanfjkeaaGreatDoor
