/- Texts laid together: ChnMath, ChnWords, ChnMem, ChnTell, ClmMath, ChnRead, ChnRuns, ClmRep, ClmGive, VolInode. -/
import Derived.Test.YtdafimdfbnphaaaGreatDoorKb4
import Derived.Test.YtdafimdfbnphaaaGreatDoorKb5
import Derived.Test.YtdafimdfbnphaaaGreatDoorKa1
import Derived.Test.YtdafimdfbnphaaaGreatDoorKa2
import Derived.Test.YtdafimdfbnphaaaGreatDoorKb1
import Derived.Test.YtdafimdfbnphaaaGreatDoorKb2
import Derived.Test.YtdafimdfbnphaaaGreatDoorKb3
/- Texts. -/
namespace Go.Proofs.YtdafimdfbnphaaaGreatDoor
namespace Chn
structure Pt where
 s:Nat
 x:Nat
 c:Nat
 q:Nat
def pat (f:Nat→Option (Nat × Nat × Nat)) (n:Nat) (i:Int):Option Pt:=
 if 0≤i∧i < (n:Int) then
  match f i.toNat with
  | none=>none
  | some t=>if t.1+t.2.1≤n then some ⟨i.toNat,t.1,t.2.1,t.2.2⟩ else none
 else none
theorem pat_out {f:Nat→Option (Nat × Nat × Nat)} {n:Nat} {i:Int} (h:i < 0∨(n:Int)≤i):pat f n i=none:=if_neg (by omega)
theorem pat_none {f:Nat→Option (Nat × Nat × Nat)} {n i:Nat} (h:f i=none):pat f n (i:Int)=none:=by
 unfold pat
 split
 · rw[Int.toNat_natCast,h]
 · rfl
theorem pat_far {f:Nat→Option (Nat × Nat × Nat)} {n i x c q:Nat} (h:f i=some (x,c,q)) (hn:n < x+c):pat f n (i:Int)=none:=by
 unfold pat
 split
 · rw[Int.toNat_natCast,h]
   exact if_neg (by simp only;omega)
 · rfl
theorem pat_yes {f:Nat→Option (Nat × Nat × Nat)} {n i x c q:Nat} (h:f i=some (x,c,q)) (hi:i < n) (hn:x+c≤n):pat f n (i:Int)=some ⟨i,x,c,q⟩:=by
 unfold pat
 rw[if_pos (by omega),Int.toNat_natCast,h]
 exact if_pos hn
theorem pat_some {f:Nat→Option (Nat × Nat × Nat)} {n:Nat} {i:Int} {p:Pt} (h:pat f n i=some p):i=(p.s:Int)∧p.s < n∧f p.s=some (p.x,p.c,p.q)∧p.x+p.c≤n:=by
 unfold pat at h
 split at h
 case isFalse=>cases h
 case isTrue hi=>
  split at h
  · cases h
  · rename_i t ht
    split at h
    · injection h with h
      subst h
      exact⟨by simp only;omega,by simp only;omega,ht,by assumption⟩
    · cases h
section
variable {P : Int → Option Pt}
def Path (P:Int→Option Pt):Int→List Pt→Int→Prop
 | h,[],s=>h=s
 | h,p :: l,s=>h≠-1∧P h=some p∧Path P (Slo.nx p.q) l s
theorem path_append:∀ {l1 l2:List Pt} {h s:Int},Path P h (l1++l2) s↔∃ t,Path P h l1 t∧Path P t l2 s
 | [],l2,h,s=>⟨fun k=>⟨h,rfl,k⟩,fun ⟨t,e,k⟩=>by cases e;exact k⟩
 | p :: l1,l2,h,s=>by
   constructor
   · rintro ⟨h1,h2,h3⟩
     obtain⟨t,k1,k2⟩:=path_append.1 h3
     exact⟨t,⟨h1,h2,k1⟩,k2⟩
   · rintro ⟨t,⟨h1,h2,h3⟩,k⟩
     exact⟨h1,h2,path_append.2 ⟨t,h3,k⟩⟩
theorem path_snoc {l:List Pt} {h s:Int} {p:Pt} (k:Path P h l s) (hs:s≠-1) (hp:P s=some p):Path P h (l++[p]) (Slo.nx p.q):=
 path_append.2 ⟨s,k,hs,hp,rfl⟩
theorem path_go:∀ {l r:List Pt} {h s:Int},Path P h l s→Path P h r (-1)→∃ r',r=l++r'∧Path P s r' (-1)
 | [],r,h,s,k,m=>⟨r,rfl,by cases k;exact m⟩
 | p :: l,[],h,s,k,m=>absurd m k.1
 | p :: l,p' :: r,h,s,k,m=>by
   obtain⟨k1,k2,k3⟩:=k
   obtain⟨m1,m2,m3⟩:=m
   rw[k2] at m2
   injection m2 with m2
   subst m2
   obtain⟨r',e,h'⟩:=path_go k3 m3
   exact⟨r',by rw[e];rfl,h'⟩
theorem path_one {r r':List Pt} {h:Int} (k:Path P h r (-1)) (m:Path P h r' (-1)):r=r':=by
 obtain⟨r2,e,m2⟩:=path_go k m
 cases r2 with
 | nil=>rw[e,List.append_nil]
 | cons p r2=>exact absurd rfl m2.1
theorem path_round {l r:List Pt} {h:Int} (k:Path P h l h) (hl:l≠[]):¬ Path P h r (-1):=by
 intro m
 obtain⟨r',e,m'⟩:=path_go k m
 have:=congrArg List.length (path_one m m')
 have h2:=congrArg List.length e
 rw[List.length_append] at h2
 have h3:=List.length_pos_iff.2 hl
 omega
def rd (P:Int→Option Pt):Nat→Int→Option (List Pt)
 | k,s=>if s = -1 then some [] else
   match k with
   | 0=>none
   | k+1=>match P s with
     | none=>none
     | some p=>(rd P k (Slo.nx p.q)).map (p :: ·)
theorem rd_iff:∀ {k:Nat} {s:Int} {r:List Pt},rd P k s=some r↔Path P s r (-1)∧r.length≤k
 | 0,s,r=>by
   unfold rd
   by_cases hs:s = -1
   · rw[if_pos hs]
     constructor
     · intro h;injection h with h;subst h;exact⟨hs,Nat.le_refl _⟩
     · rintro ⟨h,_⟩
       cases r with
       | nil=>rfl
       | cons p r=>exact absurd hs h.1
   · rw[if_neg hs]
     constructor
     · intro h;cases h
     · rintro ⟨h,h2⟩
       obtain rfl:r=[]:=List.length_eq_zero_iff.1 (by omega)
       exact absurd h hs
 | k+1,s,r=>by
   unfold rd
   by_cases hs:s = -1
   · rw[if_pos hs]
     constructor
     · intro h;injection h with h;subst h;exact⟨hs,Nat.zero_le _⟩
     · rintro ⟨h,_⟩
       cases r with
       | nil=>rfl
       | cons p r=>exact absurd hs h.1
   · rw[if_neg hs]
     simp only
     cases hp:P s with
     | none=>
       constructor
       · intro h;cases h
       · rintro ⟨h,_⟩
         cases r with
         | nil=>exact absurd h hs
         | cons p r=>have:=h.2.1;rw[hp] at this;cases this
     | some p=>
       simp only
       constructor
       · intro h
         obtain⟨r',hr,rfl⟩:=Option.map_eq_some_iff.1 h
         obtain⟨h1,h2⟩:=rd_iff.1 hr
         exact⟨⟨hs,hp,h1⟩,by simp;omega⟩
       · rintro ⟨h,h2⟩
         cases r with
         | nil=>exact absurd h hs
         | cons p' r=>
           obtain⟨h3,h4,h5⟩:=h
           rw[hp] at h4
           injection h4 with h4
           subst h4
           exact Option.map_eq_some_iff.2 ⟨r,rd_iff.2 ⟨h5,by simpa using h2⟩,rfl⟩
theorem rd_none {k:Nat} {s:Int} (h:∀ r,Path P s r (-1)→r.length≤k→False):rd P k s=none:=by
 cases e:rd P k s with
 | none=>rfl
 | some r=>exact (h r (rd_iff.1 e).1 (rd_iff.1 e).2).elim
theorem rd_full {n:Nat} {l:List Pt} {h s:Int} (k:Path P h l s) (hs:s≠-1) (hl:l.length=n):rd P n h=none:=
 rd_none fun r hr hn=>by
  obtain⟨r',e,m⟩:=path_go k hr
  cases r' with
  | nil=>exact hs m
  | cons p r'=>rw[e,List.length_append,List.length_cons] at hn;omega
theorem rd_stop {n:Nat} {l:List Pt} {h s:Int} (k:Path P h l s) (hs:s≠-1) (hp:P s=none):rd P n h=none:=
 rd_none fun r hr _=>by
  obtain⟨r',e,m⟩:=path_go k hr
  cases r' with
  | nil=>exact hs m
  | cons p r'=>have:=m.2.1;rw[hp] at this;cases this
end
section
variable {f : Nat → Option (Nat × Nat × Nat)} {n : Nat}
theorem path_head {l:List Pt} {h s:Int} {p:Pt} (k:Path (pat f n) h (p :: l) s):h=(p.s:Int):=(pat_some k.2.1).1
theorem path_mem:∀ {l:List Pt} {h s:Int},Path (pat f n) h l s→∀ p∈l,p.s < n∧f p.s=some (p.x,p.c,p.q)∧p.x+p.c≤n
 | [],_,_,_,p,hp=>by cases hp
 | p :: l,h,s,k,p',hp=>by
   rcases List.mem_cons.1 hp with e | hp
   · subst e
     obtain⟨_,h2⟩:=pat_some k.2.1
     exact h2
   · exact path_mem k.2.2 p' hp
theorem path_at {l:List Pt} {h s:Int} (k:Path (pat f n) h l s) {i:Nat} (hi:i < l.length):Path (pat f n) h (l.take i) ((l[i].s:Nat):Int)∧Path (pat f n) ((l[i].s:Nat):Int) (l.drop i) s:=by
 have e:l=l.take i++l.drop i:=(List.take_append_drop i l).symm
 have k2:=k
 rw[e] at k2
 obtain⟨t,k3,k4⟩:=path_append.1 k2
 rw[List.drop_eq_getElem_cons hi] at k4
 obtain rfl:=path_head k4
 exact⟨k3,by rw[List.drop_eq_getElem_cons hi];exact k4⟩
theorem path_nodup:∀ {r:List Pt} {h:Int},Path (pat f n) h r (-1)→(r.map Pt.s).Nodup
 | [],_,_=>List.nodup_nil
 | p :: l,h,k=>by
   rw[List.map_cons,List.nodup_cons]
   refine⟨fun hm=>?_,path_nodup k.2.2⟩
   obtain⟨p',hp',e⟩:=List.mem_map.1 hm
   obtain⟨i,hi,rfl⟩:=List.mem_iff_getElem.1 hp'
   obtain⟨k1,_⟩:=path_at k.2.2 hi
   have k3:Path (pat f n) h (p :: l.take i) h:=⟨k.1,k.2.1,by rw[path_head k,← e];exact k1⟩
   exact path_round k3 (by simp) k
theorem few_slots {l:List Pt} (h:∀ p∈l,p.s < n) (hn:(l.map Pt.s).Nodup):l.length≤n:=by
 have:=List.Nodup.length_le_of_subset (l₁:=l.map Pt.s) (l₂:=List.range n) hn (fun x hx=>by
  obtain⟨p,hp,rfl⟩:=List.mem_map.1 hx
  exact List.mem_range.2 (h p hp))
 simpa using this
theorem path_len {r:List Pt} {h:Int} (k:Path (pat f n) h r (-1)):r.length≤n:=few_slots (fun p hp=>(path_mem k p hp).1) (path_nodup k)
theorem rd_yes {r:List Pt} {h:Int} (k:Path (pat f n) h r (-1)):rd (pat f n) n h=some r:=rd_iff.2 ⟨k,path_len k⟩
end
end Chn
end Go.Proofs.YtdafimdfbnphaaaGreatDoor
/- Texts. -/
namespace Go.Proofs.YtdafimdfbnphaaaGreatDoor
namespace Chn
structure Wr (n:Nat) (S:List Nat) (R:List (Nat × Nat)):Prop where
 n64:n≤65534
 len:R.length=S.length
 slot:∀ s∈S,s < n
 once:S.Nodup
 run:∀ r∈R,1≤r.2∧r.1+r.2≤n
theorem Wr.few {n:Nat} {S:List Nat} {R:List (Nat × Nat)} (h:Wr n S R):S.length≤n:=by
 have:=List.Nodup.length_le_of_subset (l₁:=S) (l₂:=List.range n) h.once (fun x hx=>List.mem_range.2 (h.slot x hx))
 simpa using this
theorem may_of {n:Nat} {S:List Nat} {R:List (Nat × Nat)} (h:Wr n S R):mayW n (S.map Int.ofNat) (R.map (fun r:Nat × Nat=>((r.1:Int),(r.2:Int))))=true:=by
 refine decide_eq_true ⟨by simp[h.len],fun s hs=>?_,?_,fun r hr=>?_⟩
 · obtain⟨i,hi,rfl⟩:=List.mem_map.1 hs
   have:=h.slot i hi
   simp only[Int.ofNat_eq_natCast]
   omega
 · exact List.Pairwise.map Int.ofNat (fun a b hab e=>hab (Int.ofNat.inj e)) h.once
 · obtain⟨q,hq,rfl⟩:=List.mem_map.1 hr
   have:=h.run q hq
   exact decide_eq_true (by simp only;omega)
def pk (S:List Nat) (R:List (Nat × Nat)) (k:Nat):Pt:=⟨S[k]?.getD 0,(R[k]?.getD (0,0)).1,(R[k]?.getD (0,0)).2,S[k+1]?.getD 65535⟩
def pw (p:Pt):Nat:=Slo.wd p.x p.c p.q
def wk (W:List Nat) (b:Nat) (S:List Nat) (R:List (Nat × Nat)):Nat→List Nat
 | 0=>W
 | k+1=>(wk W b S R k).set (b+(pk S R (S.length - 1 - k)).s) (pw (pk S R (S.length - 1 - k)))
theorem wk_len (W:List Nat) (b:Nat) (S:List Nat) (R:List (Nat × Nat)):∀ k,(wk W b S R k).length=W.length
 | 0=>rfl
 | k+1=>by unfold wk;rw[List.length_set,wk_len W b S R k]
section
variable {W : List Nat} {b n : Nat} {S : List Nat} {R : List (Nat × Nat)}
theorem pk_s {k:Nat} (hk:k < S.length):(pk S R k).s=S[k]:=by simp[pk,hk]
theorem pk_may (h:Wr n S R) {k:Nat} (hk:k < S.length):(1≤(pk S R k).c∧(pk S R k).x+(pk S R k).c≤n)∧((pk S R k).q < n∨(pk S R k).q=65535)∧Slo.may (pk S R k).x (pk S R k).c (Slo.nx (pk S R k).q)=true:=by
 have hr:k < R.length:=by rw[h.len];exact hk
 have h1:=h.run R[k] (List.getElem_mem hr)
 have e1:(pk S R k).x=R[k].1:=by simp[pk,hr]
 have e2:(pk S R k).c=R[k].2:=by simp[pk,hr]
 have h2:(pk S R k).q < n∨(pk S R k).q=65535:=by
  unfold pk
  simp only
  rcases Nat.lt_or_ge (k+1) S.length with h3 | h3
  · rw[List.getElem?_eq_getElem h3,Option.getD_some]
    exact .inl (h.slot _ (List.getElem_mem h3))
  · rw[List.getElem?_eq_none h3]
    exact .inr rfl
 have h64:=h.n64
 refine⟨by rw[e1,e2];exact h1,h2,Slo.may_iff.2 ?_⟩
 rw[e1,e2]
 generalize (pk S R k).q=q at *
 unfold Slo.May Slo.nx
 split<;>omega
theorem wk_at (h:Wr n S R) (hW:b+n≤W.length):∀ {k:Nat},k≤S.length→∀ {j:Nat} (hj:j < S.length),S.length - k≤j→(wk W b S R k)[b+S[j]]?.getD 0=pw (pk S R j)
 | 0,_,j,hj,h1=>by omega
 | k+1,hk,j,hj,h1=>by
   have hi:S.length - 1 - k < S.length:=by omega
   have hs:=h.slot S[j] (List.getElem_mem hj)
   unfold wk
   rw[pk_s hi]
   by_cases e:j=S.length - 1 - k
   · subst e
     rw[List.getElem?_set_self (by rw[wk_len];omega),Option.getD_some]
   · have hne:S[S.length - 1 - k]≠S[j]:=fun e2=>e ((List.getElem_inj h.once).1 e2).symm
     rw[List.getElem?_set_ne (by omega)]
     exact wk_at h hW (by omega) hj (by omega)
theorem wk_else (h:Wr n S R) {i:Nat} (hi:∀ s∈S,i≠b+s):∀ {k:Nat},k≤S.length→(wk W b S R k)[i]? = W[i]?
 | 0,_=>rfl
 | k+1,hk=>by
   have hl:S.length - 1 - k < S.length:=by omega
   unfold wk
   rw[pk_s hl,List.getElem?_set_ne (fun e=>hi _ (List.getElem_mem hl) e.symm)]
   exact wk_else h hi (by omega)
def hd (S:List Nat) (k:Nat):Int:=Slo.nx (S[k]?.getD 65535)
theorem hd_some (h:Wr n S R) {k:Nat} (hk:k < S.length):hd S k=(S[k]:Int):=by
 unfold hd
 rw[List.getElem?_eq_getElem hk,Option.getD_some]
 exact Slo.nx_some (by have:=h.slot S[k] (List.getElem_mem hk);have:=h.n64;omega)
theorem hd_none {k:Nat} (hk:S.length≤k):hd S k = -1:=by
 unfold hd
 rw[List.getElem?_eq_none hk]
 rfl
def fw (W:List Nat) (b i:Nat):Option (Nat × Nat × Nat):=Slo.dec (W[b+i]?.getD 0)
theorem wk_path (h:Wr n S R) (hW:b+n≤W.length):∀ {k:Nat},k≤S.length→Path (pat (fw (wk W b S R S.length) b) n) (hd S (S.length - k)) ((List.range' (S.length - k) k).map (pk S R)) (-1)
 | 0,_=>hd_none (Nat.le_refl _)
 | k+1,hk=>by
   have hi:S.length - (k+1) < S.length:=by omega
   have hs:=h.slot S[S.length - (k+1)] (List.getElem_mem hi)
   obtain⟨⟨m1,m2⟩,m3,m4⟩:=pk_may h hi
   rw[List.range'_succ,List.map_cons,show S.length - (k+1)+1=S.length - k by omega,hd_some h hi]
   refine⟨by omega,?_,?_⟩
   · have hw:fw (wk W b S R S.length) b S[S.length - (k+1)]=some ((pk S R (S.length - (k+1))).x,(pk S R (S.length - (k+1))).c,(pk S R (S.length - (k+1))).q):=by
      unfold fw
      rw[wk_at h hW (Nat.le_refl _) hi (by omega)]
      exact Slo.dec_wd m4
     rw[pat_yes hw hs m2]
     congr 1
     have e:=pk_s (R:=R) hi
     generalize pk S R (S.length - (k+1))=p at *
     obtain⟨a1,a2,a3,a4⟩:=p
     simp only at e
     subst e
     rfl
   · have e:Slo.nx (pk S R (S.length - (k+1))).q=hd S (S.length - k):=by
      unfold pk hd
      simp only
      rw[show S.length - (k+1)+1=S.length - k by omega]
     rw[e]
     exact wk_path h hW (by omega)
def pts (S:List Nat) (R:List (Nat × Nat)):List Pt:=(List.range' 0 S.length).map (pk S R)
theorem wk_read (h:Wr n S R) (hW:b+n≤W.length):rd (pat (fw (wk W b S R S.length) b) n) n (hd S 0)=some (pts S R):=by
 have:=wk_path h hW (Nat.le_refl S.length)
 rw[Nat.sub_self] at this
 exact rd_yes this
end
end Chn
end Go.Proofs.YtdafimdfbnphaaaGreatDoor
/- Texts. -/
namespace Go.Proofs.YtdafimdfbnphaaaGreatDoor
open Go.RowKit Go.MapKept
namespace Chn
structure Prt (w:World) (A:Option Addr) (l:List Pt):Prop where
 at':∀ j (h:j < l.length),∃ b o,A=some ⟨b,o,none⟩∧b < w.heap.size∧w.cell? ⟨b,o+j * 3,none⟩=some (.int .i64 (l[j].x:Int))∧w.cell? ⟨b,o+j * 3+1,none⟩=some (.int .i64 (l[j].c:Int))∧w.cell? ⟨b,o+j * 3+2,none⟩=some (.int .i64 (Slo.nx l[j].q))
theorem Prt.keep {w w':World} {A:Option Addr} {l:List Pt} (h:Prt w A l) (hb:Below w.heap.size w w'):Prt w' A l:=
 ⟨fun j hj=>by
   obtain⟨b,o,e,hlt,hc,hd,he⟩:=h.at' j hj
   exact⟨b,o,e,Nat.lt_of_lt_of_le hlt hb.size,(hb.cell (p:=⟨b,o+j * 3,none⟩) hlt).trans hc,(hb.cell (p:=⟨b,o+j * 3+1,none⟩) hlt).trans hd,(hb.cell (p:=⟨b,o+j * 3+2,none⟩) hlt).trans he⟩⟩
def pcells (l:List Pt):List Value:=l.flatMap fun p=>[.int .i64 (p.x:Int),.int .i64 (p.c:Int),.int .i64 (Slo.nx p.q)]
theorem pcells_snoc (l:List Pt) (p:Pt):pcells (l++[p])=pcells l++[.int .i64 (p.x:Int),.int .i64 (p.c:Int),.int .i64 (Slo.nx p.q)]:=by simp[pcells]
theorem pcells_len (l:List Pt):(pcells l).length=l.length * 3:=by
 induction l with
 | nil=>rfl
 | cons p l ih=>
   have e:pcells (p :: l)=[.int .i64 (p.x:Int),.int .i64 (p.c:Int),.int .i64 (Slo.nx p.q)]++pcells l:=rfl
   rw[e,List.length_append,ih]
   simp;omega
theorem pcells_get {l:List Pt}:∀ {j:Nat} (h:j < l.length),(pcells l)[j * 3]? = some (.int .i64 (l[j].x:Int))∧(pcells l)[j * 3+1]? = some (.int .i64 (l[j].c:Int))∧(pcells l)[j * 3+2]? = some (.int .i64 (Slo.nx l[j].q)):=by
 induction l with
 | nil=>intro j h;simp at h
 | cons p l ih=>
   intro j h
   cases j with
   | zero=>exact⟨rfl,rfl,rfl⟩
   | succ j=>
     have:=ih (j:=j) (by simpa using h)
     have e:(j+1) * 3=j * 3+1+1+1:=by omega
     rw[e]
     simpa [pcells] using this
theorem own_prt {W:World} {B n c:Nat} {t:TypeId} {G:Option Addr} {l:List Pt} (h:W.ownsRow B t 3 (.slice G n c) n (pcells l)):Prt W G l∧l.length=n:=by
 have hl:l.length=n:=by
  have:=h.1
  rw[pcells_len] at this
  omega
 refine⟨⟨fun j hj=>?_⟩,hl⟩
 obtain⟨f0,f1,f2⟩:=pcells_get hj
 rcases h.2 with ⟨e,h0⟩ | ⟨g,cap,cur,e,hB,hh,_,_,_,ht⟩
 · omega
 · injection e with e
   subst e
   have key:∀ i,i < n * 3→W.cell? ⟨g,0+i,none⟩=(pcells l)[i]?:=fun i hi=>by
    have:=congrArg (·[i]?) ht
    simp only[List.getElem?_take,hi,if_true] at this
    rw[← this]
    simp[World.cell?,hh]
   have k0:=key (j * 3) (by omega)
   have k1:=key (j * 3+1) (by omega)
   have k2:=key (j * 3+2) (by omega)
   exact⟨g,0,rfl,Pm.lt_of_some hh,k0.trans f0,by rw[Nat.add_assoc];exact k1.trans f1,by rw[Nat.add_assoc];exact k2.trans f2⟩
theorem row_slice3 {B n:Nat} {W:World} {e:TypeId} {v:Value} {xs:List Value} (h:W.ownsRow B e 3 v n xs):∃ G c,v = .slice G n c:=by
 rcases h.2 with ⟨e,h0⟩ | ⟨g,cap,cur,e,_⟩
 · exact⟨none,0,by rw[e,h0]⟩
 · exact⟨_,_,e⟩
theorem row_base_lt3 {w:World} {B s:Nat} {e:TypeId} {n:Nat} {v:Value} {xs:List Value} (h:w.ownsRow B e s v n xs) {g:Nat} (hg:v.ownBlock=some g):B≤g:=(World.ownsRow.lt h g hg).1
theorem own_keep3 {w w':World} {B n s:Nat} {t:TypeId} {v:Value} {xs:List Value} (h:w.ownsRow B t s v n xs) (hb:Below w.heap.size w w'):w'.ownsRow B t s v n xs:=by
 have hN:∀ g,v.ownBlock=some g→g < w.heap.size:=fun g hg=>(World.ownsRow.lt h g hg).2
 rcases h with ⟨h1,h2⟩
 refine⟨h1,?_⟩
 rcases h2 with h0 | ⟨g,cap,cur,e,hB,hh,hr⟩
 · exact .inl h0
 · exact .inr ⟨g,cap,cur,e,hB,(hb.block g (hN g (by rw[e];rfl))).trans hh,hr⟩
def slots (l:List Pt):List Int:=l.map fun p=>(p.s:Int)
theorem slots_snoc (l:List Pt) (p:Pt):slots (l++[p])=slots l++[(p.s:Int)]:=by simp[slots]
theorem slots_len (l:List Pt):(slots l).length=l.length:=by simp[slots]
end Chn
end Go.Proofs.YtdafimdfbnphaaaGreatDoor
/- Texts. -/
namespace Go.Proofs.YtdafimdfbnphaaaGreatDoor
open Lib (hid)
open Go.RowKit Go.MapKept
namespace Chn
open Vol (Hb hb_new hb_grown hb_apart)
def Mays (l:List Pt):Prop:=∀ p∈l,Slo.may (p.x:Int) (p.c:Int) (Slo.nx p.q)=true
def tot (l:List Pt):Nat:=(l.map Pt.c).sum
theorem tot_snoc {l:List Pt} {m:Nat} (h:m < l.length):tot (l.take (m+1))=tot (l.take m)+l[m].c:=by
 unfold tot
 rw[List.take_succ_eq_append_getElem h,List.map_append,List.sum_append]
 simp
theorem tot_le {l:List Pt} (h:Mays l) (k:Nat):tot (l.take k)≤65534 * l.length:=by
 have:∀ (l:List Pt),Mays l→tot l≤65534 * l.length:=by
  intro l
  induction l with
  | nil=>intro _;simp[tot]
  | cons p l ih=>
    intro h
    have h1:=ih (fun q hq=>h q (List.mem_cons_of_mem _ hq))
    have h2:=Slo.may_lt (h p (by simp))
    unfold tot at h1 ⊢
    simp only[List.map_cons,List.sum_cons,List.length_cons]
    omega
 have h1:=this (l.take k) (fun p hp=>h p (List.mem_of_mem_take hp))
 have h2:(l.take k).length≤l.length:=by rw[List.length_take];omega
 omega
def blk (l:List Pt):List Nat:=l.flatMap fun p=>(List.range p.c).map (p.x+·)
theorem blk_len:∀ l:List Pt,(blk l).length=tot l
 | []=>rfl
 | p :: l=>by
   have:=blk_len l
   unfold blk tot at this ⊢
   rw[List.flatMap_cons,List.length_append,this]
   simp
theorem blocksOf_any (w:World) (x c q:Nat) (z:Int) (hz:z=Slo.nx q) (hm:Slo.may (x:Int) (c:Int) (Slo.nx q)=true) :
 Calls Tryz.prog 86 #[.agg #[.int .i64 (x:Int),.int .i64 (c:Int),.int .i64 z]] w fun r w'=>r = .returned (.int .i64 (c:Int))∧Below w.heap.size w w':=by
 subst hz
 have hmy:=fun w=>Slo.may_any w (x:Int) (c:Int) (Slo.nx q)
 rw[hm] at hmy
 have HM:=hid hmy
 clear hmy hm
 generalize Slo.nx q=z at *
 go_enter Tryz.func86,Tryz.ntmps86
 go_wp2_with fail
 have hb0:=(Below.refl w.heap.size w).alloc (Nat.le_refl _) (.cells #[.int .i64 (x:Int),.int .i64 (c:Int),.int .i64 z] 170)
 have HX:=hid (hb_new w #[.int .i64 (x:Int),.int .i64 (c:Int),.int .i64 z] 170)
 have HB:=hid hb0
 clear hb0
 generalize w.alloc (.cells #[.int .i64 (x:Int),.int .i64 (c:Int),.int .i64 z] 170)=w0 at *
 refine (HM.out _).mono ?_
 rintro r w1 ⟨rfl,hb⟩
 have c1:=(HX.out.keep hb).cell 1
 have HB1:=hid (HB.out.trans (hb.mono HB.out.size))
 clear hb
 go_wp2
 go_ret
 exact⟨rfl,HB1.out⟩
set_option maxHeartbeats 1000000 in
set_option maxRecDepth 100000 in
theorem count_any (w:World) (A B:Option Addr) (n' c d:Nat) (l:List Pt) (h:Prt w B l) (hm:Mays l) (hl:l.length≤65534) :
 Calls Tryz.prog 85 #[.agg #[.slice A n' c,.slice B l.length d]] w fun r w'=>r = .returned (.int .i64 (tot l:Nat))∧Below w.heap.size w w':=by
 have H:=hid h
 have HM:=hid hm
 have HTL:=hid (tot_le hm)
 clear h hm
 go_enter Tryz.func85,Tryz.ntmps85
 go_wp2
 have HB0:=hid ((Below.refl w.heap.size w).alloc (Nat.le_refl _) (.cells #[.slice A n' c,.slice B l.length d] 90))
 go_loopw [3,9] (fun cnt i wr=>∃ m:Nat,m≤l.length∧i = .int .i64 (m:Int)∧cnt = .int .i64 (tot (l.take m):Nat)∧Below w.heap.size w wr) (fun _ i _=>l.length - (intOf i).toNat)
 case atStart=>exact⟨0,Nat.zero_le _,rfl,by simp[tot],HB0.out⟩
 case round=>
  obtain⟨m,hm,rfl,rfl,hb⟩:=hrel
  clear HB0
  by_cases hlt:m < l.length
  · obtain⟨b,o,rfl,hbb,hc0,hc1,hc2⟩:=H.out.at' m hlt
    have hc0:=(hb.cell (p:=⟨b,o+m * 3,none⟩) hbb).trans hc0
    have hc1:=(hb.cell (p:=⟨b,o+m * 3+1,none⟩) hbb).trans hc1
    have hc2:=(hb.cell (p:=⟨b,o+m * 3+2,none⟩) hbb).trans hc2
    have hbb:=Nat.lt_of_lt_of_le hbb hb.size
    have HBO:=hid (fun w=>blocksOf_any w l[m].x l[m].c l[m].q _ rfl (HM.out _ (List.getElem_mem hlt)))
    have HT:=hid (tot_snoc hlt)
    have ht0:=HTL.out m
    have hcl:=(Slo.may_lt (HM.out _ (List.getElem_mem hlt))).2.2.1
    generalize l[m]=p at *
    obtain⟨p0,x,y,q⟩:=p
    simp only at hc0 hc1 hc2 HBO HT hcl
    generalize Slo.nx q=z at *
    have hba:=hb.alloc hb.size (.cells #[.int .i64 (x:Int),.int .i64 (y:Int),.int .i64 z] 170)
    have HB:=hid hba
    generalize tot (l.take m)=T at *
    clear hba hb
    go_wp2_with fail
    refine (HBO.out _).mono ?_
    rintro r w2 ⟨rfl,hb2⟩
    have HB2:=hid (HB.out.trans (hb2.mono HB.out.size))
    clear hb2
    go_wp2
    refine⟨⟨m+1,by omega,by go_num,?_,HB2.out⟩,by simp[intOf];omega⟩
    rw[HT.out]
    go_num
  · obtain rfl:m=l.length:=by omega
    rw[List.take_length]
    go_wp2
    go_ret
    exact⟨rfl,hb⟩
end Chn
end Go.Proofs.YtdafimdfbnphaaaGreatDoor
/- Texts. -/
namespace Go.Proofs.YtdafimdfbnphaaaGreatDoor
namespace Clm
open Chn (Pt pat rd rd_iff path_mem path_nodup path_len Mays tot blk blk_len)
structure Cl where
 k:Nat
 p:Nat
 z:Nat
 l:List Pt
def need (s z:Nat):Nat:=(z+s - 1) / s
theorem need_iff {s z c:Nat} (hs:0 < s):c=need s z↔z≤c * s∧(∀ d,d < c→d * s < z):=by
 unfold need
 constructor
 · rintro rfl
   have h1:=Nat.div_add_mod (z+s - 1) s
   have h2:=Nat.mod_lt (z+s - 1) hs
   refine⟨?_,fun d hd=>?_⟩
   · rw[Nat.mul_comm];omega
   · have h3:(d+1) * s≤(z+s - 1) / s * s:=Nat.mul_le_mul_right s (by omega)
     rw[Nat.add_mul,Nat.mul_comm ((z+s - 1) / s)] at h3
     omega
 · rintro ⟨h1,h2⟩
   symm
   cases c with
   | zero=>
     refine Nat.div_eq_of_lt ?_
     omega
   | succ d=>
     have h3:=h2 d (by omega)
     rw[Nat.add_mul] at h1
     refine Nat.div_eq_of_lt_le ?_ ?_
     · rw[Nat.add_mul];omega
     · rw[show d+1+1=d+2 from rfl,Nat.add_mul];omega
def sls (l:List Pt):List Nat:=l.map Pt.s
def sl (L:List Cl):List Nat:=L.flatMap fun c=>sls c.l
def bl (L:List Cl):List Nat:=L.flatMap fun c=>blk c.l
theorem sl_snoc (L:List Cl) (c:Cl):sl (L++[c])=sl L++sls c.l:=by simp[sl]
theorem bl_snoc (L:List Cl) (c:Cl):bl (L++[c])=bl L++blk c.l:=by simp[bl]
def one (f:Nat→Option (Nat × Nat × Nat)) (n s:Nat):Option (Nat × Nat × Nat)→Option Cl
 | none=>none
 | some (k,p,z)=>match rd (pat f n) n ((p:Int) - 1) with
   | none=>none
   | some l=>if tot l=need s z then some ⟨k,p,z,l⟩ else none
def add (L:List Cl):Option Cl→Option (List Cl)
 | none=>none
 | some c=>if (sl L++sls c.l).Nodup∧(bl L++blk c.l).Nodup then some (L++[c]) else none
def scn (g:Nat→Option Cl):Nat→Option (List Cl)
 | 0=>some []
 | i+1=>(scn g i).bind fun L=>add L (g i)
theorem scn_none {g:Nat→Option Cl} {i:Nat} (h:scn g i=none):∀ m,i≤m→scn g m=none
 | 0,hm=>by
   obtain rfl:i=0:=by omega
   exact h
 | m+1,hm=>by
   by_cases e:i=m+1
   · rw[← e];exact h
   · rw[scn,scn_none h m (by omega)];rfl
theorem scn_stop {g:Nat→Option Cl} {i m:Nat} {L:List Cl} (h:scn g i=some L) (ha:add L (g i)=none) (hm:i < m):scn g m=none:=
 scn_none (i:=i+1) (by rw[scn,h];exact ha) m hm
theorem scn_next {g:Nat→Option Cl} {i:Nat} {L:List Cl} {c:Cl} (h:scn g i=some L) (hg:g i=some c) (h1:(sl L++sls c.l).Nodup) (h2:(bl L++blk c.l).Nodup):scn g (i+1)=some (L++[c]):=by
 rw[scn,h]
 show add L (g i)=_
 rw[hg]
 exact if_pos ⟨h1,h2⟩
theorem add_not {L:List Cl} {c:Cl} (h:¬ ((sl L++sls c.l).Nodup∧(bl L++blk c.l).Nodup)):add L (some c)=none:=if_neg h
theorem one_none {f:Nat→Option (Nat × Nat × Nat)} {n s k p z:Nat} (h:rd (pat f n) n ((p:Int) - 1)=none):one f n s (some (k,p,z))=none:=by
 unfold one
 simp only[h]
theorem one_not {f:Nat→Option (Nat × Nat × Nat)} {n s k p z:Nat} {l:List Pt} (h:rd (pat f n) n ((p:Int) - 1)=some l) (ht:tot l≠need s z):one f n s (some (k,p,z))=none:=by
 unfold one
 simp only[h]
 exact if_neg ht
theorem one_yes {f:Nat→Option (Nat × Nat × Nat)} {n s k p z:Nat} {l:List Pt} (h:rd (pat f n) n ((p:Int) - 1)=some l) (ht:tot l=need s z):one f n s (some (k,p,z))=some ⟨k,p,z,l⟩:=by
 unfold one
 simp only[h]
 exact if_pos ht
structure Ok (f:Nat→Option (Nat × Nat × Nat)) (n s:Nat) (c:Cl):Prop where
 may:Ino.may (c.k:Int) ((c.p:Int) - 1) (c.z:Int)=true
 rd:rd (pat f n) n ((c.p:Int) - 1)=some c.l
 tot:tot c.l=need s c.z
theorem one_ok {f:Nat→Option (Nat × Nat × Nat)} {n s:Nat} {d:Option (Nat × Nat × Nat)} {c:Cl} (h:one f n s d=some c) (hd:∀ k p z,d=some (k,p,z)→Ino.may (k:Int) ((p:Int) - 1) (z:Int)=true):Ok f n s c:=by
 cases d with
 | none=>cases h
 | some t=>
   obtain⟨k,p,z⟩:=t
   unfold one at h
   simp only at h
   split at h
   · cases h
   · rename_i l hl
     split at h
     · injection h with h
       subst h
       exact⟨hd _ _ _ rfl,hl,by assumption⟩
     · cases h
structure Oks (f:Nat→Option (Nat × Nat × Nat)) (n s:Nat) (L:List Cl):Prop where
 each:∀ c∈L,Ok f n s c
 sl:(sl L).Nodup
 bl:(bl L).Nodup
theorem oks_nil (f:Nat→Option (Nat × Nat × Nat)) (n s:Nat):Oks f n s []:=⟨by simp,by simp[Clm.sl],by simp[Clm.bl]⟩
theorem Oks.snoc {f:Nat→Option (Nat × Nat × Nat)} {n s:Nat} {L:List Cl} {c:Cl} (h:Oks f n s L) (hc:Ok f n s c) (h1:(Clm.sl L++sls c.l).Nodup) (h2:(Clm.bl L++blk c.l).Nodup):Oks f n s (L++[c]):=
 ⟨fun x hx=>by
   rcases List.mem_append.1 hx with hx | hx
   · exact h.each x hx
   · obtain rfl:x=c:=by simpa using hx
     exact hc,by rw[sl_snoc];exact h1,by rw[bl_snoc];exact h2⟩
theorem scn_oks {f:Nat→Option (Nat × Nat × Nat)} {n s:Nat} {g:Nat→Option Cl} (hg:∀ i c,g i=some c→Ok f n s c):∀ {i:Nat} {L:List Cl},scn g i=some L→Oks f n s L∧L.length=i
 | 0,L,h=>by
   injection h with h
   subst h
   exact⟨oks_nil f n s,rfl⟩
 | i+1,L,h=>by
   rw[scn] at h
   cases e:scn g i with
   | none=>rw[e] at h;cases h
   | some L0=>
     rw[e] at h
     obtain⟨h1,h2⟩:=scn_oks hg e
     simp only[Option.bind_some] at h
     cases e2:g i with
     | none=>rw[e2] at h;cases h
     | some c=>
       rw[e2,add] at h
       split at h
       · rename_i hn
         injection h with h
         subst h
         exact⟨h1.snoc (hg i c e2) hn.1 hn.2,by simp[h2]⟩
       · cases h
section
variable {f : Nat → Option (Nat × Nat × Nat)} (hf : ∀ i x c q, f i = some (x, c, q) → Slo.may (x : Int) (c : Int) (Slo.nx q) = true) {n s : Nat}
theorem Ok.few {c:Cl} (h:Ok f n s c):c.l.length≤n:=(rd_iff.1 h.rd).2
theorem blk_mem {l:List Pt} {b:Nat} (h:b∈blk l):∃ p∈l,p.x≤b∧b < p.x+p.c:=by
 obtain⟨p,hp,hb⟩:=List.mem_flatMap.1 h
 obtain⟨j,hj,rfl⟩:=List.mem_map.1 hb
 have:=List.mem_range.1 hj
 exact⟨p,hp,by omega,by omega⟩
theorem Ok.free {c:Cl} (h:Ok f n s c) (hk:c.k=0):c.p=0∧c.z=0∧c.l=[]:=by
 have h1:=h.may
 rw[hk] at h1
 obtain⟨h2,h3⟩:=Ino.may_free h1
 have h4:=h.rd
 rw[h2] at h4
 have h5:=(rd_iff.1 h4).1
 refine⟨h2,h3,?_⟩
 cases e:c.l with
 | nil=>rfl
 | cons p l=>rw[e] at h5;exact absurd rfl h5.1
end
section
variable {f : Nat → Option (Nat × Nat × Nat)} (hf : ∀ i x c q, f i = some (x, c, q) → Slo.may (x : Int) (c : Int) (Slo.nx q) = true) {n s : Nat} {L : List Cl}
end
def ins (X:List Nat) (b:Nat):Bool:=decide (b∈X)
theorem ins_nil:ins []=fun _=>false:=by funext b;simp[ins]
theorem ins_upd (X:List Nat) (y:Nat):Bm.upd (ins X) y true=ins (X++[y]):=by
 funext b
 unfold Bm.upd ins
 by_cases h:b=y
 · rw[if_pos h];simp[h]
 · rw[if_neg h];simp[h]
theorem put_fold {n:Nat}:∀ (Y:List Nat) (X:List Nat) (c:Nat),X.Nodup→(∀ y∈Y,y < n) →
 ((X++Y).Nodup→((Y.map Int.ofNat).foldl (Bm.tnp n true) (ins X,c))=(ins (X++Y),c+Y.length)) ∧
 (¬ (X++Y).Nodup→((Y.map Int.ofNat).foldl (Bm.tnp n true) (ins X,c)).2 < c+Y.length)
 | [],X,c,hX,_=>⟨fun _=>by simp,fun h=>absurd (by simpa using hX) h⟩
 | y :: Y,X,c,hX,hY=>by
   have hy:y < n:=hY y (by simp)
   have hY':∀ z∈Y,z < n:=fun z hz=>hY z (List.mem_cons_of_mem _ hz)
   simp only[List.map_cons,List.foldl_cons]
   have e1:(Int.ofNat y)=(y:Int):=rfl
   rw[e1]
   have eX:X++y :: Y=(X++[y])++Y:=by simp
   by_cases hm:y∈X
   · rw[Bm.tnp_same (x:=(ins X,c)) (by simp[ins,hm])]
     have hno:¬ (X++y :: Y).Nodup:=fun h=>by
      rw[List.nodup_append] at h
      exact h.2.2 y hm y (by simp) rfl
     refine⟨fun h=>absurd h hno,fun _=>?_⟩
     have h3:=put_fold Y X c hX hY'
     by_cases h4:(X++Y).Nodup
     · rw[h3.1 h4];simp
     · have:=h3.2 h4
       simp only[List.length_cons];omega
   · rw[Bm.tnp_turn (x:=(ins X,c)) hy (by simp[ins,hm])]
     simp only
     rw[ins_upd]
     have hX2:(X++[y]).Nodup:=by
      rw[List.nodup_append]
      refine⟨hX,by simp,fun a ha b hb=>?_⟩
      obtain rfl:b=y:=by simpa using hb
      exact fun e=>hm (by rw[← e];exact ha)
     have h3:=put_fold Y (X++[y]) (c+1) hX2 hY'
     rw[eX]
     refine⟨fun h=>?_,fun h=>?_⟩
     · rw[h3.1 h];simp;omega
     · have:=h3.2 h
       simp only[List.length_cons];omega
theorem put_yes {n:Nat} {X Y:List Nat} (hX:X.Nodup) (hY:∀ y∈Y,y < n) (h:(X++Y).Nodup):Bm.tn n true (ins X) (Y.map Int.ofNat)=(ins (X++Y),Y.length):=by
 have:=(put_fold Y X 0 hX hY).1 h
 rw[Nat.zero_add] at this
 exact this
theorem put_no {n:Nat} {X Y:List Nat} (hX:X.Nodup) (hY:∀ y∈Y,y < n) (h:¬ (X++Y).Nodup):(Bm.tn n true (ins X) (Y.map Int.ofNat)).2≠Y.length:=by
 have:=(put_fold Y X 0 hX hY).2 h
 rw[Nat.zero_add] at this
 exact Nat.ne_of_lt this
theorem cnt_ins:∀ (n:Nat) (X:List Nat),X.Nodup→(∀ x∈X,x < n)→Bm.cnt (ins X) n=X.length
 | 0,X,_,h=>by
   cases X with
   | nil=>rfl
   | cons x X=>have:=h x (by simp);omega
 | n+1,X,hX,h=>by
   by_cases hm:n∈X
   · have h1:=cnt_ins n (X.erase n) (hX.erase n) (fun x hx=>by
      have h2:=h x (List.mem_of_mem_erase hx)
      have h3:x≠n:=fun e=>by
       subst e
       exact (List.Nodup.mem_erase_iff hX).1 hx |>.1 rfl
      omega)
     have h2:Bm.cnt (ins X) n=Bm.cnt (ins (X.erase n)) n:=Bm.cnt_congr fun i hi=>by
      have:i∈X.erase n↔i∈X:=by
       rw[List.Nodup.mem_erase_iff hX]
       exact⟨fun h=>h.2,fun h=>⟨by omega,h⟩⟩
      unfold ins
      simp[this]
     have h3:=List.length_erase_of_mem hm
     have h4:=List.length_pos_of_mem hm
     rw[Bm.cnt,h2,h1]
     simp[ins,hm]
     omega
   · have h1:=cnt_ins n X hX (fun x hx=>by
      have h2:=h x hx
      have h3:x≠n:=fun e=>hm (e ▸ hx)
      omega)
     rw[Bm.cnt,h1]
     simp[ins,hm]
def Own (L:List Cl) (i k b:Nat):Prop:=∃ h:i < L.length,(blk L[i].l)[k]? = some b
theorem own_mem {L:List Cl} {i k b:Nat} (h:Own L i k b):b∈bl L:=by
 obtain⟨hi,hk⟩:=h
 exact List.mem_flatMap.2 ⟨_,List.getElem_mem hi,List.mem_of_getElem? hk⟩
theorem own_snoc {L:List Cl} {c:Cl} {i k b:Nat}:Own (L++[c]) i k b↔Own L i k b∨(i=L.length∧(blk c.l)[k]? = some b):=by
 constructor
 · rintro ⟨h,hk⟩
   by_cases e:i < L.length
   · rw[List.getElem_append_left e] at hk
     exact .inl ⟨e,hk⟩
   · obtain rfl:i=L.length:=by simp at h;omega
     simp at hk
     exact .inr ⟨rfl,hk⟩
 · rintro (⟨h,hk⟩ | ⟨rfl,hk⟩)
   · exact⟨by simp;omega,by rw[List.getElem_append_left h];exact hk⟩
   · exact⟨by simp,by simpa using hk⟩
end Clm
end Go.Proofs.YtdafimdfbnphaaaGreatDoor
/- Texts. -/
namespace Go.Proofs.YtdafimdfbnphaaaGreatDoor
open Lib (hid)
open Go.RowKit Go.MapKept
namespace Chn
open Vol (Vo Up Kq Hb hb_new hb_grown hb_apart)
theorem run_blocks2 (u v x:Value) (W:World):(Instr.field 122 (.agg #[u,v,x]) 0).run Tryz.prog W = .ok u W:=by kernel_rfl
structure Rt (w:World) (C:Nat) (l:List Pt) (A:Option Addr) (c:Nat) (B:Option Addr) (d:Nat) (wr:World):Prop where
 res:Hb wr w.heap.size #[.slice none 0 0,.slice none 0 0] 90
 box:Hb wr C #[.slice A l.length c,.slice B l.length d] 90
 ints:wr.ownsRow w.heap.size 3 1 (.slice A l.length c) l.length (Pack.i64s (slots l))
 prts:wr.ownsRow w.heap.size 170 3 (.slice B l.length d) l.length (pcells l)
 below:Below w.heap.size w wr
theorem Rt.keep {w w1 w2:World} {C:Nat} {l:List Pt} {A B:Option Addr} {c d:Nat} (h:Rt w C l A c B d w1) (hb:Below w1.heap.size w1 w2):Rt w C l A c B d w2:=
 ⟨h.res.keep hb,h.box.keep hb,own_keep3 h.ints hb,own_keep3 h.prts hb,h.below.trans (hb.mono h.below.size)⟩
section
variable {Q : Nat → Prop} {w : World} {vb a n m s : Nat} {W : List Nat} {st sn : Nat}
theorem own_far {w:World} {B n s b i:Nat} {e t:TypeId} {v:Value} {xs:List Value} {cs:Array Value} (h:w.ownsRow B e s v n xs) (hb:Hb w b cs t) (ht:e≠t) (u:Value):(w.setCell ⟨b,i,none⟩ u).ownsRow B e s v n xs:=by
 rcases h with ⟨h1,h2⟩
 refine⟨h1,?_⟩
 rcases h2 with h0 | ⟨g,cap,cur,e2,hB,hh,hr⟩
 · exact .inl h0
 · exact .inr ⟨g,cap,cur,e2,hB,(Below.heap_setCell _ _ _ _ (show g≠b from Pm.blk_ne hh hb ht)).trans hh,hr⟩
theorem part_info:(Tryz.prog.info? 170).map (fun i=>(i.zero,i.size,i.bytes))=some (some (.agg #[.int .i64 0,.int .i64 0,.int .i64 0]),3,24):=by kernel_rfl
theorem cells_three_new (w:World) (x y z:Value) (t:TypeId):∀ j u,[x,y,z][j]? = some u→(w.alloc (.cells #[x,y,z] t)).cell? ((⟨w.heap.size,0,none⟩:Addr).add j)=some u:=by
 intro j u hj
 match j,hj with
 | 0,hj=>
   simp at hj
   subst hj
   simp[Addr.add]
 | 1,hj=>
   simp at hj
   subst hj
   simp[Addr.add]
 | 2,hj=>
   simp at hj
   subst hj
   simp[Addr.add]
theorem hb_apart3 {w:World} {b:Nat} {cs:Array Value} {t e:TypeId} {B n s:Nat} {v:Value} {xs:List Value} (h:Hb w b cs t) (ho:w.ownsRow B e s v n xs) (ht:e≠t):v.ownBlock≠some b:=by
 rcases ho.2 with ⟨e1,_⟩ | ⟨g,cap,cur,e1,_,hg,_⟩
 · rw[e1];simp[Value.ownBlock]
 · rw[e1]
   simp only[Value.ownBlock,ne_eq,Option.some.injEq]
   exact Pm.blk_ne hg h ht
def lenOf:Value→Nat
 | .slice _ n _=>n
 | _=>0
def RdTo (n:Nat) (f:Nat→Option (Nat × Nat × Nat)) (h:Int) (w:World) (r:Ending) (w':World):Prop:=
 match rd (pat f n) n h with
 | none=>r = .returned (.tuple #[.agg #[.slice none 0 0,.slice none 0 0],.int .i64 2])∧Below w.heap.size w w'
 | some l=>∃ (A:Option Addr) (c:Nat) (B:Option Addr) (d:Nat),r = .returned (.tuple #[.agg #[.slice A l.length c,.slice B l.length d],.int .i64 0])∧Pack.Nts w' A (slots l)∧Prt w' B l∧l.length≤c∧l.length≤d∧Below w.heap.size w w'
theorem row_cap3 {w:World} {B n c:Nat} {e:TypeId} {G:Option Addr} {xs:List Value} {s:Nat} (h:w.ownsRow B e s (.slice G n c) n xs):n≤c:=by
 rcases h.2 with ⟨e,h0⟩ | ⟨g,cap,cur,e,_,_,hn,_⟩
 · injection e with e1 e2 e3;omega
 · injection e with e1 e2 e3;omega
theorem RdTo.none {n:Nat} {f:Nat→Option (Nat × Nat × Nat)} {h:Int} {w w':World} {r:Ending} (hn:rd (pat f n) n h=Option.none) (hr:r = .returned (.tuple #[.agg #[.slice Option.none 0 0,.slice Option.none 0 0],.int .i64 2])) (hb:Below w.heap.size w w'):RdTo n f h w r w':=by
 unfold RdTo
 rw[hn]
 exact⟨hr,hb⟩
def New (B:Nat) (A:Option Addr):Prop:=∀ a,A=Option.some a→B≤a.block
theorem own_new {w:World} {B n c s:Nat} {e:TypeId} {G:Option Addr} {xs:List Value} (h:w.ownsRow B e s (.slice G n c) n xs):New B G:=by
 rintro a rfl
 exact row_base_lt3 h rfl
def RdN (n:Nat) (f:Nat→Option (Nat × Nat × Nat)) (h:Int) (w:World) (r:Ending) (w':World):Prop:=
 match rd (pat f n) n h with
 | none=>r = .returned (.tuple #[.agg #[.slice none 0 0,.slice none 0 0],.int .i64 2])∧Below w.heap.size w w'
 | some l=>∃ (A:Option Addr) (c:Nat) (B:Option Addr) (d:Nat),r = .returned (.tuple #[.agg #[.slice A l.length c,.slice B l.length d],.int .i64 0])∧Pack.Nts w' A (slots l)∧Prt w' B l∧(l.length≤c∧l.length≤d)∧(New w.heap.size A∧New w.heap.size B)∧Below w.heap.size w w'
theorem RdN.none {n:Nat} {f:Nat→Option (Nat × Nat × Nat)} {h:Int} {w w':World} {r:Ending} (hn:rd (pat f n) n h=Option.none) (hr:r = .returned (.tuple #[.agg #[.slice Option.none 0 0,.slice Option.none 0 0],.int .i64 2])) (hb:Below w.heap.size w w'):RdN n f h w r w':=by
 unfold RdN
 rw[hn]
 exact⟨hr,hb⟩
theorem RdN.some {n:Nat} {f:Nat→Option (Nat × Nat × Nat)} {h:Int} {w w':World} {r:Ending} {l:List Pt} {A B:Option Addr} {c d:Nat} (hn:rd (pat f n) n h=Option.some l) (hr:r = .returned (.tuple #[.agg #[.slice A l.length c,.slice B l.length d],.int .i64 0])) (h1:Pack.Nts w' A (slots l)) (h2:Prt w' B l) (h3:l.length≤c∧l.length≤d) (h4:New w.heap.size A∧New w.heap.size B) (hb:Below w.heap.size w w'):RdN n f h w r w':=by
 unfold RdN
 rw[hn]
 exact⟨A,c,B,d,hr,h1,h2,h3,h4,hb⟩
theorem RdTo.some {n:Nat} {f:Nat→Option (Nat × Nat × Nat)} {h:Int} {w w':World} {r:Ending} {l:List Pt} {A B:Option Addr} {c d:Nat} (hn:rd (pat f n) n h=Option.some l) (hr:r = .returned (.tuple #[.agg #[.slice A l.length c,.slice B l.length d],.int .i64 0])) (h1:Pack.Nts w' A (slots l)) (h2:Prt w' B l) (h3:l.length≤c) (h4:l.length≤d) (hb:Below w.heap.size w w'):RdTo n f h w r w':=by
 unfold RdTo
 rw[hn]
 exact⟨A,c,B,d,hr,h1,h2,h3,h4,hb⟩
set_option maxHeartbeats 4000000 in
set_option maxRecDepth 100000 in
theorem read_new (h:Vo Q w vb a n m s W st sn) (hd:Int) :
 Calls Tryz.prog 57 #[.pointer (some ⟨vb,0,none⟩),.int .i64 hd] w (RdN n (fw W (16+m * 8)) hd w):=by
 have HG:=hid (fun w' (hb:Below w.heap.size w w')=>Vol.geometry_any (h.keep hb))
 have HV:=hid h
 have hrf:=run_blocks2 (.int .i64 (n:Int)) (.int .i64 (m:Int)) (.int .i64 (s:Int))
 clear h
 go_enter Tryz.func57,Tryz.ntmps57
 go_wp2_with fail
 have hb0:=(Below.refl w.heap.size w).alloc (Nat.le_refl _) (.cells #[.slice none 0 0,.slice none 0 0] 90)
 have HX0:=hid (hb_new w #[.slice none 0 0,.slice none 0 0] 90)
 have HB0:=hid hb0
 clear hb0
 generalize w.alloc (.cells #[.slice none 0 0,.slice none 0 0] 90)=w0 at *
 refine (HG.out _ HB0.out).mono ?_
 rintro r w1 ⟨rfl,hb⟩
 have HX1:=hid (HX0.out.keep hb)
 have HB1:=hid (HB0.out.trans (hb.mono HB0.out.size))
 clear hb HX0 HB0 HG
 go_wp2_with fail
 have HR:=hid (show Rt w w1.heap.size [] none 0 none 0 (w1.alloc (.cells #[.slice none 0 0,.slice none 0 0] 90)) from
  ⟨HX1.out.keep ((Below.refl _ _).alloc (Nat.le_refl _) _),hb_new w1 _ _,World.ownsRow_nil ..,World.ownsRow_nil ..,HB1.out.alloc HB1.out.size _⟩)
 generalize hC:w1.heap.size=C at *
 have HCS:=hid (show w.heap.size < C by rw[← hC];exact HX1.out.lt)
 clear hC HX1 HB1
 go_loopw [8] (fun s' wr=>∃ (sv:Int) (l:List Pt) (A:Option Addr) (c:Nat) (B:Option Addr) (d:Nat),s' = .int .i64 sv∧Path (pat (fw W (16+m * 8)) n) hd l sv∧l.length≤n∧Rt w C l A c B d wr) (fun _ wr=>n - ((wr.cell? ⟨C,0,none⟩).map lenOf).getD 0)
 case atStart=>exact⟨hd,[],none,0,none,0,rfl,rfl,Nat.zero_le _,HR.out⟩
 case round=>
  obtain⟨sv,l,A,c,B,d,rfl,hpath,hln,hrt⟩:=hrel
  have HRT:=hid hrt
  have HPT:=hid hpath
  have b0:=hrt.box.cell 0
  have b1:=hrt.box.cell 1
  have bl:=hrt.box.lt
  have bf0:=hrt.box.frozen 0
  have bf1:=hrt.box.frozen 1
  have rl:=hrt.res.lt
  have r0:=hrt.res.cell 0
  have r1:=hrt.res.cell 1
  have rf0:=hrt.res.frozen 0
  have rf1:=hrt.res.frozen 1
  clear hrt hpath
  by_cases hs:sv = -1
  · subst hs
    go_wp2
    have hR:=HRT.out
    have hB0:=hR.res.set 0 (.slice A l.length c)
    have i1:=own_far (i:=0) hR.ints hR.res (by decide) (.slice A l.length c)
    have p1:=own_far (i:=0) hR.prts hR.res (by decide) (.slice A l.length c)
    have i2:=own_far (i:=1) i1 hB0 (by decide) (.slice B l.length d)
    have p2:=own_far (i:=1) p1 hB0 (by decide) (.slice B l.length d)
    have hmem:=path_mem HPT.out
    have hn64:=HV.out.num.1.2
    refine bodyPost_ret (v:=.tuple #[.agg #[.slice A l.length c,.slice B l.length d],.int .i64 0]) ?_ rfl (RdN.some (rd_iff.2 ⟨HPT.out,hln⟩) rfl (Pack.own_nts i2 (fun x hx=>?_) (by omega)) (own_prt p2).1 ⟨Pack.row_cap i2,row_cap3 p2⟩ ⟨own_new i2,own_new p2⟩ ?_)
    · simp[results,Tryz.results57,go_sem,r0,r1]
    · obtain⟨p,hp,rfl⟩:=List.mem_map.1 hx
      have:=(hmem p hp).1
      omega
    · exact (hR.below.setCell (p:=⟨w.heap.size,0,none⟩) (Nat.le_refl _) _).setCell (p:=⟨w.heap.size,1,none⟩) (Nat.le_refl _) _
  · have hsb:(sv != -1)=true:=by simp[hs]
    by_cases hlen:l.length=n
    · have HN:=hid (rd_full HPT.out hs hlen)
      have hR:=HRT.out
      have HBE:=hid hR.below
      clear hR
      go_wp2
      refine bodyPost_ret (v:=.tuple #[.agg #[.slice none 0 0,.slice none 0 0],.int .i64 2]) ?_ rfl (RdN.none HN.out rfl ?_)
      · simp[results,Tryz.results57,go_sem,r0,r1]
      · exact (HBE.out.setCell (p:=⟨w.heap.size,0,none⟩) (Nat.le_refl _) _).setCell (p:=⟨w.heap.size,1,none⟩) (Nat.le_refl _) _
    · have hls:((l.length:Int) == (n:Int))=false:=beq_eq_false_iff_ne.2 (by omega)
      by_cases hin:0≤sv∧sv < (n:Int)
      · obtain⟨i,rfl⟩:=Int.eq_ofNat_of_zero_le hin.1
        have hil:i < n:=by omega
        have hsl:=fun w' (hb:Below w.heap.size w w')=>Vol.slot_yes (HV.out.keep hb) i hil
        have HFW:=hid (show fw W (16+m * 8) i=Slo.dec (W[16+m * 8+i]?.getD 0) from rfl)
        generalize Slo.dec (W[16+m * 8+i]?.getD 0)=dc at *
        cases dc with
        | none=>
          have HN:=hid (rd_stop (n:=n) HPT.out hs (pat_none HFW.out))
          simp only[Slo.gv,Slo.ev] at hsl
          have HS:=hid hsl
          clear hsl
          go_wp2_with fail
          refine (HS.out _ HRT.out.below).mono ?_
          rintro r w2 ⟨rfl,hb2⟩
          have HRT2:=hid ((HRT.out.keep hb2).keep ((Below.refl w2.heap.size w2).alloc (Nat.le_refl _) (.cells #[.int .i64 0,.int .i64 0,.int .i64 0] 170)))
          have HP2:=hid (hb_new w2 #[.int .i64 0,.int .i64 0,.int .i64 0] 170)
          have r02:=HRT2.out.res.cell 0
          have r12:=HRT2.out.res.cell 1
          have rl2:=HRT2.out.res.lt
          have rf02:=HRT2.out.res.frozen 0
          have rf12:=HRT2.out.res.frozen 1
          have HBE:=hid HRT2.out.below
          clear hb2 HS r0 r1 rl rf0 rf1 b0 b1 bl bf0 bf1
          go_wp2
          generalize w2.alloc (.cells #[.int .i64 0,.int .i64 0,.int .i64 0] 170)=w3 at *
          refine bodyPost_ret (v:=.tuple #[.agg #[.slice none 0 0,.slice none 0 0],.int .i64 2]) ?_ rfl (RdN.none HN.out rfl ?_)
          · simp[results,Tryz.results57,go_sem,r02,r12]
          · exact (HBE.out.setCell (p:=⟨w.heap.size,0,none⟩) (Nat.le_refl _) _).setCell (p:=⟨w.heap.size,1,none⟩) (Nat.le_refl _) _
        | some t=>
          obtain⟨x,y,q⟩:=t
          simp only[Slo.gv,Slo.ev] at hsl
          have HS:=hid hsl
          have hmy:=Slo.may_lt (Slo.dec_some HFW.out).1
          have HWI:=hid (fun w=>within_any w n (x:Int) (y:Int) (by have:=HV.out.num.1.2;omega) (by omega))
          have HRO:=hid (fun w=>runOf_any w (x:Int) (y:Int) (Slo.nx q))
          have HWN:=hid (show win n (x:Int) (y:Int)=decide (x+y≤n) from decide_eq_decide.2 (by omega))
          obtain⟨z,hz⟩:∃ z,z=Slo.nx q:=⟨_,rfl⟩
          have HZ:=hid hz
          rw[← hz] at HS HRO
          clear hsl hz
          by_cases hxy:x+y≤n
          · have HPN:=hid (path_snoc HPT.out hs (pat_yes (n:=n) HFW.out hil hxy))
            rw[HWN.out,decide_eq_true hxy] at HWI
            clear HWN
            obtain⟨j1,hj1,hj2,hj3,hj4⟩:=info_parts Pack.int_info
            obtain⟨k1,hk1,hk2,hk3,hk4⟩:=info_parts part_info
            have hn64:=HV.out.num.1.2
            go_wp2_with fail
            refine (HS.out _ HRT.out.below).mono ?_
            rintro r w2 ⟨rfl,hb2⟩
            have HRT2:=hid ((HRT.out.keep hb2).keep ((Below.refl w2.heap.size w2).alloc (Nat.le_refl _) (.cells #[.int .i64 (x:Int),.int .i64 (y:Int),.int .i64 z] 170)))
            have HP2:=hid (hb_new w2 #[.int .i64 (x:Int),.int .i64 (y:Int),.int .i64 z] 170)
            have HPR:=hid (show w.heap.size≤w2.heap.size from Nat.le_trans HRT.out.below.size hb2.size)
            have HPB:=hid (show (Value.slice B l.length d).ownBlock≠some w2.heap.size from fun hg=>by have:=(World.ownsRow.lt HRT.out.prts _ hg).2;have:=hb2.size;omega)
            clear hb2 HS r0 r1 rl rf0 rf1 b0 b1 bl bf0 bf1
            go_wp2_with fail
            generalize hw3:w2.alloc (.cells #[.int .i64 (x:Int),.int .i64 (y:Int),.int .i64 z] 170)=w3 at *
            clear hw3
            generalize w2.heap.size=pb at *
            refine (HRO.out _).mono ?_
            rintro r w4 ⟨rfl,hb4⟩
            have HRT4:=hid (HRT2.out.keep hb4)
            have HP4:=hid (HP2.out.keep hb4)
            clear hb4 HRT2 HP2
            go_wp2_with fail
            refine (HWI.out _).mono ?_
            rintro r w5 ⟨rfl,hb5⟩
            have HRT5:=hid (HRT4.out.keep hb5)
            have HP5:=hid (HP4.out.keep hb5)
            clear hb5 HRT4 HP4
            have b05:=HRT5.out.box.cell 0
            have b15:=HRT5.out.box.cell 1
            have bl5:=HRT5.out.box.lt
            have bs5:=HRT5.out.below.size
            have HI5:=hid (HRT5.out.ints.alloc (.cells #[.int .i64 (i:Int)] 3))
            go_wp2_with (first
            | (at_builtin
               refine wpList_append_own_at _ rfl (.tmp 40) (.tmp 42) 87 rfl w.heap.size 3 j1 (.int .i64 0) 1 8 Tryz.underlying87 hj1 hj2 hj3 hj4 rfl (by decide) (.slice A l.length c) l.length (Pack.i64s (slots l)) rfl HI5.out ⟨w5.heap.size,0,none⟩ 1 1 [.int .i64 (i:Int)] rfl rfl (cell_one_new _ _ _) (by simp[Value.oneCell']) (by unfold maxLen;omega) (by omega) (by simp;omega) ?_
               intro v6 w6 hown6 hgr6 _ hat6
               obtain⟨G6,c6,rfl⟩:=Pack.row_slice hown6
               have hal:=(Below.refl w5.heap.size w5).alloc (Nat.le_refl _) (.cells #[.int .i64 (i:Int)] 3)
               have hr6:=hb_grown (HRT5.out.res.keep hal) hgr6 (hb_apart HRT5.out.res HRT5.out.ints (by decide))
               have hb6:=hb_grown (HRT5.out.box.keep hal) hgr6 (hb_apart HRT5.out.box HRT5.out.ints (by decide))
               have hp6:=hb_grown (HP5.out.keep hal) hgr6 (hb_apart HP5.out HRT5.out.ints (by decide))
               have hq6:=(HRT5.out.prts.alloc (.cells #[.int .i64 (i:Int)] 3)).kept hgr6 (Pack.rows_apart HRT5.out.prts HRT5.out.ints (by decide))
               have hbl6:=(HRT5.out.below.alloc HRT5.out.below.size (.cells #[.int .i64 (i:Int)] 3)).grown hgr6 (by simp;omega) (fun k hk=>row_base_lt3 HRT5.out.ints hk)
               have hcp:¬ C=pb:=Pm.blk_ne hb6 hp6 (by decide)
               have hcr:¬ C=w.heap.size:=by have:=HCS.out;omega
               have HR7:=hid (hr6.far (p:=⟨C,0,none⟩) (fun e=>hcr e.symm) (.slice G6 (l.length+1) c6))
               have HB7:=hid (hb6.set 0 (.slice G6 (l.length+1) c6))
               have HP7:=hid (hp6.far (p:=⟨C,0,none⟩) (fun e=>hcp e.symm) (.slice G6 (l.length+1) c6))
               have HI7:=hid (own_far (i:=0) hown6 hb6 (by decide) (.slice G6 (l.length+1) c6))
               have HQ7:=hid (own_far (i:=0) hq6 hb6 (by decide) (.slice G6 (l.length+1) c6))
               have HBL7:=hid (hbl6.setCell (p:=⟨C,0,none⟩) (by show w.heap.size≤C;have:=HCS.out;omega) (.slice G6 (l.length+1) c6))
               have b06:=hb6.cell 0
               have b16:=hb6.cell 1
               have f06:=hb6.frozen 0
               have bl6:=hb6.lt
               have q06:=hp6.cell 0
               have q16:=hp6.cell 1
               have q26:=hp6.cell 2
               have hz7:(w6.setCell ⟨C,0,none⟩ (.slice G6 (l.length+1) c6)).heap.size=w6.heap.size:=by simp[World.setCell]
               have hn7:=cells_three_new (w6.setCell ⟨C,0,none⟩ (.slice G6 (l.length+1) c6)) (.int .i64 (x:Int)) (.int .i64 (y:Int)) (.int .i64 z) 170
               rw[hz7] at hn7
               have HN7:=hid hn7
               have HQ8:=hid (HQ7.out.alloc (.cells #[.int .i64 (x:Int),.int .i64 (y:Int),.int .i64 z] 170))
               have bs6:w.heap.size≤w6.heap.size:=by have:=HBL7.out.size;omega
               clear hown6 hgr6 hat6 hal hr6 hb6 hp6 hq6 hbl6 hn7 hz7)
            | (at_builtin
               refine wpList_append_own_at _ rfl (.tmp 46) (.tmp 48) 88 rfl w.heap.size 170 k1 (.agg #[.int .i64 0,.int .i64 0,.int .i64 0]) 3 24 Tryz.underlying88 hk1 hk2 hk3 hk4 rfl (by decide) (.slice B l.length d) l.length (pcells l) rfl HQ8.out ⟨w6.heap.size,0,none⟩ 1 1 [.int .i64 (x:Int),.int .i64 (y:Int),.int .i64 z] rfl rfl HN7.out (by simp[Value.oneCell']) (by unfold maxLen;omega) (by omega) (by simp[World.setCell];omega) ?_
               intro v8 w8 hown8 hgr8 _ hat8
               obtain⟨G8,d8,rfl⟩:=row_slice3 hown8
               have hal:=(Below.refl (w6.setCell ⟨C,0,none⟩ (.slice G6 (l.length+1) c6)).heap.size (w6.setCell ⟨C,0,none⟩ (.slice G6 (l.length+1) c6))).alloc (Nat.le_refl _) (.cells #[.int .i64 (x:Int),.int .i64 (y:Int),.int .i64 z] 170)
               have hr8:=hb_grown (HR7.out.keep hal) hgr8 (hb_apart3 HR7.out HQ7.out (by decide))
               have hb8:=hb_grown (HB7.out.keep hal) hgr8 (hb_apart3 HB7.out HQ7.out (by decide))
               have hp8:=hb_grown (HP7.out.keep hal) hgr8 HPB.out
               have hi8:=(HI7.out.alloc (.cells #[.int .i64 (x:Int),.int .i64 (y:Int),.int .i64 z] 170)).kept hgr8 (Pack.rows_apart HI7.out HQ7.out (by decide))
               have hbl8:=(HBL7.out.alloc HBL7.out.size (.cells #[.int .i64 (x:Int),.int .i64 (y:Int),.int .i64 z] 170)).grown hgr8 (by simp[World.setCell];omega) (fun k hk=>row_base_lt3 HQ7.out hk)
               have HR9:=hid (hr8.far (p:=⟨C,1,none⟩) (fun e=>hcr e.symm) (.slice G8 (l.length+1) d8))
               have HB9:=hid (hb8.set 1 (.slice G8 (l.length+1) d8))
               have HI9:=hid (own_far (i:=1) hi8 hb8 (by decide) (.slice G8 (l.length+1) d8))
               have HQ9:=hid (own_far (i:=1) hown8 hb8 (by decide) (.slice G8 (l.length+1) d8))
               have HBL9:=hid (hbl8.setCell (p:=⟨C,1,none⟩) (by show w.heap.size≤C;have:=HCS.out;omega) (.slice G8 (l.length+1) d8))
               have b18:=hb8.cell 1
               have f18:=hb8.frozen 1
               have bl8:=hb8.lt
               have q08:=hp8.cell 0
               have q18:=hp8.cell 1
               have q28:=hp8.cell 2
               have pl8:=hp8.lt
               clear hown8 hgr8 hat8 hal hr8 hb8 hp8 hi8 hbl8))
            have e:(l++[(⟨i,x,y,q⟩:Pt)]).length=l.length+1:=by simp
            refine⟨⟨z,l++[⟨i,x,y,q⟩],G6,c6,G8,d8,rfl,by rw[HZ.out];exact HPN.out,by rw[e];omega,⟨HR9.out,by rw[e];exact HB9.out,?_,?_,HBL9.out⟩⟩,?_⟩
            · rw[e,slots_snoc]
              unfold Pack.i64s
              rw[List.map_append]
              exact HI9.out
            · rw[e,pcells_snoc]
              simp only
              rw[← HZ.out]
              exact HQ9.out
            · rw[HB9.out.cell 0,HRT.out.box.cell 0]
              simp[lenOf]
              omega
          · have HN:=hid (rd_stop (n:=n) HPT.out hs (pat_far HFW.out (by omega)))
            rw[HWN.out,decide_eq_false hxy] at HWI
            clear HWN
            go_wp2_with fail
            refine (HS.out _ HRT.out.below).mono ?_
            rintro r w2 ⟨rfl,hb2⟩
            have HRT2:=hid ((HRT.out.keep hb2).keep ((Below.refl w2.heap.size w2).alloc (Nat.le_refl _) (.cells #[.int .i64 (x:Int),.int .i64 (y:Int),.int .i64 z] 170)))
            have HP2:=hid (hb_new w2 #[.int .i64 (x:Int),.int .i64 (y:Int),.int .i64 z] 170)
            have r02:=HRT2.out.res.cell 0
            have r12:=HRT2.out.res.cell 1
            have rl2:=HRT2.out.res.lt
            have rf02:=HRT2.out.res.frozen 0
            have rf12:=HRT2.out.res.frozen 1
            have HBE:=hid HRT2.out.below
            clear hb2 HS r0 r1 rl rf0 rf1 b0 b1 bl bf0 bf1
            go_wp2_with fail
            generalize w2.alloc (.cells #[.int .i64 (x:Int),.int .i64 (y:Int),.int .i64 z] 170)=w3 at *
            refine (HRO.out _).mono ?_
            rintro r w4 ⟨rfl,hb4⟩
            have HRT4:=hid (HRT2.out.keep hb4)
            clear hb4 r02 r12 rl2 rf02 rf12 HRT2 HP2 HBE
            go_wp2_with fail
            refine (HWI.out _).mono ?_
            rintro r w5 ⟨rfl,hb5⟩
            have HRT5:=hid (HRT4.out.keep hb5)
            have r05:=HRT5.out.res.cell 0
            have r15:=HRT5.out.res.cell 1
            have rl5:=HRT5.out.res.lt
            have rf05:=HRT5.out.res.frozen 0
            have rf15:=HRT5.out.res.frozen 1
            clear hb5 HRT4
            go_wp2
            refine bodyPost_ret (v:=.tuple #[.agg #[.slice none 0 0,.slice none 0 0],.int .i64 2]) ?_ rfl (RdN.none HN.out rfl ?_)
            · simp[results,Tryz.results57,go_sem,r05,r15]
            · exact (HRT5.out.below.setCell (p:=⟨w.heap.size,0,none⟩) (Nat.le_refl _) _).setCell (p:=⟨w.heap.size,1,none⟩) (Nat.le_refl _) _
      · have HN:=hid (rd_stop (n:=n) HPT.out hs (pat_out (by omega)))
        have HS:=hid (fun w' (hb:Below w.heap.size w w')=>Vol.slot_no (HV.out.keep hb) sv (by omega))
        go_wp2_with fail
        refine (HS.out _ HRT.out.below).mono ?_
        rintro r w2 ⟨rfl,hb2⟩
        have HRT2:=hid ((HRT.out.keep hb2).keep ((Below.refl w2.heap.size w2).alloc (Nat.le_refl _) (.cells #[.int .i64 0,.int .i64 0,.int .i64 0] 170)))
        have HP2:=hid (hb_new w2 #[.int .i64 0,.int .i64 0,.int .i64 0] 170)
        have r02:=HRT2.out.res.cell 0
        have r12:=HRT2.out.res.cell 1
        have rl2:=HRT2.out.res.lt
        have rf02:=HRT2.out.res.frozen 0
        have rf12:=HRT2.out.res.frozen 1
        have HBE:=hid HRT2.out.below
        clear hb2 HS r0 r1 rl rf0 rf1 b0 b1 bl bf0 bf1
        go_wp2
        generalize w2.alloc (.cells #[.int .i64 0,.int .i64 0,.int .i64 0] 170)=w3 at *
        refine bodyPost_ret (v:=.tuple #[.agg #[.slice none 0 0,.slice none 0 0],.int .i64 2]) ?_ rfl (RdN.none HN.out rfl ?_)
        · simp[results,Tryz.results57,go_sem,r02,r12]
        · exact (HBE.out.setCell (p:=⟨w.heap.size,0,none⟩) (Nat.le_refl _) _).setCell (p:=⟨w.heap.size,1,none⟩) (Nat.le_refl _) _
theorem read_any (h:Vo Q w vb a n m s W st sn) (hd:Int) :
 Calls Tryz.prog 57 #[.pointer (some ⟨vb,0,none⟩),.int .i64 hd] w (RdTo n (fw W (16+m * 8)) hd w):=by
 refine (read_new h hd).mono ?_
 intro r w' k
 unfold RdN at k
 unfold RdTo
 cases e:rd (pat (fw W (16+m * 8)) n) n hd with
 | none=>
   rw[e] at k
   exact k
 | some l=>
   rw[e] at k
   obtain⟨A,c,B,d,h1,h2,h3,h4,_,h6⟩:=k
   exact⟨A,c,B,d,h1,h2,h3,h4.1,h4.2,h6⟩
end
end Chn
end Go.Proofs.YtdafimdfbnphaaaGreatDoor
/- Texts. -/
namespace Go.Proofs.YtdafimdfbnphaaaGreatDoor
open Lib (hid)
open Go.RowKit Go.MapKept
namespace Chn
open Vol (Hb hb_new hb_grown hb_apart)
theorem blk_snoc {l:List Pt} {m:Nat} (h:m < l.length):blk (l.take (m+1))=blk (l.take m)++(List.range l[m].c).map (l[m].x+·):=by
 unfold blk
 rw[List.take_succ_eq_append_getElem h,List.flatMap_append]
 simp
def Rw (cs:Array Value) (l:List Pt) (m:Nat):Prop:=∀ j (h:j < l.length),j < m→cs[j * 2]? = some (.int .i64 (l[j].x:Int))∧cs[j * 2+1]? = some (.int .i64 (l[j].c:Int))
theorem Rw.next {cs:Array Value} {l:List Pt} {m:Nat} (h:Rw cs l m) (hm:m < l.length) (hs:cs.size=l.length * 2):Rw ((cs.setIfInBounds (m * 2) (.int .i64 (l[m].x:Int))).setIfInBounds (m * 2+1) (.int .i64 (l[m].c:Int))) l (m+1):=by
 intro j hj hjm
 by_cases e:j=m
 · subst e
   refine⟨?_,?_⟩
   · rw[Array.getElem?_setIfInBounds_ne (by omega),Array.getElem?_setIfInBounds_self_of_lt (by omega)]
   · rw[Array.getElem?_setIfInBounds_self_of_lt (by simp;omega)]
 · obtain⟨h0,h1⟩:=h j hj (by omega)
   refine⟨?_,?_⟩
   · rw[Array.getElem?_setIfInBounds_ne (by omega),Array.getElem?_setIfInBounds_ne (by omega)];exact h0
   · rw[Array.getElem?_setIfInBounds_ne (by omega),Array.getElem?_setIfInBounds_ne (by omega)];exact h1
set_option maxHeartbeats 1000000 in
set_option maxRecDepth 100000 in
theorem blocks_new (w:World) (A B:Option Addr) (n' c d:Nat) (l:List Pt) (h:Prt w B l) (hm:Mays l) (hl:l.length≤65534) :
 Calls Tryz.prog 42 #[.agg #[.slice A n' c,.slice B l.length d]] w fun r w'=>∃ G gc,r = .returned (.slice G (tot l) gc)∧Pack.Nts w' G ((blk l).map Int.ofNat)∧New w.heap.size G∧Below w.heap.size w w':=by
 have H:=hid h
 have HC:=hid (fun w' (hb:Below w.heap.size w w')=>count_any w' A B n' c d l (h.keep hb) hm hl)
 have HM:=hid hm
 clear h hm
 go_enter Tryz.func42,Tryz.ntmps42
 go_wp2_with fail
 refine (HC.out _ ((Below.refl w.heap.size w).alloc (Nat.le_refl _) _)).mono ?_
 rintro r w1 ⟨rfl,hb1⟩
 obtain⟨i0,hi0,hz0,hz1,hz2⟩:=info_parts Pack.int_info
 have htl:=tot_le HM.out l.length
 rw[List.take_length] at htl
 have hbw:=((Below.refl w.heap.size w).alloc (Nat.le_refl _) (.cells #[.slice A n' c,.slice B l.length d] 90)).trans (hb1.mono (by simp))
 obtain⟨w2,hmk,hown,hgr⟩:=run_make_own (P:=Tryz.prog) w1 w.heap.size 87 3 i0 (.int .i64 0) 1 Tryz.underlying87 hi0 hz0 hz1 .i64 .i64 (tot l) (by rw[hz2];omega) (by unfold maxLen;omega) hbw.size
 have HB2:=hid (hbw.grown hgr hbw.size (fun k hk=>by cases hk))
 have HO:=hid hown
 have HTL:=hid htl
 have x1:=(hb_grown ((hb_new w #[.slice A n' c,.slice B l.length d] 90).keep hb1) hgr (fun e=>by cases e)).cell 1
 clear hbw hown hgr hb1 htl
 generalize w1.heap.size=g0 at *
 go_wp2_with fail
 clear hmk x1 HC
 go_loopw [3,13] (fun v i wr=>∃ (m:Nat) (G:Option Addr) (gc:Nat),m≤l.length∧i = .int .i64 (m:Int)∧v = .slice G (tot (l.take m)) gc∧wr.ownsRow w.heap.size 3 1 (.slice G (tot (l.take m)) gc) (tot (l.take m)) (Pack.i64s ((blk (l.take m)).map Int.ofNat))∧Below w.heap.size w wr) (fun _ i _=>l.length - (intOf i).toNat)
 case atStart=>exact⟨0,some ⟨g0,0,none⟩,tot l,Nat.zero_le _,rfl,rfl,HO.out,HB2.out⟩
 case round=>
  obtain⟨m,G,gc,hm,rfl,rfl,hrow,hb⟩:=hrel
  clear HO HB2
  by_cases hlt:m < l.length
  · obtain⟨b,o,rfl,hbb,hc0,hc1,hc2⟩:=H.out.at' m hlt
    have hc0:=(hb.cell (p:=⟨b,o+m * 3,none⟩) hbb).trans hc0
    have hc1:=(hb.cell (p:=⟨b,o+m * 3+1,none⟩) hbb).trans hc1
    have hc2:=(hb.cell (p:=⟨b,o+m * 3+2,none⟩) hbb).trans hc2
    have hbb:=Nat.lt_of_lt_of_le hbb hb.size
    have HBO:=hid (fun w=>blocksOf_any w l[m].x l[m].c l[m].q _ rfl (HM.out _ (List.getElem_mem hlt)))
    have HT:=hid (tot_snoc hlt)
    have HK:=hid (blk_snoc hlt)
    have htk:=tot_le HM.out m
    have htk2:=tot_le HM.out (m+1)
    rw[HT.out] at htk2
    have hcl:=Slo.may_lt (HM.out _ (List.getElem_mem hlt))
    generalize l[m]=p at *
    obtain⟨p0,x,y,q⟩:=p
    simp only at hc0 hc1 hc2 HBO HT HK hcl htk2
    generalize Slo.nx q=z at *
    obtain⟨T,hT⟩:∃ T,T=tot (l.take m):=⟨_,rfl⟩
    obtain⟨K,hK⟩:∃ K,K=blk (l.take m):=⟨_,rfl⟩
    rw[← hT] at hrow HT htk htk2 ⊢
    rw[← hK] at hrow HK
    clear hT hK
    have hal:=(Below.refl wr.heap.size wr).alloc (Nat.le_refl _) (.cells #[.int .i64 (x:Int),.int .i64 (y:Int),.int .i64 z] 170)
    have HB:=hid (hb.trans (hal.mono hb.size))
    have HX:=hid (hb_new wr #[.int .i64 (x:Int),.int .i64 (y:Int),.int .i64 z] 170)
    have HO:=hid (own_keep3 hrow hal)
    clear hal hb hrow
    go_wp2_with fail
    generalize hw3:wr.alloc (.cells #[.int .i64 (x:Int),.int .i64 (y:Int),.int .i64 z] 170)=w3 at *
    clear hw3
    generalize wr.heap.size=pb at *
    refine (HBO.out _).mono ?_
    rintro r w4 ⟨rfl,hb4⟩
    have HB4:=hid (HB.out.trans (hb4.mono HB.out.size))
    have HX4:=hid (HX.out.keep hb4)
    have HO4:=hid (own_keep3 HO.out hb4)
    clear hb4 HB HX HO HBO hc0 hc1 hc2 hbb
    clear wr
    go_wp2
    go_loopw [3,19] (fun v i wr=>∃ (t:Nat) (G:Option Addr) (gc:Nat),t≤y∧i = .int .i64 (t:Int)∧v = .slice G (T+t) gc∧wr.ownsRow w.heap.size 3 1 (.slice G (T+t) gc) (T+t) (Pack.i64s ((K++(List.range t).map (x+·)).map Int.ofNat))∧Hb wr pb #[.int .i64 (x:Int),.int .i64 (y:Int),.int .i64 z] 170∧Below w.heap.size w wr) (fun _ i _=>y - (intOf i).toNat)
    case atStart=>exact⟨0,G,gc,Nat.zero_le _,rfl,rfl,by simpa using HO4.out,HX4.out,HB4.out⟩
    case round=>
     obtain⟨t,G,gc,ht,rfl,rfl,hrow,hx,hb⟩:=hrel
     clear HO4 HX4 HB4
     by_cases hty:t < y
     · have x0:=hx.cell 0
       have xl:=hx.lt
       have bs:=hb.size
       have HX:=hid hx
       have HB:=hid hb
       have HR:=hid hrow
       have HO:=hid (hrow.alloc (.cells #[.int .i64 ((x:Int)+(t:Int))] 3))
       clear hx hb hrow
       go_wp2_with (at_builtin
                    refine wpList_append_own_at _ rfl (.tmp 22) (.tmp 27) 87 rfl w.heap.size 3 i0 (.int .i64 0) 1 8 Tryz.underlying87 hi0 hz0 hz1 hz2 rfl (by decide) (.slice G (T+t) gc) (T+t) (Pack.i64s ((K++(List.range t).map (x+·)).map Int.ofNat)) rfl HO.out ⟨wr.heap.size,0,none⟩ 1 1 [.int .i64 ((x:Int)+(t:Int))] rfl rfl (cell_one_new _ _ _) (by simp[Value.oneCell']) (by unfold maxLen;omega) (by omega) (by simp;omega) ?_
                    intro v6 w6 hown6 hgr6 _ hat6
                    obtain⟨G6,c6,rfl⟩:=Pack.row_slice hown6
                    have hal:=(Below.refl wr.heap.size wr).alloc (Nat.le_refl _) (.cells #[.int .i64 ((x:Int)+(t:Int))] 3)
                    have HX6:=hid (hb_grown (HX.out.keep hal) hgr6 (hb_apart HX.out HR.out (by decide)))
                    have HB6:=hid ((HB.out.trans (hal.mono HB.out.size)).grown hgr6 (by simp;omega) (fun k hk=>row_base_lt3 HR.out hk))
                    have HO6:=hid hown6
                    clear hown6 hgr6 hat6 hal)
       go_roundw
       case rel=>
        refine⟨t+1,G6,c6,by omega,by go_num,by rw[← Nat.add_assoc],?_,HX6.out,HB6.out⟩
        have e:(K++(List.range (t+1)).map (x+·)).map Int.ofNat=(K++(List.range t).map (x+·)).map Int.ofNat++[(x:Int)+(t:Int)]:=by simp[List.range_succ]
        have h6:=HO6.out
        rw[e]
        unfold Pack.i64s at h6 ⊢
        rw[List.map_append,← Nat.add_assoc]
        exact h6
       case measure=>simp[intOf];omega
     · obtain rfl:t=y:=by omega
       have HX:=hid hx
       have HB:=hid hb
       have HR:=hid hrow
       clear hx hb hrow
       go_wp2
       refine⟨⟨m+1,G,gc,by omega,by go_num,by rw[HT.out],?_,HB.out⟩,by simp[intOf];omega⟩
       rw[HT.out,HK.out]
       exact HR.out
  · obtain rfl:m=l.length:=by omega
    rw[List.take_length] at hrow ⊢
    have hcap:=row_cap3 hrow
    have htl:=HTL.out
    go_wp2
    go_ret
    refine⟨G,gc,rfl,Pack.own_nts hrow (fun x hx=>?_) (by omega),own_new hrow,hb⟩
    obtain⟨k,hk,rfl⟩:=List.mem_map.1 hx
    obtain⟨p,hp,hk⟩:=List.mem_flatMap.1 hk
    obtain⟨j,hj,rfl⟩:=List.mem_map.1 hk
    have:=Slo.may_lt (HM.out p hp)
    have:=List.mem_range.1 hj
    simp only[Int.ofNat_eq_natCast]
    omega
theorem blocks_any (w:World) (A B:Option Addr) (n' c d:Nat) (l:List Pt) (h:Prt w B l) (hm:Mays l) (hl:l.length≤65534) :
 Calls Tryz.prog 42 #[.agg #[.slice A n' c,.slice B l.length d]] w fun r w'=>∃ G gc,r = .returned (.slice G (tot l) gc)∧Pack.Nts w' G ((blk l).map Int.ofNat)∧Below w.heap.size w w':=by
 refine (blocks_new w A B n' c d l h hm hl).mono ?_
 rintro r w' ⟨G,gc,h1,h2,_,h4⟩
 exact⟨G,gc,h1,h2,h4⟩
end Chn
end Go.Proofs.YtdafimdfbnphaaaGreatDoor
/- Texts. -/
namespace Go.Proofs.YtdafimdfbnphaaaGreatDoor
open Go.RowKit Go.MapKept
namespace Clm
open Chn (Pt New Prt slots Mays tot blk blk_len)
open Vol (Vo Hb hb_new)
open Pack (Nts)
structure Pc where
 lo:Nat
 nb:Nat
 cb:Nat
 bq:Nat
 bp:Nat
 sq:Nat
 sp:Nat
 pb:Nat
 c:Nat
 bC:Nat
 sC:Nat
structure Ds (P:Pc):Prop where
 le:P.lo≤P.nb∧P.lo≤P.cb∧P.lo≤P.bq∧P.lo≤P.bp∧P.lo≤P.sq∧P.lo≤P.sp∧P.lo≤P.pb∧P.lo≤P.c
 lt:P.nb < P.c∧P.cb < P.c∧P.bq < P.c∧P.bp < P.c∧P.sq < P.c∧P.sp < P.c∧P.pb < P.c
 ne:P.nb≠P.cb∧P.nb≠P.bq∧P.nb≠P.bp∧P.nb≠P.sq∧P.nb≠P.sp∧P.nb≠P.pb∧P.cb≠P.bq∧P.cb≠P.bp∧P.cb≠P.sq∧P.cb≠P.sp∧P.cb≠P.pb∧P.bq≠P.bp∧P.bq≠P.sq∧P.bq≠P.sp∧P.bq≠P.pb∧P.bp≠P.sq∧P.bp≠P.sp∧P.bp≠P.pb∧P.sq≠P.sp∧P.sq≠P.pb∧P.sp≠P.pb
structure Cr (w:World) (P:Pc) (n m:Nat) (N C X:Array Value) (fb fs:Nat→Bool):Prop where
 claim:Hb w P.c #[.slice (some ⟨P.nb,0,none⟩) m m,.slice (some ⟨P.cb,0,none⟩) m m,.pointer (some ⟨P.bp,0,none⟩),.pointer (some ⟨P.sp,0,none⟩),.slice (some ⟨P.pb,0,none⟩) n n] 129
 nodes:Hb w P.nb N 84
 chains:Hb w P.cb C 90
 places:Hb w P.pb X 255
 sn:N.size=m * 3
 sc:C.size=m * 2
 sx:X.size=n * 2
 bm:Bm.Mp w P.bp P.bq ((n+63) / 64) P.bC n fb
 sm:Bm.Mp w P.sp P.sq ((n+63) / 64) P.sC n fs
 ord:Ds P
 max:m≤65534
section
variable {w w' : World} {P : Pc} {n m : Nat} {N C X : Array Value} {fb fs : Nat → Bool}
theorem Cr.lt (h:Cr w P n m N C X fb fs):P.c < w.heap.size:=h.claim.lt
theorem Cr.keep (h:Cr w P n m N C X fb fs) (hb:Below w.heap.size w w'):Cr w' P n m N C X fb fs:=
 ⟨h.claim.keep hb,h.nodes.keep hb,h.chains.keep hb,h.places.keep hb,h.sn,h.sc,h.sx,h.bm.keep hb,h.sm.keep hb,h.ord,h.max⟩
theorem hb_chg {b:Nat} {cs:Array Value} {t:TypeId} {q:Nat} (h:Hb w b cs t) (hc:Bm.Chg q w w') (hq:b≠q):Hb w' b cs t:=(hc.block b h.lt hq).trans h
theorem Cr.put_b {g:Nat→Bool} (h:Cr w P n m N C X fb fs) (hm:Bm.Mp w' P.bp P.bq ((n+63) / 64) P.bC n g) (hc:Bm.Chg P.bq w w'):Cr w' P n m N C X g fs:=by
 have hl:=h.ord.lt
 obtain⟨a0,a1,a2,a3,a4,a5,a6,a7,a8,a9,a10,a11,a12,a13,a14,a15,a16,a17,a18,a19,a20⟩:=h.ord.ne
 exact⟨hb_chg h.claim hc (by first | assumption | exact Ne.symm (by assumption) | omega),hb_chg h.nodes hc (by first | assumption | exact Ne.symm (by assumption) | omega),hb_chg h.chains hc (by first | assumption | exact Ne.symm (by assumption) | omega),hb_chg h.places hc (by first | assumption | exact Ne.symm (by assumption) | omega),h.sn,h.sc,h.sx,hm,h.sm.chg hc (by first | assumption | exact Ne.symm (by assumption) | omega) (by first | assumption | exact Ne.symm (by assumption) | omega),h.ord,h.max⟩
theorem Cr.put_s {g:Nat→Bool} (h:Cr w P n m N C X fb fs) (hm:Bm.Mp w' P.sp P.sq ((n+63) / 64) P.sC n g) (hc:Bm.Chg P.sq w w'):Cr w' P n m N C X fb g:=by
 have hl:=h.ord.lt
 obtain⟨a0,a1,a2,a3,a4,a5,a6,a7,a8,a9,a10,a11,a12,a13,a14,a15,a16,a17,a18,a19,a20⟩:=h.ord.ne
 exact⟨hb_chg h.claim hc (by first | assumption | exact Ne.symm (by assumption) | omega),hb_chg h.nodes hc (by first | assumption | exact Ne.symm (by assumption) | omega),hb_chg h.chains hc (by first | assumption | exact Ne.symm (by assumption) | omega),hb_chg h.places hc (by first | assumption | exact Ne.symm (by assumption) | omega),h.sn,h.sc,h.sx,h.bm.chg hc (by first | assumption | exact Ne.symm (by assumption) | omega) (by first | assumption | exact Ne.symm (by assumption) | omega),hm,h.ord,h.max⟩
theorem mp_far {p q K C n:Nat} {f:Nat→Bool} (h:Bm.Mp w p q K C n f) {a:Addr} (hp:p≠a.block) (hq:q≠a.block) (v:Value):Bm.Mp (w.setCell a v) p q K C n f:=
 h.chg ((Bm.Chg.refl a.block w).setCell rfl v) hp hq
theorem Cr.set_n (h:Cr w P n m N C X fb fs) (i:Nat) (v:Value):Cr (w.setCell ⟨P.nb,i,none⟩ v) P n m (N.setIfInBounds i v) C X fb fs:=by
 have hl:=h.ord.lt
 obtain⟨a0,a1,a2,a3,a4,a5,a6,a7,a8,a9,a10,a11,a12,a13,a14,a15,a16,a17,a18,a19,a20⟩:=h.ord.ne
 exact⟨h.claim.far (show P.c≠P.nb by first | assumption | exact Ne.symm (by assumption) | omega) v,h.nodes.set i v,h.chains.far (show P.cb≠P.nb by first | assumption | exact Ne.symm (by assumption) | omega) v,h.places.far (show P.pb≠P.nb by first | assumption | exact Ne.symm (by assumption) | omega) v,by simp[h.sn],h.sc,h.sx,
  mp_far h.bm (show P.bp≠P.nb by first | assumption | exact Ne.symm (by assumption) | omega) (show P.bq≠P.nb by first | assumption | exact Ne.symm (by assumption) | omega) v,mp_far h.sm (show P.sp≠P.nb by first | assumption | exact Ne.symm (by assumption) | omega) (show P.sq≠P.nb by first | assumption | exact Ne.symm (by assumption) | omega) v,h.ord,h.max⟩
theorem Cr.set_c (h:Cr w P n m N C X fb fs) (i:Nat) (v:Value):Cr (w.setCell ⟨P.cb,i,none⟩ v) P n m N (C.setIfInBounds i v) X fb fs:=by
 have hl:=h.ord.lt
 obtain⟨a0,a1,a2,a3,a4,a5,a6,a7,a8,a9,a10,a11,a12,a13,a14,a15,a16,a17,a18,a19,a20⟩:=h.ord.ne
 exact⟨h.claim.far (show P.c≠P.cb by first | assumption | exact Ne.symm (by assumption) | omega) v,h.nodes.far (show P.nb≠P.cb by first | assumption | exact Ne.symm (by assumption) | omega) v,h.chains.set i v,h.places.far (show P.pb≠P.cb by first | assumption | exact Ne.symm (by assumption) | omega) v,h.sn,by simp[h.sc],h.sx,
  mp_far h.bm (show P.bp≠P.cb by first | assumption | exact Ne.symm (by assumption) | omega) (show P.bq≠P.cb by first | assumption | exact Ne.symm (by assumption) | omega) v,mp_far h.sm (show P.sp≠P.cb by first | assumption | exact Ne.symm (by assumption) | omega) (show P.sq≠P.cb by first | assumption | exact Ne.symm (by assumption) | omega) v,h.ord,h.max⟩
theorem Cr.set_x (h:Cr w P n m N C X fb fs) (i:Nat) (v:Value):Cr (w.setCell ⟨P.pb,i,none⟩ v) P n m N C (X.setIfInBounds i v) fb fs:=by
 have hl:=h.ord.lt
 obtain⟨a0,a1,a2,a3,a4,a5,a6,a7,a8,a9,a10,a11,a12,a13,a14,a15,a16,a17,a18,a19,a20⟩:=h.ord.ne
 exact⟨h.claim.far (show P.c≠P.pb by first | assumption | exact Ne.symm (by assumption) | omega) v,h.nodes.far (show P.nb≠P.pb by first | assumption | exact Ne.symm (by assumption) | omega) v,h.chains.far (show P.cb≠P.pb by first | assumption | exact Ne.symm (by assumption) | omega) v,h.places.set i v,h.sn,h.sc,by simp[h.sx],
  mp_far h.bm (show P.bp≠P.pb by first | assumption | exact Ne.symm (by assumption) | omega) (show P.bq≠P.pb by first | assumption | exact Ne.symm (by assumption) | omega) v,mp_far h.sm (show P.sp≠P.pb by first | assumption | exact Ne.symm (by assumption) | omega) (show P.sq≠P.pb by first | assumption | exact Ne.symm (by assumption) | omega) v,h.ord,h.max⟩
end
structure Fr (B:Nat) (w w':World):Prop where
 size:w.heap.size≤w'.heap.size
 block:∀ k,B≤k→k < w.heap.size→w'.heap[k]? = w.heap[k]?
section
variable {B : Nat} {w w' w'' : World}
theorem Fr.refl (B:Nat) (w:World):Fr B w w:=⟨Nat.le_refl _,fun _ _ _=>rfl⟩
theorem Fr.trans (h:Fr B w w') (k:Fr B w' w''):Fr B w w'':=
 ⟨Nat.le_trans h.size k.size,fun b h1 h2=>(k.block b h1 (Nat.lt_of_lt_of_le h2 h.size)).trans (h.block b h1 h2)⟩
theorem fr_below (h:Below w.heap.size w w'):Fr B w w':=⟨h.size,fun b _ h2=>h.block b h2⟩
theorem fr_chg {q:Nat} (h:Bm.Chg q w w') (hq:q < B):Fr B w w':=⟨h.size,fun b h1 h2=>h.block b h2 (by omega)⟩
theorem Fr.set (h:Fr B w w') {a:Addr} (ha:a.block < B) (v:Value):Fr B w (w'.setCell a v):=
 h.trans (fr_chg ((Bm.Chg.refl a.block w').setCell rfl v) ha)
theorem nts_fr {A:Option Addr} {l:List Int} (h:Nts w A l) (hn:New B A) (hf:Fr B w w'):Nts w' A l:=
 ⟨h.i64,h.len,fun j hj=>by
   obtain⟨b,o,rfl,hb,hc⟩:=h.at' j hj
   exact⟨b,o,rfl,Nat.lt_of_lt_of_le hb hf.size,(World.cell?_of_block (w:=w) (a:=⟨b,o+j,none⟩) (hf.block b (hn _ rfl) hb)).trans hc⟩⟩
theorem prt_fr {A:Option Addr} {l:List Pt} (h:Prt w A l) (hn:New B A) (hf:Fr B w w'):Prt w' A l:=
 ⟨fun j hj=>by
   obtain⟨b,o,rfl,hb,hc,hd,he⟩:=h.at' j hj
   have k:=hf.block b (hn _ rfl) hb
   exact⟨b,o,rfl,Nat.lt_of_lt_of_le hb hf.size,(World.cell?_of_block (w:=w) (a:=⟨b,o+j * 3,none⟩) k).trans hc,(World.cell?_of_block (w:=w) (a:=⟨b,o+j * 3+1,none⟩) k).trans hd,(World.cell?_of_block (w:=w) (a:=⟨b,o+j * 3+2,none⟩) k).trans he⟩⟩
end
def Nod (N:Array Value) (L:List Cl):Prop:=∀ j (h:j < L.length),N[j * 3]? = some (.int .i64 (L[j].k:Int))∧N[j * 3+1]? = some (.int .i64 ((L[j].p:Int) - 1))∧N[j * 3+2]? = some (.int .i64 (L[j].z:Int))
def Chs (w:World) (B:Nat) (C:Array Value) (L:List Cl):Prop:=∀ j (h:j < L.length),∃ (A:Option Addr) (a:Nat) (D:Option Addr) (d:Nat),C[j * 2]? = some (.slice A L[j].l.length a)∧C[j * 2+1]? = some (.slice D L[j].l.length d) ∧
 Nts w A (slots L[j].l)∧Prt w D L[j].l∧(L[j].l.length≤a∧L[j].l.length≤d)∧(New B A∧New B D)
def Plc (X:Array Value) (L:List Cl):Prop:=∀ i k b,Own L i k b→X[b * 2]? = some (.int .i64 (i:Int))∧X[b * 2+1]? = some (.int .i64 (k:Int))
theorem Nod.nil (N:Array Value):Nod N []:=fun _ h=>absurd h (Nat.not_lt_zero _)
theorem Chs.nil (w:World) (B:Nat) (C:Array Value):Chs w B C []:=fun _ h=>absurd h (Nat.not_lt_zero _)
theorem Plc.nil (X:Array Value):Plc X []:=fun _ _ _ h=>absurd h.1 (Nat.not_lt_zero _)
theorem Nod.snoc {N:Array Value} {L:List Cl} {c:Cl} {m:Nat} (h:Nod N L) (hs:N.size=m * 3) (hm:L.length < m) :
 Nod (((N.setIfInBounds (L.length * 3) (.int .i64 (c.k:Int))).setIfInBounds (L.length * 3+1) (.int .i64 ((c.p:Int) - 1))).setIfInBounds (L.length * 3+2) (.int .i64 (c.z:Int))) (L++[c]):=by
 intro j hj
 by_cases e:j < L.length
 · obtain⟨h0,h1,h2⟩:=h j e
   rw[List.getElem_append_left e]
   refine⟨?_,?_,?_⟩<;>(repeat rw[Array.getElem?_setIfInBounds_ne (by omega)])<;>assumption
 · obtain rfl:j=L.length:=by simp at hj;omega
   rw[List.getElem_concat_length rfl]
   refine⟨?_,?_,?_⟩
   · rw[Array.getElem?_setIfInBounds_ne (by omega),Array.getElem?_setIfInBounds_ne (by omega),Array.getElem?_setIfInBounds_self_of_lt (by omega)]
   · rw[Array.getElem?_setIfInBounds_ne (by omega),Array.getElem?_setIfInBounds_self_of_lt (by simp;omega)]
   · rw[Array.getElem?_setIfInBounds_self_of_lt (by simp;omega)]
theorem Chs.fr {w w':World} {B:Nat} {C:Array Value} {L:List Cl} (h:Chs w B C L) (hf:Fr B w w'):Chs w' B C L:=fun j hj=>by
 obtain⟨A,a,D,d,h1,h2,h3,h4,h5,h6⟩:=h j hj
 exact⟨A,a,D,d,h1,h2,nts_fr h3 h6.1 hf,prt_fr h4 h6.2 hf,h5,h6⟩
theorem Chs.snoc {w:World} {B:Nat} {C:Array Value} {L:List Cl} {c:Cl} {m:Nat} {A D:Option Addr} {a d:Nat} (h:Chs w B C L) (hs:C.size=m * 2) (hm:L.length < m)
 (h1:Nts w A (slots c.l)) (h2:Prt w D c.l) (h3:c.l.length≤a∧c.l.length≤d) (h4:New B A∧New B D) :
 Chs w B ((C.setIfInBounds (L.length * 2) (.slice A c.l.length a)).setIfInBounds (L.length * 2+1) (.slice D c.l.length d)) (L++[c]):=by
 intro j hj
 by_cases e:j < L.length
 · obtain⟨A',a',D',d',k1,k2,k⟩:=h j e
   rw[List.getElem_append_left e]
   refine⟨A',a',D',d',?_,?_,k⟩<;>(repeat rw[Array.getElem?_setIfInBounds_ne (by omega)])<;>assumption
 · obtain rfl:j=L.length:=by simp at hj;omega
   rw[List.getElem_concat_length rfl]
   refine⟨A,a,D,d,?_,?_,h1,h2,h3,h4⟩
   · rw[Array.getElem?_setIfInBounds_ne (by omega),Array.getElem?_setIfInBounds_self_of_lt (by omega)]
   · rw[Array.getElem?_setIfInBounds_self_of_lt (by simp;omega)]
def Pw (X X':Array Value) (i:Nat) (Y:List Nat):Prop:=
 (∀ k b:Nat,Y[k]? = some b→X'[b * 2]? = some (.int .i64 (i:Int))∧X'[b * 2+1]? = some (.int .i64 (k:Int)))∧∀ b:Nat,b∉Y→X'[b * 2]? = X[b * 2]?∧X'[b * 2+1]? = X[b * 2+1]?
theorem Pw.nil (X:Array Value) (i:Nat):Pw X X i []:=⟨fun k b h=>by simp at h,fun b _=>⟨rfl,rfl⟩⟩
theorem Pw.next {X X':Array Value} {i n t:Nat} {Y:List Nat} (h:Pw X X' i (Y.take t)) (ht:t < Y.length) (hY:Y.Nodup) (hs:X'.size=n * 2) (hb:Y[t] < n) :
 Pw X ((X'.setIfInBounds (Y[t] * 2) (.int .i64 (i:Int))).setIfInBounds (Y[t] * 2+1) (.int .i64 (t:Int))) i (Y.take (t+1)):=by
 have e:Y.take (t+1)=Y.take t++[Y[t]]:=List.take_succ_eq_append_getElem ht
 have hnew:Y[t]∉Y.take t:=fun hm=>by
  have h2:(Y.take (t+1)).Nodup:=hY.sublist (List.take_sublist _ _)
  rw[e,List.nodup_append] at h2
  exact h2.2.2 _ hm _ (by simp) rfl
 generalize Y[t]=y at *
 rw[e]
 have hl:(Y.take t).length=t:=by rw[List.length_take];omega
 refine⟨fun k b hk=>?_,fun b hb'=>?_⟩
 · by_cases hkt:k < t
   · rw[List.getElem?_append_left (by omega)] at hk
     have hne:b≠y:=fun e=>hnew (e ▸ List.mem_of_getElem? hk)
     obtain⟨h1,h2⟩:=h.1 k b hk
     refine⟨?_,?_⟩<;>(repeat rw[Array.getElem?_setIfInBounds_ne (by omega)])<;>assumption
   · rw[List.getElem?_append_right (by omega),hl] at hk
     have hk0:k=t:=by
      rcases Nat.eq_zero_or_pos (k - t) with h0 | h0
      · omega
      · rw[List.getElem?_eq_none (by simp;omega)] at hk
        cases hk
     subst hk0
     simp at hk
     subst hk
     refine⟨?_,?_⟩
     · rw[Array.getElem?_setIfInBounds_ne (by omega),Array.getElem?_setIfInBounds_self_of_lt (by omega)]
     · rw[Array.getElem?_setIfInBounds_self_of_lt (by simp;omega)]
 · simp only[List.mem_append,List.mem_singleton,not_or] at hb'
   obtain⟨h1,h2⟩:=h.2 b hb'.1
   have:=hb'.2
   refine⟨?_,?_⟩<;>(repeat rw[Array.getElem?_setIfInBounds_ne (by omega)])<;>assumption
theorem Plc.snoc {X X':Array Value} {L:List Cl} {c:Cl} (h:Plc X L) (hw:Pw X X' L.length (blk c.l)) (hn:(bl L++blk c.l).Nodup):Plc X' (L++[c]):=by
 intro i k b ho
 rcases own_snoc.1 ho with ho | ⟨rfl,hk⟩
 · have hb:b∉blk c.l:=fun hm=>by
    rw[List.nodup_append] at hn
    exact hn.2.2 b (own_mem ho) b hm rfl
   obtain⟨h1,h2⟩:=hw.2 b hb
   rw[h1,h2]
   exact h i k b ho
 · exact hw.1 k b hk
structure Cq (w:World) (P:Pc) (n m:Nat) (L:List Cl) (N C X:Array Value):Prop where
 cr:Cr w P n m N C X (ins (bl L)) (ins (sl L))
 nod:Nod N L
 chs:Chs w (P.c+1) C L
 plc:Plc X L
theorem Cq.keep {w w':World} {P:Pc} {n m:Nat} {L:List Cl} {N C X:Array Value} (h:Cq w P n m L N C X) (hb:Below w.heap.size w w'):Cq w' P n m L N C X:=
 ⟨h.cr.keep hb,h.nod,h.chs.fr (fr_below hb),h.plc⟩
end Clm
end Go.Proofs.YtdafimdfbnphaaaGreatDoor
/- Texts. -/
namespace Go.Proofs.YtdafimdfbnphaaaGreatDoor
open Lib (hid)
open Go.RowKit Go.MapKept
namespace Clm
open Chn (Pt New Prt slots Mays tot blk blk_len)
open Vol (Vo Hb hb_new)
open Pack (Nts)
open Lin (take_yes take_no)
theorem sls_ints (l:List Pt):(sls l).map Int.ofNat=slots l:=by
 unfold sls slots
 rw[List.map_map]
 rfl
theorem sls_len (l:List Pt):(sls l).length=l.length:=by simp[sls]
theorem pn_of {n:Nat} {X Y:List Nat} (hX:X.Nodup) (hY:∀ y∈Y,y < n):∃ v g,Bm.tn n true (ins X) (Y.map Int.ofNat)=(g,v)∧(((X++Y).Nodup∧v=Y.length∧g=ins (X++Y))∨(¬ (X++Y).Nodup∧v≠Y.length)):=by
 by_cases h:(X++Y).Nodup
 · exact⟨_,_,put_yes hX hY h,.inl ⟨h,rfl,rfl⟩⟩
 · exact⟨_,_,rfl,.inr ⟨h,put_no hX hY h⟩⟩
def GvTo (w:World) (P:Pc) (n m:Nat) (N C X:Array Value) (U S:List Nat) (l:List Pt) (i:Nat) (r:Ending) (w':World):Prop:=
 (¬ ((S++sls l).Nodup∧(U++blk l).Nodup)∧r = .returned (.bool false)∧Below P.lo w w') ∨
 (((S++sls l).Nodup∧(U++blk l).Nodup)∧r = .returned (.bool true)∧∃ X',Cr w' P n m N C X' (ins (U++blk l)) (ins (S++sls l))∧Pw X X' i (blk l)∧Fr (P.c+1) w w'∧Below P.lo w w')
section
variable {w : World} {P : Pc} {n m : Nat} {N C X : Array Value} {U S : List Nat}
set_option maxHeartbeats 4000000 in
set_option maxRecDepth 100000 in
theorem give_any (h:Cr w P n m N C X (ins U) (ins S)) (hU:U.Nodup) (hS:S.Nodup) (l:List Pt) (A D:Option Addr) (a d i:Nat) (hA:Nts w A (slots l)) (hD:Prt w D l) (hn:New (P.c+1) A) (hm:Mays l) (hl:l.length≤65534)
 (h1:∀ x∈sls l,x < n) (h2:∀ x∈blk l,x < n) :
 Calls Tryz.prog 125 #[.pointer (some ⟨P.c,0,none⟩),.int .i64 (i:Int),.agg #[.slice A l.length a,.slice D l.length d]] w (GvTo w P n m N C X U S l i):=by
 have HO:=hid (And.intro h.ord.le h.ord.lt)
 have HH:=hid h
 have HA:=hid hA
 have HN:=hid hn
 have hBK:=fun w' (hb:Below w.heap.size w w')=>Chn.blocks_new w' A D l.length a d l (hD.keep hb) hm hl
 rw[← blk_len] at hBK
 have HBK:=hid hBK
 obtain⟨v1,g1,e1,hp1⟩:=pn_of (n:=n) hS h1
 obtain⟨v2,g2,e2,hp2⟩:=pn_of (n:=n) hU h2
 rw[sls_ints] at e1
 have HE1:=hid e1
 have HE2:=hid e2
 have HP1:=hid hp1
 have HP2:=hid hp2
 have HB2:=hid h2
 have htl:=Chn.tot_le hm l.length
 rw[List.take_length,← blk_len] at htl
 have HTL:=hid (show (blk l).length≤5000000000 by omega)
 clear h hA htl hn hBK hD hm e1 e2 hp1 hp2 h1 h2 hU hS
 have HB0:=hid ((Below.refl w.heap.size w).alloc (Nat.le_refl _) (.cells #[.slice A l.length a,.slice D l.length d] 90))
 have HX0:=hid (hb_new w #[.slice A l.length a,.slice D l.length d] 90)
 go_enter Tryz.func125,Tryz.ntmps125
 go_wp2_with fail
 generalize w.alloc (.cells #[.slice A l.length a,.slice D l.length d] 90)=w0 at *
 refine (HBK.out _ HB0.out).mono ?_
 rintro r w1 ⟨G,gc,rfl,hng,hnw,hb⟩
 have hd:∀ W:World,Below W.heap.size W W.drew:=fun W=>⟨rfl,rfl,rfl,Nat.le_refl _,fun _ _=>rfl⟩
 have HB1:=hid (HB0.out.trans (hb.mono HB0.out.size))
 have HX1:=hid (HX0.out.keep hb)
 have hc1:=HH.out.keep HB1.out
 have HXB:=hid (show P.c < w.heap.size from HH.out.lt)
 have hGn:∀ q',q'≤P.c→∀ W,Bm.Chg q' w1 W→Nts W G ((blk l).map Int.ofNat):=fun q' hq W hC=>
  nts_fr hng hnw (fr_chg hC (by have:=HB0.out.size;have:=HXB.out;omega))
 have HPS:=hid (Bm.put_any (hc1.sm.drew) A a (slots l) (fun W hC=>nts_fr (nts_fr HA.out HN.out (fr_below HB1.out)) HN.out (fr_chg ((Bm.chg_of_below (hd w1) P.sq).trans hC) (by have:=HO.out;omega))))
 rw[HE1.out,Chn.slots_len] at HPS
 have c2:=hc1.claim.cell 2
 have c3:=hc1.claim.cell 3
 have cl:=hc1.lt
 have x0:=HX1.out.cell 0
 have xl:=HX1.out.lt
 rcases HP1.out with ⟨hs1,hs2,hs3⟩ | ⟨hs1,hs2⟩
 · rw[sls_len] at hs2
   subst hs2 hs3
   have HS1:=hid hs1
   clear hs1
   rcases HP2.out with ⟨ht1,ht2,ht3⟩ | ⟨ht1,ht2⟩
   · subst ht2 ht3
     have HT1:=hid ht1
     clear ht1
     go_wp2_with fail
     go_region_held3 (fun W'=>W'.cell? ⟨P.c,3,none⟩=some (.pointer (some ⟨P.sp,0,none⟩))∧W'.cell? ⟨P.c,2,none⟩=some (.pointer (some ⟨P.bp,0,none⟩))∧W'.cell? ⟨w.heap.size,0,none⟩=some (.slice A l.length a)) (go_keep)
      (first
      | (go_at_call 108
         with_reducible refine HPS.out.mono ?_
         rintro r w2 ⟨rfl,hm2,hC2⟩
         have HR2:=hid ((hc1.keep (hd w1)).put_s hm2 hC2)
         have HC2:=hid ((Bm.chg_of_below (hd w1) P.sq).trans hC2)
         have hpb:=Bm.put_any HR2.out.bm G gc ((blk l).map Int.ofNat) (fun W hC=>nts_fr (hGn P.sq (by have:=HO.out;omega) w2 HC2.out) hnw (fr_chg hC (by have:=HB0.out.size;have:=HXB.out;have:=HO.out;omega)))
         rw[HE2.out,List.length_map] at hpb
         have HPB:=hid hpb
         have e2:=HR2.out.claim.cell 2
         have e3:=HR2.out.claim.cell 3
         have y0:=(HC2.out.cell (p:=⟨w.heap.size,0,none⟩) xl (by show w.heap.size≠P.sq;have:=HO.out;have:=HXB.out;omega)).trans x0
         have cl2:=HR2.out.lt
         have xl2:=Nat.lt_of_lt_of_le xl HC2.out.size
         clear hm2 hC2 hpb)
      | (go_at_call 108
         with_reducible refine HPB.out.mono ?_
         rintro r w3 ⟨rfl,hm3,hC3⟩
         have HR3:=hid (HR2.out.put_b hm3 hC3)
         have HC3:=hid hC3
         have k2:=HR3.out.claim.cell 2
         have k3:=HR3.out.claim.cell 3
         have z0:=(hC3.cell (p:=⟨w.heap.size,0,none⟩) xl2 (by show w.heap.size≠P.bq;have:=HO.out;have:=HXB.out;omega)).trans y0
         clear hm3 hC3))
     have HBF:=hid (show Below P.lo w w3 from (HB1.out.mono (by have:=HO.out;have:=HXB.out;omega)).trans
      ((HC2.out.below (by have:=HO.out;have:=HB1.out.size;have:=HXB.out;omega) (by have:=HO.out;omega)).trans
        (HC3.out.below (by have:=HO.out;have:=HB1.out.size;have:=HC2.out.size;have:=HXB.out;omega) (by have:=HO.out;omega))))
     go_wp2
     have HG3:=hid (show Nts w3 G ((blk l).map Int.ofNat) from nts_fr (nts_fr hng hnw (fr_chg HC2.out (by have:=HB0.out.size;have:=HXB.out;have:=HO.out;omega))) hnw (fr_chg HC3.out (by have:=HB0.out.size;have:=HXB.out;have:=HO.out;omega)))
     have HNW:=hid (show New w0.heap.size G from hnw)
     have HP0:=hid (show P.pb < w0.heap.size by have:=HB0.out.size;have:=HXB.out;have:=HO.out;omega)
     have HN0:=hid (show (blk l).Nodup by have:=HT1.out;rw[List.nodup_append] at this;exact this.2.1)
     have HZL:=hid (show n≤65534 from HH.out.bm.max)
     have HF3:=hid (show Fr (P.c+1) w w3 from (fr_below HB1.out).trans ((fr_chg HC2.out (by have:=HO.out;omega)).trans (fr_chg HC3.out (by have:=HO.out;omega))))
     clear c2 c3 cl x0 xl e2 e3 y0 cl2 xl2 k2 k3 z0 hng hnw hGn hc1 hd hb
     go_loopw [36] (fun q wr=>∃ (t:Nat) (X':Array Value),t≤(blk l).length∧q = .int .i64 (t:Int)∧Cr wr P n m N C X' (ins (U++blk l)) (ins (S++sls l))∧Pw X X' i ((blk l).take t)∧Bm.Chg P.pb w3 wr) (fun q _=>(blk l).length - (intOf q).toNat)
     case atStart=>exact⟨0,X,Nat.zero_le _,rfl,HR3.out,by rw[List.take_zero];exact Pw.nil X i,Bm.Chg.refl _ _⟩
     case round=>
      obtain⟨t,X',ht,rfl,hcr,hpw,hC⟩:=hrel
      by_cases hlt:t < (blk l).length
      · obtain⟨g,o,hG,hbb,hc0⟩:=(nts_fr HG3.out HNW.out (fr_chg hC HP0.out)).at' t (by rw[List.length_map];exact hlt)
        subst hG
        rw[List.getElem_map] at hc0
        have hbn:=HB2.out _ (List.getElem_mem hlt)
        have HNX:=hid (hpw.next hlt HN0.out hcr.sx hbn)
        generalize (blk l)[t]=b at *
        have hc0:wr.cell? ⟨g,o+t,none⟩=some (.int .i64 (b:Int)):=hc0
        have HR:=hid hcr
        have HC:=hid hC
        have c4:=hcr.claim.cell 4
        have cl:=hcr.lt
        have hsx:=hcr.sx
        obtain⟨u0,k0⟩:∃ v,wr.cell? ⟨P.pb,b * 2,none⟩=some v:=⟨_,(hcr.places.cell (b * 2)).trans (Array.getElem?_eq_getElem (by omega))⟩
        obtain⟨u1,k1⟩:∃ v,wr.cell? ⟨P.pb,b * 2+1,none⟩=some v:=⟨_,(hcr.places.cell (b * 2+1)).trans (Array.getElem?_eq_getElem (by omega))⟩
        have f0:=hcr.places.frozen (b * 2)
        have f1:=hcr.places.frozen (b * 2+1)
        have gl:=hcr.places.lt
        have hzl:=HZL.out
        have htl:=HTL.out
        clear hsx hcr hC hpw
        go_wp2
        refine⟨⟨t+1,_,by omega,by go_num,(HR.out.set_x (b * 2) (.int .i64 (i:Int))).set_x (b * 2+1) (.int .i64 (t:Int)),HNX.out,?_⟩,by simp[intOf];omega⟩
        exact (HC.out.setCell rfl _).setCell rfl _
      · obtain rfl:t=(blk l).length:=by omega
        rw[List.take_length] at hpw
        go_wp2
        go_ret
        refine .inr ⟨⟨HS1.out,HT1.out⟩,rfl,X',hcr,hpw,HF3.out.trans (fr_chg hC (by have:=HO.out;omega)),HBF.out.trans (hC.below ?_ ?_)⟩
        · have:=HO.out;have:=HB1.out.size;have:=HC2.out.size;have:=HC3.out.size;have:=HXB.out;omega
        · have:=HO.out;omega
   · have hne:((v2:Int) != ((blk l).length:Int))=true:=by
      simp only[bne_iff_ne,ne_eq]
      omega
     clear ht2
     have HT1:=hid ht1
     clear ht1
     go_wp2_with fail
     go_region_held3 (fun W'=>W'.cell? ⟨P.c,3,none⟩=some (.pointer (some ⟨P.sp,0,none⟩))∧W'.cell? ⟨P.c,2,none⟩=some (.pointer (some ⟨P.bp,0,none⟩))∧W'.cell? ⟨w.heap.size,0,none⟩=some (.slice A l.length a)) (go_keep)
      (first
      | (go_at_call 108
         with_reducible refine HPS.out.mono ?_
         rintro r w2 ⟨rfl,hm2,hC2⟩
         have HR2:=hid ((hc1.keep (hd w1)).put_s hm2 hC2)
         have HC2:=hid ((Bm.chg_of_below (hd w1) P.sq).trans hC2)
         have hpb:=Bm.put_any HR2.out.bm G gc ((blk l).map Int.ofNat) (fun W hC=>nts_fr (hGn P.sq (by have:=HO.out;omega) w2 HC2.out) hnw (fr_chg hC (by have:=HB0.out.size;have:=HXB.out;have:=HO.out;omega)))
         rw[HE2.out,List.length_map] at hpb
         have HPB:=hid hpb
         have e2:=HR2.out.claim.cell 2
         have e3:=HR2.out.claim.cell 3
         have y0:=(HC2.out.cell (p:=⟨w.heap.size,0,none⟩) xl (by show w.heap.size≠P.sq;have:=HO.out;have:=HXB.out;omega)).trans x0
         have cl2:=HR2.out.lt
         have xl2:=Nat.lt_of_lt_of_le xl HC2.out.size
         clear hm2 hC2 hpb)
      | (go_at_call 108
         with_reducible refine HPB.out.mono ?_
         rintro r w3 ⟨rfl,hm3,hC3⟩
         have HR3:=hid (HR2.out.put_b hm3 hC3)
         have HC3:=hid hC3
         have k2:=HR3.out.claim.cell 2
         have k3:=HR3.out.claim.cell 3
         have z0:=(hC3.cell (p:=⟨w.heap.size,0,none⟩) xl2 (by show w.heap.size≠P.bq;have:=HO.out;have:=HXB.out;omega)).trans y0
         clear hm3 hC3))
     have HBF:=hid (show Below P.lo w w3 from (HB1.out.mono (by have:=HO.out;have:=HXB.out;omega)).trans
      ((HC2.out.below (by have:=HO.out;have:=HB1.out.size;have:=HXB.out;omega) (by have:=HO.out;omega)).trans
        (HC3.out.below (by have:=HO.out;have:=HB1.out.size;have:=HC2.out.size;have:=HXB.out;omega) (by have:=HO.out;omega))))
     go_wp2
     go_ret
     exact .inl ⟨fun h=>HT1.out h.2,rfl,HBF.out⟩
 · have hne:((v1:Int) != (l.length:Int))=true:=by
    rw[sls_len] at hs2
    simp only[bne_iff_ne,ne_eq]
    omega
   clear hs2
   have HS1:=hid hs1
   clear hs1
   go_wp2_with fail
   refine wp_region_held_drew (S:=(fun W'=>W'.cell? ⟨P.c,3,none⟩=some (.pointer (some ⟨P.sp,0,none⟩))∧W'.cell? ⟨w.heap.size,0,none⟩=some (.slice A l.length a))) (by kernel_rfl) ?_ (fun hHeld=>?_)
   · exact⟨c3,x0⟩
   refine take_yes 0 12 (.pointer (some ⟨P.c,0,none⟩)) rfl rfl (by kernel_rfl) (by kernel_rfl) (by kernel_rfl) (fun _ _ _ h=>h) rfl ?_ (by assumption) ?_
   · intro w hSw
     try dsimp only at hSw
     go_simp
   simp only[Act.put,List.setIfInBounds_toArray,List.set_cons_zero,List.set_cons_succ]
   refine take_yes 1 13 (.pointer (some ⟨P.c,0,none⟩)) rfl rfl (by kernel_rfl) (by kernel_rfl) (by kernel_rfl) (fun _ _ _ h=>h) rfl ?_ (by assumption) ?_
   · intro w hSw
     try dsimp only at hSw
     go_simp
   simp only[Act.put,List.setIfInBounds_toArray,List.set_cons_zero,List.set_cons_succ]
   refine take_yes 2 14 (.pointer (some ⟨P.c,3,none⟩)) rfl rfl (by kernel_rfl) (by kernel_rfl) (by kernel_rfl) (fun _ _ _ h=>h) rfl ?_ (by assumption) ?_
   · intro w hSw
     try dsimp only at hSw
     go_simp
   simp only[Act.put,List.setIfInBounds_toArray,List.set_cons_zero,List.set_cons_succ]
   refine take_yes 3 15 (.pointer (some ⟨P.sp,0,none⟩)) rfl rfl (by kernel_rfl) (by kernel_rfl) (by kernel_rfl) (fun _ _ _ h=>h) rfl ?_ (by assumption) ?_
   · intro w hSw
     try dsimp only at hSw
     go_simp
   simp only[Act.put,List.setIfInBounds_toArray,List.set_cons_zero,List.set_cons_succ]
   refine take_yes 4 16 (.pointer (some ⟨w.heap.size,0,none⟩)) rfl rfl (by kernel_rfl) (by kernel_rfl) (by kernel_rfl) (fun _ _ _ h=>h) rfl ?_ (by assumption) ?_
   · intro w hSw
     try dsimp only at hSw
     go_simp
   simp only[Act.put,List.setIfInBounds_toArray,List.set_cons_zero,List.set_cons_succ]
   refine take_yes 5 17 (.slice A l.length a) rfl rfl (by kernel_rfl) (by kernel_rfl) (by kernel_rfl) (fun _ _ _ h=>h) rfl ?_ (by assumption) ?_
   · intro w hSw
     try dsimp only at hSw
     go_simp
   simp only[Act.put,List.setIfInBounds_toArray,List.set_cons_zero,List.set_cons_succ]
   refine take_yes 7 19 (.pointer (some ⟨w.heap.size,0,none⟩)) rfl rfl (by kernel_rfl) (by kernel_rfl) (by kernel_rfl) (fun _ _ _ h=>h) rfl ?_ (by assumption) ?_
   · intro w hSw
     try dsimp only at hSw
     go_simp
   simp only[Act.put,List.setIfInBounds_toArray,List.set_cons_zero,List.set_cons_succ]
   refine take_yes 8 20 (.slice A l.length a) rfl rfl (by kernel_rfl) (by kernel_rfl) (by kernel_rfl) (fun _ _ _ h=>h) rfl ?_ (by assumption) ?_
   · intro w hSw
     try dsimp only at hSw
     go_simp
   simp only[Act.put,List.setIfInBounds_toArray,List.set_cons_zero,List.set_cons_succ]
   refine take_yes 9 21 (.int .i64 (l.length:Int)) rfl rfl (by kernel_rfl) (by kernel_rfl) (by kernel_rfl) (fun _ _ _ h=>h) rfl ?_ (by assumption) ?_
   · intro w hSw
     try dsimp only at hSw
     go_simp
   simp only[Act.put,List.setIfInBounds_toArray,List.set_cons_zero,List.set_cons_succ]
   refine wpAnyH_ready (rs:=[6]) (by kernel_rfl) (by simp) ?_
   refine AllReadyH.cons rfl (fun K hK=>?_) AllReadyH.nil
   go_simp
   go_at_call 108
   with_reducible refine HPS.out.mono ?_
   rintro r w2 ⟨rfl,hm2,hC2⟩
   have d3:=(hC2.cell (p:=⟨P.c,3,none⟩) cl (by show P.c≠P.sq;have:=HO.out;omega)).trans c3
   have y0:=(hC2.cell (p:=⟨w.heap.size,0,none⟩) xl (by show w.heap.size≠P.sq;have:=HO.out;have:=HXB.out;omega)).trans x0
   have HC2:=hid hC2
   clear hm2 hC2 hHeld
   go_wp2_with fail
   refine hK.out _ _ ⟨d3,y0⟩ (fun hHeld=>?_)
   clear hK K
   refine take_yes 10 22 (.bool true) rfl rfl (by kernel_rfl) (by kernel_rfl) (by kernel_rfl) (fun _ _ _ h=>h) rfl ?_ (by assumption) ?_
   · intro w hSw
     try dsimp only at hSw
     go_simp
   simp only[Act.put,List.setIfInBounds_toArray,List.set_cons_zero,List.set_cons_succ]
   refine take_yes 11 23 (.bool true) rfl rfl (by kernel_rfl) (by kernel_rfl) (by kernel_rfl) (fun _ _ _ h=>h) rfl ?_ (by assumption) ?_
   · intro w hSw
     try dsimp only at hSw
     go_simp
   simp only[Act.put,List.setIfInBounds_toArray,List.set_cons_zero,List.set_cons_succ]
   refine take_no 12 24 rfl rfl (by kernel_rfl) (by kernel_rfl) (by kernel_rfl) (fun _ _ _ h=>h) rfl (by assumption) ?_
   simp only[Act.put,List.setIfInBounds_toArray,List.set_cons_zero,List.set_cons_succ]
   refine take_no 13 25 rfl rfl (by kernel_rfl) (by kernel_rfl) (by kernel_rfl) (fun _ _ _ h=>h) rfl (by assumption) ?_
   simp only[Act.put,List.setIfInBounds_toArray,List.set_cons_zero,List.set_cons_succ]
   refine take_no 14 26 rfl rfl (by kernel_rfl) (by kernel_rfl) (by kernel_rfl) (fun _ _ _ h=>h) rfl (by assumption) ?_
   simp only[Act.put,List.setIfInBounds_toArray,List.set_cons_zero,List.set_cons_succ]
   refine take_no 15 27 rfl rfl (by kernel_rfl) (by kernel_rfl) (by kernel_rfl) (fun _ _ _ h=>h) rfl (by assumption) ?_
   simp only[Act.put,List.setIfInBounds_toArray,List.set_cons_zero,List.set_cons_succ]
   refine take_no 16 28 rfl rfl (by kernel_rfl) (by kernel_rfl) (by kernel_rfl) (fun _ _ _ h=>h) rfl (by assumption) ?_
   simp only[Act.put,List.setIfInBounds_toArray,List.set_cons_zero,List.set_cons_succ]
   refine take_no 17 29 rfl rfl (by kernel_rfl) (by kernel_rfl) (by kernel_rfl) (fun _ _ _ h=>h) rfl (by assumption) ?_
   simp only[Act.put,List.setIfInBounds_toArray,List.set_cons_zero,List.set_cons_succ]
   refine take_no 18 30 rfl rfl (by kernel_rfl) (by kernel_rfl) (by kernel_rfl) (fun _ _ _ h=>h) rfl (by assumption) ?_
   simp only[Act.put,List.setIfInBounds_toArray,List.set_cons_zero,List.set_cons_succ]
   refine take_no 19 31 rfl rfl (by kernel_rfl) (by kernel_rfl) (by kernel_rfl) (fun _ _ _ h=>h) rfl (by assumption) ?_
   simp only[Act.put,List.setIfInBounds_toArray,List.set_cons_zero,List.set_cons_succ]
   refine take_no 20 32 rfl rfl (by kernel_rfl) (by kernel_rfl) (by kernel_rfl) (fun _ _ _ h=>h) rfl (by assumption) ?_
   simp only[Act.put,List.setIfInBounds_toArray,List.set_cons_zero,List.set_cons_succ]
   refine take_yes 21 33 (.bool true) rfl rfl (by kernel_rfl) (by kernel_rfl) (by kernel_rfl) (fun _ _ _ h=>h) rfl ?_ (by assumption) ?_
   · intro w hSw
     try dsimp only at hSw
     go_simp
   simp only[Act.put,List.setIfInBounds_toArray,List.set_cons_zero,List.set_cons_succ]
   refine wpAnyH_done (by kernel_rfl) ?_ _
   go_wp2
   go_ret
   refine .inl ⟨fun h=>HS1.out h.1,rfl,?_⟩
   refine (HB1.out.mono (by have:=HO.out;have:=HXB.out;omega)).trans ?_
   exact (((Bm.chg_of_below (hd w1) P.sq).trans HC2.out).below (by have:=HO.out;have:=HB1.out.size;have:=HXB.out;omega) (by have:=HO.out;omega))
end
end Clm
end Go.Proofs.YtdafimdfbnphaaaGreatDoor
/- Texts. -/
namespace Go.Proofs.YtdafimdfbnphaaaGreatDoor
open Lib (hid)
open Go.RowKit Go.MapKept
namespace Vol
theorem row_words {w:World} {g n:Nat} {l:List Nat} (h:w.rowIs g 134 n (fun i=>.int .u64 ((l[i]?.getD 0:Nat):Int))) (hl:l.length=n) (hn:n≤4194304) (hu:∀ x∈l,x < 18446744073709551616):Pack.Wds w (some ⟨g,0,none⟩) l:=
 ⟨hu,by omega,fun j hj=>⟨g,0,rfl,h.lt,by
   rw[Nat.zero_add,h.cell (by omega),List.getElem?_eq_getElem hj]
   rfl⟩⟩
section
variable {Q Q' : Nat → Prop} {w w' : World} {vb a n m s : Nat} {W : List Nat} {st sn : Nat}
theorem inode_place (h:Vo Q w vb a n m s W st sn) (i:Nat) (hi:i < m) (w':World):Calls Tryz.prog 173 #[.agg #[.int .i64 n,.int .i64 m,.int .i64 s],.int .i64 (i:Int)] w' fun r w''=>r = .returned (.int .i64 ((16+8 * i:Nat):Int))∧Below w'.heap.size w' w'':=by
 have hp:=Geo.inode_any w' (n:Int) (m:Int) (s:Int) (i:Int)
 rw[Geo.plc_yes h.may (by omega) (by omega),show (16:Int)+(i:Int) * 8=((16+8 * i:Nat):Int) by omega] at hp
 exact hp
theorem inode_in (h:Vo Q w vb a n m s W st sn) {i:Nat} (hi:i < m):16+8 * i+8≤W.length∧i≤65534:=by
 obtain⟨h1,h2,h3⟩:=h.num
 have h4:=Geo.bm_bounds h1 h2
 have h5:=Geo.bk_bounds h1 h2
 have h6:=Geo.fin_bounds h1 h2 h3
 have h7:=h.len
 unfold Geo.fin at h7
 omega
theorem gv_ino (q:Option (Nat × Nat × Nat)):∃ x y z:Int,Ino.gv q = .agg #[.int .i64 x,.int .i64 y,.int .i64 z]:=by
 cases q with
 | none=>exact⟨0,-1,0,rfl⟩
 | some t=>exact⟨_,_,_,rfl⟩
set_option maxHeartbeats 4000000 in
set_option maxRecDepth 100000 in
theorem inode_yes (h:Vo Q w vb a n m s W st sn) (i:Nat) (hi:i < m) :
 Calls Tryz.prog 123 #[.pointer (some ⟨vb,0,none⟩),.int .i64 (i:Int)] w fun r w'=>
  r = .returned (.tuple #[Ino.gv (Ino.dec (rdw W (16+8 * i) 8)),.int .i64 (Ino.ev (Ino.dec (rdw W (16+8 * i) 8)))])∧Below w.heap.size w w':=by
 obtain⟨c0,c1,c2,c3⟩:=h.cells
 have hlt:=h.lt
 have hin:=inode_in h hi
 have HP:=hid (inode_place h i hi)
 have HX:=hid (Lin.owned w 0 0 0 84)
 have HB0:=hid ((Below.refl w.heap.size w).alloc (Nat.le_refl _) (.cells #[.int .i64 0,.int .i64 0,.int .i64 0] 84))
 have HRD:=hid (fun w' (hb:Below w.heap.size w w')=>read_any (h.up.keep hb) (16+8 * i) 8 (by omega) (by omega))
 have hru:=rdw_u64 h.up.u64 (16+8 * i) 8
 have hrl:=rdw_len W (16+8 * i) 8
 have hp0:=pos_not (16+8 * i)
 generalize rdw W (16+8 * i) 8=L at *
 generalize 16+8 * i=p at *
 have HN:=hid (fun w=>isNone_any w (p:Int))
 rw[hp0] at HN
 have HD:=hid (fun (w':World) (g:Nat) (hr:w'.rowIs g 134 8 (fun i=>.int .u64 ((L[i]?.getD 0:Nat):Int)))=>show Calls Tryz.prog 174 #[.slice (some ⟨g,0,none⟩) 8 8] w' _ from by
  have hd:=Ino.decode_any (some ⟨g,0,none⟩) 8 L (row_words hr hrl (by omega) hru)
  rw[hrl] at hd
  exact hd)
 obtain⟨g0,g1,g2,hg⟩:=gv_ino (Ino.dec L)
 rw[hg] at HD ⊢
 generalize Ino.ev (Ino.dec L)=e at *
 have H:=hid h
 clear h hi hg hp0 hin hru hrl
 go_enter Tryz.func123,Tryz.ntmps123
 go_wp2_with fail
 generalize w.alloc (.cells #[.int .i64 0,.int .i64 0,.int .i64 0] 84)=w0 at *
 refine (HP.out _).mono ?_
 rintro r w1 ⟨rfl,hb⟩
 have HB:=hid (HB0.out.trans (hb.mono HB0.out.size))
 have HX1:=hid (HX.out.keep hb)
 clear hb HP HX c0 c1 c2 c3
 obtain⟨c0,_,_,_⟩:=(H.out.keep HB.out).cells
 have hl2:=(H.out.keep HB.out).lt
 go_wp2_with fail
 refine (HN.out _).mono ?_
 rintro r w2 ⟨rfl,rfl⟩
 go_wp2_with fail
 refine (HRD.out _ HB.out).mono ?_
 rintro r w2 ⟨gr,rfl,_,hrow,hb⟩
 have HROW:=hid hrow
 have HB2:=hid (HB.out.trans (hb.mono HB.out.size))
 have HX2:=hid (HX1.out.keep hb)
 clear hb hrow HX1 HB HRD c0
 go_wp2_with fail
 refine (HD.out _ _ HROW.out).mono ?_
 rintro r w3 ⟨rfl,hb⟩
 have HB3:=hid (HB2.out.trans (hb.mono HB2.out.size))
 have HX3:=hid (HX2.out.keep hb)
 clear hb HX2 HB2 HD HROW
 have hc0:=HX3.out.box.c0
 have hc1:=HX3.out.box.c1
 have hc2:=HX3.out.box.c2
 have hf0:=HX3.out.f 0
 have hf1:=HX3.out.f 1
 have hf2:=HX3.out.f 2
 go_wp2
 refine bodyPost_ret (v:=.tuple #[.agg #[.int .i64 g0,.int .i64 g1,.int .i64 g2],.int .i64 e]) ?_ rfl ⟨rfl,?_⟩
 · simp[results,Tryz.results123,go_sem,hc0,hc1,hc2]
 · exact ((HB3.out.setCell (Nat.le_refl _) _).setCell (Nat.le_refl _) _).setCell (Nat.le_refl _) _
end
end Vol
end Go.Proofs.YtdafimdfbnphaaaGreatDoor
