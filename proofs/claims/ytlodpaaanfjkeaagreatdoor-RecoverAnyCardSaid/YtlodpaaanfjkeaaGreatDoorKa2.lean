/- Texts laid together: RunMath, BmWords, BmRef, BmRefW, BmSame, RunMem, RunFit, RunGrow, RunTake, RunLives. -/
import Derived.Test.YtlodpaaanfjkeaaGreatDoorKa1
import Derived.Laws.OwnMore
import Derived.OneCell
import Derived.ArgAppend
import Derived.Lib.SliceRun
import Derived.Deep.RegionHeld3
import Derived.BigCall
import Derived.Deep.OwnRows
import Derived.Deep.DeepCutAuto
set_option maxRecDepth 100000
set_option maxHeartbeats 2000000
namespace Go.Proofs.YtlodpaaanfjkeaaGreatDoor
section
namespace Rn
open Bm
abbrev Run:=Nat × Nat
inductive From (f:Nat→Bool) (n:Nat):Nat→List Run→Prop where
 | none {s:Nat}:(∀ c,s≤c→c < n→f c=true)→From f n s []
 | some {s a e:Nat} {l:List Run}:s≤a→a < e→e≤n→(∀ c,s≤c→c < a→f c=true)→(∀ c,a≤c→c < e→f c=false)→(e=n∨f e=true)→From f n e l→From f n s ((a,e - a) :: l)
theorem next_or (f:Nat→Bool) (u:Bool) (n s:Nat):(next f u n s = -1∧∀ c,s≤c→c < n→f c≠u)∨∃ d:Nat,next f u n s=(d:Int)∧s≤d∧d < n∧f d=u∧∀ c,s≤c→c < d→f c≠u:=by
 rcases next_is f u n s with ⟨e,g⟩ | ⟨d,e,h1,h2,h3,h4⟩
 · exact .inl ⟨e,fun c h1 h2=>g c h1 h2⟩
 · exact .inr ⟨d,e,h1,h2,h3,fun c h1 h2=>h4 c h1 h2⟩
theorem from_exists (f:Nat→Bool) (n:Nat):∀ k s,n - s≤k→∃ l,From f n s l
 | 0,s,h=>⟨[],.none fun c h1 h2=>by omega⟩
 | k+1,s,h=>by
   rcases next_or f false n s with ⟨_,g⟩ | ⟨a,_,h1,h2,h3,h4⟩
   · exact⟨[],.none fun c h1 h2=>by simpa using g c h1 h2⟩
   · rcases next_or f true n a with ⟨_,g⟩ | ⟨e,_,k1,k2,k3,k4⟩
     · obtain⟨l,hl⟩:=from_exists f n k n (by omega)
       exact⟨_,.some h1 h2 (Nat.le_refl _) (fun c x y=>by simpa using h4 c x y) (fun c x y=>by simpa using g c x y) (.inl rfl) hl⟩
     · have hne:a≠e:=fun e'=>by rw[e',k3] at h3;cases h3
       obtain⟨l,hl⟩:=from_exists f n k e (by omega)
       exact⟨_,.some h1 (by omega) (by omega) (fun c x y=>by simpa using h4 c x y) (fun c x y=>by simpa using k4 c x y) (.inr k3) hl⟩
theorem From.next_none {f:Nat→Bool} {n s:Nat} (h:From f n s []):next f false n s = -1:=by
 cases h with
 | none g=>
   rcases next_or f false n s with ⟨e,_⟩ | ⟨a,_,h1,h2,h3,_⟩
   · exact e
   · rw[g a h1 h2] at h3;cases h3
theorem From.next_some {f:Nat→Bool} {n s a c:Nat} {l:List Run} (h:From f n s ((a,c) :: l)) :
 next f false n s=(a:Int)∧s≤a∧1≤c∧a+c≤n∧((next f true n a = -1∧a+c=n)∨next f true n a=((a+c:Nat):Int))∧From f n (a+c) l∧(∀ d,a≤d→d < a+c→f d=false)∧(a+c=n∨f (a+c)=true)∧(∀ d,s≤d→d < a→f d=true):=by
 generalize hc:(a,c) :: l=L at h
 cases h with
 | none _=>cases hc
 | @some s' a' e l' h1 h2 h3 h4 h5 h6 h7=>
   injection hc with hc hl
   injection hc with ha hc
   subst ha hc hl;have he:a+(e - a)=e:=by omega
   rw[he]
   refine⟨?_,h1,by omega,h3,?_,h7,h5,h6,h4⟩
   · rcases next_or f false n s with ⟨_,g⟩ | ⟨d,e1,k1,k2,k3,k4⟩
     · exact absurd (h5 a (Nat.le_refl _) h2) (g a h1 (by omega))
     · rw[e1]
       rcases Nat.lt_trichotomy d a with x | x | x
       · rw[h4 d k1 x] at k3;cases k3
       · rw[x]
       · exact absurd (h5 a (Nat.le_refl _) h2) (k4 a h1 x)
   · rcases next_or f true n a with ⟨e1,g⟩ | ⟨d,e1,k1,k2,k3,k4⟩
     · refine .inl ⟨e1,?_⟩
       rcases h6 with x | x
       · exact x
       · rcases Nat.lt_or_ge e n with y | y
         · exact absurd x (g e (by omega) y)
         · omega
     · refine .inr ?_
       rw[e1]
       rcases Nat.lt_trichotomy d e with x | x | x
       · rw[h5 d k1 x] at k3;cases k3
       · rw[x]
       · rcases h6 with y | y
         · omega
         · exact absurd y (k4 e (by omega) x)
def ext (l:List Run) (b:Nat):List Run:=
 match l.getLast? with
 | some r=>if r.1+r.2=b then l.dropLast++[(r.1,r.2+1)] else l++[(b,1)]
 | none=>l++[(b,1)]
def frs (f:Nat→Bool):Nat→List Run
 | 0=>[]
 | b+1=>if f b then frs f b else ext (frs f b) b
theorem ext_end {l:List Run} {r:Run} {b:Nat} (h:r.1+r.2=b):ext (l++[r]) b=l++[(r.1,r.2+1)]:=by
 unfold ext;simp[h]
theorem ext_apart {l:List Run} {b:Nat} (h:∀ r,l.getLast? = some r→r.1+r.2≠b):ext l b=l++[(b,1)]:=by
 unfold ext
 split
 · rename_i r hr
   rw[if_neg (h r hr)]
 · rfl
theorem frs_ends (f:Nat→Bool):∀ b,∀ r∈frs f b,1≤r.2∧r.1+r.2≤b
 | 0=>fun r hr=>by cases hr
 | b+1=>fun r hr=>by
   have ih:=frs_ends f b;rw[frs] at hr
   split at hr
   · have:=ih r hr
     omega
   · unfold ext at hr
     split at hr
     · rename_i q hq
       have hqm:=ih q (List.mem_of_getLast? hq)
       split at hr
       · rcases List.mem_append.1 hr with x | x
         · have:=ih r (List.dropLast_subset _ x)
           omega
         · obtain rfl:r=(q.1,q.2+1):=by simpa using x
           simp only;omega
       · rcases List.mem_append.1 hr with x | x
         · have:=ih r x
           omega
         · obtain rfl:r=(b,1):=by simpa using x
           simp
     · rcases List.mem_append.1 hr with x | x
       · have:=ih r x
         omega
       · obtain rfl:r=(b,1):=by simpa using x
         simp
theorem frs_skip {f:Nat→Bool} {s:Nat}:∀ d,s≤d→(∀ c,s≤c→c < d→f c=true)→frs f d=frs f s
 | 0,h,_=>by obtain rfl:s=0:=by omega
             rfl
 | d+1,h,g=>by
   by_cases e:s=d+1
   · rw[e]
   · rw[frs,g d (by omega) (by omega),if_pos rfl]
     exact frs_skip d (by omega) (fun c h1 h2=>g c h1 (by omega))
theorem frs_run {f:Nat→Bool} {a:Nat} (hl:∀ r,(frs f a).getLast? = some r→r.1+r.2≠a):∀ e,a < e→(∀ c,a≤c→c < e→f c=false)→frs f e=frs f a++[(a,e - a)]
 | 0,h,_=>by omega
 | e+1,h,g=>by
   rw[frs,g e (by omega) (by omega),if_neg (by simp)];by_cases hx:a=e
   · subst hx
     rw[ext_apart hl,show a+1 - a=1 by omega]
   · rw[frs_run hl e (by omega) (fun c h1 h2=>g c h1 (by omega)),ext_end (by simp;omega),show e+1 - a=e - a+1 by omega]
theorem frs_from {f:Nat→Bool} {n s:Nat} {l:List Run} (h:From f n s l):s≤n→(f s=false→s < n→∀ r,(frs f s).getLast? = some r→r.1+r.2≠s)→frs f n=frs f s++l:=by
 induction h with
 | none g=>
   intro hs _;rw[List.append_nil];exact frs_skip _ hs g
 | @some s a e l h1 h2 h3 h4 h5 h6 h7 ih=>
   intro hs hC;have hsk:=frs_skip a h1 h4
   have hrun:=frs_run (f:=f) (a:=a) (fun r hr=>by
    rw[hsk] at hr;by_cases hx:s=a
    · subst hx
      exact hC (h5 s (Nat.le_refl _) h2) (by omega) r hr
    · have:=(frs_ends f s r (List.mem_of_getLast? hr)).2
      omega) e h2 h5
   rw[ih h3 (fun hf hlt=>by
    rcases h6 with x | x
    · omega
    · rw[x] at hf;cases hf),hrun,hsk]
   simp
theorem from_frs (f:Nat→Bool) (n:Nat):From f n 0 (frs f n):=by
 obtain⟨l,hl⟩:=from_exists f n n 0 (by omega)
 have:=frs_from hl (Nat.zero_le _) (fun _ _ r hr=>by simp[frs] at hr)
 rw[this];exact hl
def fit (l:List Run) (c:Nat):Option Run:=(l.find? fun r=>decide (c≤r.2)).map fun r=>(r.1,c)
theorem fit_yes {a k c:Nat} {l:List Run} (h:c≤k):fit ((a,k) :: l) c=some (a,c):=by simp[fit,h]
theorem fit_no {a k c:Nat} {l:List Run} (h:¬ c≤k):fit ((a,k) :: l) c=fit l c:=by simp[fit,h]
def cut:List Run→Nat→List Run
 | [],_=>[]
 | r :: l,c=>if c=0 then [] else (r.1,min r.2 c) :: cut l (c - min r.2 c)
theorem cut_zero (l:List Run):cut l 0=[]:=by cases l<;>simp[cut]
def tot (l:List Run):Nat:=(l.map (·.2)).sum
theorem tot_cons (r:Run) (l:List Run):tot (r :: l)=r.2+tot l:=by simp[tot]
theorem tot_snoc (r:Run) (l:List Run):tot (l++[r])=tot l+r.2:=by simp[tot]
theorem cut_append:∀ (l l':List Run) (c:Nat),cut (l++l') c=cut l c++cut l' (c - tot (cut l c))
 | [],l',c=>by simp[cut,tot]
 | r :: l,l',c=>by
   rw[List.cons_append,cut,cut]
   split
   · rename_i e
     simp[e,cut_zero]
   · rw[cut_append l l',tot_cons,List.cons_append]
     simp only;rw[show c - min r.2 c - tot (cut l (c - min r.2 c))=c - (min r.2 c+tot (cut l (c - min r.2 c))) by omega]
theorem cut_take {l:List Run} {k c:Nat} (h:k < l.length):cut (l.take (k+1)) c=cut (l.take k) c++(if c - tot (cut (l.take k) c)=0 then [] else [(l[k].1,min l[k].2 (c - tot (cut (l.take k) c)))]):=by
 rw[List.take_succ_eq_append_getElem h,cut_append]
 congr 1
theorem cut_full {l:List Run} {k c:Nat} (h:c - tot (cut (l.take k) c)=0):cut l c=cut (l.take k) c:=by
 conv=>lhs;rw[← List.take_append_drop k l,cut_append,h,cut_zero,List.append_nil]
theorem cut_le:∀ (l:List Run) (c:Nat),tot (cut l c)≤c∧(cut l c).length≤l.length
 | [],c=>by simp[cut,tot]
 | r :: l,c=>by
   rw[cut]
   split
   · simp[tot]
   · rw[tot_cons]
     have:=cut_le l (c - min r.2 c)
     simp only[List.length_cons];omega
def cho (l:List Run) (c:Nat):List Run:=if 1≤c then (match fit l c with | some r=>[r] | none=>cut l c) else []
def Up (f:Nat→Bool) (n:Nat):Nat→List Run→Prop
 | _,[]=>True
 | s,r :: l=>s≤r.1∧1≤r.2∧r.1+r.2≤n∧(∀ d,r.1≤d→d < r.1+r.2→f d=false)∧Up f n (r.1+r.2+1) l
theorem Up.less {f:Nat→Bool} {n:Nat}:∀ {s t:Nat} {l:List Run},Up f n s l→t≤s→Up f n t l
 | _,_,[],_,_=>trivial
 | _,_,_ :: _,h,ht=>⟨Nat.le_trans ht h.1,h.2⟩
theorem From.up {f:Nat→Bool} {n s:Nat} {l:List Run} (h:From f n s l):Up f n s l∧((s=n∨f s=true)→Up f n (s+1) l):=by
 induction h with
 | none _=>exact⟨trivial,fun _=>trivial⟩
 | @some s a e l h1 h2 h3 h4 h5 h6 h7 ih=>
   have he:a+(e - a)=e:=by omega
   refine⟨⟨h1,by simp only;omega,by simp only;omega,fun d k1 k2=>h5 d k1 (by simp only at k2;omega),by simp only;rw[he];exact ih.2 h6⟩,fun hs=>⟨?_,by simp only;omega,by simp only;omega,fun d k1 k2=>h5 d k1 (by simp only at k2;omega),by simp only;rw[he];exact ih.2 h6⟩⟩
   have hne:s≠a:=fun x=>by
    subst x
    rcases hs with y | y
    · omega
    · rw[h5 s (Nat.le_refl _) h2] at y;cases y
   simp only;omega
theorem Up.cut {f:Nat→Bool} {n:Nat}:∀ {s c:Nat} {l:List Run},Up f n s l→Up f n s (cut l c)
 | _,_,[],_=>trivial
 | s,c,r :: l,h=>by
   rw[Rn.cut]
   split
   · trivial
   · obtain⟨h1,h2,h3,h4,h5⟩:=h
     exact⟨h1,by simp only;omega,by simp only;omega,fun d k1 k2=>h4 d k1 (by simp only at k2;omega),(Up.cut h5).less (by simp only;omega)⟩
theorem Up.fit {f:Nat→Bool} {n c:Nat} (hc:1≤c):∀ {s:Nat} {l:List Run} {r:Run},Up f n s l→fit l c=some r→Up f n s [r]
 | _,[],_,_,hr=>by cases hr
 | s,(a,k) :: l,r,h,hr=>by
   obtain⟨h1,h2,h3,h4,h5⟩:=h
   by_cases hk:c≤k
   · rw[fit_yes hk] at hr
     injection hr with hr
     subst hr
     exact⟨h1,hc,by simp only at *;omega,fun d k1 k2=>h4 d k1 (by simp only at *;omega),trivial⟩
   · rw[fit_no hk] at hr
     exact (Up.fit hc h5 hr).less (by simp only at *;omega)
theorem up_cho (f:Nat→Bool) (n c:Nat):Up f n 0 (cho (frs f n) c):=by
 have h:=(from_frs f n).up.1;unfold cho
 split
 · rename_i hc
   split
   · rename_i r hr
     exact Up.fit hc h hr
   · exact h.cut
 · trivial
def fl (f:Nat→Bool) (l:List Run):Nat→Bool:=l.foldl (fun g r=>fill g r.1 (r.1+r.2)) f
theorem fl_take {f:Nat→Bool} {l:List Run} {k:Nat} (h:k < l.length):fl f (l.take (k+1))=fill (fl f (l.take k)) l[k].1 (l[k].1+l[k].2):=by
 unfold fl;rw[List.take_succ_eq_append_getElem h,List.foldl_append];rfl
theorem fl_behind {n:Nat}:∀ {l:List Run} {f g:Nat→Bool} {s k:Nat},Up f n s l→(hk:k < l.length)→(∀ d,s≤d→g d=f d)→∀ d,l[k].1≤d→fl g (l.take k) d=f d
 | r :: l,f,g,s,0,h,_,hg,d,hd=>hg d (by have:=h.1;simp only[List.getElem_cons_zero] at hd;omega)
 | r :: l,f,g,s,k+1,h,hk,hg,d,hd=>by
   obtain⟨h1,h2,h3,h4,h5⟩:=h
   simp only[List.getElem_cons_succ] at hd;refine fl_behind (g:=fill g r.1 (r.1+r.2)) h5 (by simpa using hk) (fun x hx=>?_) d hd;unfold fill;rw[decide_eq_false (by omega),hg x (by omega)];simp
theorem Up.get {f:Nat→Bool} {n:Nat}:∀ {l:List Run} {s k:Nat},Up f n s l→(hk:k < l.length)→s≤l[k].1∧1≤l[k].2∧l[k].1+l[k].2≤n∧(∀ d,l[k].1≤d→d < l[k].1+l[k].2→f d=false)
 | r :: l,s,0,h,_=>⟨h.1,h.2.1,h.2.2.1,h.2.2.2.1⟩
 | r :: l,s,k+1,h,hk=>by
   have:=Up.get (k:=k) h.2.2.2.2 (by simpa using hk)
   have h1:=h.1;simp only[List.getElem_cons_succ]
   exact⟨by omega,this.2⟩
theorem Up.next {f:Nat→Bool} {n:Nat}:∀ {l:List Run} {s k:Nat},Up f n s l→(hk:k+1 < l.length)→(l[k]'(by omega)).1+(l[k]'(by omega)).2 < l[k+1].1
 | r :: q :: l,s,0,h,_=>by
   have:=h.2.2.2.2.1
   simp only[List.getElem_cons_zero,List.getElem_cons_succ];omega
 | r :: l,s,k+1,h,hk=>by
   simp only[List.getElem_cons_succ];exact Up.next h.2.2.2.2 (by simpa using hk)
theorem fl_range {f:Nat→Bool} {n k:Nat} {l:List Run} (h:Up f n 0 l) (hk:k < l.length):rgf n (fl f (l.take k)) (l[k].1:Int) (l[k].2:Int)=fl f (l.take (k+1)):=by
 obtain⟨_,h2,h3,h4⟩:=h.get hk
 have hb:=fl_behind h hk (fun _ _=>rfl)
 have:rgb n (fl f (l.take k)) (l[k].1:Int) (l[k].2:Int)=true:=rgb_iff.2 ⟨by omega,fun b x y=>by
  rw[hb b (by omega)];exact h4 b (by omega) (by omega)⟩
 unfold rgf;rw[this,if_pos rfl,fl_take hk,Int.toNat_natCast,show ((l[k].1:Int)+(l[k].2:Int)).toNat=l[k].1+l[k].2 by omega]
end Rn
end
section
open Lib (hid)
open Go.RowKit Go.MapKept
namespace Bm
open Pack (Wds Nts u64_info)
theorem wds_news {W:World} {ad:Addr} {l:List Nat} (h:Wds W (some ad) l):∀ j u,(Pack.u64s l)[j]? = some u→W.cell? (ad.add j)=some u:=by
 intro j u hu
 have hj:j < l.length:=by
  have:=(List.getElem?_eq_some_iff.1 hu).1
  simpa [Pack.u64s] using this
 obtain⟨b,o,e,_,hc⟩:=h.at' j hj
 injection e with e
 subst e;rw[Go.WideShapes.add_plain,hc,← hu];simp[Pack.u64s,List.getElem?_eq_getElem hj]
theorem u64s_one (l:List Nat):∀ u∈Pack.u64s l,u.oneCell'=true:=by
 intro u hu
 obtain⟨x,_,rfl⟩:=List.mem_map.1 hu
 rfl
theorem copy_row {W:World} {A:Option Addr} {l:List Nat} (c:Nat) (h:Wds W A l) (hA:A=none→c=0) (hl:l.length≤1000000) :
 ∃ (g gc:Nat) (w':World),(Builtin.append_ #[22,22] 22 #[.slice (some ⟨W.heap.size,0,none⟩) 0 0,.slice A l.length c]).run Tryz.prog (W.alloc (.cells #[] 50)) = .ok (.slice (some ⟨g,0,none⟩) l.length gc) w' ∧
   l.length≤gc∧W.heap.size≤g∧Row w' g 50 l.length (fun k=>.int .u64 ((l.getD k 0:Nat):Int))∧Below W.heap.size W w':=by
 obtain⟨i0,hi0,hz0,hz1,hz2⟩:=info_parts u64_info
 have hown:(W.alloc (.cells #[] 50)).ownsRow W.heap.size 50 1 (.slice (some ⟨W.heap.size,0,none⟩) 0 0) 0 []:=World.ownsRow_made W #[] 0 (Nat.le_refl _) (by unfold maxLen;omega) rfl;have hb:=(Below.refl W.heap.size W).alloc (Nat.le_refl _) (.cells #[] 50)
 cases A with
 | none=>
   have hl0:l=[]:=by
    cases l with
    | nil=>rfl
    | cons b l=>
      obtain⟨_,_,e,_⟩:=h.at' 0 (by simp)
      cases e
   subst hl0;rw[hA rfl]
   exact⟨_,_,_,run_append_owned_none (P:=Tryz.prog) _ W.heap.size 22 22 50 i0 1 Tryz.underlying22 hi0 _ 0 [] hown,by simp,Nat.le_refl _,row_of_is (World.rowIs_alloc W #[] 50 _ (fun i hi=>by simp at hi)),hb⟩
 | some ad=>
   obtain⟨v',w',hr,h2,h3,h4,_⟩:=run_append_own_at (P:=Tryz.prog) (W.alloc (.cells #[] 50)) W.heap.size 22 22 50 i0 (.int .u64 0) 1 8 Tryz.underlying22 hi0 hz0 hz1 hz2 rfl (by decide) _ 0 [] hown ad l.length c (Pack.u64s l) (by simp[Pack.u64s]) (wds_news (h.alloc _)) (u64s_one l) (by unfold maxLen;omega) (by omega) (by simp)
   rw[Nat.zero_add,List.nil_append] at h2
   have hne:v'≠.slice none 0 0:=fun e=>by
    have:=(h4.1 e).1
    cases this
   rcases h2.2 with ⟨e,_⟩ | ⟨g,cap,cur,e,hg,hh,hc,_,hsz,ht⟩
   · exact absurd e hne
   · subst e
     refine⟨g,cap,w',hr,hc,hg,row_of_own h2 (fun i hi=>?_) rfl,hb.grown h3 (by simp) (fun k hk=>Pack.row_base_lt hown hk)⟩
     simp[Pack.u64s,List.getD,List.getElem?_eq_getElem hi]
theorem wpList_append_run {P:Program} {w w':World} {ops:Array Oper} {rest:List Oper} {o:Oper} {a:Act} {Q:Exit→Act→World→Prop} (hgd:o.guard=none) (s x:Operand) (t:TypeId)
 (ho:o.op = .call { callee:=.builtin .append,args:=#[s,x],argTypes:=#[t,t] }) (v u v':Value) (hs:a.eval s=v) (hx:a.eval x=u) (hr:(Builtin.append_ #[t,t] o.type #[v,u]).run P w = .ok v' w')
 (h:wpList P ops Q rest (a.put o.dst v') w'):wpList P ops Q (o :: rest) a w:=by
 refine wpList_plain hgd fun K hK=>?_
 unfold Oper.wp execOp;simp only[ho,resolve,invoke,builtin,Sem.run_bind,Sem.run_pure,Result.andThen_ok,List.map_toArray,List.map_cons,List.map_nil,hs,hx,hr];exact hK _ _ h
def Wrd (w:World) (K:Nat) (x:Nat→Nat) (e:Ending) (w':World):Prop:=
 ∃ g gc:Nat,e = .returned (.slice (some ⟨g,0,none⟩) K gc)∧K≤gc∧w.heap.size≤g∧Row w' g 50 K (fun k=>.int .u64 (x k:Int))∧Below w.heap.size w w'
section
variable {w : World} {p q K C n : Nat} {f : Nat → Bool}
theorem clone_any (ad:Addr) (c:Nat) (l:List Nat) (h:Wds w (some ad) l) (hl:l.length≤1000000) :
 Calls Tryz.prog 15 #[.slice (some ad) l.length c] w (Wrd w l.length (fun k=>l.getD k 0)):=by
 obtain⟨g,gc,w',hr,h1,h2,h3,h4⟩:=copy_row c h (fun e=>by cases e) hl
 have HR:=hid hr;have HX:=hid (show Wrd w l.length (fun k=>l.getD k 0) (.returned (.slice (some ⟨g,0,none⟩) l.length gc)) w' from ⟨g,gc,rfl,h1,h2,h3,h4⟩);clear hr h1 h2 h3 h4 h;have q40:∀ (w:World) (a:Option Addr) (n c n' c':Nat),(binOp .eql 22 (.slice a n c) (.slice none n' c')).run Tryz.prog w = .ok (.bool a.isNone) w:=fun w a n c n' c'=>Lib.run_eql_slice_nil w _ _ a n c n' c' Tryz.underlying22
 go_enter Tryz.func15,Tryz.ntmps15
 go_wp2_with (at_builtin;refine wpList_append_run rfl (.tmp 5) (.tmp 6) 22 rfl _ _ _ rfl rfl HR.out ?_)
 go_ret;exact HX.out
theorem words_any (h:Mp w p q K C n f):Calls Tryz.prog 36 #[.pointer (some ⟨p,0,none⟩)] w (Wrd w K (wd f)):=by
 have hc1:=h.c1;have hk:=h.kk;have hmx:=h.max;have hcl:=clone_any ⟨q,0,none⟩ C (wds f K) (h.row.wds (by omega)) (by rw[wds_len];omega);rw[wds_len] at hcl
 have HCL:=hid (hcl.mono fun e w' ⟨g,gc,h1,h2,h3,h4,h5⟩=>(⟨g,gc,h1,h2,h3,h4.congr (fun i hi=>by
  have:i < (wds f K).length:=by rw[wds_len];exact hi
  show Value.int .u64 (((wds f K).getD i 0:Nat):Int)=Value.int .u64 (wd f i:Int)
  rw[List.getD_eq_getElem?_getD,List.getElem?_eq_getElem this,Option.getD_some,wds_get]),h5⟩:Wrd w K (wd f) e w'))
 clear hcl h hk hmx;go_enter Tryz.func36,Tryz.ntmps36
 go_wp2_with fail
 refine HCL.out.mono ?_;rintro e w' ⟨g,gc,rfl,h2,h3,h4,h5⟩;have HX:=hid (show Wrd w K (wd f) (.returned (.slice (some ⟨g,0,none⟩) K gc)) w' from ⟨g,gc,rfl,h2,h3,h4,h5⟩);clear h2 h3 h4 h5;go_wp2
 go_ret;exact HX.out
def Cpy (w:World) (K n:Nat) (f:Nat→Bool) (e:Ending) (w':World):Prop:=
 ∃ p q C:Nat,e = .returned (.pointer (some ⟨p,0,none⟩))∧w.heap.size≤p∧w.heap.size≤q∧Mp w' p q K C n f∧Below w.heap.size w w'
theorem below_drew {w w1:World} (h:Below w.drew.heap.size w.drew w1):Below w.heap.size w w1:=⟨h.os,h.tape,h.output,h.size,h.block⟩
theorem mp_box {w1:World} {g gc:Nat} (hrow:Row w1 g 50 K (fun k=>.int .u64 (wd f k:Int))) (hfar:∀ b,n≤b→f b=false) (hm:n≤65534) (hK:K=(n+63) / 64) (hgc:K≤gc) :
 Mp (w1.alloc (.cells #[.int .i64 (n:Int),.slice (some ⟨g,0,none⟩) K gc] 125)) w1.heap.size g K gc n f:=
 ⟨by simp,Pack.alloc_cell _ _ _ _,Pack.alloc_cell _ _ _ _,hrow.of_block (Below.heap_alloc _ _ _ hrow.lt),Nat.ne_of_gt hrow.lt,hfar,hm,hK,hgc⟩
theorem copy_any (h:Mp w p q K C n f):Calls Tryz.prog 37 #[.pointer (some ⟨p,0,none⟩)] w (Cpy w K n f):=by
 have hc0:=h.c0;have HW:=hid (words_any h.drew);have H:=hid h;clear h;go_enter Tryz.func37,Tryz.ntmps37
 go_wp2_with fail
 go_region_held3 (fun W'=>W'.cell? ⟨p,0,none⟩=some (.int .i64 (n:Int))) (go_keep)
  (first
  | (go_at_call 36
     with_reducible refine HW.out.mono ?_
     rintro e w1 ⟨g,gc,rfl,h2,h3,h4,h5⟩;have HB:=hid (below_drew h5);have HR:=hid h4;have HG:=hid h3;have hk0:=(h5.cell (p:=⟨p,0,none⟩) H.out.lt).trans hc0;clear h3 h4 h5))
 have HX:=hid (mp_box HR.out H.out.far H.out.max H.out.hK h2);have HBB:=hid (HB.out.alloc HB.out.size (.cells #[.int .i64 (n:Int),.slice (some ⟨g,0,none⟩) K gc] 125));go_wp2
 go_ret
 exact⟨w1.heap.size,g,gc,rfl,HB.out.size,HG.out,HX.out,HBB.out⟩
theorem equal_any (A B:Option Addr) (c d:Nat) (l m:List Nat) (h:Wds w A l) (g:Wds w B m) :
 Calls Tryz.prog 67 #[.slice A l.length c,.slice B m.length d] w fun e w'=>e = .returned (.bool (decide (l=m)))∧∃ n,w'=w.drewN n:=by
 have hn:=h.len;have hm:=g.len;have H:=hid h;have G:=hid g;clear h g;by_cases hlen:l.length=m.length
 · go_enter Tryz.func67,Tryz.ntmps67
   go_wp2
   go_loopw [13] (fun i wr=>∃ (k n:Nat),k≤l.length∧i = .int .i64 (k:Int)∧l.take k=m.take k∧wr=w.drewN n) (fun i _=>l.length - (intOf i).toNat)
   case atStart=>exact⟨0,0,Nat.zero_le _,rfl,rfl,rfl⟩
   case round=>
    obtain⟨k,n,hk,rfl,hs,rfl⟩:=hrel
    have HS:=hid hs;clear hs;by_cases hlt:k < l.length
    · have hlt2:k < m.length:=by omega
      obtain⟨b,o,rfl,hb,hcell⟩:=H.out.at' k hlt
      obtain⟨b2,o2,rfl,hb2,hcell2⟩:=G.out.at' k hlt2
      have hi0:(0:Int)≤(k:Int):=by omega
      have hi1:(k:Int) < (l.length:Int):=by omega
      have hi2:(k:Int) < (m.length:Int):=by omega
      have HE:=hid (show l.take (k+1)=m.take (k+1)↔l[k]=m[k] by
       rw[List.take_succ_eq_append_getElem hlt,List.take_succ_eq_append_getElem (l:=m) hlt2,HS.out,List.append_right_inj]
       simp)
      generalize l[k]=x at *;generalize m[k]=y at *;by_cases hxy:x=y
      · subst hxy
        have HE1:=hid (HE.out.2 rfl);clear HE;go_wp2
        go_quiet (fail)
        go_wp2
        refine⟨⟨k+1,n+nq,by omega,by go_num,HE1.out,rfl⟩,by simp[intOf];omega⟩
      · have hne:¬ (x:Int)=(y:Int):=by omega
        go_wp2
        go_quiet (fail)
        go_wp2
        go_ret
        refine⟨?_,n+nq,World.drewN_drewN _ _ _⟩
        have:¬ l=m:=fun h=>hxy (HE.out.1 (by rw[h]))
        rw[decide_eq_false this];rfl
    · obtain rfl:k=l.length:=by omega
      have he:l=m:=by
       have:=HS.out
       rwa [List.take_length,hlen,List.take_length] at this
      go_wp2
      go_ret
      refine⟨?_,n,rfl⟩
      rw[decide_eq_true he];rfl
 · have hne:¬ (l.length:Int)=(m.length:Int):=by omega
   have hlm:¬ l=m:=fun h=>hlen (by rw[h])
   go_enter Tryz.func67,Tryz.ntmps67
   go_wp2
   go_ret
   refine⟨?_,0,rfl⟩
   rw[decide_eq_false hlm];rfl
theorem same_any {p' q' C':Nat} {g:Nat→Bool} (h:Mp w p q K C n f) (h':Mp w p' q' K C' n g) :
 Calls Tryz.prog 83 #[.pointer (some ⟨p,0,none⟩),.pointer (some ⟨p',0,none⟩)] w fun e w'=>e = .returned (.bool (decide (wds f K=wds g K)))∧∃ k,w'=w.drewN k:=by
 have hc0:=h.c0;have hc1:=h.c1;have hd0:=h'.c0;have hd1:=h'.c1;have hk:=h.kk;have hmx:=h.max
 have HE:=hid (fun k=>show Calls Tryz.prog 67 #[.slice (some ⟨q,0,none⟩) K C,.slice (some ⟨q',0,none⟩) K C'] (w.drewN k) fun e w'=>e = .returned (.bool (decide (wds f K=wds g K)))∧∃ n,w'=(w.drewN k).drewN n by
  have:=equal_any (w:=w.drewN k) (some ⟨q,0,none⟩) (some ⟨q',0,none⟩) C C' (wds f K) (wds g K) ((h.row.drewN k).wds (by omega)) ((h'.row.drewN k).wds (by omega))
  rwa [wds_len,wds_len] at this)
 generalize decide (wds f K=wds g K)=b at *;clear h h' hk hmx;go_enter Tryz.func83,Tryz.ntmps83
 go_wp2
 go_quiet ((go_at_call 67;exact Calls.quiet_of (HE.out _)))
 go_wp2
 go_ret
 exact⟨rfl,_,rfl⟩
end
end Bm
end
section
open Lib (hid)
open Go.RowKit Go.MapKept
namespace Bm
open Pack (Wds Nts)
theorem below_drewN {B:Nat} {a w:World} (h:Below B a w) (n:Nat):Below B a (w.drewN n):=⟨h.os,h.tape,h.output,h.size,h.block⟩
section
variable {w : World} {p q r K C n : Nat} {f : Nat → Bool}
theorem nts_cells (w:World) (l:List Int) (hb:∀ x∈l,-9223372036854775808≤x∧x≤9223372036854775807) (hl:l.length≤1000) (hq:q < w.heap.size):∀ w',Chg q (w.alloc (.cells (l.map (Value.int .i64)).toArray 3)) w'→Nts w' (some ⟨w.heap.size,0,none⟩) l:=fun w' hc=>
 ⟨hb,by omega,fun j hj=>by
   refine⟨w.heap.size,0,rfl,Nat.lt_of_lt_of_le (by simp) hc.size,?_⟩
   rw[hc.cell (p:=⟨w.heap.size,0+j,none⟩) (by simp) (by simp;omega)];refine (Pack.alloc_cell _ _ _ _).trans ?_;simp[hj]⟩
theorem wds_cells (w:World):Wds (w.alloc (.cells #[.int .u64 1,.int .u64 2] 50)) (some ⟨w.heap.size,0,none⟩) [1,2]:=
 ⟨fun x hx=>by
   have:x=1∨x=2:=by simpa using hx
   omega,by decide,fun j hj=>by
   have:j < 2:=hj
   match j,this with
   | 0,_=>exact⟨w.heap.size,0,rfl,by simp,Pack.alloc_cell _ _ _ _⟩
   | 1,_=>exact⟨w.heap.size,0,rfl,by simp,Pack.alloc_cell _ _ _ _⟩⟩
def ex:Nat→Bool:=(tn 70 true (fun _=>false) [0,65,70]).1
theorem ex_two:(tn 70 true (fun _=>false) [0,65,70]).2=2:=by decide +kernel
theorem ex_words:wds ex 2=[1,2]:=by decide +kernel
theorem ex_next:next ex true 70 1=65:=by decide +kernel
theorem ex_free:next ex false 70 0=1:=by decide +kernel
theorem lives_any (w:World) (hT:Tab w):Calls Tryz.prog 197 #[] w fun e w'=>e = .returned (.bool true)∧Below w.heap.size w w':=by
 have hlt:=hT.lt;have HT:=hid hT;have HN:=hid (new_any 70 70 2 (by decide) (by decide) w);have HPL:=hid (fun w=>Pack.lives_any w);clear hT;go_enter Tryz.func197,Tryz.ntmps197
 go_wp2_with fail
 refine HN.out.mono ?_;rintro e w1 ⟨rfl,hM,hb1⟩;have HM:=hid hM;have HB:=hid hb1;clear hM hb1;go_wp2_with fail
 refine (HPL.out _).mono ?_;rintro e w2 ⟨rfl,hb2⟩;have HM2:=hid (HM.out.keep hb2);have HB2:=hid (HB.out.trans (hb2.mono HB.out.size));have hsz:w.heap.size < w2.heap.size:=HM2.out.row.lt;clear hb2;have hmA:=HM2.out.keep ((Below.refl _ _).alloc (Nat.le_refl _) (.cells #[.int .i64 0,.int .i64 65,.int .i64 70] 3));have hput:=put_any hmA (some ⟨w2.heap.size,0,none⟩) 3 [0,65,70] (nts_cells w2 [0,65,70] (by intro x hx;simp at hx;omega) (by decide) HM2.out.row.lt);rw[ex_two] at hput;have HP:=hid (show Calls Tryz.prog 117 #[.pointer (some ⟨w.heap.size+1,0,none⟩),.slice (some ⟨w2.heap.size,0,none⟩) 3 3] (w2.alloc (.cells #[.int .i64 0,.int .i64 65,.int .i64 70] 3)) fun e w'=>e = .returned (.int .i64 2)∧Mp w' (w.heap.size+1) w.heap.size 2 2 70 ex∧Chg w.heap.size (w2.alloc (.cells #[.int .i64 0,.int .i64 65,.int .i64 70] 3)) w' from hput);clear hmA hput;go_wp2_with fail
 refine HP.out.mono ?_;rintro e w3 ⟨rfl,hM3,hC3⟩;have HM3:=hid hM3;have HC3:=hid (((Chg.refl w.heap.size w2).alloc _).trans hC3);have HB3:=hid (HB2.out.trans (HC3.out.below (Nat.le_of_lt hsz) (Nat.le_refl _)));clear hM3 hC3;go_wp2_with fail
 refine (words_any HM3.out).mono ?_;rintro e w4 ⟨g,gc,rfl,_,hg,hrow,hb4⟩;have HM4:=hid (HM3.out.keep hb4);have HB4:=hid (HB3.out.trans (hb4.mono HB3.out.size));have hwd:=hrow.wds (by decide);rw[ex_words] at hwd;have hba:=(Below.refl w4.heap.size w4).alloc (Nat.le_refl _) (.cells #[.int .u64 1,.int .u64 2] 50);have hsm:=Pack.same_any (some ⟨g,0,none⟩) (some ⟨w4.heap.size,0,none⟩) gc 2 [1,2] [1,2] (hwd.keep hba) (wds_cells w4);rw[decide_eq_true rfl] at hsm;have HSM:=hid (show Calls Tryz.prog 9 #[.slice (some ⟨g,0,none⟩) 2 gc,.slice (some ⟨w4.heap.size,0,none⟩) 2 2] (w4.alloc (.cells #[.int .u64 1,.int .u64 2] 50)) fun e w'=>e = .returned (.bool true)∧∃ n,w'=(w4.alloc (.cells #[.int .u64 1,.int .u64 2] 50)).drewN n from hsm);have HBA:=hid hba;clear hg hrow hb4 hwd hsm hba;go_wp2_with fail
 refine HSM.out.mono ?_;rintro e w5 ⟨rfl,k5,hw5⟩;have hb5:Below w4.heap.size w4 w5:=by rw[hw5];exact below_drewN HBA.out k5
 have HM5:=hid (HM4.out.keep hb5);have HB5:=hid (HB4.out.trans (hb5.mono HB4.out.size));have hT5:=HT.out.below HB5.out hlt;have hn1:=next_any HM5.out hT5 1 true (by decide);have hn2:=next_any HM5.out hT5 0 false (by decide);rw[show (1:Int).toNat=1 from rfl,ex_next] at hn1;rw[show (0:Int).toNat=0 from rfl,ex_free] at hn2;have HN1:=hid hn1;have HN2:=hid hn2;clear hw5 hb5 hT5 hn1 hn2;go_wp2_with fail
 refine HN1.out.mono ?_;rintro e w6 ⟨rfl,rfl⟩;go_wp2_with fail
 refine HN2.out.mono ?_;rintro e w6 ⟨rfl,rfl⟩;go_wp2
 go_ret
 exact⟨rfl,HB5.out⟩
end
end Bm
end
section
open Lib (hid)
open Go.RowKit Go.MapKept
namespace Rn
open Bm
structure Rs (w:World) (B:Nat) (A:Option Addr) (l:List Run):Prop where
 at':∀ j (h:j < l.length),∃ b o,A=some ⟨b,o,none⟩∧b < w.heap.size∧B≤b∧w.cell? ⟨b,o+j * 2,none⟩=some (.int .i64 (l[j].1:Int))∧w.cell? ⟨b,o+j * 2+1,none⟩=some (.int .i64 (l[j].2:Int))
theorem Rs.keep {w w':World} {B:Nat} {A:Option Addr} {l:List Run} (h:Rs w B A l) (hb:Below w.heap.size w w'):Rs w' B A l:=
 ⟨fun j hj=>by
   obtain⟨b,o,e,hlt,hB,hc,hd⟩:=h.at' j hj
   exact⟨b,o,e,Nat.lt_of_lt_of_le hlt hb.size,hB,(hb.cell (p:=⟨b,o+j * 2,none⟩) hlt).trans hc,(hb.cell (p:=⟨b,o+j * 2+1,none⟩) hlt).trans hd⟩⟩
theorem Rs.chg {w w':World} {B q:Nat} {A:Option Addr} {l:List Run} (h:Rs w B A l) (hb:Chg q w w') (hq:q < B):Rs w' B A l:=
 ⟨fun j hj=>by
   obtain⟨b,o,e,hlt,hB,hc,hd⟩:=h.at' j hj
   exact⟨b,o,e,Nat.lt_of_lt_of_le hlt hb.size,hB,(hb.cell (p:=⟨b,o+j * 2,none⟩) hlt (by simp only;omega)).trans hc,(hb.cell (p:=⟨b,o+j * 2+1,none⟩) hlt (by simp only;omega)).trans hd⟩⟩
theorem Rs.less {w:World} {B B':Nat} {A:Option Addr} {l:List Run} (h:Rs w B A l) (hB:B'≤B):Rs w B' A l:=
 ⟨fun j hj=>by
   obtain⟨b,o,e,hlt,hB2,hc,hd⟩:=h.at' j hj
   exact⟨b,o,e,hlt,by omega,hc,hd⟩⟩
abbrev rv (s c:Int):Value:=.agg #[.int .i64 s,.int .i64 c]
structure Own2 (w:World) (b:Nat) (x y:Int):Prop where
 lt:b < w.heap.size
 c0:w.cell? ⟨b,0,none⟩=some (.int .i64 x)
 c1:w.cell? ⟨b,1,none⟩=some (.int .i64 y)
 f:∀ o,w.frozen? ⟨b,o,none⟩=false
theorem Own2.keepN {w w':World} {b N:Nat} {x y:Int} (h:Own2 w b x y) (hb:Below N w w') (hN:b < N):Own2 w' b x y:=
 ⟨Nat.lt_of_lt_of_le h.lt hb.size,(hb.cell (p:=⟨b,0,none⟩) hN).trans h.c0,(hb.cell (p:=⟨b,1,none⟩) hN).trans h.c1,fun o=>(hb.frozen (p:=⟨b,o,none⟩) hN).trans (h.f o)⟩
theorem Own2.keep {w w':World} {b:Nat} {x y:Int} (h:Own2 w b x y) (hb:Below w.heap.size w w'):Own2 w' b x y:=h.keepN hb h.lt
theorem Own2.put {w:World} {b:Nat} {x y:Int} (h:Own2 w b x y) (x' y':Int):Own2 ((w.setCell ⟨b,0,none⟩ (.int .i64 x')).setCell ⟨b,1,none⟩ (.int .i64 y')) b x' y':=by
 have e0:((w.setCell ⟨b,0,none⟩ (.int .i64 x')).setCell ⟨b,1,none⟩ (.int .i64 y')).cell? ⟨b,0,none⟩=some (.int .i64 x'):=by
  rw[World.cell?_setCell_other _ _ _ _ (by simp)];exact World.cell?_setCell_same _ _ _ h.c0
 have e1:((w.setCell ⟨b,0,none⟩ (.int .i64 x')).setCell ⟨b,1,none⟩ (.int .i64 y')).cell? ⟨b,1,none⟩=some (.int .i64 y'):=
  World.cell?_setCell_same _ _ _ (u:=.int .i64 y) (by rw[World.cell?_setCell_other _ _ _ _ (by simp)];exact h.c1)
 exact⟨by simpa [World.setCell] using h.lt,e0,e1,fun o=>by simpa using h.f o⟩
theorem own2_new (w:World) (x y:Int) (t:TypeId):Own2 (w.alloc (.cells #[.int .i64 x,.int .i64 y] t)) w.heap.size x y:=
 ⟨by simp,World.cell?_alloc_mark w _ t _ 0,World.cell?_alloc_mark w _ t _ 1,fun o=>(World.rowIs_alloc w #[.int .i64 x,.int .i64 y] t (fun j=>if j=0 then .int .i64 x else .int .i64 y) (fun j hj=>by
   have:j < 2:=hj
   match j,this with
   | 0,_=>rfl
   | 1,_=>rfl)).frozen o⟩
section
variable {w : World} {p q K C n : Nat} {f : Nat → Bool}
theorem freeFrom_none (h:Mp w p q K C n f) (hT:Tab w) (s:Nat) (hs:s≤65534) (hF:From f n s []) :
 Calls Tryz.prog 254 #[.pointer (some ⟨p,0,none⟩),.int .i64 (s:Int)] w fun e w'=>e = .returned (.tuple #[rv 0 0,.bool false])∧Below w.heap.size w w':=by
 have HO:=hid (own2_new w 0 0 195);have hba:=(Below.refl w.heap.size w).alloc (Nat.le_refl _) (.cells #[.int .i64 0,.int .i64 0] 195);have hn:=next_any (h.keep hba) (hT.below hba hT.lt) (s:Int) false (by omega);rw[Int.toNat_natCast,hF.next_none] at hn;have HN:=hid hn;have HB:=hid hba;clear hn h hT hF hba;have hc0:=HO.out.c0;have hc1:=HO.out.c1;have hf0:=HO.out.f 0;have hf1:=HO.out.f 1;go_enter Tryz.func254,Tryz.ntmps254
 go_wp2_with fail
 generalize w.alloc (.cells #[.int .i64 0,.int .i64 0] 195)=w1 at *;refine HN.out.mono ?_;rintro e w2 ⟨rfl,rfl⟩;go_wp2
 refine bodyPost_ret (v:=.tuple #[rv 0 0,.bool false]) ?_ rfl ⟨rfl,?_⟩
 · simp[results,Tryz.results254,go_sem,hc0,hc1]
 · exact (HB.out.setCell (Nat.le_refl _) _).setCell (Nat.le_refl _) _
theorem freeFrom_some (h:Mp w p q K C n f) (hT:Tab w) (s a c:Nat) (l:List Run) (hs:s≤65534) (hF:From f n s ((a,c) :: l)) :
 Calls Tryz.prog 254 #[.pointer (some ⟨p,0,none⟩),.int .i64 (s:Int)] w fun e w'=>e = .returned (.tuple #[rv (a:Int) (c:Int),.bool true])∧Below w.heap.size w w':=by
 have hmx:=h.max
 obtain⟨e1,h1,h2,h3,h4,-⟩:=hF.next_some
 have HO:=hid (own2_new w 0 0 195);have hba:=(Below.refl w.heap.size w).alloc (Nat.le_refl _) (.cells #[.int .i64 0,.int .i64 0] 195);have hn:=next_any (h.keep hba) (hT.below hba hT.lt) (s:Int) false (by omega);rw[Int.toNat_natCast,e1] at hn;have hm:=next_any (h.keep hba) (hT.below hba hT.lt) (a:Int) true (by omega);rw[Int.toNat_natCast] at hm;have HL:=hid (len_any (h.keep hba));have HN:=hid hn;have HB:=hid hba;have ha:¬ (a:Int) = -1:=by omega
 have hc0:=HO.out.c0;have hc1:=HO.out.c1;have hf0:=HO.out.f 0;have hf1:=HO.out.f 1
 rcases h4 with ⟨h4,h5⟩ | h4
 · rw[h4] at hm
   have HM:=hid hm;have hsub:(n:Int) - (a:Int)=(c:Int):=by omega
   clear hn hm h hT hF h4 e1 hba;go_enter Tryz.func254,Tryz.ntmps254
   go_wp2_with fail
   generalize w.alloc (.cells #[.int .i64 0,.int .i64 0] 195)=w1 at *;refine HN.out.mono ?_;rintro e w2 ⟨rfl,rfl⟩;go_wp2_with fail
   refine HM.out.mono ?_;rintro e w2 ⟨rfl,rfl⟩;go_wp2_with fail
   refine HL.out.mono ?_;rintro e w2 ⟨rfl,rfl⟩;go_wp2
   refine bodyPost_ret (v:=.tuple #[rv (a:Int) (c:Int),.bool true]) ?_ rfl ⟨rfl,?_⟩
   · simp[results,Tryz.results254,go_sem,hc0,hc1]
   · exact (HB.out.setCell (Nat.le_refl _) _).setCell (Nat.le_refl _) _
 · rw[h4] at hm
   have HM:=hid hm
   obtain⟨k,hk⟩:∃ k,k=a+c:=⟨_,rfl⟩
   rw[← hk] at HM;have hsub:(k:Int) - (a:Int)=(c:Int):=by omega
   have hk1:¬ (k:Int) = -1:=by omega
   have hk2:k≤65534:=by omega
   clear hn hm h hT hF h4 e1 hk hba;go_enter Tryz.func254,Tryz.ntmps254
   go_wp2_with fail
   generalize w.alloc (.cells #[.int .i64 0,.int .i64 0] 195)=w1 at *;refine HN.out.mono ?_;rintro e w2 ⟨rfl,rfl⟩;go_wp2_with fail
   refine HM.out.mono ?_;rintro e w2 ⟨rfl,rfl⟩;go_wp2
   refine bodyPost_ret (v:=.tuple #[rv (a:Int) (c:Int),.bool true]) ?_ rfl ⟨rfl,?_⟩
   · simp[results,Tryz.results254,go_sem,hc0,hc1]
   · exact (HB.out.setCell (Nat.le_refl _) _).setCell (Nat.le_refl _) _
end
end Rn
end
section
open Lib (hid)
open Go.RowKit Go.MapKept
namespace Rn
open Bm
def fv:Option Run→Value
 | some r=>.tuple #[rv (r.1:Int) (r.2:Int),.bool true]
 | none=>.tuple #[rv 0 0,.bool false]
section
variable {w : World} {p q K C n : Nat} {f : Nat → Bool}
theorem fit_low (x:Int) (hx:x < 1):Calls Tryz.prog 244 #[.pointer (some ⟨p,0,none⟩),.int .i64 x] w fun e w'=>e = .returned (fv none)∧Below w.heap.size w w':=by
 have HO:=hid (own2_new w 0 0 195);have HB:=hid ((Below.refl w.heap.size w).alloc (Nat.le_refl _) (.cells #[.int .i64 0,.int .i64 0] 195));have hc0:=HO.out.c0;have hc1:=HO.out.c1;have hf0:=HO.out.f 0;have hf1:=HO.out.f 1;go_enter Tryz.func244,Tryz.ntmps244
 go_wp2
 refine bodyPost_ret (v:=fv none) ?_ rfl ⟨rfl,?_⟩
 · simp[results,Tryz.results244,go_sem,hc0,hc1,fv]
 · exact HB.out
def hd (l:List Run):Run:=l.headD (0,0)
theorem freeFrom_any (h:Mp w p q K C n f) (hT:Tab w) (s:Nat) (l:List Run) (hs:s≤65534) (hF:From f n s l) :
 Calls Tryz.prog 254 #[.pointer (some ⟨p,0,none⟩),.int .i64 (s:Int)] w fun e w'=>e = .returned (.tuple #[rv ((hd l).1:Int) ((hd l).2:Int),.bool (!l.isEmpty)])∧Below w.heap.size w w':=by
 cases l with
 | nil=>exact freeFrom_none h hT s hs hF
 | cons r l=>exact freeFrom_some h hT s r.1 r.2 l hs hF
def mu (n:Nat) (g b:Value) (w:World):Nat:=
 match g,b with
 | .pointer (some a),.bool true=>n+1 - (intOf ((w.cell? a).getD (.bool false))).toNat
 | _,_=>0
theorem mu_yes {g:Nat} {x:Nat} {y:Int} (h:Own2 w g (x:Int) y):mu n (.pointer (some ⟨g,0,none⟩)) (.bool true) w=n+1 - x:=by
 unfold mu;simp only;rw[h.c0];rfl
theorem mu_no (g:Value):mu n g (.bool false) w=0:=by
 unfold mu
 split
 · rename_i h;cases h
 · rfl
theorem mu_less {w:World} {f:Nat→Bool} {n g d a:Nat} {m:List Run} (h:Own2 w g ((hd m).1:Int) ((hd m).2:Int)) (hF:From f n d m) (hd:a < d) (ha:a≤n):mu n (.pointer (some ⟨g,0,none⟩)) (.bool (!m.isEmpty)) w < n+1 - a:=by
 cases m with
 | nil=>
   simp only[List.isEmpty_nil,Bool.not_true];rw[mu_no];omega
 | cons r m=>
   have:=hF.next_some.2
   simp only[List.isEmpty_cons,Bool.not_false];rw[mu_yes h];simp only[Rn.hd,List.headD_cons];omega
def Rd (w wr:World) (f:Nat→Bool) (n g s:Nat) (m:List Run):Prop:=
 From f n s m∧Own2 wr g ((hd m).1:Int) ((hd m).2:Int)∧Own2 wr w.heap.size 0 0∧w.heap.size < g∧Below w.heap.size w wr∧s≤n
theorem fit_any (h:Mp w p q K C n f) (hT:Tab w) (c:Nat) (hc:1≤c) (hc2:c≤9223372036854775807) :
 Calls Tryz.prog 244 #[.pointer (some ⟨p,0,none⟩),.int .i64 (c:Int)] w fun e w'=>e = .returned (fv (fit (frs f n) c))∧Below w.heap.size w w':=by
 have hmx:=h.max;have HO:=hid (own2_new w 0 0 195);have HB:=hid ((Below.refl w.heap.size w).alloc (Nat.le_refl _) (.cells #[.int .i64 0,.int .i64 0] 195));have HM0:=hid h;have HT0:=hid hT;have hc1:¬ (c:Int) < 1:=by omega
 have hF:=from_frs f n;generalize frs f n=L at *;have H0:=hid (freeFrom_any (h.keep HB.out) (hT.below HB.out hT.lt) 0 L (by omega) hF);have HF:=hid hF;clear h hT hF;go_enter Tryz.func244,Tryz.ntmps244
 go_wp2_with fail
 generalize w.alloc (.cells #[.int .i64 0,.int .i64 0] 195)=w1 at *;refine H0.out.mono ?_;rintro e w2 ⟨rfl,hb⟩;have HB2:=hid (HB.out.trans (hb.mono HB.out.size));have HO2:=hid (HO.out.keep hb);clear hb;go_wp2
 go_loopw [6,7] (fun gv bv wr=>∃ (g s:Nat) (m:List Run),gv = .pointer (some ⟨g,0,none⟩)∧bv = .bool (!m.isEmpty)∧fit L c=fit m c∧Rd w wr f n g s m) (fun gv bv wr=>mu n gv bv wr)
 case atStart=>
  refine⟨w2.heap.size,0,L,rfl,rfl,rfl,HF.out,own2_new w2 _ _ _,HO2.out.keep ((Below.refl _ _).alloc (Nat.le_refl _) _),HO2.out.lt,HB2.out.alloc HB2.out.size _,Nat.zero_le _⟩
 case round=>
  obtain⟨g,s,m,rfl,rfl,hfit,hF,hg,hr,hlt,hb,hsn⟩:=hrel
  cases m with
  | nil=>
    have HE:=hid hfit;have HB3:=hid hb;have HR:=hid hr;have hc0:=hr.c0;have hcc:=hr.c1;have hf0:=hr.f 0;have hf1:=hr.f 1;clear hfit hb hr hF hg;simp only[List.isEmpty_nil,Bool.not_true];go_wp2
    refine bodyPost_ret (v:=fv none) ?_ rfl ⟨?_,?_⟩
    · simp[results,Tryz.results244,go_sem,hc0,hcc,fv]
    · rw[HE.out];rfl
    · exact (HB3.out.setCell (Nat.le_refl _) _).setCell (Nat.le_refl _) _
  | cons r m=>
    obtain⟨a,k⟩:=r
    obtain⟨_,h1,h2,h3,_,hF2,_⟩:=hF.next_some
    have HE:=hid hfit;have HB3:=hid hb;have hg0:wr.cell? ⟨g,0,none⟩=some (.int .i64 (a:Int)):=hg.c0;have hg1:wr.cell? ⟨g,1,none⟩=some (.int .i64 (k:Int)):=hg.c1;have HMU:=hid (mu_yes (n:=n) (show Own2 wr g (a:Int) (k:Int) from hg));have HR:=hid hr;have HF2:=hid hF2;simp only[List.isEmpty_cons,Bool.not_false];by_cases hck:c≤k
    · have hck1:(c:Int)≤(k:Int):=by omega
      have hc0:=hr.c0;have hcc:=hr.c1;have hf0:=hr.f 0;have hf1:=hr.f 1;clear hfit hb hr hF hg hF2;go_wp2
      refine bodyPost_ret (v:=fv (some (a,c))) ?_ rfl ⟨?_,?_⟩
      · simp[results,Tryz.results244,go_sem,hc0,hcc,fv]
      · rw[HE.out,fit_yes hck]
      · exact (HB3.out.setCell (Nat.le_refl _) _).setCell (Nat.le_refl _) _
    · have hck1:¬ (c:Int)≤(k:Int):=by omega
      have hba:=(Below.refl wr.heap.size wr).alloc (Nat.le_refl _) (.cells #[.int .i64 (a:Int),.int .i64 (k:Int)] 195);have hb4:=hb.alloc hb.size (.cells #[.int .i64 (a:Int),.int .i64 (k:Int)] 195);have HB4:=hid hb4;have HO4:=hid (own2_new wr (a:Int) (k:Int) 195);have HR4:=hid (hr.keep hba)
      obtain⟨d,hd⟩:∃ d,d=a+k:=⟨_,rfl⟩
      rw[← hd] at hF2;have HC:=hid (freeFrom_any (HM0.out.keep hb4) (HT0.out.below hb4 HT0.out.lt) d m (by omega) hF2);have hsum:(a:Int)+(k:Int)=(d:Int):=by omega
      have hd2:d≤n:=by omega
      have HF3:=hid hF2;have HD:=hid hd;have hcl0:=HO4.out.c0;have hcl1:=HO4.out.c1;have hfl0:=HO4.out.f 0;have hfl1:=HO4.out.f 1;have hrl:w.heap.size < wr.heap.size:=hr.lt;clear hfit hb hr hF hg hF2 hba hb4 hd;go_wp2_with fail
      generalize wr.alloc (.cells #[.int .i64 (a:Int),.int .i64 (k:Int)] 195)=w3 at *;generalize wr.heap.size=z at *;refine HC.out.mono ?_;rintro e w4 ⟨rfl,hb⟩;have HB5:=hid (HB4.out.trans (hb.mono HB4.out.size));have HO5:=hid (HO4.out.keep hb);have HR5:=hid (HR4.out.keep hb);have hfz0:=HO5.out.f 0;have hfz1:=HO5.out.f 1;have hcz0:=HO5.out.c0;have hcz1:=HO5.out.c1;clear hb hcl0 hcl1 hfl0 hfl1 hsum;go_wp2
      have HX:=hid (HO5.out.put ((hd m).1:Int) ((hd m).2:Int));have HXR:=hid (HR5.out.keepN (((Below.refl (w.heap.size+1) w4).setCell (p:=⟨z,0,none⟩) hrl (.int .i64 ((hd m).1:Int))).setCell (p:=⟨z,1,none⟩) hrl (.int .i64 ((hd m).2:Int))) (Nat.lt_succ_self _));have HXB:=hid ((HB5.out.setCell (p:=⟨z,0,none⟩) (Nat.le_of_lt hrl) (.int .i64 ((hd m).1:Int))).setCell (p:=⟨z,1,none⟩) (Nat.le_of_lt hrl) (.int .i64 ((hd m).2:Int)))
      refine⟨⟨z,d,m,rfl,rfl,?_,HF3.out,HX.out,HXR.out,hrl,HXB.out,hd2⟩,?_⟩
      · rw[HE.out,fit_no hck]
      · rw[HMU.out]
        exact mu_less HX.out HF3.out (by have:=HD.out;omega) (by omega)
end
end Rn
end
section
open Lib (hid)
open Go.RowKit Go.MapKept
namespace Rn
open Bm
def rcells (l:List Run):List Value:=l.flatMap fun r=>[.int .i64 (r.1:Int),.int .i64 (r.2:Int)]
theorem rcells_get {l:List Run}:∀ {j:Nat} (h:j < l.length),(rcells l)[j * 2]? = some (.int .i64 (l[j].1:Int))∧(rcells l)[j * 2+1]? = some (.int .i64 (l[j].2:Int)):=by
 induction l with
 | nil=>intro j h;simp at h
 | cons f l ih=>
   intro j h
   cases j with
   | zero=>exact⟨rfl,rfl⟩
   | succ j=>
     have:=ih (j:=j) (by simpa using h)
     have e:(j+1) * 2=j * 2+1+1:=by omega
     rw[e]
     simpa [rcells] using this
theorem rcells_len (l:List Run):(rcells l).length=l.length * 2:=by
 induction l with
 | nil=>rfl
 | cons f l ih=>simp only[rcells,List.flatMap_cons,List.length_append,List.length_cons,List.length_nil] at *;omega
theorem rcells_snoc (l:List Run) (r:Run):rcells (l++[r])=rcells l++[.int .i64 (r.1:Int),.int .i64 (r.2:Int)]:=by
 unfold rcells;rw[List.flatMap_append];simp
theorem own_rs {W:World} {B n c:Nat} {t:TypeId} {G:Option Addr} {l:List Run} (h:W.ownsRow B t 2 (.slice G n c) n (rcells l)):Rs W B G l∧l.length=n:=by
 have hl:l.length=n:=by
  have:=h.1
  rw[rcells_len] at this;omega
 refine⟨⟨fun j hj=>?_⟩,hl⟩
 obtain⟨f0,f1⟩:=rcells_get hj
 rcases h.2 with ⟨e,h0⟩ | ⟨g,cap,cur,e,hB,hh,_,_,_,ht⟩
 · omega
 · injection e with e
   subst e
   have key:∀ i,i < n * 2→W.cell? ⟨g,0+i,none⟩=(rcells l)[i]?:=fun i hi=>by
    have:=congrArg (·[i]?) ht
    rw[List.getElem?_take,if_pos hi] at this;unfold World.cell?;rw[hh,Nat.zero_add];simp only;rw[← Array.getElem?_toList];exact this
   exact⟨g,0,rfl,(Array.getElem?_eq_some_iff.1 hh).1,hB,(key _ (by omega)).trans f0,(key (j * 2+1) (by omega)).trans f1⟩
theorem row_slice2 {B n:Nat} {W:World} {e:TypeId} {v:Value} {xs:List Value} (h:W.ownsRow B e 2 v n xs):∃ G c,v = .slice G n c:=by
 rcases h.2 with ⟨e,h0⟩ | ⟨g,cap,cur,e,_⟩
 · exact⟨none,0,by rw[e,h0]⟩
 · exact⟨_,_,e⟩
theorem row_base_lt2 {w:World} {B:Nat} {e:TypeId} {n:Nat} {v:Value} {xs:List Value} (h:w.ownsRow B e 2 v n xs) {g:Nat} (hg:v.ownBlock=some g):B≤g:=(World.ownsRow.lt h g hg).1
theorem own_keepN2 {w w':World} {B N n:Nat} {t:TypeId} {v:Value} {xs:List Value} (h:w.ownsRow B t 2 v n xs) (hb:Below N w w') (hN:∀ g,v.ownBlock=some g→g < N):w'.ownsRow B t 2 v n xs:=by
 rcases h with ⟨h1,h2⟩
 refine⟨h1,?_⟩
 rcases h2 with h0 | ⟨g,cap,cur,e,hB,hh,hr⟩
 · exact .inl h0
 · exact .inr ⟨g,cap,cur,e,hB,(hb.block g (hN g (by rw[e];rfl))).trans hh,hr⟩
theorem own_keep2 {w w':World} {B n:Nat} {t:TypeId} {v:Value} {xs:List Value} (h:w.ownsRow B t 2 v n xs) (hb:Below w.heap.size w w'):w'.ownsRow B t 2 v n xs:=
 own_keepN2 h hb (fun g hg=>(World.ownsRow.lt h g hg).2)
theorem Own2.grown {w w':World} {b:Nat} {x y:Int} {row:Option Nat} (h:Own2 w b x y) (hg:w.grownBy w' row) (hne:some b≠row):Own2 w' b x y:=
 ⟨Nat.lt_of_lt_of_le h.lt hg.size,hg.cell h.c0 hne,hg.cell h.c1 hne,fun o=>(World.frozen?_of_block (w:=w) (a:=⟨b,o,none⟩) (hg.block b h.lt hne)).trans (h.f o)⟩
theorem run_info:(Tryz.prog.info? 195).map (fun i=>(i.zero,i.size,i.bytes))=some (some (.agg #[.int .i64 0,.int .i64 0]),2,16):=by kernel_rfl
theorem cells_two_new (w:World) (x y:Value) (t:TypeId):∀ j u,[x,y][j]? = some u→(w.alloc (.cells #[x,y] t)).cell? ((⟨w.heap.size,0,none⟩:Addr).add j)=some u:=by
 intro j u hj
 match j,hj with
 | 0,hj=>
   simp at hj;subst hj;simp[Addr.add]
 | 1,hj=>
   simp at hj;subst hj;simp[Addr.add]
def GotR (t:TypeId) (w wr:World) (G:Option Addr) (n gc:Nat) (l:List Run):Prop:=wr.ownsRow w.heap.size t 2 (.slice G n gc) n (rcells l)∧Below w.heap.size w wr
def RsR (w:World) (l:List Run) (e:Ending) (w':World):Prop:=∃ (G:Option Addr) (gc:Nat),e = .returned (.slice G l.length gc)∧Rs w' w.heap.size G l∧Below w.heap.size w w'
theorem frs_len (f:Nat→Bool):∀ n,(frs f n).length≤n
 | 0=>Nat.le_refl _
 | b+1=>by
   have ih:=frs_len f b;rw[frs]
   split
   · omega
   · unfold ext
     split
     · split
       · simp;omega
       · simp;omega
     · simp;omega
def Rf (w wr:World) (f:Nat→Bool) (n g s:Nat) (L m:List Run) (G:Option Addr) (k gc:Nat):Prop:=
 From f n s m∧Own2 wr g ((hd m).1:Int) ((hd m).2:Int)∧w.heap.size≤g∧GotR 195 w wr G k gc (L.take k)∧k≤L.length∧L.drop k=m∧s≤n∧some g≠(Value.slice G k gc).ownBlock
section
variable {w : World} {p q K C n : Nat} {f : Nat → Bool}
theorem free_any' (h:Mp w p q K C n f) (hT:Tab w) :
 Calls Tryz.prog 245 #[.pointer (some ⟨p,0,none⟩)] w (RsR w (frs f n)):=by
 have hmx:=h.max;have HM0:=hid h;have HT0:=hid hT;have hlen:=frs_len f n;have hF:=from_frs f n;generalize frs f n=L at *;have H0:=hid (freeFrom_any h hT 0 L (by omega) hF);have HF:=hid hF
 obtain⟨i0,hi0,hz0,hz1,hz2⟩:=info_parts run_info
 clear h hT hF;go_enter Tryz.func245,Tryz.ntmps245
 go_wp2_with fail
 refine H0.out.mono ?_;rintro e w2 ⟨rfl,hb⟩;have HB2:=hid hb;clear hb;go_wp2
 go_loopw [3,4,5] (fun sv gv bv wr=>∃ (g s k gc:Nat) (G:Option Addr) (m:List Run),sv = .slice G k gc∧gv = .pointer (some ⟨g,0,none⟩)∧bv = .bool (!m.isEmpty)∧Rf w wr f n g s L m G k gc) (fun _ gv bv wr=>mu n gv bv wr)
 case atStart=>
  refine⟨w2.heap.size,0,0,0,none,L,rfl,rfl,rfl,HF.out,own2_new w2 _ _ _,HB2.out.size,⟨⟨by rw[List.take_zero];rfl,.inl ⟨rfl,rfl⟩⟩,HB2.out.alloc HB2.out.size _⟩,Nat.zero_le _,rfl,Nat.zero_le _,by simp[Value.ownBlock]⟩
 case round=>
  obtain⟨g,s,k,gc,G,m,rfl,rfl,rfl,hF,hg,hwg,hgot,hk,hdr,hsn,hne⟩:=hrel
  cases m with
  | nil=>
    have hk2:k=L.length:=by
     have:=congrArg List.length hdr
     simp at this;omega
    subst hk2;rw[List.take_length] at hgot
    obtain⟨hrs,-⟩:=own_rs hgot.1
    have HE:=hid (show RsR w L (.returned (.slice G L.length gc)) wr from ⟨G,gc,rfl,hrs,hgot.2⟩);clear hF hg hgot hdr hne hrs hk;simp only[List.isEmpty_nil,Bool.not_true];go_wp2
    go_ret;exact HE.out
  | cons r m=>
    obtain⟨a,c⟩:=r
    obtain⟨_,h1,h2,h3,_,hF2,_⟩:=hF.next_some
    have hlt:k < L.length:=by
     have:=congrArg List.length hdr
     simp at this;omega
    have HTK:=hid (show L.take (k+1)=L.take k++[(a,c)]∧L.drop (k+1)=m from by
     have e:L[k] :: L.drop (k+1)=(a,c) :: m:=by rw[← List.drop_eq_getElem_cons hlt];exact hdr
     injection e with e1 e2
     exact⟨by rw[List.take_succ_eq_append_getElem hlt,e1],e2⟩)
    have hg0:wr.cell? ⟨g,0,none⟩=some (.int .i64 (a:Int)):=hg.c0;have hg1:wr.cell? ⟨g,1,none⟩=some (.int .i64 (c:Int)):=hg.c1;have HMU:=hid (mu_yes (n:=n) (show Own2 wr g (a:Int) (c:Int) from hg));have HG:=hid hgot;have HGG:=hid hg;have hkn:k≤65534:=by omega
    have HOWN:=hid (hgot.1.alloc (.cells #[.int .i64 (a:Int),.int .i64 (c:Int)] 195));have HB3:=hid (hgot.2.alloc hgot.2.size (.cells #[.int .i64 (a:Int),.int .i64 (c:Int)] 195));have HCT:=hid (cells_two_new wr (.int .i64 (a:Int)) (.int .i64 (c:Int)) 195);clear hF hg hgot hdr hk;simp only[List.isEmpty_cons,Bool.not_false];have hgl:=HGG.out.lt
    obtain⟨d,hd⟩:∃ d,d=a+c:=⟨_,rfl⟩
    rw[← hd] at hF2;have hsum:(a:Int)+(c:Int)=(d:Int):=by omega
    have hdn:d≤n:=by omega
    have HD:=hid hd;have HF3:=hid hF2;clear hF2 hd
    go_wp2_with (at_builtin;refine wpList_append_own_at _ rfl (.tmp 22) (.tmp 24) 272 rfl w.heap.size 195 i0 (.agg #[.int .i64 0,.int .i64 0]) 2 16 Tryz.underlying272 hi0 hz0 hz1 hz2 rfl (by decide) (.slice G k gc) k (rcells (L.take k)) rfl HOWN.out ⟨wr.heap.size,0,none⟩ 1 1 [.int .i64 (a:Int),.int .i64 (c:Int)] rfl rfl HCT.out (by simp[Value.oneCell']) (by unfold maxLen;omega) (by omega) (by have:=HB3.out.size;omega) ?_
                 intro v' w3 hown3 hgr3 _ _
                 obtain⟨G',gc',rfl⟩:=row_slice2 hown3
                 have HO3:=hid hown3;have HG3:=hid hgr3;have HB4:=hid (HB3.out.grown hgr3 HB3.out.size (fun k hk=>row_base_lt2 HG.out.1 hk));have HL3:=hid (fun g hg=>(World.ownsRow.lt hown3 g hg).2);have HGG3:=hid ((HGG.out.keep ((Below.refl _ _).alloc (Nat.le_refl _) _)).grown hgr3 hne);have hg30:w3.cell? ⟨g,0,none⟩=some (.int .i64 (a:Int)):=HGG3.out.c0;have hg31:w3.cell? ⟨g,1,none⟩=some (.int .i64 (c:Int)):=HGG3.out.c1;have hg3l:=HGG3.out.lt;clear hown3 hgr3 hg0 hg1)
    have hba:=(Below.refl w3.heap.size w3).alloc (Nat.le_refl _) (.cells #[.int .i64 (a:Int),.int .i64 (c:Int)] 195);have HB5:=hid (HB4.out.alloc HB4.out.size (.cells #[.int .i64 (a:Int),.int .i64 (c:Int)] 195));have HOZ:=hid (own2_new w3 (a:Int) (c:Int) 195);have HO4:=hid (own_keep2 HO3.out hba);have HC:=hid (freeFrom_any (HM0.out.keep HB5.out) (HT0.out.below HB5.out HT0.out.lt) d m (by omega) HF3.out);have hzw:w.heap.size≤w3.heap.size:=HB4.out.size;clear hba hg30 hg31;generalize w3.alloc (.cells #[.int .i64 (a:Int),.int .i64 (c:Int)] 195)=w4 at *;generalize w3.heap.size=z at *
    (with_reducible refine HC.out.mono ?_)
    rintro e w5 ⟨rfl,hb⟩;have HB6:=hid (HB5.out.trans (hb.mono HB5.out.size));have HOZ5:=hid (HOZ.out.keep hb);have HO5:=hid (own_keep2 HO4.out hb);have hfz0:=HOZ5.out.f 0;have hfz1:=HOZ5.out.f 1;have hcz0:=HOZ5.out.c0;have hcz1:=HOZ5.out.c1;clear hb hsum;go_wp2
    have HX:=hid (HOZ5.out.put ((hd m).1:Int) ((hd m).2:Int));have HXO:=hid (own_keepN2 HO5.out (((Below.refl z w5).setCell (p:=⟨z,0,none⟩) (Nat.le_refl _) (.int .i64 ((hd m).1:Int))).setCell (p:=⟨z,1,none⟩) (Nat.le_refl _) (.int .i64 ((hd m).2:Int))) HL3.out);have HXB:=hid ((HB6.out.setCell (p:=⟨z,0,none⟩) hzw (.int .i64 ((hd m).1:Int))).setCell (p:=⟨z,1,none⟩) hzw (.int .i64 ((hd m).2:Int)))
    refine⟨⟨z,d,k+1,gc',G',m,rfl,rfl,rfl,HF3.out,HX.out,hzw,⟨?_,HXB.out⟩,by omega,HTK.out.2,by omega,fun e=>Nat.lt_irrefl z (HL3.out z e.symm)⟩,?_⟩
    · rw[HTK.out.1,rcells_snoc]
      exact HXO.out
    · rw[HMU.out]
      exact mu_less HX.out HF3.out (by have:=HD.out;omega) (by omega)
end
end Rn
end
section
open Lib (hid)
open Go.RowKit Go.MapKept
namespace Rn
open Bm
section
variable {w : World} {p q K C n : Nat} {f : Nat → Bool}
theorem cut_len_take (l:List Run) (k c:Nat):(cut (l.take k) c).length≤k:=by
 have:=(cut_le (l.take k) c).2
 rw[List.length_take] at this;omega
theorem choose_cut (h:Mp w p q K C n f) (hT:Tab w) (c:Nat) (hc:c≤65534) (hFit:Calls Tryz.prog 244 #[.pointer (some ⟨p,0,none⟩),.int .i64 (c:Int)] w fun e w'=>e = .returned (fv none)∧Below w.heap.size w w') :
 Calls Tryz.prog 227 #[.pointer (some ⟨p,0,none⟩),.int .i64 (c:Int)] w (RsR w (cut (frs f n) c)):=by
 have hmx:=h.max;have hlen:=frs_len f n;have HM0:=hid h;have HT0:=hid hT;have HF:=hid hFit;have HFR:=hid (fun (w':World) (h:Mp w' p q K C n f) (hT:Tab w')=>free_any' h hT)
 obtain⟨i0,hi0,hz0,hz1,hz2⟩:=info_parts run_info
 clear h hT hFit;generalize frs f n=L at *;unfold fv at HF;simp only at HF;go_enter Tryz.func227,Tryz.ntmps227
 go_wp2_with fail
 refine HF.out.mono ?_;rintro e w1 ⟨rfl,hb⟩;have HB1:=hid hb;clear hb;go_wp2_with fail
 have HB2:=hid (HB1.out.alloc HB1.out.size (.cells #[.int .i64 0,.int .i64 0] 195));have HC:=hid (HFR.out _ (HM0.out.keep HB2.out) (HT0.out.below HB2.out HT0.out.lt));generalize w1.alloc (.cells #[.int .i64 0,.int .i64 0] 195)=w2 at *;refine HC.out.mono ?_;rintro e w3 ⟨F,fc,rfl,hrs,hb⟩;have HRS:=hid (hrs.less HB2.out.size);have HB3:=hid (HB2.out.trans (hb.mono HB2.out.size));clear hrs hb;go_wp2
 go_loopw [1,7,22] (fun cv sv i wr=>∃ (k m gc:Nat) (G:Option Addr),k≤L.length∧i = .int .i64 (k:Int)∧cv = .int .i64 ((c - tot (cut (L.take k) c):Nat):Int)∧sv = .slice G m gc∧GotR 195 w3 wr G m gc (cut (L.take k) c)) (fun _ _ i _=>L.length - (intOf i).toNat)
 case atStart=>
  exact⟨0,0,0,none,Nat.zero_le _,rfl,rfl,rfl,⟨by rw[List.take_zero];rfl,.inl ⟨rfl,rfl⟩⟩,Below.refl _ _⟩
 case round=>
  obtain⟨k,m,gc,G,hk,rfl,rfl,rfl,hgot⟩:=hrel
  by_cases hlt:k < L.length
  · have hrs:=HRS.out.keep hgot.2
    obtain⟨b,o,rfl,hbb,_,hc0,hc1⟩:=hrs.at' k hlt
    have hct:=cut_take (c:=c) hlt;have hcf:=cut_full (l:=L) (k:=k) (c:=c);have hcl:=cut_len_take L k c;have htl:=(cut_le (L.take k) c).1
    obtain⟨hrs2,hml⟩:=own_rs hgot.1
    have HG:=hid hgot;have HCT:=hid hct;have HCF:=hid hcf;have hj0:(0:Int)≤(k:Int):=by omega
    have hj1:(k:Int) < (L.length:Int):=by omega
    clear hgot hrs hct hcf;generalize L[k]=r at *
    obtain⟨a,x⟩:=r
    generalize cut (L.take k) c=S at *;generalize hu:c - tot S=u at *;have huc:u≤c:=by omega
    have HU:=hid hu;have HSL:=hid hml;have hmn:m≤65534:=by omega
    clear hu hml htl hcl;simp only at hc0 hc1 HCT;by_cases hu0:u=0
    · subst hu0
      have HX:=hid (show RsR w (cut L c) (.returned (.slice G m gc)) (wr.alloc (.cells #[.int .i64 (a:Int),.int .i64 (x:Int)] 195)) from by
       rw[HCF.out rfl,← HSL.out]
       exact⟨G,gc,rfl,(hrs2.keep ((Below.refl _ _).alloc (Nat.le_refl _) _)).less HB3.out.size,(HB3.out.trans (HG.out.2.mono HB3.out.size)).alloc (by have:=HB3.out.size;have:=HG.out.2.size;omega) _⟩)
      clear hrs2;go_wp2
      go_ret;exact HX.out
    · have hu1:¬ (u:Int)=0:=by omega
      clear hrs2
      obtain⟨v,hv⟩:∃ v,v=min x u:=⟨_,rfl⟩
      have HT2:=hid (show cut (L.take (k+1)) c=S++[(a,v)]∧c - tot (S++[(a,v)])=u - v from by
       have h1:=HU.out
       refine⟨by rw[HCT.out,if_neg hu0,hv],?_⟩
       rw[tot_snoc];simp only
       omega)
      have hvu:v≤u:=by omega
      have HV:=hid hv;clear hv;have HSUB:=hid (show (u:Int) - (v:Int)=((u - v:Nat):Int) by omega);generalize u - v=u2 at *;have HGL:=hid (fun g hg=>(World.ownsRow.lt HG.out.1 g hg).2);have HGW:=hid HG.out.2.size;by_cases hxu:x≤u
      · have hxu1:(x:Int)≤(u:Int):=by omega
        obtain rfl:v=x:=by rw[HV.out];omega
        clear hxu HV;have HOZ:=hid (own2_new wr (a:Int) (v:Int) 195);have HBA:=hid ((Below.refl wr.heap.size wr).alloc (Nat.le_refl _) (.cells #[.int .i64 (a:Int),.int .i64 (v:Int)] 195));have HOWN:=hid ((own_keep2 HG.out.1 HBA.out).alloc (.cells #[.int .i64 (a:Int),.int .i64 (v:Int)] 195));have HB4:=hid ((HG.out.2.trans (HBA.out.mono HG.out.2.size)).alloc (by have:=HBA.out.size;have:=HG.out.2.size;omega) (.cells #[.int .i64 (a:Int),.int .i64 (v:Int)] 195));have HCN:=hid (cells_two_new (wr.alloc (.cells #[.int .i64 (a:Int),.int .i64 (v:Int)] 195)) (.int .i64 (a:Int)) (.int .i64 (v:Int)) 195);rw[World.size_alloc] at HCN
        go_wp2_with (at_builtin;refine wpList_append_own_at _ rfl (.tmp 33) (.tmp 35) 272 rfl w3.heap.size 195 i0 (.agg #[.int .i64 0,.int .i64 0]) 2 16 Tryz.underlying272 hi0 hz0 hz1 hz2 rfl (by decide) (.slice G m gc) m (rcells S) rfl HOWN.out ⟨wr.heap.size+1,0,none⟩ 1 1 [.int .i64 (a:Int),.int .i64 (v:Int)] rfl rfl HCN.out (by simp[Value.oneCell']) (by unfold maxLen;omega) (by omega) (by have:=HB4.out.size;omega) ?_
                     intro v' w4 hown4 hgr4 _ _
                     obtain⟨G',gc',rfl⟩:=row_slice2 hown4
                     have HO4:=hid hown4;have HZ4:=hid ((HOZ.out.keep ((Below.refl _ _).alloc (Nat.le_refl _) _)).grown hgr4 (fun e=>Nat.lt_irrefl _ (HGL.out _ e.symm)));have HB5:=hid (HB4.out.grown hgr4 HB4.out.size (fun k hk=>row_base_lt2 HG.out.1 hk));have hz41:w4.cell? ⟨wr.heap.size,1,none⟩=some (.int .i64 (v:Int)):=HZ4.out.c1;clear hown4 hgr4)
        refine⟨⟨k+1,m+1,gc',G',by omega,by go_num,?_,rfl,⟨?_,HB5.out⟩⟩,by simp[intOf];omega⟩
        · rw[HT2.out.1,HT2.out.2,← HSUB.out]
          try rw[Int.sub_self]
        · rw[HT2.out.1,rcells_snoc]
          exact HO4.out
      · have hxu1:¬ (x:Int)≤(u:Int):=by omega
        obtain rfl:v=u:=by rw[HV.out];omega
        clear hxu HV;have HOZ:=hid (own2_new wr (a:Int) (v:Int) 195);have HBA:=hid ((Below.refl wr.heap.size wr).alloc (Nat.le_refl _) (.cells #[.int .i64 (a:Int),.int .i64 (v:Int)] 195));have HOWN:=hid ((own_keep2 HG.out.1 HBA.out).alloc (.cells #[.int .i64 (a:Int),.int .i64 (v:Int)] 195));have HB4:=hid ((HG.out.2.trans (HBA.out.mono HG.out.2.size)).alloc (by have:=HBA.out.size;have:=HG.out.2.size;omega) (.cells #[.int .i64 (a:Int),.int .i64 (v:Int)] 195));have HCN:=hid (cells_two_new (wr.alloc (.cells #[.int .i64 (a:Int),.int .i64 (v:Int)] 195)) (.int .i64 (a:Int)) (.int .i64 (v:Int)) 195);rw[World.size_alloc] at HCN
        go_wp2_with (at_builtin;refine wpList_append_own_at _ rfl (.tmp 33) (.tmp 35) 272 rfl w3.heap.size 195 i0 (.agg #[.int .i64 0,.int .i64 0]) 2 16 Tryz.underlying272 hi0 hz0 hz1 hz2 rfl (by decide) (.slice G m gc) m (rcells S) rfl HOWN.out ⟨wr.heap.size+1,0,none⟩ 1 1 [.int .i64 (a:Int),.int .i64 (v:Int)] rfl rfl HCN.out (by simp[Value.oneCell']) (by unfold maxLen;omega) (by omega) (by have:=HB4.out.size;omega) ?_
                     intro v' w4 hown4 hgr4 _ _
                     obtain⟨G',gc',rfl⟩:=row_slice2 hown4
                     have HO4:=hid hown4;have HZ4:=hid ((HOZ.out.keep ((Below.refl _ _).alloc (Nat.le_refl _) _)).grown hgr4 (fun e=>Nat.lt_irrefl _ (HGL.out _ e.symm)));have HB5:=hid (HB4.out.grown hgr4 HB4.out.size (fun k hk=>row_base_lt2 HG.out.1 hk));have hz41:w4.cell? ⟨wr.heap.size,1,none⟩=some (.int .i64 (v:Int)):=HZ4.out.c1;clear hown4 hgr4)
        refine⟨⟨k+1,m+1,gc',G',by omega,by go_num,?_,rfl,⟨?_,HB5.out⟩⟩,by simp[intOf];omega⟩
        · rw[HT2.out.1,HT2.out.2,← HSUB.out]
          try rw[Int.sub_self]
        · rw[HT2.out.1,rcells_snoc]
          exact HO4.out
  · obtain rfl:k=L.length:=by omega
    rw[List.take_length] at hgot
    obtain⟨hrs2,hml⟩:=own_rs hgot.1
    have HX:=hid (show RsR w (cut L c) (.returned (.slice G m gc)) wr from by
     rw[← hml]
     exact⟨G,gc,rfl,hrs2.less HB3.out.size,HB3.out.trans (hgot.2.mono HB3.out.size)⟩)
    clear hgot hrs2 hml;go_wp2
    go_ret;exact HX.out
theorem cho_fit {L:List Run} {c:Nat} {r:Run} (hc:1≤c) (h:fit L c=some r):cho L c=[r]:=by
 unfold cho;rw[if_pos hc,h]
theorem cho_none {L:List Run} {c:Nat} (h:c=0∨fit L c=none):cho L c=cut L c:=by
 unfold cho
 split
 · rename_i hc
   rw[h.resolve_left (by omega)]
 · rw[show c=0 by omega,cut_zero]
theorem choose_any (h:Mp w p q K C n f) (hT:Tab w) (c:Nat) (hc:c≤65534) :
 Calls Tryz.prog 227 #[.pointer (some ⟨p,0,none⟩),.int .i64 (c:Int)] w (RsR w (cho (frs f n) c)):=by
 by_cases h0:c=0
 · rw[cho_none (.inl h0)]
   exact choose_cut h hT c hc (fit_low _ (by omega))
 · have hF:=fit_any h hT c (by omega) (by omega)
   cases hf:fit (frs f n) c with
   | none=>
     rw[cho_none (.inr hf)];rw[hf] at hF;exact choose_cut h hT c hc hF
   | some r=>
     obtain⟨a,k⟩:=r
     rw[cho_fit (by omega) hf];rw[hf] at hF;unfold fv at hF;simp only at hF;have HF:=hid hF;clear h hT hF hf;go_enter Tryz.func227,Tryz.ntmps227
     go_wp2_with fail
     refine HF.out.mono ?_;rintro e w1 ⟨rfl,hb⟩
     have HX:=hid (show RsR w [(a,k)] (.returned (.slice (some ⟨w1.heap.size+1,0,none⟩) 1 1)) ((w1.alloc (.cells #[.int .i64 (a:Int),.int .i64 (k:Int)] 195)).alloc (.cells #[.int .i64 (a:Int),.int .i64 (k:Int)] 195)) from by
      have HO:=own2_new (w1.alloc (.cells #[.int .i64 (a:Int),.int .i64 (k:Int)] 195)) (a:Int) (k:Int) 195;rw[World.size_alloc] at HO
      refine⟨_,_,rfl,⟨fun j hj=>?_⟩,(hb.alloc hb.size _).alloc (by have:=hb.size;simp;omega) _⟩
      obtain rfl:j=0:=by simpa using hj
      exact⟨w1.heap.size+1,0,rfl,HO.lt,by have:=hb.size;omega,HO.c0,HO.c1⟩)
     clear hb;go_wp2
     go_ret;exact HX.out
def TkR (w:World) (p q K C n:Nat) (f:Nat→Bool) (l:List Run) (e:Ending) (w':World):Prop:=
 ∃ (G:Option Addr) (gc:Nat),e = .returned (.tuple #[.slice G l.length gc,.bool true])∧Rs w' w.heap.size G l∧Mp w' p q K C n (fl f l)∧Chg q w w'
theorem cho_len (L:List Run) (c:Nat):(cho L c).length≤L.length+1:=by
 unfold cho
 split
 · split
   · simp
   · have:=(cut_le L c).2
     omega
 · simp
theorem take_no (h:Mp w p q K C n f) (c:Int) (hc:c < 0∨((n - cnt f n:Nat):Int) < c) :
 Calls Tryz.prog 198 #[.pointer (some ⟨p,0,none⟩),.int .i64 c] w fun e w'=>e = .returned (.tuple #[.slice none 0 0,.bool false])∧∃ k,w'=w.drewN k:=by
 have HF:=hid (free_any h);clear h;by_cases h0:c < 0
 · clear hc HF
   go_enter Tryz.func198,Tryz.ntmps198
   go_wp2
   go_ret2
   exact⟨rfl,0,rfl⟩
 · have h1:((n - cnt f n:Nat):Int) < c:=by omega
   generalize n - cnt f n=m at *;clear hc;go_enter Tryz.func198,Tryz.ntmps198
   go_wp2_with fail
   refine HF.out.mono ?_;rintro e w1 ⟨rfl,k,rfl⟩;go_wp2
   go_ret2
   exact⟨rfl,k,rfl⟩
theorem take_yes (h:Mp w p q K C n f) (hT:Tab w) (hq:0≠q) (c:Nat) (hc:c≤n - cnt f n) :
 Calls Tryz.prog 198 #[.pointer (some ⟨p,0,none⟩),.int .i64 (c:Int)] w (TkR w p q K C n f (cho (frs f n) c)):=by
 have hmx:=h.max;have hlen:=frs_len f n;have hcl:=cho_len (frs f n) c;have HUP:=hid (up_cho f n c);have HF:=hid (free_any h);have HC:=hid (fun k=>choose_any (h.drewN k) (hT.drewN k) c (by omega));have hql:=h.row.lt;have HM0:=hid h;have HT0:=hid hT;have hc1:¬ ((n - cnt f n:Nat):Int) < (c:Int):=by omega
 clear h hT;generalize cho (frs f n) c=l at *;generalize n - cnt f n=m at *;have hlen2:l.length≤65535:=by omega
 clear hc hcl hlen;have HQ:=hid hq;clear hq;go_enter Tryz.func198,Tryz.ntmps198
 go_wp2_with fail
 refine HF.out.mono ?_;rintro e w1 ⟨rfl,kk,rfl⟩;go_wp2_with fail
 refine (HC.out kk).mono ?_;rintro e w1 ⟨G,gc,rfl,hrs,hb⟩;have HRS:=hid hrs;have HB:=hid (show Below w.heap.size w w1 from ⟨hb.os,hb.tape,hb.output,hb.size,hb.block⟩);clear hrs hb;go_wp2
 go_loopw [22] (fun i wr=>∃ k:Nat,k≤l.length∧i = .int .i64 (k:Int)∧Mp wr p q K C n (fl f (l.take k))∧Chg q w1 wr) (fun i _=>l.length - (intOf i).toNat)
 case atStart=>exact⟨0,Nat.zero_le _,rfl,by rw[List.take_zero];exact HM0.out.keep HB.out,Chg.refl _ _⟩
 case round=>
  obtain⟨k,hk,rfl,hM,hC⟩:=hrel
  by_cases hlt:k < l.length
  · have hql2:q < w.heap.size:=hql
    have hrs:=HRS.out.chg hC hql2
    obtain⟨b,o,rfl,hbb,_,hc0,hc1'⟩:=hrs.at' k hlt
    have HFL:=hid (fl_range HUP.out hlt);have HM:=hid (hM.keep ((Below.refl wr.heap.size wr).alloc (Nat.le_refl _) (.cells #[.int .i64 (l[k].1:Int),.int .i64 (l[k].2:Int)] 195)));have HCC:=hid (hC.alloc (.cells #[.int .i64 (l[k].1:Int),.int .i64 (l[k].2:Int)] 195));have hrg:=HUP.out.get hlt;have hr1:l[k].1≤65534:=by omega
    have hr2:l[k].2≤65534:=by omega
    have hi0:(0:Int)≤(k:Int):=by omega
    have hi1:(k:Int) < (l.length:Int):=by omega
    have HR:=hid (range_any HM.out ((HT0.out.below HB.out HT0.out.lt).chg HCC.out HQ.out) (l[k].1:Int) (l[k].2:Int) (by omega) (by omega) (by omega) (by omega));clear hrs hM hC hrg;generalize l[k].1=a at *;generalize l[k].2=x at *;go_wp2_with fail
    generalize wr.alloc (.cells #[.int .i64 (a:Int),.int .i64 (x:Int)] 195)=w2 at *;refine HR.out.mono ?_;rintro e w3 ⟨rfl,hM,hC⟩;have HM3:=hid hM;have HC3:=hid (HCC.out.trans hC);clear hM hC;go_wp2
    refine⟨⟨k+1,by omega,by go_num,by rw[← HFL.out];exact HM3.out,HC3.out⟩,by simp[intOf];omega⟩
  · obtain rfl:k=l.length:=by omega
    rw[List.take_length] at hM;have HX:=hid (show TkR w p q K C n f l (.returned (.tuple #[.slice G l.length gc,.bool true])) wr from ⟨G,gc,rfl,HRS.out.chg hC hql,hM,(chg_of_below HB.out q).trans hC⟩);clear hM hC;go_wp2
    go_ret2;exact HX.out
end
end Rn
end
section
open Lib (hid)
open Go.RowKit Go.MapKept
namespace Rn
open Bm
def ex1:Nat→Bool:=(tn 6 true (fun _=>false) [1,4]).1
theorem ex1_two:(tn 6 true (fun _=>false) [1,4]).2=2:=by decide +kernel
theorem ex1_cho:cho (frs ex1 6) 3=[(0,1),(2,2)]:=by decide +kernel
theorem ex1_cnt:cnt ex1 6=2:=by decide +kernel
theorem lives_any (w:World) (hT:Tab w):Calls Tryz.prog 138 #[] w fun e w'=>e = .returned (.bool true)∧Below w.heap.size w w':=by
 have hlt:=hT.lt;have HT:=hid hT;have HN:=hid (new_any 6 6 1 (by decide) (by decide) w);have HL:=hid (fun (w':World) (h:Tab w')=>Bm.lives_any w' h);clear hT;go_enter Tryz.func138,Tryz.ntmps138
 go_wp2_with fail
 refine HN.out.mono ?_;rintro e w1 ⟨rfl,hM,hb1⟩;have HM:=hid hM;have HB:=hid hb1;clear hM hb1;go_wp2_with fail
 refine (HL.out _ (HT.out.below HB.out hlt)).mono ?_;rintro e w2 ⟨rfl,hb2⟩;have HM2:=hid (HM.out.keep hb2);have HB2:=hid (HB.out.trans (hb2.mono HB.out.size));have hsz:w.heap.size < w2.heap.size:=HM2.out.row.lt;clear hb2;have hmA:=HM2.out.keep ((Below.refl _ _).alloc (Nat.le_refl _) (.cells #[.int .i64 1,.int .i64 4] 3));have hput:=put_any hmA (some ⟨w2.heap.size,0,none⟩) 2 [1,4] (nts_cells w2 [1,4] (by intro x hx;simp at hx;omega) (by decide) HM2.out.row.lt);rw[ex1_two] at hput;have HP:=hid (show Calls Tryz.prog 117 #[.pointer (some ⟨w.heap.size+1,0,none⟩),.slice (some ⟨w2.heap.size,0,none⟩) 2 2] (w2.alloc (.cells #[.int .i64 1,.int .i64 4] 3)) fun e w'=>e = .returned (.int .i64 2)∧Mp w' (w.heap.size+1) w.heap.size 1 1 6 ex1∧Chg w.heap.size (w2.alloc (.cells #[.int .i64 1,.int .i64 4] 3)) w' from hput);clear hmA hput;go_wp2_with fail
 refine HP.out.mono ?_;rintro e w3 ⟨rfl,hM3,hC3⟩;have HM3:=hid hM3;have HC3:=hid (((Chg.refl w.heap.size w2).alloc _).trans hC3);have HB3:=hid (HB2.out.trans (HC3.out.below (Nat.le_of_lt hsz) (Nat.le_refl _)));clear hM3 hC3;have htk:=take_yes HM3.out (HT.out.below HB3.out hlt) (Nat.ne_of_lt hlt) 3 (by rw[ex1_cnt];decide);rw[ex1_cho] at htk;have HTK:=hid htk;clear htk;go_wp2_with fail
 refine HTK.out.mono ?_;rintro e w4 ⟨G,gc,rfl,hrs,hM4,hC4⟩;have HB4:=hid (HB3.out.trans (hC4.below HB3.out.size (Nat.le_refl _)))
 obtain⟨b,o,rfl,_,_,hc0,hc1⟩:=hrs.at' 0 (by decide)
 obtain⟨b2,o2,e2,_,_,hd0,hd1⟩:=hrs.at' 1 (by decide)
 injection e2 with e2
 injection e2 with e3 e4
 subst e3;subst e4;clear hrs hM4 hC4;simp only[List.getElem_cons_zero,List.getElem_cons_succ,Nat.zero_mul,Nat.add_zero,Nat.one_mul,List.length_cons,List.length_nil] at hc0 hc1 hd0 hd1 ⊢;go_wp2
 go_ret
 exact⟨rfl,HB4.out⟩
end Rn
end
end Go.Proofs.YtlodpaaanfjkeaaGreatDoor
