/- Texts laid together: ChnWrite, ChnOpen, ChnLives, ClmLives, FldLives, TreMath, PatCut, PatMem, PatOrd, PatLay, PatSplit, PatSplitP, PatLives, PatPar, PatParLaw, PatKids, TreMem, PatJoin, PatRefSplit, TreGo, TreFile, TreAdd, TreSet, TreWithout. -/
import Derived.Test.YtlodpaaanfjkeaaGreatDoorKt10
import Derived.Test.YtlodpaaanfjkeaaGreatDoorKt4
import Derived.Test.YtlodpaaanfjkeaaGreatDoorKt5
import Derived.Test.YtlodpaaanfjkeaaGreatDoorKa2
import Derived.Test.YtlodpaaanfjkeaaGreatDoorKt8
import Derived.Test.YtlodpaaanfjkeaaGreatDoorKt6
import Derived.Test.YtlodpaaanfjkeaaGreatDoorKt7
import Derived.Lib.SplitLaws
import Derived.Lib.IndexBytes
import Derived.Lib.Join
import Derived.Deep.OwnRows
import Derived.Laws.OwnMore
import Derived.OneCell
import Derived.ArgAppend
import Derived.Laws.MakeOwn
import Derived.Laws.Cover1
import Derived.Deep.QuietTactic
import Derived.BigQuiet
import Derived.RegionTactic
import Derived.ChangeAlike
import Derived.Shelf.Strings.Split
import Derived.Shelf.Strings.OnBuilder
import Derived.Ground.NamesProg
import Derived.Test.YtlodpaaanfjkeaaGreatDoorProg
import Derived.Laws.IdiomCopy
import Derived.Lib.LazyBuf
import Derived.Deep.RegionHeld3
import Derived.BigCall
import Derived.Deep.DeepCutAuto
import Derived.Deep.AppendLies
set_option maxRecDepth 100000
set_option maxHeartbeats 4000000
namespace Go.Proofs.YtlodpaaanfjkeaaGreatDoor
section
open Lib (hid)
open Go.RowKit Go.Shelf Go.MapKept
attribute [local go_sem] Oper.semAt_some
namespace Chn
open Vol (Vo Up Kq)
theorem back_in (F:Fence) (f:Nat) (hf:F.fn 206) (hro:F.round=none) (A:Option Addr) (n c:Nat) (w:World) :
 CallsIn F f Tryz.prog 206 #[.slice A n c] w fun e w'=>e = .returned (.func (.func 231) #[] #[.pointer (some ⟨w.heap.size,0,none⟩)])∧w'=w.alloc (.cells #[.slice A n c] 40):=by
 refine callsIn_of_wp Tryz.func206 rfl hf ?_ hro;simp only[Tryz.ntmps206,List.size_toArray,List.length_cons,List.length_nil,Nat.reduceAdd,Nat.reduceSub,Array.replicate_succ,Array.replicate_zero,List.push_toArray,List.append_toArray,List.nil_append,List.cons_append]
 gi_wp2
 go_ret
 exact⟨rfl,rfl⟩
section
variable {Q : Nat → Prop} {w w' : World} {vb a n m s : Nat} {W : List Nat} {st sn : Nat}
theorem up_off (h:Up Q w a W st sn) {L:Nat} (hL:Q L) (ho:Pm.Off (fun k=>k=L) w w'):Up Q w' a W st sn:=by
 obtain⟨A,⟨D,hrep,e,ok,hf,hq⟩,r⟩:=h
 exact⟨A,⟨D,hrep.keep (fun k hk=>ho.block k (hrep.foot_lt hk) (fun e=>hf k hk (by rw[e];exact hL))),e,ok,hf,fun k hk=>Nat.lt_of_lt_of_le (hq k hk) ho.size⟩,r⟩
theorem vo_off (h:Vo Q w vb a n m s W st sn) {L:Nat} (hL:Q L) (hne:vb≠L) (ho:Pm.Off (fun k=>k=L) w w'):Vo Q w' vb a n m s W st sn:=
 ⟨(ho.block vb h.lt hne).trans h.vol,h.q,up_off h.up hL ho,h.may,h.len⟩
theorem box_off {b:Nat} {t:TypeId} {v:Value} (h:Boxed w b t v) {L:Nat} (hne:b≠L) (ho:Pm.Off (fun k=>k=L) w w'):Boxed w' b t v:=(ho.block b h.lt hne).trans h
theorem kq_off {w2:World} (h:Kq Q w w') {L:Nat} (hL:w.heap.size≤L) (ho:Pm.Off (fun k=>k=L) w' w2):Kq Q w w2:=Pm.Off.trans h ho (fun b hb e=>by omega)
theorem prs_kq {B:Option Addr} {l:List (Int × Int)} (h:Prs w B l) (hk:Kq Q w w') (hq:∀ x,B=some x→l≠[]→Q x.block):Prs w' B l:=
 ⟨h.i64,h.len,fun j hj=>by
   obtain⟨b,o,e,hlt,hc,hd⟩:=h.at' j hj
   have hb:=hk.at (hq _ e (fun h0=>by rw[h0] at hj;exact absurd hj (by simp))) hlt
   exact⟨b,o,e,Nat.lt_of_lt_of_le hlt hk.size,(World.cell?_of_block (w:=w) (a:=⟨b,o+j * 2,none⟩) hb).trans hc,(World.cell?_of_block (w:=w) (a:=⟨b,o+j * 2+1,none⟩) hb).trans hd⟩⟩
theorem nts_kq {B:Option Addr} {l:List Int} (h:Pack.Nts w B l) (hk:Kq Q w w') (hq:∀ x,B=some x→l≠[]→Q x.block):Pack.Nts w' B l:=
 ⟨h.i64,h.len,fun j hj=>by
   obtain⟨b,o,e,hlt,hc⟩:=h.at' j hj
   have hb:=hk.at (hq _ e (fun h0=>by rw[h0] at hj;exact absurd hj (by simp))) hlt
   exact⟨b,o,e,Nat.lt_of_lt_of_le hlt hk.size,(World.cell?_of_block (w:=w) (a:=⟨b,o+j,none⟩) hb).trans hc⟩⟩
structure Mid (Q:Nat→Prop) (w:World) (b0 b1 b2 b3 b4 b5:Nat) (vb a n m s:Nat) (W:List Nat) (st sn:Nat) (A B:Option Addr) (c d:Nat) (S:List Nat) (R:List (Nat × Nat)) (k:Nat) (X:World):Prop where
 vo:Vo (fun x=>Q x∨(w.heap.size≤x∧x < b5)) X vb a n m s (wk W (16+m * 8) S R k) (st+2 * k) (sn+k)
 vol:Boxed X b0 51 (.pointer (some ⟨vb,0,none⟩))
 runs:Boxed X b1 272 (.slice B R.length d)
 err:Boxed X b2 31 (.int .i64 0)
 next:Boxed X b3 3 (.int .i64 (hd S (S.length - k)))
 slots:Boxed X b4 40 (.slice A S.length c)
 kq:Kq Q w X
 size:b5≤X.heap.size
theorem get_set {l:Array Bool} {i:Nat} (hi:i < l.size) (j:Nat):(l.setIfInBounds i true).getD j false=if i=j then true else l.getD j false:=by
 simp only[Array.getD_eq_getD_getElem?,Array.getElem?_setIfInBounds];by_cases h:i=j
 · subst h
   simp[hi]
 · simp[h]
theorem get_off {l:Array Bool} {i j:Nat} (hi:i < l.size) (h:i≠j):(l.setIfInBounds i true).getD j false=l.getD j false:=by rw[get_set hi,if_neg h]
theorem run_blocks (u v x:Value) (W:World):(Instr.field 72 (.agg #[u,v,x]) 0).run Tryz.prog W = .ok u W:=by kernel_rfl
theorem bel_drew {N:Nat} (w:World):Below N w w.drew:=⟨rfl,rfl,rfl,Nat.le_refl _,fun _ _=>rfl⟩
theorem write_yes (h:Vo Q w vb a n m s W st sn) (A B:Option Addr) (c d:Nat) (S:List Nat) (R:List (Nat × Nat)) (hs:Pack.Nts w A (S.map Int.ofNat)) (hr:Prs w B (R.map (fun r:Nat × Nat=>((r.1:Int),(r.2:Int))))) (hwr:Wr n S R)
 (hqa:∀ x,A=some x→S≠[]→Q x.block) (hqb:∀ x,B=some x→R≠[]→Q x.block) (hst:st+2 * S.length < 100000000000) :
 Calls Tryz.prog 140 #[.pointer (some ⟨vb,0,none⟩),.slice A S.length c,.slice B R.length d] w fun r w'=>r = .returned (.int .i64 0)∧Vo Q w' vb a n m s (wk W (16+m * 8) S R S.length) (st+2 * S.length) (sn+S.length)∧Kq Q w w':=by
 have hn:=h.num.1.2;have HG:=hid (fun w' (hb:Below w.heap.size w w')=>Vol.geometry_any (h.keep hb));have HM:=hid (fun w' (hb:Below w.heap.size w w')=>mayWrite_any w' n (by omega) A B c d (S.map Int.ofNat) (R.map (fun r:Nat × Nat=>((r.1:Int),(r.2:Int)))) (hs.keep hb) (hr.keep hb));rw[show mayW n _ _=true from may_of hwr] at HM;have HS:=hid hs;have HR:=hid hr;have HV:=hid h;have HWR:=hid hwr;have HQA:=hid hqa;have HQB:=hid hqb;clear h hs hr hwr hn hqa hqb;simp only[List.length_map] at HM;refine (callsIn_wide (n:=3)).1 ?_;refine callsIn_of_wp_marks Tryz.func140 rfl trivial ?_ rfl;simp only[Tryz.ntmps140,List.size_toArray,List.length_cons,List.length_nil,Nat.reduceAdd,Nat.reduceSub,Array.replicate_succ,Array.replicate_zero,List.push_toArray,List.append_toArray,List.nil_append,List.cons_append];refine wpIn_wide.2 ?_;go_wp2_with fail
 have hb0:=(((Below.refl w.heap.size w).alloc (Nat.le_refl _) (.cells #[.pointer (some ⟨vb,0,none⟩)] 51)).alloc (by simp) (.cells #[.slice B R.length d] 272)).alloc (by simp;omega) (.cells #[.int .i64 0] 31);have bx0:Boxed ((w.alloc (.cells #[.pointer (some ⟨vb,0,none⟩)] 51)).alloc (.cells #[.slice B R.length d] 272) |>.alloc (.cells #[.int .i64 0] 31)) w.heap.size 51 (.pointer (some ⟨vb,0,none⟩)):=((Boxed.new w 51 _).alloc _).alloc _;have bx1:=(Boxed.new (w.alloc (.cells #[.pointer (some ⟨vb,0,none⟩)] 51)) 272 (.slice B R.length d)).alloc (.cells #[.int .i64 0] 31);have bx2:=Boxed.new ((w.alloc (.cells #[.pointer (some ⟨vb,0,none⟩)] 51)).alloc (.cells #[.slice B R.length d] 272)) 31 (.int .i64 0);simp only[World.size_alloc] at bx1 bx2;have HB0:=hid hb0;have BX0:=hid bx0;have BX1:=hid bx1;have BX2:=hid bx2;clear hb0 bx0 bx1 bx2;generalize ((w.alloc (.cells #[.pointer (some ⟨vb,0,none⟩)] 51)).alloc (.cells #[.slice B R.length d] 272)).alloc (.cells #[.int .i64 0] 31)=w0 at *;have c0:=BX0.out.cell;have c1:=BX1.out.cell;have l0:=BX0.out.lt;have l1:=BX1.out.lt;have HC:=hid (HG.out w0.drew (HB0.out.trans (bel_drew _)));have hrf:=run_blocks (.int .i64 (n:Int)) (.int .i64 (m:Int)) (.int .i64 (s:Int))
 go_region_held3 (fun W'=>W'.cell? ⟨w.heap.size,0,none⟩=some (.pointer (some ⟨vb,0,none⟩))∧W'.cell? ⟨w.heap.size+1,0,none⟩=some (.slice B R.length d)) (go_keep)
  (first
  | (go_at_call 27
     with_reducible refine HC.out.mono ?_
     rintro r w1 ⟨rfl,hb⟩;have HB1:=hid ((HB0.out.trans (bel_drew w0)).trans (hb.mono HB0.out.size));have BX01:=hid (show Boxed w1 w.heap.size 51 (.pointer (some ⟨vb,0,none⟩)) from (hb.block _ l0).trans BX0.out);have BX11:=hid (show Boxed w1 (w.heap.size+1) 272 (.slice B R.length d) from (hb.block _ l1).trans BX1.out);have BX21:=hid (show Boxed w1 (w.heap.size+1+1) 31 (.int .i64 0) from (hb.block _ BX2.out.lt).trans BX2.out);clear hb;have c01:=BX01.out.cell;have c11:=BX11.out.cell;have HC1:=hid (HM.out w1 HB1.out))
  | (go_at_call 205
     with_reducible refine HC1.out.mono ?_
     rintro r w2 ⟨rfl,hb⟩;have HB2:=hid (HB1.out.trans (hb.mono HB1.out.size));have BX02:=hid (show Boxed w2 w.heap.size 51 (.pointer (some ⟨vb,0,none⟩)) from (hb.block _ BX01.out.lt).trans BX01.out);have BX12:=hid (show Boxed w2 (w.heap.size+1) 272 (.slice B R.length d) from (hb.block _ BX11.out.lt).trans BX11.out);have BX22:=hid (show Boxed w2 (w.heap.size+1+1) 31 (.int .i64 0) from (hb.block _ BX21.out.lt).trans BX21.out);clear hb;have c02:=BX02.out.cell;have c12:=BX12.out.cell))
 clear c0 c1 l0 l1 c01 c11 c02 c12 HC HC1 BX0 BX1 BX2 BX01 BX11 BX21;go_wp2_with fail
 refine ((callsIn_wide (n:=1)).1 (back_in Fence.wide 1 trivial rfl A S.length c _)).mono ?_;rintro r w3 ⟨rfl,rfl⟩;go_wp2_with fail
 have hb3:=HB2.out.alloc HB2.out.size (.cells #[.int .i64 (-1)] 3);have hz3:=World.size_alloc w2 (.cells #[.int .i64 (-1)] 3);have hb4:=hb3.alloc hb3.size (.cells #[.slice A S.length c] 40);have hz4:=World.size_alloc (w2.alloc (.cells #[.int .i64 (-1)] 3)) (.cells #[.slice A S.length c] 40);have bx3:=(Boxed.new w2 3 (.int .i64 (-1))).alloc (.cells #[.slice A S.length c] 40);have bx4:=Boxed.new (w2.alloc (.cells #[.int .i64 (-1)] 3)) 40 (.slice A S.length c);rw[hz3] at bx4 hz4;have bx0:=(BX02.out.alloc (.cells #[.int .i64 (-1)] 3)).alloc (.cells #[.slice A S.length c] 40);have bx1:=(BX12.out.alloc (.cells #[.int .i64 (-1)] 3)).alloc (.cells #[.slice A S.length c] 40);have bx2:=(BX22.out.alloc (.cells #[.int .i64 (-1)] 3)).alloc (.cells #[.slice A S.length c] 40);generalize (w2.alloc (.cells #[.int .i64 (-1)] 3)).alloc (.cells #[.slice A S.length c] 40)=w4 at *;have HZ4:=hid hz4;have HL2:=hid (show w.heap.size+1+1 < w2.heap.size from BX22.out.lt)
 have HM0:=hid (fun r=>show Mid Q w w.heap.size (w.heap.size+1) (w.heap.size+1+1) w2.heap.size (w2.heap.size+1) (w4.heap.size+2) vb a n m s W st sn A B c d S R 0 ((w4.alloc (.deferred (some []))).alloc (.loop r)) from by
  have hb5:=(hb4.alloc hb4.size (.deferred (some []))).alloc (by simp;have:=hb4.size;omega) (.loop r)
  refine⟨?_,(bx0.alloc _).alloc _,(bx1.alloc _).alloc _,(bx2.alloc _).alloc _,?_,(bx4.alloc _).alloc _,Vol.kq_below hb5,by simp⟩
  · have:=HV.out.grow hb5
    simp only[World.size_alloc] at this;exact this
  · rw[Nat.sub_zero,hd_none (Nat.le_refl _)]
    exact (bx3.alloc _).alloc _)
 clear hb3 hz3 hb4 hz4 bx3 bx4 bx0 bx1 bx2 BX02 BX12 BX22;refine (wpIn_wide (n:=3)).1 ?_
 refine range_back (F:=Fence.wide) rfl (by omega) (gf:=231) (lb:=#[.pointer (some ⟨w2.heap.size+1,0,none⟩)]) rfl trivial (enters_of Tryz.func231 (by kernel_rfl) rfl)
  (encs:=bw (S.map Int.ofNat)) (N:=S.length) (fun _=>rfl)
  (Mid Q w w.heap.size (w.heap.size+1) (w.heap.size+1+1) w2.heap.size (w2.heap.size+1) (w4.heap.size+2) vb a n m s W st sn A B c d S R) (fun _=>False) ?hI (fun _ _ h _=>h) HM0.out ?hseq
  (fun k=>{ tmps:=#[.pointer (some ⟨vb,0,none⟩),.slice A S.length c,.slice B R.length d,.pointer (some ⟨w.heap.size,0,none⟩),undef,.pointer (some ⟨w.heap.size+1,0,none⟩),.pointer (some ⟨w.heap.size+1+1,0,none⟩),.pointer (some ⟨w2.heap.size,0,none⟩),
    .int .i64 ((S.length:Int) - 1 - (k:Int)),.int .i64 ((Option.map Int.ofNat S[S.length - 1 - k]?).getD 0),undef,undef,.pointer (some ⟨vb,0,none⟩),.agg #[.int .i64 (n:Int),.int .i64 (m:Int),.int .i64 (s:Int)],.int .i64 (n:Int),.slice A S.length c,.slice B R.length d,.bool true,.bool false,.slice A S.length c,
    .func (.func 231) #[] #[.pointer (some ⟨w2.heap.size+1,0,none⟩)],.int .i64 ((S.length:Int) - 1 - (k:Int)),.int .i64 ((Option.map Int.ofNat S[S.length - 1 - k]?).getD 0),undef,undef,undef,undef,undef,undef,undef,undef,undef,undef,undef,undef,undef,undef,undef,undef,undef,undef,undef,undef],defers:=[] })
  ?assign ?body ?done (fun _ h _=>h.elim)
 case hI=>
  intro k X X' hi ho;have hlt:w.heap.size+1+1 < w4.heap.size+1:=by have:=HZ4.out;have:=HL2.out;omega
  have hvl:=HV.out.lt
  exact⟨vo_off hi.vo (.inr ⟨by omega,by omega⟩) (by omega) ho,box_off hi.vol (by omega) ho,box_off hi.runs (by omega) ho,box_off hi.err (by omega) ho,
   box_off hi.next (by have:=HZ4.out;omega) ho,box_off hi.slots (by have:=HZ4.out;omega) ho,kq_off hi.kq (by omega) ho,Nat.le_trans hi.size ho.size⟩
 case hseq=>
  intro l J Jx X hJI hY h0
  have:=back1_in Fence.wide 2 trivial rfl (by omega) l (w2.heap.size+1) A c (S.map Int.ofNat) (by simp;have:=HWR.out.few;have:=HWR.out.n64;omega) J Jx (fun k X hj=>by
   have hi:=hJI k X hj
   exact⟨by rw[List.length_map];exact hi.slots.cell,nts_kq HS.out hi.kq (fun x hx h0=>HQA.out x hx (fun e=>h0 (by rw[e];rfl)))⟩) (fun k X hj hk=>hY k X hj (by simpa using hk)) X h0
  rw[List.length_map] at this;exact this
 case assign=>
  intro l k X K hK
  dsimp only[bw]
  gi_wp2
  exact hK
 case done=>
  intro X hi hD;have HI:=hid hi;have HD:=hid hD;have c2:=hi.err.cell;have f2:=hi.err.frozen;have hz4:=HZ4.out;have hl2:=HL2.out;have hvl:=HV.out.lt;clear hi hD;go_wp2
  have ho:=(Pm.Off.refl (fun q=>q=w.heap.size+1+1) X).setCell (p:=⟨w.heap.size+1+1,0,none⟩) (fun _=>rfl) (.int .i64 0);have hk1:(X.setCell ⟨w.heap.size+1+1,0,none⟩ (.int .i64 0)).heap[w4.heap.size]? = some (.deferred (some [])):=(Below.heap_setCell _ _ _ _ (by show w4.heap.size≠w.heap.size+1+1;omega)).trans HD.out;have hq2:=(HI.out.err.set (.int .i64 0)).kept (grownBy_putObj' _ w4.heap.size (.deferred none)) (by simp;omega);have hc2:=hq2.cell;have hv:=vo_off HI.out.vo (.inr ⟨by omega,by omega⟩) (by omega) ho;have hkk:=kq_off HI.out.kq (by omega) ho;generalize X.setCell ⟨w.heap.size+1+1,0,none⟩ (.int .i64 0)=X2 at *
  refine⟨by simp,.inl ⟨_,_,rfl,run_takeDeferred hk1,?_⟩⟩
  refine⟨.int .i64 0,?_,rfl,?_,?_⟩
  · simp[results,Tryz.results140,go_sem,hc2]
  · exact (vo_off hv (.inr ⟨by omega,by omega⟩) (by omega) (off_put X2 w4.heap.size (.deferred none))).sub (fun k h=>.inl h) HV.out.q
  · exact kq_off hkk (by omega) (off_put X2 w4.heap.size (.deferred none))
 case body=>
  intro l k X hi hk
  obtain⟨j,hj⟩:∃ j,j=S.length - 1 - k:=⟨_,rfl⟩
  have hjl:j < S.length:=by omega
  have hjr:j < R.length:=by rw[HWR.out.len];exact hjl
  rw[show (S.length:Int) - 1 - (k:Int)=(j:Int) by omega,← hj,List.getElem?_eq_getElem hjl,Option.map_some,Option.getD_some]
  obtain⟨⟨m1,m2⟩,m3,m4⟩:=pk_may HWR.out hjl
  obtain⟨b,o,rfl,hbb,hd0,hd1⟩:=(prs_kq HR.out hi.kq (fun x hx h0=>HQB.out x hx (fun e=>h0 (by rw[e];rfl)))).at' j (by simpa using hjr)
  have e1:(pk S R j).x=R[j].1:=by simp[pk,hjr]
  have e2:(pk S R j).c=R[j].2:=by simp[pk,hjr]
  simp only[List.getElem_map,← e1,← e2] at hd0 hd1;have hnx:hd S (S.length - k)=Slo.nx (pk S R j).q:=by unfold hd pk;simp only;rw[show j+1=S.length - k by omega]
  have HI:=hid hi;have c0:=hi.vol.cell;have c1:=hi.runs.cell;have c3:=hi.next.cell;rw[hnx] at c3;have l0:=hi.vol.lt;have l1:=hi.runs.lt;have l3:=hi.next.lt;have HJ:=hid (show j=S.length - 1 - k∧k < S.length from ⟨hj,hk⟩);clear hi hj hk e1 e2 hnx;have hjI:(j:Int) < (R.length:Int):=by omega
  gi_wp2_with fail
  obtain⟨x,hx⟩:∃ x,x=(pk S R j).x:=⟨_,rfl⟩
  obtain⟨y,hy⟩:∃ y,y=(pk S R j).c:=⟨_,rfl⟩
  obtain⟨z,hz⟩:∃ z,z=Slo.nx (pk S R j).q:=⟨_,rfl⟩
  have HXYZ:=hid (show x=(pk S R j).x∧y=(pk S R j).c∧z=Slo.nx (pk S R j).q from ⟨hx,hy,hz⟩);rw[← hx] at hd0;rw[← hy] at hd1;rw[← hz] at c3;rw[← hx,← hy] at m2 m4;rw[← hy] at m1;rw[← hz] at m4;clear hx hy hz
  obtain⟨sj,hsj⟩:∃ sj,sj=S[j]:=⟨_,rfl⟩
  have HSJ:=hid hsj;rw[← hsj];clear hsj;refine wpIn_region_any (by kernel_rfl) ?_
  change wpAnyIn _ _ _ _ _ _ _ _ _ X.drew
  refine any_inv (fun l a' X'=>∃ u10 u23 u24 u25 u26 u27 u28 u29 u30 u31 u32 u33 u34:Value,a'={ tmps:=#[.pointer (some ⟨vb,0,none⟩),.slice A S.length c,.slice (some ⟨b,o,none⟩) R.length d,.pointer (some ⟨w.heap.size,0,none⟩),undef,.pointer (some ⟨w.heap.size+1,0,none⟩),.pointer (some ⟨w.heap.size+1+1,0,none⟩),.pointer (some ⟨w2.heap.size,0,none⟩),
   .int .i64 (j:Int),.int .i64 (sj:Int),u10,undef,.pointer (some ⟨vb,0,none⟩),.agg #[.int .i64 (n:Int),.int .i64 (m:Int),.int .i64 (s:Int)],.int .i64 (n:Int),.slice A S.length c,.slice (some ⟨b,o,none⟩) R.length d,.bool true,.bool false,.slice A S.length c,
   .func (.func 231) #[] #[.pointer (some ⟨w2.heap.size+1,0,none⟩)],.int .i64 (j:Int),.int .i64 (sj:Int),u23,u24,u25,u26,u27,u28,u29,u30,u31,u32,u33,u34,undef,undef,undef,undef,undef,undef,undef,undef],defers:=[] } ∧
   (l.getD 0 false=true→u23 = .slice (some ⟨b,o,none⟩) R.length d)∧(l.getD 1 false=true→u24 = .int .i64 (j:Int))∧(l.getD 2 false=true→u25 = .pointer (some ⟨b,o+j * 2,none⟩))∧(l.getD 3 false=true→u26 = .pointer (some ⟨b,o+j * 2,none⟩))∧(l.getD 4 false=true→u27 = .int .i64 (x:Int)) ∧
   (l.getD 5 false=true→u28 = .slice (some ⟨b,o,none⟩) R.length d)∧(l.getD 6 false=true→u29 = .int .i64 (j:Int))∧(l.getD 7 false=true→u30 = .pointer (some ⟨b,o+j * 2,none⟩))∧(l.getD 8 false=true→u31 = .pointer (some ⟨b,o+j * 2+1,none⟩))∧(l.getD 9 false=true→u32 = .int .i64 (y:Int)) ∧
   (l.getD 10 false=true→u33 = .int .i64 z)∧(l.getD 11 false=true→u34 = .agg #[.int .i64 (x:Int),.int .i64 (y:Int),.int .i64 z])∧(l.getD 12 false=true→u10 = .pointer (some ⟨X.heap.size,0,none⟩)) ∧
   (l.getD 13 false=true→∀ i,i < 13→l.getD i false=true) ∧
   X'=if l.getD 13 false=true then (X.alloc (.cells #[.int .i64 (x:Int),.int .i64 (y:Int),.int .i64 z] 190)).drew else if l.getD 12 false=true then (X.alloc (.cells #[.int .i64 0,.int .i64 0,.int .i64 0] 190)).drew else X.drew) ?step ?fin _ _ _ _ (by simp) (by decide) ?start
  case start=>exact⟨_,_,_,_,_,_,_,_,_,_,_,_,_,rfl,by simp,by simp,by simp,by simp,by simp,by simp,by simp,by simp,by simp,by simp,by simp,by simp,by simp,by simp,by simp⟩
  case fin=>
   rintro l a' X' hsz ⟨u10,u23,u24,u25,u26,u27,u28,u29,u30,u31,u32,u33,u34,rfl,g0,g1,g2,g3,g4,g5,g6,g7,g8,g9,g10,g11,g12,g13,hX⟩ hi;have hsz:l.size=14:=hsz;have hr:=List.filter_eq_nil_iff.1 hi;simp only[List.mem_range] at hr;have hr0:=hr 0 (by decide);have hr1:=hr 1 (by decide);have hr2:=hr 2 (by decide);have hr3:=hr 3 (by decide);have hr4:=hr 4 (by decide);have hr5:=hr 5 (by decide);have hr6:=hr 6 (by decide);have hr7:=hr 7 (by decide);have hr8:=hr 8 (by decide);have hr9:=hr 9 (by decide);have hr10:=hr 10 (by decide);have hr11:=hr 11 (by decide);have hr12:=hr 12 (by decide);have hr13:=hr 13 (by decide);clear hr hi;simp[Region.binds,hsz] at hr0 hr1 hr2 hr3 hr4 hr5 hr6 hr7 hr8 hr9 hr10 hr11 hr12 hr13;have f0:=hr0;have f1:=hr1;have f5:=hr5;have f6:=hr6;have f10:=hr10;have f12:=hr12
   have f2:l[2]=true:=by
    cases e:l[2] with
    | true=>rfl
    | false=>have:=hr2 e f0;rw[f1] at this;cases this
   have f3:l[3]=true:=by
    cases e:l[3] with
    | true=>rfl
    | false=>have:=hr3 e;rw[f2] at this;cases this
   have f4:l[4]=true:=by
    cases e:l[4] with
    | true=>rfl
    | false=>have:=hr4 e;rw[f3] at this;cases this
   have f7:l[7]=true:=by
    cases e:l[7] with
    | true=>rfl
    | false=>have:=hr7 e f5;rw[f6] at this;cases this
   have f8:l[8]=true:=by
    cases e:l[8] with
    | true=>rfl
    | false=>have:=hr8 e;rw[f7] at this;cases this
   have f9:l[9]=true:=by
    cases e:l[9] with
    | true=>rfl
    | false=>have:=hr9 e;rw[f8] at this;cases this
   have f11:l[11]=true:=by
    cases e:l[11] with
    | true=>rfl
    | false=>have:=hr11 e f4 f9;rw[f10] at this;cases this
   have f13:l[13]=true:=by
    cases e:l[13] with
    | true=>rfl
    | false=>have:=hr13 e f12 f11 f0 f1 f2 f3 f4 f5 f6 f7 f8 f9 f10 f11;rw[f12] at this;cases this
   clear hr0 hr1 hr2 hr3 hr4 hr5 hr6 hr7 hr8 hr9 hr10 hr11 hr12 hr13;obtain rfl:=g0 (by simp[Array.getD,hsz,f0]);obtain rfl:=g1 (by simp[Array.getD,hsz,f1]);obtain rfl:=g2 (by simp[Array.getD,hsz,f2]);obtain rfl:=g3 (by simp[Array.getD,hsz,f3]);obtain rfl:=g4 (by simp[Array.getD,hsz,f4]);obtain rfl:=g5 (by simp[Array.getD,hsz,f5]);obtain rfl:=g6 (by simp[Array.getD,hsz,f6]);obtain rfl:=g7 (by simp[Array.getD,hsz,f7]);obtain rfl:=g8 (by simp[Array.getD,hsz,f8]);obtain rfl:=g9 (by simp[Array.getD,hsz,f9]);obtain rfl:=g10 (by simp[Array.getD,hsz,f10]);obtain rfl:=g11 (by simp[Array.getD,hsz,f11]);obtain rfl:=g12 (by simp[Array.getD,hsz,f12]);rw[if_pos (by simp[Array.getD,hsz,f13])] at hX;subst hX;clear g0 g1 g2 g3 g4 g5 g6 g7 g8 g9 g10 g11 g12 g13 f0 f1 f2 f3 f4 f5 f6 f7 f8 f9 f10 f11 f12 f13 hsz;have hbX:=((Below.refl X.heap.size X).alloc (Nat.le_refl _) (.cells #[.int .i64 (x:Int),.int .i64 (y:Int),.int .i64 z] 190)).trans (bel_drew (N:=X.heap.size) (X.alloc (.cells #[.int .i64 (x:Int),.int .i64 (y:Int),.int .i64 z] 190)));have hsn:sj < n:=by rw[HSJ.out];exact HWR.out.slot _ (List.getElem_mem hjl)
   have HSET:=hid (Vol.setSlot_yes (HI.out.vo.keep hbX) sj x y (pk S R j).q z hsn HXYZ.out.2.2 (by rw[← HXYZ.out.2.2];exact m4) (by have:=HJ.out;omega));have HBX:=hid hbX;clear hbX
   gi_wp2_with fail
   generalize (X.alloc (.cells #[.int .i64 (x:Int),.int .i64 (y:Int),.int .i64 z] 190)).drew=X1 at *
   refine⟨trivial,?_⟩
   refine (CallsIn.inRound _ (callsIn_wide.2 HSET.out)).mono ?_;rintro e w6 ⟨rfl,hv6,hk6⟩;have hsz5:=HI.out.size;have hz4:=HZ4.out;have hl2:=HL2.out;have hat:∀ q,w.heap.size≤q→q < w4.heap.size+2→w6.heap[q]? = X.heap[q]?:=fun q h1 h2=>(hk6.at (.inr ⟨h1,h2⟩) (Nat.lt_of_lt_of_le (by omega) HBX.out.size)).trans (HBX.out.block q (by omega))
   have hb0:Boxed w6 w.heap.size 51 (.pointer (some ⟨vb,0,none⟩)):=(hat _ (by omega) (by omega)).trans HI.out.vol;have hb1:Boxed w6 (w.heap.size+1) 272 (.slice (some ⟨b,o,none⟩) R.length d):=(hat _ (by omega) (by omega)).trans HI.out.runs;have hb2:Boxed w6 (w.heap.size+1+1) 31 (.int .i64 0):=(hat _ (by omega) (by omega)).trans HI.out.err;have hb3:Boxed w6 w2.heap.size 3 (.int .i64 (hd S (S.length - k))):=(hat _ (by omega) (by omega)).trans HI.out.next;have hb4:Boxed w6 (w2.heap.size+1) 40 (.slice A S.length c):=(hat _ (by omega) (by omega)).trans HI.out.slots;have hkk:Kq Q w w6:=(HI.out.kq.trans (Vol.kq_below HBX.out)).trans (hk6.sub (fun k h=>.inl h));have hss:w4.heap.size+2≤w6.heap.size:=Nat.le_trans hsz5 (Nat.le_trans HBX.out.size hk6.size);have HAT:=hid hat;have HV6:=hid hv6;have HB0':=hid hb0;have HB1':=hid hb1;have HB2':=hid hb2;have HB3':=hid hb3;have HB4':=hid hb4;have HKK:=hid hkk;have HSS:=hid hss;have cc3:=hb3.cell;have ff3:=hb3.frozen;clear c0 c1 c3 hd0 hd1 l0 l1 l3 hsz5 hz4 hl2 hat hv6 hk6 hb0 hb1 hb2 hb3 hb4 hkk hss HSET
   gi_wp2
   have ho:=(Pm.Off.refl (fun q=>q=w2.heap.size) w6).setCell (p:=⟨w2.heap.size,0,none⟩) (fun _=>rfl) (.int .i64 (sj:Int));have hz4:=HZ4.out;have hl2:=HL2.out;have hvl:=HV.out.lt;have hkj:=HJ.out
   refine⟨⟨?_,?_⟩,⟨?_,box_off HB0'.out (by omega) ho,box_off HB1'.out (by omega) ho,box_off HB2'.out (by omega) ho,?_,box_off HB4'.out (by omega) ho,kq_off HKK.out (by omega) ho,Nat.le_trans HSS.out ho.size⟩⟩
   · exact (Below.heap_setCell _ _ _ _ (by show w4.heap.size≠w2.heap.size;omega)).trans (HAT.out _ (by omega) (by omega))
   · exact (Below.heap_setCell _ _ _ _ (by show w4.heap.size+1≠w2.heap.size;omega)).trans (HAT.out _ (by omega) (by omega))
   · have hv:=HV6.out
     rw[show st+2 * (k+1)=st+2 * k+2 by omega,show sn+(k+1)=sn+k+1 by omega];unfold wk;rw[← hkj.1,pk_s hjl,← HSJ.out];unfold pw;rw[← HXYZ.out.1,← HXYZ.out.2.1];exact vo_off hv (.inr ⟨by omega,by omega⟩) (by omega) ho
   · rw[show S.length - (k+1)=j by omega,hd_some HWR.out hjl,← HSJ.out]
     exact HB3'.out.set _
  case step=>
   rintro l a' X' i hsz ⟨u10,u23,u24,u25,u26,u27,u28,u29,u30,u31,u32,u33,u34,rfl,g0,g1,g2,g3,g4,g5,g6,g7,g8,g9,g10,g11,g12,g13,hX⟩ hi;have hsz:l.size=14:=hsz
   obtain⟨hi1,hi2⟩:=List.mem_filter.1 hi
   have hi1:i < 14:=by simpa using hi1
   have hli:l.getD i false=false:=by
    simp only[Bool.and_eq_true,Bool.not_eq_true'] at hi2
    have:=hi2.1
    simp only[Array.getD,show i < l.size by omega,dite_true] at this ⊢;exact this
   by_cases h13:i=13
   · subst h13
     have hl:∀ k,k < 13→l.getD k false=true:=by
      intro k hk;simp[Region.binds,-Array.getD_eq_getD_getElem?] at hi2
      have:k=0∨k=1∨k=2∨k=3∨k=4∨k=5∨k=6∨k=7∨k=8∨k=9∨k=10∨k=11∨k=12:=by omega
      rcases this with rfl | rfl | rfl | rfl | rfl | rfl | rfl | rfl | rfl | rfl | rfl | rfl | rfl<;>simp_all
     obtain rfl:=g12 (hl 12 (by decide));obtain rfl:=g11 (hl 11 (by decide));rw[if_neg (by rw[hli];decide),if_pos (hl 12 (by decide))] at hX;subst hX;refine wpOpIn_step rfl (fun K' hK=>?_)
     go_simp
     have hil:13 < l.size:=by omega
     refine hK _ _ ⟨_,_,_,_,_,_,_,_,_,_,_,_,_,rfl,fun _=>rfl,fun _=>rfl,fun _=>rfl,fun _=>rfl,fun _=>rfl,fun _=>rfl,fun _=>rfl,fun _=>rfl,fun _=>rfl,fun _=>rfl,fun _=>rfl,fun _=>rfl,fun _=>rfl,fun _ i hi=>?_,?_⟩
     · rw[get_set hil,if_neg (show ¬ 13=i by omega)]
       exact hl i hi
     · rw[get_set hil 13,if_pos rfl,if_pos rfl]
   · have hi13:i < 13:=by omega
     have hn13:¬ l.getD 13 false=true:=fun h=>by
      have:=g13 h i hi13
      rw[hli] at this
      cases this
     rw[if_neg hn13] at hX
     have hXX:(X'.cell? ⟨w.heap.size+1,0,none⟩=some (.slice (some ⟨b,o,none⟩) R.length d)∧X'.cell? ⟨w2.heap.size,0,none⟩=some (.int .i64 z))∧(X'.cell? ⟨b,o+j * 2,none⟩=some (.int .i64 (x:Int))∧X'.cell? ⟨b,o+j * 2+1,none⟩=some (.int .i64 (y:Int)))∧b < X'.heap.size:=by
      have hbb2:=((Below.refl X.heap.size X).alloc (Nat.le_refl _) (.cells #[.int .i64 0,.int .i64 0,.int .i64 0] 190)).trans (bel_drew _);rw[hX]
      split
      · exact⟨⟨(hbb2.cell (p:=⟨w.heap.size+1,0,none⟩) l1).trans c1,(hbb2.cell (p:=⟨w2.heap.size,0,none⟩) l3).trans c3⟩,⟨(hbb2.cell (p:=⟨b,o+j * 2,none⟩) hbb).trans hd0,(hbb2.cell (p:=⟨b,o+j * 2+1,none⟩) hbb).trans hd1⟩,Nat.lt_of_lt_of_le hbb hbb2.size⟩
      · exact⟨⟨c1,c3⟩,⟨hd0,hd1⟩,hbb⟩
     obtain⟨⟨k1,k3⟩,⟨kd0,kd1⟩,kb⟩:=hXX
     have hil:i < l.size:=by omega
     have hcs:i=0∨i=1∨i=2∨i=3∨i=4∨i=5∨i=6∨i=7∨i=8∨i=9∨i=10∨i=11∨i=12:=by omega
     have HX:=hid hX;clear hX
     rcases hcs with rfl | rfl | rfl | rfl | rfl | rfl | rfl | rfl | rfl | rfl | rfl | rfl | rfl
     · simp[Region.binds,-Array.getD_eq_getD_getElem?] at hi2
       refine wpOpIn_step rfl (fun K' hK=>?_)
       go_simp
       refine hK _ _ ⟨_,_,_,_,_,_,_,_,_,_,_,_,_,rfl,?_,?_,?_,?_,?_,?_,?_,?_,?_,?_,?_,?_,?_,?_,?_⟩
       all_goals first | exact fun _=>rfl | (rw[get_set hil,if_neg (by decide)];first | assumption | exact fun h=>absurd h hn13) | (rw[get_off hil (j:=13) (by decide),get_off hil (j:=12) (by decide),if_neg hn13];exact HX.out)
     · simp[Region.binds,-Array.getD_eq_getD_getElem?] at hi2
       refine wpOpIn_step rfl (fun K' hK=>?_)
       go_simp
       refine hK _ _ ⟨_,_,_,_,_,_,_,_,_,_,_,_,_,rfl,?_,?_,?_,?_,?_,?_,?_,?_,?_,?_,?_,?_,?_,?_,?_⟩
       all_goals first | exact fun _=>rfl | (rw[get_set hil,if_neg (by decide)];first | assumption | exact fun h=>absurd h hn13) | (rw[get_off hil (j:=13) (by decide),get_off hil (j:=12) (by decide),if_neg hn13];exact HX.out)
     · simp[Region.binds,-Array.getD_eq_getD_getElem?] at hi2
       obtain rfl:=g0 (by simp_all);obtain rfl:=g1 (by simp_all);refine wpOpIn_step rfl (fun K' hK=>?_)
       go_simp
       refine hK _ _ ⟨_,_,_,_,_,_,_,_,_,_,_,_,_,rfl,?_,?_,?_,?_,?_,?_,?_,?_,?_,?_,?_,?_,?_,?_,?_⟩
       all_goals first | exact fun _=>rfl | (rw[get_set hil,if_neg (by decide)];first | assumption | exact fun h=>absurd h hn13) | (rw[get_off hil (j:=13) (by decide),get_off hil (j:=12) (by decide),if_neg hn13];exact HX.out)
     · simp[Region.binds,-Array.getD_eq_getD_getElem?] at hi2
       obtain rfl:=g2 (by simp_all);refine wpOpIn_step rfl (fun K' hK=>?_)
       go_simp
       refine hK _ _ ⟨_,_,_,_,_,_,_,_,_,_,_,_,_,rfl,?_,?_,?_,?_,?_,?_,?_,?_,?_,?_,?_,?_,?_,?_,?_⟩
       all_goals first | exact fun _=>rfl | (rw[get_set hil,if_neg (by decide)];first | assumption | exact fun h=>absurd h hn13) | (rw[get_off hil (j:=13) (by decide),get_off hil (j:=12) (by decide),if_neg hn13];exact HX.out)
     · simp[Region.binds,-Array.getD_eq_getD_getElem?] at hi2
       obtain rfl:=g3 (by simp_all);refine wpOpIn_step rfl (fun K' hK=>?_)
       go_simp
       refine hK _ _ ⟨_,_,_,_,_,_,_,_,_,_,_,_,_,rfl,?_,?_,?_,?_,?_,?_,?_,?_,?_,?_,?_,?_,?_,?_,?_⟩
       all_goals first | exact fun _=>rfl | (rw[get_set hil,if_neg (by decide)];first | assumption | exact fun h=>absurd h hn13) | (rw[get_off hil (j:=13) (by decide),get_off hil (j:=12) (by decide),if_neg hn13];exact HX.out)
     · simp[Region.binds,-Array.getD_eq_getD_getElem?] at hi2
       refine wpOpIn_step rfl (fun K' hK=>?_)
       go_simp
       refine hK _ _ ⟨_,_,_,_,_,_,_,_,_,_,_,_,_,rfl,?_,?_,?_,?_,?_,?_,?_,?_,?_,?_,?_,?_,?_,?_,?_⟩
       all_goals first | exact fun _=>rfl | (rw[get_set hil,if_neg (by decide)];first | assumption | exact fun h=>absurd h hn13) | (rw[get_off hil (j:=13) (by decide),get_off hil (j:=12) (by decide),if_neg hn13];exact HX.out)
     · simp[Region.binds,-Array.getD_eq_getD_getElem?] at hi2
       refine wpOpIn_step rfl (fun K' hK=>?_)
       go_simp
       refine hK _ _ ⟨_,_,_,_,_,_,_,_,_,_,_,_,_,rfl,?_,?_,?_,?_,?_,?_,?_,?_,?_,?_,?_,?_,?_,?_,?_⟩
       all_goals first | exact fun _=>rfl | (rw[get_set hil,if_neg (by decide)];first | assumption | exact fun h=>absurd h hn13) | (rw[get_off hil (j:=13) (by decide),get_off hil (j:=12) (by decide),if_neg hn13];exact HX.out)
     · simp[Region.binds,-Array.getD_eq_getD_getElem?] at hi2
       obtain rfl:=g5 (by simp_all);obtain rfl:=g6 (by simp_all);refine wpOpIn_step rfl (fun K' hK=>?_)
       go_simp
       refine hK _ _ ⟨_,_,_,_,_,_,_,_,_,_,_,_,_,rfl,?_,?_,?_,?_,?_,?_,?_,?_,?_,?_,?_,?_,?_,?_,?_⟩
       all_goals first | exact fun _=>rfl | (rw[get_set hil,if_neg (by decide)];first | assumption | exact fun h=>absurd h hn13) | (rw[get_off hil (j:=13) (by decide),get_off hil (j:=12) (by decide),if_neg hn13];exact HX.out)
     · simp[Region.binds,-Array.getD_eq_getD_getElem?] at hi2
       obtain rfl:=g7 (by simp_all);refine wpOpIn_step rfl (fun K' hK=>?_)
       go_simp
       refine hK _ _ ⟨_,_,_,_,_,_,_,_,_,_,_,_,_,rfl,?_,?_,?_,?_,?_,?_,?_,?_,?_,?_,?_,?_,?_,?_,?_⟩
       all_goals first | exact fun _=>rfl | (rw[get_set hil,if_neg (by decide)];first | assumption | exact fun h=>absurd h hn13) | (rw[get_off hil (j:=13) (by decide),get_off hil (j:=12) (by decide),if_neg hn13];exact HX.out)
     · simp[Region.binds,-Array.getD_eq_getD_getElem?] at hi2
       obtain rfl:=g8 (by simp_all);refine wpOpIn_step rfl (fun K' hK=>?_)
       go_simp
       refine hK _ _ ⟨_,_,_,_,_,_,_,_,_,_,_,_,_,rfl,?_,?_,?_,?_,?_,?_,?_,?_,?_,?_,?_,?_,?_,?_,?_⟩
       all_goals first | exact fun _=>rfl | (rw[get_set hil,if_neg (by decide)];first | assumption | exact fun h=>absurd h hn13) | (rw[get_off hil (j:=13) (by decide),get_off hil (j:=12) (by decide),if_neg hn13];exact HX.out)
     · simp[Region.binds,-Array.getD_eq_getD_getElem?] at hi2
       refine wpOpIn_step rfl (fun K' hK=>?_)
       go_simp
       refine hK _ _ ⟨_,_,_,_,_,_,_,_,_,_,_,_,_,rfl,?_,?_,?_,?_,?_,?_,?_,?_,?_,?_,?_,?_,?_,?_,?_⟩
       all_goals first | exact fun _=>rfl | (rw[get_set hil,if_neg (by decide)];first | assumption | exact fun h=>absurd h hn13) | (rw[get_off hil (j:=13) (by decide),get_off hil (j:=12) (by decide),if_neg hn13];exact HX.out)
     · simp[Region.binds,-Array.getD_eq_getD_getElem?] at hi2
       obtain rfl:=g4 (by simp_all);obtain rfl:=g9 (by simp_all);obtain rfl:=g10 (by simp_all);refine wpOpIn_step rfl (fun K' hK=>?_)
       go_simp
       refine hK _ _ ⟨_,_,_,_,_,_,_,_,_,_,_,_,_,rfl,?_,?_,?_,?_,?_,?_,?_,?_,?_,?_,?_,?_,?_,?_,?_⟩
       all_goals first | exact fun _=>rfl | (rw[get_set hil,if_neg (by decide)];first | assumption | exact fun h=>absurd h hn13) | (rw[get_off hil (j:=13) (by decide),get_off hil (j:=12) (by decide),if_neg hn13];exact HX.out)
     · simp[Region.binds,-Array.getD_eq_getD_getElem?] at hi2
       have hX:=HX.out;rw[if_neg (by rw[hli];decide)] at hX;subst hX;refine wpOpIn_step rfl (fun K' hK=>?_)
       go_simp
       refine hK _ _ ⟨_,_,_,_,_,_,_,_,_,_,_,_,_,rfl,?_,?_,?_,?_,?_,?_,?_,?_,?_,?_,?_,?_,?_,?_,?_⟩
       · rw[get_set hil,if_neg (by decide)];assumption
       · rw[get_set hil,if_neg (by decide)];assumption
       · rw[get_set hil,if_neg (by decide)];assumption
       · rw[get_set hil,if_neg (by decide)];assumption
       · rw[get_set hil,if_neg (by decide)];assumption
       · rw[get_set hil,if_neg (by decide)];assumption
       · rw[get_set hil,if_neg (by decide)];assumption
       · rw[get_set hil,if_neg (by decide)];assumption
       · rw[get_set hil,if_neg (by decide)];assumption
       · rw[get_set hil,if_neg (by decide)];assumption
       · rw[get_set hil,if_neg (by decide)];assumption
       · rw[get_set hil,if_neg (by decide)];assumption
       · exact fun _=>rfl
       · rw[get_set hil,if_neg (by decide)];exact fun h=>absurd h hn13
       · have e13:=get_set hil 13
         have e12:=get_set hil 12;rw[if_neg (show ¬ ((12:Nat)=13) by decide)] at e13;rw[if_pos rfl] at e12;rw[e13,e12,if_neg hn13,if_pos rfl]
end
end Chn
end
section
open Lib (hid)
open Go.RowKit Go.MapKept
namespace Chn
open Vol (Vo Up Kq Hb hb_new hb_grown hb_apart Ov Pl gn gs dv rawW rdev_any open_any rawW_len rawW_read Vo.put wds_block)
section
variable {sl bm bk E : Nat} {ws : List Nat}
theorem copen_any (w:World) (x y k:Nat) (hx:x < 256) (hy:y < 256) (hk:k < 256) (A:Option Addr) (c:Nat) (hws:Pack.Wds w A ws) (h:Pl (gn x) (gn y) (gs k) sl bm bk E) :
 Calls Tryz.prog 137 #[.agg #[.int .u8 (x:Int),.int .u8 (y:Int),.int .u8 (k:Int),.slice A ws.length c]] w fun r w'=>
  ∃ (Q:Nat→Prop) (vb a g gc:Nat),r = .returned (.tuple #[.pointer (some ⟨vb,0,none⟩),.agg (dv (gn x) (gn y) (gs k) sl bm bk E (.slice (some ⟨g,0,none⟩) E gc))])∧Ov w w' Q vb a g gc (gn x) (gn y) (gs k) E (rawW (gn x) (gn y) (gs k) E ws):=by
 have HD:=hid (fun w' (hb:Below w.heap.size w w')=>rdev_any w' x y k hx hy hk A c (hws.keep hb) h);have HP:=hid h
 obtain⟨n,hn⟩:∃ n,n=gn x:=⟨_,rfl⟩
 obtain⟨m,hm⟩:∃ m,m=gn y:=⟨_,rfl⟩
 obtain⟨s,hs⟩:∃ s,s=gs k:=⟨_,rfl⟩
 rw[← hn,← hm,← hs] at HP HD ⊢;clear hn hm hs h hws;go_enter Tryz.func137,Tryz.ntmps137
 go_wp2_with fail
 have hb0:=(Below.refl w.heap.size w).alloc (Nat.le_refl _) (.cells #[.int .u8 (x:Int),.int .u8 (y:Int),.int .u8 (k:Int),.slice A ws.length c] 110);have hz0:=World.size_alloc w (.cells #[.int .u8 (x:Int),.int .u8 (y:Int),.int .u8 (k:Int),.slice A ws.length c] 110);generalize w.alloc (.cells #[.int .u8 (x:Int),.int .u8 (y:Int),.int .u8 (k:Int),.slice A ws.length c] 110)=w0 at *;have hb1:=hb0.alloc hb0.size (.cells #[.int .i64 0,.int .i64 0,.int .i64 0,.int .i64 0,.int .i64 0,.int .i64 0,.int .i64 0,.int .i64 0,.slice none 0 0] 102);have hv1:=hb_new w0 #[.int .i64 0,.int .i64 0,.int .i64 0,.int .i64 0,.int .i64 0,.int .i64 0,.int .i64 0,.int .i64 0,.slice none 0 0] 102;rw[hz0] at hv1;have HB1:=hid hb1;have HV1:=hid hv1;clear hb0 hz0 hb1 hv1;generalize w0.alloc (.cells #[.int .i64 0,.int .i64 0,.int .i64 0,.int .i64 0,.int .i64 0,.int .i64 0,.int .i64 0,.int .i64 0,.slice none 0 0] 102)=w1 at *;clear w0;refine (HD.out _ HB1.out).mono ?_;rintro r w2 ⟨a,g,gc,B,rfl,h1,h2,h3,h4,hup,hwd,hb⟩;have HN:=hid (show w.heap.size+1 < B∧(w.heap.size+1 < g∧g < B)∧B≤w2.heap.size∧E≤gc from ⟨by have:=HV1.out.lt;omega,⟨by have:=HV1.out.lt;omega,h2.2⟩,h3,h4⟩);have HU2:=hid hup;have HD2:=hid hwd;have HV2:=hid (HV1.out.keep hb);have HB2:=hid (HB1.out.trans (hb.mono HB1.out.size));clear h1 h2 h3 h4 hup hwd hb HV1 HB1 HD;unfold dv;have hb3:=(Below.refl w2.heap.size w2).alloc (Nat.le_refl _) (.cells #[.int .i64 (n:Int),.int .i64 (m:Int),.int .i64 (s:Int),.int .i64 16,.int .i64 (sl:Int),.int .i64 (bm:Int),.int .i64 (bk:Int),.int .i64 (E:Int),.slice (some ⟨g,0,none⟩) E gc] 102);have HX3:=hid (hb_new w2 #[.int .i64 (n:Int),.int .i64 (m:Int),.int .i64 (s:Int),.int .i64 16,.int .i64 (sl:Int),.int .i64 (bm:Int),.int .i64 (bk:Int),.int .i64 (E:Int),.slice (some ⟨g,0,none⟩) E gc] 102);have HU3:=hid (HU2.out.keep hb3);have HD3:=hid (HD2.out.keep hb3);have HV3:=hid (HV2.out.keep hb3);have HB3:=hid (HB2.out.trans (hb3.mono HB2.out.size));have hz3:=World.size_alloc w2 (.cells #[.int .i64 (n:Int),.int .i64 (m:Int),.int .i64 (s:Int),.int .i64 16,.int .i64 (sl:Int),.int .i64 (bm:Int),.int .i64 (bk:Int),.int .i64 (E:Int),.slice (some ⟨g,0,none⟩) E gc] 102);have HS3:=hid hz3;have HOP:=hid (open_any HU3.out HP.out.may (by rw[rawW_len HP.out];exact HP.out.e4.symm) (rawW_read HP.out));clear hb3 hz3 HU2 HD2 HV2 HB2;go_wp2_with fail
 generalize w2.alloc (.cells #[.int .i64 (n:Int),.int .i64 (m:Int),.int .i64 (s:Int),.int .i64 16,.int .i64 (sl:Int),.int .i64 (bm:Int),.int .i64 (bk:Int),.int .i64 (E:Int),.slice (some ⟨g,0,none⟩) E gc] 102)=w3 at *;refine HOP.out.mono ?_;rintro r w4 ⟨vb,rfl,hvb,hvo,hb⟩
 have HV4:=hid (hvo.sub (Q':=fun k=>k < B∨k=vb) (fun k hk=>by
  rcases hk with hk | rfl
  · exact .inl hk
  · exact .inr ⟨hvb,hvo.lt⟩) (.inr rfl))
 have HX4:=hid (HX3.out.keep hb);have HD4:=hid (HD3.out.keep hb);have HR4:=hid (HV3.out.keep hb);have HB4:=hid (HB3.out.trans (hb.mono HB3.out.size));have HVB:=hid (show w2.heap.size+1≤vb by have:=HS3.out;omega);clear hvb hvo hb HOP HX3 HD3 HV3 HB3 HU3 HS3;have c0:=HX4.out.cell 0;have c1:=HX4.out.cell 1;have c2:=HX4.out.cell 2;have c3:=HX4.out.cell 3;have c4:=HX4.out.cell 4;have c5:=HX4.out.cell 5;have c6:=HX4.out.cell 6;have c7:=HX4.out.cell 7;have c8:=HX4.out.cell 8;have d0:=HR4.out.cell 0;have d1:=HR4.out.cell 1;have d2:=HR4.out.cell 2;have d3:=HR4.out.cell 3;have d4:=HR4.out.cell 4;have d5:=HR4.out.cell 5;have d6:=HR4.out.cell 6;have d7:=HR4.out.cell 7;have d8:=HR4.out.cell 8;have f0:=HR4.out.frozen 0;have f1:=HR4.out.frozen 1;have f2:=HR4.out.frozen 2;have f3:=HR4.out.frozen 3;have f4:=HR4.out.frozen 4;have f5:=HR4.out.frozen 5;have f6:=HR4.out.frozen 6;have f7:=HR4.out.frozen 7;have f8:=HR4.out.frozen 8;have hxl:=HX4.out.lt;have hrl:=HR4.out.lt;have hN:=HN.out;have hVB:=HVB.out;have hne1:¬ w2.heap.size=w.heap.size+1:=by omega
 have hne2:¬ w.heap.size+1=w2.heap.size:=by omega
 go_wp2_with fail
 go_region
 go_wp2
 have hd:∀ V:World,Below V.heap.size V V.drew:=fun V=>⟨rfl,rfl,rfl,Nat.le_refl _,fun _ _=>rfl⟩
 refine bodyPost_ret (v:=.tuple #[.pointer (some ⟨vb,0,none⟩),.agg #[.int .i64 (n:Int),.int .i64 (m:Int),.int .i64 (s:Int),.int .i64 16,.int .i64 (sl:Int),.int .i64 (bm:Int),.int .i64 (bk:Int),.int .i64 (E:Int),.slice (some ⟨g,0,none⟩) E gc]]) ?_ rfl ⟨fun k=>k < B∨k=vb,vb,a,g,gc,rfl,⟨?_,.inl hN.2.1.2,fun k hk=>.inl (by omega),?_,hN.2.2.2,?_,rawW_len HP.out⟩⟩
 · simp[results,Tryz.results137,go_sem,d0,d1,d2,d3,d4,d5,d6,d7,d8]
 · refine Vo.keep ?_ (hd _)
   iterate 9 refine Vo.put ?_ (.inl hN.1) (by show vb≠w.heap.size+1;omega) _
   exact HV4.out
 · refine Pack.Wds.keep ?_ (hd _)
   iterate 9 refine wds_block ?_ (Below.heap_setCell _ _ _ _ (by show g≠w.heap.size+1;omega))
   exact HD4.out
 · refine Below.trans ?_ ((hd _).mono (by simp only[World.setCell,Array.size_modify];exact HB4.out.size))
   iterate 9 refine Below.setCell ?_ (Nat.le_succ _) _
   exact HB4.out
end
end Chn
end
section
open Lib (hid)
open Go.RowKit Go.MapKept
namespace Chn
open Vol (Vo Up Kq Hb hb_new hb_grown hb_apart Ov Pl gn gs dv rawW rawW_len)
theorem rsame_yes (w:World) (A B:Option Addr) (c d:Nat) (l:List Int) (h:Pack.Nts w A l) (k:Pack.Nts w B l) :
 Calls Tryz.prog 141 #[.slice A l.length c,.slice B l.length d] w fun r w'=>r = .returned (.bool true)∧Below w.heap.size w w':=by
 have H:=hid h;have K:=hid k;have hl:=h.len;clear h k;go_enter Tryz.func141,Tryz.ntmps141
 go_wp2
 go_loopw [13] (fun i wr=>∃ m:Nat,m≤l.length∧i = .int .i64 (m:Int)∧Below w.heap.size w wr) (fun i _=>l.length - (intOf i).toNat)
 case atStart=>exact⟨0,Nat.zero_le _,rfl,Below.refl _ _⟩
 case round=>
  obtain⟨m,hm,rfl,hb⟩:=hrel
  by_cases hlt:m < l.length
  · obtain⟨b,o,rfl,hbb,hc0⟩:=H.out.at' m hlt
    obtain⟨b2,o2,rfl,hbb2,hd0⟩:=K.out.at' m hlt
    have hc0:=(hb.cell (p:=⟨b,o+m,none⟩) hbb).trans hc0;have hd0:=(hb.cell (p:=⟨b2,o2+m,none⟩) hbb2).trans hd0;have hbb:=Nat.lt_of_lt_of_le hbb hb.size;have hbb2:=Nat.lt_of_lt_of_le hbb2 hb.size;have HB:=hid (hb.drew);have hmi:(m:Int) < (l.length:Int):=by omega
    clear hb;go_wp2
    go_region
    go_wp2
    exact⟨⟨m+1,by omega,by go_num,HB.out⟩,by simp[intOf];omega⟩
  · obtain rfl:m=l.length:=by omega
    go_wp2
    go_ret
    exact⟨rfl,hb⟩
theorem nts_two (w:World) (x y:Int) (hx:-9223372036854775808≤x∧x≤9223372036854775807) (hy:-9223372036854775808≤y∧y≤9223372036854775807):Pack.Nts (w.alloc (.cells #[.int .i64 x,.int .i64 y] 3)) (some ⟨w.heap.size,0,none⟩) [x,y]:=
 ⟨fun n h=>by
   rcases List.mem_cons.1 h with rfl | h
   · exact hx
   · obtain rfl:n=y:=by simpa using h
     exact hy,by simp,fun j hj=>⟨_,_,rfl,by simp,by
   match j,hj with
   | 0,_=>exact Pack.alloc_cell w _ _ 0
   | 1,_=>exact Pack.alloc_cell w _ _ 1⟩⟩
theorem nts_three (w:World) (x y z:Int) (hx:-9223372036854775808≤x∧x≤9223372036854775807) (hy:-9223372036854775808≤y∧y≤9223372036854775807) (hz:-9223372036854775808≤z∧z≤9223372036854775807):Pack.Nts (w.alloc (.cells #[.int .i64 x,.int .i64 y,.int .i64 z] 3)) (some ⟨w.heap.size,0,none⟩) [x,y,z]:=
 ⟨fun n h=>by
   simp only[List.mem_cons,List.not_mem_nil,or_false] at h
   rcases h with rfl | rfl | rfl
   · exact hx
   · exact hy
   · exact hz,by simp,fun j hj=>⟨_,_,rfl,by simp,by
   match j,hj with
   | 0,_=>exact Pack.alloc_cell w _ _ 0
   | 1,_=>exact Pack.alloc_cell w _ _ 1
   | 2,_=>exact Pack.alloc_cell w _ _ 2⟩⟩
theorem prs_two (w:World) (x y z u:Int) (hx:-9223372036854775808≤x∧x≤9223372036854775807) (hy:-9223372036854775808≤y∧y≤9223372036854775807) (hz:-9223372036854775808≤z∧z≤9223372036854775807) (hu:-9223372036854775808≤u∧u≤9223372036854775807):Prs (w.alloc (.cells #[.int .i64 x,.int .i64 y,.int .i64 z,.int .i64 u] 195)) (some ⟨w.heap.size,0,none⟩) [(x,y),(z,u)]:=
 ⟨fun r h=>by
   rcases List.mem_cons.1 h with rfl | h
   · exact⟨hx,hy⟩
   · obtain rfl:r=(z,u):=by simpa using h
     exact⟨hz,hu⟩,by simp,fun j hj=>⟨w.heap.size,0,rfl,by simp,by
   match j,hj with
   | 0,_=>exact Pack.alloc_cell w _ _ 0
   | 1,_=>exact Pack.alloc_cell w _ _ 2,by
   match j,hj with
   | 0,_=>exact Pack.alloc_cell w _ _ 1
   | 1,_=>exact Pack.alloc_cell w _ _ 3⟩⟩
theorem wr_ex:Wr (gn 9) [2,0] [(5,2),(1,1)]:=⟨by decide,rfl,by decide,by decide,by decide⟩
theorem mays_pts {n:Nat} {S:List Nat} {R:List (Nat × Nat)} (h:Wr n S R):Mays (pts S R):=by
 intro p hp
 obtain⟨k,hk,rfl⟩:=List.mem_map.1 hp
 exact (pk_may h (by simpa using hk)).2.2
theorem pts_ex:Mays (pts [2,0] [(5,2),(1,1)]):=mays_pts wr_ex
theorem lives_any (w:World) (hT:Bm.Tab w):Calls Tryz.prog 86 #[] w fun r w'=>r = .returned (.bool true)∧Below w.heap.size w w':=by
 have HT:=hid hT
 obtain⟨sl,bm,bk,E,hpl⟩:=Vol.pl_any 9 1 0
 have HO:=hid (copen_any w 9 1 0 (by omega) (by omega) (by omega) none 0 (ws:=[]) (Pack.wds_nil w none) hpl);have HL11:=hid (fun w' (hb:Below w.heap.size w w')=>Rn.lives_any w' (hT.below hb hT.lt));have HL15:=hid (fun w' (hb:Below w.heap.size w w')=>Vol.lives_any w' (hT.below hb hT.lt));clear hT;go_enter Tryz.func86,Tryz.ntmps86
 go_wp2_with fail
 refine HO.out.mono ?_;rintro e w1 ⟨Q,vb,a,g,gc,rfl,hov⟩;have hb2:=(Below.refl w1.heap.size w1).alloc (Nat.le_refl _) (.cells (dv (gn 9) (gn 1) (gs 0) sl bm bk E (.slice (some ⟨g,0,none⟩) E gc)) 102);have HV2:=hid (hov.vo.grow hb2);have HQ:=hid (show ∀ k,k < w.heap.size→Q k from hov.ql);have HB2:=hid (hov.below.trans (hb2.mono hov.below.size));clear hb2 hov HO;unfold dv at HV2 HB2 ⊢;go_wp2_with fail
 obtain⟨Q2,hQ2⟩:∃ Q2:Nat→Prop,Q2=fun k=>Q k∨(w1.heap.size≤k∧k < (w1.alloc (.cells #[.int .i64 (gn 9:Nat),.int .i64 (gn 1:Nat),.int .i64 (gs 0:Nat),.int .i64 16,.int .i64 (sl:Int),.int .i64 (bm:Int),.int .i64 (bk:Int),.int .i64 (E:Int),.slice (some ⟨g,0,none⟩) E gc] 102)).heap.size):=⟨_,rfl⟩
 rw[← hQ2] at HV2;have HQ2:=hid (show ∀ k,k < w.heap.size→Q2 k by rw[hQ2];exact fun k hk=>.inl (HQ.out k hk));clear hQ2 HQ;generalize w1.alloc (.cells #[.int .i64 (gn 9:Nat),.int .i64 (gn 1:Nat),.int .i64 (gs 0:Nat),.int .i64 16,.int .i64 (sl:Int),.int .i64 (bm:Int),.int .i64 (bk:Int),.int .i64 (E:Int),.slice (some ⟨g,0,none⟩) E gc] 102)=w2 at *;refine (HL11.out _ HB2.out).mono ?_;rintro e w3 ⟨rfl,hb⟩;have HV3:=hid (HV2.out.keep hb);have HB3:=hid (HB2.out.trans (hb.mono HB2.out.size));clear hb HV2 HB2 HL11;go_wp2_with fail
 refine (HL15.out _ HB3.out).mono ?_;rintro e w4 ⟨rfl,hb⟩;have HV4:=hid (HV3.out.keep hb);have HB4:=hid (HB3.out.trans (hb.mono HB3.out.size));clear hb HV3 HB3 HL15;go_wp2_with fail
 have hb6:=((Below.refl w4.heap.size w4).alloc (Nat.le_refl _) (.cells #[.int .i64 2,.int .i64 0] 3)).alloc (by simp) (.cells #[.int .i64 5,.int .i64 2,.int .i64 1,.int .i64 1] 195);have hns:=(nts_two w4 2 0 (by omega) (by omega)).keep ((Below.refl (w4.alloc (.cells #[.int .i64 2,.int .i64 0] 3)).heap.size (w4.alloc (.cells #[.int .i64 2,.int .i64 0] 3))).alloc (Nat.le_refl _) (.cells #[.int .i64 5,.int .i64 2,.int .i64 1,.int .i64 1] 195));have hps:=prs_two (w4.alloc (.cells #[.int .i64 2,.int .i64 0] 3)) 5 2 1 1 (by omega) (by omega) (by omega) (by omega);rw[World.size_alloc] at hps;have HV6:=hid (HV4.out.grow hb6);have HB6:=hid (HB4.out.trans (hb6.mono HB4.out.size));have hz6:((w4.alloc (.cells #[.int .i64 2,.int .i64 0] 3)).alloc (.cells #[.int .i64 5,.int .i64 2,.int .i64 1,.int .i64 1] 195)).heap.size=w4.heap.size+2:=by simp
 have HW:=hid (write_yes HV6.out (some ⟨w4.heap.size,0,none⟩) (some ⟨w4.heap.size+1,0,none⟩) 2 2 [2,0] [(5,2),(1,1)] hns hps wr_ex (fun x hx _=>by cases hx;exact .inr ⟨Nat.le_refl _,by rw[hz6];show w4.heap.size < w4.heap.size+2;omega⟩) (fun x hx _=>by cases hx;exact .inr ⟨Nat.le_succ _,by rw[hz6];show w4.heap.size+1 < _;omega⟩) (by simp));clear hb6 hns hps hz6 HV4 HB4;simp only[List.length_cons,List.length_nil,Nat.zero_add,Nat.reduceAdd] at HW;refine HW.out.mono ?_;rintro e w7 ⟨rfl,hv7,hk7⟩;have HB7:=hid (HB6.out.trans (hk7.below HB6.out.size (fun k hk=>.inl (HQ2.out k hk))));have hrd:=read_any hv7 2;have hlen:=rawW_len (ws:=[]) hpl;have hat:=hpl.at;have hrr:=wk_read (W:=rawW (gn 9) (gn 1) (gs 0) E []) (b:=16+gn 1 * 8) wr_ex (by rw[hlen];omega);rw[show hd [2,0] 0=2 from rfl] at hrr;simp only[List.length_cons,List.length_nil,Nat.zero_add,Nat.reduceAdd] at hrr;unfold RdTo at hrd;rw[hrr] at hrd;simp only at hrd;have HRD:=hid hrd;clear hrd hrr hat hlen hv7 hk7 HW HV6 HB6;go_wp2_with fail
 refine HRD.out.mono ?_;rintro e w8 ⟨A8,c8,B8,d8,rfl,hn8,hp8,hc8,hd8,hb8⟩;have HB8:=hid (HB7.out.trans (hb8.mono HB7.out.size));have HBK:=hid (fun w' (hb:Below w8.heap.size w8 w')=>blocks_any w' A8 B8 (pts [2,0] [(5,2),(1,1)]).length c8 d8 (pts [2,0] [(5,2),(1,1)]) (hp8.keep hb) pts_ex (by decide));clear hn8 hp8 hc8 hd8 hb8 HRD HB7;rw[show tot (pts [2,0] [(5,2),(1,1)])=3 from rfl,show blk (pts [2,0] [(5,2),(1,1)])=[5,6,1] from rfl,show (pts [2,0] [(5,2),(1,1)]).length=2 from rfl] at HBK;rw[show (pts [2,0] [(5,2),(1,1)]).length=2 from rfl];go_wp2_with fail
 have hb9:=(Below.refl w8.heap.size w8).alloc (Nat.le_refl _) (.cells #[.slice A8 2 c8,.slice B8 2 d8] 130);refine (HBK.out _ hb9).mono ?_;rintro e w10 ⟨G,gc,rfl,hnt,hb10⟩;have HB10:=hid ((HB8.out.trans (hb9.mono HB8.out.size)).trans (hb10.mono (Nat.le_trans HB8.out.size hb9.size)));have hal:=(Below.refl w10.heap.size w10).alloc (Nat.le_refl _) (.cells #[.int .i64 5,.int .i64 6,.int .i64 1] 3);have HSM:=hid (rsame_yes _ G (some ⟨w10.heap.size,0,none⟩) gc 3 [5,6,1] (hnt.keep hal) (nts_three w10 5 6 1 (by omega) (by omega) (by omega)));have HB11:=hid (HB10.out.trans (hal.mono HB10.out.size));simp only[List.length_cons,List.length_nil,Nat.zero_add,Nat.reduceAdd] at HSM;clear hb9 hnt hb10 hal HBK HB8 HB10;go_wp2_with fail
 refine HSM.out.mono ?_;rintro e w12 ⟨rfl,hb⟩;have HB12:=hid (HB11.out.trans (hb.mono HB11.out.size));clear hb;go_wp2
 go_ret
 exact⟨rfl,HB12.out⟩
end Chn
end
section
open Lib (hid)
open Go.RowKit Go.MapKept
namespace Clm
open Chn (Pt New Prt slots Mays tot blk blk_len rd pat fw)
open Vol (Vo Hb hb_new Ov Pl gn gs dv rawW rawW_len rdw rx)
def z0:Cl:=⟨0,0,0,[]⟩
theorem raw0 (n m s E j:Nat) (hj:8≤j):(rawW n m s E [])[j]?.getD 0=0:=by
 unfold rawW;rw[List.getElem?_append_right (by rw[Sup.sb_len];exact hj),List.getElem?_map]
 cases (List.range (E - 8))[j - (Sup.sb n m s).length]? with
 | none=>rfl
 | some x=>simp[rx]
theorem rdw_zero (W:List Nat) (p:Nat) (h:∀ j,p≤j→j < p+8→W[j]?.getD 0=0):rdw W p 8=Ino.ln 0 0 0:=by
 rw[Ino.ln_zero];refine List.ext_getElem (by rw[Vol.rdw_len];rfl) (fun i h1 h2=>?_);have h3:i < 8:=h2;rw[Vol.rdw_get,h (p+i) (by omega) (by omega)];unfold Ino.zero
 match i,h3 with
 | 0,_=>rfl
 | 1,_=>rfl
 | 2,_=>rfl
 | 3,_=>rfl
 | 4,_=>rfl
 | 5,_=>rfl
 | 6,_=>rfl
 | 7,_=>rfl
theorem one_free (f:Nat→Option (Nat × Nat × Nat)) (n s:Nat) (hs:0 < s):one f n s (some (0,0,0))=some z0:=
 one_yes (l:=[]) (Chn.rd_iff.2 ⟨rfl,Nat.zero_le _⟩) ((need_iff hs).2 ⟨Nat.zero_le _,fun d hd=>by simp[tot] at hd⟩)
theorem gi_free {W:List Nat} {n m s i:Nat} (hs:0 < s) (h:∀ j,16+8 * i≤j→j < 16+8 * i+8→W[j]?.getD 0=0):gi W n m s i=some z0:=by
 unfold gi;rw[rdw_zero W _ h,Ino.dec_ln (by decide)];exact one_free _ _ _ hs
theorem scn_free {g:Nat→Option Cl}:∀ {i:Nat},(∀ j,j < i→g j=some z0)→scn g i=some (List.replicate i z0)
 | 0,_=>rfl
 | i+1,h=>by
   have h1:=scn_free (i:=i) (fun j hj=>h j (by omega));have e1:sl (List.replicate i z0)=[]:=by simp[sl,sls,z0]
   have e2:bl (List.replicate i z0)=[]:=by simp[bl,blk,z0]
   rw[scn_next h1 (h i (by omega)) (by rw[e1];exact List.nodup_nil) (by rw[e2];exact List.nodup_nil),List.replicate_succ']
theorem zero_any (w:World):Calls Tryz.prog 85 #[] w fun r w'=>r = .returned (.agg #[.int .u8 4,.int .u8 2,.int .u8 0,.slice none 0 0])∧Below w.heap.size w w':=by
 go_enter Tryz.func85,Tryz.ntmps85
 go_wp2
 refine bodyPost_ret (v:=.agg #[.int .u8 4,.int .u8 2,.int .u8 0,.slice none 0 0]) ?_ rfl ⟨rfl,(Below.refl _ _).alloc (Nat.le_refl _) _⟩;simp[results,Tryz.results85,go_sem]
theorem kd_free (i k:Nat):kd (List.replicate i z0) k=0:=by
 unfold kd;by_cases h:k < i
 · rw[List.getElem?_replicate_of_lt h];rfl
 · rw[List.getElem?_eq_none (by simp;omega)];rfl
theorem lives_any (w:World) (hT:Bm.Tab w):Calls Tryz.prog 42 #[] w fun r w'=>r = .returned (.bool true)∧Below w.heap.size w w':=by
 have HT:=hid hT
 obtain⟨sl',bm',bk',E,hpl⟩:=Vol.pl_any 4 2 0
 have HZ:=hid (zero_any w);have HO:=hid (fun w'=>kopen_any w' 4 2 0 (by omega) (by omega) (by omega) none 0 (ws:=[]) (Pack.wds_nil w' none) hpl);have HL16:=hid (fun w' (hb:Below w.heap.size w w')=>Chn.lives_any w' (hT.below hb hT.lt));clear hT;go_enter Tryz.func42,Tryz.ntmps42
 go_wp2_with fail
 refine HZ.out.mono ?_;rintro e w0 ⟨rfl,hb⟩;have HB0:=hid hb;clear hb HZ;go_wp2_with fail
 refine (HO.out _).mono ?_;rintro e w1 ⟨Q,vb,a,g,gc,rfl,hov⟩;have hb2:=(Below.refl w1.heap.size w1).alloc (Nat.le_refl _) (.cells (dv (gn 4) (gn 2) (gs 0) sl' bm' bk' E (.slice (some ⟨g,0,none⟩) E gc)) 102);have HV2:=hid (hov.vo.keep hb2);have HB2:=hid (HB0.out.trans ((hov.below.trans (hb2.mono hov.below.size)).mono HB0.out.size));clear hb2 hov HO;unfold dv at HV2 HB2 ⊢;go_wp2_with fail
 generalize w1.alloc (.cells #[.int .i64 (gn 4:Nat),.int .i64 (gn 2:Nat),.int .i64 (gs 0:Nat),.int .i64 16,.int .i64 (sl':Int),.int .i64 (bm':Int),.int .i64 (bk':Int),.int .i64 (E:Int),.slice (some ⟨g,0,none⟩) E gc] 102)=w2 at *;generalize w1.heap.size=k1 at *;refine (HL16.out _ HB2.out).mono ?_;rintro e w3 ⟨rfl,hb⟩;have HV3:=hid (HV2.out.keep hb);have HB3:=hid (HB2.out.trans (hb.mono HB2.out.size));clear hb HV2 HB2 HL16;go_wp2_with fail
 refine (scan_any HV3.out).mono ?_;intro e w4 k4;have hsc:scn (gi (rawW (gn 4) (gn 2) (gs 0) E []) (gn 4) (gn 2) (gs 0)) (gn 2)=some (List.replicate (gn 2) z0):=scn_free fun j _=>gi_free (by decide) fun i hi _=>raw0 _ _ _ _ i (by omega)
 unfold ScTo at k4;rw[hsc] at k4
 rcases k4 with ⟨h1,_⟩ | ⟨L,P,N,C,X,h1,rfl,hq,_,hb⟩
 · cases h1
 injection h1 with h1
 subst h1;have HQ4:=hid hq;have HB4:=hid (HB3.out.trans (hb.mono HB3.out.size));clear hq hb hsc HB3 HV3;go_wp2_with fail
 have hlen:(List.replicate (gn 2) z0).length=gn 2:=List.length_replicate
 have hfr:∀ c∈List.replicate (gn 2) z0,c.k=0→c.p=0∧c.z=0:=fun c hc _=>by
  obtain rfl:=List.eq_of_mem_replicate hc
  exact⟨rfl,rfl⟩
 have hnf:nf (List.replicate (gn 2) z0) (gn 2)=0:=(Bm.Nx.next (.inr ⟨0,rfl,Nat.le_refl _,by decide,by simp[kd_free],fun c _ hc=>by omega⟩:Bm.Nx (fun i=>kd (List.replicate (gn 2) z0) i != 0) false (gn 2) 0 0)).symm;have hni:=nextInode_any HQ4.out hlen hfr;rw[hnf] at hni;have e1:sl (List.replicate (gn 2) z0)=[]:=by simp[sl,sls,z0]
 have e2:bl (List.replicate (gn 2) z0)=[]:=by simp[bl,blk,z0]
 have HE1:=hid e1;have HE2:=hid e2;clear e1 e2 hlen hfr hnf;refine hni.mono ?_;rintro e w5 ⟨rfl,hb⟩;have HQ5:=hid (HQ4.out.keep hb);have HB5:=hid (HB4.out.trans (hb.mono HB4.out.size));clear hb hni HQ4 HB4;go_wp2_with fail
 refine (cblocks_any HQ5.out).mono ?_;rintro e w6 ⟨p6,q6,C6,rfl,_,_,hm6,hb⟩;rw[HE2.out] at hm6;have HQ6:=hid (HQ5.out.keep hb);have HB6:=hid (HB5.out.trans (hb.mono HB5.out.size));have hct:=Bm.count_any hm6;rw[cnt_ins _ _ List.nodup_nil (by simp)] at hct;clear hb HQ5 HB5;go_wp2_with fail
 refine hct.mono ?_;rintro e w7 ⟨rfl,rfl⟩;clear hct hm6;go_wp2_with fail
 refine (cslots_any HQ6.out).mono ?_;rintro e w8 ⟨p8,q8,C8,rfl,_,_,hm8,hb⟩;rw[HE1.out] at hm8;have HB8:=hid (HB6.out.trans (hb.mono HB6.out.size));have hct:=Bm.free_any hm8;rw[cnt_ins _ _ List.nodup_nil (by simp)] at hct;clear hb HQ6 HB6;go_wp2_with fail
 refine hct.mono ?_;rintro e w9 ⟨rfl,k9,rfl⟩;clear hct hm8;go_wp2
 go_ret
 exact⟨rfl,HB8.out.trans ((drewN_below w8 k9).mono HB8.out.size)⟩
end Clm
end
section
open Lib (hid)
open Go.RowKit Go.MapKept
namespace Fld
open Clm (Cl Pc Cq scn gi scn_free gi_free raw0 z0)
open Vol (Vo Hb hb_new Pl gn gs dv rawW rawW_len)
theorem walk_none (w:World) (v c:Value) (A:Option Addr) (k:Nat):Calls Tryz.prog 45 #[v,c,.slice A 0 k] w fun r w'=>r = .returned (.tuple #[.int .i64 0,.int .i64 0])∧Below w.heap.size w w':=by
 go_enter Tryz.func45,Tryz.ntmps45
 go_wp2_with fail
 go_loopw [8,16] (fun j i wr=>j = .int .i64 0∧i = .int .i64 0∧wr=w) (fun _ _ _=>0)
 case atStart=>exact⟨rfl,rfl,rfl⟩
 case round=>
  obtain⟨rfl,rfl,rfl⟩:=hrel
  go_wp2
  go_ret2
  exact⟨rfl,Below.refl _ _⟩
theorem lives_any (w:World) (hT:Bm.Tab w):Calls Tryz.prog 24 #[] w fun r w'=>r = .returned (.bool true)∧Below w.heap.size w w':=by
 obtain⟨sl',bm',bk',E,hpl⟩:=Vol.pl_any 4 2 0
 have hsc:scn (gi (rawW (gn 4) (gn 2) (gs 0) E []) (gn 4) (gn 2) (gs 0)) (gn 2)=some (List.replicate (gn 2) z0):=scn_free fun j _=>gi_free (by decide) fun i hi _=>raw0 _ _ _ _ i (by omega)
 have HO:=hid (fun w'=>fopen_any w' 4 2 0 (by omega) (by omega) (by omega) none 0 (ws:=[]) (Pack.wds_nil w' none) hpl hsc (fun i _=>Clm.rdw_zero _ _ fun j hj _=>raw0 _ _ _ _ j (by omega)));have HL17:=hid (fun w' (hb:Below w.heap.size w w')=>Clm.lives_any w' (hT.below hb hT.lt));have HL8:=hid (fun w'=>Ent.lives_any w');clear hT hsc;go_enter Tryz.func24,Tryz.ntmps24
 go_wp2_with fail
 refine (HL17.out _ (Below.refl _ _)).mono ?_;rintro r w1 ⟨rfl,hb1⟩;have HB1:=hid hb1;clear hb1;go_wp2_with fail
 refine (HL8.out _).mono ?_;rintro r w2 ⟨rfl,hb2⟩;have HB2:=hid (HB1.out.trans (hb2.mono HB1.out.size));clear hb2;go_wp2_with fail
 refine (HO.out _).mono ?_;rintro r w3 ⟨Q,vb,a,g,gc,P,N,C,X,I,H,ic,hc,rfl,hv,hq,hb3⟩;have HV3:=hid hv;have HQ3:=hid hq;have HB3:=hid (HB2.out.trans (hb3.mono HB2.out.size));clear hv hq hb3;unfold dv;have hb4:=((Below.refl w3.heap.size w3).alloc (Nat.le_refl _) (.cells #[.int .i64 (gn 4:Nat),.int .i64 (gn 2:Nat),.int .i64 (gs 0:Nat),.int .i64 16,.int .i64 (sl':Int),.int .i64 (bm':Int),.int .i64 (bk':Int),.int .i64 (E:Int),.slice (some ⟨g,0,none⟩) E gc] 102));have hb5:=hb4.alloc hb4.size (.cells #[.int .i64 (gn 4:Nat),.slice I (gn 2) ic,.slice H (gn 2) hc] 106);have HQ5:=hid (HQ3.out.keep hb5);have HB5:=hid (HB3.out.trans (hb5.mono HB3.out.size));clear hb4 hb5 HV3 HQ3 HB3;go_wp2_with fail
 generalize ((w3.alloc (.cells #[.int .i64 (gn 4:Nat),.int .i64 (gn 2:Nat),.int .i64 (gs 0:Nat),.int .i64 16,.int .i64 (sl':Int),.int .i64 (bm':Int),.int .i64 (bk':Int),.int .i64 (E:Int),.slice (some ⟨g,0,none⟩) E gc] 102)).alloc (.cells #[.int .i64 (gn 4:Nat),.slice I (gn 2) ic,.slice H (gn 2) hc] 106))=w5 at *;refine (walk_none w5 _ _ none 0).mono ?_;rintro r w6 ⟨rfl,hb6⟩;have HQ6:=hid (HQ5.out.keep hb6);have HB6:=hid (HB5.out.trans (hb6.mono HB5.out.size));clear hb6;go_wp2_with fail
 refine (bytes_free (.pointer (some ⟨vb,0,none⟩)) HQ6.out List.length_replicate 0 (by decide) rfl rfl rfl).mono ?_;rintro r w7 ⟨rfl,hb7⟩;have HB7:=hid (HB6.out.trans (hb7.mono HB6.out.size));clear hb7;go_wp2
 go_ret
 exact⟨rfl,HB7.out⟩
end Fld
end
section
open Go.RowKit Go.MapKept
namespace Tre
abbrev Nm:=List ByteArray
abbrev Th:=Nm × Bool × ByteArray
def fi (t:List Th) (n:Nm):Option Nat:=t.findIdx? (fun x=>decide (x.1=n))
def fv (t:List Th) (n:Nm):Int:=match fi t n with | some i=>(i:Int) | none=>-1
theorem fi_some {t:List Th} {n:Nm} {i:Nat} (h:fi t n=some i):∃ h:i < t.length,t[i].1=n∧∀ j (hj:j < i),(t[j]'(by omega)).1≠n:=by
 unfold fi at h;rw[List.findIdx?_eq_some_iff_getElem] at h
 obtain⟨h1,h2,h3⟩:=h
 exact⟨h1,by simpa using h2,fun j hj=>by simpa using h3 j hj⟩
theorem fi_at {t:List Th} {n:Nm} {i:Nat} (h:i < t.length) (e:t[i].1=n) (hj:∀ j (h':j < i),(t[j]'(by omega)).1≠n):fi t n=some i:=by
 unfold fi;rw[List.findIdx?_eq_some_iff_getElem]
 exact⟨h,by simpa using e,fun j h'=>by simpa using hj j h'⟩
theorem fi_none {t:List Th} {n:Nm} (h:∀ j (hj:j < t.length),t[j].1≠n):fi t n=none:=by
 unfold fi;rw[List.findIdx?_eq_none_iff];intro x hx
 obtain⟨j,hj,rfl⟩:=List.getElem_of_mem hx
 simpa using h j hj
def isDirAt (t:List Th) (i:Nat):Bool:=match t[i]? with | some x=>x.2.1 | none=>false
def dirT (t:List Th) (n:Nm):Bool:=if n=[] then true else match fi t n with | some i=>isDirAt t i | none=>false
def goF (t:List Th) (n:Nm):Nat→Nat→Int
 | 0,_=>0
 | f+1,k=>match fi t (n.take k) with
   | none=>4
   | some i=>if k < n.length∧isDirAt t i=false then 6 else goF t n f (k+1)
def goT (t:List Th) (n:Nm):Int:=goF t n n.length 1
end Tre
end
section
open Go.RowKit Go.MapKept
namespace Pat
def glue (x:List UInt8):List (List UInt8)→List (List UInt8)
 | []=>[x]
 | p :: ps=>(x++p) :: ps
def cut:List UInt8→List (List UInt8)
 | []=>[[]]
 | b :: l=>if b=47 then [] :: cut l else glue [b] (cut l)
theorem glue_len (x:List UInt8) {c:List (List UInt8)} (h:c≠[]):(glue x c).length=c.length:=by
 cases c with
 | nil=>exact absurd rfl h
 | cons=>rfl
theorem cut_ne:∀ l,cut l≠[]
 | []=>by simp[cut]
 | b :: l=>by
   rw[cut]
   split
   · simp
   · cases cut l<;>simp[glue]
theorem cut_len:∀ l,(cut l).length≤l.length+1
 | []=>by simp[cut]
 | b :: l=>by
   have:=cut_len l
   rw[cut]
   split
   · simp;omega
   · rw[glue_len _ (cut_ne l)];simp;omega
theorem cut_at:∀ l,(Lib.indexByte l 47 = -1→cut l=[l])∧∀ i:Nat,Lib.indexByte l 47=(i:Int)→cut l=l.take i :: cut (l.drop (i+1))
 | []=>⟨fun _=>rfl,fun i h=>by
   rw[Lib.indexByte] at h
   omega⟩
 | b :: l=>by
   obtain⟨h1,h2⟩:=cut_at l
   have hge:=Lib.indexByte_ge l 47;rw[cut,Lib.indexByte];by_cases hb:b=47
   · subst hb
     rw[if_pos rfl,if_pos (by simp)]
     refine⟨fun h=>by omega,fun i h=>?_⟩
     obtain rfl:i=0:=by omega
     simp
   · rw[if_neg hb,if_neg (by simpa using hb)]
     by_cases hm:Lib.indexByte l 47 = -1
     · rw[hm,if_pos (by simp),h1 hm]
       exact⟨fun _=>rfl,fun i h=>by omega⟩
     · rw[if_neg (by simpa using hm)]
       refine⟨fun h=>by omega,fun i h=>?_⟩
       obtain⟨j,rfl⟩:∃ j,i=j+1:=⟨i - 1,by omega⟩
       rw[h2 j (by omega)];simp[glue]
theorem splitK_few:∀ (k:Nat) (l:List UInt8),(cut l).length≤k+1→Lib.splitK [47] 0 k l=cut l
 | 0,l,h=>by
   rw[Lib.splitK]
   rcases Int.lt_or_le (Lib.indexByte l 47) 0 with hi | hi
   · have:=Lib.indexByte_ge l 47
     rw[(cut_at l).1 (by omega)]
   · obtain⟨i,hi⟩:=Int.eq_ofNat_of_zero_le hi
     rw[(cut_at l).2 i hi] at h
     have:=cut_ne (l.drop (i+1))
     have:=List.length_pos_iff.2 this
     rw[List.length_cons] at h;omega
 | k+1,l,h=>by
   rw[Lib.splitK,Lib.index_one]
   rcases Int.lt_or_le (Lib.indexByte l 47) 0 with hi | hi
   · have:=Lib.indexByte_ge l 47
     have hm:Lib.indexByte l 47 = -1:=by omega
     rw[hm,if_pos (by decide),(cut_at l).1 hm]
   · obtain⟨i,hi⟩:=Int.eq_ofNat_of_zero_le hi
     have hc:=(cut_at l).2 i hi;rw[hc] at h;rw[hi,if_neg (by simp),hc,splitK_few k _ (by simp at h ⊢;omega)];simp
theorem splitK_many:∀ (k:Nat) (l:List UInt8),k+1≤(cut l).length→(Lib.splitK [47] 0 k l).length=k+1
 | 0,l,_=>rfl
 | k+1,l,h=>by
   rw[Lib.splitK,Lib.index_one]
   rcases Int.lt_or_le (Lib.indexByte l 47) 0 with hi | hi
   · have:=Lib.indexByte_ge l 47
     rw[(cut_at l).1 (by omega)] at h;simp at h
   · obtain⟨i,hi⟩:=Int.eq_ofNat_of_zero_le hi
     rw[(cut_at l).2 i hi] at h;rw[hi,if_neg (by simp),List.length_cons]
     have:=splitK_many k (l.drop (i+1)) (by simp at h;omega)
     simpa using this
abbrev mk (l:List UInt8):ByteArray:=⟨l.toArray⟩
theorem map_mk (m:List ByteArray):(m.map (·.data.toList)).map mk=m:=by
 rw[List.map_map]
 have:(mk ∘ fun s:ByteArray=>s.data.toList)=id:=rfl
 rw[this,List.map_id]
def IsNames (l:List ByteArray):Prop:=l.length≤64∧∀ n∈l,Ent.Right (Crc.tx n)
instance (l:List ByteArray):Decidable (IsNames l):=by unfold IsNames;infer_instance
def isNames (l:List ByteArray):Bool:=decide (IsNames l)
def spl (s:ByteArray):Option (List ByteArray):=
 match s.data.toList with
 | []=>none
 | b :: r=>if b=47 then (if r=[] then some [] else if IsNames ((cut r).map mk) then some ((cut r).map mk) else none) else none
end Pat
end
section
open Go.RowKit Go.MapKept
namespace Pat
structure Txs (w:World) (A:Option Addr) (l:List ByteArray):Prop where
 size:∀ s∈l,s.size≤9223372036854775807
 len:l.length≤9223372036854775807
 at':∀ j (h:j < l.length),∃ b o,A=some ⟨b,o,none⟩∧b < w.heap.size∧w.cell? ⟨b,o+j,none⟩=some (.string l[j])
theorem Txs.keep {w w':World} {A:Option Addr} {l:List ByteArray} (h:Txs w A l) (hb:Below w.heap.size w w'):Txs w' A l:=
 ⟨h.size,h.len,fun j hj=>by
   obtain⟨b,o,e,hlt,hc⟩:=h.at' j hj
   exact⟨b,o,e,Nat.lt_of_lt_of_le hlt hb.size,(hb.cell (p:=⟨b,o+j,none⟩) hlt).trans hc⟩⟩
theorem Txs.alloc {w:World} {A:Option Addr} {l:List ByteArray} (h:Txs w A l) (o:Obj):Txs (w.alloc o) A l:=h.keep ((Below.refl _ _).alloc (Nat.le_refl _) o)
theorem txs_nil (w:World) (A:Option Addr):Txs w A []:=⟨fun _ h=>by simp at h,by simp,fun j h=>by simp at h⟩
theorem Txs.take {w:World} {A:Option Addr} {l:List ByteArray} (h:Txs w A l) (n:Nat):Txs w A (l.take n):=
 ⟨fun s hs=>h.size s (List.mem_of_mem_take hs),by have:=h.len;rw[List.length_take];omega,fun j hj=>by
   have hj':j < l.length:=by rw[List.length_take] at hj;omega
   obtain⟨b,o,e,hlt,hc⟩:=h.at' j hj'
   exact⟨b,o,e,hlt,by rw[hc,List.getElem_take]⟩⟩
abbrev strs (l:List ByteArray):List Value:=l.map .string
theorem strs_one (l:List ByteArray):∀ u∈strs l,u.oneCell'=true:=by
 intro u hu
 obtain⟨x,_,rfl⟩:=List.mem_map.1 hu
 rfl
theorem str_info:(Tryz.prog.info? 9).map (fun i=>(i.zero,i.size,i.bytes))=some (some (.string ByteArray.empty),1,16):=by kernel_rfl
theorem info_parts {t:TypeId} {v:Value} {n m:Nat} (h:(Tryz.prog.info? t).map (fun i=>(i.zero,i.size,i.bytes))=some (some v,n,m)):∃ i,Tryz.prog.info? t=some i∧i.zero=some v∧i.size=n∧i.bytes=m:=by
 cases hi:Tryz.prog.info? t with
 | none=>rw[hi] at h;cases h
 | some i=>
   rw[hi] at h;simp only[Option.map_some,Option.some.injEq,Prod.mk.injEq] at h
   exact⟨i,rfl,h.1,h.2.1,h.2.2⟩
end Pat
end
section
open Go.RowKit Go.MapKept
namespace Pat
theorem below_drewN {B:Nat} {a w:World} (h:Below B a w) (n:Nat):Below B a (w.drewN n):=⟨h.os,h.tape,h.output,h.size,h.block⟩
def Few (l:List ByteArray):Prop:=(∀ s∈l,s.size≤60)∧l.length≤70
instance (l:List ByteArray):Decidable (Few l):=by unfold Few;infer_instance
def few (l:List ByteArray):Bool:=decide (Few l)
end Pat
end
end Go.Proofs.YtlodpaaanfjkeaaGreatDoor
/- Texts. -/
namespace Go.Proofs
open Go.Shelf
def Tryz.splitA_ren : Go.Shelf.Ren := ⟨fun | 147 => 164 | 221 => 216 | 268 => 236 | 138 => 237 | 143 => 238 | 195 => 249 | 197 => 250 | 218 => 251 | 219 => 252 | 260 => 257 | 217 => 258 | 225 => 259 | 224 => 260 | 267 => 261 | 266 => 262 | 314 => 263 | n => n, fun | 9 => 9 | 3 => 3 | 31 => 168 | 4 => 4 | 0 => 0 | 105 => 314 | 21 => 21 | 5 => 5 | 46 => 280 | 119 => 320 | 139 => 323 | 138 => 322 | 146 => 324 | 51 => 210 | n => n, fun | 1 => 1 | 3 => 2 | 4 => 3 | n => n⟩
theorem Tryz.splitA : Go.Proofs.Lays.n147 Tryz.prog Tryz.splitA_ren := {
  mixed := by kernel_rfl
  f138 := Tryz.func237.trans (congrArg some (by kernel_rfl))
  f143 := Tryz.func238.trans (congrArg some (by kernel_rfl))
  f147 := Tryz.func164.trans (congrArg some (by kernel_rfl))
  f195 := Tryz.func249.trans (congrArg some (by kernel_rfl))
  f197 := Tryz.func250.trans (congrArg some (by kernel_rfl))
  f217 := Tryz.func258.trans (congrArg some (by kernel_rfl))
  f218 := Tryz.func251.trans (congrArg some (by kernel_rfl))
  f219 := Tryz.func252.trans (congrArg some (by kernel_rfl))
  f221 := Tryz.func216.trans (congrArg some (by kernel_rfl))
  f224 := Tryz.func260.trans (congrArg some (by kernel_rfl))
  f225 := Tryz.func259.trans (congrArg some (by kernel_rfl))
  f260 := Tryz.func257.trans (congrArg some (by kernel_rfl))
  f266 := Tryz.func262.trans (congrArg some (by kernel_rfl))
  f267 := Tryz.func261.trans (congrArg some (by kernel_rfl))
  f268 := Tryz.func236.trans (congrArg some (by kernel_rfl))
  f314 := Tryz.func263.trans (congrArg some (by kernel_rfl))
  t0 := Tryz.underlying0
  a0 := Tryz.isAgg0
  z0 := Tryz.sizeOf0
  v0 := Tryz.zeroValue0
  t3 := Tryz.underlying3
  a3 := Tryz.isAgg3
  z3 := Tryz.sizeOf3
  v3 := Tryz.zeroValue3
  t4 := Tryz.underlying4
  a4 := Tryz.isAgg4
  z4 := Tryz.sizeOf4
  v4 := Tryz.zeroValue4
  t5 := Tryz.underlying5
  a5 := Tryz.isAgg5
  z5 := Tryz.sizeOf5
  v5 := Tryz.zeroValue5
  t9 := Tryz.underlying9
  a9 := Tryz.isAgg9
  z9 := Tryz.sizeOf9
  v9 := Tryz.zeroValue9
  t21 := Tryz.underlying21
  a21 := Tryz.isAgg21
  z21 := Tryz.sizeOf21
  v21 := Tryz.zeroValue21
  t31 := Tryz.underlying168
  a31 := Tryz.isAgg168
  z31 := Tryz.sizeOf168
  v31 := Tryz.zeroValue168
  t46 := Tryz.underlying280
  a46 := Tryz.isAgg280
  z46 := Tryz.sizeOf280
  v46 := Tryz.zeroValue280
  t51 := Tryz.underlying210
  a51 := Tryz.isAgg210
  z51 := Tryz.sizeOf210
  v51 := Tryz.zeroValue210
  t105 := Tryz.underlying314
  a105 := Tryz.isAgg314
  z105 := Tryz.sizeOf314
  v105 := Tryz.zeroValue314
  t119 := Tryz.underlying320
  a119 := Tryz.isAgg320
  z119 := Tryz.sizeOf320
  t138 := Tryz.underlying322
  a138 := Tryz.isAgg322
  z138 := Tryz.sizeOf322
  v138 := Tryz.zeroValue322
  t139 := Tryz.underlying323
  a139 := Tryz.isAgg323
  z139 := Tryz.sizeOf323
  v139 := Tryz.zeroValue323
  t146 := Tryz.underlying324
  a146 := Tryz.isAgg324
  z146 := Tryz.sizeOf324
  v146 := Tryz.zeroValue324
  g1 := by kernel_rfl
  g3 := by kernel_rfl
  g4 := by kernel_rfl }
end Go.Proofs
namespace Go.Proofs.YtlodpaaanfjkeaaGreatDoor
section
open Lib (hid)
open Go.RowKit Go.MapKept Go.Shelf
namespace Pat
theorem isNames_no {l:List ByteArray} (h:¬ IsNames l):isNames l=false:=decide_eq_false h
theorem right_any (w:World) (A:Option Addr) (c n:Nat) (l:List ByteArray) (h:Txs w A l) (hn:l.length=n) :
 Calls Tryz.prog 165 #[.slice A n c] w fun e w'=>e = .returned (.bool (isNames l))∧w'=w:=by
 subst hn;have hl:=h.len;have H:=hid h;clear h;by_cases h64:l.length≤64
 · have hg:¬ (64:Int) < (l.length:Int):=by omega
   go_enter Tryz.func165,Tryz.ntmps165
   go_wp2
   go_loopw [10] (fun i wr=>∃ k:Nat,k≤l.length∧i = .int .i64 (k:Int)∧wr=w∧∀ s∈l.take k,Ent.Right (Crc.tx s)) (fun i _=>l.length - (intOf i).toNat)
   case atStart=>exact⟨0,Nat.zero_le _,rfl,rfl,fun s hs=>by simp at hs⟩
   case round=>
    obtain⟨k,hk,rfl,rfl,hr⟩:=hrel
    have HR:=hid hr;clear hr;by_cases hlt:k < l.length
    · obtain⟨b,o,rfl,_,hc0⟩:=H.out.at' k hlt
      have hs:=H.out.size _ (List.getElem_mem hlt);have HT:=hid (show l.take (k+1)=l.take k++[l[k]] from List.take_succ_eq_append_getElem hlt);have HM:=hid (List.getElem_mem hlt);generalize l[k]=s at *;by_cases hr:Ent.Right (Crc.tx s)
      · have hrb:Ent.right (Crc.tx s)=true:=Ent.right_iff.2 hr
        have HX:=hid hr;clear hr;go_wp2_with fail
        refine (Ent.right_any _ s hs).mono ?_;rintro e w' ⟨rfl,rfl⟩;rw[hrb];go_wp2
        refine⟨⟨k+1,by omega,by go_num,by first | rfl | trivial,?_⟩,by simp[intOf];omega⟩
        rw[HT.out];intro x hx
        rcases List.mem_append.1 hx with h1 | h1
        · exact HR.out x h1
        · obtain rfl:x=s:=by simpa using h1
          exact HX.out
      · have hrb:Ent.right (Crc.tx s)=false:=Ent.right_no hr
        have HX:=hid (isNames_no (l:=l) (fun h=>hr (h.2 _ HM.out)));clear hr;go_wp2_with fail
        refine (Ent.right_any _ s hs).mono ?_;rintro e w' ⟨rfl,rfl⟩;rw[hrb];go_wp2
        go_ret
        exact⟨by rw[HX.out];rfl,rfl⟩
    · obtain rfl:k=l.length:=by omega
      rw[List.take_length] at HR;have HX:=hid (show isNames l=true from decide_eq_true ⟨h64,HR.out⟩);go_wp2
      go_ret
      exact⟨by rw[HX.out];rfl,rfl⟩
 · have hg:(64:Int) < (l.length:Int):=by omega
   have HX:=hid (isNames_no (l:=l) (fun h=>h64 h.1));go_enter Tryz.func165,Tryz.ntmps165
   go_wp2
   go_ret
   exact⟨by rw[HX.out];rfl,rfl⟩
theorem index_one (w:World) (x:ByteArray) (c:Array Value) (t:TypeId):Calls Tryz.prog 238 #[.string x,.string ⟨#[47]⟩] (w.alloc (.cells c t)) fun e w'=>e = .returned (.int .i64 (Lib.indexB x ⟨#[47]⟩))∧w'=w.alloc (.cells c t):=
 (Any.strings_Index_one { Tryz.splitA with } x 47 (w.alloc (.cells c t))).mono fun e w' ⟨he,hw⟩=>⟨by
   rw[he];show _=Ending.returned (Value.int .i64 (Lib.index x.data.toList [47]))
   rw[Lib.index_one],hw⟩
theorem count_one (w:World) (s:ByteArray):Calls Tryz.prog 237 #[.string s,.string ⟨#[47]⟩] w fun e w'=>e = .returned (.int .i64 (Lib.countB s ⟨#[47]⟩))∧w'=w:=
 (Any.strings_Count_one { Tryz.splitA with } s 47 w).mono fun e w' ⟨he,hw⟩=>⟨by
   rw[he];show _=Ending.returned (Value.int .i64 ((Lib.count s.data.toList [47]:Nat):Int))
   rw[Lib.count_one]
   rfl,hw⟩
theorem pieces_few {s:ByteArray} (h:(cut s.data.toList).length≤64):Lib.splitB ⟨#[47]⟩ 0 (min 65 (s.size+1) - 1) s=(cut s.data.toList).map mk:=by
 have h1:=Lib.splitB_data ⟨#[47]⟩ 0 (min 65 (s.size+1) - 1) s;have hl:=cut_len s.data.toList;rw[← Lib.size_eq] at hl;have h2:Lib.splitK [47] 0 (min 65 (s.size+1) - 1) s.data.toList=cut s.data.toList:=splitK_few _ _ (by omega);have h3:=congrArg (List.map mk) (h1.trans h2);rw[map_mk] at h3;exact h3
theorem pieces_many {s:ByteArray} (h:¬ (cut s.data.toList).length≤64):(Lib.splitB ⟨#[47]⟩ 0 (min 65 (s.size+1) - 1) s).length=65:=by
 have h1:=congrArg List.length (Lib.splitB_data ⟨#[47]⟩ 0 (min 65 (s.size+1) - 1) s);have hl:=cut_len s.data.toList;rw[← Lib.size_eq] at hl;have hk:min 65 (s.size+1) - 1=64:=by omega
 rw[hk] at h1 ⊢;rw[List.length_map] at h1;rw[h1];exact splitK_many 64 s.data.toList (by omega)
theorem piece_size (k:Nat):∀ (s:ByteArray),∀ x∈Lib.splitB ⟨#[47]⟩ 0 k s,x.size≤s.size:=by
 induction k with
 | zero=>
   intro s x hx;rw[Lib.splitB_zero] at hx;obtain rfl:x=s:=by simpa using hx
   exact Nat.le_refl _
 | succ k ih=>
   intro s x hx
   rcases Lib.indexB_cases s ⟨#[47]⟩ with hix | ⟨i,hix,hroom⟩
   · rw[Lib.splitB_miss _ _ _ _ hix] at hx
     obtain rfl:x=s:=by simpa using hx
     exact Nat.le_refl _
   · rw[Lib.splitB_hit _ _ _ _ i hix] at hx
     rcases List.mem_cons.1 hx with rfl | hx
     · rw[ByteArray.size_extract];omega
     · have:=ih _ x hx
       rw[ByteArray.size_extract] at this;omega
theorem cells_txs (w:World) (l:List ByteArray) (N:Nat) (t:TypeId) (hs:∀ s∈l,s.size≤9223372036854775807) (hl:l.length≤9223372036854775807):Txs (w.alloc (.cells (Lib.cellsOf l N) t)) (some ⟨w.heap.size,0,none⟩) l:=
 ⟨hs,hl,fun j hj=>⟨w.heap.size,0,rfl,by simp,by
   rw[Nat.zero_add,World.cell?_alloc_mark];unfold Lib.cellsOf;rw[List.getElem?_toArray,List.getElem?_append_left (by simpa using hj),List.getElem?_map,List.getElem?_eq_getElem hj]
   rfl⟩⟩
def GotN (w:World) (l:List ByteArray) (c:Nat) (e:Ending) (w':World):Prop:=
 ∃ A,e = .returned (.slice A l.length c)∧l.length≤c∧Txs w' A l∧Below w.heap.size w w'
theorem splitN_any (w:World) (s:ByteArray) (hs:s.size < 4294967281) :
 Calls Tryz.prog 164 #[.string s,.string ⟨#[47]⟩,.int .i64 65] w (GotN w (Lib.splitB ⟨#[47]⟩ 0 (min 65 (s.size+1) - 1) s) (min 65 (s.size+1))):=by
 have c:=Any.strings_genSplit_core { Tryz.splitA with } str_info s ⟨#[47]⟩ 0 65 (min 65 (s.size+1)) w hs (by decide) (Nat.zero_le _) (fun x c _=>index_one w x c 9) (count_one w s) (by decide) (by decide) (by rw[if_neg (by decide)];omega);have hle:=Lib.splitB_length_le ⟨#[47]⟩ 0 (min 65 (s.size+1) - 1) s;have hps:=piece_size (min 65 (s.size+1) - 1) s;have HT:=hid (cells_txs w (Lib.splitB ⟨#[47]⟩ 0 (min 65 (s.size+1) - 1) s) (min 65 (s.size+1)) 9 (fun x hx=>by have:=hps x hx;omega) (by omega));have HC:=hid (show Calls Tryz.prog 216 #[.string s,.string ⟨#[47]⟩,.int .i64 0,.int .i64 65] w _ from c);have HL:=hid (show (Lib.splitB ⟨#[47]⟩ 0 (min 65 (s.size+1) - 1) s).length≤min 65 (s.size+1) by omega);have HB:=hid ((Below.refl w.heap.size w).alloc (Nat.le_refl _) (.cells (Lib.cellsOf (Lib.splitB ⟨#[47]⟩ 0 (min 65 (s.size+1) - 1) s) (min 65 (s.size+1))) 9));clear c hle hps;go_enter Tryz.func164,Tryz.ntmps164
 go_wp2_with fail
 refine HC.out.mono ?_;rintro e w1 ⟨rfl,hw⟩
 have HX:=hid (show GotN w (Lib.splitB ⟨#[47]⟩ 0 (min 65 (s.size+1) - 1) s) (min 65 (s.size+1)) (.returned (.slice (some ⟨w.heap.size,0,none⟩) (Lib.splitB ⟨#[47]⟩ 0 (min 65 (s.size+1) - 1) s).length (min 65 (s.size+1)))) w1 by
  rw[hw]
  exact⟨_,rfl,HL.out,HT.out,HB.out⟩)
 clear hw HC HT HL HB;go_wp2
 go_ret;exact HX.out
def SplR (w:World) (s:ByteArray) (e:Ending) (w':World):Prop:=
 Below w.heap.size w w'∧((∃ l A c,spl s=some l∧e = .returned (.tuple #[.slice A l.length c,.int .i64 0])∧l.length≤c∧Txs w' A l)∨(spl s=none∧e = .returned (.tuple #[.slice none 0 0,.int .i64 3])))
theorem spl_root {s:ByteArray} (h:s.toList=[47]):spl s=some []:=by
 have:s.data.toList=[47]:=by rw[← Lib.toList_data];exact h
 unfold spl;rw[this];rfl
theorem data_cons {s:ByteArray} (h0:0 < s.size):s.data.toList=s[0] :: (s.extract 1 s.size).data.toList:=by
 rw[Lib.extract_to_end];have h1:=Lib.data_getElem? s 0 h0
 cases e:s.data.toList with
 | nil=>rw[e] at h1;simp at h1
 | cons b l=>
   rw[e] at h1;simp at h1;rw[h1];rfl
theorem spl_cons {s:ByteArray} (h0:0 < s.size) (hb:s[0]=47) (h1:s.toList≠[47]):spl s=if IsNames ((cut (s.extract 1 s.size).data.toList).map mk) then some ((cut (s.extract 1 s.size).data.toList).map mk) else none:=by
 have e:=data_cons h0;rw[hb] at e;have hr:(s.extract 1 s.size).data.toList≠[]:=fun h=>h1 (by rw[Lib.toList_data,e,h])
 unfold spl;rw[e];simp only[if_true];rw[if_neg hr]
theorem spl_other {s:ByteArray} (h:∀ h0:0 < s.size,s[0]≠47):spl s=none:=by
 by_cases h0:0 < s.size
 · have e:=data_cons h0
   unfold spl;rw[e];simp only;rw[if_neg (h h0)]
 · have:s.data.toList=[]:=List.length_eq_zero_iff.1 (by rw[← Lib.size_eq];omega)
   unfold spl;rw[this]
theorem head_text {s:ByteArray} (h0:0 < s.size):(s.extract 0 1).toList=[s[0]]:=by
 rw[Lib.toList_data,Lib.extract_from_zero,data_cons h0];rfl
end Pat
end
section
open Lib (hid)
open Go.RowKit Go.MapKept Go.Shelf
namespace Pat
theorem cutPrefix_yes (w:World) (s:ByteArray) (hs:s.size≤9223372036854775807) (h0:0 < s.size) (hb:s[0]=47) :
 Calls Tryz.prog 163 #[.string s,.string ⟨#[47]⟩] w fun e w'=>e = .returned (.tuple #[.string (s.extract 1 s.size),.bool true])∧w'=w:=by
 have h1:=head_text h0;rw[hb] at h1;have h2:((s.extract 0 1).toList == [47])=true:=by rw[h1];rfl
 have h3:(1:Int)≤(s.size:Int):=by omega
 clear hb;go_enter Tryz.func163,Tryz.ntmps163
 go_wp2
 refine bodyPost_ret (v:=.tuple #[.string (s.extract 1 s.size),.bool true]) ?_ rfl ⟨rfl,rfl⟩;simp[results,Tryz.results163,go_sem]
theorem cutPrefix_no (w:World) (s:ByteArray) (hs:s.size≤9223372036854775807) (h:∀ h0:0 < s.size,s[0]≠47) :
 Calls Tryz.prog 163 #[.string s,.string ⟨#[47]⟩] w fun e w'=>e = .returned (.tuple #[.string s,.bool false])∧w'=w:=by
 by_cases h0:0 < s.size
 · have h1:=head_text h0
   have hb:=h h0;have h2:((s.extract 0 1).toList == [47])=false:=by rw[h1];simpa using hb
   have h4:¬ (s.extract 0 1).toList=[47]:=by rw[h1];simpa using hb
   have h3:(1:Int)≤(s.size:Int):=by omega
   clear h hb h1;go_enter Tryz.func163,Tryz.ntmps163
   go_wp2
   refine bodyPost_ret (v:=.tuple #[.string s,.bool false]) ?_ rfl ⟨rfl,rfl⟩;simp[results,Tryz.results163,go_sem]
 · have h3:¬ (1:Int)≤(s.size:Int):=by omega
   clear h;go_enter Tryz.func163,Tryz.ntmps163
   go_wp2
   refine bodyPost_ret (v:=.tuple #[.string s,.bool false]) ?_ rfl ⟨rfl,rfl⟩;simp[results,Tryz.results163,go_sem]
theorem split_any (w:World) (s:ByteArray) (hs:s.size < 4294967281) :
 Calls Tryz.prog 99 #[.string s] w (SplR w s):=by
 have hs2:s.size≤9223372036854775807:=by omega
 have hsz:(s.extract 1 s.size).size < 4294967281:=by rw[ByteArray.size_extract];omega
 by_cases hr:s.toList=[47]
 · have HX:=hid (show SplR w s (.returned (.tuple #[.slice none 0 0,.int .i64 0])) w from ⟨Below.refl _ _,.inl ⟨[],none,0,spl_root hr,rfl,Nat.le_refl _,txs_nil _ _⟩⟩)
   go_enter Tryz.func99,Tryz.ntmps99
   go_wp2
   refine bodyPost_ret (v:=.tuple #[.slice none 0 0,.int .i64 0]) ?_ rfl HX.out;simp[results,Tryz.results99,go_sem]
 · have hr1:(s.toList == [47])=false:=by simpa using hr
   by_cases hh:∀ h0:0 < s.size,s[0]≠47
   · have HX:=hid (show SplR w s (.returned (.tuple #[.slice none 0 0,.int .i64 3])) w from ⟨Below.refl _ _,.inr ⟨spl_other hh,rfl⟩⟩)
     have HC:=hid (cutPrefix_no w s hs2 hh);clear hh;go_enter Tryz.func99,Tryz.ntmps99
     go_wp2_with fail
     refine HC.out.mono ?_;rintro e w1 ⟨rfl,rfl⟩;go_wp2
     refine bodyPost_ret (v:=.tuple #[.slice none 0 0,.int .i64 3]) ?_ rfl HX.out;simp[results,Tryz.results99,go_sem]
   · obtain⟨h0,hb⟩:∃ h0:0 < s.size,s[0]=47:=by
      by_cases h0:0 < s.size
      · refine⟨h0,?_⟩
        by_cases hb:s[0]=47
        · exact hb
        · exact absurd (fun _=>hb) hh
      · exact absurd (fun h=>absurd h h0) hh
     have hsp:=spl_cons h0 hb hr;have HC:=hid (cutPrefix_yes w s hs2 h0 hb);have HN:=hid (splitN_any w (s.extract 1 s.size) hsz);clear hh hb;generalize s.extract 1 s.size=r at *;by_cases hn:IsNames (Lib.splitB ⟨#[47]⟩ 0 (min 65 (r.size+1) - 1) r)
     · have hnb:isNames (Lib.splitB ⟨#[47]⟩ 0 (min 65 (r.size+1) - 1) r)=true:=decide_eq_true hn
       have hfew:(cut r.data.toList).length≤64:=by
        by_cases h:(cut r.data.toList).length≤64
        · exact h
        · have h1:=pieces_many h
          have:=hn.1
          omega
       have hpc:=pieces_few hfew
       have hsp2:spl s=some (Lib.splitB ⟨#[47]⟩ 0 (min 65 (r.size+1) - 1) r):=by
        rw[hsp,← hpc,if_pos hn]
       have HS:=hid hsp2;clear hsp hfew hpc hn hsp2;generalize Lib.splitB ⟨#[47]⟩ 0 (min 65 (r.size+1) - 1) r=l at *;go_enter Tryz.func99,Tryz.ntmps99
       go_wp2_with fail
       refine HC.out.mono ?_;rintro e w1 ⟨rfl,rfl⟩;go_wp2_with fail
       refine HN.out.mono ?_;rintro e w2 ⟨A,rfl,hc,ht,hb⟩;have HT:=hid ht;have HX:=hid (show SplR w1 s (.returned (.tuple #[.slice A l.length (min 65 (r.size+1)),.int .i64 0])) w2 from ⟨hb,.inl ⟨l,A,_,HS.out,rfl,hc,ht⟩⟩);clear hc ht hb;generalize min 65 (r.size+1)=c at *;go_wp2_with fail
       refine (right_any w2 A c l.length l HT.out rfl).mono ?_;rintro e w3 ⟨rfl,rfl⟩;rw[hnb];go_wp2
       refine bodyPost_ret (v:=.tuple #[.slice A l.length c,.int .i64 0]) ?_ rfl HX.out;simp[results,Tryz.results99,go_sem]
     · have hnb:isNames (Lib.splitB ⟨#[47]⟩ 0 (min 65 (r.size+1) - 1) r)=false:=decide_eq_false hn
       have hsp2:spl s=none:=by
        rw[hsp];refine if_neg (fun h=>hn ?_)
        have hfew:(cut r.data.toList).length≤64:=by
         have:=h.1
         rw[List.length_map] at this;exact this
        rw[pieces_few hfew];exact h
       have HS:=hid hsp2;clear hsp hn hsp2;generalize Lib.splitB ⟨#[47]⟩ 0 (min 65 (r.size+1) - 1) r=l at *;go_enter Tryz.func99,Tryz.ntmps99
       go_wp2_with fail
       refine HC.out.mono ?_;rintro e w1 ⟨rfl,rfl⟩;go_wp2_with fail
       refine HN.out.mono ?_;rintro e w2 ⟨A,rfl,hc,ht,hb⟩;have HT:=hid ht;have HX:=hid (show SplR w1 s (.returned (.tuple #[.slice none 0 0,.int .i64 3])) w2 from ⟨hb,.inr ⟨HS.out,rfl⟩⟩);clear hc ht hb;generalize min 65 (r.size+1)=c at *;go_wp2_with fail
       refine (right_any w2 A c l.length l HT.out rfl).mono ?_;rintro e w3 ⟨rfl,rfl⟩;rw[hnb];go_wp2
       refine bodyPost_ret (v:=.tuple #[.slice none 0 0,.int .i64 3]) ?_ rfl HX.out;simp[results,Tryz.results99,go_sem]
end Pat
end
section
open Lib (hid)
open Go.RowKit Go.MapKept Go.Shelf
namespace Pat
theorem ex_yes:spl ⟨#[47,97,47,98]⟩=some [⟨#[97]⟩,⟨#[98]⟩]:=by decide +kernel
theorem ex_no:spl ⟨#[47,97,47]⟩=none:=by decide +kernel
theorem split_yes (w:World):Calls Tryz.prog 99 #[.string ⟨#[47,97,47,98]⟩] w fun e w'=>∃ A c,e = .returned (.tuple #[.slice A 2 c,.int .i64 0])∧Txs w' A [⟨#[97]⟩,⟨#[98]⟩]∧Below w.heap.size w w':=
 (split_any w _ (by decide)).mono fun e w' ⟨hb,h⟩=>by
   rcases h with ⟨l,A,c,hs,he,_,ht⟩ | ⟨hs,_⟩
   · rw[ex_yes] at hs
     injection hs with hs
     subst hs
     exact⟨A,c,he,ht,hb⟩
   · rw[ex_yes] at hs
     cases hs
theorem split_no (w:World):Calls Tryz.prog 99 #[.string ⟨#[47,97,47]⟩] w fun e w'=>e = .returned (.tuple #[.slice none 0 0,.int .i64 3])∧Below w.heap.size w w':=
 (split_any w _ (by decide)).mono fun e w' ⟨hb,h⟩=>by
   rcases h with ⟨l,A,c,hs,_⟩ | ⟨_,he⟩
   · rw[ex_no] at hs
     cases hs
   · exact⟨he,hb⟩
theorem lives_any (w:World):Calls Tryz.prog 48 #[] w fun e w'=>e = .returned (.bool true)∧Below w.heap.size w w':=by
 have H1:=hid split_yes;have H2:=hid split_no;have H3:=hid Ent.lives_any;go_enter Tryz.func48,Tryz.ntmps48
 go_wp2_with fail
 refine (H1.out _).mono ?_;rintro e w1 ⟨A,c,rfl,ht,hb⟩;have HT:=hid ht;have HB:=hid hb;clear ht hb;go_wp2_with fail
 refine (H2.out _).mono ?_;rintro e w2 ⟨rfl,hb2⟩;have HT2:=hid (HT.out.keep hb2);have HB2:=hid (HB.out.trans (hb2.mono HB.out.size));clear hb2;go_wp2_with fail
 refine (H3.out _).mono ?_;rintro e w3 ⟨rfl,hb3⟩;have hb3':=HB2.out.trans (hb3.mono HB2.out.size);have HB3:=hid hb3'
 obtain⟨b,o,rfl,_,hc0⟩:=(HT2.out.keep hb3).at' 0 (by decide)
 obtain⟨b',o',e,_,hc1⟩:=(HT2.out.keep hb3).at' 1 (by decide)
 injection e with e
 injection e with e1 e2
 subst e1 e2;simp only[List.getElem_cons_zero,List.getElem_cons_succ,Nat.add_zero] at hc0 hc1;clear hb3 hb3';go_wp2
 go_ret
 exact⟨rfl,HB3.out⟩
end Pat
end
section
open Lib (hid)
open Go.RowKit Go.MapKept Go.Lib
namespace Pat
def Own (w:World) (g:Nat) (l:List ByteArray):Prop:=w.rowIs g 9 l.length (fun i=>.string (l.getD i ByteArray.empty))
theorem Own.txs {w:World} {g:Nat} {l:List ByteArray} (h:Own w g l) (hs:∀ s∈l,s.size≤9223372036854775807) (hl:l.length≤9223372036854775807):Txs w (some ⟨g,0,none⟩) l:=
 ⟨hs,hl,fun j hj=>⟨g,0,rfl,World.rowIs.lt h,by
   rw[Nat.zero_add,World.rowIs.cell h hj,List.getD_eq_getElem?_getD,List.getElem?_eq_getElem hj,Option.getD_some]⟩⟩
theorem Own.keep {w w':World} {g N:Nat} {l:List ByteArray} (h:Own w g l) (hb:Below N w w') (hg:g < N):Own w' g l:=World.rowIs.of_block h (hb.block g hg)
theorem kid_at {m:List ByteArray} {s:ByteArray}:(m++[s])[m.length]'(by simp)=s:=by simp
theorem parent_yes (w:World) (A:Option Addr) (c n k:Nat) (m:List ByteArray) (s:ByteArray) (h:Txs w A (m++[s])) (hk:m.length=k) (hn:n=k+1) (hm:k≤1000000) :
 Calls Tryz.prog 166 #[.slice A n c] w fun e w'=>∃ g,e = .returned (.tuple #[.slice (some ⟨g,0,none⟩) k k,.string s,.bool true])∧w.heap.size≤g∧Own w' g m∧Below w.heap.size w w':=by
 subst hk;have hmk:=run_make_row' (P:=Tryz.prog) 168 9 _ 16 Tryz.underlying168 str_info rfl .i64 .i64 m.length (by omega) (by omega) w;have hr1:=World.rowIs_made w (.string ByteArray.empty) m.length 9;have hb1:=(Below.refl w.heap.size w).alloc (Nat.le_refl _) (.cells (madeCells #[.string ByteArray.empty] m.length) 9)
 obtain⟨b,o,hA,hlt,hc⟩:=h.at' m.length (by simp)
 rw[kid_at] at hc;subst hA
 have hcp:=run_copy_cells (P:=Tryz.prog) (w.alloc (.cells (madeCells #[.string ByteArray.empty] m.length) 9)) 168 168 3 9 w.heap.size 0 m.length m.length ⟨b,o,none⟩ n c (strs m)
  Tryz.underlying168 (by kernel_rfl) (by rw[hn];simp[strs])
  (fun j v hj=>by
    have hjl:j < m.length:=by
     have:=(List.getElem?_eq_some_iff.1 hj).1
     simpa [strs] using this
    obtain⟨b',o',e,hlt',hc'⟩:=(h.alloc (.cells (madeCells #[.string ByteArray.empty] m.length) 9)).at' j (by simp;omega)
    injection e with e
    injection e with e1 e2
    subst e1 e2;rw[Go.WideShapes.add_plain,hc',← hj];simp[strs,List.getElem_append_left hjl,List.getElem?_eq_getElem hjl])
  (fun j hj=>by
    have hjl:j < m.length:=by simpa [strs] using hj
    rw[Nat.zero_add,hr1.cell hjl];rfl)
  (fun j hj=>hr1.frozen _) (strs_one m)
 have hr2:Own ((w.alloc (.cells (madeCells #[.string ByteArray.empty] m.length) 9)).setCells w.heap.size 0 (strs m)) w.heap.size m:=
  (rowIs_setCells (strs m) 0 (w.alloc (.cells (madeCells #[.string ByteArray.empty] m.length) 9)) _ hr1).congr (fun j hj=>by
    rw[if_pos ⟨Nat.zero_le _,by simpa [strs] using hj⟩];simp[strs,List.getElem?_eq_getElem hj])
 have hb2:=below_setCells (b:=w.heap.size) (Nat.le_refl _) (strs m) 0 _ hb1;have hcw:=(hb2.cell (p:=⟨b,o+m.length,none⟩) hlt).trans hc;have hlen:(strs m).length=m.length:=by simp[strs]
 rw[hlen] at hcp;have HO:=hid hr2;have HB:=hid hb2;have hsub:(n:Int) - 1=(m.length:Int):=by omega
 have hn0:((n:Int) == 0)=false:=beq_eq_false_iff_ne.2 (by omega);have hn1:¬ (n:Int)=0:=by omega
 have hi0:(0:Int)≤(m.length:Int):=by omega
 have hi1:(m.length:Int) < (n:Int):=by omega
 clear h hr1 hr2 hb1 hb2 hn hlen hc;generalize w.heap.size=g at *;generalize w.alloc (.cells (madeCells #[.string ByteArray.empty] m.length) 9)=w1 at *;generalize w1.setCells g 0 (strs m)=w2 at *;go_enter Tryz.func166,Tryz.ntmps166
 go_wp2
 go_quiet (fail)
 go_wp2
 refine bodyPost_ret (v:=.tuple #[.slice (some ⟨g,0,none⟩) m.length m.length,.string s,.bool true]) ?_ rfl ⟨g,rfl,Nat.le_refl _,HO.out,below_drewN HB.out _⟩;simp[results,Tryz.results166,go_sem]
theorem parent_no (w:World) (A:Option Addr) (c:Nat) :
 Calls Tryz.prog 166 #[.slice A 0 c] w fun e w'=>e = .returned (.tuple #[.slice none 0 0,.string ByteArray.empty,.bool false])∧w'=w:=by
 go_enter Tryz.func166,Tryz.ntmps166
 go_wp2
 refine bodyPost_ret (v:=.tuple #[.slice none 0 0,.string ByteArray.empty,.bool false]) ?_ rfl ⟨rfl,rfl⟩;simp[results,Tryz.results166,go_sem];rfl
end Pat
end
section
open Go.RowKit Go.MapKept Go.Shelf
namespace Pat
theorem Txs.left {w:World} {A:Option Addr} {m r:List ByteArray} (h:Txs w A (m++r)):Txs w A m:=by
 have:=h.take m.length
 rwa [List.take_left] at this
end Pat
end
section
open Go.RowKit Go.MapKept Go.Shelf
namespace Pat
theorem wpList_append_run {P:Program} {w w':World} {ops:Array Oper} {rest:List Oper} {o:Oper} {a:Act} {Q:Exit→Act→World→Prop} (hgd:o.guard=none) (s x:Operand) (t:TypeId)
 (ho:o.op = .call { callee:=.builtin .append,args:=#[s,x],argTypes:=#[t,t] }) (v u v':Value) (hs:a.eval s=v) (hx:a.eval x=u) (hr:(Builtin.append_ #[t,t] o.type #[v,u]).run P w = .ok v' w')
 (h:wpList P ops Q rest (a.put o.dst v') w'):wpList P ops Q (o :: rest) a w:=by
 refine wpList_plain hgd fun K hK=>?_
 unfold Oper.wp execOp;simp only[ho,resolve,invoke,builtin,Sem.run_bind,Sem.run_pure,Result.andThen_ok,List.map_toArray,List.map_cons,List.map_nil,hs,hx,hr];exact hK _ _ h
end Pat
end
section
open Go.RowKit Go.MapKept
namespace Tre
open Pat (Txs)
abbrev Tg:=Option Addr × Nat × Th
structure Ths (w:World) (A:Option Addr) (l:List Tg):Prop where
 len:l.length≤1000000
 nm:∀ g∈l,Txs w g.1 g.2.2.1∧g.2.2.1.length≤g.2.1
 sz:∀ g∈l,g.2.2.2.2.size≤9223372036854775807
 at':∀ j (h:j < l.length),∃ b o,A=some ⟨b,o,none⟩∧b < w.heap.size∧w.cell? ⟨b,o+j * 3,none⟩=some (.slice l[j].1 l[j].2.2.1.length l[j].2.1)∧w.cell? ⟨b,o+j * 3+1,none⟩=some (.bool l[j].2.2.2.1)∧w.cell? ⟨b,o+j * 3+2,none⟩=some (.string l[j].2.2.2.2)
def Apart (b:Nat) (A:Option Addr) (l:List Tg):Prop:=(∀ a,A=some a→l≠[]→a.block≠b)∧∀ g∈l,∀ a,g.1=some a→g.2.2.1≠[]→a.block≠b
theorem Ths.apart {w:World} {A:Option Addr} {l:List Tg} (h:Ths w A l) {b:Nat} (hb:w.heap.size≤b):Apart b A l:=by
 refine⟨fun a e hl=>?_,fun g hg a e hn=>?_⟩
 · obtain⟨b',o',e',hlt,_⟩:=h.at' 0 (List.length_pos_iff.2 hl)
   rw[e] at e';injection e' with e'
   subst e';simp only;omega
 · obtain⟨b',o',e',hlt,_⟩:=(h.nm g hg).1.at' 0 (List.length_pos_iff.2 hn)
   rw[e] at e';injection e' with e'
   subst e';simp only;omega
end Tre
end
section
open Go.RowKit Go.MapKept Go.Shelf
namespace Pat
def Mid (s:ByteArray) (k:Nat) (m:List ByteArray) (t:ByteArray):Prop:=
 k≤s.size∧cut (s.extract 1 s.size).data.toList=m.map (·.data.toList)++glue t.data.toList (cut (s.data.toList.drop k))
theorem drop_byte {s:ByteArray} {k:Nat} (h:k < s.size):s.data.toList.drop k=s[k] :: s.data.toList.drop (k+1):=by
 have h1:=Lib.data_getElem? s k h;have h2:k < s.data.toList.length:=by rw[← Lib.size_eq];exact h
 rw[List.drop_eq_getElem_cons h2];rw[List.getElem?_eq_getElem h2] at h1;injection h1 with h1
 rw[h1]
theorem mid_piece {s:ByteArray} {k:Nat} {m:List ByteArray} {t:ByteArray} (h:k=s.size∨∃ h:k < s.size,s[k]=47) (hm:Mid s k m t):∃ r,cut (s.extract 1 s.size).data.toList=m.map (·.data.toList)++t.data.toList :: r:=by
 rw[hm.2]
 rcases h with rfl | ⟨h,hb⟩
 · refine⟨[],?_⟩
   rw[List.drop_eq_nil_of_le (by rw[← Lib.size_eq];exact Nat.le_refl _)];simp[cut,glue]
 · refine⟨cut (s.data.toList.drop (k+1)),?_⟩
   rw[drop_byte h,cut,if_pos hb];simp[glue]
def St (s:ByteArray) (k:Nat) (m:List ByteArray) (t:ByteArray):Prop:=
 (∀ n∈m,Ent.Right (Crc.tx n))∧m.length≤64∧t.size≤k∧(Mid s k m t∨(k=s.size+1∧cut (s.extract 1 s.size).data.toList=m.map (·.data.toList)))
theorem St.mid {s:ByteArray} {k:Nat} {m:List ByteArray} {t:ByteArray} (h:St s k m t) (hk:k≤s.size):Mid s k m t:=by
 rcases h.2.2.2 with h | ⟨h,_⟩
 · exact h
 · omega
theorem St.none {s:ByteArray} {k:Nat} {m:List ByteArray} {t:ByteArray} (h:St s k m t) (hk:k≤s.size) (hb:k=s.size∨∃ h:k < s.size,s[k]=47) (hr:¬ Ent.Right (Crc.tx t)∨m.length=64):¬ IsNames ((cut (s.extract 1 s.size).data.toList).map mk):=by
 obtain⟨r,e⟩:=mid_piece hb (h.mid hk)
 intro hn;rw[e] at hn
 rcases hr with hr | hr
 · exact hr (hn.2 t (by simp))
 · have:=hn.1
   simp at this;omega
theorem St.last {s:ByteArray} {k:Nat} {m:List ByteArray} {t:ByteArray} (h:St s k m t) (hk:s.size < k):(cut (s.extract 1 s.size).data.toList).map mk=m∧IsNames m:=by
 rcases h.2.2.2 with h1 | ⟨_,h1⟩
 · have:=h1.1
   omega
 · exact⟨by rw[h1,map_mk],h.2.1,h.1⟩
end Pat
end
section
open Go.RowKit Go.MapKept
namespace Tre
open Pat (Txs)
def fileT (t:List Th) (p:ByteArray):Int × Int:=
 match Pat.spl p with
 | none=>(-1,3)
 | some n=>if goT t n≠0 then (-1,goT t n) else if dirT t n=true then (-1,7) else (fv t n,0)
theorem fileT_none {t:List Th} {p:ByteArray} (h:Pat.spl p=none):fileT t p=(-1,3):=by unfold fileT;rw[h]
theorem fileT_go {t:List Th} {p:ByteArray} {n:Nm} (h:Pat.spl p=some n) (hg:goT t n≠0):fileT t p=(-1,goT t n):=by unfold fileT;rw[h];exact if_pos hg
theorem fileT_dir {t:List Th} {p:ByteArray} {n:Nm} (h:Pat.spl p=some n) (hg:goT t n=0) (hd:dirT t n=true):fileT t p=(-1,7):=by
 unfold fileT;rw[h];exact (if_neg (fun h=>h hg)).trans (if_pos hd)
end Tre
end
section
open Go.RowKit Go.MapKept
namespace Tre
open Pat (Txs)
theorem row_base_lt3 {w:World} {B:Nat} {e:TypeId} {n:Nat} {v:Value} {xs:List Value} (h:w.ownsRow B e 3 v n xs) {g:Nat} (hg:v.ownBlock=some g):B≤g:=(World.ownsRow.lt h g hg).1
theorem own_keep3 {w w':World} {B n:Nat} {t:TypeId} {v:Value} {xs:List Value} (h:w.ownsRow B t 3 v n xs) (hb:Below w.heap.size w w'):w'.ownsRow B t 3 v n xs:=by
 have hN:=fun g hg=>(World.ownsRow.lt h g hg).2
 rcases h with ⟨h1,h2⟩
 refine⟨h1,?_⟩
 rcases h2 with h0 | ⟨g,cap,cur,e,hB,hh,hr⟩
 · exact .inl h0
 · exact .inr ⟨g,cap,cur,e,hB,(hb.block g (hN g (by rw[e];rfl))).trans hh,hr⟩
def addT (t:List Th) (p:ByteArray) (d:Bool):List Th × Int:=
 match Pat.spl p with
 | none=>(t,3)
 | some n=>if n=[] then (t,5) else if goT t (n.take (n.length - 1))≠0 then (t,goT t (n.take (n.length - 1))) else if dirT t (n.take (n.length - 1))=false then (t,6) else if (fi t n).isSome then (t,5) else (t++[(n,d,ByteArray.empty)],0)
theorem addT_none {t:List Th} {p:ByteArray} {d:Bool} (h:Pat.spl p=none):addT t p d=(t,3):=by unfold addT;rw[h]
theorem addT_root {t:List Th} {p:ByteArray} {d:Bool} (h:Pat.spl p=some []):addT t p d=(t,5):=by unfold addT;rw[h];rfl
section
variable {t : List Th} {p : ByteArray} {d : Bool} {n : Nm} (h : Pat.spl p = some n) (h0 : n ≠ [])
include h h0
theorem addT_go (hg:goT t (n.take (n.length - 1))≠0):addT t p d=(t,goT t (n.take (n.length - 1))):=by
 unfold addT;rw[h];simp only;rw[if_neg h0,if_pos hg]
theorem addT_file (hg:goT t (n.take (n.length - 1))=0) (hd:dirT t (n.take (n.length - 1))=false):addT t p d=(t,6):=by
 unfold addT;rw[h];simp only;rw[if_neg h0,if_neg (fun h=>h hg),if_pos hd]
theorem addT_there {i:Nat} (hg:goT t (n.take (n.length - 1))=0) (hd:dirT t (n.take (n.length - 1))=true) (hf:fi t n=some i):addT t p d=(t,5):=by
 unfold addT;rw[h];simp only;rw[if_neg h0,if_neg (fun h=>h hg),if_neg (by rw[hd];decide),if_pos (by rw[hf];rfl)]
theorem addT_yes (hg:goT t (n.take (n.length - 1))=0) (hd:dirT t (n.take (n.length - 1))=true) (hf:fi t n=none):addT t p d=(t++[(n,d,ByteArray.empty)],0):=by
 unfold addT;rw[h];simp only;rw[if_neg h0,if_neg (fun h=>h hg),if_neg (by rw[hd];decide),if_neg (by rw[hf];decide)]
end
structure Bx (w:World) (b0 b1:Nat) (v u:Value):Prop where
 l0:b0 < w.heap.size
 l1:b1 < w.heap.size
 c0:w.cell? ⟨b0,0,none⟩=some v
 c1:w.cell? ⟨b1,0,none⟩=some u
 f1:w.frozen? ⟨b1,0,none⟩=false
theorem Bx.keep {w w':World} {b0 b1:Nat} {v u:Value} (h:Bx w b0 b1 v u) (hb:Below w.heap.size w w'):Bx w' b0 b1 v u:=
 ⟨Nat.lt_of_lt_of_le h.l0 hb.size,Nat.lt_of_lt_of_le h.l1 hb.size,(hb.cell (p:=⟨b0,0,none⟩) h.l0).trans h.c0,(hb.cell (p:=⟨b1,0,none⟩) h.l1).trans h.c1,(hb.frozen (p:=⟨b1,0,none⟩) h.l1).trans h.f1⟩
end Tre
end
section
open Go.RowKit Go.MapKept
namespace Tre
open Pat (Txs)
def setT:List Th→Nat→ByteArray→List Th
 | [],_,_=>[]
 | x :: t,0,s=>(x.1,x.2.1,s) :: t
 | x :: t,i+1,s=>x :: setT t i s
def zt (n:Nat):ByteArray:=Crc.str (List.replicate n 0)
theorem zt_size (n:Nat):(zt n).size=n:=by
 rw[Lib.size_eq];unfold zt Crc.str;simp
end Tre
end
section
open Go.RowKit Go.MapKept
namespace Tre
open Pat (Txs)
def dropT (t:List Th) (i:Nat):List Th:=t.take i++t.drop (i+1)
end Tre
end
end Go.Proofs.YtlodpaaanfjkeaaGreatDoor
