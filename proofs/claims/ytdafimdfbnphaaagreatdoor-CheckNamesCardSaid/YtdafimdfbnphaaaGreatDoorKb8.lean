/- Texts laid together: ChnWrite, ChnOpen, ChnLives, ClmLives, EntMath, EntRight, EntMay, EntPut, EntEncode, EntDecode, EntRef, EntRefDec, EntLives, FldLives, PatMath, TreMath, PatCut, PatMem, PatOrd, PatLay. -/
import Derived.Test.YtdafimdfbnphaaaGreatDoorKb7
import Derived.Test.YtdafimdfbnphaaaGreatDoorKb6
import Derived.Test.YtdafimdfbnphaaaGreatDoorKb5
import Derived.Test.YtdafimdfbnphaaaGreatDoorKa2
import Derived.Test.YtdafimdfbnphaaaGreatDoorKb1
import Derived.Deep.OwnRows
import Derived.Deep.RegionHeld3
import Derived.BigCall
import Derived.RegionTactic
import Derived.ChangeAlike
import Derived.Lib.LazyBuf
import Derived.Laws.MakeOwn
import Derived.Laws.Strings
import Derived.Lib.SplitLaws
import Derived.Lib.IndexBytes
import Derived.Lib.Join
import Derived.Laws.OwnMore
import Derived.OneCell
import Derived.ArgAppend
import Derived.Laws.Cover1
import Derived.Deep.QuietTactic
import Derived.BigQuiet
import Derived.Shelf.Strings.Split
import Derived.Shelf.Strings.OnBuilder
import Derived.Ground.NamesProg
import Derived.Test.YtdafimdfbnphaaaGreatDoorProg
import Derived.Test.YtdafimdfbnphaaaGreatDoorKa1
import Derived.Test.YtdafimdfbnphaaaGreatDoorKb2
import Derived.Test.YtdafimdfbnphaaaGreatDoorKb3
import Derived.Test.YtdafimdfbnphaaaGreatDoorKb4
/- Texts. -/
namespace Go.Proofs.YtdafimdfbnphaaaGreatDoor
open Lib (hid)
open Go.RowKit Go.Shelf Go.MapKept
attribute [local go_sem] Oper.semAt_some
namespace Chn
open Vol (Vo Up Kq)
set_option maxHeartbeats 1000000 in
theorem back_in (F:Fence) (f:Nat) (hf:F.fn 118) (hro:F.round=none) (A:Option Addr) (n c:Nat) (w:World) :
 CallsIn F f Tryz.prog 118 #[.slice A n c] w fun e w'=>e = .returned (.func (.func 171) #[] #[.pointer (some ⟨w.heap.size,0,none⟩)])∧w'=w.alloc (.cells #[.slice A n c] 87):=by
 refine callsIn_of_wp Tryz.func118 rfl hf ?_ hro
 simp only[Tryz.ntmps118,List.size_toArray,List.length_cons,List.length_nil,Nat.reduceAdd,Nat.reduceSub,Array.replicate_succ,Array.replicate_zero,List.push_toArray,List.append_toArray,List.nil_append,List.cons_append]
 gi_wp2
 go_ret
 exact⟨rfl,rfl⟩
section
variable {Q : Nat → Prop} {w w' : World} {vb a n m s : Nat} {W : List Nat} {st sn : Nat}
theorem up_off (h:Up Q w a W st sn) {L:Nat} (hL:Q L) (ho:Pm.Off (fun k=>k=L) w w'):Up Q w' a W st sn:=by
 obtain⟨A,⟨D,hrep,e,ok,hf,hq⟩,r⟩:=h
 exact⟨A,⟨D,hrep.keep (fun k hk=>ho.block k (hrep.foot_lt hk) (fun e=>hf k hk (by rw[e];exact hL))),e,ok,hf,fun k hk=>Nat.lt_of_lt_of_le (hq k hk) ho.size⟩,r⟩
theorem vo_off (h:Vo Q w vb a n m s W st sn) {L:Nat} (hL:Q L) (hne:vb≠L) (ho:Pm.Off (fun k=>k=L) w w'):Vo Q w' vb a n m s W st sn:=
 ⟨(ho.block vb h.lt hne).trans h.vol,h.q,up_off h.up hL ho,h.may,h.len⟩
theorem box_off {b:Nat} {t:TypeId} {v:Value} (h:Boxed w b t v) {L:Nat} (hne:b≠L) (ho:Pm.Off (fun k=>k=L) w w'):Boxed w' b t v:=(ho.block b h.lt hne).trans h
theorem kq_off {w2:World} (h:Kq Q w w') {L:Nat} (hL:w.heap.size≤L) (ho:Pm.Off (fun k=>k=L) w' w2):Kq Q w w2:=Pm.Off.trans h ho (fun b hb e=>by omega)
theorem prs_kq {B:Option Addr} {l:List (Int × Int)} (h:Prs w B l) (hk:Kq Q w w') (hq:∀ x,B=some x→l≠[]→Q x.block):Prs w' B l:=
 ⟨h.i64,h.len,fun j hj=>by
   obtain⟨b,o,e,hlt,hc,hd⟩:=h.at' j hj
   have hb:=hk.at (hq _ e (fun h0=>by rw[h0] at hj;exact absurd hj (by simp))) hlt
   exact⟨b,o,e,Nat.lt_of_lt_of_le hlt hk.size,(World.cell?_of_block (w:=w) (a:=⟨b,o+j * 2,none⟩) hb).trans hc,(World.cell?_of_block (w:=w) (a:=⟨b,o+j * 2+1,none⟩) hb).trans hd⟩⟩
theorem nts_kq {B:Option Addr} {l:List Int} (h:Pack.Nts w B l) (hk:Kq Q w w') (hq:∀ x,B=some x→l≠[]→Q x.block):Pack.Nts w' B l:=
 ⟨h.i64,h.len,fun j hj=>by
   obtain⟨b,o,e,hlt,hc⟩:=h.at' j hj
   have hb:=hk.at (hq _ e (fun h0=>by rw[h0] at hj;exact absurd hj (by simp))) hlt
   exact⟨b,o,e,Nat.lt_of_lt_of_le hlt hk.size,(World.cell?_of_block (w:=w) (a:=⟨b,o+j,none⟩) hb).trans hc⟩⟩
structure Mid (Q:Nat→Prop) (w:World) (b0 b1 b2 b3 b4 b5:Nat) (vb a n m s:Nat) (W:List Nat) (st sn:Nat) (A B:Option Addr) (c d:Nat) (S:List Nat) (R:List (Nat × Nat)) (k:Nat) (X:World):Prop where
 vo:Vo (fun x=>Q x∨(w.heap.size≤x∧x < b5)) X vb a n m s (wk W (16+m * 8) S R k) (st+2 * k) (sn+k)
 vol:Boxed X b0 31 (.pointer (some ⟨vb,0,none⟩))
 runs:Boxed X b1 196 (.slice B R.length d)
 err:Boxed X b2 46 (.int .i64 0)
 next:Boxed X b3 3 (.int .i64 (hd S (S.length - k)))
 slots:Boxed X b4 87 (.slice A S.length c)
 kq:Kq Q w X
 size:b5≤X.heap.size
theorem get_set {l:Array Bool} {i:Nat} (hi:i < l.size) (j:Nat):(l.setIfInBounds i true).getD j false=if i=j then true else l.getD j false:=by
 simp only[Array.getD_eq_getD_getElem?,Array.getElem?_setIfInBounds]
 by_cases h:i=j
 · subst h
   simp[hi]
 · simp[h]
theorem run_blocks (u v x:Value) (W:World):(Instr.field 122 (.agg #[u,v,x]) 0).run Tryz.prog W = .ok u W:=by kernel_rfl
theorem bel_drew {N:Nat} (w:World):Below N w w.drew:=⟨rfl,rfl,rfl,Nat.le_refl _,fun _ _=>rfl⟩
set_option maxHeartbeats 4000000 in
set_option maxRecDepth 100000 in
theorem write_yes (h:Vo Q w vb a n m s W st sn) (A B:Option Addr) (c d:Nat) (S:List Nat) (R:List (Nat × Nat)) (hs:Pack.Nts w A (S.map Int.ofNat)) (hr:Prs w B (R.map (fun r:Nat × Nat=>((r.1:Int),(r.2:Int))))) (hwr:Wr n S R)
 (hqa:∀ x,A=some x→S≠[]→Q x.block) (hqb:∀ x,B=some x→R≠[]→Q x.block) (hst:st+2 * S.length < 100000000000) :
 Calls Tryz.prog 56 #[.pointer (some ⟨vb,0,none⟩),.slice A S.length c,.slice B R.length d] w fun r w'=>r = .returned (.int .i64 0)∧Vo Q w' vb a n m s (wk W (16+m * 8) S R S.length) (st+2 * S.length) (sn+S.length)∧Kq Q w w':=by
 have hn:=h.num.1.2
 have HG:=hid (fun w' (hb:Below w.heap.size w w')=>Vol.geometry_any (h.keep hb))
 have HM:=hid (fun w' (hb:Below w.heap.size w w')=>mayWrite_any w' n (by omega) A B c d (S.map Int.ofNat) (R.map (fun r:Nat × Nat=>((r.1:Int),(r.2:Int)))) (hs.keep hb) (hr.keep hb))
 rw[show mayW n _ _=true from may_of hwr] at HM
 have HS:=hid hs
 have HR:=hid hr
 have HV:=hid h
 have HWR:=hid hwr
 have HQA:=hid hqa
 have HQB:=hid hqb
 clear h hs hr hwr hn hqa hqb
 simp only[List.length_map] at HM
 refine (callsIn_wide (n:=3)).1 ?_
 refine callsIn_of_wp_marks Tryz.func56 rfl trivial ?_ rfl
 simp only[Tryz.ntmps56,List.size_toArray,List.length_cons,List.length_nil,Nat.reduceAdd,Nat.reduceSub,Array.replicate_succ,Array.replicate_zero,List.push_toArray,List.append_toArray,List.nil_append,List.cons_append]
 refine wpIn_wide.2 ?_
 go_wp2_with fail
 have hb0:=(((Below.refl w.heap.size w).alloc (Nat.le_refl _) (.cells #[.pointer (some ⟨vb,0,none⟩)] 31)).alloc (by simp) (.cells #[.slice B R.length d] 196)).alloc (by simp;omega) (.cells #[.int .i64 0] 46)
 have bx0:Boxed ((w.alloc (.cells #[.pointer (some ⟨vb,0,none⟩)] 31)).alloc (.cells #[.slice B R.length d] 196) |>.alloc (.cells #[.int .i64 0] 46)) w.heap.size 31 (.pointer (some ⟨vb,0,none⟩)):=((Boxed.new w 31 _).alloc _).alloc _
 have bx1:=(Boxed.new (w.alloc (.cells #[.pointer (some ⟨vb,0,none⟩)] 31)) 196 (.slice B R.length d)).alloc (.cells #[.int .i64 0] 46)
 have bx2:=Boxed.new ((w.alloc (.cells #[.pointer (some ⟨vb,0,none⟩)] 31)).alloc (.cells #[.slice B R.length d] 196)) 46 (.int .i64 0)
 simp only[World.size_alloc] at bx1 bx2
 have HB0:=hid hb0
 have BX0:=hid bx0
 have BX1:=hid bx1
 have BX2:=hid bx2
 clear hb0 bx0 bx1 bx2
 generalize ((w.alloc (.cells #[.pointer (some ⟨vb,0,none⟩)] 31)).alloc (.cells #[.slice B R.length d] 196)).alloc (.cells #[.int .i64 0] 46)=w0 at *
 have c0:=BX0.out.cell
 have c1:=BX1.out.cell
 have l0:=BX0.out.lt
 have l1:=BX1.out.lt
 have HC:=hid (HG.out w0.drew (HB0.out.trans (bel_drew _)))
 have hrf:=run_blocks (.int .i64 (n:Int)) (.int .i64 (m:Int)) (.int .i64 (s:Int))
 go_region_held3 (fun W'=>W'.cell? ⟨w.heap.size,0,none⟩=some (.pointer (some ⟨vb,0,none⟩))∧W'.cell? ⟨w.heap.size+1,0,none⟩=some (.slice B R.length d)) (go_keep)
  (first
  | (go_at_call 59
     with_reducible refine HC.out.mono ?_
     rintro r w1 ⟨rfl,hb⟩
     have HB1:=hid ((HB0.out.trans (bel_drew w0)).trans (hb.mono HB0.out.size))
     have BX01:=hid (show Boxed w1 w.heap.size 31 (.pointer (some ⟨vb,0,none⟩)) from (hb.block _ l0).trans BX0.out)
     have BX11:=hid (show Boxed w1 (w.heap.size+1) 196 (.slice B R.length d) from (hb.block _ l1).trans BX1.out)
     have BX21:=hid (show Boxed w1 (w.heap.size+1+1) 46 (.int .i64 0) from (hb.block _ BX2.out.lt).trans BX2.out)
     clear hb
     have c01:=BX01.out.cell
     have c11:=BX11.out.cell
     have HC1:=hid (HM.out w1 HB1.out))
  | (go_at_call 117
     with_reducible refine HC1.out.mono ?_
     rintro r w2 ⟨rfl,hb⟩
     have HB2:=hid (HB1.out.trans (hb.mono HB1.out.size))
     have BX02:=hid (show Boxed w2 w.heap.size 31 (.pointer (some ⟨vb,0,none⟩)) from (hb.block _ BX01.out.lt).trans BX01.out)
     have BX12:=hid (show Boxed w2 (w.heap.size+1) 196 (.slice B R.length d) from (hb.block _ BX11.out.lt).trans BX11.out)
     have BX22:=hid (show Boxed w2 (w.heap.size+1+1) 46 (.int .i64 0) from (hb.block _ BX21.out.lt).trans BX21.out)
     clear hb
     have c02:=BX02.out.cell
     have c12:=BX12.out.cell))
 clear c0 c1 l0 l1 c01 c11 c02 c12 HC HC1 BX0 BX1 BX2 BX01 BX11 BX21
 go_wp2_with fail
 refine ((callsIn_wide (n:=1)).1 (back_in Fence.wide 1 trivial rfl A S.length c _)).mono ?_
 rintro r w3 ⟨rfl,rfl⟩
 go_wp2_with fail
 have hb3:=HB2.out.alloc HB2.out.size (.cells #[.int .i64 (-1)] 3)
 have hz3:=World.size_alloc w2 (.cells #[.int .i64 (-1)] 3)
 have hb4:=hb3.alloc hb3.size (.cells #[.slice A S.length c] 87)
 have hz4:=World.size_alloc (w2.alloc (.cells #[.int .i64 (-1)] 3)) (.cells #[.slice A S.length c] 87)
 have bx3:=(Boxed.new w2 3 (.int .i64 (-1))).alloc (.cells #[.slice A S.length c] 87)
 have bx4:=Boxed.new (w2.alloc (.cells #[.int .i64 (-1)] 3)) 87 (.slice A S.length c)
 rw[hz3] at bx4 hz4
 have bx0:=(BX02.out.alloc (.cells #[.int .i64 (-1)] 3)).alloc (.cells #[.slice A S.length c] 87)
 have bx1:=(BX12.out.alloc (.cells #[.int .i64 (-1)] 3)).alloc (.cells #[.slice A S.length c] 87)
 have bx2:=(BX22.out.alloc (.cells #[.int .i64 (-1)] 3)).alloc (.cells #[.slice A S.length c] 87)
 generalize (w2.alloc (.cells #[.int .i64 (-1)] 3)).alloc (.cells #[.slice A S.length c] 87)=w4 at *
 have HZ4:=hid hz4
 have HL2:=hid (show w.heap.size+1+1 < w2.heap.size from BX22.out.lt)
 have HM0:=hid (fun r=>show Mid Q w w.heap.size (w.heap.size+1) (w.heap.size+1+1) w2.heap.size (w2.heap.size+1) (w4.heap.size+2) vb a n m s W st sn A B c d S R 0 ((w4.alloc (.deferred (some []))).alloc (.loop r)) from by
  have hb5:=(hb4.alloc hb4.size (.deferred (some []))).alloc (by simp;have:=hb4.size;omega) (.loop r)
  refine⟨?_,(bx0.alloc _).alloc _,(bx1.alloc _).alloc _,(bx2.alloc _).alloc _,?_,(bx4.alloc _).alloc _,Vol.kq_below hb5,by simp⟩
  · have:=HV.out.grow hb5
    simp only[World.size_alloc] at this
    exact this
  · rw[Nat.sub_zero,hd_none (Nat.le_refl _)]
    exact (bx3.alloc _).alloc _)
 clear hb3 hz3 hb4 hz4 bx3 bx4 bx0 bx1 bx2 BX02 BX12 BX22
 refine (wpIn_wide (n:=3)).1 ?_
 refine range_back (F:=Fence.wide) rfl (by omega) (gf:=171) (lb:=#[.pointer (some ⟨w2.heap.size+1,0,none⟩)]) rfl trivial (enters_of Tryz.func171 (by kernel_rfl) rfl)
  (encs:=bw (S.map Int.ofNat)) (N:=S.length) (fun _=>rfl)
  (Mid Q w w.heap.size (w.heap.size+1) (w.heap.size+1+1) w2.heap.size (w2.heap.size+1) (w4.heap.size+2) vb a n m s W st sn A B c d S R) (fun _=>False) ?hI (fun _ _ h _=>h) HM0.out ?hseq
  (fun k=>{ tmps:=#[.pointer (some ⟨vb,0,none⟩),.slice A S.length c,.slice B R.length d,.pointer (some ⟨w.heap.size,0,none⟩),undef,.pointer (some ⟨w.heap.size+1,0,none⟩),.pointer (some ⟨w.heap.size+1+1,0,none⟩),.pointer (some ⟨w2.heap.size,0,none⟩),
    .int .i64 ((S.length:Int) - 1 - (k:Int)),.int .i64 ((Option.map Int.ofNat S[S.length - 1 - k]?).getD 0),undef,undef,.pointer (some ⟨vb,0,none⟩),.agg #[.int .i64 (n:Int),.int .i64 (m:Int),.int .i64 (s:Int)],.int .i64 (n:Int),.slice A S.length c,.slice B R.length d,.bool true,.bool false,.slice A S.length c,
    .func (.func 171) #[] #[.pointer (some ⟨w2.heap.size+1,0,none⟩)],.int .i64 ((S.length:Int) - 1 - (k:Int)),.int .i64 ((Option.map Int.ofNat S[S.length - 1 - k]?).getD 0),undef,undef,undef,undef,undef,undef,undef,undef,undef,undef,undef,undef,undef,undef,undef,undef,undef,undef,undef,undef],defers:=[] })
  ?assign ?body ?done (fun _ h _=>h.elim)
 case hI=>
  intro k X X' hi ho
  have hlt:w.heap.size+1+1 < w4.heap.size+1:=by have:=HZ4.out;have:=HL2.out;omega
  have hvl:=HV.out.lt
  exact⟨vo_off hi.vo (.inr ⟨by omega,by omega⟩) (by omega) ho,box_off hi.vol (by omega) ho,box_off hi.runs (by omega) ho,box_off hi.err (by omega) ho,
   box_off hi.next (by have:=HZ4.out;omega) ho,box_off hi.slots (by have:=HZ4.out;omega) ho,kq_off hi.kq (by omega) ho,Nat.le_trans hi.size ho.size⟩
 case hseq=>
  intro l J Jx X hJI hY h0
  have:=back1_in Fence.wide 2 trivial rfl (by omega) l (w2.heap.size+1) A c (S.map Int.ofNat) (by simp;have:=HWR.out.few;have:=HWR.out.n64;omega) J Jx (fun k X hj=>by
   have hi:=hJI k X hj
   exact⟨by rw[List.length_map];exact hi.slots.cell,nts_kq HS.out hi.kq (fun x hx h0=>HQA.out x hx (fun e=>h0 (by rw[e];rfl)))⟩) (fun k X hj hk=>hY k X hj (by simpa using hk)) X h0
  rw[List.length_map] at this
  exact this
 case assign=>
  intro l k X K hK
  dsimp only[bw]
  gi_wp2
  exact hK
 case done=>
  intro X hi hD
  have HI:=hid hi
  have HD:=hid hD
  have c2:=hi.err.cell
  have f2:=hi.err.frozen
  have hz4:=HZ4.out
  have hl2:=HL2.out
  have hvl:=HV.out.lt
  clear hi hD
  go_wp2
  have ho:=(Pm.Off.refl (fun q=>q=w.heap.size+1+1) X).setCell (p:=⟨w.heap.size+1+1,0,none⟩) (fun _=>rfl) (.int .i64 0)
  have hk1:(X.setCell ⟨w.heap.size+1+1,0,none⟩ (.int .i64 0)).heap[w4.heap.size]? = some (.deferred (some [])):=(Below.heap_setCell _ _ _ _ (by show w4.heap.size≠w.heap.size+1+1;omega)).trans HD.out
  have hq2:=(HI.out.err.set (.int .i64 0)).kept (grownBy_putObj' _ w4.heap.size (.deferred none)) (by simp;omega)
  have hc2:=hq2.cell
  have hv:=vo_off HI.out.vo (.inr ⟨by omega,by omega⟩) (by omega) ho
  have hkk:=kq_off HI.out.kq (by omega) ho
  generalize X.setCell ⟨w.heap.size+1+1,0,none⟩ (.int .i64 0)=X2 at *
  refine⟨by simp,.inl ⟨_,_,rfl,run_takeDeferred hk1,?_⟩⟩
  refine⟨.int .i64 0,?_,rfl,?_,?_⟩
  · simp[results,Tryz.results56,go_sem,hc2]
  · exact (vo_off hv (.inr ⟨by omega,by omega⟩) (by omega) (off_put X2 w4.heap.size (.deferred none))).sub (fun k h=>.inl h) HV.out.q
  · exact kq_off hkk (by omega) (off_put X2 w4.heap.size (.deferred none))
 case body=>
  intro l k X hi hk
  obtain⟨j,hj⟩:∃ j,j=S.length - 1 - k:=⟨_,rfl⟩
  have hjl:j < S.length:=by omega
  have hjr:j < R.length:=by rw[HWR.out.len];exact hjl
  rw[show (S.length:Int) - 1 - (k:Int)=(j:Int) by omega,← hj,List.getElem?_eq_getElem hjl,Option.map_some,Option.getD_some]
  obtain⟨⟨m1,m2⟩,m3,m4⟩:=pk_may HWR.out hjl
  obtain⟨b,o,rfl,hbb,hd0,hd1⟩:=(prs_kq HR.out hi.kq (fun x hx h0=>HQB.out x hx (fun e=>h0 (by rw[e];rfl)))).at' j (by simpa using hjr)
  have e1:(pk S R j).x=R[j].1:=by simp[pk,hjr]
  have e2:(pk S R j).c=R[j].2:=by simp[pk,hjr]
  simp only[List.getElem_map,← e1,← e2] at hd0 hd1
  have hnx:hd S (S.length - k)=Slo.nx (pk S R j).q:=by unfold hd pk;simp only;rw[show j+1=S.length - k by omega]
  have HI:=hid hi
  have c0:=hi.vol.cell
  have c1:=hi.runs.cell
  have c3:=hi.next.cell
  rw[hnx] at c3
  have l0:=hi.vol.lt
  have l1:=hi.runs.lt
  have l3:=hi.next.lt
  have HJ:=hid (show j=S.length - 1 - k∧k < S.length from ⟨hj,hk⟩)
  clear hi hj hk e1 e2 hnx
  have hjI:(j:Int) < (R.length:Int):=by omega
  gi_wp2_with fail
  obtain⟨x,hx⟩:∃ x,x=(pk S R j).x:=⟨_,rfl⟩
  obtain⟨y,hy⟩:∃ y,y=(pk S R j).c:=⟨_,rfl⟩
  obtain⟨z,hz⟩:∃ z,z=Slo.nx (pk S R j).q:=⟨_,rfl⟩
  have HXYZ:=hid (show x=(pk S R j).x∧y=(pk S R j).c∧z=Slo.nx (pk S R j).q from ⟨hx,hy,hz⟩)
  rw[← hx] at hd0
  rw[← hy] at hd1
  rw[← hz] at c3
  rw[← hx,← hy] at m2 m4
  rw[← hy] at m1
  rw[← hz] at m4
  clear hx hy hz
  obtain⟨sj,hsj⟩:∃ sj,sj=S[j]:=⟨_,rfl⟩
  have HSJ:=hid hsj
  rw[← hsj]
  clear hsj
  refine wpIn_region_any (by kernel_rfl) ?_
  change wpAnyIn _ _ _ _ _ _ _ _ _ X.drew
  refine any_inv (fun l a' X'=>∃ u10 u23 u24 u25 u26 u27 u28 u29 u30 u31 u32 u33 u34:Value,a'={ tmps:=#[.pointer (some ⟨vb,0,none⟩),.slice A S.length c,.slice (some ⟨b,o,none⟩) R.length d,.pointer (some ⟨w.heap.size,0,none⟩),undef,.pointer (some ⟨w.heap.size+1,0,none⟩),.pointer (some ⟨w.heap.size+1+1,0,none⟩),.pointer (some ⟨w2.heap.size,0,none⟩),
   .int .i64 (j:Int),.int .i64 (sj:Int),u10,undef,.pointer (some ⟨vb,0,none⟩),.agg #[.int .i64 (n:Int),.int .i64 (m:Int),.int .i64 (s:Int)],.int .i64 (n:Int),.slice A S.length c,.slice (some ⟨b,o,none⟩) R.length d,.bool true,.bool false,.slice A S.length c,
   .func (.func 171) #[] #[.pointer (some ⟨w2.heap.size+1,0,none⟩)],.int .i64 (j:Int),.int .i64 (sj:Int),u23,u24,u25,u26,u27,u28,u29,u30,u31,u32,u33,u34,undef,undef,undef,undef,undef,undef,undef,undef],defers:=[] } ∧
   (l.getD 0 false=true→u23 = .slice (some ⟨b,o,none⟩) R.length d)∧(l.getD 1 false=true→u24 = .int .i64 (j:Int))∧(l.getD 2 false=true→u25 = .pointer (some ⟨b,o+j * 2,none⟩))∧(l.getD 3 false=true→u26 = .pointer (some ⟨b,o+j * 2,none⟩))∧(l.getD 4 false=true→u27 = .int .i64 (x:Int)) ∧
   (l.getD 5 false=true→u28 = .slice (some ⟨b,o,none⟩) R.length d)∧(l.getD 6 false=true→u29 = .int .i64 (j:Int))∧(l.getD 7 false=true→u30 = .pointer (some ⟨b,o+j * 2,none⟩))∧(l.getD 8 false=true→u31 = .pointer (some ⟨b,o+j * 2+1,none⟩))∧(l.getD 9 false=true→u32 = .int .i64 (y:Int)) ∧
   (l.getD 10 false=true→u33 = .int .i64 z)∧(l.getD 11 false=true→u34 = .agg #[.int .i64 (x:Int),.int .i64 (y:Int),.int .i64 z])∧(l.getD 12 false=true→u10 = .pointer (some ⟨X.heap.size,0,none⟩)) ∧
   (l.getD 13 false=true→∀ i,i < 13→l.getD i false=true) ∧
   X'=if l.getD 13 false=true then (X.alloc (.cells #[.int .i64 (x:Int),.int .i64 (y:Int),.int .i64 z] 170)).drew else if l.getD 12 false=true then (X.alloc (.cells #[.int .i64 0,.int .i64 0,.int .i64 0] 170)).drew else X.drew) ?step ?fin _ _ _ _ (by simp) (by decide) ?start
  case start=>exact⟨_,_,_,_,_,_,_,_,_,_,_,_,_,rfl,by simp,by simp,by simp,by simp,by simp,by simp,by simp,by simp,by simp,by simp,by simp,by simp,by simp,by simp,by simp⟩
  case fin=>
   rintro l a' X' hsz ⟨u10,u23,u24,u25,u26,u27,u28,u29,u30,u31,u32,u33,u34,rfl,g0,g1,g2,g3,g4,g5,g6,g7,g8,g9,g10,g11,g12,g13,hX⟩ hi
   have hsz:l.size=14:=hsz
   have hr:=List.filter_eq_nil_iff.1 hi
   simp only[List.mem_range] at hr
   have hr0:=hr 0 (by decide)
   have hr1:=hr 1 (by decide)
   have hr2:=hr 2 (by decide)
   have hr3:=hr 3 (by decide)
   have hr4:=hr 4 (by decide)
   have hr5:=hr 5 (by decide)
   have hr6:=hr 6 (by decide)
   have hr7:=hr 7 (by decide)
   have hr8:=hr 8 (by decide)
   have hr9:=hr 9 (by decide)
   have hr10:=hr 10 (by decide)
   have hr11:=hr 11 (by decide)
   have hr12:=hr 12 (by decide)
   have hr13:=hr 13 (by decide)
   clear hr hi
   simp[Region.binds,hsz] at hr0 hr1 hr2 hr3 hr4 hr5 hr6 hr7 hr8 hr9 hr10 hr11 hr12 hr13
   have f0:=hr0
   have f1:=hr1
   have f5:=hr5
   have f6:=hr6
   have f10:=hr10
   have f12:=hr12
   have f2:l[2]=true:=by
    cases e:l[2] with
    | true=>rfl
    | false=>have:=hr2 e f0;rw[f1] at this;cases this
   have f3:l[3]=true:=by
    cases e:l[3] with
    | true=>rfl
    | false=>have:=hr3 e;rw[f2] at this;cases this
   have f4:l[4]=true:=by
    cases e:l[4] with
    | true=>rfl
    | false=>have:=hr4 e;rw[f3] at this;cases this
   have f7:l[7]=true:=by
    cases e:l[7] with
    | true=>rfl
    | false=>have:=hr7 e f5;rw[f6] at this;cases this
   have f8:l[8]=true:=by
    cases e:l[8] with
    | true=>rfl
    | false=>have:=hr8 e;rw[f7] at this;cases this
   have f9:l[9]=true:=by
    cases e:l[9] with
    | true=>rfl
    | false=>have:=hr9 e;rw[f8] at this;cases this
   have f11:l[11]=true:=by
    cases e:l[11] with
    | true=>rfl
    | false=>have:=hr11 e f4 f9;rw[f10] at this;cases this
   have f13:l[13]=true:=by
    cases e:l[13] with
    | true=>rfl
    | false=>have:=hr13 e f12 f11 f0 f1 f2 f3 f4 f5 f6 f7 f8 f9 f10 f11;rw[f12] at this;cases this
   clear hr0 hr1 hr2 hr3 hr4 hr5 hr6 hr7 hr8 hr9 hr10 hr11 hr12 hr13
   obtain rfl:=g0 (by simp[Array.getD,hsz,f0])
   obtain rfl:=g1 (by simp[Array.getD,hsz,f1])
   obtain rfl:=g2 (by simp[Array.getD,hsz,f2])
   obtain rfl:=g3 (by simp[Array.getD,hsz,f3])
   obtain rfl:=g4 (by simp[Array.getD,hsz,f4])
   obtain rfl:=g5 (by simp[Array.getD,hsz,f5])
   obtain rfl:=g6 (by simp[Array.getD,hsz,f6])
   obtain rfl:=g7 (by simp[Array.getD,hsz,f7])
   obtain rfl:=g8 (by simp[Array.getD,hsz,f8])
   obtain rfl:=g9 (by simp[Array.getD,hsz,f9])
   obtain rfl:=g10 (by simp[Array.getD,hsz,f10])
   obtain rfl:=g11 (by simp[Array.getD,hsz,f11])
   obtain rfl:=g12 (by simp[Array.getD,hsz,f12])
   rw[if_pos (by simp[Array.getD,hsz,f13])] at hX
   subst hX
   clear g0 g1 g2 g3 g4 g5 g6 g7 g8 g9 g10 g11 g12 g13 f0 f1 f2 f3 f4 f5 f6 f7 f8 f9 f10 f11 f12 f13 hsz
   have hbX:=((Below.refl X.heap.size X).alloc (Nat.le_refl _) (.cells #[.int .i64 (x:Int),.int .i64 (y:Int),.int .i64 z] 170)).trans (bel_drew (N:=X.heap.size) (X.alloc (.cells #[.int .i64 (x:Int),.int .i64 (y:Int),.int .i64 z] 170)))
   have hsn:sj < n:=by rw[HSJ.out];exact HWR.out.slot _ (List.getElem_mem hjl)
   have HSET:=hid (Vol.setSlot_yes (HI.out.vo.keep hbX) sj x y (pk S R j).q z hsn HXYZ.out.2.2 (by rw[← HXYZ.out.2.2];exact m4) (by have:=HJ.out;omega))
   have HBX:=hid hbX
   clear hbX
   gi_wp2_with fail
   generalize (X.alloc (.cells #[.int .i64 (x:Int),.int .i64 (y:Int),.int .i64 z] 170)).drew=X1 at *
   refine⟨trivial,?_⟩
   refine (CallsIn.inRound _ (callsIn_wide.2 HSET.out)).mono ?_
   rintro e w6 ⟨rfl,hv6,hk6⟩
   have hsz5:=HI.out.size
   have hz4:=HZ4.out
   have hl2:=HL2.out
   have hat:∀ q,w.heap.size≤q→q < w4.heap.size+2→w6.heap[q]? = X.heap[q]?:=fun q h1 h2=>(hk6.at (.inr ⟨h1,h2⟩) (Nat.lt_of_lt_of_le (by omega) HBX.out.size)).trans (HBX.out.block q (by omega))
   have hb0:Boxed w6 w.heap.size 31 (.pointer (some ⟨vb,0,none⟩)):=(hat _ (by omega) (by omega)).trans HI.out.vol
   have hb1:Boxed w6 (w.heap.size+1) 196 (.slice (some ⟨b,o,none⟩) R.length d):=(hat _ (by omega) (by omega)).trans HI.out.runs
   have hb2:Boxed w6 (w.heap.size+1+1) 46 (.int .i64 0):=(hat _ (by omega) (by omega)).trans HI.out.err
   have hb3:Boxed w6 w2.heap.size 3 (.int .i64 (hd S (S.length - k))):=(hat _ (by omega) (by omega)).trans HI.out.next
   have hb4:Boxed w6 (w2.heap.size+1) 87 (.slice A S.length c):=(hat _ (by omega) (by omega)).trans HI.out.slots
   have hkk:Kq Q w w6:=(HI.out.kq.trans (Vol.kq_below HBX.out)).trans (hk6.sub (fun k h=>.inl h))
   have hss:w4.heap.size+2≤w6.heap.size:=Nat.le_trans hsz5 (Nat.le_trans HBX.out.size hk6.size)
   have HAT:=hid hat
   have HV6:=hid hv6
   have HB0':=hid hb0
   have HB1':=hid hb1
   have HB2':=hid hb2
   have HB3':=hid hb3
   have HB4':=hid hb4
   have HKK:=hid hkk
   have HSS:=hid hss
   have cc3:=hb3.cell
   have ff3:=hb3.frozen
   clear c0 c1 c3 hd0 hd1 l0 l1 l3 hsz5 hz4 hl2 hat hv6 hk6 hb0 hb1 hb2 hb3 hb4 hkk hss HSET
   gi_wp2
   have ho:=(Pm.Off.refl (fun q=>q=w2.heap.size) w6).setCell (p:=⟨w2.heap.size,0,none⟩) (fun _=>rfl) (.int .i64 (sj:Int))
   have hz4:=HZ4.out
   have hl2:=HL2.out
   have hvl:=HV.out.lt
   have hkj:=HJ.out
   refine⟨⟨?_,?_⟩,⟨?_,box_off HB0'.out (by omega) ho,box_off HB1'.out (by omega) ho,box_off HB2'.out (by omega) ho,?_,box_off HB4'.out (by omega) ho,kq_off HKK.out (by omega) ho,Nat.le_trans HSS.out ho.size⟩⟩
   · exact (Below.heap_setCell _ _ _ _ (by show w4.heap.size≠w2.heap.size;omega)).trans (HAT.out _ (by omega) (by omega))
   · exact (Below.heap_setCell _ _ _ _ (by show w4.heap.size+1≠w2.heap.size;omega)).trans (HAT.out _ (by omega) (by omega))
   · have hv:=HV6.out
     rw[show st+2 * (k+1)=st+2 * k+2 by omega,show sn+(k+1)=sn+k+1 by omega]
     unfold wk
     rw[← hkj.1,pk_s hjl,← HSJ.out]
     unfold pw
     rw[← HXYZ.out.1,← HXYZ.out.2.1]
     exact vo_off hv (.inr ⟨by omega,by omega⟩) (by omega) ho
   · rw[show S.length - (k+1)=j by omega,hd_some HWR.out hjl,← HSJ.out]
     exact HB3'.out.set _
  case step=>
   rintro l a' X' i hsz ⟨u10,u23,u24,u25,u26,u27,u28,u29,u30,u31,u32,u33,u34,rfl,g0,g1,g2,g3,g4,g5,g6,g7,g8,g9,g10,g11,g12,g13,hX⟩ hi
   have hsz:l.size=14:=hsz
   obtain⟨hi1,hi2⟩:=List.mem_filter.1 hi
   have hi1:i < 14:=by simpa using hi1
   have hli:l.getD i false=false:=by
    simp only[Bool.and_eq_true,Bool.not_eq_true'] at hi2
    have:=hi2.1
    simp only[Array.getD,show i < l.size by omega,dite_true] at this ⊢
    exact this
   by_cases h13:i=13
   · subst h13
     have hl:∀ k,k < 13→l.getD k false=true:=by
      intro k hk
      simp[Region.binds,-Array.getD_eq_getD_getElem?] at hi2
      have:k=0∨k=1∨k=2∨k=3∨k=4∨k=5∨k=6∨k=7∨k=8∨k=9∨k=10∨k=11∨k=12:=by omega
      rcases this with rfl | rfl | rfl | rfl | rfl | rfl | rfl | rfl | rfl | rfl | rfl | rfl | rfl<;>simp_all
     obtain rfl:=g12 (hl 12 (by decide))
     obtain rfl:=g11 (hl 11 (by decide))
     rw[if_neg (by rw[hli];decide),if_pos (hl 12 (by decide))] at hX
     subst hX
     refine wpOpIn_step rfl (fun K' hK=>?_)
     go_simp
     have hil:13 < l.size:=by omega
     refine hK _ _ ⟨_,_,_,_,_,_,_,_,_,_,_,_,_,rfl,fun _=>rfl,fun _=>rfl,fun _=>rfl,fun _=>rfl,fun _=>rfl,fun _=>rfl,fun _=>rfl,fun _=>rfl,fun _=>rfl,fun _=>rfl,fun _=>rfl,fun _=>rfl,fun _=>rfl,fun _ i hi=>?_,?_⟩
     · rw[get_set hil,if_neg (show ¬ 13=i by omega)]
       exact hl i hi
     · rw[get_set hil 13,if_pos rfl,if_pos rfl]
   · have hi13:i < 13:=by omega
     have hn13:¬ l.getD 13 false=true:=fun h=>by
      have:=g13 h i hi13
      rw[hli] at this
      cases this
     rw[if_neg hn13] at hX
     have hXX:(X'.cell? ⟨w.heap.size+1,0,none⟩=some (.slice (some ⟨b,o,none⟩) R.length d)∧X'.cell? ⟨w2.heap.size,0,none⟩=some (.int .i64 z))∧(X'.cell? ⟨b,o+j * 2,none⟩=some (.int .i64 (x:Int))∧X'.cell? ⟨b,o+j * 2+1,none⟩=some (.int .i64 (y:Int)))∧b < X'.heap.size:=by
      have hbb2:=((Below.refl X.heap.size X).alloc (Nat.le_refl _) (.cells #[.int .i64 0,.int .i64 0,.int .i64 0] 170)).trans (bel_drew _)
      rw[hX]
      split
      · exact⟨⟨(hbb2.cell (p:=⟨w.heap.size+1,0,none⟩) l1).trans c1,(hbb2.cell (p:=⟨w2.heap.size,0,none⟩) l3).trans c3⟩,⟨(hbb2.cell (p:=⟨b,o+j * 2,none⟩) hbb).trans hd0,(hbb2.cell (p:=⟨b,o+j * 2+1,none⟩) hbb).trans hd1⟩,Nat.lt_of_lt_of_le hbb hbb2.size⟩
      · exact⟨⟨c1,c3⟩,⟨hd0,hd1⟩,hbb⟩
     obtain⟨⟨k1,k3⟩,⟨kd0,kd1⟩,kb⟩:=hXX
     have hil:i < l.size:=by omega
     have hcs:i=0∨i=1∨i=2∨i=3∨i=4∨i=5∨i=6∨i=7∨i=8∨i=9∨i=10∨i=11∨i=12:=by omega
     have HX:=hid hX
     clear hX
     rcases hcs with rfl | rfl | rfl | rfl | rfl | rfl | rfl | rfl | rfl | rfl | rfl | rfl | rfl
     · simp[Region.binds,-Array.getD_eq_getD_getElem?] at hi2
       refine wpOpIn_step rfl (fun K' hK=>?_)
       go_simp
       refine hK _ _ ⟨_,_,_,_,_,_,_,_,_,_,_,_,_,rfl,?_,?_,?_,?_,?_,?_,?_,?_,?_,?_,?_,?_,?_,?_,?_⟩
       · exact fun _=>rfl
       · rw[get_set hil,if_neg (by decide)];assumption
       · rw[get_set hil,if_neg (by decide)];assumption
       · rw[get_set hil,if_neg (by decide)];assumption
       · rw[get_set hil,if_neg (by decide)];assumption
       · rw[get_set hil,if_neg (by decide)];assumption
       · rw[get_set hil,if_neg (by decide)];assumption
       · rw[get_set hil,if_neg (by decide)];assumption
       · rw[get_set hil,if_neg (by decide)];assumption
       · rw[get_set hil,if_neg (by decide)];assumption
       · rw[get_set hil,if_neg (by decide)];assumption
       · rw[get_set hil,if_neg (by decide)];assumption
       · rw[get_set hil,if_neg (by decide)];assumption
       · rw[get_set hil,if_neg (by decide)];exact fun h=>absurd h hn13
       · have e13:=get_set hil 13
         have e12:=get_set hil 12
         rw[if_neg (show ¬ ((0:Nat)=13) by decide)] at e13
         rw[if_neg (show ¬ ((0:Nat)=12) by decide)] at e12
         rw[e13,e12,if_neg hn13];exact HX.out
     · simp[Region.binds,-Array.getD_eq_getD_getElem?] at hi2
       refine wpOpIn_step rfl (fun K' hK=>?_)
       go_simp
       refine hK _ _ ⟨_,_,_,_,_,_,_,_,_,_,_,_,_,rfl,?_,?_,?_,?_,?_,?_,?_,?_,?_,?_,?_,?_,?_,?_,?_⟩
       · rw[get_set hil,if_neg (by decide)];assumption
       · exact fun _=>rfl
       · rw[get_set hil,if_neg (by decide)];assumption
       · rw[get_set hil,if_neg (by decide)];assumption
       · rw[get_set hil,if_neg (by decide)];assumption
       · rw[get_set hil,if_neg (by decide)];assumption
       · rw[get_set hil,if_neg (by decide)];assumption
       · rw[get_set hil,if_neg (by decide)];assumption
       · rw[get_set hil,if_neg (by decide)];assumption
       · rw[get_set hil,if_neg (by decide)];assumption
       · rw[get_set hil,if_neg (by decide)];assumption
       · rw[get_set hil,if_neg (by decide)];assumption
       · rw[get_set hil,if_neg (by decide)];assumption
       · rw[get_set hil,if_neg (by decide)];exact fun h=>absurd h hn13
       · have e13:=get_set hil 13
         have e12:=get_set hil 12
         rw[if_neg (show ¬ ((1:Nat)=13) by decide)] at e13
         rw[if_neg (show ¬ ((1:Nat)=12) by decide)] at e12
         rw[e13,e12,if_neg hn13];exact HX.out
     · simp[Region.binds,-Array.getD_eq_getD_getElem?] at hi2
       obtain rfl:=g0 (by simp_all)
       obtain rfl:=g1 (by simp_all)
       refine wpOpIn_step rfl (fun K' hK=>?_)
       go_simp
       refine hK _ _ ⟨_,_,_,_,_,_,_,_,_,_,_,_,_,rfl,?_,?_,?_,?_,?_,?_,?_,?_,?_,?_,?_,?_,?_,?_,?_⟩
       · rw[get_set hil,if_neg (by decide)];assumption
       · rw[get_set hil,if_neg (by decide)];assumption
       · exact fun _=>rfl
       · rw[get_set hil,if_neg (by decide)];assumption
       · rw[get_set hil,if_neg (by decide)];assumption
       · rw[get_set hil,if_neg (by decide)];assumption
       · rw[get_set hil,if_neg (by decide)];assumption
       · rw[get_set hil,if_neg (by decide)];assumption
       · rw[get_set hil,if_neg (by decide)];assumption
       · rw[get_set hil,if_neg (by decide)];assumption
       · rw[get_set hil,if_neg (by decide)];assumption
       · rw[get_set hil,if_neg (by decide)];assumption
       · rw[get_set hil,if_neg (by decide)];assumption
       · rw[get_set hil,if_neg (by decide)];exact fun h=>absurd h hn13
       · have e13:=get_set hil 13
         have e12:=get_set hil 12
         rw[if_neg (show ¬ ((2:Nat)=13) by decide)] at e13
         rw[if_neg (show ¬ ((2:Nat)=12) by decide)] at e12
         rw[e13,e12,if_neg hn13];exact HX.out
     · simp[Region.binds,-Array.getD_eq_getD_getElem?] at hi2
       obtain rfl:=g2 (by simp_all)
       refine wpOpIn_step rfl (fun K' hK=>?_)
       go_simp
       refine hK _ _ ⟨_,_,_,_,_,_,_,_,_,_,_,_,_,rfl,?_,?_,?_,?_,?_,?_,?_,?_,?_,?_,?_,?_,?_,?_,?_⟩
       · rw[get_set hil,if_neg (by decide)];assumption
       · rw[get_set hil,if_neg (by decide)];assumption
       · rw[get_set hil,if_neg (by decide)];assumption
       · exact fun _=>rfl
       · rw[get_set hil,if_neg (by decide)];assumption
       · rw[get_set hil,if_neg (by decide)];assumption
       · rw[get_set hil,if_neg (by decide)];assumption
       · rw[get_set hil,if_neg (by decide)];assumption
       · rw[get_set hil,if_neg (by decide)];assumption
       · rw[get_set hil,if_neg (by decide)];assumption
       · rw[get_set hil,if_neg (by decide)];assumption
       · rw[get_set hil,if_neg (by decide)];assumption
       · rw[get_set hil,if_neg (by decide)];assumption
       · rw[get_set hil,if_neg (by decide)];exact fun h=>absurd h hn13
       · have e13:=get_set hil 13
         have e12:=get_set hil 12
         rw[if_neg (show ¬ ((3:Nat)=13) by decide)] at e13
         rw[if_neg (show ¬ ((3:Nat)=12) by decide)] at e12
         rw[e13,e12,if_neg hn13];exact HX.out
     · simp[Region.binds,-Array.getD_eq_getD_getElem?] at hi2
       obtain rfl:=g3 (by simp_all)
       refine wpOpIn_step rfl (fun K' hK=>?_)
       go_simp
       refine hK _ _ ⟨_,_,_,_,_,_,_,_,_,_,_,_,_,rfl,?_,?_,?_,?_,?_,?_,?_,?_,?_,?_,?_,?_,?_,?_,?_⟩
       · rw[get_set hil,if_neg (by decide)];assumption
       · rw[get_set hil,if_neg (by decide)];assumption
       · rw[get_set hil,if_neg (by decide)];assumption
       · rw[get_set hil,if_neg (by decide)];assumption
       · exact fun _=>rfl
       · rw[get_set hil,if_neg (by decide)];assumption
       · rw[get_set hil,if_neg (by decide)];assumption
       · rw[get_set hil,if_neg (by decide)];assumption
       · rw[get_set hil,if_neg (by decide)];assumption
       · rw[get_set hil,if_neg (by decide)];assumption
       · rw[get_set hil,if_neg (by decide)];assumption
       · rw[get_set hil,if_neg (by decide)];assumption
       · rw[get_set hil,if_neg (by decide)];assumption
       · rw[get_set hil,if_neg (by decide)];exact fun h=>absurd h hn13
       · have e13:=get_set hil 13
         have e12:=get_set hil 12
         rw[if_neg (show ¬ ((4:Nat)=13) by decide)] at e13
         rw[if_neg (show ¬ ((4:Nat)=12) by decide)] at e12
         rw[e13,e12,if_neg hn13];exact HX.out
     · simp[Region.binds,-Array.getD_eq_getD_getElem?] at hi2
       refine wpOpIn_step rfl (fun K' hK=>?_)
       go_simp
       refine hK _ _ ⟨_,_,_,_,_,_,_,_,_,_,_,_,_,rfl,?_,?_,?_,?_,?_,?_,?_,?_,?_,?_,?_,?_,?_,?_,?_⟩
       · rw[get_set hil,if_neg (by decide)];assumption
       · rw[get_set hil,if_neg (by decide)];assumption
       · rw[get_set hil,if_neg (by decide)];assumption
       · rw[get_set hil,if_neg (by decide)];assumption
       · rw[get_set hil,if_neg (by decide)];assumption
       · exact fun _=>rfl
       · rw[get_set hil,if_neg (by decide)];assumption
       · rw[get_set hil,if_neg (by decide)];assumption
       · rw[get_set hil,if_neg (by decide)];assumption
       · rw[get_set hil,if_neg (by decide)];assumption
       · rw[get_set hil,if_neg (by decide)];assumption
       · rw[get_set hil,if_neg (by decide)];assumption
       · rw[get_set hil,if_neg (by decide)];assumption
       · rw[get_set hil,if_neg (by decide)];exact fun h=>absurd h hn13
       · have e13:=get_set hil 13
         have e12:=get_set hil 12
         rw[if_neg (show ¬ ((5:Nat)=13) by decide)] at e13
         rw[if_neg (show ¬ ((5:Nat)=12) by decide)] at e12
         rw[e13,e12,if_neg hn13];exact HX.out
     · simp[Region.binds,-Array.getD_eq_getD_getElem?] at hi2
       refine wpOpIn_step rfl (fun K' hK=>?_)
       go_simp
       refine hK _ _ ⟨_,_,_,_,_,_,_,_,_,_,_,_,_,rfl,?_,?_,?_,?_,?_,?_,?_,?_,?_,?_,?_,?_,?_,?_,?_⟩
       · rw[get_set hil,if_neg (by decide)];assumption
       · rw[get_set hil,if_neg (by decide)];assumption
       · rw[get_set hil,if_neg (by decide)];assumption
       · rw[get_set hil,if_neg (by decide)];assumption
       · rw[get_set hil,if_neg (by decide)];assumption
       · rw[get_set hil,if_neg (by decide)];assumption
       · exact fun _=>rfl
       · rw[get_set hil,if_neg (by decide)];assumption
       · rw[get_set hil,if_neg (by decide)];assumption
       · rw[get_set hil,if_neg (by decide)];assumption
       · rw[get_set hil,if_neg (by decide)];assumption
       · rw[get_set hil,if_neg (by decide)];assumption
       · rw[get_set hil,if_neg (by decide)];assumption
       · rw[get_set hil,if_neg (by decide)];exact fun h=>absurd h hn13
       · have e13:=get_set hil 13
         have e12:=get_set hil 12
         rw[if_neg (show ¬ ((6:Nat)=13) by decide)] at e13
         rw[if_neg (show ¬ ((6:Nat)=12) by decide)] at e12
         rw[e13,e12,if_neg hn13];exact HX.out
     · simp[Region.binds,-Array.getD_eq_getD_getElem?] at hi2
       obtain rfl:=g5 (by simp_all)
       obtain rfl:=g6 (by simp_all)
       refine wpOpIn_step rfl (fun K' hK=>?_)
       go_simp
       refine hK _ _ ⟨_,_,_,_,_,_,_,_,_,_,_,_,_,rfl,?_,?_,?_,?_,?_,?_,?_,?_,?_,?_,?_,?_,?_,?_,?_⟩
       · rw[get_set hil,if_neg (by decide)];assumption
       · rw[get_set hil,if_neg (by decide)];assumption
       · rw[get_set hil,if_neg (by decide)];assumption
       · rw[get_set hil,if_neg (by decide)];assumption
       · rw[get_set hil,if_neg (by decide)];assumption
       · rw[get_set hil,if_neg (by decide)];assumption
       · rw[get_set hil,if_neg (by decide)];assumption
       · exact fun _=>rfl
       · rw[get_set hil,if_neg (by decide)];assumption
       · rw[get_set hil,if_neg (by decide)];assumption
       · rw[get_set hil,if_neg (by decide)];assumption
       · rw[get_set hil,if_neg (by decide)];assumption
       · rw[get_set hil,if_neg (by decide)];assumption
       · rw[get_set hil,if_neg (by decide)];exact fun h=>absurd h hn13
       · have e13:=get_set hil 13
         have e12:=get_set hil 12
         rw[if_neg (show ¬ ((7:Nat)=13) by decide)] at e13
         rw[if_neg (show ¬ ((7:Nat)=12) by decide)] at e12
         rw[e13,e12,if_neg hn13];exact HX.out
     · simp[Region.binds,-Array.getD_eq_getD_getElem?] at hi2
       obtain rfl:=g7 (by simp_all)
       refine wpOpIn_step rfl (fun K' hK=>?_)
       go_simp
       refine hK _ _ ⟨_,_,_,_,_,_,_,_,_,_,_,_,_,rfl,?_,?_,?_,?_,?_,?_,?_,?_,?_,?_,?_,?_,?_,?_,?_⟩
       · rw[get_set hil,if_neg (by decide)];assumption
       · rw[get_set hil,if_neg (by decide)];assumption
       · rw[get_set hil,if_neg (by decide)];assumption
       · rw[get_set hil,if_neg (by decide)];assumption
       · rw[get_set hil,if_neg (by decide)];assumption
       · rw[get_set hil,if_neg (by decide)];assumption
       · rw[get_set hil,if_neg (by decide)];assumption
       · rw[get_set hil,if_neg (by decide)];assumption
       · exact fun _=>rfl
       · rw[get_set hil,if_neg (by decide)];assumption
       · rw[get_set hil,if_neg (by decide)];assumption
       · rw[get_set hil,if_neg (by decide)];assumption
       · rw[get_set hil,if_neg (by decide)];assumption
       · rw[get_set hil,if_neg (by decide)];exact fun h=>absurd h hn13
       · have e13:=get_set hil 13
         have e12:=get_set hil 12
         rw[if_neg (show ¬ ((8:Nat)=13) by decide)] at e13
         rw[if_neg (show ¬ ((8:Nat)=12) by decide)] at e12
         rw[e13,e12,if_neg hn13];exact HX.out
     · simp[Region.binds,-Array.getD_eq_getD_getElem?] at hi2
       obtain rfl:=g8 (by simp_all)
       refine wpOpIn_step rfl (fun K' hK=>?_)
       go_simp
       refine hK _ _ ⟨_,_,_,_,_,_,_,_,_,_,_,_,_,rfl,?_,?_,?_,?_,?_,?_,?_,?_,?_,?_,?_,?_,?_,?_,?_⟩
       · rw[get_set hil,if_neg (by decide)];assumption
       · rw[get_set hil,if_neg (by decide)];assumption
       · rw[get_set hil,if_neg (by decide)];assumption
       · rw[get_set hil,if_neg (by decide)];assumption
       · rw[get_set hil,if_neg (by decide)];assumption
       · rw[get_set hil,if_neg (by decide)];assumption
       · rw[get_set hil,if_neg (by decide)];assumption
       · rw[get_set hil,if_neg (by decide)];assumption
       · rw[get_set hil,if_neg (by decide)];assumption
       · exact fun _=>rfl
       · rw[get_set hil,if_neg (by decide)];assumption
       · rw[get_set hil,if_neg (by decide)];assumption
       · rw[get_set hil,if_neg (by decide)];assumption
       · rw[get_set hil,if_neg (by decide)];exact fun h=>absurd h hn13
       · have e13:=get_set hil 13
         have e12:=get_set hil 12
         rw[if_neg (show ¬ ((9:Nat)=13) by decide)] at e13
         rw[if_neg (show ¬ ((9:Nat)=12) by decide)] at e12
         rw[e13,e12,if_neg hn13];exact HX.out
     · simp[Region.binds,-Array.getD_eq_getD_getElem?] at hi2
       refine wpOpIn_step rfl (fun K' hK=>?_)
       go_simp
       refine hK _ _ ⟨_,_,_,_,_,_,_,_,_,_,_,_,_,rfl,?_,?_,?_,?_,?_,?_,?_,?_,?_,?_,?_,?_,?_,?_,?_⟩
       · rw[get_set hil,if_neg (by decide)];assumption
       · rw[get_set hil,if_neg (by decide)];assumption
       · rw[get_set hil,if_neg (by decide)];assumption
       · rw[get_set hil,if_neg (by decide)];assumption
       · rw[get_set hil,if_neg (by decide)];assumption
       · rw[get_set hil,if_neg (by decide)];assumption
       · rw[get_set hil,if_neg (by decide)];assumption
       · rw[get_set hil,if_neg (by decide)];assumption
       · rw[get_set hil,if_neg (by decide)];assumption
       · rw[get_set hil,if_neg (by decide)];assumption
       · exact fun _=>rfl
       · rw[get_set hil,if_neg (by decide)];assumption
       · rw[get_set hil,if_neg (by decide)];assumption
       · rw[get_set hil,if_neg (by decide)];exact fun h=>absurd h hn13
       · have e13:=get_set hil 13
         have e12:=get_set hil 12
         rw[if_neg (show ¬ ((10:Nat)=13) by decide)] at e13
         rw[if_neg (show ¬ ((10:Nat)=12) by decide)] at e12
         rw[e13,e12,if_neg hn13];exact HX.out
     · simp[Region.binds,-Array.getD_eq_getD_getElem?] at hi2
       obtain rfl:=g4 (by simp_all)
       obtain rfl:=g9 (by simp_all)
       obtain rfl:=g10 (by simp_all)
       refine wpOpIn_step rfl (fun K' hK=>?_)
       go_simp
       refine hK _ _ ⟨_,_,_,_,_,_,_,_,_,_,_,_,_,rfl,?_,?_,?_,?_,?_,?_,?_,?_,?_,?_,?_,?_,?_,?_,?_⟩
       · rw[get_set hil,if_neg (by decide)];assumption
       · rw[get_set hil,if_neg (by decide)];assumption
       · rw[get_set hil,if_neg (by decide)];assumption
       · rw[get_set hil,if_neg (by decide)];assumption
       · rw[get_set hil,if_neg (by decide)];assumption
       · rw[get_set hil,if_neg (by decide)];assumption
       · rw[get_set hil,if_neg (by decide)];assumption
       · rw[get_set hil,if_neg (by decide)];assumption
       · rw[get_set hil,if_neg (by decide)];assumption
       · rw[get_set hil,if_neg (by decide)];assumption
       · rw[get_set hil,if_neg (by decide)];assumption
       · exact fun _=>rfl
       · rw[get_set hil,if_neg (by decide)];assumption
       · rw[get_set hil,if_neg (by decide)];exact fun h=>absurd h hn13
       · have e13:=get_set hil 13
         have e12:=get_set hil 12
         rw[if_neg (show ¬ ((11:Nat)=13) by decide)] at e13
         rw[if_neg (show ¬ ((11:Nat)=12) by decide)] at e12
         rw[e13,e12,if_neg hn13];exact HX.out
     · simp[Region.binds,-Array.getD_eq_getD_getElem?] at hi2
       have hX:=HX.out
       rw[if_neg (by rw[hli];decide)] at hX
       subst hX
       refine wpOpIn_step rfl (fun K' hK=>?_)
       go_simp
       refine hK _ _ ⟨_,_,_,_,_,_,_,_,_,_,_,_,_,rfl,?_,?_,?_,?_,?_,?_,?_,?_,?_,?_,?_,?_,?_,?_,?_⟩
       · rw[get_set hil,if_neg (by decide)];assumption
       · rw[get_set hil,if_neg (by decide)];assumption
       · rw[get_set hil,if_neg (by decide)];assumption
       · rw[get_set hil,if_neg (by decide)];assumption
       · rw[get_set hil,if_neg (by decide)];assumption
       · rw[get_set hil,if_neg (by decide)];assumption
       · rw[get_set hil,if_neg (by decide)];assumption
       · rw[get_set hil,if_neg (by decide)];assumption
       · rw[get_set hil,if_neg (by decide)];assumption
       · rw[get_set hil,if_neg (by decide)];assumption
       · rw[get_set hil,if_neg (by decide)];assumption
       · rw[get_set hil,if_neg (by decide)];assumption
       · exact fun _=>rfl
       · rw[get_set hil,if_neg (by decide)];exact fun h=>absurd h hn13
       · have e13:=get_set hil 13
         have e12:=get_set hil 12
         rw[if_neg (show ¬ ((12:Nat)=13) by decide)] at e13
         rw[if_pos rfl] at e12
         rw[e13,e12,if_neg hn13,if_pos rfl]
end
end Chn
end Go.Proofs.YtdafimdfbnphaaaGreatDoor
/- Texts. -/
namespace Go.Proofs.YtdafimdfbnphaaaGreatDoor
open Lib (hid)
open Go.RowKit Go.MapKept
namespace Chn
open Vol (Vo Up Kq Hb hb_new hb_grown hb_apart Ov Pl gn gs dv rawW rdev_any open_any rawW_len rawW_read Vo.put wds_block)
section
variable {sl bm bk E : Nat} {ws : List Nat}
set_option maxHeartbeats 4000000 in
set_option maxRecDepth 100000 in
theorem copen_any (w:World) (x y k:Nat) (hx:x < 256) (hy:y < 256) (hk:k < 256) (A:Option Addr) (c:Nat) (hws:Pack.Wds w A ws) (h:Pl (gn x) (gn y) (gs k) sl bm bk E) :
 Calls Tryz.prog 53 #[.agg #[.int .u8 (x:Int),.int .u8 (y:Int),.int .u8 (k:Int),.slice A ws.length c]] w fun r w'=>
  ∃ (Q:Nat→Prop) (vb a g gc:Nat),r = .returned (.tuple #[.pointer (some ⟨vb,0,none⟩),.agg (dv (gn x) (gn y) (gs k) sl bm bk E (.slice (some ⟨g,0,none⟩) E gc))])∧Ov w w' Q vb a g gc (gn x) (gn y) (gs k) E (rawW (gn x) (gn y) (gs k) E ws):=by
 have HD:=hid (fun w' (hb:Below w.heap.size w w')=>rdev_any w' x y k hx hy hk A c (hws.keep hb) h)
 have HP:=hid h
 obtain⟨n,hn⟩:∃ n,n=gn x:=⟨_,rfl⟩
 obtain⟨m,hm⟩:∃ m,m=gn y:=⟨_,rfl⟩
 obtain⟨s,hs⟩:∃ s,s=gs k:=⟨_,rfl⟩
 rw[← hn,← hm,← hs] at HP HD ⊢
 clear hn hm hs h hws
 go_enter Tryz.func53,Tryz.ntmps53
 go_wp2_with fail
 have hb0:=(Below.refl w.heap.size w).alloc (Nat.le_refl _) (.cells #[.int .u8 (x:Int),.int .u8 (y:Int),.int .u8 (k:Int),.slice A ws.length c] 45)
 have hz0:=World.size_alloc w (.cells #[.int .u8 (x:Int),.int .u8 (y:Int),.int .u8 (k:Int),.slice A ws.length c] 45)
 generalize w.alloc (.cells #[.int .u8 (x:Int),.int .u8 (y:Int),.int .u8 (k:Int),.slice A ws.length c] 45)=w0 at *
 have hb1:=hb0.alloc hb0.size (.cells #[.int .i64 0,.int .i64 0,.int .i64 0,.int .i64 0,.int .i64 0,.int .i64 0,.int .i64 0,.int .i64 0,.slice none 0 0] 37)
 have hv1:=hb_new w0 #[.int .i64 0,.int .i64 0,.int .i64 0,.int .i64 0,.int .i64 0,.int .i64 0,.int .i64 0,.int .i64 0,.slice none 0 0] 37
 rw[hz0] at hv1
 have HB1:=hid hb1
 have HV1:=hid hv1
 clear hb0 hz0 hb1 hv1
 generalize w0.alloc (.cells #[.int .i64 0,.int .i64 0,.int .i64 0,.int .i64 0,.int .i64 0,.int .i64 0,.int .i64 0,.int .i64 0,.slice none 0 0] 37)=w1 at *
 clear w0
 refine (HD.out _ HB1.out).mono ?_
 rintro r w2 ⟨a,g,gc,B,rfl,h1,h2,h3,h4,hup,hwd,hb⟩
 have HN:=hid (show w.heap.size+1 < B∧(w.heap.size+1 < g∧g < B)∧B≤w2.heap.size∧E≤gc from ⟨by have:=HV1.out.lt;omega,⟨by have:=HV1.out.lt;omega,h2.2⟩,h3,h4⟩)
 have HU2:=hid hup
 have HD2:=hid hwd
 have HV2:=hid (HV1.out.keep hb)
 have HB2:=hid (HB1.out.trans (hb.mono HB1.out.size))
 clear h1 h2 h3 h4 hup hwd hb HV1 HB1 HD
 unfold dv
 have hb3:=(Below.refl w2.heap.size w2).alloc (Nat.le_refl _) (.cells #[.int .i64 (n:Int),.int .i64 (m:Int),.int .i64 (s:Int),.int .i64 16,.int .i64 (sl:Int),.int .i64 (bm:Int),.int .i64 (bk:Int),.int .i64 (E:Int),.slice (some ⟨g,0,none⟩) E gc] 37)
 have HX3:=hid (hb_new w2 #[.int .i64 (n:Int),.int .i64 (m:Int),.int .i64 (s:Int),.int .i64 16,.int .i64 (sl:Int),.int .i64 (bm:Int),.int .i64 (bk:Int),.int .i64 (E:Int),.slice (some ⟨g,0,none⟩) E gc] 37)
 have HU3:=hid (HU2.out.keep hb3)
 have HD3:=hid (HD2.out.keep hb3)
 have HV3:=hid (HV2.out.keep hb3)
 have HB3:=hid (HB2.out.trans (hb3.mono HB2.out.size))
 have hz3:=World.size_alloc w2 (.cells #[.int .i64 (n:Int),.int .i64 (m:Int),.int .i64 (s:Int),.int .i64 16,.int .i64 (sl:Int),.int .i64 (bm:Int),.int .i64 (bk:Int),.int .i64 (E:Int),.slice (some ⟨g,0,none⟩) E gc] 37)
 have HS3:=hid hz3
 have HOP:=hid (open_any HU3.out HP.out.may (by rw[rawW_len HP.out];exact HP.out.e4.symm) (rawW_read HP.out))
 clear hb3 hz3 HU2 HD2 HV2 HB2
 go_wp2_with fail
 generalize w2.alloc (.cells #[.int .i64 (n:Int),.int .i64 (m:Int),.int .i64 (s:Int),.int .i64 16,.int .i64 (sl:Int),.int .i64 (bm:Int),.int .i64 (bk:Int),.int .i64 (E:Int),.slice (some ⟨g,0,none⟩) E gc] 37)=w3 at *
 refine HOP.out.mono ?_
 rintro r w4 ⟨vb,rfl,hvb,hvo,hb⟩
 have HV4:=hid (hvo.sub (Q':=fun k=>k < B∨k=vb) (fun k hk=>by
  rcases hk with hk | rfl
  · exact .inl hk
  · exact .inr ⟨hvb,hvo.lt⟩) (.inr rfl))
 have HX4:=hid (HX3.out.keep hb)
 have HD4:=hid (HD3.out.keep hb)
 have HR4:=hid (HV3.out.keep hb)
 have HB4:=hid (HB3.out.trans (hb.mono HB3.out.size))
 have HVB:=hid (show w2.heap.size+1≤vb by have:=HS3.out;omega)
 clear hvb hvo hb HOP HX3 HD3 HV3 HB3 HU3 HS3
 have c0:=HX4.out.cell 0
 have c1:=HX4.out.cell 1
 have c2:=HX4.out.cell 2
 have c3:=HX4.out.cell 3
 have c4:=HX4.out.cell 4
 have c5:=HX4.out.cell 5
 have c6:=HX4.out.cell 6
 have c7:=HX4.out.cell 7
 have c8:=HX4.out.cell 8
 have d0:=HR4.out.cell 0
 have d1:=HR4.out.cell 1
 have d2:=HR4.out.cell 2
 have d3:=HR4.out.cell 3
 have d4:=HR4.out.cell 4
 have d5:=HR4.out.cell 5
 have d6:=HR4.out.cell 6
 have d7:=HR4.out.cell 7
 have d8:=HR4.out.cell 8
 have f0:=HR4.out.frozen 0
 have f1:=HR4.out.frozen 1
 have f2:=HR4.out.frozen 2
 have f3:=HR4.out.frozen 3
 have f4:=HR4.out.frozen 4
 have f5:=HR4.out.frozen 5
 have f6:=HR4.out.frozen 6
 have f7:=HR4.out.frozen 7
 have f8:=HR4.out.frozen 8
 have hxl:=HX4.out.lt
 have hrl:=HR4.out.lt
 have hN:=HN.out
 have hVB:=HVB.out
 have hne1:¬ w2.heap.size=w.heap.size+1:=by omega
 have hne2:¬ w.heap.size+1=w2.heap.size:=by omega
 go_wp2_with fail
 go_region
 go_wp2
 have hd:∀ V:World,Below V.heap.size V V.drew:=fun V=>⟨rfl,rfl,rfl,Nat.le_refl _,fun _ _=>rfl⟩
 refine bodyPost_ret (v:=.tuple #[.pointer (some ⟨vb,0,none⟩),.agg #[.int .i64 (n:Int),.int .i64 (m:Int),.int .i64 (s:Int),.int .i64 16,.int .i64 (sl:Int),.int .i64 (bm:Int),.int .i64 (bk:Int),.int .i64 (E:Int),.slice (some ⟨g,0,none⟩) E gc]]) ?_ rfl ⟨fun k=>k < B∨k=vb,vb,a,g,gc,rfl,⟨?_,.inl hN.2.1.2,fun k hk=>.inl (by omega),?_,hN.2.2.2,?_,rawW_len HP.out⟩⟩
 · simp[results,Tryz.results53,go_sem,d0,d1,d2,d3,d4,d5,d6,d7,d8]
 · refine Vo.keep ?_ (hd _)
   iterate 9 refine Vo.put ?_ (.inl hN.1) (by show vb≠w.heap.size+1;omega) _
   exact HV4.out
 · refine Pack.Wds.keep ?_ (hd _)
   iterate 9 refine wds_block ?_ (Below.heap_setCell _ _ _ _ (by show g≠w.heap.size+1;omega))
   exact HD4.out
 · refine Below.trans ?_ ((hd _).mono (by simp only[World.setCell,Array.size_modify];exact HB4.out.size))
   iterate 9 refine Below.setCell ?_ (Nat.le_succ _) _
   exact HB4.out
end
end Chn
end Go.Proofs.YtdafimdfbnphaaaGreatDoor
/- Texts. -/
namespace Go.Proofs.YtdafimdfbnphaaaGreatDoor
open Lib (hid)
open Go.RowKit Go.MapKept
namespace Chn
open Vol (Vo Up Kq Hb hb_new hb_grown hb_apart Ov Pl gn gs dv rawW rawW_len)
set_option maxHeartbeats 1000000 in
set_option maxRecDepth 100000 in
theorem rsame_yes (w:World) (A B:Option Addr) (c d:Nat) (l:List Int) (h:Pack.Nts w A l) (k:Pack.Nts w B l) :
 Calls Tryz.prog 58 #[.slice A l.length c,.slice B l.length d] w fun r w'=>r = .returned (.bool true)∧Below w.heap.size w w':=by
 have H:=hid h
 have K:=hid k
 have hl:=h.len
 clear h k
 go_enter Tryz.func58,Tryz.ntmps58
 go_wp2
 go_loopw [13] (fun i wr=>∃ m:Nat,m≤l.length∧i = .int .i64 (m:Int)∧Below w.heap.size w wr) (fun i _=>l.length - (intOf i).toNat)
 case atStart=>exact⟨0,Nat.zero_le _,rfl,Below.refl _ _⟩
 case round=>
  obtain⟨m,hm,rfl,hb⟩:=hrel
  by_cases hlt:m < l.length
  · obtain⟨b,o,rfl,hbb,hc0⟩:=H.out.at' m hlt
    obtain⟨b2,o2,rfl,hbb2,hd0⟩:=K.out.at' m hlt
    have hc0:=(hb.cell (p:=⟨b,o+m,none⟩) hbb).trans hc0
    have hd0:=(hb.cell (p:=⟨b2,o2+m,none⟩) hbb2).trans hd0
    have hbb:=Nat.lt_of_lt_of_le hbb hb.size
    have hbb2:=Nat.lt_of_lt_of_le hbb2 hb.size
    have HB:=hid (hb.drew)
    have hmi:(m:Int) < (l.length:Int):=by omega
    clear hb
    go_wp2
    go_region
    go_wp2
    exact⟨⟨m+1,by omega,by go_num,HB.out⟩,by simp[intOf];omega⟩
  · obtain rfl:m=l.length:=by omega
    go_wp2
    go_ret
    exact⟨rfl,hb⟩
theorem nts_two (w:World) (x y:Int) (hx:-9223372036854775808≤x∧x≤9223372036854775807) (hy:-9223372036854775808≤y∧y≤9223372036854775807):Pack.Nts (w.alloc (.cells #[.int .i64 x,.int .i64 y] 3)) (some ⟨w.heap.size,0,none⟩) [x,y]:=
 ⟨fun n h=>by
   rcases List.mem_cons.1 h with rfl | h
   · exact hx
   · obtain rfl:n=y:=by simpa using h
     exact hy,by simp,fun j hj=>⟨_,_,rfl,by simp,by
   match j,hj with
   | 0,_=>exact Pack.alloc_cell w _ _ 0
   | 1,_=>exact Pack.alloc_cell w _ _ 1⟩⟩
theorem nts_three (w:World) (x y z:Int) (hx:-9223372036854775808≤x∧x≤9223372036854775807) (hy:-9223372036854775808≤y∧y≤9223372036854775807) (hz:-9223372036854775808≤z∧z≤9223372036854775807):Pack.Nts (w.alloc (.cells #[.int .i64 x,.int .i64 y,.int .i64 z] 3)) (some ⟨w.heap.size,0,none⟩) [x,y,z]:=
 ⟨fun n h=>by
   simp only[List.mem_cons,List.not_mem_nil,or_false] at h
   rcases h with rfl | rfl | rfl
   · exact hx
   · exact hy
   · exact hz,by simp,fun j hj=>⟨_,_,rfl,by simp,by
   match j,hj with
   | 0,_=>exact Pack.alloc_cell w _ _ 0
   | 1,_=>exact Pack.alloc_cell w _ _ 1
   | 2,_=>exact Pack.alloc_cell w _ _ 2⟩⟩
theorem prs_two (w:World) (x y z u:Int) (hx:-9223372036854775808≤x∧x≤9223372036854775807) (hy:-9223372036854775808≤y∧y≤9223372036854775807) (hz:-9223372036854775808≤z∧z≤9223372036854775807) (hu:-9223372036854775808≤u∧u≤9223372036854775807):Prs (w.alloc (.cells #[.int .i64 x,.int .i64 y,.int .i64 z,.int .i64 u] 117)) (some ⟨w.heap.size,0,none⟩) [(x,y),(z,u)]:=
 ⟨fun r h=>by
   rcases List.mem_cons.1 h with rfl | h
   · exact⟨hx,hy⟩
   · obtain rfl:r=(z,u):=by simpa using h
     exact⟨hz,hu⟩,by simp,fun j hj=>⟨w.heap.size,0,rfl,by simp,by
   match j,hj with
   | 0,_=>exact Pack.alloc_cell w _ _ 0
   | 1,_=>exact Pack.alloc_cell w _ _ 2,by
   match j,hj with
   | 0,_=>exact Pack.alloc_cell w _ _ 1
   | 1,_=>exact Pack.alloc_cell w _ _ 3⟩⟩
theorem wr_ex:Wr (gn 9) [2,0] [(5,2),(1,1)]:=⟨by decide,rfl,by decide,by decide,by decide⟩
theorem mays_pts {n:Nat} {S:List Nat} {R:List (Nat × Nat)} (h:Wr n S R):Mays (pts S R):=by
 intro p hp
 obtain⟨k,hk,rfl⟩:=List.mem_map.1 hp
 exact (pk_may h (by simpa using hk)).2.2
theorem pts_ex:Mays (pts [2,0] [(5,2),(1,1)]):=mays_pts wr_ex
set_option maxHeartbeats 4000000 in
set_option maxRecDepth 100000 in
theorem lives_any (w:World) (hT:Bm.Tab w):Calls Tryz.prog 26 #[] w fun r w'=>r = .returned (.bool true)∧Below w.heap.size w w':=by
 have HT:=hid hT
 obtain⟨sl,bm,bk,E,hpl⟩:=Vol.pl_any 9 1 0
 have HO:=hid (copen_any w 9 1 0 (by omega) (by omega) (by omega) none 0 (ws:=[]) (Pack.wds_nil w none) hpl)
 have HL11:=hid (fun w' (hb:Below w.heap.size w w')=>Rn.lives_any w' (hT.below hb hT.lt))
 have HL15:=hid (fun w' (hb:Below w.heap.size w w')=>Vol.lives_any w' (hT.below hb hT.lt))
 clear hT
 go_enter Tryz.func26,Tryz.ntmps26
 go_wp2_with fail
 refine HO.out.mono ?_
 rintro e w1 ⟨Q,vb,a,g,gc,rfl,hov⟩
 have hb2:=(Below.refl w1.heap.size w1).alloc (Nat.le_refl _) (.cells (dv (gn 9) (gn 1) (gs 0) sl bm bk E (.slice (some ⟨g,0,none⟩) E gc)) 37)
 have HV2:=hid (hov.vo.grow hb2)
 have HQ:=hid (show ∀ k,k < w.heap.size→Q k from hov.ql)
 have HB2:=hid (hov.below.trans (hb2.mono hov.below.size))
 clear hb2 hov HO
 unfold dv at HV2 HB2 ⊢
 go_wp2_with fail
 obtain⟨Q2,hQ2⟩:∃ Q2:Nat→Prop,Q2=fun k=>Q k∨(w1.heap.size≤k∧k < (w1.alloc (.cells #[.int .i64 (gn 9:Nat),.int .i64 (gn 1:Nat),.int .i64 (gs 0:Nat),.int .i64 16,.int .i64 (sl:Int),.int .i64 (bm:Int),.int .i64 (bk:Int),.int .i64 (E:Int),.slice (some ⟨g,0,none⟩) E gc] 37)).heap.size):=⟨_,rfl⟩
 rw[← hQ2] at HV2
 have HQ2:=hid (show ∀ k,k < w.heap.size→Q2 k by rw[hQ2];exact fun k hk=>.inl (HQ.out k hk))
 clear hQ2 HQ
 generalize w1.alloc (.cells #[.int .i64 (gn 9:Nat),.int .i64 (gn 1:Nat),.int .i64 (gs 0:Nat),.int .i64 16,.int .i64 (sl:Int),.int .i64 (bm:Int),.int .i64 (bk:Int),.int .i64 (E:Int),.slice (some ⟨g,0,none⟩) E gc] 37)=w2 at *
 refine (HL11.out _ HB2.out).mono ?_
 rintro e w3 ⟨rfl,hb⟩
 have HV3:=hid (HV2.out.keep hb)
 have HB3:=hid (HB2.out.trans (hb.mono HB2.out.size))
 clear hb HV2 HB2 HL11
 go_wp2_with fail
 refine (HL15.out _ HB3.out).mono ?_
 rintro e w4 ⟨rfl,hb⟩
 have HV4:=hid (HV3.out.keep hb)
 have HB4:=hid (HB3.out.trans (hb.mono HB3.out.size))
 clear hb HV3 HB3 HL15
 go_wp2_with fail
 have hb6:=((Below.refl w4.heap.size w4).alloc (Nat.le_refl _) (.cells #[.int .i64 2,.int .i64 0] 3)).alloc (by simp) (.cells #[.int .i64 5,.int .i64 2,.int .i64 1,.int .i64 1] 117)
 have hns:=(nts_two w4 2 0 (by omega) (by omega)).keep ((Below.refl (w4.alloc (.cells #[.int .i64 2,.int .i64 0] 3)).heap.size (w4.alloc (.cells #[.int .i64 2,.int .i64 0] 3))).alloc (Nat.le_refl _) (.cells #[.int .i64 5,.int .i64 2,.int .i64 1,.int .i64 1] 117))
 have hps:=prs_two (w4.alloc (.cells #[.int .i64 2,.int .i64 0] 3)) 5 2 1 1 (by omega) (by omega) (by omega) (by omega)
 rw[World.size_alloc] at hps
 have HV6:=hid (HV4.out.grow hb6)
 have HB6:=hid (HB4.out.trans (hb6.mono HB4.out.size))
 have hz6:((w4.alloc (.cells #[.int .i64 2,.int .i64 0] 3)).alloc (.cells #[.int .i64 5,.int .i64 2,.int .i64 1,.int .i64 1] 117)).heap.size=w4.heap.size+2:=by simp
 have HW:=hid (write_yes HV6.out (some ⟨w4.heap.size,0,none⟩) (some ⟨w4.heap.size+1,0,none⟩) 2 2 [2,0] [(5,2),(1,1)] hns hps wr_ex (fun x hx _=>by cases hx;exact .inr ⟨Nat.le_refl _,by rw[hz6];show w4.heap.size < w4.heap.size+2;omega⟩) (fun x hx _=>by cases hx;exact .inr ⟨Nat.le_succ _,by rw[hz6];show w4.heap.size+1 < _;omega⟩) (by simp))
 clear hb6 hns hps hz6 HV4 HB4
 simp only[List.length_cons,List.length_nil,Nat.zero_add,Nat.reduceAdd] at HW
 refine HW.out.mono ?_
 rintro e w7 ⟨rfl,hv7,hk7⟩
 have HB7:=hid (HB6.out.trans (hk7.below HB6.out.size (fun k hk=>.inl (HQ2.out k hk))))
 have hrd:=read_any hv7 2
 have hlen:=rawW_len (ws:=[]) hpl
 have hat:=hpl.at
 have hrr:=wk_read (W:=rawW (gn 9) (gn 1) (gs 0) E []) (b:=16+gn 1 * 8) wr_ex (by rw[hlen];omega)
 rw[show hd [2,0] 0=2 from rfl] at hrr
 simp only[List.length_cons,List.length_nil,Nat.zero_add,Nat.reduceAdd] at hrr
 unfold RdTo at hrd
 rw[hrr] at hrd
 simp only at hrd
 have HRD:=hid hrd
 clear hrd hrr hat hlen hv7 hk7 HW HV6 HB6
 go_wp2_with fail
 refine HRD.out.mono ?_
 rintro e w8 ⟨A8,c8,B8,d8,rfl,hn8,hp8,hc8,hd8,hb8⟩
 have HB8:=hid (HB7.out.trans (hb8.mono HB7.out.size))
 have HBK:=hid (fun w' (hb:Below w8.heap.size w8 w')=>blocks_any w' A8 B8 (pts [2,0] [(5,2),(1,1)]).length c8 d8 (pts [2,0] [(5,2),(1,1)]) (hp8.keep hb) pts_ex (by decide))
 clear hn8 hp8 hc8 hd8 hb8 HRD HB7
 rw[show tot (pts [2,0] [(5,2),(1,1)])=3 from rfl,show blk (pts [2,0] [(5,2),(1,1)])=[5,6,1] from rfl,show (pts [2,0] [(5,2),(1,1)]).length=2 from rfl] at HBK
 rw[show (pts [2,0] [(5,2),(1,1)]).length=2 from rfl]
 go_wp2_with fail
 have hb9:=(Below.refl w8.heap.size w8).alloc (Nat.le_refl _) (.cells #[.slice A8 2 c8,.slice B8 2 d8] 90)
 refine (HBK.out _ hb9).mono ?_
 rintro e w10 ⟨G,gc,rfl,hnt,hb10⟩
 have HB10:=hid ((HB8.out.trans (hb9.mono HB8.out.size)).trans (hb10.mono (Nat.le_trans HB8.out.size hb9.size)))
 have hal:=(Below.refl w10.heap.size w10).alloc (Nat.le_refl _) (.cells #[.int .i64 5,.int .i64 6,.int .i64 1] 3)
 have HSM:=hid (rsame_yes _ G (some ⟨w10.heap.size,0,none⟩) gc 3 [5,6,1] (hnt.keep hal) (nts_three w10 5 6 1 (by omega) (by omega) (by omega)))
 have HB11:=hid (HB10.out.trans (hal.mono HB10.out.size))
 simp only[List.length_cons,List.length_nil,Nat.zero_add,Nat.reduceAdd] at HSM
 clear hb9 hnt hb10 hal HBK HB8 HB10
 go_wp2_with fail
 refine HSM.out.mono ?_
 rintro e w12 ⟨rfl,hb⟩
 have HB12:=hid (HB11.out.trans (hb.mono HB11.out.size))
 clear hb
 go_wp2
 go_ret
 exact⟨rfl,HB12.out⟩
end Chn
end Go.Proofs.YtdafimdfbnphaaaGreatDoor
/- Texts. -/
namespace Go.Proofs.YtdafimdfbnphaaaGreatDoor
open Lib (hid)
open Go.RowKit Go.MapKept
namespace Clm
open Chn (Pt New Prt slots Mays tot blk blk_len rd pat fw)
open Vol (Vo Hb hb_new Ov Pl gn gs dv rawW rawW_len rdw rx)
def z0:Cl:=⟨0,0,0,[]⟩
theorem raw0 (n m s E j:Nat) (hj:8≤j):(rawW n m s E [])[j]?.getD 0=0:=by
 unfold rawW
 rw[List.getElem?_append_right (by rw[Sup.sb_len];exact hj),List.getElem?_map]
 cases (List.range (E - 8))[j - (Sup.sb n m s).length]? with
 | none=>rfl
 | some x=>simp[rx]
theorem rdw_zero (W:List Nat) (p:Nat) (h:∀ j,p≤j→j < p+8→W[j]?.getD 0=0):rdw W p 8=Ino.ln 0 0 0:=by
 rw[Ino.ln_zero]
 refine List.ext_getElem (by rw[Vol.rdw_len];rfl) (fun i h1 h2=>?_)
 have h3:i < 8:=h2
 rw[Vol.rdw_get,h (p+i) (by omega) (by omega)]
 unfold Ino.zero
 match i,h3 with
 | 0,_=>rfl
 | 1,_=>rfl
 | 2,_=>rfl
 | 3,_=>rfl
 | 4,_=>rfl
 | 5,_=>rfl
 | 6,_=>rfl
 | 7,_=>rfl
theorem one_free (f:Nat→Option (Nat × Nat × Nat)) (n s:Nat) (hs:0 < s):one f n s (some (0,0,0))=some z0:=
 one_yes (l:=[]) (Chn.rd_iff.2 ⟨rfl,Nat.zero_le _⟩) ((need_iff hs).2 ⟨Nat.zero_le _,fun d hd=>by simp[tot] at hd⟩)
theorem gi_free {W:List Nat} {n m s i:Nat} (hs:0 < s) (h:∀ j,16+8 * i≤j→j < 16+8 * i+8→W[j]?.getD 0=0):gi W n m s i=some z0:=by
 unfold gi
 rw[rdw_zero W _ h,Ino.dec_ln (by decide)]
 exact one_free _ _ _ hs
theorem scn_free {g:Nat→Option Cl}:∀ {i:Nat},(∀ j,j < i→g j=some z0)→scn g i=some (List.replicate i z0)
 | 0,_=>rfl
 | i+1,h=>by
   have h1:=scn_free (i:=i) (fun j hj=>h j (by omega))
   have e1:sl (List.replicate i z0)=[]:=by simp[sl,sls,z0]
   have e2:bl (List.replicate i z0)=[]:=by simp[bl,blk,z0]
   rw[scn_next h1 (h i (by omega)) (by rw[e1];exact List.nodup_nil) (by rw[e2];exact List.nodup_nil),List.replicate_succ']
theorem zero_any (w:World):Calls Tryz.prog 25 #[] w fun r w'=>r = .returned (.agg #[.int .u8 4,.int .u8 2,.int .u8 0,.slice none 0 0])∧Below w.heap.size w w':=by
 go_enter Tryz.func25,Tryz.ntmps25
 go_wp2
 refine bodyPost_ret (v:=.agg #[.int .u8 4,.int .u8 2,.int .u8 0,.slice none 0 0]) ?_ rfl ⟨rfl,(Below.refl _ _).alloc (Nat.le_refl _) _⟩
 simp[results,Tryz.results25,go_sem]
theorem kd_free (i k:Nat):kd (List.replicate i z0) k=0:=by
 unfold kd
 by_cases h:k < i
 · rw[List.getElem?_replicate_of_lt h];rfl
 · rw[List.getElem?_eq_none (by simp;omega)];rfl
set_option maxHeartbeats 4000000 in
set_option maxRecDepth 100000 in
theorem lives_any (w:World) (hT:Bm.Tab w):Calls Tryz.prog 10 #[] w fun r w'=>r = .returned (.bool true)∧Below w.heap.size w w':=by
 have HT:=hid hT
 obtain⟨sl',bm',bk',E,hpl⟩:=Vol.pl_any 4 2 0
 have HZ:=hid (zero_any w)
 have HO:=hid (fun w'=>kopen_any w' 4 2 0 (by omega) (by omega) (by omega) none 0 (ws:=[]) (Pack.wds_nil w' none) hpl)
 have HL16:=hid (fun w' (hb:Below w.heap.size w w')=>Chn.lives_any w' (hT.below hb hT.lt))
 clear hT
 go_enter Tryz.func10,Tryz.ntmps10
 go_wp2_with fail
 refine HZ.out.mono ?_
 rintro e w0 ⟨rfl,hb⟩
 have HB0:=hid hb
 clear hb HZ
 go_wp2_with fail
 refine (HO.out _).mono ?_
 rintro e w1 ⟨Q,vb,a,g,gc,rfl,hov⟩
 have hb2:=(Below.refl w1.heap.size w1).alloc (Nat.le_refl _) (.cells (dv (gn 4) (gn 2) (gs 0) sl' bm' bk' E (.slice (some ⟨g,0,none⟩) E gc)) 37)
 have HV2:=hid (hov.vo.keep hb2)
 have HB2:=hid (HB0.out.trans ((hov.below.trans (hb2.mono hov.below.size)).mono HB0.out.size))
 clear hb2 hov HO
 unfold dv at HV2 HB2 ⊢
 go_wp2_with fail
 generalize w1.alloc (.cells #[.int .i64 (gn 4:Nat),.int .i64 (gn 2:Nat),.int .i64 (gs 0:Nat),.int .i64 16,.int .i64 (sl':Int),.int .i64 (bm':Int),.int .i64 (bk':Int),.int .i64 (E:Int),.slice (some ⟨g,0,none⟩) E gc] 37)=w2 at *
 generalize w1.heap.size=k1 at *
 refine (HL16.out _ HB2.out).mono ?_
 rintro e w3 ⟨rfl,hb⟩
 have HV3:=hid (HV2.out.keep hb)
 have HB3:=hid (HB2.out.trans (hb.mono HB2.out.size))
 clear hb HV2 HB2 HL16
 go_wp2_with fail
 refine (scan_any HV3.out).mono ?_
 intro e w4 k4
 have hsc:scn (gi (rawW (gn 4) (gn 2) (gs 0) E []) (gn 4) (gn 2) (gs 0)) (gn 2)=some (List.replicate (gn 2) z0):=scn_free fun j _=>gi_free (by decide) fun i hi _=>raw0 _ _ _ _ i (by omega)
 unfold ScTo at k4
 rw[hsc] at k4
 rcases k4 with ⟨h1,_⟩ | ⟨L,P,N,C,X,h1,rfl,hq,_,hb⟩
 · cases h1
 injection h1 with h1
 subst h1
 have HQ4:=hid hq
 have HB4:=hid (HB3.out.trans (hb.mono HB3.out.size))
 clear hq hb hsc HB3 HV3
 go_wp2_with fail
 have hlen:(List.replicate (gn 2) z0).length=gn 2:=List.length_replicate
 have hfr:∀ c∈List.replicate (gn 2) z0,c.k=0→c.p=0∧c.z=0:=fun c hc _=>by
  obtain rfl:=List.eq_of_mem_replicate hc
  exact⟨rfl,rfl⟩
 have hnf:nf (List.replicate (gn 2) z0) (gn 2)=0:=(Bm.Nx.next (.inr ⟨0,rfl,Nat.le_refl _,by decide,by simp[kd_free],fun c _ hc=>by omega⟩:Bm.Nx (fun i=>kd (List.replicate (gn 2) z0) i != 0) false (gn 2) 0 0)).symm
 have hni:=nextInode_any HQ4.out hlen hfr
 rw[hnf] at hni
 have e1:sl (List.replicate (gn 2) z0)=[]:=by simp[sl,sls,z0]
 have e2:bl (List.replicate (gn 2) z0)=[]:=by simp[bl,blk,z0]
 have HE1:=hid e1
 have HE2:=hid e2
 clear e1 e2 hlen hfr hnf
 refine hni.mono ?_
 rintro e w5 ⟨rfl,hb⟩
 have HQ5:=hid (HQ4.out.keep hb)
 have HB5:=hid (HB4.out.trans (hb.mono HB4.out.size))
 clear hb hni HQ4 HB4
 go_wp2_with fail
 refine (cblocks_any HQ5.out).mono ?_
 rintro e w6 ⟨p6,q6,C6,rfl,_,_,hm6,hb⟩
 rw[HE2.out] at hm6
 have HQ6:=hid (HQ5.out.keep hb)
 have HB6:=hid (HB5.out.trans (hb.mono HB5.out.size))
 have hct:=Bm.count_any hm6
 rw[cnt_ins _ _ List.nodup_nil (by simp)] at hct
 clear hb HQ5 HB5
 go_wp2_with fail
 refine hct.mono ?_
 rintro e w7 ⟨rfl,rfl⟩
 clear hct hm6
 go_wp2_with fail
 refine (cslots_any HQ6.out).mono ?_
 rintro e w8 ⟨p8,q8,C8,rfl,_,_,hm8,hb⟩
 rw[HE1.out] at hm8
 have HB8:=hid (HB6.out.trans (hb.mono HB6.out.size))
 have hct:=Bm.free_any hm8
 rw[cnt_ins _ _ List.nodup_nil (by simp)] at hct
 clear hb HQ6 HB6
 go_wp2_with fail
 refine hct.mono ?_
 rintro e w9 ⟨rfl,k9,rfl⟩
 clear hct hm8
 go_wp2
 go_ret
 exact⟨rfl,HB8.out.trans ((drewN_below w8 k9).mono HB8.out.size)⟩
end Clm
end Go.Proofs.YtdafimdfbnphaaaGreatDoor
/- Texts. -/
namespace Go.Proofs.YtdafimdfbnphaaaGreatDoor
open Go.RowKit Go.MapKept
namespace Ent
def Right (l:List Nat):Prop:=(1≤l.length∧l.length≤48)∧l≠[46]∧l≠[46,46]∧∀ x∈l,x≠0∧x≠47
instance (l:List Nat):Decidable (Right l):=by unfold Right;infer_instance
def right (l:List Nat):Bool:=decide (Right l)
theorem right_iff {l:List Nat}:right l=true↔Right l:=decide_eq_true_iff
theorem right_no {l:List Nat} (h:¬ Right l):right l=false:=decide_eq_false h
def may (l:List Nat) (i:Int):Bool:=right l && decide (0≤i∧i≤65533)
theorem may_iff {l:List Nat} {i:Int}:may l i=true↔Right l∧0≤i∧i≤65533:=by
 unfold may
 rw[Bool.and_eq_true,right_iff,decide_eq_true_iff]
def q4 (x:Nat):List Nat:=[x % 256,x / 256 % 256,x / 65536 % 256,x / 16777216 % 256]
def front (l:List Nat) (i:Nat):List Nat:=[i % 256,i / 256 % 256,l.length,0]++l++List.replicate (56 - l.length) 0
def enc (l:List Nat) (i:Nat):List Nat:=front l i++q4 (Crc.S32 (front l i))
theorem s32_lt (l:List Nat):Crc.S32 l < 4294967296:=by
 unfold Crc.S32
 omega
theorem front_len {l:List Nat} (h:l.length≤48) (i:Nat):(front l i).length=60:=by
 unfold front
 simp
 omega
theorem q4_len (x:Nat):(q4 x).length=4:=rfl
theorem enc_len {l:List Nat} (h:l.length≤48) (i:Nat):(enc l i).length=64:=by
 unfold enc
 rw[List.length_append,front_len h,q4_len]
theorem q4_byt (x:Nat):Crc.Byt (q4 x):=by
 intro b hb
 simp only[q4,List.mem_cons,List.not_mem_nil,or_false] at hb
 omega
theorem front_byt {l:List Nat} (hl:Crc.Byt l) (h:l.length≤48) (i:Nat):Crc.Byt (front l i):=by
 intro b hb
 unfold front at hb
 simp only[List.mem_append,List.mem_cons,List.not_mem_nil,or_false,List.mem_replicate] at hb
 rcases hb with (hb | hb) | hb
 · omega
 · exact hl b hb
 · omega
theorem enc_byt {l:List Nat} (hl:Crc.Byt l) (h:l.length≤48) (i:Nat):Crc.Byt (enc l i):=(front_byt hl h i).append (q4_byt _)
theorem may_len {l:List Nat} {i:Int} (h:may l i=true):l.length≤48:=(may_iff.1 h).1.1.2
theorem may_nat {l:List Nat} {i:Int} (h:may l i=true):∃ k:Nat,i=(k:Int)∧k≤65533:=by
 have:=may_iff.1 h
 obtain⟨k,rfl⟩:=Int.eq_ofNat_of_zero_le this.2.1
 exact⟨k,rfl,by omega⟩
theorem str_tx (s:ByteArray):Crc.str (Crc.tx s)=s:=by
 unfold Crc.str Crc.tx
 rw[List.map_map]
 have e:(UInt8.ofNat ∘ UInt8.toNat)=id:=by
  funext x
  simp
 rw[e,List.map_id]
end Ent
end Go.Proofs.YtdafimdfbnphaaaGreatDoor
/- Texts. -/
namespace Go.Proofs.YtdafimdfbnphaaaGreatDoor
open Lib (hid)
open Go.RowKit Go.MapKept
namespace Ent
theorem tx_toList (s:ByteArray):Crc.tx s=s.toList.map UInt8.toNat:=by
 obtain⟨a⟩:=s
 obtain⟨l⟩:=a
 rw[ByteArray.toList_mk]
 rfl
theorem map_inj {l m:List UInt8} (h:l.map UInt8.toNat=m.map UInt8.toNat):l=m:=by
 induction l generalizing m with
 | nil=>cases m with
   | nil=>rfl
   | cons=>simp at h
 | cons a l ih=>
   cases m with
   | nil=>simp at h
   | cons b m=>
     simp only[List.map_cons,List.cons.injEq] at h
     rw[ih h.2,UInt8.toNat_inj.1 h.1]
theorem tx_eq {s:ByteArray} {l:List UInt8}:s.toList=l↔Crc.tx s=l.map UInt8.toNat:=by
 rw[tx_toList]
 exact⟨fun h=>by rw[h],map_inj⟩
def Good (s:ByteArray) (m:Nat):Prop:=∀ j (h:j < s.size),j < m→(s[j]'h).toNat≠0∧(s[j]'h).toNat≠47
theorem Good.next {s:ByteArray} {m:Nat} (h:Good s m) (hm:m < s.size) (h0:(s[m]'hm).toNat≠0) (h1:(s[m]'hm).toNat≠47):Good s (m+1):=by
 intro j hj hlt
 rcases Nat.lt_or_ge j m with h2 | h2
 · exact h j hj h2
 · obtain rfl:j=m:=by omega
   exact⟨h0,h1⟩
theorem Good.all {s:ByteArray} (h:Good s s.size):∀ x∈Crc.tx s,x≠0∧x≠47:=by
 intro x hx
 obtain⟨j,hj,rfl⟩:=List.getElem_of_mem hx
 have hj':j < s.size:=by rw[Crc.tx_len] at hj;exact hj
 have:=Crc.tx_get hj'
 rw[List.getElem?_eq_getElem hj,Option.getD_some] at this
 rw[this]
 exact h j hj' hj'
theorem bad_byte {s:ByteArray} {m:Nat} (hm:m < s.size) (h:(s[m]'hm).toNat=0∨(s[m]'hm).toNat=47):¬ Right (Crc.tx s):=by
 intro hr
 have hj:m < (Crc.tx s).length:=by rw[Crc.tx_len];exact hm
 have:=hr.2.2.2 ((Crc.tx s)[m]'hj) (List.getElem_mem hj)
 have e:=Crc.tx_get hm
 rw[List.getElem?_eq_getElem hj,Option.getD_some] at e
 rw[e] at this
 omega
theorem no_right {s:ByteArray} (h:s.size < 1∨48 < s.size∨s.toList=[46]∨s.toList=[46,46]):¬ Right (Crc.tx s):=by
 intro hr
 have hl:=hr.1
 rw[Crc.tx_len] at hl
 rcases h with h | h | h | h
 · omega
 · omega
 · exact hr.2.1 (tx_eq.1 h)
 · exact hr.2.2.1 (tx_eq.1 h)
set_option maxHeartbeats 1000000 in
theorem right_any (w:World) (s:ByteArray) (hs:s.size≤9223372036854775807) :
 Calls Tryz.prog 127 #[.string s] w fun r w'=>r = .returned (.bool (right (Crc.tx s)))∧w=w':=by
 by_cases h:s.size < 1∨48 < s.size∨s.toList=[46]∨s.toList=[46,46]
 · have HN:=hid (right_no (no_right h))
   go_enter Tryz.func127,Tryz.ntmps127
   rcases h with h | h | h | h
   all_goals go_wp2
   all_goals go_ret
   all_goals exact⟨by rw[HN.out];rfl,rfl⟩
 · have h1:1≤s.size:=by omega
   have h2:s.size≤48:=by omega
   have h3:(s.toList == [46])=false:=by simpa using fun e=>h (.inr (.inr (.inl e)))
   have h4:(s.toList == [46,46])=false:=by simpa using fun e=>h (.inr (.inr (.inr e)))
   have h5:¬ s.toList=[46]:=fun e=>h (.inr (.inr (.inl e)))
   have h6:¬ s.toList=[46,46]:=fun e=>h (.inr (.inr (.inr e)))
   clear h
   go_enter Tryz.func127,Tryz.ntmps127
   go_wp2
   go_loopw [22] (fun i wr=>∃ m:Nat,m≤s.size∧i = .int .i64 (m:Int)∧w=wr∧Good s m) (fun i _=>s.size - (intOf i).toNat)
   case atStart=>exact⟨0,Nat.zero_le _,rfl,rfl,fun j _ h=>absurd h (by omega)⟩
   case round=>
    obtain⟨m,hm,rfl,rfl,hg⟩:=hrel
    have HG:=hid hg
    clear hg
    by_cases hlt:m < s.size
    · go_wp2
      · rename_i hx
        go_ret
        exact⟨by rw[right_no (bad_byte hlt (.inl hx))];rfl,rfl⟩
      · rename_i hx
        go_ret
        exact⟨by rw[right_no (bad_byte hlt (by simp at hx;omega))];rfl,rfl⟩
      · rename_i hx
        exact⟨⟨m+1,by omega,by go_num,trivial,HG.out.next hlt (by simp at hx;omega) (by simp at hx;omega)⟩,by simp[intOf];omega⟩
    · obtain rfl:m=s.size:=by omega
      have HR:=hid (right_iff.2 ⟨⟨by rw[Crc.tx_len];exact h1,by rw[Crc.tx_len];exact h2⟩,fun e=>h5 (tx_eq.2 e),fun e=>h6 (tx_eq.2 e),HG.out.all⟩)
      go_wp2
      go_ret
      exact⟨by rw[HR.out];rfl,rfl⟩
end Ent
end Go.Proofs.YtdafimdfbnphaaaGreatDoor
/- Texts. -/
namespace Go.Proofs.YtdafimdfbnphaaaGreatDoor
open Lib (hid)
open Go.RowKit Go.MapKept
namespace Ent
structure Box (w:World) (b:Nat) (s:ByteArray) (i:Int):Prop where
 lt:b < w.heap.size
 c0:w.cell? ⟨b,0,none⟩=some (.string s)
 c1:w.cell? ⟨b,1,none⟩=some (.int .i64 i)
theorem Box.keep {w w':World} {b:Nat} {s:ByteArray} {i:Int} (h:Box w b s i) (hb:Below w.heap.size w w'):Box w' b s i:=
 ⟨Nat.lt_of_lt_of_le h.lt hb.size,(hb.cell (p:=⟨b,0,none⟩) h.lt).trans h.c0,(hb.cell (p:=⟨b,1,none⟩) h.lt).trans h.c1⟩
theorem Box.keepN {w w':World} {b N:Nat} {s:ByteArray} {i:Int} (h:Box w b s i) (hb:Below N w w') (hN:b < N):Box w' b s i:=
 ⟨Nat.lt_of_lt_of_le h.lt hb.size,(hb.cell (p:=⟨b,0,none⟩) hN).trans h.c0,(hb.cell (p:=⟨b,1,none⟩) hN).trans h.c1⟩
theorem Box.drew {w:World} {b:Nat} {s:ByteArray} {i:Int} (h:Box w b s i):Box w.drew b s i:=⟨h.lt,h.c0,h.c1⟩
theorem boxed (w:World) (s:ByteArray) (i:Int) (t:TypeId):Box (w.alloc (.cells #[.string s,.int .i64 i] t)) w.heap.size s i:=
 ⟨by simp,World.cell?_alloc_mark w _ t _ 0,World.cell?_alloc_mark w _ t _ 1⟩
structure Own (w:World) (b:Nat) (s:ByteArray) (i:Int):Prop where
 box:Box w b s i
 f:∀ o,w.frozen? ⟨b,o,none⟩=false
theorem Own.keep {w w':World} {b:Nat} {s:ByteArray} {i:Int} (h:Own w b s i) (hb:Below w.heap.size w w'):Own w' b s i:=
 ⟨h.box.keep hb,fun o=>(hb.frozen (p:=⟨b,o,none⟩) h.box.lt).trans (h.f o)⟩
theorem Own.drew {w:World} {b:Nat} {s:ByteArray} {i:Int} (h:Own w b s i):Own w.drew b s i:=⟨h.box.drew,h.f⟩
theorem owned (w:World) (s:ByteArray) (i:Int) (t:TypeId):Own (w.alloc (.cells #[.string s,.int .i64 i] t)) w.heap.size s i:=
 ⟨boxed w s i t,fun o=>(World.rowIs_alloc w #[.string s,.int .i64 i] t (fun j=>if j=0 then .string s else .int .i64 i) (fun j hj=>by
   have:j < 2:=hj
   match j,this with
   | 0,_=>rfl
   | 1,_=>rfl)).frozen o⟩
theorem ret_bool {a b:Bool} (h:a=true↔b=true):Ending.returned (Value.bool a)=Ending.returned (Value.bool b):=by rw[Bool.eq_iff_iff.2 h]
theorem may_not {l:List Nat} {i:Int} (h:right l=false):may l i=false:=by
 unfold may
 rw[h]
 rfl
theorem may_right {l:List Nat} {i:Int} (h:right l=true):may l i=decide (0≤i∧i≤65533):=by
 unfold may
 rw[h]
 rfl
set_option maxHeartbeats 1000000 in
theorem may_any (w:World) (s:ByteArray) (i:Int) (hs:s.size≤9223372036854775807) :
 Calls Tryz.prog 65 #[.agg #[.string s,.int .i64 i]] w fun r w'=>r = .returned (.bool (may (Crc.tx s) i))∧Below w.heap.size w w':=by
 have HR:=hid (fun w=>right_any w s hs)
 cases hr:right (Crc.tx s) with
 | false=>
   have HM:=hid (may_not (i:=i) hr)
   have HT:=hid hr
   clear hr
   go_enter Tryz.func65,Tryz.ntmps65
   go_wp2_with fail
   refine (HR.out _).mono ?_
   rintro e w' ⟨rfl,rfl⟩
   rw[HT.out]
   go_wp2
   go_ret
   exact⟨by rw[HM.out];rfl,(Below.refl _ _).alloc (Nat.le_refl _) _⟩
 | true=>
   have HM:=hid (may_right (i:=i) hr)
   have HT:=hid hr
   clear hr
   go_enter Tryz.func65,Tryz.ntmps65
   go_wp2_with fail
   refine (HR.out _).mono ?_
   rintro e w' ⟨rfl,rfl⟩
   rw[HT.out]
   go_wp2
   all_goals go_ret
   all_goals refine⟨?_,(Below.refl _ _).alloc (Nat.le_refl _) _⟩
   all_goals rw[HM.out]
   all_goals refine ret_bool ?_
   all_goals simp only[decide_eq_true_eq,Bool.false_eq_true,false_iff] at *
   all_goals omega
end Ent
end Go.Proofs.YtdafimdfbnphaaaGreatDoor
/- Texts. -/
namespace Go.Proofs.YtdafimdfbnphaaaGreatDoor
open Lib (hid)
open Go.RowKit Go.MapKept
namespace Ent
def Row (w:World) (g:Nat) (f:Nat→Nat):Prop:=w.rowIs g 5 64 (fun i=>Value.int .u8 ((f i:Nat):Int))
def at' (l:List Nat) (i:Nat):Nat:=l[i]?.getD 0
theorem Row.lt {w:World} {g:Nat} {f:Nat→Nat} (h:Row w g f):g < w.heap.size:=World.rowIs.lt h
theorem Row.keep {w w':World} {g:Nat} {f:Nat→Nat} (h:Row w g f) (hb:Below w.heap.size w w'):Row w' g f:=World.rowIs.of_block h (hb.block _ h.lt)
theorem Row.drew {w:World} {g:Nat} {f:Nat→Nat} (h:Row w g f):Row w.drew g f:=h
theorem Row.alloc {w:World} {g:Nat} {f:Nat→Nat} (h:Row w g f) (o:Obj):Row (w.alloc o) g f:=World.rowIs.alloc h o
theorem Row.cell {w:World} {g:Nat} {f:Nat→Nat} (h:Row w g f) {i:Nat} (hi:i < 64):w.cell? ⟨g,i,none⟩=some (.int .u8 ((f i:Nat):Int)):=World.rowIs.cell h hi
theorem Row.frozen {w:World} {g:Nat} {f:Nat→Nat} (h:Row w g f) (i:Nat):w.frozen? ⟨g,i,none⟩=false:=World.rowIs.frozen h i
theorem Row.congr {w:World} {g:Nat} {f f':Nat→Nat} (h:Row w g f) (e:∀ i,i < 64→f i=f' i):Row w g f':=World.rowIs.congr h (fun i hi=>by rw[e i hi])
theorem Row.set {w:World} {g:Nat} {f:Nat→Nat} (h:Row w g f) (j x:Nat):Row (w.setCell ⟨g,j,none⟩ (.int .u8 (x:Int))) g (fun i=>if i=j then x else f i):=
 World.rowIs.congr (World.rowIs.set h j (.int .u8 (x:Int))) (fun i _=>by by_cases e:i=j<;>simp[e])
theorem Row.bts {w:World} {g:Nat} {f:Nat→Nat} (h:Row w g f) (o:Nat) (l:List Nat) (hl:Crc.Byt l) (ho:o+l.length≤64) (e:∀ j (hj:j < l.length),f (o+j)=l[j]):Crc.Bts w (some ⟨g,o,none⟩) l:=
 ⟨hl,by omega,fun j hj=>⟨g,o,rfl,h.lt,by rw[h.cell (by omega),e j hj]⟩⟩
def putf (f:Nat→Nat) (o x n:Nat) (i:Nat):Nat:=if o≤i∧i < o+n then x / 256 ^ (i - o) % 256 else f i
theorem putf_zero (f:Nat→Nat) (o x:Nat):putf f o x 0=f:=by
 funext i
 unfold putf
 rw[if_neg (by omega)]
theorem putf_next (f:Nat→Nat) (o x n:Nat) (i:Nat):(if i=o+n then x / 256 ^ n % 256 else putf f o x n i)=putf f o x (n+1) i:=by
 unfold putf
 by_cases h:i=o+n
 · subst h
   rw[if_pos rfl,if_pos (by omega)]
   congr 3
   omega
 · rw[if_neg h]
   by_cases h1:o≤i∧i < o+n
   · rw[if_pos h1,if_pos (by omega)]
   · rw[if_neg h1,if_neg (by omega)]
set_option maxHeartbeats 1000000 in
theorem put_any (w:World) (g o n c x:Nat) (f:Nat→Nat) (h:Row w g f) (ho:o+n≤64) (hx:x < 4294967296) (hn:n≤4) :
 Calls Tryz.prog 66 #[.slice (some ⟨g,o,none⟩) n c,.int .u32 (x:Int)] w fun r w'=>r = .returned (.tuple #[])∧Row w' g (putf f o x n)∧Below g w w':=by
 have H:=hid h
 clear h
 go_enter Tryz.func66,Tryz.ntmps66
 go_wp2
 go_loopw [7] (fun i wr=>∃ m:Nat,m≤n∧i = .int .i64 (m:Int)∧Row wr g (putf f o x m)∧Below g w wr) (fun i _=>n - (intOf i).toNat)
 case atStart=>exact⟨0,Nat.zero_le _,rfl,by rw[putf_zero];exact H.out,Below.refl _ _⟩
 case round=>
  obtain⟨m,hm,rfl,hr,hb⟩:=hrel
  have HR:=hid hr
  have HB:=hid hb
  clear hr hb
  by_cases hlt:m < n
  · have hc:=HR.out.cell (i:=o+m) (by omega)
    have hf:=HR.out.frozen (o+m)
    have hsh:(x:Int) / 2 ^ (m * 8)=((x / 256 ^ m:Nat):Int):=by
     have:256 ^ m=2 ^ (m * 8):=by rw[Nat.mul_comm m 8,Nat.pow_mul]
     rw[this]
     simp
    have hyl:x / 256 ^ m < 4294967296:=Nat.lt_of_le_of_lt (Nat.div_le_self _ _) hx
    have HN:=hid ((HR.out.set (o+m) (x / 256 ^ m % 256)).congr (fun i _=>putf_next f o x m i))
    have HBN:=hid (HB.out.setCell (p:=⟨g,o+m,none⟩) (Nat.le_refl _) (.int .u8 ((x / 256 ^ m % 256:Nat):Int)))
    generalize x / 256 ^ m=y at *
    go_wp2
    exact⟨⟨m+1,by omega,by go_num,HN.out,HBN.out⟩,by simp[intOf];omega⟩
  · obtain rfl:m=n:=by omega
    go_wp2
    go_end0
    exact⟨rfl,HR.out,HB.out⟩
end Ent
end Go.Proofs.YtdafimdfbnphaaaGreatDoor
/- Texts. -/
namespace Go.Proofs.YtdafimdfbnphaaaGreatDoor
open Lib (hid)
open Go.RowKit Go.MapKept
namespace Ent
theorem get_new {w:World} {o:Obj} {k:Nat} (h:k=w.heap.size):(w.alloc o).heap[k]? = some o:=by
 subst h
 show (w.heap.push o)[w.heap.size]? = _
 simp
theorem get_old {w:World} {o x:Obj} {k:Nat} (h:w.heap[k]? = some x):(w.alloc o).heap[k]? = some x:=(Below.heap_alloc w o k (Array.getElem?_eq_some_iff.1 h).1).trans h
theorem get_drew {w:World} {x:Obj} {k:Nat} (h:w.heap[k]? = some x):w.drew.heap[k]? = some x:=h
theorem pts_at1 {W:World} {k n0 c0:Nat} {t:TypeId} {A0:Option Addr} {l0:List Nat} (hk:W.heap[k]? = some (.cells #[.slice A0 n0 c0] t)) (h0:Crc.Bts W A0 l0) (e0:n0=l0.length):Crc.Pts W (some ⟨k,0,none⟩) [⟨A0,c0,l0⟩]:=by
 subst e0
 exact⟨by simp,fun i hi=>⟨k,0,rfl,(Array.getElem?_eq_some_iff.1 hk).1,by
  obtain rfl:i=0:=by simpa using hi
  unfold World.cell?
  rw[hk]
  rfl⟩,fun i hi=>by
  obtain rfl:i=0:=by simpa using hi
  exact h0⟩
theorem sum32_at1 {W:World} {k n0 c0 cc:Nat} {t:TypeId} {A0:Option Addr} {l:List Nat} (hk:W.heap[k]? = some (.cells #[.slice A0 n0 c0] t)) (h0:Crc.Bts W A0 l) (e0:n0=l.length) :
 Calls Tryz.prog 67 #[.slice (some ⟨k,0,none⟩) 1 cc] W fun e w'=>e = .returned (.int .u32 (Crc.S32 l:Nat))∧W=w':=by
 have:=Crc.sum32_any _ cc _ (pts_at1 hk h0 e0)
 rw[Crc.flat_one] at this
 exact this
theorem below_alloc {w W:World} {o:Obj} (h:Below w.heap.size w W):Below w.heap.size w (W.alloc o):=h.alloc h.size o
def f1 (k:Nat):Nat→Nat:=putf (fun _=>0) 0 k 2
def f2 (k n:Nat) (i:Nat):Nat:=if i=2 then n else f1 k i
def f3 (l:List Nat) (k:Nat) (i:Nat):Nat:=if 4≤i∧i < 4+l.length then at' l (i - 4) else f2 k l.length i
theorem f3_front {l:List Nat} {k:Nat} (i:Nat) (hi:i < 60):f3 l k i=at' (front l k) i:=by
 unfold f3 f2 f1 putf at' front
 match i,hi with
 | 0,_=>simp
 | 1,_=>simp
 | 2,_=>simp
 | 3,_=>simp
 | i+4,hi=>
   simp only[List.cons_append,List.nil_append,List.getElem?_cons_succ]
   by_cases h:i < l.length
   · rw[if_pos (by omega),List.getElem?_append_left h,show i+4 - 4=i by omega]
   · rw[if_neg (by omega),if_neg (by omega),if_neg (by omega),List.getElem?_append_right (by omega)]
     rw[List.getElem?_replicate]
     split<;>rfl
theorem f4_enc {l:List Nat} {k:Nat} (hl:l.length≤48) (i:Nat) (hi:i < 64):putf (f3 l k) 60 (Crc.S32 (front l k)) 4 i=at' (enc l k) i:=by
 have hfl:=front_len hl k
 unfold enc at'
 by_cases h:i < 60
 · rw[List.getElem?_append_left (by omega)]
   unfold putf
   rw[if_neg (by omega)]
   exact f3_front i h
 · rw[List.getElem?_append_right (by omega),hfl]
   generalize Crc.S32 (front l k)=x
   unfold putf q4
   have:i=60∨i=61∨i=62∨i=63:=by omega
   rcases this with rfl | rfl | rfl | rfl<;>simp
theorem copy_f3 {s:ByteArray} {k:Nat} (j:Nat):(if 4≤j∧j < 4+(s.data.toList.map fun x:UInt8=>Value.int .u8 (x.toNat:Int)).length then (s.data.toList.map fun x:UInt8=>Value.int .u8 (x.toNat:Int))[j - 4]?.getD default else Value.int .u8 ((f2 k (Crc.tx s).length j:Nat):Int))=Value.int .u8 ((f3 (Crc.tx s) k j:Nat):Int):=by
 have e:(s.data.toList.map fun x:UInt8=>Value.int .u8 (x.toNat:Int))=(Crc.tx s).map fun b:Nat=>Value.int .u8 (b:Int):=by
  unfold Crc.tx
  rw[List.map_map]
  rfl
 rw[e,List.length_map]
 unfold f3
 by_cases h:4≤j∧j < 4+(Crc.tx s).length
 · rw[if_pos h,if_pos h,List.getElem?_map]
   unfold at'
   rw[List.getElem?_eq_getElem (show j - 4 < (Crc.tx s).length by omega)]
   rfl
 · rw[if_neg h,if_neg h]
theorem size_u8 (W:World):(Go.sizeOf 5).run Tryz.prog W = .ok 1 W:=by kernel_rfl
set_option maxHeartbeats 4000000 in
set_option maxRecDepth 100000 in
theorem encode_yes (w:World) (s:ByteArray) (k:Nat) (hm:may (Crc.tx s) (k:Int)=true) :
 Calls Tryz.prog 33 #[.agg #[.string s,.int .i64 (k:Int)]] w fun r w'=>∃ g:Nat,w.heap.size≤g∧r = .returned (.tuple #[.slice (some ⟨g,0,none⟩) 64 64,.int .i64 0])∧Row w' g (at' (enc (Crc.tx s) k))∧Below w.heap.size w w':=by
 have hl:=may_len hm
 obtain⟨k',ek,hk⟩:=may_nat hm
 obtain rfl:k=k':=by omega
 have hsz:s.size≤48:=by rw[Crc.tx_len] at hl;exact hl
 have hfb:=front_byt (Crc.tx_byt s) hl k
 have hfl:=front_len hl k
 have HFB:=hid hfb
 have HFL:=hid hfl.symm
 have HL:=hid hl
 have HM:=hid (fun w=>may_any w s (k:Int) (by omega))
 have HE:=hid hm
 clear hm hl hfb hfl ek
 have HB:=hid ((Below.refl w.heap.size w).alloc (Nat.le_refl _) (.cells #[.string s,.int .i64 (k:Int)] 73))
 have HX:=hid (boxed w s k 73)
 go_enter Tryz.func33,Tryz.ntmps33
 go_wp2_with fail
 refine (HM.out _).mono ?_
 rintro e w1 ⟨rfl,hb⟩
 rw[HE.out]
 have HB1:=hid (HB.out.trans (hb.mono HB.out.size))
 have HX1:=hid (HX.out.keep hb)
 have hz1:w.heap.size < w1.heap.size:=HX1.out.lt
 clear hb HX HB
 have hmk:=run_make_row' (P:=Tryz.prog) 49 5 _ 1 Tryz.underlying49 Crc.u8_info rfl .i64 .i64 64 (by omega) (by omega) w1
 rw[show ((64:Nat):Int)=64 from rfl] at hmk
 have hb2:=(Below.refl w1.heap.size w1).alloc (Nat.le_refl _) (.cells (madeCells #[.int .u8 0] 64) 5)
 have HR2:=hid (show Row (w1.alloc (.cells (madeCells #[.int .u8 0] 64) 5)) w1.heap.size (fun _=>0) from World.rowIs_made w1 (.int .u8 0) 64 5)
 have HX2:=hid (HX1.out.keep hb2)
 have HB2:=hid (HB1.out.trans (hb2.mono HB1.out.size))
 clear hb2 HX1 HB1
 go_wp2
 generalize w1.alloc (.cells (madeCells #[.int .u8 0] 64) 5)=w2 at *
 generalize w1.heap.size=g at *
 clear hmk
 have hc1:=HX2.out.c1
 have hz2:w.heap.size < w2.heap.size:=HX2.out.lt
 have hkw:IntKind.wrap .u32 (k:Int)=(k:Int):=by rw[IntKind.wrap_u32'];omega
 go_region_held3 (fun W'=>W'.cell? ⟨w.heap.size,1,none⟩=some (.int .i64 (k:Int))) (go_keep)
  (first
  | (go_at_call 66
     with_reducible refine (put_any _ g 0 2 64 k _ HR2.out.drew (by omega) (by omega) (by omega)).mono ?_
     rintro e w3 ⟨rfl,hr,hb⟩
     have HR3:=hid hr
     have HB3:=hid (HB2.out.drew.trans (hb.mono (Nat.le_of_lt hz1)))
     have HX3:=hid (HX2.out.drew.keepN hb hz1)
     have hk1:=HX3.out.c1
     clear hb hr))
 clear hkw hc1 hk1 HR2 HX2 HB2 hz2
 have hc0:=HX3.out.c0
 have hr2:=HR3.out.cell (i:=2) (by omega)
 have hf2:=HR3.out.frozen 2
 have hsm:(s.size:Int) % 256=(s.size:Int):=by omega
 have HR4:=hid (show Row (w3.setCell ⟨g,2,none⟩ (.int .u8 (s.size:Int))) g (f2 k (Crc.tx s).length) from (HR3.out.set 2 s.size).congr (fun i _=>by unfold f2 f1;rw[Crc.tx_len]))
 have HB4:=hid (HB3.out.setCell (p:=⟨g,2,none⟩) (Nat.le_of_lt hz1) (.int .u8 (s.size:Int)))
 have hb4:=(Below.refl g w3).setCell (p:=⟨g,2,none⟩) (Nat.le_refl _) (.int .u8 (s.size:Int))
 have HX4:=hid (HX3.out.keepN hb4 hz1)
 clear hb4 HR3 HB3
 go_wp2
 generalize w3.setCell ⟨g,2,none⟩ (.int .u8 (s.size:Int))=w4 at *
 clear hc0 hr2 hf2 hsm HX3
 have hc0:=HX4.out.c0
 have hcp:=run_copy_string (P:=Tryz.prog) w4.drew 49 9 3 5 g 4 60 60 s Tryz.underlying49 size_u8 (by omega) (fun j hj=>by rw[HR4.out.drew.cell (by omega)];rfl) (fun j hj=>HR4.out.drew.frozen _)
 have HR5:=hid (show Row (w4.drew.setCells g 4 (s.data.toList.map fun x:UInt8=>Value.int .u8 (x.toNat:Int))) g (f3 (Crc.tx s) k) from (rowIs_setCells (s.data.toList.map fun x:UInt8=>Value.int .u8 (x.toNat:Int)) 4 w4.drew _ HR4.out.drew).congr (fun j _=>copy_f3 j))
 have HB5:=hid (below_setCells (b:=g) (Nat.le_of_lt hz1) (s.data.toList.map fun x:UInt8=>Value.int .u8 (x.toNat:Int)) 4 _ HB4.out.drew)
 generalize w4.drew.setCells g 4 (s.data.toList.map fun x:UInt8=>Value.int .u8 (x.toNat:Int))=w5 at *
 go_region
 go_wp2
 clear hcp hc0 HR4 HB4 HX4
 have HBT:=hid (fun (W:World) (h:Row W g (f3 (Crc.tx s) k))=>h.bts 0 (front (Crc.tx s) k) HFB.out (by rw[← HFL.out];omega) (fun j hj=>by
  rw[Nat.zero_add,f3_front j (by rw[← HFL.out] at hj;exact hj)]
  unfold at'
  rw[List.getElem?_eq_getElem hj]
  rfl))
 have HS:=hid (s32_lt (front (Crc.tx s) k))
 go_region_held3 (fun _=>True) (exact trivial) (first
  | (go_at_call 67
     with_reducible refine (sum32_at1 (l:=front (Crc.tx s) k) (t:=49) (A0:=some ⟨g,0,none⟩) (n0:=60) (c0:=64) ?_ ?_ HFL.out).mono ?_
     · repeat (first | (with_reducible refine get_new ?_;simp;done) | with_reducible refine get_drew ?_ | with_reducible refine get_old ?_)
     · refine HBT.out _ ?_
       repeat (first | with_reducible exact HR5.out | with_reducible refine Row.drew ?_ | with_reducible refine Row.alloc ?_ _)
     rintro e w' ⟨rfl,rfl⟩)
  | (go_at_call 66
     with_reducible refine (put_any _ g 60 4 4 (Crc.S32 (front (Crc.tx s) k)) (f3 (Crc.tx s) k) ?_ (by omega) HS.out (by omega)).mono ?_
     · repeat (first | with_reducible exact HR5.out | with_reducible refine Row.drew ?_ | with_reducible refine Row.alloc ?_ _)
     rintro e w6 ⟨rfl,hr,hb⟩
     have HR6:=hid hr
     have HB6:=hid hb
     clear hb hr))
 go_wp2
 go_ret2
 refine⟨g,Nat.le_of_lt hz1,rfl,HR6.out.congr (fun i hi=>f4_enc HL.out i hi),?_⟩
 refine Below.trans ?_ (HB6.out.mono (Nat.le_of_lt hz1))
 repeat (first | with_reducible exact HB5.out | with_reducible refine Below.drew ?_ | with_reducible refine below_alloc ?_)
end Ent
end Go.Proofs.YtdafimdfbnphaaaGreatDoor
/- Texts. -/
namespace Go.Proofs.YtdafimdfbnphaaaGreatDoor
open Lib (hid)
open Go.RowKit Go.MapKept
namespace Ent
theorem str_beq {l m:List Nat} (hl:Crc.Byt l) (hm:Crc.Byt m):((Crc.str l).toList == (Crc.str m).toList)=decide (l=m):=by
 by_cases h:l=m
 · subst h
   simp
 · rw[decide_eq_false h]
   refine beq_false_of_ne (fun e=>h ?_)
   have h1:=Crc.tx_str hl
   have h2:=Crc.tx_str hm
   rw[tx_toList] at h1 h2
   rw[← h1,← h2,e]
theorem equal_any (w:World) (A B:Option Addr) (c d n m:Nat) (l k:List Nat) (hl:Crc.Bts w A l) (hk:Crc.Bts w B k) (en:n=l.length) (em:m=k.length) :
 Calls Tryz.prog 225 #[.slice A n c,.slice B m d] w fun r w'=>r = .returned (.bool (decide (l=k)))∧w=w':=by
 have h1:=Crc.conv_str c hl
 have h2:=Crc.conv_str d hk
 rw[← en] at h1
 rw[← em] at h2
 have HE:=hid (str_beq hl.byt hk.byt)
 clear hl hk en em
 generalize Crc.str l=S at *
 generalize Crc.str k=T at *
 go_enter Tryz.func225,Tryz.ntmps225
 go_wp2
 go_ret
 exact⟨by rw[← HE.out];rfl,rfl⟩
end Ent
end Go.Proofs.YtdafimdfbnphaaaGreatDoor
/- Texts. -/
namespace Go.Proofs.YtdafimdfbnphaaaGreatDoor
open Go.RowKit Go.MapKept
namespace Ent
theorem tx_inj {S T:ByteArray} (h:Crc.tx S=Crc.tx T):S=T:=by rw[← str_tx S,← str_tx T,h]
end Ent
end Go.Proofs.YtdafimdfbnphaaaGreatDoor
/- Texts. -/
namespace Go.Proofs.YtdafimdfbnphaaaGreatDoor
open Go.RowKit Go.MapKept
namespace Ent
theorem tx_extract (s:ByteArray) (a b:Nat):Crc.tx (s.extract a b)=((Crc.tx s).drop a).take (b - a):=by
 unfold Crc.tx
 rw[ByteArray.data_extract,Array.toList_extract,List.extract_eq_take_drop,List.map_take,List.map_drop]
end Ent
end Go.Proofs.YtdafimdfbnphaaaGreatDoor
/- Texts. -/
namespace Go.Proofs.YtdafimdfbnphaaaGreatDoor
open Lib (hid)
open Go.RowKit Go.MapKept
namespace Ent
theorem may_ex:may (Crc.tx ⟨#[97,98]⟩) ((258:Nat):Int)=true:=by decide +kernel
theorem seven_ex:(enc (Crc.tx ⟨#[97,98]⟩) 258).take 7=[2,1,2,0,97,98,0]:=by decide +kernel
theorem str_ex:(Crc.str [2,1,2,0,97,98,0])=⟨#[2,1,2,0,97,98,0]⟩:=rfl
theorem row_part {W:World} {g:Nat} {l:List Nat} (h:Row W g (at' l)) (hl:l.length=64) (hb:Crc.Byt l) (n:Nat):Crc.Bts W (some ⟨g,0,none⟩) (l.take n):=
 h.bts 0 (l.take n) (hb.take n) (by rw[List.length_take];omega) (fun j hj=>by
  rw[List.length_take] at hj
  rw[Nat.zero_add,List.getElem_take]
  unfold at'
  rw[List.getElem?_eq_getElem (by omega)]
  rfl)
set_option maxHeartbeats 1000000 in
theorem lives_any (w:World):Calls Tryz.prog 11 #[] w fun r w'=>r = .returned (.bool true)∧Below w.heap.size w w':=by
 have HE:=hid (encode_yes w ⟨#[97,98]⟩ 258 may_ex)
 have HC:=hid Crc.lives_any
 have H48:=hid (may_len may_ex)
 rw[show ((258:Nat):Int)=258 from rfl] at HE
 go_enter Tryz.func11,Tryz.ntmps11
 go_wp2_with fail
 refine HE.out.mono ?_
 rintro e w1 ⟨g,hg,rfl,hr,hb⟩
 have HR:=hid hr
 have HB:=hid hb
 clear hr hb hg
 go_wp2_with fail
 refine (HC.out _).mono ?_
 rintro e w2 ⟨rfl,hb2⟩
 have HB2:=hid (HB.out.trans (hb2.mono HB.out.size))
 have hcv:=Crc.conv_str 64 (row_part (HR.out.keep hb2) (enc_len H48.out 258) (enc_byt (Crc.tx_byt _) H48.out 258) 7)
 rw[seven_ex,str_ex] at hcv
 rw[show ([2,1,2,0,97,98,0]:List Nat).length=7 from rfl] at hcv
 clear hb2 HB HR HE
 go_wp2
 go_ret
 exact⟨rfl,HB2.out⟩
abbrev En:=ByteArray × Int
def Few (l:List En):Prop:=(∀ e∈l,e.1.size≤100)∧l.length≤40
instance (l:List En):Decidable (Few l):=by unfold Few;infer_instance
def few (l:List En):Bool:=decide (Few l)
end Ent
end Go.Proofs.YtdafimdfbnphaaaGreatDoor
/- Texts. -/
namespace Go.Proofs.YtdafimdfbnphaaaGreatDoor
open Lib (hid)
open Go.RowKit Go.MapKept
namespace Fld
open Clm (Cl Pc Cq scn gi scn_free gi_free raw0 z0)
open Vol (Vo Hb hb_new Pl gn gs dv rawW rawW_len)
theorem walk_none (w:World) (v c:Value) (A:Option Addr) (k:Nat):Calls Tryz.prog 13 #[v,c,.slice A 0 k] w fun r w'=>r = .returned (.tuple #[.int .i64 0,.int .i64 0])∧Below w.heap.size w w':=by
 go_enter Tryz.func13,Tryz.ntmps13
 go_wp2_with fail
 go_loopw [8,16] (fun j i wr=>j = .int .i64 0∧i = .int .i64 0∧wr=w) (fun _ _ _=>0)
 case atStart=>exact⟨rfl,rfl,rfl⟩
 case round=>
  obtain⟨rfl,rfl,rfl⟩:=hrel
  go_wp2
  go_ret2
  exact⟨rfl,Below.refl _ _⟩
set_option maxHeartbeats 4000000 in
set_option maxRecDepth 100000 in
theorem lives_any (w:World) (hT:Bm.Tab w):Calls Tryz.prog 6 #[] w fun r w'=>r = .returned (.bool true)∧Below w.heap.size w w':=by
 obtain⟨sl',bm',bk',E,hpl⟩:=Vol.pl_any 4 2 0
 have hsc:scn (gi (rawW (gn 4) (gn 2) (gs 0) E []) (gn 4) (gn 2) (gs 0)) (gn 2)=some (List.replicate (gn 2) z0):=scn_free fun j _=>gi_free (by decide) fun i hi _=>raw0 _ _ _ _ i (by omega)
 have HO:=hid (fun w'=>fopen_any w' 4 2 0 (by omega) (by omega) (by omega) none 0 (ws:=[]) (Pack.wds_nil w' none) hpl hsc (fun i _=>Clm.rdw_zero _ _ fun j hj _=>raw0 _ _ _ _ j (by omega)))
 have HL17:=hid (fun w' (hb:Below w.heap.size w w')=>Clm.lives_any w' (hT.below hb hT.lt))
 have HL8:=hid (fun w'=>Ent.lives_any w')
 clear hT hsc
 go_enter Tryz.func6,Tryz.ntmps6
 go_wp2_with fail
 refine (HL17.out _ (Below.refl _ _)).mono ?_
 rintro r w1 ⟨rfl,hb1⟩
 have HB1:=hid hb1
 clear hb1
 go_wp2_with fail
 refine (HL8.out _).mono ?_
 rintro r w2 ⟨rfl,hb2⟩
 have HB2:=hid (HB1.out.trans (hb2.mono HB1.out.size))
 clear hb2
 go_wp2_with fail
 refine (HO.out _).mono ?_
 rintro r w3 ⟨Q,vb,a,g,gc,P,N,C,X,I,H,ic,hc,rfl,hv,hq,hb3⟩
 have HV3:=hid hv
 have HQ3:=hid hq
 have HB3:=hid (HB2.out.trans (hb3.mono HB2.out.size))
 clear hv hq hb3
 unfold dv
 have hb4:=((Below.refl w3.heap.size w3).alloc (Nat.le_refl _) (.cells #[.int .i64 (gn 4:Nat),.int .i64 (gn 2:Nat),.int .i64 (gs 0:Nat),.int .i64 16,.int .i64 (sl':Int),.int .i64 (bm':Int),.int .i64 (bk':Int),.int .i64 (E:Int),.slice (some ⟨g,0,none⟩) E gc] 37))
 have hb5:=hb4.alloc hb4.size (.cells #[.int .i64 (gn 4:Nat),.slice I (gn 2) ic,.slice H (gn 2) hc] 41)
 have HQ5:=hid (HQ3.out.keep hb5)
 have HB5:=hid (HB3.out.trans (hb5.mono HB3.out.size))
 clear hb4 hb5 HV3 HQ3 HB3
 go_wp2_with fail
 generalize ((w3.alloc (.cells #[.int .i64 (gn 4:Nat),.int .i64 (gn 2:Nat),.int .i64 (gs 0:Nat),.int .i64 16,.int .i64 (sl':Int),.int .i64 (bm':Int),.int .i64 (bk':Int),.int .i64 (E:Int),.slice (some ⟨g,0,none⟩) E gc] 37)).alloc (.cells #[.int .i64 (gn 4:Nat),.slice I (gn 2) ic,.slice H (gn 2) hc] 41))=w5 at *
 refine (walk_none w5 _ _ none 0).mono ?_
 rintro r w6 ⟨rfl,hb6⟩
 have HQ6:=hid (HQ5.out.keep hb6)
 have HB6:=hid (HB5.out.trans (hb6.mono HB5.out.size))
 clear hb6
 go_wp2_with fail
 refine (bytes_free (.pointer (some ⟨vb,0,none⟩)) HQ6.out List.length_replicate 0 (by decide) rfl rfl rfl).mono ?_
 rintro r w7 ⟨rfl,hb7⟩
 have HB7:=hid (HB6.out.trans (hb7.mono HB6.out.size))
 clear hb7
 go_wp2
 go_ret
 exact⟨rfl,HB7.out⟩
end Fld
end Go.Proofs.YtdafimdfbnphaaaGreatDoor
/- Texts. -/
namespace Go.Proofs.YtdafimdfbnphaaaGreatDoor
open Go.RowKit Go.MapKept
namespace Pat
def less (a b:ByteArray):Bool:=Op.bytesLess a.toList b.toList
end Pat
end Go.Proofs.YtdafimdfbnphaaaGreatDoor
/- Texts. -/
namespace Go.Proofs.YtdafimdfbnphaaaGreatDoor
open Go.RowKit Go.MapKept
namespace Tre
abbrev Nm:=List ByteArray
abbrev Th:=Nm × Bool × ByteArray
def fi (t:List Th) (n:Nm):Option Nat:=t.findIdx? (fun x=>decide (x.1=n))
def fv (t:List Th) (n:Nm):Int:=match fi t n with | some i=>(i:Int) | none=>-1
theorem fi_some {t:List Th} {n:Nm} {i:Nat} (h:fi t n=some i):∃ h:i < t.length,t[i].1=n∧∀ j (hj:j < i),(t[j]'(by omega)).1≠n:=by
 unfold fi at h
 rw[List.findIdx?_eq_some_iff_getElem] at h
 obtain⟨h1,h2,h3⟩:=h
 exact⟨h1,by simpa using h2,fun j hj=>by simpa using h3 j hj⟩
theorem fi_at {t:List Th} {n:Nm} {i:Nat} (h:i < t.length) (e:t[i].1=n) (hj:∀ j (h':j < i),(t[j]'(by omega)).1≠n):fi t n=some i:=by
 unfold fi
 rw[List.findIdx?_eq_some_iff_getElem]
 exact⟨h,by simpa using e,fun j h'=>by simpa using hj j h'⟩
theorem fi_none {t:List Th} {n:Nm} (h:∀ j (hj:j < t.length),t[j].1≠n):fi t n=none:=by
 unfold fi
 rw[List.findIdx?_eq_none_iff]
 intro x hx
 obtain⟨j,hj,rfl⟩:=List.getElem_of_mem hx
 simpa using h j hj
def isDirAt (t:List Th) (i:Nat):Bool:=match t[i]? with | some x=>x.2.1 | none=>false
def dirT (t:List Th) (n:Nm):Bool:=if n=[] then true else match fi t n with | some i=>isDirAt t i | none=>false
def goF (t:List Th) (n:Nm):Nat→Nat→Int
 | 0,_=>0
 | f+1,k=>match fi t (n.take k) with
   | none=>4
   | some i=>if k < n.length∧isDirAt t i=false then 6 else goF t n f (k+1)
def goT (t:List Th) (n:Nm):Int:=goF t n n.length 1
end Tre
end Go.Proofs.YtdafimdfbnphaaaGreatDoor
/- Texts. -/
namespace Go.Proofs.YtdafimdfbnphaaaGreatDoor
open Go.RowKit Go.MapKept
namespace Pat
def glue (x:List UInt8):List (List UInt8)→List (List UInt8)
 | []=>[x]
 | p :: ps=>(x++p) :: ps
def cut:List UInt8→List (List UInt8)
 | []=>[[]]
 | b :: l=>if b=47 then [] :: cut l else glue [b] (cut l)
theorem glue_len (x:List UInt8) {c:List (List UInt8)} (h:c≠[]):(glue x c).length=c.length:=by
 cases c with
 | nil=>exact absurd rfl h
 | cons=>rfl
theorem cut_ne:∀ l,cut l≠[]
 | []=>by simp[cut]
 | b :: l=>by
   rw[cut]
   split
   · simp
   · cases cut l<;>simp[glue]
theorem cut_len:∀ l,(cut l).length≤l.length+1
 | []=>by simp[cut]
 | b :: l=>by
   have:=cut_len l
   rw[cut]
   split
   · simp;omega
   · rw[glue_len _ (cut_ne l)];simp;omega
theorem cut_at:∀ l,(Lib.indexByte l 47 = -1→cut l=[l])∧∀ i:Nat,Lib.indexByte l 47=(i:Int)→cut l=l.take i :: cut (l.drop (i+1))
 | []=>⟨fun _=>rfl,fun i h=>by
   rw[Lib.indexByte] at h
   omega⟩
 | b :: l=>by
   obtain⟨h1,h2⟩:=cut_at l
   have hge:=Lib.indexByte_ge l 47
   rw[cut,Lib.indexByte]
   by_cases hb:b=47
   · subst hb
     rw[if_pos rfl,if_pos (by simp)]
     refine⟨fun h=>by omega,fun i h=>?_⟩
     obtain rfl:i=0:=by omega
     simp
   · rw[if_neg hb,if_neg (by simpa using hb)]
     by_cases hm:Lib.indexByte l 47 = -1
     · rw[hm,if_pos (by simp),h1 hm]
       exact⟨fun _=>rfl,fun i h=>by omega⟩
     · rw[if_neg (by simpa using hm)]
       refine⟨fun h=>by omega,fun i h=>?_⟩
       obtain⟨j,rfl⟩:∃ j,i=j+1:=⟨i - 1,by omega⟩
       rw[h2 j (by omega)]
       simp[glue]
theorem splitK_few:∀ (k:Nat) (l:List UInt8),(cut l).length≤k+1→Lib.splitK [47] 0 k l=cut l
 | 0,l,h=>by
   rw[Lib.splitK]
   rcases Int.lt_or_le (Lib.indexByte l 47) 0 with hi | hi
   · have:=Lib.indexByte_ge l 47
     rw[(cut_at l).1 (by omega)]
   · obtain⟨i,hi⟩:=Int.eq_ofNat_of_zero_le hi
     rw[(cut_at l).2 i hi] at h
     have:=cut_ne (l.drop (i+1))
     have:=List.length_pos_iff.2 this
     rw[List.length_cons] at h
     omega
 | k+1,l,h=>by
   rw[Lib.splitK,Lib.index_one]
   rcases Int.lt_or_le (Lib.indexByte l 47) 0 with hi | hi
   · have:=Lib.indexByte_ge l 47
     have hm:Lib.indexByte l 47 = -1:=by omega
     rw[hm,if_pos (by decide),(cut_at l).1 hm]
   · obtain⟨i,hi⟩:=Int.eq_ofNat_of_zero_le hi
     have hc:=(cut_at l).2 i hi
     rw[hc] at h
     rw[hi,if_neg (by simp),hc,splitK_few k _ (by simp at h ⊢;omega)]
     simp
theorem splitK_many:∀ (k:Nat) (l:List UInt8),k+1≤(cut l).length→(Lib.splitK [47] 0 k l).length=k+1
 | 0,l,_=>rfl
 | k+1,l,h=>by
   rw[Lib.splitK,Lib.index_one]
   rcases Int.lt_or_le (Lib.indexByte l 47) 0 with hi | hi
   · have:=Lib.indexByte_ge l 47
     rw[(cut_at l).1 (by omega)] at h
     simp at h
   · obtain⟨i,hi⟩:=Int.eq_ofNat_of_zero_le hi
     rw[(cut_at l).2 i hi] at h
     rw[hi,if_neg (by simp),List.length_cons]
     have:=splitK_many k (l.drop (i+1)) (by simp at h;omega)
     simpa using this
abbrev mk (l:List UInt8):ByteArray:=⟨l.toArray⟩
theorem map_mk (m:List ByteArray):(m.map (·.data.toList)).map mk=m:=by
 rw[List.map_map]
 have:(mk ∘ fun s:ByteArray=>s.data.toList)=id:=rfl
 rw[this,List.map_id]
def IsNames (l:List ByteArray):Prop:=l.length≤64∧∀ n∈l,Ent.Right (Crc.tx n)
instance (l:List ByteArray):Decidable (IsNames l):=by unfold IsNames;infer_instance
def isNames (l:List ByteArray):Bool:=decide (IsNames l)
def spl (s:ByteArray):Option (List ByteArray):=
 match s.data.toList with
 | []=>none
 | b :: r=>if b=47 then (if r=[] then some [] else if IsNames ((cut r).map mk) then some ((cut r).map mk) else none) else none
end Pat
end Go.Proofs.YtdafimdfbnphaaaGreatDoor
/- Texts. -/
namespace Go.Proofs.YtdafimdfbnphaaaGreatDoor
open Go.RowKit Go.MapKept
namespace Pat
structure Txs (w:World) (A:Option Addr) (l:List ByteArray):Prop where
 size:∀ s∈l,s.size≤9223372036854775807
 len:l.length≤9223372036854775807
 at':∀ j (h:j < l.length),∃ b o,A=some ⟨b,o,none⟩∧b < w.heap.size∧w.cell? ⟨b,o+j,none⟩=some (.string l[j])
theorem Txs.keep {w w':World} {A:Option Addr} {l:List ByteArray} (h:Txs w A l) (hb:Below w.heap.size w w'):Txs w' A l:=
 ⟨h.size,h.len,fun j hj=>by
   obtain⟨b,o,e,hlt,hc⟩:=h.at' j hj
   exact⟨b,o,e,Nat.lt_of_lt_of_le hlt hb.size,(hb.cell (p:=⟨b,o+j,none⟩) hlt).trans hc⟩⟩
theorem Txs.alloc {w:World} {A:Option Addr} {l:List ByteArray} (h:Txs w A l) (o:Obj):Txs (w.alloc o) A l:=h.keep ((Below.refl _ _).alloc (Nat.le_refl _) o)
theorem txs_nil (w:World) (A:Option Addr):Txs w A []:=⟨fun _ h=>by simp at h,by simp,fun j h=>by simp at h⟩
theorem Txs.take {w:World} {A:Option Addr} {l:List ByteArray} (h:Txs w A l) (n:Nat):Txs w A (l.take n):=
 ⟨fun s hs=>h.size s (List.mem_of_mem_take hs),by have:=h.len;rw[List.length_take];omega,fun j hj=>by
   have hj':j < l.length:=by rw[List.length_take] at hj;omega
   obtain⟨b,o,e,hlt,hc⟩:=h.at' j hj'
   exact⟨b,o,e,hlt,by rw[hc,List.getElem_take]⟩⟩
abbrev strs (l:List ByteArray):List Value:=l.map .string
theorem strs_one (l:List ByteArray):∀ u∈strs l,u.oneCell'=true:=by
 intro u hu
 obtain⟨x,_,rfl⟩:=List.mem_map.1 hu
 rfl
theorem str_info:(Tryz.prog.info? 9).map (fun i=>(i.zero,i.size,i.bytes))=some (some (.string ByteArray.empty),1,16):=by kernel_rfl
theorem info_parts {t:TypeId} {v:Value} {n m:Nat} (h:(Tryz.prog.info? t).map (fun i=>(i.zero,i.size,i.bytes))=some (some v,n,m)):∃ i,Tryz.prog.info? t=some i∧i.zero=some v∧i.size=n∧i.bytes=m:=by
 cases hi:Tryz.prog.info? t with
 | none=>rw[hi] at h;cases h
 | some i=>
   rw[hi] at h
   simp only[Option.map_some,Option.some.injEq,Prod.mk.injEq] at h
   exact⟨i,rfl,h.1,h.2.1,h.2.2⟩
end Pat
end Go.Proofs.YtdafimdfbnphaaaGreatDoor
/- Texts. -/
namespace Go.Proofs.YtdafimdfbnphaaaGreatDoor
open Go.RowKit Go.MapKept
namespace Pat
theorem below_drewN {B:Nat} {a w:World} (h:Below B a w) (n:Nat):Below B a (w.drewN n):=⟨h.os,h.tape,h.output,h.size,h.block⟩
def Few (l:List ByteArray):Prop:=(∀ s∈l,s.size≤60)∧l.length≤70
instance (l:List ByteArray):Decidable (Few l):=by unfold Few;infer_instance
def few (l:List ByteArray):Bool:=decide (Few l)
end Pat
end Go.Proofs.YtdafimdfbnphaaaGreatDoor
/- Texts. -/
namespace Go.Proofs
open Go.Shelf
def Tryz.splitA_ren : Go.Shelf.Ren := ⟨fun | 147 => 93 | 221 => 148 | 268 => 194 | 138 => 195 | 143 => 196 | 195 => 226 | 197 => 227 | 218 => 228 | 219 => 229 | 260 => 242 | 217 => 243 | 225 => 244 | 224 => 245 | 267 => 246 | 266 => 250 | 314 => 251 | n => n, fun | 9 => 9 | 3 => 3 | 31 => 23 | 4 => 4 | 0 => 0 | 105 => 295 | 21 => 21 | 5 => 5 | 46 => 212 | 119 => 306 | 139 => 309 | 138 => 308 | 146 => 310 | 51 => 137 | n => n, fun | 1 => 2 | 3 => 3 | 4 => 4 | n => n⟩
theorem Tryz.splitA : Go.Proofs.Lays.n147 Tryz.prog Tryz.splitA_ren := {
  mixed := by kernel_rfl
  f138 := Tryz.func195.trans (congrArg some (by kernel_rfl))
  f143 := Tryz.func196.trans (congrArg some (by kernel_rfl))
  f147 := Tryz.func93.trans (congrArg some (by kernel_rfl))
  f195 := Tryz.func226.trans (congrArg some (by kernel_rfl))
  f197 := Tryz.func227.trans (congrArg some (by kernel_rfl))
  f217 := Tryz.func243.trans (congrArg some (by kernel_rfl))
  f218 := Tryz.func228.trans (congrArg some (by kernel_rfl))
  f219 := Tryz.func229.trans (congrArg some (by kernel_rfl))
  f221 := Tryz.func148.trans (congrArg some (by kernel_rfl))
  f224 := Tryz.func245.trans (congrArg some (by kernel_rfl))
  f225 := Tryz.func244.trans (congrArg some (by kernel_rfl))
  f260 := Tryz.func242.trans (congrArg some (by kernel_rfl))
  f266 := Tryz.func250.trans (congrArg some (by kernel_rfl))
  f267 := Tryz.func246.trans (congrArg some (by kernel_rfl))
  f268 := Tryz.func194.trans (congrArg some (by kernel_rfl))
  f314 := Tryz.func251.trans (congrArg some (by kernel_rfl))
  t0 := Tryz.underlying0
  a0 := Tryz.isAgg0
  z0 := Tryz.sizeOf0
  v0 := Tryz.zeroValue0
  t3 := Tryz.underlying3
  a3 := Tryz.isAgg3
  z3 := Tryz.sizeOf3
  v3 := Tryz.zeroValue3
  t4 := Tryz.underlying4
  a4 := Tryz.isAgg4
  z4 := Tryz.sizeOf4
  v4 := Tryz.zeroValue4
  t5 := Tryz.underlying5
  a5 := Tryz.isAgg5
  z5 := Tryz.sizeOf5
  v5 := Tryz.zeroValue5
  t9 := Tryz.underlying9
  a9 := Tryz.isAgg9
  z9 := Tryz.sizeOf9
  v9 := Tryz.zeroValue9
  t21 := Tryz.underlying21
  a21 := Tryz.isAgg21
  z21 := Tryz.sizeOf21
  v21 := Tryz.zeroValue21
  t31 := Tryz.underlying23
  a31 := Tryz.isAgg23
  z31 := Tryz.sizeOf23
  v31 := Tryz.zeroValue23
  t46 := Tryz.underlying212
  a46 := Tryz.isAgg212
  z46 := Tryz.sizeOf212
  v46 := Tryz.zeroValue212
  t51 := Tryz.underlying137
  a51 := Tryz.isAgg137
  z51 := Tryz.sizeOf137
  v51 := Tryz.zeroValue137
  t105 := Tryz.underlying295
  a105 := Tryz.isAgg295
  z105 := Tryz.sizeOf295
  v105 := Tryz.zeroValue295
  t119 := Tryz.underlying306
  a119 := Tryz.isAgg306
  z119 := Tryz.sizeOf306
  t138 := Tryz.underlying308
  a138 := Tryz.isAgg308
  z138 := Tryz.sizeOf308
  v138 := Tryz.zeroValue308
  t139 := Tryz.underlying309
  a139 := Tryz.isAgg309
  z139 := Tryz.sizeOf309
  v139 := Tryz.zeroValue309
  t146 := Tryz.underlying310
  a146 := Tryz.isAgg310
  z146 := Tryz.sizeOf310
  v146 := Tryz.zeroValue310
  g1 := by kernel_rfl
  g3 := by kernel_rfl
  g4 := by kernel_rfl }
end Go.Proofs
