/- Texts laid together: VolWrite, VolVol, VolAny, VolLast, VolNone, VolOf, VolRaw, ChkNames, VolRdev, VolPut, LinMem, SloMath, SloMay, LinOrd, SloEncode, SloDecode. -/
import Derived.Test.YtdafimdfbnphaaaGreatDoorKb3
import Derived.Test.YtdafimdfbnphaaaGreatDoorKb1
import Derived.Test.YtdafimdfbnphaaaGreatDoorKb2
import Derived.Test.YtdafimdfbnphaaaGreatDoorKa2
import Derived.Test.YtdafimdfbnphaaaGreatDoorKa1
import Derived.Lib.Hide
import Derived.Deep.RegionHeld3
import Derived.BigCall
import Derived.ArgAppend
import Derived.RegionTactic
import Derived.ChangeAlike
/- Texts. -/
namespace Go.Proofs.YtdafimdfbnphaaaGreatDoor
open Lib (hid)
open Go.RowKit Go.MapKept
namespace Vol
section
variable {Q : Nat → Prop} {w : World} {a : Nat} {W : List Nat} {st sn : Nat}
def Fs (l:List (Nat × Nat)) (j:Nat):Prop:=∃ p∈l,p.1=j
def Fl (l:List (Nat × Nat)) (L:List Int) (k j:Nat):Prop:=Fs l j∧((j / 8:Nat):Int)∉L.take k
theorem fs_snoc {l:List (Nat × Nat)} {k x y:Nat} (h:k < l.length) (e:l[k]=(x,y)):∀ j,Fs (l.take k) j∨j=x→Fs (l.take (k+1)) j:=by
 rintro j (⟨p,hp,rfl⟩ | rfl)
 · exact⟨p,by rw[List.take_succ_eq_append_getElem h];exact List.mem_append_left _ hp,rfl⟩
 · exact⟨l[k],by rw[List.take_succ_eq_append_getElem h];exact List.mem_append_right _ (List.mem_singleton.2 rfl),by rw[e]⟩
theorem fl_snoc {l:List (Nat × Nat)} {L:List Int} {k q:Nat} (h:k < L.length) (e:L[k]=((q:Nat):Int)):∀ j,Fl l L k j∧j / 8≠q→Fl l L (k+1) j:=by
 rintro j ⟨⟨h1,h2⟩,h3⟩
 refine⟨h1,fun h4=>?_⟩
 rw[List.take_succ_eq_append_getElem h] at h4
 rcases List.mem_append.1 h4 with h4 | h4
 · exact h2 h4
 · rw[e] at h4
   have:=List.mem_singleton.1 h4
   omega
structure Wr (F:Nat→Prop) (Q:Nat→Prop) (w:World) (a b g:Nat) (W:List Nat) (st sn:Nat) (l:List (Nat × Nat)) (w':World):Prop where
 up:Upf F Q w' a W st sn
 kq:Kq Q w w'
 box:Bx w' b a
 sts:Sts w' g l
theorem Ints.kq {w0 w1 w2:World} {G:Option Addr} {l:List Int} (h:Ints w0 w1 G l) (hk:Kq Q w1 w2) (hq:∀ k,w0.heap.size≤k→k < w1.heap.size→Q k):Ints w0 w2 G l:=by
 intro j hj
 obtain⟨g,e,h1,h2,hc⟩:=h j hj
 have hb:=hk.at (hq g h1 h2) h2
 exact⟨g,e,h1,Nat.lt_of_lt_of_le h2 hk.size,(World.cell?_of_block (w:=w1) hb).trans hc⟩
structure Wl (F:Nat→Prop) (Q:Nat→Prop) (w0 w:World) (a b:Nat) (W:List Nat) (st sn:Nat) (G:Option Addr) (l:List Int) (w':World):Prop where
 up:Upf F Q w' a W st sn
 kq:Kq Q w w'
 box:Bx w' b a
 ints:Ints w0 w' G l
set_option maxHeartbeats 4000000 in
set_option maxRecDepth 100000 in
theorem write_any (h:Up Q w a W st sn) (g c:Nat) (l:List (Nat × Nat)) (hg:Sts w g l) (hq:Q g) (hW:∀ p∈l,p.1 < W.length∧p.2 < 18446744073709551616) (hs:st+2 * l.length < 100000000000) (hln:l.length≤4194304) :
 Calls Tryz.prog 170 #[.agg #[.pointer (some ⟨a,0,none⟩)],.slice (some ⟨g,0,none⟩) l.length c] w fun r w'=>
  r = .returned (.int .i64 0)∧Up Q w' a (puts W l) (st+l.length+(lns l).length) (sn+l.length)∧Kq Q w w':=by
 have hl:l.length < 100000000000:=by omega
 have hsz:=h.size
 have HU:=hid h.u64
 have HW:=hid hW
 have hb0:=(Below.refl w.heap.size w).alloc (Nat.le_refl _) (.cells #[.pointer (some ⟨a,0,none⟩)] 147)
 have HX:=hid (bx_new w a 147)
 have HG:=hid (hg.keep hb0)
 have HUP:=hid (h.grow hb0)
 have HB0:=hid hb0
 have HQ:=hid hq
 have HZ:=hid (World.size_alloc w (.cells #[.pointer (some ⟨a,0,none⟩)] 147))
 clear h hg hq hW hb0
 go_enter Tryz.func170,Tryz.ntmps170
 go_wp2
 generalize w.alloc (.cells #[.pointer (some ⟨a,0,none⟩)] 147)=w1 at *
 obtain⟨Q1,hQ1⟩:∃ Q1:Nat→Prop,Q1=fun k=>Q k∨(w.heap.size≤k∧k < w1.heap.size):=⟨_,rfl⟩
 rw[← hQ1] at HUP
 have HQS:=hid (show ∀ k,Q k→Q1 k by rw[hQ1];exact fun k h=>.inl h)
 have HQB:=hid (show Q1 w.heap.size by rw[hQ1];exact .inr ⟨Nat.le_refl _,HX.out.lt⟩)
 have HQG:=hid (HQS.out _ HQ.out)
 clear hQ1
 have HR:=hid (show Wr (Fs (l.take 0)) Q1 w1 a w.heap.size g (puts W (l.take 0)) (st+0) (sn+0) l w1 from ⟨Upf.mono HUP.out (fun _ h=>h.elim),Pm.Off.refl _ _,HX.out,HG.out⟩)
 clear HUP HX HG
 go_loopw [11] (fun i wr=>∃ (k:Nat),k≤l.length∧i = .int .i64 (k:Int)∧Wr (Fs (l.take k)) Q1 w1 a w.heap.size g (puts W (l.take k)) (st+k) (sn+k) l wr) (fun i _=>l.length - (intOf i).toNat)
 case atStart=>exact⟨0,Nat.zero_le _,rfl,HR.out⟩
 case round=>
  obtain⟨k,hk,rfl,hrs⟩:=hrel
  have HS:=hid hrs
  clear hrs HR
  by_cases hlt:k < l.length
  · obtain⟨hc0,hc1⟩:=HS.out.sts.at' k hlt
    have hbx:=HS.out.box.c0
    have hgl:=HS.out.sts.lt
    have hbl:=HS.out.box.lt
    obtain⟨hw1,hw2⟩:=HW.out _ (List.getElem_mem hlt)
    have HP:=hid (puts_step W l k hlt)
    have HFS:=hid (fun x y (e:l[k]=(x,y))=>fs_snoc hlt e)
    generalize l[k]=p at *
    obtain⟨x,y⟩:=p
    simp only at hc0 hc1 hw1 hw2 HP
    have HFS:=hid (HFS.out x y rfl)
    have hb:=(Below.refl wr.heap.size wr).alloc (Nat.le_refl _) (.cells #[.int .i64 (x:Int),.int .u64 (y:Int)] 248)
    have hup:=HS.out.up.keep hb
    have HC:=hid (up_store hup x y (by rw[puts_len];exact hw1) hw2 (by omega))
    have HB:=hid hb
    have HX:=hid (HS.out.box.keep hb)
    have HG:=hid (HS.out.sts.keep hb)
    have hi0:(0:Int)≤(k:Int):=by omega
    have hi1:(k:Int) < (l.length:Int):=by omega
    clear hup hb
    go_wp2_with fail
    refine HC.out.mono ?_
    rintro e w2 ⟨rfl,hu2,hk2⟩
    have HS2:=hid (show Wr (Fs (l.take (k+1))) Q1 w1 a w.heap.size g (puts W (l.take (k+1))) (st+(k+1)) (sn+(k+1)) l w2 from
     ⟨by rw[HP.out];exact hu2.mono HFS.out,HS.out.kq.trans ((kq_below HB.out).trans hk2),HX.out.kq hk2 HQB.out,HG.out.kq hk2 HQG.out⟩)
    clear hu2 hk2 HC
    go_wp2
    refine⟨⟨k+1,by omega,by go_num,HS2.out⟩,by simp[intOf];omega⟩
  · obtain rfl:k=l.length:=by omega
    obtain⟨wo,hwo⟩:∃ wo,wo=wr:=⟨_,rfl⟩
    rw[← hwo] at HS ⊢
    clear hwo
    have HC:=hid (linesOf_any wo g c l HS.out.sts hln (fun p hp=>by have:=(HW.out p hp).1;omega))
    go_wp2_with fail
    refine HC.out.mono ?_
    rintro r w3 ⟨G,gc,rfl,hin,hb⟩
    rw[List.take_length] at HS
    obtain⟨Q2,hQ2⟩:∃ Q2:Nat→Prop,Q2=fun k=>Q1 k∨(wo.heap.size≤k∧k < w3.heap.size):=⟨_,rfl⟩
    have hup:=HS.out.up.grow hb
    rw[← hQ2] at hup
    have HQ2:=hid (show ∀ k,Q1 k→Q2 k by rw[hQ2];exact fun k h=>.inl h)
    have HQL:=hid (show ∀ k,wo.heap.size≤k→k < w3.heap.size→Q2 k by rw[hQ2];exact fun k h1 h2=>.inr ⟨h1,h2⟩)
    clear hQ2
    have HL:=hid (show Wl (Fl l (lns l) 0) Q2 wo w3 a w.heap.size (puts W l) (st+l.length+0) (sn+l.length) G (lns l) w3 from ⟨Upf.mono hup (fun _ h=>⟨h,by simp⟩),Pm.Off.refl _ _,HS.out.box.keep hb,hin⟩)
    have HIN:=hid hin
    have HKA:=hid (HS.out.kq.trans (kq_below hb))
    have HM:=hid (lns_mem l)
    have HHS:=hid (fun p h=>lns_has (l:=l) (p:=p) h)
    have hml:=lns_le l
    clear hup hin hb HC HS
    obtain⟨L,hL⟩:∃ L,L=lns l:=⟨_,rfl⟩
    rw[← hL] at HL HM hml HIN HHS
    have HLL:=hid hL
    rw[← hL]
    clear hL
    go_wp2
    go_loopw [27] (fun i ww=>∃ (j:Nat),j≤L.length∧i = .int .i64 (j:Int)∧Wl (Fl l L j) Q2 wo w3 a w.heap.size (puts W l) (st+l.length+j) (sn+l.length) G L ww) (fun i _=>L.length - (intOf i).toNat)
    case atStart=>exact⟨0,Nat.zero_le _,rfl,HL.out⟩
    case round=>
     obtain⟨j,hj,rfl,hrs⟩:=hrel
     have HS:=hid hrs
     clear hrs HL
     by_cases hjl:j < L.length
     · obtain⟨g',rfl,hg1,hg2,hcl⟩:=HS.out.ints j hjl
       obtain⟨p,hp,hpe⟩:=HM.out _ (List.getElem_mem hjl)
       have hpl:=(HW.out p hp).1
       rw[hpe] at hcl
       have HFL:=hid (fun q (e:p.1 / 8=q)=>fl_snoc (l:=l) hjl (hpe.trans (by rw[e])))
       clear hpe hp
       generalize hq:p.1 / 8=q at *
       have HFL:=hid (HFL.out q rfl)
       have HC:=hid (up_flush HS.out.up q (by rw[puts_len];omega) (by omega))
       have hbx:=HS.out.box.c0
       have hbl:=HS.out.box.lt
       have hi0:(0:Int)≤(j:Int):=by omega
       have hi1:(j:Int) < (L.length:Int):=by omega
       clear hq hpl
       go_wp2_with fail
       refine HC.out.mono ?_
       rintro e w5 ⟨rfl,hu5,hk5⟩
       have HS5:=hid (show Wl (Fl l L (j+1)) Q2 wo w3 a w.heap.size (puts W l) (st+l.length+(j+1)) (sn+l.length) (some ⟨g',0,none⟩) L w5 from
        ⟨hu5.mono HFL.out,HS.out.kq.trans hk5,HS.out.box.kq hk5 (HQ2.out _ HQB.out),?_⟩)
       · clear hu5 hk5 HC
         go_wp2
         refine⟨⟨j+1,by omega,by go_num,HS5.out⟩,by simp[intOf];omega⟩
       · exact HIN.out.kq (HS.out.kq.trans hk5) HQL.out
     · obtain rfl:j=L.length:=by omega
       go_wp2
       go_ret
       refine⟨rfl,by rw[← HLL.out];exact (HS.out.up.sub (fun k h=>HQ2.out k (HQS.out k h))).mono (fun j hj=>by
        obtain⟨⟨p,hp,rfl⟩,h2⟩:=hj
        rw[List.take_length] at h2
        exact h2 (HHS.out p hp)),?_⟩
       exact (kq_below HB0.out).trans ((HKA.out.sub HQS.out).trans (HS.out.kq.sub (fun k h=>HQ2.out k (HQS.out k h))))
end
end Vol
end Go.Proofs.YtdafimdfbnphaaaGreatDoor
/- Texts. -/
namespace Go.Proofs.YtdafimdfbnphaaaGreatDoor
open Lib (hid)
open Go.RowKit Go.MapKept
namespace Vol
section
variable {Q Q' : Nat → Prop} {w w' : World} {vb a n m s : Nat} {W : List Nat} {st sn : Nat}
structure Vo (Q:Nat→Prop) (w:World) (vb a n m s:Nat) (W:List Nat) (st sn:Nat):Prop where
 vol:w.heap[vb]? = some (.cells #[.pointer (some ⟨a,0,none⟩),.int .i64 (n:Int),.int .i64 (m:Int),.int .i64 (s:Int)] 149 (0,0))
 q:Q vb
 up:Up Q w a W st sn
 may:Geo.may n m s=true
 len:(W.length:Int)=Geo.fin n m s
theorem Vo.lt (h:Vo Q w vb a n m s W st sn):vb < w.heap.size:=Pm.lt_of_some h.vol
theorem Vo.keep (h:Vo Q w vb a n m s W st sn) (hb:Below w.heap.size w w'):Vo Q w' vb a n m s W st sn:=⟨(hb.block vb h.lt).trans h.vol,h.q,h.up.keep hb,h.may,h.len⟩
theorem Vo.grow (h:Vo Q w vb a n m s W st sn) (hb:Below w.heap.size w w'):Vo (fun k=>Q k∨(w.heap.size≤k∧k < w'.heap.size)) w' vb a n m s W st sn:=⟨(hb.block vb h.lt).trans h.vol,.inl h.q,h.up.grow hb,h.may,h.len⟩
theorem Vo.sub (h:Vo Q w vb a n m s W st sn) (hs:∀ k,Q' k→Q k) (hq:Q' vb):Vo Q' w vb a n m s W st sn:=⟨h.vol,hq,h.up.sub hs,h.may,h.len⟩
theorem Vo.cells (h:Vo Q w vb a n m s W st sn):w.cell? ⟨vb,0,none⟩=some (.pointer (some ⟨a,0,none⟩))∧w.cell? ⟨vb,1,none⟩=some (.int .i64 (n:Int))∧w.cell? ⟨vb,2,none⟩=some (.int .i64 (m:Int))∧w.cell? ⟨vb,3,none⟩=some (.int .i64 (s:Int)):=
 ⟨Pm.blk_cell h.vol 0,Pm.blk_cell h.vol 1,Pm.blk_cell h.vol 2,Pm.blk_cell h.vol 3⟩
theorem Vo.next (h:Vo Q w vb a n m s W st sn) {W':List Nat} {st' sn':Nat} (hu:Up Q w' a W' st' sn') (hk:Kq Q w w') (hl:W'.length=W.length):Vo Q w' vb a n m s W' st' sn':=
 ⟨(hk.at h.q h.lt).trans h.vol,h.q,hu,h.may,by rw[hl];exact h.len⟩
theorem up_read (h:Up Q w a W st sn) (hm:Geo.may n m s=true) (hl:(W.length:Int)=Geo.fin n m s) (h8:rdw W 0 8=Sup.sb n m s) :
 Calls Tryz.prog 73 #[.pointer (some ⟨a,0,none⟩)] w fun r w'=>r = .returned (.tuple #[.agg #[.int .i64 (n:Int),.int .i64 (m:Int),.int .i64 (s:Int)],.int .i64 0])∧Below w.heap.size w w':=by
 obtain⟨A,hv,_,hw,h64,_⟩:=h
 have hu:Sup.U64 A.words:=by
  intro x hx
  rw[hw] at hx
  obtain⟨y,hy,rfl⟩:=List.mem_map.1 hx
  have:=h64 y hy
  simp only[Int.ofNat_eq_natCast]
  omega
 have hr:=Sup.read_any hv.ses hu
 have e:Sup.rd A=rdw W 0 8:=by
  refine List.ext_getElem (by rw[Sup.rd_len,rdw_len]) (fun i h1 h2=>?_)
  rw[rdw_get]
  have h3:i < 8:=by rwa [Sup.rd_len] at h1
  have:=Sup.rd_get A h3
  rw[List.getElem?_eq_getElem h1] at this
  refine Eq.trans (b:=(A.words[i]?.getD 0).toNat) (by simpa using this) ?_
  rw[hw,List.getElem?_map,Nat.zero_add]
  cases W[i]? with
  | none=>rfl
  | some y=>simp
 have hon:Sup.ron (Sup.rd A) A.words.length=some (n,m,s):=by
  rw[e,h8]
  unfold Sup.ron
  rw[Sup.dec_sb hm]
  simp only
  rw[if_pos (by rw[hw,List.length_map];exact hl.symm)]
 rw[hon] at hr
 exact hr
set_option maxHeartbeats 4000000 in
set_option maxRecDepth 100000 in
theorem open_any (h:Up Q w a W st sn) (hm:Geo.may n m s=true) (hl:(W.length:Int)=Geo.fin n m s) (h8:rdw W 0 8=Sup.sb n m s) :
 Calls Tryz.prog 36 #[.pointer (some ⟨a,0,none⟩)] w fun r w'=>∃ vb,r = .returned (.tuple #[.pointer (some ⟨vb,0,none⟩),.int .i64 0])∧w.heap.size≤vb ∧
  Vo (fun k=>Q k∨(w.heap.size≤k∧k < w'.heap.size)) w' vb a n m s W st sn∧Below w.heap.size w w':=by
 have HC:=hid (up_read h hm hl h8)
 have H:=hid h
 have HM:=hid hm
 have HL:=hid hl
 clear h hm hl h8
 go_enter Tryz.func36,Tryz.ntmps36
 go_wp2_with fail
 refine HC.out.mono ?_
 rintro r w1 ⟨rfl,hb⟩
 have HB:=hid hb
 clear hb HC
 go_wp2
 go_ret2
 have hb0:=HB.out.alloc HB.out.size (.cells #[.int .i64 (n:Int),.int .i64 (m:Int),.int .i64 (s:Int)] 122)
 have hz:=World.size_alloc w1 (.cells #[.int .i64 (n:Int),.int .i64 (m:Int),.int .i64 (s:Int)] 122)
 generalize w1.alloc (.cells #[.int .i64 (n:Int),.int .i64 (m:Int),.int .i64 (s:Int)] 122)=w2 at *
 have hb1:=hb0.alloc hb0.size (.cells #[.pointer (some ⟨a,0,none⟩),.int .i64 (n:Int),.int .i64 (m:Int),.int .i64 (s:Int)] 149)
 refine⟨w1.heap.size+1,rfl,Nat.le_succ_of_le HB.out.size,⟨?_,.inr ⟨Nat.le_succ_of_le HB.out.size,by simp;omega⟩,H.out.grow hb1,HM.out,HL.out⟩,hb1⟩
 have:=(heap_alloc w2 (.cells #[.pointer (some ⟨a,0,none⟩),.int .i64 (n:Int),.int .i64 (m:Int),.int .i64 (s:Int)] 149)).1
 rw[hz] at this
 exact this
set_option maxHeartbeats 4000000 in
set_option maxRecDepth 100000 in
theorem geometry_any (h:Vo Q w vb a n m s W st sn):Calls Tryz.prog 59 #[.pointer (some ⟨vb,0,none⟩)] w fun r w'=>r = .returned (.agg #[.int .i64 (n:Int),.int .i64 (m:Int),.int .i64 (s:Int)])∧Below w.heap.size w w':=by
 obtain⟨c0,c1,c2,c3⟩:=h.cells
 have hlt:=h.lt
 clear h
 go_enter Tryz.func59,Tryz.ntmps59
 go_wp2
 refine bodyPost_ret (v:=.agg #[.int .i64 (n:Int),.int .i64 (m:Int),.int .i64 (s:Int)]) ?_ rfl ⟨rfl,?_⟩
 · simp[results,Tryz.results59,go_sem]
 · exact (Below.refl _ _).alloc (Nat.le_refl _) _
theorem isNone_any (w:World) (p:Int):Calls Tryz.prog 88 #[.int .i64 p] w fun r w'=>r = .returned (.bool (decide (p < 0)))∧w=w':=by
 go_enter Tryz.func88,Tryz.ntmps88
 go_wp2
 go_ret
 exact⟨rfl,rfl⟩
end
end Vol
end Go.Proofs.YtdafimdfbnphaaaGreatDoor
/- Texts. -/
namespace Go.Proofs.YtdafimdfbnphaaaGreatDoor
open Lib (hid)
open Go.RowKit Go.MapKept
namespace Vol
def vsb (W:List Nat):Option (Nat × Nat × Nat):=Sup.ron (rdw W 0 8) W.length
theorem vsb_some {W:List Nat} {n m s:Nat} (h:vsb W=some (n,m,s)):Geo.may n m s=true∧(W.length:Int)=Geo.fin n m s∧rdw W 0 8=Sup.sb n m s:=by
 unfold vsb Sup.ron at h
 cases hd:Sup.dec (rdw W 0 8) with
 | none=>rw[hd] at h;cases h
 | some q=>
   obtain⟨x,y,z⟩:=q
   rw[hd] at h
   simp only at h
   split at h
   · rename_i hf
     injection h with h
     injection h with h1 h2
     injection h2 with h2 h3
     subst h1 h2 h3
     obtain⟨k1,k2⟩:=Sup.dec_some hd
     exact⟨k1,hf.symm,k2⟩
   · cases h
section
variable {Q : Nat → Prop} {w : World} {a : Nat} {W : List Nat} {st sn : Nat}
theorem up_read_any (h:Up Q w a W st sn) :
 Calls Tryz.prog 73 #[.pointer (some ⟨a,0,none⟩)] w fun r w'=>r = .returned (.tuple #[Sup.gv (vsb W),.int .i64 (Sup.ev (vsb W))])∧Below w.heap.size w w':=by
 obtain⟨A,hv,_,hw,h64,_⟩:=h
 have hu:Sup.U64 A.words:=by
  intro x hx
  rw[hw] at hx
  obtain⟨y,hy,rfl⟩:=List.mem_map.1 hx
  have:=h64 y hy
  simp only[Int.ofNat_eq_natCast]
  omega
 have hr:=Sup.read_any hv.ses hu
 have e:Sup.rd A=rdw W 0 8:=by
  refine List.ext_getElem (by rw[Sup.rd_len,rdw_len]) (fun i h1 h2=>?_)
  rw[rdw_get]
  have h3:i < 8:=by rwa [Sup.rd_len] at h1
  have:=Sup.rd_get A h3
  rw[List.getElem?_eq_getElem h1] at this
  refine Eq.trans (b:=(A.words[i]?.getD 0).toNat) (by simpa using this) ?_
  rw[hw,List.getElem?_map,Nat.zero_add]
  cases W[i]? with
  | none=>rfl
  | some y=>simp
 rw[e,hw,List.length_map] at hr
 exact hr
def OpTo (Q:Nat→Prop) (w:World) (a:Nat) (W:List Nat) (st sn:Nat) (r:Ending) (w':World):Prop:=
 match vsb W with
 | none=>r = .returned (.tuple #[.pointer none,.int .i64 2])∧Below w.heap.size w w'
 | some (n,m,s)=>∃ vb,r = .returned (.tuple #[.pointer (some ⟨vb,0,none⟩),.int .i64 0])∧w.heap.size≤vb∧Vo (fun k=>Q k∨(w.heap.size≤k∧k < w'.heap.size)) w' vb a n m s W st sn∧Below w.heap.size w w'
set_option maxHeartbeats 4000000 in
set_option maxRecDepth 100000 in
theorem open_gen (h:Up Q w a W st sn):Calls Tryz.prog 36 #[.pointer (some ⟨a,0,none⟩)] w (OpTo Q w a W st sn):=by
 unfold OpTo
 cases hv:vsb W with
 | some q=>
   obtain⟨n,m,s⟩:=q
   obtain⟨h1,h2,h3⟩:=vsb_some hv
   exact open_any h h1 h2 h3
 | none=>
   have hr:=up_read_any h
   rw[hv] at hr
   have HC:=hid hr
   clear h hr hv
   simp only[Sup.gv,Sup.ev] at HC
   go_enter Tryz.func36,Tryz.ntmps36
   go_wp2_with fail
   refine HC.out.mono ?_
   rintro r w1 ⟨rfl,hb⟩
   have HB:=hid (hb.alloc hb.size (.cells #[.int .i64 0,.int .i64 0,.int .i64 0] 122))
   clear hb HC
   go_wp2
   go_ret2
   exact⟨rfl,HB.out⟩
end
end Vol
end Go.Proofs.YtdafimdfbnphaaaGreatDoor
/- Texts. -/
namespace Go.Proofs.YtdafimdfbnphaaaGreatDoor
open Go.RowKit Go.MapKept
namespace Vol
theorem new_ls (n:Nat) (hn:n≤4194304) (w:World):Calls Tryz.prog 9 #[.int .i64 (n:Int)] w fun r w'=>∃ a,r = .returned (.pointer (some ⟨a,0,none⟩))∧w.heap.size≤a∧Ls (fun k=>k < w.heap.size) w' a (List.replicate n 0) 0 0∧Below w.heap.size w w':=by
 refine (Pm.ses_new (n:Int) n (by omega) w).mono ?_
 rintro r w' ⟨rfl,D,hrep,hD,hok,hb,hf,_⟩
 refine⟨_,rfl,by omega,⟨_,⟨D,hrep,hD,hok,fun k hk hq=>?_,fun k hk=>Nat.lt_of_lt_of_le hk hb.size⟩,rfl,by simp[Pm.Abs.fresh],fun x hx=>?_,rfl,rfl,rfl⟩,hb⟩
 · have:=hf k hk
   omega
 · rw[List.eq_of_mem_replicate hx]
   decide
section
variable {Q : Nat → Prop} {w : World} {a : Nat} {W : List Nat} {st sn : Nat}
end
end Vol
end Go.Proofs.YtdafimdfbnphaaaGreatDoor
/- Texts. -/
namespace Go.Proofs.YtdafimdfbnphaaaGreatDoor
namespace Vol
theorem vsb_zero (W:List Nat) (h:∀ i,i < 8→W[i]?.getD 0=0):vsb W=none:=by
 unfold vsb
 have e:rdw W 0 8=List.replicate 8 0:=by
  refine List.ext_getElem (by rw[rdw_len];rfl) (fun i h1 h2=>?_)
  rw[rdw_len] at h1
  rw[rdw_get,Nat.zero_add,h i h1,List.getElem_replicate]
 rw[e]
 have h0:Sup.dec (List.replicate 8 0)=none:=by decide
 unfold Sup.ron
 rw[h0]
theorem vsb_new (n:Nat):vsb (List.replicate n 0)=none:=vsb_zero _ fun i _=>by
 cases h:(List.replicate n 0)[i]? with
 | none=>rfl
 | some x=>exact List.eq_of_mem_replicate (List.mem_of_getElem? h)
end Vol
end Go.Proofs.YtdafimdfbnphaaaGreatDoor
/- Texts. -/
namespace Go.Proofs.YtdafimdfbnphaaaGreatDoor
open Lib (hid)
open Go.RowKit Go.MapKept
namespace Vol
section
variable {w : World}
theorem own_room (G:Option Addr) (n m:Nat):Calls Tryz.prog 23 #[.slice G n m] w fun e w'=>e = .returned (.pointer (some ⟨w.heap.size+1,0,none⟩)) ∧
 w'=(w.alloc (.map #[] 0)).alloc (.cells #[.int .i64 0,.int .i64 0,.bool false,.int .i64 0,.slice G n m,.map (some w.heap.size),.slice none 0 0] 114):=by
 have hmm:=@run_makeMap Tryz.prog
 go_enter Tryz.func23,Tryz.ntmps23
 go_wp2
 go_ret
 exact⟨rfl,rfl⟩
theorem rep_of {w1:World} {g c:Nat} {l:List Int} (h:w1.ownsRow w.heap.size 134 1 (.slice (some ⟨g,0,none⟩) l.length c) l.length (Pm.u64s l)) :
 ∃ D,D.abs=⟨0,0,false,0,l,[],[]⟩∧Pm.Rep ((w1.alloc (.map #[] 0)).alloc (.cells #[.int .i64 0,.int .i64 0,.bool false,.int .i64 0,.slice (some ⟨g,0,none⟩) l.length c,.map (some w1.heap.size),.slice none 0 0] 114)) (w1.heap.size+1) D ∧
   ∀ k,Pm.Foot (w1.heap.size+1) D k→w.heap.size≤k:=by
 rcases h.2 with ⟨e,_⟩ | ⟨g',c',cur,e,hb,hg,hn,hm,hs,ht⟩
 · cases e
 injection e with e1 _ e3
 injection e1 with e1
 injection e1 with e1
 subst e1 e3
 simp only[Nat.mul_one] at hs ht
 have hglt:=Pm.lt_of_some hg
 have hcur:(Pm.u64s l++cur.toList.drop l.length).toArray=cur:=by
  apply Array.toList_inj.1
  rw[← ht]
  exact List.take_append_drop _ _
 refine⟨{ steps:=0,stores:=0,armed:=false,left:=0,words:=l,ents:=[],marked:=[],wb:=g,mb:=w1.heap.size,clock:=0,mka:=none,mkc:=0,wcap:=c,spare:=cur.toList.drop l.length },rfl,?_,?_⟩
 · refine⟨?_,?_,?_,by simp,⟨by simp[Pm.i64s],.inl ⟨rfl,rfl⟩⟩,by simp,by simp,by simp[Pm.Stamp]⟩
   · have:=(heap_alloc (w1.alloc (.map #[] 0)) (.cells #[.int .i64 0,.int .i64 0,.bool false,.int .i64 0,.slice (some ⟨g,0,none⟩) l.length c,.map (some w1.heap.size),.slice none 0 0] 114)).1
     rw[World.size_alloc] at this
     exact this
   · show _=some (Obj.cells (Pm.u64s l++cur.toList.drop l.length).toArray 134 (0,0))
     rw[hcur]
     exact Pm.blk_alloc (Pm.blk_alloc hg _) _
   · exact Pm.blk_alloc (heap_alloc w1 _).1 _
 · rintro k (rfl | rfl | rfl | hk | hk)
   · omega
   · exact hb
   · show w.heap.size≤w1.heap.size
     omega
   · simp at hk
   · simp[Pm.Dev.mkv,Value.ownBlock] at hk
set_option maxHeartbeats 4000000 in
set_option maxRecDepth 100000 in
theorem of_ls (g c:Nat) (l:List Nat) (h:Pack.Wds w (some ⟨g,0,none⟩) l) (hg:g < w.heap.size) (hc:l.length≤c) (h0:0 < l.length) (hl:l.length≤4194304) :
 Calls Tryz.prog 72 #[.slice (some ⟨g,0,none⟩) l.length c] w fun r w'=>∃ a,r = .returned (.pointer (some ⟨a,0,none⟩))∧Ls (fun k=>k < w.heap.size) w' a l 0 0∧Below w.heap.size w w':=by
 have hcl:=fun n=>Pm.clone_any (w:=w) ⟨g,0,none⟩ n (l.map Int.ofNat) hg (by rw[List.length_map];omega) (fun j u hu=>by
  rw[Addr.add_lit]
  unfold Pm.u64s at hu
  rw[List.map_map,List.getElem?_map] at hu
  rcases Nat.lt_or_ge j l.length with h1 | h1
  · obtain⟨b,o,e,_,hc⟩:=h.at' j h1
    injection e with e
    injection e with e1 e2
    subst e1 e2
    rw[List.getElem?_eq_getElem h1] at hu
    rw[hc]
    exact hu
  · rw[List.getElem?_eq_none h1] at hu
    cases hu)
 rw[List.length_map] at hcl
 have HC:=hid hcl
 have H64:=hid h.u64
 have HO:=hid (fun (w:World) G n m=>@own_room w G n m)
 have hmin:min (l.length:Int) 4194304=(l.length:Int):=by omega
 have HMIN:=hid hmin
 clear hcl h hg hmin
 go_enter Tryz.func72,Tryz.ntmps72
 go_wp2_with fail
 try rw[HMIN.out,Int.toNat_natCast]
 refine (HC.out _).mono ?_
 rintro r w1 ⟨v,rfl,hown,hoff⟩
 rw[List.length_map] at hown
 obtain⟨g1,c1,rfl⟩:=Pm.row_form hown h0
 have HW:=hid hown
 have HF:=hid hoff
 clear hown hoff HC
 go_wp2_with fail
 refine (HO.out _ _ _ _).mono ?_
 rintro r w2 ⟨rfl,rfl⟩
 go_wp2
 go_ret
 have hown:=HW.out
 rw[show l.length=(l.map Int.ofNat).length by simp] at hown
 obtain⟨D,hD,hrep,hf⟩:=rep_of (w:=w) hown
 rw[List.length_map] at hrep
 have hb:=(off_below HF.out)
 have hb2:Below w.heap.size w ((w1.alloc (.map #[] 0)).alloc (.cells #[.int .i64 0,.int .i64 0,.bool false,.int .i64 0,.slice (some ⟨g1,0,none⟩) l.length c1,.map (some w1.heap.size),.slice none 0 0] 114)):=
  (hb.alloc hb.size _).alloc (by have:=hb.size;simp;omega) _
 refine⟨_,rfl,⟨_,⟨D,hrep,hD,?_,fun k hk hn=>?_,fun k hk=>?_⟩,rfl,rfl,H64.out,rfl,rfl,rfl⟩,hb2⟩
 · refine⟨by simp,by simp,by simp,by simp,by simp,by simpa using hl,Nat.le_refl _,by simp,by simp⟩
 · have:=hf k hk
   omega
 · exact Nat.lt_of_lt_of_le hk hb2.size
theorem of_any (g c:Nat) (l:List Nat) (h:Pack.Wds w (some ⟨g,0,none⟩) l) (hg:g < w.heap.size) (hc:l.length≤c) (h0:0 < l.length) (hl:l.length≤4194304) :
 Calls Tryz.prog 72 #[.slice (some ⟨g,0,none⟩) l.length c] w fun r w'=>∃ a,r = .returned (.pointer (some ⟨a,0,none⟩))∧Up (fun k=>k < w.heap.size) w' a l 0 0∧Below w.heap.size w w':=
 (of_ls g c l h hg hc h0 hl).mono fun _ _ ⟨a,h1,h2,h3⟩=>⟨a,h1,h2.up,h3⟩
end
end Vol
end Go.Proofs.YtdafimdfbnphaaaGreatDoor
/- Texts. -/
namespace Go.Proofs.YtdafimdfbnphaaaGreatDoor
open Lib (hid)
open Go.RowKit Go.MapKept
namespace Vol
structure Pl (n m s sl bm bk E:Nat):Prop where
 may:Geo.may n m s=true
 e1:16+(m:Int) * 8=(sl:Int)
 e2:Geo.bmAt n m=(bm:Int)
 e3:Geo.bkAt n m=(bk:Int)
 e4:Geo.fin n m s=(E:Int)
 n20:1≤n∧n≤20
 m20:1≤m∧m≤20
 s2:s=64∨s=128
def gn (x:Nat):Nat:=1+x % 20
def gs (x:Nat):Nat:=64 * 2 ^ (x % 2)
theorem gs_cases (x:Nat):gs x=64∨gs x=128:=by
 unfold gs
 have:x % 2=0∨x % 2=1:=by omega
 rcases this with h | h<;>rw[h]<;>simp
theorem pl_any (n m k:Nat):∃ sl bm bk E,Pl (gn n) (gn m) (gs k) sl bm bk E:=by
 have h1:1≤gn n∧gn n≤20:=by unfold gn;omega
 have h2:1≤gn m∧gn m≤20:=by unfold gn;omega
 have h3:=gs_cases k
 generalize gn n=N at *
 generalize gn m=M at *
 generalize gs k=S at *
 refine⟨16+M * 8,16+M * 8+(N+7) / 8 * 8,16+M * 8+(N+7) / 8 * 8+((N+63) / 64+7) / 8 * 8,16+M * 8+(N+7) / 8 * 8+((N+63) / 64+7) / 8 * 8+N * (S / 8),?_,?_,?_,?_,?_,h1,h2,h3⟩
 · refine Geo.may_yes ⟨⟨by omega,by omega,?_⟩,?_⟩
   · unfold Geo.Sz
     omega
   · unfold Geo.fin Geo.bkAt Geo.bmAt Geo.lines
     rcases h3 with h | h<;>rw[h]<;>omega
 · omega
 · unfold Geo.bmAt Geo.lines
   omega
 · unfold Geo.bkAt Geo.bmAt Geo.lines
   omega
 · unfold Geo.fin Geo.bkAt Geo.bmAt Geo.lines
   simp
section
variable {n m s sl bm bk E : Nat}
theorem Pl.at (h:Pl n m s sl bm bk E):sl=16+m * 8∧bm=sl+8 * ((n+7) / 8)∧bk=bm+8∧E=bk+n * (s / 8)∧E≤540:=by
 have h1:=h.e1
 have h2:=h.e2
 have h3:=h.e3
 have h4:=h.e4
 have h5:=h.n20
 have h6:=h.m20
 unfold Geo.fin at h4
 unfold Geo.bkAt at h3 h4
 unfold Geo.bmAt at h2 h3 h4
 unfold Geo.lines at h2 h3 h4
 rcases h.s2 with h7 | h7<;>subst h7<;>refine⟨by omega,by omega,by omega,?_,?_⟩<;>omega
end
def Hb (w:World) (b:Nat) (cs:Array Value) (t:TypeId):Prop:=w.heap[b]? = some (.cells cs t (0,0))
section
variable {w w' : World} {b : Nat} {cs : Array Value} {t : TypeId}
theorem Hb.lt (h:Hb w b cs t):b < w.heap.size:=Pm.lt_of_some h
theorem Hb.keep (h:Hb w b cs t) (hb:Below w.heap.size w w'):Hb w' b cs t:=(hb.block b h.lt).trans h
theorem Hb.below {B:Nat} (h:Hb w b cs t) (hb:Below B w w') (hB:b < B):Hb w' b cs t:=(hb.block b hB).trans h
theorem Hb.cell (h:Hb w b cs t) (i:Nat):w.cell? ⟨b,i,none⟩=cs[i]?:=Pm.blk_cell h i
theorem Hb.frozen (h:Hb w b cs t) (i:Nat):w.frozen? ⟨b,i,none⟩=false:=Pm.blk_frozen h i
theorem Hb.set (h:Hb w b cs t) (i:Nat) (u:Value):Hb (w.setCell ⟨b,i,none⟩ u) b (cs.setIfInBounds i u) t:=Pm.blk_set h i u
theorem Hb.far (h:Hb w b cs t) {p:Addr} (hp:b≠p.block) (u:Value):Hb (w.setCell p u) b cs t:=Pm.blk_far h hp u
theorem hb_new (w:World) (cs:Array Value) (t:TypeId):Hb (w.alloc (.cells cs t)) w.heap.size cs t:=(heap_alloc w _).1
theorem hb_grown {row:Option Nat} (h:Hb w b cs t) (hg:w.grownBy w' row) (hr:row≠some b):Hb w' b cs t:=(hg.block b h.lt (fun e=>hr e.symm)).trans h
theorem hb_apart {B n:Nat} {e:TypeId} {v:Value} {xs:List Value} (h:Hb w b cs t) (ho:w.ownsRow B e 1 v n xs) (ht:e≠t):v.ownBlock≠some b:=by
 rcases ho.2 with ⟨e1,_⟩ | ⟨g,cap,cur,e1,_,hg,_⟩
 · rw[e1];simp[Value.ownBlock]
 · rw[e1]
   simp only[Value.ownBlock,ne_eq,Option.some.injEq]
   exact Pm.blk_ne hg h ht
end
def dv (n m s sl bm bk E:Nat) (v:Value):Array Value:=#[.int .i64 (n:Int),.int .i64 (m:Int),.int .i64 (s:Int),.int .i64 16,.int .i64 (sl:Int),.int .i64 (bm:Int),.int .i64 (bk:Int),.int .i64 (E:Int),v]
section
variable {w : World} {n m s sl bm bk E : Nat}
set_option maxHeartbeats 4000000 in
set_option maxRecDepth 100000 in
theorem refOf_any (w:World) (h:Pl n m s sl bm bk E):Calls Tryz.prog 71 #[.int .i64 (n:Int),.int .i64 (m:Int),.int .i64 (s:Int),.slice none 0 0] w fun r w'=>r = .returned (.agg (dv n m s sl bm bk E (.slice none 0 0)))∧Below w.heap.size w w':=by
 have hof:=fun w=>Geo.of_any w (n:Int) (m:Int) (s:Int)
 rw[h.may,Geo.parts_yes h.may,h.e1,h.e2,h.e3,h.e4] at hof
 have HO:=hid hof
 clear hof h
 unfold dv
 go_enter Tryz.func71,Tryz.ntmps71
 have hz0:=(heap_alloc w (.cells #[.int .i64 0,.int .i64 0,.int .i64 0,.int .i64 0,.int .i64 0,.int .i64 0,.int .i64 0,.int .i64 0,.slice none 0 0] 37)).1
 have HB0:=hid ((Below.refl w.heap.size w).alloc (Nat.le_refl _) (.cells #[.int .i64 0,.int .i64 0,.int .i64 0,.int .i64 0,.int .i64 0,.int .i64 0,.int .i64 0,.int .i64 0,.slice none 0 0] 37))
 have HZ:=hid hz0
 clear hz0
 go_wp2_with fail
 generalize w.alloc (.cells #[.int .i64 0,.int .i64 0,.int .i64 0,.int .i64 0,.int .i64 0,.int .i64 0,.int .i64 0,.int .i64 0,.slice none 0 0] 37)=w0 at *
 refine (HO.out _).mono ?_
 rintro r w1 ⟨rfl,hb⟩
 have HB:=hid (HB0.out.trans (hb.mono HB0.out.size))
 have hblk:=(hb.block w.heap.size (Pm.lt_of_some HZ.out)).trans HZ.out
 have hl:=Pm.lt_of_some hblk
 have c0:=Pm.blk_cell hblk 0
 have c1:=Pm.blk_cell hblk 1
 have c2:=Pm.blk_cell hblk 2
 have c3:=Pm.blk_cell hblk 3
 have c4:=Pm.blk_cell hblk 4
 have c5:=Pm.blk_cell hblk 5
 have c6:=Pm.blk_cell hblk 6
 have c7:=Pm.blk_cell hblk 7
 have c8:=Pm.blk_cell hblk 8
 have f0:=Pm.blk_frozen hblk 0
 have f1:=Pm.blk_frozen hblk 1
 have f2:=Pm.blk_frozen hblk 2
 have f3:=Pm.blk_frozen hblk 3
 have f4:=Pm.blk_frozen hblk 4
 have f5:=Pm.blk_frozen hblk 5
 have f6:=Pm.blk_frozen hblk 6
 have f7:=Pm.blk_frozen hblk 7
 have f8:=Pm.blk_frozen hblk 8
 clear hb hblk HO HZ HB0
 go_wp2
 refine bodyPost_ret (v:=.agg #[.int .i64 (n:Int),.int .i64 (m:Int),.int .i64 (s:Int),.int .i64 16,.int .i64 (sl:Int),.int .i64 (bm:Int),.int .i64 (bk:Int),.int .i64 (E:Int),.slice none 0 0]) ?_ rfl ⟨rfl,?_⟩
 · simp[results,Tryz.results71,go_sem,c0,c1,c2,c3,c4,c5,c6,c7,c8,hl]
 · have h9:=(((((((((HB.out.setCell (p:=⟨w.heap.size,0,none⟩) (Nat.le_refl _) (.int .i64 (n:Int))).setCell (p:=⟨w.heap.size,1,none⟩) (Nat.le_refl _) (.int .i64 (m:Int))).setCell (p:=⟨w.heap.size,2,none⟩) (Nat.le_refl _) (.int .i64 (s:Int))).setCell (p:=⟨w.heap.size,3,none⟩) (Nat.le_refl _) (.int .i64 16)).setCell (p:=⟨w.heap.size,4,none⟩) (Nat.le_refl _) (.int .i64 (sl:Int))).setCell (p:=⟨w.heap.size,5,none⟩) (Nat.le_refl _) (.int .i64 (bm:Int))).setCell (p:=⟨w.heap.size,6,none⟩) (Nat.le_refl _) (.int .i64 (bk:Int))).setCell (p:=⟨w.heap.size,7,none⟩) (Nat.le_refl _) (.int .i64 (E:Int))).setCell (p:=⟨w.heap.size,8,none⟩) (Nat.le_refl _) (.slice none 0 0))
   exact h9.alloc h9.size _
set_option maxHeartbeats 4000000 in
set_option maxRecDepth 100000 in
theorem rgeo_any (w:World) (x y k:Nat) (hx:x < 256) (hy:y < 256) (hk:k < 256) (v:Value):Calls Tryz.prog 69 #[.agg #[.int .u8 (x:Int),.int .u8 (y:Int),.int .u8 (k:Int),v]] w fun r w'=>r = .returned (.agg #[.int .i64 (gn x:Nat),.int .i64 (gn y:Nat),.int .i64 (gs k:Nat)])∧Below w.heap.size w w':=by
 go_enter Tryz.func69,Tryz.ntmps69
 go_wp2
 have e1:(1:Int)+(x:Int) % 20=(gn x:Nat):=by unfold gn;omega
 have e2:(1:Int)+(y:Int) % 20=(gn y:Nat):=by unfold gn;omega
 have e3:wrap64 (64 * 2 ^ (k % 2))=(gs k:Nat):=by
  have e:(64:Int) * 2 ^ (k % 2)=(gs k:Nat):=by unfold gs;simp
  rw[e]
  refine IntWalk.wrap64_in _ ?_
  have:=gs_cases k
  omega
 rw[e1,e2,e3]
 refine bodyPost_ret (v:=.agg #[.int .i64 (gn x:Nat),.int .i64 (gn y:Nat),.int .i64 (gs k:Nat)]) ?_ rfl ⟨rfl,?_⟩
 · simp[results,Tryz.results69,go_sem]
 · exact ((Below.refl _ _).alloc (Nat.le_refl _) _).alloc (by simp) _
end
end Vol
end Go.Proofs.YtdafimdfbnphaaaGreatDoor
/- Texts. -/
namespace Go.Proofs.YtdafimdfbnphaaaGreatDoor
open Lib (hid)
open Go.RowKit Go.MapKept
namespace Chk
open Vol (Up Ls Hb hb_new)
def nml:List ByteArray:=[⟨#[110,111,110,101]⟩,⟨#[115,117,112,101,114]⟩,⟨#[99,108,97,105,109,115]⟩,⟨#[114,111,111,116]⟩,⟨#[102,111,108,100,101,114]⟩,⟨#[108,105,110,107]⟩,⟨#[100,101,101,112]⟩,⟨#[111,114,112,104,97,110]⟩,⟨#[98,105,116,109,97,112]⟩,⟨#[114,101,99,111,114,100]⟩]
def nm (j:Nat):ByteArray:=nml.getD j ByteArray.empty
def Nms (w:World):Prop:=∀ j,j < 10→w.cell? ⟨0,j,none⟩=some (.string (nm j))
theorem Nms.lt {w:World} (h:Nms w):0 < w.heap.size:=by
 have:=h 0 (by decide)
 rcases Nat.lt_or_ge 0 w.heap.size with h1 | h1
 · exact h1
 · simp[World.cell?,Array.getElem?_eq_none h1] at this
theorem Nms.below {w w':World} {B:Nat} (h:Nms w) (hb:Below B w w') (hB:0 < B):Nms w':=fun j hj=>(hb.cell (p:=⟨0,j,none⟩) hB).trans (h j hj)
set_option maxRecDepth 100000 in
theorem name_out (f:Int) (w:World) (hf:f < 0∨10≤f):Calls Tryz.prog 5 #[.int .i64 f] w fun r w'=>r = .returned (.string ⟨#[]⟩)∧w=w':=by
 by_cases h0:f < 0
 · clear hf
   go_enter Tryz.func5,Tryz.ntmps5
   go_wp2
   go_ret
   exact⟨rfl,rfl⟩
 · have h1:10≤f:=by omega
   clear hf
   go_enter Tryz.func5,Tryz.ntmps5
   go_wp2
   go_ret
   exact⟨rfl,rfl⟩
set_option maxRecDepth 100000 in
theorem name_yes (j:Nat) (hj:j < 10) (w:World) (hN:Nms w):Calls Tryz.prog 5 #[.int .i64 (j:Int)] w fun r w'=>r = .returned (.string (nm j))∧w=w':=by
 have hc:=hN j hj
 have h0:¬ (j:Int) < 0:=by omega
 have h1:¬ (10:Int)≤(j:Int):=by omega
 clear hN
 generalize nm j=s at *
 go_enter Tryz.func5,Tryz.ntmps5
 go_wp2
 go_ret
 exact⟨rfl,rfl⟩
section
variable {Q : Nat → Prop} {w : World} {a : Nat} {W : List Nat} {st sn : Nat}
set_option maxRecDepth 100000 in
theorem look_none (h:Up Q w a W st sn) (hn:Vol.vsb W=none):Calls Tryz.prog 22 #[.pointer (some ⟨a,0,none⟩)] w fun r w'=>r = .returned (.tuple #[.agg #[.pointer none,.pointer none,.map none],.int .i64 1])∧Below w.heap.size w w':=by
 have HO:=hid (fun w' (hb:Below w.heap.size w w')=>(show Calls Tryz.prog 36 #[.pointer (some ⟨a,0,none⟩)] w' fun r w''=>r = .returned (.tuple #[.pointer none,.int .i64 2])∧Below w'.heap.size w' w'' from by
  have hv:=Vol.open_gen (h.keep hb)
  unfold Vol.OpTo at hv
  rw[hn] at hv
  exact hv))
 have hb0:=(Below.refl w.heap.size w).alloc (Nat.le_refl _) (.cells #[.pointer none,.pointer none,.map none] 59)
 have HB0:=hid hb0
 have HX:=hid (hb_new w #[.pointer none,.pointer none,.map none] 59)
 clear h hn hb0
 go_enter Tryz.func22,Tryz.ntmps22
 go_wp2_with fail
 refine (HO.out _ HB0.out).mono ?_
 rintro r w1 ⟨rfl,hb⟩
 have HB:=hid (HB0.out.trans (hb.mono HB0.out.size))
 have hx:=HX.out.keep hb
 have x0:=hx.cell 0
 have x1:=hx.cell 1
 have x2:=hx.cell 2
 have f0:=hx.frozen 0
 have f1:=hx.frozen 1
 have f2:=hx.frozen 2
 have xl:=hx.lt
 have HX3:=hid (((hx.set 0 (.pointer none)).set 1 (.pointer none)).set 2 (.map none))
 clear hb HO HB0 hx HX
 go_wp2
 have y0:=HX3.out.cell 0
 have y1:=HX3.out.cell 1
 have y2:=HX3.out.cell 2
 refine bodyPost_ret (v:=.tuple #[.agg #[.pointer none,.pointer none,.map none],.int .i64 1]) ?_ rfl ?_
 · simp[results,Tryz.results22,go_sem,y0,y1,y2]
 exact⟨rfl,((HB.out.setCell (p:=⟨w.heap.size,0,none⟩) (Nat.le_refl _) _).setCell (p:=⟨w.heap.size,1,none⟩) (Nat.le_refl _) _).setCell (p:=⟨w.heap.size,2,none⟩) (Nat.le_refl _) _⟩
theorem judge_none (h:Up Q w a W st sn) (hn:Vol.vsb W=none):Calls Tryz.prog 8 #[.pointer (some ⟨a,0,none⟩)] w fun r w'=>r = .returned (.int .i64 1)∧Below w.heap.size w w':=by
 have HL:=hid (look_none h hn)
 clear h hn
 go_enter Tryz.func8,Tryz.ntmps8
 go_wp2_with fail
 refine HL.out.mono ?_
 rintro r w1 ⟨rfl,hb⟩
 have HB:=hid hb
 clear hb HL
 go_wp2
 go_ret
 exact⟨rfl,HB.out.alloc HB.out.size _⟩
end
end Chk
end Go.Proofs.YtdafimdfbnphaaaGreatDoor
/- Texts. -/
namespace Go.Proofs.YtdafimdfbnphaaaGreatDoor
open Lib (hid)
open Go.RowKit Go.MapKept
namespace Vol
def rx (ws:List Nat) (i:Nat):Nat:=if ws.length=0 then 0 else ws[i % ws.length]?.getD 0
def rawW (n m s E:Nat) (ws:List Nat):List Nat:=Sup.sb n m s++(List.range (E - 8)).map fun j=>rx ws (8+j)
theorem rx_lt {ws:List Nat} (h:∀ x∈ws,x < 18446744073709551616) (i:Nat):rx ws i < 18446744073709551616:=by
 unfold rx
 split
 · decide
 · rcases Nat.lt_or_ge (i % ws.length) ws.length with h1 | h1
   · rw[List.getElem?_eq_getElem h1]
     exact h _ (List.getElem_mem h1)
   · rw[List.getElem?_eq_none h1]
     decide
section
variable {n m s sl bm bk E : Nat} {ws : List Nat}
theorem rawW_len (h:Pl n m s sl bm bk E):(rawW n m s E ws).length=E:=by
 unfold rawW
 rw[List.length_append,Sup.sb_len,List.length_map,List.length_range]
 have:=h.at
 have:=h.n20
 omega
theorem rawW_u64 (h:Pl n m s sl bm bk E) (hw:∀ x∈ws,x < 18446744073709551616):∀ x∈rawW n m s E ws,x < 18446744073709551616:=by
 intro x hx
 rcases List.mem_append.1 hx with hx | hx
 · exact Sup.sb_u64 (by have:=h.n20;omega) (by have:=h.m20;omega) (by have:=h.s2;omega) x hx
 · obtain⟨j,_,rfl⟩:=List.mem_map.1 hx
   exact rx_lt hw _
theorem rawW_eight:(rawW n m s E ws).take 8=Sup.sb n m s:=by
 unfold rawW
 rw[List.take_left' (Sup.sb_len _ _ _)]
theorem rawW_step (h:Pl n m s sl bm bk E) {i:Nat} (h8:8≤i) (hi:i < E):(rawW n m s E ws).take (i+1)=(rawW n m s E ws).take i++[rx ws i]:=by
 have hl:=rawW_len (ws:=ws) h
 rw[List.take_succ_eq_append_getElem (by omega)]
 congr 2
 unfold rawW
 rw[List.getElem_append_right (by rw[Sup.sb_len];exact h8)]
 simp only[List.getElem_map,List.getElem_range,Sup.sb_len]
 rw[show 8+(i - 8)=i by omega]
theorem rawW_read (h:Pl n m s sl bm bk E):rdw (rawW n m s E ws) 0 8=Sup.sb n m s:=by
 rw[rdw_slice (by rw[rawW_len h];have:=h.at;omega),List.drop_zero,rawW_eight]
structure Rl (w:World) (b:Nat) (RC VC WC:Array Value) (wr:World):Prop where
 raw:Hb wr w.heap.size RC 45
 res:Hb wr (w.heap.size+1) VC 37
 vol:Hb wr b WC 37
 below:Below w.heap.size w wr
theorem Rl.keep {w wr w':World} {b:Nat} {RC VC WC:Array Value} (h:Rl w b RC VC WC wr) (hb:Below wr.heap.size wr w'):Rl w b RC VC WC w':=
 ⟨h.raw.keep hb,h.res.keep hb,h.vol.keep hb,h.below.trans (hb.mono h.below.size)⟩
theorem Rl.grown {w wr w':World} {b nn:Nat} {v:Value} {xs:List Value} {RC VC WC:Array Value} (h:Rl w b RC VC WC wr) (ho:wr.ownsRow w.heap.size 134 1 v nn xs) (hg:wr.grownBy w' v.ownBlock):Rl w b RC VC WC w':=
 ⟨hb_grown h.raw hg (hb_apart h.raw ho (by decide)),hb_grown h.res hg (hb_apart h.res ho (by decide)),hb_grown h.vol hg (hb_apart h.vol ho (by decide)),
   h.below.grown hg h.below.size (fun k hk=>Pack.row_base_lt ho hk)⟩
set_option maxHeartbeats 4000000 in
set_option maxRecDepth 100000 in
theorem rdev_any (w:World) (x y k:Nat) (hx:x < 256) (hy:y < 256) (hk:k < 256) (A:Option Addr) (c:Nat) (hws:Pack.Wds w A ws) (h:Pl (gn x) (gn y) (gs k) sl bm bk E) :
 Calls Tryz.prog 35 #[.agg #[.int .u8 (x:Int),.int .u8 (y:Int),.int .u8 (k:Int),.slice A ws.length c]] w fun r w'=>
  ∃ a g gc B:Nat,r = .returned (.tuple #[.pointer (some ⟨a,0,none⟩),.agg (dv (gn x) (gn y) (gs k) sl bm bk E (.slice (some ⟨g,0,none⟩) E gc))])∧w.heap.size≤B∧(w.heap.size≤g∧g < B)∧B≤w'.heap.size∧E≤gc ∧
    Up (fun q=>q < B) w' a (rawW (gn x) (gn y) (gs k) E ws) 0 0∧Pack.Wds w' (some ⟨g,0,none⟩) (rawW (gn x) (gn y) (gs k) E ws)∧Below w.heap.size w w':=by
 have HG:=hid (fun w=>rgeo_any w x y k hx hy hk (.slice A ws.length c))
 have HP:=hid h
 have HE:=hid (fun w=>Sup.refEncode_yes w (gn x) (gn y) (gs k) h.may)
 have HO:=hid (fun w=>refOf_any w h)
 have HW:=hid hws
 have HH:=hid (show x < 256∧y < 256∧k < 256 from ⟨hx,hy,hk⟩)
 obtain⟨n,hn⟩:∃ n,n=gn x:=⟨_,rfl⟩
 obtain⟨m,hm⟩:∃ m,m=gn y:=⟨_,rfl⟩
 obtain⟨s,hs⟩:∃ s,s=gs k:=⟨_,rfl⟩
 rw[← hn,← hm,← hs] at HG HP HE HO ⊢
 clear hn hm hs h hx hy hk hws
 go_enter Tryz.func35,Tryz.ntmps35
 have HR0:=hid (hb_new w #[.int .u8 (x:Int),.int .u8 (y:Int),.int .u8 (k:Int),.slice A ws.length c] 45)
 have HB0:=hid ((Below.refl w.heap.size w).alloc (Nat.le_refl _) (.cells #[.int .u8 (x:Int),.int .u8 (y:Int),.int .u8 (k:Int),.slice A ws.length c] 45))
 have HZ0:=hid (World.size_alloc w (.cells #[.int .u8 (x:Int),.int .u8 (y:Int),.int .u8 (k:Int),.slice A ws.length c] 45))
 go_wp2_with fail
 generalize w.alloc (.cells #[.int .u8 (x:Int),.int .u8 (y:Int),.int .u8 (k:Int),.slice A ws.length c] 45)=w0 at *
 have hb1:=(Below.refl w0.heap.size w0).alloc (Nat.le_refl _) (.cells #[.int .i64 0,.int .i64 0,.int .i64 0,.int .i64 0,.int .i64 0,.int .i64 0,.int .i64 0,.int .i64 0,.slice none 0 0] 37)
 have hn1:=hb_new w0 #[.int .i64 0,.int .i64 0,.int .i64 0,.int .i64 0,.int .i64 0,.int .i64 0,.int .i64 0,.int .i64 0,.slice none 0 0] 37
 rw[HZ0.out] at hn1
 have HR1:=hid (HR0.out.keep hb1)
 have HV1:=hid hn1
 have HB1:=hid (HB0.out.trans (hb1.mono HB0.out.size))
 clear hb1 hn1 HR0 HB0 HZ0
 generalize w0.alloc (.cells #[.int .i64 0,.int .i64 0,.int .i64 0,.int .i64 0,.int .i64 0,.int .i64 0,.int .i64 0,.int .i64 0,.slice none 0 0] 37)=w1 at *
 clear w0
 refine (HG.out _).mono ?_
 rintro r w2 ⟨rfl,hb⟩
 have HR2:=hid (HR1.out.keep hb)
 have HV2:=hid (HV1.out.keep hb)
 have HB2:=hid (HB1.out.trans (hb.mono HB1.out.size))
 clear hb HR1 HV1 HB1 HG
 go_wp2_with fail
 have hb3:=(Below.refl w2.heap.size w2).alloc (Nat.le_refl _) (.cells #[.int .i64 (n:Int),.int .i64 (m:Int),.int .i64 (s:Int)] 122)
 have HG3:=hid (hb_new w2 #[.int .i64 (n:Int),.int .i64 (m:Int),.int .i64 (s:Int)] 122)
 have HR3:=hid (HR2.out.keep hb3)
 have HV3:=hid (HV2.out.keep hb3)
 have HB3:=hid (HB2.out.trans (hb3.mono HB2.out.size))
 have hz3:=World.size_alloc w2 (.cells #[.int .i64 (n:Int),.int .i64 (m:Int),.int .i64 (s:Int)] 122)
 have HL3:=hid (show w.heap.size+1 < w2.heap.size from HV2.out.lt)
 clear hb3 HR2 HV2 HB2
 generalize w2.alloc (.cells #[.int .i64 (n:Int),.int .i64 (m:Int),.int .i64 (s:Int)] 122)=w3 at *
 generalize w2.heap.size=b2 at *
 clear w2 hz3
 refine (HE.out _).mono ?_
 rintro r w4 ⟨G,gc,rfl,hwd,hb⟩
 obtain⟨gb,go,rfl,hgl,_⟩:=hwd.at' 0 (by rw[Sup.sb_len];omega)
 have HD4:=hid hwd
 have HG4:=hid (HG3.out.keep hb)
 have HR4:=hid (HR3.out.keep hb)
 have HV4:=hid (HV3.out.keep hb)
 have HB4:=hid (HB3.out.trans (hb.mono HB3.out.size))
 clear hwd hb HG3 HR3 HV3 HB3 HE
 have q0:=HG4.out.cell 0
 have q1:=HG4.out.cell 1
 have q2:=HG4.out.cell 2
 go_wp2_with fail
 refine (HO.out _).mono ?_
 rintro r w5 ⟨rfl,hb⟩
 clear q0 q1 q2
 have hb5:=hb.alloc hb.size (.cells (dv n m s sl bm bk E (.slice none 0 0)) 37)
 have HW5:=hid (hb_new w5 (dv n m s sl bm bk E (.slice none 0 0)) 37)
 have HZ5:=hid (World.size_alloc w5 (.cells (dv n m s sl bm bk E (.slice none 0 0)) 37))
 have HS5:=hid hb.size
 have HD5:=hid (HD4.out.keep hb5)
 have HR5:=hid (HR4.out.keep hb5)
 have HV5:=hid (HV4.out.keep hb5)
 have HB5:=hid (HB4.out.trans (hb5.mono HB4.out.size))
 have HL4:=hid (show w.heap.size+1 < w4.heap.size from HV4.out.lt)
 clear hb hb5 HG4 HR4 HV4 HB4 HO HD4 hgl
 unfold dv at HD5 HR5 HV5 HB5 HW5 HZ5 ⊢
 obtain⟨i1,hi1,hy0,hy1,hy2⟩:=info_parts Pack.u64_info
 have hown6:((w5.alloc (.cells #[.int .i64 (n:Int),.int .i64 (m:Int),.int .i64 (s:Int),.int .i64 16,.int .i64 (sl:Int),.int .i64 (bm:Int),.int .i64 (bk:Int),.int .i64 (E:Int),.slice none 0 0] 37)).alloc (.cells #[] 134)).ownsRow w.heap.size 134 1 (.slice (some ⟨w5.heap.size+1,0,none⟩) 0 0) 0 []:=by
  have h1:=HL4.out
  have h2:=HS5.out
  refine⟨by simp,.inr ⟨w5.heap.size+1,0,#[],rfl,by omega,?_,Nat.le_refl _,by unfold maxLen;omega,rfl,rfl⟩⟩
  have:=(heap_alloc (w5.alloc (.cells #[.int .i64 (n:Int),.int .i64 (m:Int),.int .i64 (s:Int),.int .i64 16,.int .i64 (sl:Int),.int .i64 (bm:Int),.int .i64 (bk:Int),.int .i64 (E:Int),.slice none 0 0] 37)) (.cells #[] 134)).1
  rw[HZ5.out] at this
  exact this
 have HO6:=hid hown6
 have hcell6:=Bm.wds_news (HD5.out.alloc (.cells #[] 134))
 have HC6:=hid hcell6
 have HR6:=hid (HR5.out.keep ((Below.refl _ _).alloc (Nat.le_refl _) (.cells #[] 134)))
 have HV6:=hid (HV5.out.keep ((Below.refl _ _).alloc (Nat.le_refl _) (.cells #[] 134)))
 have HW6:=hid (HW5.out.keep ((Below.refl _ _).alloc (Nat.le_refl _) (.cells #[] 134)))
 have HB6:=hid (HB5.out.alloc HB5.out.size (.cells #[] 134))
 have HL5:=hid (show w.heap.size+1 < w5.heap.size by have h1:=HL4.out;have h2:=HS5.out;omega)
 clear hown6 hcell6 HD5 HR5 HV5 HB5 HW5 HZ5 HL4 HS5 HL3
 go_wp2_with (at_builtin
              refine wpList_append_own_at _ rfl (.tmp 30) (.tmp 31) 35 rfl w.heap.size 134 i1 (.int .u64 0) 1 8 Tryz.underlying35 hi1 hy0 hy1 hy2 rfl (by decide) (.slice (some ⟨w5.heap.size+1,0,none⟩) 0 0) 0 [] rfl HO6.out ⟨gb,go,none⟩ 8 gc (Pack.u64s (Sup.sb n m s)) rfl (by simp[Pack.u64s,Sup.sb_len]) HC6.out (Bm.u64s_one _) (by unfold maxLen;omega) (by omega) (by simp;have:=HL5.out;omega) ?_
              intro v7 w7 hown7 hgr7 _ hat7
              obtain⟨G7,c7,rfl⟩:=Pack.row_slice hown7
              have HO7:=hid hown7
              have HR7:=hid (hb_grown HR6.out hgr7 (by simp only[Value.ownBlock,ne_eq,Option.some.injEq];have:=HL5.out;omega))
              have HV7:=hid (hb_grown HV6.out hgr7 (by simp only[Value.ownBlock,ne_eq,Option.some.injEq];have:=HL5.out;omega))
              have HW7:=hid (hb_grown HW6.out hgr7 (by simp only[Value.ownBlock,ne_eq,Option.some.injEq];omega))
              have HB7:=hid (HB6.out.grown hgr7 (by simp;have:=HL5.out;omega) (fun k hk=>by simp only[Value.ownBlock,Option.some.injEq] at hk;have:=HL5.out;omega))
              clear hown7 hgr7 hat7 HO6 HC6 HR6 HV6 HW6 HB6)
 generalize hb5:w5.heap.size=b5 at *
 have HRL:=hid (show Rl w b5 _ _ _ w7 from ⟨HR7.out,HV7.out,HW7.out,HB7.out⟩)
 have HLB:=hid HL5.out
 clear HR7 HV7 HW7 HB7 HL5 hb5
 have hpat:=HP.out.at
 have hp20:=HP.out.n20
 have HE8:=hid (show 8≤E∧E≤540 by omega)
 clear hpat hp20
 go_loopw [8,9] (fun v i wr=>∃ (t:Nat) (G:Option Addr) (gc:Nat),8≤t∧t≤E∧i = .int .i64 (t:Int)∧v = .slice G t gc∧wr.ownsRow w.heap.size 134 1 (.slice G t gc) t (Pack.u64s ((rawW n m s E ws).take t))∧Rl w b5 #[.int .u8 (x:Int),.int .u8 (y:Int),.int .u8 (k:Int),.slice A ws.length c] #[.int .i64 0,.int .i64 0,.int .i64 0,.int .i64 0,.int .i64 0,.int .i64 0,.int .i64 0,.int .i64 0,.slice none 0 0] #[.int .i64 (n:Int),.int .i64 (m:Int),.int .i64 (s:Int),.int .i64 16,.int .i64 (sl:Int),.int .i64 (bm:Int),.int .i64 (bk:Int),.int .i64 (E:Int),.slice none 0 0] wr) (fun _ i _=>E - (intOf i).toNat)
 case atStart=>exact⟨8,G7,c7,Nat.le_refl _,HE8.out.1,rfl,rfl,by rw[rawW_eight];simpa using HO7.out,HRL.out⟩
 case round=>
  obtain⟨t,G,gc',ht8,htE,rfl,rfl,hown,hrl⟩:=hrel
  have HOW:=hid hown
  have HS:=hid hrl
  clear HRL hown hrl HO7
  have v7:=HS.out.vol.cell 7
  have r3:=HS.out.raw.cell 3
  by_cases hlt:t < E
  · have HST:=hid (rawW_step (ws:=ws) HP.out ht8 hlt)
    have hxl:=rx_lt HW.out.u64 t
    have hsz:=HS.out.below.size
    have hE:=HE8.out.2
    have hi2:(t:Int) < (E:Int):=by omega
    by_cases hw0:ws.length=0
    · have hx0:rx ws t=0:=by unfold rx;rw[if_pos hw0]
      rw[hx0] at HST
      have HO:=hid (HOW.out.alloc (.cells #[.int .u64 0] 134))
      have HB:=hid (HS.out.keep ((Below.refl _ _).alloc (Nat.le_refl _) (.cells #[.int .u64 0] 134)))
      have hg0:decide (0 < ws.length)=false:=by simp[hw0]
      clear hxl hx0 hw0
      go_wp2_with (at_builtin
                   refine wpList_append_own_at _ rfl (.tmp 55) (.tmp 57) 35 rfl w.heap.size 134 i1 (.int .u64 0) 1 8 Tryz.underlying35 hi1 hy0 hy1 hy2 rfl (by decide) (.slice G t gc') t (Pack.u64s ((rawW n m s E ws).take t)) rfl HO.out ⟨wr.heap.size,0,none⟩ 1 1 [.int .u64 0] rfl rfl (cell_one_new _ _ _) (by simp[Value.oneCell']) (by unfold maxLen;omega) (by omega) (by simp;omega) ?_
                   intro v' w9 hown9 hgr9 _ hat9
                   obtain⟨G9,c9,rfl⟩:=Pack.row_slice hown9
                   have HO9:=hid hown9
                   have HB9:=hid (HB.out.grown HO.out hgr9)
                   clear hown9 hgr9 hat9)
      go_roundw
      case rel=>
       refine⟨t+1,G9,c9,by omega,by omega,by go_num,rfl,?_,HB9.out⟩
       rw[HST.out]
       unfold Pack.u64s
       rw[List.map_append]
       exact HO9.out
      case measure=>simp[intOf];omega
    · obtain⟨q,hq⟩:∃ q,q=t % ws.length:=⟨_,rfl⟩
      have hql:q < ws.length:=by rw[hq];exact Nat.mod_lt _ (by omega)
      have hx0:rx ws t=ws[q]:=by unfold rx;rw[if_neg hw0,← hq,List.getElem?_eq_getElem hql];rfl
      obtain⟨ab,ao,rfl,hab,hac⟩:=HW.out.at' q hql
      have hac:=(HS.out.below.cell (p:=⟨ab,ao+q,none⟩) hab).trans hac
      have hqi:(t:Int) % (ws.length:Int)=(q:Int):=by rw[hq];simp
      have hg0:decide (0 < ws.length)=true:=by simp;omega
      have hg1:(0:Int) < (ws.length:Int):=by omega
      have hne:((ws.length:Int) == 0)=false:=beq_eq_false_iff_ne.2 (by omega)
      have hq0:(0:Int)≤(q:Int):=by omega
      have hq1:(q:Int) < (ws.length:Int):=by omega
      rw[hx0] at HST
      generalize ws[q]=z at *
      have HO:=hid (show (wr.alloc (.cells #[.int .u64 (z:Int)] 134)).drew.ownsRow w.heap.size 134 1 (.slice G t gc') t (Pack.u64s ((rawW n m s E ws).take t)) from HOW.out.alloc (.cells #[.int .u64 (z:Int)] 134))
      have hbd:=(Below.refl wr.heap.size wr).alloc (Nat.le_refl _) (.cells #[.int .u64 (z:Int)] 134)
      have HB:=hid (HS.out.keep (show Below wr.heap.size wr (wr.alloc (.cells #[.int .u64 (z:Int)] 134)).drew from ⟨hbd.os,hbd.tape,hbd.output,hbd.size,hbd.block⟩))
      clear hbd
      clear hxl hx0 hq hw0
      go_wp2_with fail
      go_region
      go_wp2_with (at_builtin
                   refine wpList_append_own_at _ rfl (.tmp 55) (.tmp 57) 35 rfl w.heap.size 134 i1 (.int .u64 0) 1 8 Tryz.underlying35 hi1 hy0 hy1 hy2 rfl (by decide) (.slice G t gc') t (Pack.u64s ((rawW n m s E ws).take t)) rfl HO.out ⟨wr.heap.size,0,none⟩ 1 1 [.int .u64 (z:Int)] rfl rfl (show ∀ j u,_→(wr.alloc (.cells #[.int .u64 (z:Int)] 134)).drew.cell? _=some u from cell_one_new wr _ _) (by simp[Value.oneCell']) (by unfold maxLen;omega) (by omega) (by simp;omega) ?_
                   intro v' w9 hown9 hgr9 _ hat9
                   obtain⟨G9,c9,rfl⟩:=Pack.row_slice hown9
                   have HO9:=hid hown9
                   have HB9:=hid (HB.out.grown HO.out hgr9)
                   clear hown9 hgr9 hat9)
      go_roundw
      case rel=>
       refine⟨t+1,G9,c9,by omega,by omega,by go_num,rfl,?_,HB9.out⟩
       rw[HST.out]
       unfold Pack.u64s
       rw[List.map_append]
       exact HO9.out
      case measure=>simp[intOf];omega
  · obtain rfl:t=E:=by omega
    have hlen:=rawW_len (ws:=ws) HP.out
    have hE:=HE8.out.2
    rw[List.take_of_length_le (by rw[hlen];exact Nat.le_refl _)] at HOW
    obtain⟨g,gc2,hsl⟩:=Pm.row_form HOW.out (by omega)
    injection hsl with h1 h2 h3
    subst h1 h3
    have hwd:=Pack.own_wds HOW.out (rawW_u64 HP.out HW.out.u64) (by omega)
    have hcap:=Pack.row_cap HOW.out
    have hg:=Pack.row_base_lt HOW.out (g:=g) rfl
    obtain⟨g2,he2,hgl,_⟩:=Pack.own_cells HOW.out 0 (by omega)
    injection he2 with he2
    injection he2 with he2
    subst he2
    have hgb:g≠b5:=fun e=>hb_apart HS.out.vol HOW.out (by decide) (by rw[e];rfl)
    have hvf:=HS.out.vol.frozen 8
    have v8:=HS.out.vol.cell 8
    have HV:=hid (HS.out.vol.set 8 (.slice (some ⟨g,0,none⟩) t gc'))
    have hbl:=HS.out.vol.lt
    have hwd2:=wds_block (w':=wr.setCell ⟨b5,8,none⟩ (.slice (some ⟨g,0,none⟩) t gc')) hwd (Below.heap_setCell _ _ _ _ hgb)
    have HOF:=hid (fun (W:World) (e:W.heap=(wr.setCell ⟨b5,8,none⟩ (.slice (some ⟨g,0,none⟩) t gc')).heap)=>show Calls Tryz.prog 72 #[.slice (some ⟨g,0,none⟩) t gc'] W _ from by
     have hof:=of_any (w:=W) g gc' _ (wds_block hwd2 (by rw[e])) (by rw[e];simpa [World.setCell] using hgl) (by rw[hlen];exact hcap) (by rw[hlen];omega) (by rw[hlen];omega)
     rw[hlen] at hof
     exact hof)
    have HWD:=hid hwd2
    have hszz:(wr.setCell ⟨b5,8,none⟩ (.slice (some ⟨g,0,none⟩) t gc')).heap.size=wr.heap.size:=by simp[World.setCell]
    have HRS:=hid (HS.out.res.far (p:=⟨b5,8,none⟩) (by show w.heap.size+1≠b5;have:=HLB.out;omega) (.slice (some ⟨g,0,none⟩) t gc'))
    have HBL:=hid (HS.out.below.setCell (p:=⟨b5,8,none⟩) (by show w.heap.size≤b5;have:=HLB.out;omega) (.slice (some ⟨g,0,none⟩) t gc'))
    have HGS:=hid hgl
    have HGB:=hid (show w.heap.size≤g∧g≠w.heap.size+1 from ⟨hg,fun e=>hb_apart HS.out.res HOW.out (by decide) (by rw[e];rfl)⟩)
    have HCP:=hid hcap
    clear hwd2 hwd hcap hg hgl hgb hlen
    go_wp2_with fail
    generalize hW2:wr.setCell ⟨b5,8,none⟩ (.slice (some ⟨g,0,none⟩) t gc')=w2 at *
    clear hW2
    have v0:=HV.out.cell 0
    have v1:=HV.out.cell 1
    have v2:=HV.out.cell 2
    have v3:=HV.out.cell 3
    have v4:=HV.out.cell 4
    have v5:=HV.out.cell 5
    have v6:=HV.out.cell 6
    have v7':=HV.out.cell 7
    have v8':=HV.out.cell 8
    clear v7 r3 v8 hvf
    have hne1:¬ b5=w.heap.size+1:=by have:=HLB.out;omega
    have hne2:¬ w.heap.size+1=b5:=by have:=HLB.out;omega
    go_region_held3 (fun W'=>W'.cell? ⟨b5,0,none⟩=some (.int .i64 (n:Int))∧W'.cell? ⟨b5,1,none⟩=some (.int .i64 (m:Int))∧W'.cell? ⟨b5,2,none⟩=some (.int .i64 (s:Int))∧W'.cell? ⟨b5,3,none⟩=some (.int .i64 16)∧W'.cell? ⟨b5,4,none⟩=some (.int .i64 (sl:Int))∧W'.cell? ⟨b5,5,none⟩=some (.int .i64 (bm:Int))∧W'.cell? ⟨b5,6,none⟩=some (.int .i64 (bk:Int))∧W'.cell? ⟨b5,7,none⟩=some (.int .i64 (t:Int))∧W'.cell? ⟨b5,8,none⟩=some (.slice (some ⟨g,0,none⟩) t gc')) (go_keep)
     (first
     | (go_at_call 72
        with_reducible refine (HOF.out w2.drew rfl).mono ?_
        rintro r w8 ⟨a,rfl,hup,hb⟩
        have HU:=hid hup
        have HB8:=hid hb
        have hbk:=hb.size
        have HV8:=hid ((show Hb w2.drew b5 _ _ from HV.out).keep hb)
        have HR8:=hid ((show Hb w2.drew (w.heap.size+1) _ _ from HRS.out).keep hb)
        clear hup hb
        have c0:=HV8.out.cell 0
        have c1:=HV8.out.cell 1
        have c2:=HV8.out.cell 2
        have c3:=HV8.out.cell 3
        have c4:=HV8.out.cell 4
        have c5:=HV8.out.cell 5
        have c6:=HV8.out.cell 6
        have c7':=HV8.out.cell 7
        have c8:=HV8.out.cell 8
        have d0:=HR8.out.cell 0
        have d1:=HR8.out.cell 1
        have d2:=HR8.out.cell 2
        have d3:=HR8.out.cell 3
        have d4:=HR8.out.cell 4
        have d5:=HR8.out.cell 5
        have d6:=HR8.out.cell 6
        have d7:=HR8.out.cell 7
        have d8:=HR8.out.cell 8
        have f0:=HR8.out.frozen 0
        have f1:=HR8.out.frozen 1
        have f2:=HR8.out.frozen 2
        have f3:=HR8.out.frozen 3
        have f4:=HR8.out.frozen 4
        have f5:=HR8.out.frozen 5
        have f6:=HR8.out.frozen 6
        have f7:=HR8.out.frozen 7
        have f8:=HR8.out.frozen 8
        have hvl:=HV8.out.lt
        have hrl:=HR8.out.lt))
    go_wp2
    have hdr:w2.drew.heap.size=w2.heap.size:=rfl
    have hq1:w.heap.size+1 < w2.drew.heap.size:=by rw[hdr];have:=HRS.out.lt;omega
    have hg1:=HGB.out
    have hg2:=HGS.out
    refine bodyPost_ret (v:=.tuple #[.pointer (some ⟨a,0,none⟩),.agg (dv n m s sl bm bk t (.slice (some ⟨g,0,none⟩) t gc'))]) ?_ rfl ⟨a,g,gc',w2.drew.heap.size,rfl,by omega,⟨hg1.1,by omega⟩,?_,HCP.out,?_,?_,?_⟩
    · unfold dv
      simp[results,Tryz.results35,go_sem,d0,d1,d2,d3,d4,d5,d6,d7,d8]
    · simpa [World.setCell] using hbk
    · iterate 9 refine Upf.put ?_ hq1 _
      exact HU.out
    · iterate 9 refine wds_block ?_ (Below.heap_setCell _ _ _ _ hg1.2)
      exact HWD.out.keep (show Below w2.heap.size w2 w8 from ⟨HB8.out.os,HB8.out.tape,HB8.out.output,HB8.out.size,HB8.out.block⟩)
    · iterate 9 refine Below.setCell ?_ (Nat.le_succ _) _
      exact HBL.out.trans ((show Below w2.heap.size w2 w8 from ⟨HB8.out.os,HB8.out.tape,HB8.out.output,HB8.out.size,HB8.out.block⟩).mono HBL.out.size)
end
end Vol
end Go.Proofs.YtdafimdfbnphaaaGreatDoor
/- Texts. -/
/- Texts. -/
namespace Go.Proofs.YtdafimdfbnphaaaGreatDoor
open Go.RowKit Go.MapKept
namespace Lin
section
variable {P : Program} {ops : Array Oper} {Q : Exit → Act → World → Prop} {md : Region.Mode} {S : World → Prop}
theorem take_yes (i d:Nat) (v:Value) {oi:Oper} {fuel:Nat} {listed:Array Bool} {a:Act} {w:World} (hi:ops[i]? = some oi) (hd:oi.dst=some d)
 (hs:Region.noSelect ops=true) (hf:Region.free md ops listed i=true) (hr:(Region.ready md ops listed).contains i=true)
 (hQ:∀ c a w,Q (.panic c) (Act.put a (some d) v) w→Q (.panic c) a w) (hw:Region.wanted oi (yielded ops a.tmps)=true) (hy:∀ w,S w→(execOp a.eval oi).run P w = .ok (.value v) w) (hS:S w)
 (h:wpAnyH P md ops Q S fuel (listed.setIfInBounds i true) (a.put (some d) v) w):wpAnyH P md ops Q S (fuel+1) listed a w:=
 wpAnyH_take hi hs hf hr (by rw[hd];exact hQ) (Or.inl ⟨hw,hy⟩) hS (by rw[hd];exact h)
theorem take_no (i d:Nat) {oi:Oper} {fuel:Nat} {listed:Array Bool} {a:Act} {w:World} (hi:ops[i]? = some oi) (hd:oi.dst=some d)
 (hs:Region.noSelect ops=true) (hf:Region.free md ops listed i=true) (hr:(Region.ready md ops listed).contains i=true)
 (hQ:∀ c a w,Q (.panic c) (Act.put a (some d) undef) w→Q (.panic c) a w) (hw:Region.wanted oi (yielded ops a.tmps)=false) (hS:S w)
 (h:wpAnyH P md ops Q S fuel (listed.setIfInBounds i true) (a.put (some d) undef) w):wpAnyH P md ops Q S (fuel+1) listed a w:=
 wpAnyH_take hi hs hf hr (by rw[hd];exact hQ) (Or.inr ⟨hw,rfl⟩) hS (by rw[hd];exact h)
end
structure Box (w:World) (b:Nat) (n m s:Int):Prop where
 lt:b < w.heap.size
 c0:w.cell? ⟨b,0,none⟩=some (.int .i64 n)
 c1:w.cell? ⟨b,1,none⟩=some (.int .i64 m)
 c2:w.cell? ⟨b,2,none⟩=some (.int .i64 s)
theorem Box.keep {w w':World} {b:Nat} {n m s:Int} (h:Box w b n m s) (hb:Below w.heap.size w w'):Box w' b n m s:=
 ⟨Nat.lt_of_lt_of_le h.lt hb.size,(hb.cell (p:=⟨b,0,none⟩) h.lt).trans h.c0,(hb.cell (p:=⟨b,1,none⟩) h.lt).trans h.c1,(hb.cell (p:=⟨b,2,none⟩) h.lt).trans h.c2⟩
theorem Box.drew {w:World} {b:Nat} {n m s:Int} (h:Box w b n m s):Box w.drew b n m s:=⟨h.lt,h.c0,h.c1,h.c2⟩
theorem Box.drewN {w:World} {b:Nat} {n m s:Int} (h:Box w b n m s) (k:Nat):Box (w.drewN k) b n m s:=⟨h.lt,h.c0,h.c1,h.c2⟩
theorem boxed (w:World) (n m s:Int) (t:TypeId):Box (w.alloc (.cells #[.int .i64 n,.int .i64 m,.int .i64 s] t)) w.heap.size n m s:=
 ⟨by simp,World.cell?_alloc_mark w _ t _ 0,World.cell?_alloc_mark w _ t _ 1,World.cell?_alloc_mark w _ t _ 2⟩
theorem boxed_at {w:World} {k:Nat} (hk:w.heap.size=k) (n m s:Int) (t:TypeId):Box (w.alloc (.cells #[.int .i64 n,.int .i64 m,.int .i64 s] t)) k n m s:=by
 subst hk
 exact boxed w n m s t
structure Own (w:World) (b:Nat) (n m s:Int):Prop where
 box:Box w b n m s
 f:∀ o,w.frozen? ⟨b,o,none⟩=false
theorem Own.keep {w w':World} {b:Nat} {n m s:Int} (h:Own w b n m s) (hb:Below w.heap.size w w'):Own w' b n m s:=
 ⟨h.box.keep hb,fun o=>(hb.frozen (p:=⟨b,o,none⟩) h.box.lt).trans (h.f o)⟩
theorem Own.drew {w:World} {b:Nat} {n m s:Int} (h:Own w b n m s):Own w.drew b n m s:=⟨h.box.drew,h.f⟩
theorem Own.drewN {w:World} {b:Nat} {n m s:Int} (h:Own w b n m s) (k:Nat):Own (w.drewN k) b n m s:=⟨h.box.drewN k,h.f⟩
theorem owned (w:World) (n m s:Int) (t:TypeId):Own (w.alloc (.cells #[.int .i64 n,.int .i64 m,.int .i64 s] t)) w.heap.size n m s:=
 ⟨boxed w n m s t,fun o=>(World.rowIs_alloc w #[.int .i64 n,.int .i64 m,.int .i64 s] t (fun i=>if i=0 then .int .i64 n else if i=1 then .int .i64 m else .int .i64 s) (fun i hi=>by
   have:i < 3:=hi
   match i,this with
   | 0,_=>rfl
   | 1,_=>rfl
   | 2,_=>rfl)).frozen o⟩
def rowOf (l:List Nat) (i:Nat):Value:=.int .u64 ((l[i]?.getD 0:Nat):Int)
theorem row_keep {w w':World} {g:Nat} {l:List Nat} (h:w.rowIs g 134 8 (rowOf l)) (hb:Below w.heap.size w w'):w'.rowIs g 134 8 (rowOf l):=h.of_block (hb.block _ h.lt)
theorem cell_set_other {w:World} {p q:Addr} (h:p.block≠q.block) (v:Value):(w.setCell q v).cell? p=w.cell? p:=World.cell?_of_block (w:=w) (Below.heap_setCell w q v p.block h)
theorem row_crc {w:World} {g:Nat} {l k:List Nat} (h:w.rowIs g 134 8 (rowOf l)) (hk:k.length≤8) (hu:∀ x∈k,x < 18446744073709551616) (e:∀ j (h:j < k.length),l[j]?.getD 0=k[j]):Crc.Wds w (some ⟨g,0,none⟩) k:=
 ⟨hu,by omega,fun j hj=>⟨g,0,rfl,h.lt,by
   rw[Nat.zero_add,h.cell (by omega)]
   unfold rowOf
   rw[e j hj]⟩⟩
theorem row_pack {w:World} {g:Nat} {l:List Nat} (h:w.rowIs g 134 8 (rowOf l)) (hk:l.length=8) (hu:∀ x∈l,x < 18446744073709551616):Pack.Wds w (some ⟨g,0,none⟩) l:=
 ⟨hu,by omega,fun j hj=>⟨g,0,rfl,h.lt,by
   rw[Nat.zero_add,h.cell (by omega)]
   unfold rowOf
   rw[List.getElem?_eq_getElem hj]
   rfl⟩⟩
theorem row_made (w:World):(w.alloc (.cells (madeCells #[.int .u64 0] 8) 134)).rowIs w.heap.size 134 8 (rowOf []):=(World.rowIs_made w (.int .u64 0) 8 134).congr (fun i _=>by simp[rowOf])
theorem row_zero {w:World} {g:Nat} (h:w.rowIs g 134 8 (rowOf [])):w.rowIs g 134 8 (rowOf [0,0,0,0,0,0,0,0]):=h.congr (fun i hi=>by
 have:i=0∨i=1∨i=2∨i=3∨i=4∨i=5∨i=6∨i=7:=by omega
 rcases this with rfl | rfl | rfl | rfl | rfl | rfl | rfl | rfl<;>rfl)
structure En (w0:World) (N b g:Nat) (n m s:Int) (l:List Nat) (w:World):Prop where
 box:Box w b n m s
 row:w.rowIs g 134 8 (rowOf l)
 bg:b≠g
 below:Below N w0 w
 nN:N≤g
theorem En.keep {w0 w w':World} {N b g:Nat} {n m s:Int} {l:List Nat} (h:En w0 N b g n m s l w) (hb:Below w.heap.size w w') (hN:N≤w.heap.size):En w0 N b g n m s l w':=
 ⟨h.box.keep hb,h.row.of_block (hb.block _ h.row.lt),h.bg,h.below.trans (hb.mono hN),h.nN⟩
theorem En.drew {w0 w:World} {N b g:Nat} {n m s:Int} {l:List Nat} (h:En w0 N b g n m s l w):En w0 N b g n m s l w.drew:=
 ⟨h.box.drew,h.row.drew,h.bg,h.below.drew,h.nN⟩
theorem En.set {w0 w:World} {N b g:Nat} {n m s:Int} {l l':List Nat} (h:En w0 N b g n m s l w) (i x:Nat) (e:∀ j,j < 8→(if j=i then x else l[j]?.getD 0)=l'[j]?.getD 0):En w0 N b g n m s l' (w.setCell ⟨g,i,none⟩ (.int .u64 (x:Int))):=
 ⟨⟨by simpa using h.box.lt,(cell_set_other h.bg _).trans h.box.c0,(cell_set_other h.bg _).trans h.box.c1,(cell_set_other h.bg _).trans h.box.c2⟩,
  (h.row.set i (.int .u64 (x:Int))).congr (fun j hj=>by
   have:=e j hj
   unfold rowOf
   rw[← this]
   split<;>rfl),h.bg,h.below.setCell h.nN _,h.nN⟩
theorem wpList_append_run {P:Program} {w w':World} {ops:Array Oper} {rest:List Oper} {o:Oper} {a:Act} {Q:Exit→Act→World→Prop} (hgd:o.guard=none) (s x:Operand) (t:TypeId)
 (ho:o.op = .call { callee:=.builtin .append,args:=#[s,x],argTypes:=#[t,t] }) (v u v':Value) (hs:a.eval s=v) (hx:a.eval x=u) (hr:(Builtin.append_ #[t,t] o.type #[v,u]).run P w = .ok v' w')
 (h:wpList P ops Q rest (a.put o.dst v') w'):wpList P ops Q (o :: rest) a w:=by
 refine wpList_plain hgd fun K hK=>?_
 unfold Oper.wp execOp
 simp only[ho,resolve,invoke,builtin,Sem.run_bind,Sem.run_pure,Result.andThen_ok,List.map_toArray,List.map_cons,List.map_nil,hs,hx,hr]
 exact hK _ _ h
set_option maxRecDepth 100000 in
theorem grow8 (W:World) (g:Nat) (l:List Nat) (y:Nat) (hl:l.length=7) (h:Crc.Wds W (some ⟨g,0,none⟩) l) (hu:∀ x∈l++[y],x < 18446744073709551616) :
 ∃ (G:Option Addr) (gc:Nat) (w':World),(Builtin.append_ #[35,35] 35 #[.slice (some ⟨g,0,none⟩) 7 7,.slice (some ⟨W.heap.size,0,none⟩) 1 1]).run Tryz.prog (W.alloc (.cells #[.int .u64 (y:Int)] 134)) = .ok (.slice G 8 gc) w'∧Pack.Wds w' G (l++[y])∧Below W.heap.size W w':=by
 obtain⟨i1,hi1,hy⟩:=Option.map_eq_some_iff.1 Pack.u64_info
 injection hy with hy0 hy
 injection hy with hy1 hy2
 have hb:=(Below.refl W.heap.size W).alloc (Nat.le_refl _) (.cells #[.int .u64 (y:Int)] 134)
 have h7:Crc.Wds (W.alloc (.cells #[.int .u64 (y:Int)] 134)) (some ⟨g,0,none⟩) l:=h.keep hb
 obtain⟨v',w',hr,hown,hgr⟩:=run_append_arg_grows (P:=Tryz.prog) (W.alloc (.cells #[.int .u64 (y:Int)] 134)) 35 35 134 i1 (.int .u64 0) 1 8 Tryz.underlying35 hi1 hy0 hy1 hy2 rfl (by decide)
  ⟨g,0,none⟩ 7 7 (Pack.u64s l) (by unfold Pack.u64s;rw[List.length_map,hl]) (fun j u hj=>by
    unfold Pack.u64s at hj
    rw[List.getElem?_map] at hj
    rcases Nat.lt_or_ge j l.length with h1 | h1
    · obtain⟨b,o,e,_,hc⟩:=h7.at' j h1
      injection e with e
      injection e with e1 e2
      subst e1 e2
      rw[List.getElem?_eq_getElem h1] at hj
      rw[Go.WideShapes.add_plain,hc,← hj]
      rfl
    · rw[List.getElem?_eq_none h1] at hj
      cases hj)
  ⟨W.heap.size,0,none⟩ 1 1 [.int .u64 (y:Int)] rfl (cell_one_new _ _ _) (by decide) (by decide) (by decide)
 obtain⟨G,gc,rfl⟩:=Pack.row_slice hown
 refine⟨G,gc,w',hr,?_,hb.grown hgr hb.size (fun k hk=>by cases hk)⟩
 have e:Pack.u64s l++[Value.int .u64 (y:Int)]=Pack.u64s (l++[y]):=by unfold Pack.u64s;simp
 rw[e] at hown
 exact Pack.own_wds (l:=l++[y]) hown hu (by decide)
theorem fds_two (w:World) {n m:Nat} (hn:n < 65536) (hm:m < 65536):Pack.Fds (w.alloc (.cells #[.int .i64 16,.int .u64 (n:Int),.int .i64 16,.int .u64 (m:Int)] 276)) (some ⟨w.heap.size,0,none⟩) [⟨16,n⟩,⟨16,m⟩]:=
 ⟨fun f hf=>by
   simp only[List.mem_cons,List.not_mem_nil,or_false] at hf
   rcases hf with rfl | rfl<;>exact⟨by simp only;omega,by simp only;omega,by simp only;omega⟩,by simp,fun j hj=>by
   have:j < 2:=hj
   match j,this with
   | 0,_=>exact⟨w.heap.size,0,rfl,by simp,Pack.alloc_cell _ _ _ _,Pack.alloc_cell _ _ _ _⟩
   | 1,_=>exact⟨w.heap.size,0,rfl,by simp,Pack.alloc_cell _ _ _ _,Pack.alloc_cell _ _ _ _⟩⟩
theorem nts_two (w:World):Pack.Nts (w.alloc (.cells #[.int .i64 16,.int .i64 16] 3)) (some ⟨w.heap.size,0,none⟩) [16,16]:=
 ⟨fun f hf=>by
   obtain rfl:f=16:=by simpa using hf
   exact⟨by decide,by decide⟩,by decide,fun j hj=>by
   have:j < 2:=hj
   match j,this with
   | 0,_=>exact⟨w.heap.size,0,rfl,by simp,Pack.alloc_cell _ _ _ _⟩
   | 1,_=>exact⟨w.heap.size,0,rfl,by simp,Pack.alloc_cell _ _ _ _⟩⟩
theorem s32_lt (l:List Nat):Crc.S32 l < 4294967296:=by
 unfold Crc.S32
 omega
end Lin
end Go.Proofs.YtdafimdfbnphaaaGreatDoor
/- Texts. -/
namespace Go.Proofs.YtdafimdfbnphaaaGreatDoor
open Go.RowKit Go.MapKept
namespace Slo
open Lin
def May (s c n:Int):Prop:=(0≤s∧s≤65533)∧(1≤c∧c≤65534 - s)∧(-1≤n∧n≤65533)
instance (s c n:Int):Decidable (May s c n):=by unfold May;infer_instance
def may (s c n:Int):Bool:=decide (May s c n)
theorem may_iff {s c n:Int}:may s c n=true↔May s c n:=decide_eq_true_iff
def nx (q:Nat):Int:=if q=65535 then -1 else (q:Int)
theorem nx_none:nx 65535 = -1:=rfl
theorem nx_some {q:Nat} (h:q≠65535):nx q=(q:Int):=if_neg h
def nums (s c q:Nat):Nat:=s+65536 * c+4294967296 * q
def six (x:Nat):List Nat:=(Crc.wb x).take 6
def sum (s c q:Nat):Nat:=Crc.S16 (six (nums s c q))
def wd (s c q:Nat):Nat:=nums s c q+281474976710656 * sum s c q
theorem six_len (x:Nat):(six x).length=6:=by
 unfold six
 rw[List.length_take,Crc.wb_len]
 rfl
theorem six_byt (x:Nat):Crc.Byt (six x):=(Crc.wb_byt x).take 6
theorem nums_lt {s c q:Nat} (hs:s < 65536) (hc:c < 65536) (hq:q < 65536):nums s c q < 281474976710656:=by unfold nums;omega
theorem s16_lt (l:List Nat):Crc.S16 l < 65536:=by
 unfold Crc.S16
 exact Crc.rev_lt 16 _
theorem sum_lt (s c q:Nat):sum s c q < 65536:=s16_lt _
theorem wd_lt {s c q:Nat} (hs:s < 65536) (hc:c < 65536) (hq:q < 65536):wd s c q < 18446744073709551616:=by
 have h1:=nums_lt hs hc hq
 have h2:=sum_lt s c q
 unfold wd
 omega
theorem wd_s {s c q:Nat} (hs:s < 65536) (_hc:c < 65536) (_hq:q < 65536):wd s c q % 65536=s:=by
 unfold wd nums
 omega
theorem wd_c {s c q:Nat} (hs:s < 65536) (hc:c < 65536) (_hq:q < 65536):wd s c q / 65536 % 65536=c:=by
 unfold wd nums
 omega
theorem wd_q {s c q:Nat} (hs:s < 65536) (hc:c < 65536) (hq:q < 65536):wd s c q / 4294967296 % 65536=q:=by
 unfold wd nums
 omega
theorem may_lt {s c q:Nat} (h:may s c (nx q)=true):s≤65533∧1≤c∧c+s≤65534∧q < 65536:=by
 have h:=may_iff.1 h
 unfold May nx at h
 split at h<;>omega
theorem pk_three {s c q:Nat} (hs:s < 65536) (hc:c < 65536) (hq:q < 65536):Pack.pk 0 0 [⟨16,s⟩,⟨16,c⟩,⟨16,q⟩]=some (nums s c q,48):=by
 unfold nums
 simp[Pack.pk,hs,hc,hq]
 omega
theorem pk_four {s c q m:Nat} (hs:s < 65536) (hc:c < 65536) (hq:q < 65536) (hm:m < 65536):Pack.pk 0 0 [⟨16,s⟩,⟨16,c⟩,⟨16,q⟩,⟨16,m⟩]=some (nums s c q+281474976710656 * m,64):=by
 unfold nums
 simp[Pack.pk,hs,hc,hq,hm]
 omega
theorem split_four {x:Nat} (h:x < 18446744073709551616):Pack.split x [16,16,16,16]=some [x % 65536,x / 65536 % 65536,x / 4294967296 % 65536,x / 281474976710656]:=by
 have ht:Pack.tot 0 [16,16,16,16]=some 64:=by decide
 unfold Pack.split
 rw[ht]
 have e:(2:Nat) ^ 64=18446744073709551616:=rfl
 simp only[e]
 have h0:x / 18446744073709551616=0:=by omega
 rw[if_pos h0]
 simp only[Pack.sp]
 have e16:(2:Nat) ^ (16:Int).toNat=65536:=by decide
 simp only[e16]
 have e1:x / 65536 / 65536=x / 4294967296:=by rw[Nat.div_div_eq_div_mul]
 have e2:x / 4294967296 / 65536=x / 281474976710656:=by rw[Nat.div_div_eq_div_mul]
 rw[e1,e2]
 have e3:x / 281474976710656 % 65536=x / 281474976710656:=by omega
 rw[e3]
def dec (x:Nat):Option (Nat × Nat × Nat):=
 let s:Nat:=x % 65536
 let c:Nat:=x / 65536 % 65536
 let q:Nat:=x / 4294967296 % 65536
 if may s c (nx q)=true∧x=wd s c q then some (s,c,q) else none
theorem dec_wd {s c q:Nat} (h:may s c (nx q)=true):dec (wd s c q)=some (s,c,q):=by
 obtain⟨h1,h2,h3,h4⟩:=may_lt h
 unfold dec
 simp only[wd_s (show s < 65536 by omega) (show c < 65536 by omega) h4,wd_c (show s < 65536 by omega) (show c < 65536 by omega) h4,wd_q (show s < 65536 by omega) (show c < 65536 by omega) h4]
 exact if_pos ⟨h,trivial⟩
theorem dec_some {x s c q:Nat} (h:dec x=some (s,c,q)):may s c (nx q)=true∧x=wd s c q:=by
 unfold dec at h
 simp only at h
 split at h
 · rename_i hc
   injection h with h
   injection h with h1 h2
   injection h2 with h2 h3
   subst h1 h2 h3
   exact hc
 · cases h
end Slo
end Go.Proofs.YtdafimdfbnphaaaGreatDoor
/- Texts. -/
namespace Go.Proofs.YtdafimdfbnphaaaGreatDoor
open Lib (hid)
open Go.RowKit Go.MapKept
namespace Slo
open Lin
theorem within_any (w:World) (n a b:Int) :
 Calls Tryz.prog 186 #[.int .i64 n,.int .i64 a,.int .i64 b] w fun e w'=>e = .returned (.bool (decide (a≤n∧n≤b)))∧w=w':=by
 go_enter Tryz.func186,Tryz.ntmps186
 go_wp2
 · rename_i h
   go_ret
   exact⟨by simp[h],rfl⟩
 · rename_i h
   go_ret
   refine⟨?_,rfl⟩
   have:¬ a≤n:=by omega
   simp[this]
theorem toField_any (w:World) (n:Int) (q:Nat) (hn:n=nx q) (hq:q < 65536) :
 Calls Tryz.prog 214 #[.int .i64 n] w fun e w'=>e = .returned (.int .i64 (q:Int))∧w=w':=by
 by_cases h:q=65535
 · subst h
   rw[nx_none] at hn
   subst hn
   go_enter Tryz.func214,Tryz.ntmps214
   go_wp2
   go_ret
   exact⟨rfl,rfl⟩
 · rw[nx_some h] at hn
   subst hn
   have h1:¬ (q:Int) = -1:=by omega
   go_enter Tryz.func214,Tryz.ntmps214
   go_wp2
   go_ret
   exact⟨rfl,rfl⟩
theorem toNext_any (w:World) (q:Nat) :
 Calls Tryz.prog 219 #[.int .i64 (q:Int)] w fun e w'=>e = .returned (.int .i64 (nx q))∧w=w':=by
 by_cases h:q=65535
 · subst h
   rw[nx_none]
   go_enter Tryz.func219,Tryz.ntmps219
   go_wp2
   go_ret
   exact⟨rfl,rfl⟩
 · rw[nx_some h]
   have h1:¬ (q:Int)=65535:=by omega
   go_enter Tryz.func219,Tryz.ntmps219
   go_wp2
   go_ret
   exact⟨rfl,rfl⟩
theorem field_any (w:World) (n:Nat) (h:n < 65536) :
 Calls Tryz.prog 213 #[.int .i64 (n:Int)] w fun r w'=>r = .returned (.agg #[.int .i64 16,.int .u64 (n:Int)])∧Below w.heap.size w w':=by
 go_enter Tryz.func213,Tryz.ntmps213
 go_wp2
 refine bodyPost_ret (v:=.agg #[.int .i64 16,.int .u64 (n:Int)]) ?_ rfl ⟨rfl,?_⟩
 · simp[results,Tryz.results213,go_sem]
 · first
   | exact (Below.refl _ _).alloc (Nat.le_refl _) _
   | exact (((Below.refl _ _).alloc (Nat.le_refl _) _).setCell (by simp) _).setCell (by simp) _
set_option maxHeartbeats 1000000 in
theorem may_any (w:World) (s c n:Int) :
 Calls Tryz.prog 142 #[.agg #[.int .i64 s,.int .i64 c,.int .i64 n]] w fun r w'=>r = .returned (.bool (may s c n))∧Below w.heap.size w w':=by
 have HB:=hid ((Below.refl w.heap.size w).alloc (Nat.le_refl _) (.cells #[.int .i64 s,.int .i64 c,.int .i64 n] 170))
 have HS:=hid (fun w=>within_any w s 0 65533)
 have HN:=hid (fun w=>within_any w n (-1) 65533)
 by_cases h1:0≤s∧s≤65533
 · have h11:=h1.1
   have h12:=h1.2
   have HC:=hid (fun w=>within_any w c 1 (65534 - s))
   by_cases h2:1≤c∧c≤65534 - s
   · have HE:=hid (show may s c n=decide (-1≤n∧n≤65533) by
      rw[Bool.eq_iff_iff,decide_eq_true_iff]
      exact⟨fun h=>(may_iff.1 h).2.2,fun h=>may_iff.2 ⟨h1,h2,h⟩⟩)
     have H1:=hid (decide_eq_true h1)
     have H2:=hid (decide_eq_true h2)
     clear h1 h2
     go_enter Tryz.func142,Tryz.ntmps142
     go_wp2_with fail
     refine (HS.out _).mono ?_
     rintro e w' ⟨rfl,rfl⟩
     rw[H1.out]
     go_wp2_with fail
     refine (HC.out _).mono ?_
     rintro e w' ⟨rfl,rfl⟩
     rw[H2.out]
     go_wp2_with fail
     refine (HN.out _).mono ?_
     rintro e w' ⟨rfl,rfl⟩
     rw[← HE.out]
     go_wp2
     go_ret
     exact⟨rfl,HB.out⟩
   · have HE:=hid (show may s c n=false by unfold may May;exact decide_eq_false (fun h=>h2 h.2.1))
     have H1:=hid (decide_eq_true h1)
     have H2:=hid (decide_eq_false h2)
     clear h1 h2
     go_enter Tryz.func142,Tryz.ntmps142
     go_wp2_with fail
     refine (HS.out _).mono ?_
     rintro e w' ⟨rfl,rfl⟩
     rw[H1.out]
     go_wp2_with fail
     refine (HC.out _).mono ?_
     rintro e w' ⟨rfl,rfl⟩
     rw[H2.out]
     go_wp2
     go_ret
     exact⟨by rw[HE.out];rfl,HB.out⟩
 · have HE:=hid (show may s c n=false by unfold may May;exact decide_eq_false (fun h=>h1 h.1))
   have H1:=hid (decide_eq_false h1)
   clear h1
   go_enter Tryz.func142,Tryz.ntmps142
   go_wp2_with fail
   refine (HS.out _).mono ?_
   rintro e w' ⟨rfl,rfl⟩
   rw[H1.out]
   go_wp2
   go_ret
   exact⟨by rw[HE.out];rfl,HB.out⟩
def fin (s c n:Int):Int:=if may s c n=true then s+c else 0
end Slo
end Go.Proofs.YtdafimdfbnphaaaGreatDoor
/- Texts. -/
namespace Go.Proofs.YtdafimdfbnphaaaGreatDoor
open Lib (hid)
open Go.RowKit Go.MapKept
namespace Lin
section
variable {P : Program} {ops : Array Oper} {Q : Exit → Act → World → Prop} {md : Region.Mode} {S : World → Prop}
theorem any_states {σ:Type} (L:σ→Array Bool) (n:σ→Nat) (rdy:σ→List Nat) (I:σ→Act→World→Prop) (m:Nat)
 (ready:∀ s a w,I s a w→n s≠0→Region.ready md ops (L s)=rdy s∧rdy s≠[])
 (step:∀ s a w,I s a w→n s≠0→∀ i∈rdy s,wpOp P ops Q i (fun a' w'=>∃ s',L s'=(L s).setIfInBounds i true∧n s=n s'+1∧S w'∧I s' a' w') a w)
 (last:∀ s a w,I s a w→n s=0→wpAnyH P md ops Q S m (L s) a w) :
 ∀ k s a w,n s=k→I s a w→wpAnyH P md ops Q S (k+m) (L s) a w:=by
 intro k
 induction k with
 | zero=>
   intro s a w hn hI
   rw[Nat.zero_add]
   exact last s a w hI hn
 | succ k ih=>
   intro s a w hn hI
   have h0:n s≠0:=by omega
   obtain⟨hr,hne⟩:=ready s a w hI h0
   rw[show k+1+m=(k+m)+1 by omega]
   refine wpAnyH_all hr hne (fun i hi=>wpOp_mono (fun a' w' h=>?_) (step s a w hI h0 i hi))
   obtain⟨s',hL,hn',hS,hI'⟩:=h
   exact⟨hS,hL ▸ ih s' a' w' (by omega) hI'⟩
theorem op_step {i:Nat} {o:Oper} {K:Act→World→Prop} {a:Act} {w:World} (ho:ops[i]? = some o)
 (h:∀ K':Act→World→Prop,Hid (∀ a w,K a w→K' a w)→if Region.wanted o (yielded ops a.tmps)=true then Oper.wp P o a w K' Q else K' (a.put o.dst undef) w):wpOp P ops Q i K a w:=
 wpOp_step ho (fun K' hK=>h K' (hid hK))
end
structure Fw (w:World) (b:Nat) (n:Int) (v:Nat):Prop where
 lt:b < w.heap.size
 c0:w.cell? ⟨b,0,none⟩=some (.int .i64 n)
 c1:w.cell? ⟨b,1,none⟩=some (.int .u64 (v:Int))
 f:∀ o,w.frozen? ⟨b,o,none⟩=false
theorem Fw.keep {w w':World} {b v:Nat} {n:Int} (h:Fw w b n v) (hb:Below w.heap.size w w'):Fw w' b n v:=
 ⟨Nat.lt_of_lt_of_le h.lt hb.size,(hb.cell (p:=⟨b,0,none⟩) h.lt).trans h.c0,(hb.cell (p:=⟨b,1,none⟩) h.lt).trans h.c1,fun o=>(hb.frozen (p:=⟨b,o,none⟩) h.lt).trans (h.f o)⟩
theorem Fw.drew {w:World} {b v:Nat} {n:Int} (h:Fw w b n v):Fw w.drew b n v:=⟨h.lt,h.c0,h.c1,h.f⟩
theorem fw_new (w:World) (n:Int) (v:Nat) (t:TypeId):Fw (w.alloc (.cells #[.int .i64 n,.int .u64 (v:Int)] t)) w.heap.size n v:=
 ⟨by simp,World.cell?_alloc_mark w _ t _ 0,World.cell?_alloc_mark w _ t _ 1,fun o=>(World.rowIs_alloc w #[.int .i64 n,.int .u64 (v:Int)] t (fun i=>if i=0 then .int .i64 n else .int .u64 (v:Int)) (fun i hi=>by
   have:i < 2:=hi
   match i,this with
   | 0,_=>rfl
   | 1,_=>rfl)).frozen o⟩
theorem Fw.set {w:World} {b v:Nat} {n:Int} (h:Fw w b n v) (m:Int) (u:Nat):Fw ((w.setCell ⟨b,0,none⟩ (.int .i64 m)).setCell ⟨b,1,none⟩ (.int .u64 (u:Int))) b m u:=
 ⟨by simpa using h.lt,by rw[World.cell?_setCell_other _ _ _ _ (by simp)];exact World.cell?_setCell_same _ _ _ h.c0,World.cell?_setCell_same _ _ _ ((World.cell?_setCell_other _ _ _ _ (by simp)).trans h.c1),fun o=>by rw[World.frozen?_setCell,World.frozen?_setCell];exact h.f o⟩
theorem Fw.other {w:World} {b v d:Nat} {n:Int} (h:Fw w b n v) (hd:b≠d) (x y:Value):Fw ((w.setCell ⟨d,0,none⟩ x).setCell ⟨d,1,none⟩ y) b n v:=
 ⟨by simpa using h.lt,(cell_set_other hd _).trans ((cell_set_other hd _).trans h.c0),(cell_set_other hd _).trans ((cell_set_other hd _).trans h.c1),fun o=>by rw[World.frozen?_setCell,World.frozen?_setCell];exact h.f o⟩
theorem Box.other {w:World} {b d:Nat} {n m s:Int} (h:Box w b n m s) (hd:b≠d) (x y:Value):Box ((w.setCell ⟨d,0,none⟩ x).setCell ⟨d,1,none⟩ y) b n m s:=
 ⟨by simpa using h.lt,(cell_set_other hd _).trans ((cell_set_other hd _).trans h.c0),(cell_set_other hd _).trans ((cell_set_other hd _).trans h.c1),(cell_set_other hd _).trans ((cell_set_other hd _).trans h.c2)⟩
end Lin
end Go.Proofs.YtdafimdfbnphaaaGreatDoor
/- Texts. -/
namespace Go.Proofs.YtdafimdfbnphaaaGreatDoor
open Lib (hid)
open Go.RowKit Go.MapKept
namespace Slo
open Lin
theorem encode_no (w:World) (s c n:Int) (hm:may s c n=false) :
 Calls Tryz.prog 167 #[.agg #[.int .i64 s,.int .i64 c,.int .i64 n]] w fun r w'=>r = .returned (.tuple #[.int .u64 0,.int .i64 1])∧Below w.heap.size w w':=by
 have HM:=hid (fun w=>may_any w s c n)
 have HE:=hid hm
 clear hm
 have HB:=hid ((Below.refl w.heap.size w).alloc (Nat.le_refl _) (.cells #[.int .i64 s,.int .i64 c,.int .i64 n] 170))
 go_enter Tryz.func167,Tryz.ntmps167
 go_wp2_with fail
 refine (HM.out _).mono ?_
 rintro e w' ⟨rfl,hb⟩
 rw[HE.out]
 have HB1:=hid (HB.out.trans (hb.mono HB.out.size))
 clear hb
 go_wp2
 go_ret2
 exact⟨rfl,HB1.out⟩
theorem fds_three (w:World) {n m q:Nat} (hn:n < 65536) (hm:m < 65536) (hq:q < 65536):Pack.Fds (w.alloc (.cells #[.int .i64 16,.int .u64 (n:Int),.int .i64 16,.int .u64 (m:Int),.int .i64 16,.int .u64 (q:Int)] 276)) (some ⟨w.heap.size,0,none⟩) [⟨16,n⟩,⟨16,m⟩,⟨16,q⟩]:=
 ⟨fun f hf=>by
   simp only[List.mem_cons,List.not_mem_nil,or_false] at hf
   rcases hf with rfl | rfl | rfl<;>exact⟨by simp only;omega,by simp only;omega,by simp only;omega⟩,by simp,fun j hj=>by
   have:j < 3:=hj
   match j,this with
   | 0,_=>exact⟨w.heap.size,0,rfl,by simp,Pack.alloc_cell _ _ _ _,Pack.alloc_cell _ _ _ _⟩
   | 1,_=>exact⟨w.heap.size,0,rfl,by simp,Pack.alloc_cell _ _ _ _,Pack.alloc_cell _ _ _ _⟩
   | 2,_=>exact⟨w.heap.size,0,rfl,by simp,Pack.alloc_cell _ _ _ _,Pack.alloc_cell _ _ _ _⟩⟩
theorem fds_four (w:World) {n m q s:Nat} (hn:n < 65536) (hm:m < 65536) (hq:q < 65536) (hs:s < 65536):Pack.Fds (w.alloc (.cells #[.int .i64 16,.int .u64 (n:Int),.int .i64 16,.int .u64 (m:Int),.int .i64 16,.int .u64 (q:Int),.int .i64 16,.int .u64 (s:Int)] 276)) (some ⟨w.heap.size,0,none⟩) [⟨16,n⟩,⟨16,m⟩,⟨16,q⟩,⟨16,s⟩]:=
 ⟨fun f hf=>by
   simp only[List.mem_cons,List.not_mem_nil,or_false] at hf
   rcases hf with rfl | rfl | rfl | rfl<;>exact⟨by simp only;omega,by simp only;omega,by simp only;omega⟩,by simp,fun j hj=>by
   have:j < 4:=hj
   match j,this with
   | 0,_=>exact⟨w.heap.size,0,rfl,by simp,Pack.alloc_cell _ _ _ _,Pack.alloc_cell _ _ _ _⟩
   | 1,_=>exact⟨w.heap.size,0,rfl,by simp,Pack.alloc_cell _ _ _ _,Pack.alloc_cell _ _ _ _⟩
   | 2,_=>exact⟨w.heap.size,0,rfl,by simp,Pack.alloc_cell _ _ _ _,Pack.alloc_cell _ _ _ _⟩
   | 3,_=>exact⟨w.heap.size,0,rfl,by simp,Pack.alloc_cell _ _ _ _,Pack.alloc_cell _ _ _ _⟩⟩
theorem three_any (w:World) {n m q:Nat} (hn:n < 65536) (hm:m < 65536) (hq:q < 65536):Calls Tryz.prog 199 #[.slice (some ⟨w.heap.size,0,none⟩) 3 3] (w.alloc (.cells #[.int .i64 16,.int .u64 (n:Int),.int .i64 16,.int .u64 (m:Int),.int .i64 16,.int .u64 (q:Int)] 276)) fun e w'=>e = .returned (.tuple #[.int .u64 (nums n m q:Nat),.bool true])∧Below w.heap.size w w':=by
 refine (Pack.pack_any _ 3 _ (fds_three w hn hm hq)).mono ?_
 rintro e w' ⟨rfl,hb⟩
 rw[pk_three hn hm hq]
 have hb0:=(Below.refl w.heap.size w).alloc (Nat.le_refl _) (.cells #[.int .i64 16,.int .u64 (n:Int),.int .i64 16,.int .u64 (m:Int),.int .i64 16,.int .u64 (q:Int)] 276)
 exact⟨rfl,hb0.trans (hb.mono hb0.size)⟩
theorem four_any (w:World) {n m q s:Nat} (hn:n < 65536) (hm:m < 65536) (hq:q < 65536) (hs:s < 65536):Calls Tryz.prog 199 #[.slice (some ⟨w.heap.size,0,none⟩) 4 4] (w.alloc (.cells #[.int .i64 16,.int .u64 (n:Int),.int .i64 16,.int .u64 (m:Int),.int .i64 16,.int .u64 (q:Int),.int .i64 16,.int .u64 (s:Int)] 276)) fun e w'=>e = .returned (.tuple #[.int .u64 (nums n m q+281474976710656 * s:Nat),.bool true])∧Below w.heap.size w w':=by
 refine (Pack.pack_any _ 4 _ (fds_four w hn hm hq hs)).mono ?_
 rintro e w' ⟨rfl,hb⟩
 rw[pk_four hn hm hq hs]
 have hb0:=(Below.refl w.heap.size w).alloc (Nat.le_refl _) (.cells #[.int .i64 16,.int .u64 (n:Int),.int .i64 16,.int .u64 (m:Int),.int .i64 16,.int .u64 (q:Int),.int .i64 16,.int .u64 (s:Int)] 276)
 exact⟨rfl,hb0.trans (hb.mono hb0.size)⟩
theorem one_wds (w:World) {x:Nat} (h:x < 18446744073709551616):Pack.Wds (w.alloc (.cells #[.int .u64 (x:Int)] 134)) (some ⟨w.heap.size,0,none⟩) [x]:=
 ⟨fun y hy=>by
   obtain rfl:y=x:=by simpa using hy
   exact h,by simp,fun j hj=>by
   have:j < 1:=hj
   match j,this with
   | 0,_=>exact⟨w.heap.size,0,rfl,by simp,Pack.alloc_cell _ _ _ _⟩⟩
theorem bytes_one (w:World) {x:Nat} (h:x < 18446744073709551616):Calls Tryz.prog 89 #[.slice (some ⟨w.heap.size,0,none⟩) 1 1] (w.alloc (.cells #[.int .u64 (x:Int)] 134)) fun e w'=>∃ (b o gc:Nat),e = .returned (.slice (some ⟨b,o,none⟩) 8 gc)∧8≤gc∧Crc.Bts w' (some ⟨b,o,none⟩) (six x)∧Below w.heap.size w w':=by
 refine (Pack.bytes_any _ 1 _ (one_wds w h) (by simp)).mono ?_
 rintro e w' ⟨G,gc,rfl,hc,hw,hb⟩
 have hb0:=(Below.refl w.heap.size w).alloc (Nat.le_refl _) (.cells #[.int .u64 (x:Int)] 134)
 have e8:Pack.wflat [x]=Pack.wb x:=by simp[Pack.wflat]
 rw[e8] at hw
 obtain⟨b,o,rfl,_,_⟩:=hw.at' 0 (by rw[Pack.wb_len];omega)
 refine⟨b,o,gc,rfl,hc,⟨six_byt x,by rw[six_len];omega,fun j hj=>?_⟩,hb0.trans (hb.mono hb0.size)⟩
 rw[six_len] at hj
 obtain⟨b',o',e,hlt,hc⟩:=hw.at' j (by rw[Pack.wb_len];omega)
 refine⟨b',o',e,hlt,hc.trans ?_⟩
 have:(six x)[j]'(by rw[six_len];exact hj)=(Pack.wb x)[j]'(by rw[Pack.wb_len];omega):=by
  unfold six
  rw[List.getElem_take]
  rfl
 rw[this]
def on (b:Bool) (v:Value):Value:=bif b then v else undef
theorem on_true (v:Value):on true v=v:=rfl
theorem on_false (v:Value):on false v=undef:=rfl
def fv (n:Nat):Value:=.agg #[.int .i64 16,.int .u64 (n:Int)]
def ptr (p:Nat):Value:=.pointer (some ⟨p,0,none⟩)
structure St (w0:World) (N:Nat) (s c n:Int) (x y z:Bool) (p1 p2 p3:Nat) (W:World):Prop where
 box:Box W N s c n
 below:Below N w0 W
 f1:x=true→Fw W p1 0 0∧N < p1
 f2:y=true→Fw W p2 0 0∧N < p2
 f3:z=true→Fw W p3 0 0∧N < p3
 d12:x=true→y=true→p1≠p2
 d13:x=true→z=true→p1≠p3
 d23:y=true→z=true→p2≠p3
section
variable {w0 W W' : World} {N p1 p2 p3 : Nat} {s c n : Int} {x y z : Bool}
theorem St.keep (h:St w0 N s c n x y z p1 p2 p3 W) (hb:Below W.heap.size W W'):St w0 N s c n x y z p1 p2 p3 W':=
 ⟨h.box.keep hb,h.below.trans (hb.mono (Nat.le_of_lt h.box.lt)),fun e=>⟨(h.f1 e).1.keep hb,(h.f1 e).2⟩,fun e=>⟨(h.f2 e).1.keep hb,(h.f2 e).2⟩,fun e=>⟨(h.f3 e).1.keep hb,(h.f3 e).2⟩,h.d12,h.d13,h.d23⟩
theorem St.new1 (h:St w0 N s c n x y z p1 p2 p3 W) (t:TypeId):St w0 N s c n true y z W.heap.size p2 p3 (W.alloc (.cells #[.int .i64 0,.int .u64 0] t)):=by
 have hb:=(Below.refl W.heap.size W).alloc (Nat.le_refl _) (.cells #[.int .i64 0,.int .u64 0] t)
 have hk:=h.keep hb
 exact⟨hk.box,hk.below,fun _=>⟨fw_new W 0 0 t,h.box.lt⟩,hk.f2,hk.f3,fun _ e=>Nat.ne_of_gt (h.f2 e).1.lt,fun _ e=>Nat.ne_of_gt (h.f3 e).1.lt,hk.d23⟩
theorem St.new2 (h:St w0 N s c n x y z p1 p2 p3 W) (t:TypeId):St w0 N s c n x true z p1 W.heap.size p3 (W.alloc (.cells #[.int .i64 0,.int .u64 0] t)):=by
 have hb:=(Below.refl W.heap.size W).alloc (Nat.le_refl _) (.cells #[.int .i64 0,.int .u64 0] t)
 have hk:=h.keep hb
 exact⟨hk.box,hk.below,hk.f1,fun _=>⟨fw_new W 0 0 t,h.box.lt⟩,hk.f3,fun e _=>Nat.ne_of_lt (h.f1 e).1.lt,hk.d13,fun _ e=>Nat.ne_of_gt (h.f3 e).1.lt⟩
theorem St.new3 (h:St w0 N s c n x y z p1 p2 p3 W) (t:TypeId):St w0 N s c n x y true p1 p2 W.heap.size (W.alloc (.cells #[.int .i64 0,.int .u64 0] t)):=by
 have hb:=(Below.refl W.heap.size W).alloc (Nat.le_refl _) (.cells #[.int .i64 0,.int .u64 0] t)
 have hk:=h.keep hb
 exact⟨hk.box,hk.below,hk.f1,hk.f2,fun _=>⟨fw_new W 0 0 t,h.box.lt⟩,hk.d12,fun e _=>Nat.ne_of_lt (h.f1 e).1.lt,fun e _=>Nat.ne_of_lt (h.f2 e).1.lt⟩
end
def lst (s:Nat × Bool × Bool × Bool):Array Bool:=#[true,true,Nat.blt 0 s.1,true,true,Nat.blt 1 s.1,true,true,Nat.blt 2 s.1,Nat.blt 3 s.1,s.2.1,s.2.2.1,s.2.2.2,false,false,false]
def left (s:Nat × Bool × Bool × Bool):Nat:=(4 - s.1)+((!s.2.1).toNat+((!s.2.2.1).toNat+(!s.2.2.2).toNat))
def calls:Nat→List Nat
 | 0=>[2]
 | 1=>[5]
 | 2=>[8]
 | 3=>[9]
 | _=>[]
def rdy (s:Nat × Bool × Bool × Bool):List Nat:=calls s.1++((bif s.2.1 then [] else [10])++((bif s.2.2.1 then [] else [11])++(bif s.2.2.2 then [] else [12])))
def act (N s c q:Nat) (n:Int) (k:Nat) (x y z:Bool) (p1 p2 p3:Nat):Act:=
 { tmps:=#[.agg #[.int .i64 (s:Int),.int .i64 (c:Int),.int .i64 n],.pointer (some ⟨N,0,none⟩),.int .u64 0,.int .i64 0,on x (ptr p1),on y (ptr p2),on z (ptr p3),undef,undef,undef,undef,undef,.agg #[.int .i64 (s:Int),.int .i64 (c:Int),.int .i64 n],.bool true,.bool false,.pointer (some ⟨N,0,none⟩),.int .i64 (s:Int),on (Nat.blt 0 k) (fv s),.pointer (some ⟨N,1,none⟩),.int .i64 (c:Int),on (Nat.blt 1 k) (fv c),.pointer (some ⟨N,2,none⟩),.int .i64 n,on (Nat.blt 2 k) (.int .i64 (q:Int)),on (Nat.blt 3 k) (fv q),undef,undef,undef,undef,undef,undef,undef,undef,undef,undef,undef,undef,undef,undef,undef,undef,undef,undef,undef,undef,undef,undef,undef,undef,undef,undef],defers:=[] }
theorem left_pos {k:Nat} {x y z:Bool} (hk:k≤4) (h:left (k,x,y,z)=0):k=4∧x=true∧y=true∧z=true:=by
 unfold left at h
 cases x<;>cases y<;>cases z<;>simp at h ⊢<;>omega
theorem left_call {k:Nat} {x y z:Bool} (hk:k < 4):left (k,x,y,z)=left (k+1,x,y,z)+1:=by
 unfold left
 simp only
 omega
theorem left_one (k:Nat) (y z:Bool):left (k,false,y,z)=left (k,true,y,z)+1:=by
 unfold left
 simp
 omega
theorem left_two (k:Nat) (x z:Bool):left (k,x,false,z)=left (k,x,true,z)+1:=by
 unfold left
 simp
 omega
theorem left_three (k:Nat) (x y:Bool):left (k,x,y,false)=left (k,x,y,true)+1:=by
 unfold left
 simp
 omega
set_option maxHeartbeats 2000000 in
set_option maxRecDepth 100000 in
theorem encode_yes (w:World) (s c q:Nat) (n:Int) (hn:n=nx q) (hm:may s c (nx q)=true) :
 Calls Tryz.prog 167 #[.agg #[.int .i64 (s:Int),.int .i64 (c:Int),.int .i64 n]] w fun r w'=>r = .returned (.tuple #[.int .u64 (wd s c q:Nat),.int .i64 0])∧Below w.heap.size w w':=by
 obtain⟨h1,h2,h3,h4⟩:=may_lt hm
 have hs64:s < 65536:=by omega
 have hc64:c < 65536:=by omega
 have HM:=hid (fun w=>may_any w s c n)
 have HE:=hid (show may s c n=true by rw[hn];exact hm)
 have HT:=hid (fun w=>toField_any w n q hn h4)
 have HF1:=hid (fun w=>field_any w s hs64)
 have HF2:=hid (fun w=>field_any w c hc64)
 have HF3:=hid (fun w=>field_any w q h4)
 have HF4:=hid (fun w=>field_any w (sum s c q) (sum_lt s c q))
 have HP3:=hid (fun w=>three_any w hs64 hc64 h4)
 have HP4:=hid (fun w=>four_any w hs64 hc64 h4 (sum_lt s c q))
 have hnl:=nums_lt hs64 hc64 h4
 have HBY:=hid (fun w=>bytes_one w (x:=nums s c q) (by omega))
 have hsl:=sum_lt s c q
 clear hm hn h1 h2 h3
 have HB:=hid ((Below.refl w.heap.size w).alloc (Nat.le_refl _) (.cells #[.int .i64 (s:Int),.int .i64 (c:Int),.int .i64 n] 170))
 have HX:=hid (boxed w s c n 170)
 go_enter Tryz.func167,Tryz.ntmps167
 go_wp2_with fail
 refine (HM.out _).mono ?_
 rintro e w1 ⟨rfl,hb⟩
 rw[HE.out]
 have HB1:=hid (HB.out.trans (hb.mono HB.out.size))
 have HX1:=hid (HX.out.keep hb)
 clear hb HX HB HM HE
 have hk0:=HX1.out.c0
 have hk1:=HX1.out.c1
 have hk2:=HX1.out.c2
 have hsz:w.heap.size < w1.heap.size:=HX1.out.lt
 go_wp2
 refine wp_region_held_drew (S:=(fun W'=>Box W' w.heap.size s c n)) (by kernel_rfl) HX1.out.drew (fun hHeld=>?_)
 clear hk0 hk1 hk2
 refine take_yes 0 15 (.pointer (some ⟨w.heap.size,0,none⟩)) rfl rfl (by kernel_rfl) (by kernel_rfl) (by kernel_rfl) (fun _ _ _ h=>h) rfl ?_ (by assumption) ?_
 · intro W hSw
   try dsimp only at hSw
   go_simp
 simp only[Act.put,List.setIfInBounds_toArray,List.set_cons_zero,List.set_cons_succ]
 refine take_yes 1 16 (.int .i64 (s:Int)) rfl rfl (by kernel_rfl) (by kernel_rfl) (by kernel_rfl) (fun _ _ _ h=>h) rfl ?_ (by assumption) ?_
 · intro W hSw
   try dsimp only at hSw
   have hv:=hSw.c0
   go_simp
 simp only[Act.put,List.setIfInBounds_toArray,List.set_cons_zero,List.set_cons_succ]
 refine take_yes 3 18 (.pointer (some ⟨w.heap.size,1,none⟩)) rfl rfl (by kernel_rfl) (by kernel_rfl) (by kernel_rfl) (fun _ _ _ h=>h) rfl ?_ (by assumption) ?_
 · intro W hSw
   try dsimp only at hSw
   go_simp
 simp only[Act.put,List.setIfInBounds_toArray,List.set_cons_zero,List.set_cons_succ]
 refine take_yes 4 19 (.int .i64 (c:Int)) rfl rfl (by kernel_rfl) (by kernel_rfl) (by kernel_rfl) (fun _ _ _ h=>h) rfl ?_ (by assumption) ?_
 · intro W hSw
   try dsimp only at hSw
   have hv:=hSw.c1
   go_simp
 simp only[Act.put,List.setIfInBounds_toArray,List.set_cons_zero,List.set_cons_succ]
 refine take_yes 6 21 (.pointer (some ⟨w.heap.size,2,none⟩)) rfl rfl (by kernel_rfl) (by kernel_rfl) (by kernel_rfl) (fun _ _ _ h=>h) rfl ?_ (by assumption) ?_
 · intro W hSw
   try dsimp only at hSw
   go_simp
 simp only[Act.put,List.setIfInBounds_toArray,List.set_cons_zero,List.set_cons_succ]
 refine take_yes 7 22 (.int .i64 n) rfl rfl (by kernel_rfl) (by kernel_rfl) (by kernel_rfl) (fun _ _ _ h=>h) rfl ?_ (by assumption) ?_
 · intro W hSw
   try dsimp only at hSw
   have hv:=hSw.c2
   go_simp
 simp only[Act.put,List.setIfInBounds_toArray,List.set_cons_zero,List.set_cons_succ]
 refine any_states (σ:=Nat × Bool × Bool × Bool) lst left rdy (fun st a W=>st.1≤4∧∃ p1 p2 p3,a=act w.heap.size s c q n st.1 st.2.1 st.2.2.1 st.2.2.2 p1 p2 p3∧St w w.heap.size s c n st.2.1 st.2.2.1 st.2.2.2 p1 p2 p3 W) 3 ?_ ?_ ?_ 7 (0,false,false,false) _ _ rfl ⟨by omega,0,0,0,rfl,HX1.out.drew,HB1.out.drew,(fun e=>by cases e),(fun e=>by cases e),(fun e=>by cases e),(fun e=>by cases e),(fun e=>by cases e),(fun e=>by cases e)⟩
 · rintro ⟨k,x,y,z⟩ a W ⟨hk,_⟩ hn
   have hk':k=0∨k=1∨k=2∨k=3∨k=4:=by simp only at hk;omega
   clear hk
   rcases hk' with rfl | rfl | rfl | rfl | rfl<;>cases x<;>cases y<;>cases z<;>first | exact absurd rfl hn | exact⟨by kernel_rfl,by decide⟩
 · rintro ⟨k,x,y,z⟩ a W ⟨hk,p1,p2,p3,rfl,hst⟩ hn i hi
   clear hn
   simp only[rdy,List.mem_append] at hi hst hk ⊢
   have HS:=hid hst
   clear hst
   rcases hi with hi | hi | hi | hi
   · have hk':k=0∨k=1∨k=2∨k=3∨k=4:=by omega
     clear hk
     rcases hk' with rfl | rfl | rfl | rfl | rfl
     · obtain rfl:i=2:=by simpa [calls] using hi
       refine op_step rfl (fun K hK=>?_)
       simp only[act,Nat.blt,Nat.ble,on_false]
       go_simp
       go_at_call 213
       with_reducible refine (HF1.out _).mono ?_
       rintro e W' ⟨rfl,hb⟩
       exact hK.out _ _ ⟨(1,x,y,z),rfl,left_call (by omega),(HS.out.keep hb).box,by omega,p1,p2,p3,rfl,(HS.out.keep hb)⟩
     · obtain rfl:i=5:=by simpa [calls] using hi
       refine op_step rfl (fun K hK=>?_)
       simp only[act,Nat.blt,Nat.ble,on_true,on_false]
       go_simp
       go_at_call 213
       with_reducible refine (HF2.out _).mono ?_
       rintro e W' ⟨rfl,hb⟩
       exact hK.out _ _ ⟨(2,x,y,z),rfl,left_call (by omega),(HS.out.keep hb).box,by omega,p1,p2,p3,rfl,(HS.out.keep hb)⟩
     · obtain rfl:i=8:=by simpa [calls] using hi
       refine op_step rfl (fun K hK=>?_)
       simp only[act,Nat.blt,Nat.ble,on_true,on_false]
       go_simp
       go_at_call 214
       with_reducible refine (HT.out _).mono ?_
       rintro e W' ⟨rfl,rfl⟩
       exact hK.out _ _ ⟨(3,x,y,z),rfl,left_call (by omega),HS.out.box,by omega,p1,p2,p3,rfl,HS.out⟩
     · obtain rfl:i=9:=by simpa [calls] using hi
       refine op_step rfl (fun K hK=>?_)
       simp only[act,Nat.blt,Nat.ble,on_true,on_false]
       go_simp
       go_at_call 213
       with_reducible refine (HF3.out _).mono ?_
       rintro e W' ⟨rfl,hb⟩
       exact hK.out _ _ ⟨(4,x,y,z),rfl,left_call (by omega),(HS.out.keep hb).box,by omega,p1,p2,p3,rfl,(HS.out.keep hb)⟩
     · simp[calls] at hi
   · cases x with
     | true=>simp at hi
     | false=>
       obtain rfl:i=10:=by simpa using hi
       refine op_step rfl (fun K hK=>?_)
       simp only[act]
       go_simp
       exact hK.out _ _ ⟨(k,true,y,z),rfl,left_one _ _ _,(HS.out.new1 _).box,hk,W.heap.size,p2,p3,rfl,HS.out.new1 _⟩
   · cases y with
     | true=>simp at hi
     | false=>
       obtain rfl:i=11:=by simpa using hi
       refine op_step rfl (fun K hK=>?_)
       simp only[act]
       go_simp
       exact hK.out _ _ ⟨(k,x,true,z),rfl,left_two _ _ _,(HS.out.new2 _).box,hk,p1,W.heap.size,p3,rfl,HS.out.new2 _⟩
   · cases z with
     | true=>simp at hi
     | false=>
       obtain rfl:i=12:=by simpa using hi
       refine op_step rfl (fun K hK=>?_)
       simp only[act]
       go_simp
       exact hK.out _ _ ⟨(k,x,y,true),rfl,left_three _ _ _,(HS.out.new3 _).box,hk,p1,p2,W.heap.size,rfl,HS.out.new3 _⟩
 · rintro ⟨k,x,y,z⟩ a W ⟨hk,p1,p2,p3,rfl,hst⟩ hn
   obtain⟨rfl,rfl,rfl,rfl⟩:=left_pos hk hn
   clear hk hn
   have HS:=hid hst
   clear hst
   simp only[act,Nat.blt,Nat.ble,on_true,ptr,fv]
   obtain⟨ha1,hb1⟩:=HS.out.f1 rfl
   obtain⟨ha2,hb2⟩:=HS.out.f2 rfl
   obtain⟨ha3,hb3⟩:=HS.out.f3 rfl
   have hd12:=HS.out.d12 rfl rfl
   have hd13:=HS.out.d13 rfl rfl
   have hd23:=HS.out.d23 rfl rfl
   have HBX:=hid HS.out.box
   have HBL:=hid HS.out.below
   have hg0:=ha1.c0
   have hg1:=ha1.c1
   have hg2:=ha1.f 0
   have hg3:=ha1.f 1
   have H1:=hid ha1
   have H2:=hid ha2
   have H3:=hid ha3
   clear ha1 ha2 ha3 HS hHeld
   refine wpAnyH_ready (rs:=[13]) (by kernel_rfl) (by simp) ?_
   refine AllReadyH.cons rfl (fun K hK=>?_) AllReadyH.nil
   go_simp
   refine hK.out _ _ (HBX.out.other (by omega) _ _) (fun _=>?_)
   clear hK K hg0 hg1 hg2 hg3
   have HBX_1:=hid (HBX.out.other (show w.heap.size≠p1 by omega) (.int .i64 16) (.int .u64 (s:Int)))
   have HBL_1:=hid ((HBL.out.setCell (p:=⟨p1,0,none⟩) (Nat.le_of_lt hb1) (.int .i64 16)).setCell (p:=⟨p1,1,none⟩) (Nat.le_of_lt hb1) (.int .u64 (s:Int)))
   have H1_1:=hid (H1.out.set 16 s)
   have H2_1:=hid (H2.out.other (show p2≠p1 by omega) (.int .i64 16) (.int .u64 (s:Int)))
   have H3_1:=hid (H3.out.other (show p3≠p1 by omega) (.int .i64 16) (.int .u64 (s:Int)))
   clear HBX HBL H1 H2 H3
   generalize (W.setCell ⟨p1,0,none⟩ (.int .i64 16)).setCell ⟨p1,1,none⟩ (.int .u64 (s:Int))=W1 at *
   have hg0_1:=H2_1.out.c0
   have hg1_1:=H2_1.out.c1
   have hg2_1:=H2_1.out.f 0
   have hg3_1:=H2_1.out.f 1
   refine wpAnyH_ready (rs:=[14]) (by kernel_rfl) (by simp) ?_
   refine AllReadyH.cons rfl (fun K hK=>?_) AllReadyH.nil
   go_simp
   refine hK.out _ _ (HBX_1.out.other (by omega) _ _) (fun _=>?_)
   clear hK K hg0_1 hg1_1 hg2_1 hg3_1
   have HBX_2:=hid (HBX_1.out.other (show w.heap.size≠p2 by omega) (.int .i64 16) (.int .u64 (c:Int)))
   have HBL_2:=hid ((HBL_1.out.setCell (p:=⟨p2,0,none⟩) (Nat.le_of_lt hb2) (.int .i64 16)).setCell (p:=⟨p2,1,none⟩) (Nat.le_of_lt hb2) (.int .u64 (c:Int)))
   have H1_2:=hid (H1_1.out.other (show p1≠p2 by omega) (.int .i64 16) (.int .u64 (c:Int)))
   have H2_2:=hid (H2_1.out.set 16 c)
   have H3_2:=hid (H3_1.out.other (show p3≠p2 by omega) (.int .i64 16) (.int .u64 (c:Int)))
   clear HBX_1 HBL_1 H1_1 H2_1 H3_1
   generalize (W1.setCell ⟨p2,0,none⟩ (.int .i64 16)).setCell ⟨p2,1,none⟩ (.int .u64 (c:Int))=W2 at *
   have hg0_2:=H3_2.out.c0
   have hg1_2:=H3_2.out.c1
   have hg2_2:=H3_2.out.f 0
   have hg3_2:=H3_2.out.f 1
   refine wpAnyH_ready (rs:=[15]) (by kernel_rfl) (by simp) ?_
   refine AllReadyH.cons rfl (fun K hK=>?_) AllReadyH.nil
   go_simp
   refine hK.out _ _ (HBX_2.out.other (by omega) _ _) (fun _=>?_)
   clear hK K hg0_2 hg1_2 hg2_2 hg3_2
   have HBX_3:=hid (HBX_2.out.other (show w.heap.size≠p3 by omega) (.int .i64 16) (.int .u64 (q:Int)))
   have HBL_3:=hid ((HBL_2.out.setCell (p:=⟨p3,0,none⟩) (Nat.le_of_lt hb3) (.int .i64 16)).setCell (p:=⟨p3,1,none⟩) (Nat.le_of_lt hb3) (.int .u64 (q:Int)))
   have H1_3:=hid (H1_2.out.other (show p1≠p3 by omega) (.int .i64 16) (.int .u64 (q:Int)))
   have H2_3:=hid (H2_2.out.other (show p2≠p3 by omega) (.int .i64 16) (.int .u64 (q:Int)))
   have H3_3:=hid (H3_2.out.set 16 q)
   clear HBX_2 HBL_2 H1_2 H2_2 H3_2
   generalize (W2.setCell ⟨p3,0,none⟩ (.int .i64 16)).setCell ⟨p3,1,none⟩ (.int .u64 (q:Int))=W3 at *
   refine wpAnyH_done (by kernel_rfl) ?_ _
   have hg0:=H1_3.out.c0
   have hg1:=H1_3.out.c1
   have hg2:=H2_3.out.c0
   have hg3:=H2_3.out.c1
   have hg4:=H3_3.out.c0
   have hg5:=H3_3.out.c1
   clear HBX_3 HF1 HF2 HF3 HT HX1 HB1 hsz
   go_wp2_with fail
   refine (HP3.out _).mono ?_
   rintro e W4 ⟨rfl,hb⟩
   have HBL_4:=hid (HBL_3.out.trans (hb.mono HBL_3.out.size))
   have H1_4:=hid (H1_3.out.keep hb)
   have H2_4:=hid (H2_3.out.keep hb)
   have H3_4:=hid (H3_3.out.keep hb)
   clear hb hg0 hg1 hg2 hg3 hg4 hg5 HBL_3 H1_3 H2_3 H3_3 HP3
   go_wp2_with fail
   refine (HBY.out _).mono ?_
   rintro e W5 ⟨b,o,gc,rfl,hgc,hbt,hb⟩
   have HBL_5:=hid (HBL_4.out.trans (hb.mono HBL_4.out.size))
   have H1_5:=hid (H1_4.out.keep hb)
   have H2_5:=hid (H2_4.out.keep hb)
   have H3_5:=hid (H3_4.out.keep hb)
   have hs16:=Crc.sum16_one gc 1 hbt
   rw[six_len,show Crc.S16 (six (nums s c q))=sum s c q from rfl] at hs16
   have HS16:=hid hs16
   clear hb hbt hs16 HBL_4 H1_4 H2_4 H3_4 HBY
   go_wp2_with fail
   refine HS16.out.mono ?_
   rintro e w' ⟨rfl,rfl⟩
   have hba:=(Below.refl W5.heap.size W5).alloc (Nat.le_refl _) (.cells #[.slice (some ⟨b,o,none⟩) 6 gc] 49)
   have HBL_6:=hid (HBL_5.out.trans (hba.mono HBL_5.out.size))
   have H1_6:=hid (H1_5.out.keep hba)
   have H2_6:=hid (H2_5.out.keep hba)
   have H3_6:=hid (H3_5.out.keep hba)
   clear hba HS16 HBL_5 H1_5 H2_5 H3_5
   generalize W5.alloc (.cells #[.slice (some ⟨b,o,none⟩) 6 gc] 49)=W6 at *
   have hg0:=H1_6.out.c0
   have hg1:=H1_6.out.c1
   have hg2:=H2_6.out.c0
   have hg3:=H2_6.out.c1
   have hg4:=H3_6.out.c0
   have hg5:=H3_6.out.c1
   have hws:IntKind.wrap .i64 ((sum s c q:Nat):Int)=((sum s c q:Nat):Int):=by rw[IntKind.wrap_i64];omega
   go_wp2
   go_region_held3 (fun W'=>(W'.cell? ⟨p1,0,none⟩=some (.int .i64 16)∧W'.cell? ⟨p1,1,none⟩=some (.int .u64 (s:Int)))∧(W'.cell? ⟨p2,0,none⟩=some (.int .i64 16)∧W'.cell? ⟨p2,1,none⟩=some (.int .u64 (c:Int)))∧(W'.cell? ⟨p3,0,none⟩=some (.int .i64 16)∧W'.cell? ⟨p3,1,none⟩=some (.int .u64 (q:Int)))) (go_keep)
    (first
    | (go_at_call 213
       with_reducible refine (HF4.out _).mono ?_
       rintro e W7 ⟨rfl,hb⟩
       have HBL_7:=hid (HBL_6.out.drew.trans (hb.mono HBL_6.out.drew.size))
       have H1_7:=hid (H1_6.out.drew.keep hb)
       have H2_7:=hid (H2_6.out.drew.keep hb)
       have H3_7:=hid (H3_6.out.drew.keep hb)
       have hh0:=H1_7.out.c0
       have hh1:=H1_7.out.c1
       have hh2:=H2_7.out.c0
       have hh3:=H2_7.out.c1
       have hh4:=H3_7.out.c0
       have hh5:=H3_7.out.c1
       clear hb)
    | (go_at_call 199
       with_reducible refine (HP4.out _).mono ?_
       rintro e W8 ⟨rfl,hb⟩
       have HBL_8:=hid (HBL_7.out.trans (hb.mono HBL_7.out.size))
       have H1_8:=hid (H1_7.out.keep hb)
       have H2_8:=hid (H2_7.out.keep hb)
       have H3_8:=hid (H3_7.out.keep hb)
       have hi0:=H1_8.out.c0
       have hi1:=H1_8.out.c1
       have hi2:=H2_8.out.c0
       have hi3:=H2_8.out.c1
       have hi4:=H3_8.out.c0
       have hi5:=H3_8.out.c1
       clear hb))
   go_wp2
   go_ret2
   exact⟨rfl,HBL_8.out⟩
end Slo
end Go.Proofs.YtdafimdfbnphaaaGreatDoor
/- Texts. -/
namespace Go.Proofs.YtdafimdfbnphaaaGreatDoor
open Lib (hid)
open Go.RowKit Go.MapKept
namespace Slo
open Lin
def gv:Option (Nat × Nat × Nat)→Value
 | some (s,c,q)=>.agg #[.int .i64 (s:Int),.int .i64 (c:Int),.int .i64 (nx q)]
 | none=>.agg #[.int .i64 0,.int .i64 0,.int .i64 0]
def ev:Option (Nat × Nat × Nat)→Int
 | some _=>0
 | none=>2
theorem nts_four (w:World):Pack.Nts (w.alloc (.cells #[.int .i64 16,.int .i64 16,.int .i64 16,.int .i64 16] 3)) (some ⟨w.heap.size,0,none⟩) [16,16,16,16]:=
 ⟨fun f hf=>by
   obtain rfl:f=16:=by simpa using hf
   exact⟨by decide,by decide⟩,by decide,fun j hj=>by
   have:j < 4:=hj
   match j,this with
   | 0,_=>exact⟨w.heap.size,0,rfl,by simp,Pack.alloc_cell _ _ _ _⟩
   | 1,_=>exact⟨w.heap.size,0,rfl,by simp,Pack.alloc_cell _ _ _ _⟩
   | 2,_=>exact⟨w.heap.size,0,rfl,by simp,Pack.alloc_cell _ _ _ _⟩
   | 3,_=>exact⟨w.heap.size,0,rfl,by simp,Pack.alloc_cell _ _ _ _⟩⟩
theorem split_any (w:World) (N:Nat) (hN:w.heap.size=N) (x s c q:Nat) (h:x < 18446744073709551616) (hs:s=x % 65536) (hc:c=x / 65536 % 65536) (hq:q=x / 4294967296 % 65536):Calls Tryz.prog 178 #[.int .u64 (x:Int),.slice (some ⟨N,0,none⟩) 4 4] (w.alloc (.cells #[.int .i64 16,.int .i64 16,.int .i64 16,.int .i64 16] 3)) fun e w'=>∃ (b o gc:Nat),e = .returned (.tuple #[.slice (some ⟨b,o,none⟩) 4 gc,.bool true])∧(b < w'.heap.size∧w'.cell? ⟨b,o,none⟩=some (.int .u64 (s:Int))∧w'.cell? ⟨b,o+1,none⟩=some (.int .u64 (c:Int))∧w'.cell? ⟨b,o+2,none⟩=some (.int .u64 (q:Int)))∧Below w.heap.size w w':=by
 subst hN hs hc hq
 refine (Pack.split_any x h _ 4 _ (nts_four w)).mono ?_
 rintro e w' ⟨G,gc,rfl,hw,hb⟩
 have hb0:=(Below.refl w.heap.size w).alloc (Nat.le_refl _) (.cells #[.int .i64 16,.int .i64 16,.int .i64 16,.int .i64 16] 3)
 rw[split_four h] at hw ⊢
 simp only[Option.getD_some] at hw
 obtain⟨b,o,rfl,hlt,hc0⟩:=hw.at' 0 (by simp)
 obtain⟨b',o',e,_,hc1⟩:=hw.at' 1 (by simp)
 injection e with e
 injection e with e1 e2
 subst e1 e2
 obtain⟨b',o',e,_,hc2⟩:=hw.at' 2 (by simp)
 injection e with e
 injection e with e1 e2
 subst e1 e2
 exact⟨b,o,gc,rfl,⟨hlt,hc0,hc1,hc2⟩,hb0.trans (hb.mono hb0.size)⟩
set_option maxHeartbeats 2000000 in
set_option maxRecDepth 100000 in
theorem decode_any (w:World) (x:Nat) (hx:x < 18446744073709551616) :
 Calls Tryz.prog 172 #[.int .u64 (x:Int)] w fun r w'=>r = .returned (.tuple #[gv (dec x),.int .i64 (ev (dec x))])∧Below w.heap.size w w':=by
 obtain⟨s,hs⟩:∃ s,s=x % 65536:=⟨_,rfl⟩
 obtain⟨c,hc⟩:∃ c,c=x / 65536 % 65536:=⟨_,rfl⟩
 obtain⟨q,hq⟩:∃ q,q=x / 4294967296 % 65536:=⟨_,rfl⟩
 have hs1:s < 65536:=by omega
 have hc1:c < 65536:=by omega
 have hq1:q < 65536:=by omega
 have HB:=hid ((Below.refl w.heap.size w).alloc (Nat.le_refl _) (.cells #[.int .i64 0,.int .i64 0,.int .i64 0] 170))
 have HX:=hid (owned w 0 0 0 170)
 have HS:=hid (split_any (w.alloc (.cells #[.int .i64 0,.int .i64 0,.int .i64 0] 170)) (w.heap.size+1) (World.size_alloc _ _) x s c q hx hs hc hq)
 have HD:=hid (show dec x=if may s c (nx q)=true∧x=wd s c q then some (s,c,q) else none by
  unfold dec
  simp only[← hs,← hc,← hq])
 have HTN:=hid (fun w=>toNext_any w q)
 obtain⟨n,hn⟩:∃ n,n=nx q:=⟨_,rfl⟩
 rw[← hn] at HTN
 have HN:=hid hn
 have hws:IntKind.wrap .i64 (s:Int)=(s:Int):=by rw[IntKind.wrap_i64];omega
 have hwc:IntKind.wrap .i64 (c:Int)=(c:Int):=by rw[IntKind.wrap_i64];omega
 have hwq:IntKind.wrap .i64 (q:Int)=(q:Int):=by rw[IntKind.wrap_i64];omega
 clear hs hc hq hn
 go_enter Tryz.func172,Tryz.ntmps172
 go_wp2_with fail
 refine HS.out.mono ?_
 rintro e w1 ⟨b1,o1,gc,rfl,⟨hb1,hq0,hq1,hq2⟩,hbw⟩
 have HX1:=hid (HX.out.keep hbw)
 have HB1:=hid (HB.out.trans (hbw.mono HB.out.size))
 have hz1:w.heap.size < w1.heap.size:=HX1.out.box.lt
 clear hbw HS HX HB
 go_wp2
 go_region_held3 (fun W'=>W'.cell? ⟨b1,o1,none⟩=some (.int .u64 (s:Int))∧W'.cell? ⟨b1,o1+1,none⟩=some (.int .u64 (c:Int))∧W'.cell? ⟨b1,o1+2,none⟩=some (.int .u64 (q:Int))) (go_keep)
  (first
  | (go_at_call 219
     with_reducible refine (HTN.out _).mono ?_
     rintro e w' ⟨rfl,rfl⟩))
 all_goals
  (have hba:=(Below.refl w1.heap.size w1).alloc (Nat.le_refl _) (.cells #[.int .i64 (s:Int),.int .i64 (c:Int),.int .i64 n] 170)
   have HX2:=hid (HX1.out.keep hba).drew
   have HG2:=hid (boxed w1 s c n 170).drew
   have HB2:=hid (HB1.out.trans (hba.mono HB1.out.size)).drew
   clear hws hwc hwq hba HX1 HB1 hb1 hq0 hq1 hq2
   go_wp2_with fail
   generalize (w1.alloc (.cells #[.int .i64 (s:Int),.int .i64 (c:Int),.int .i64 n] 170)).drew=w2 at *
   generalize w1.heap.size=k1 at *
   cases hmay:may s c (nx q) with
   | false=>
     have HNO:=hid (show dec x=none by rw[HD.out,if_neg (fun h=>by rw[hmay] at h;simp at h)])
     refine (encode_no _ s c n (by rw[HN.out];exact hmay)).mono ?_
     rintro e w3 ⟨rfl,hb3⟩
     have HX3:=hid (HX2.out.keep hb3)
     have HB3:=hid (HB2.out.trans (hb3.mono HB2.out.size))
     have hc0:=HX3.out.box.c0
     have hc1:=HX3.out.box.c1
     have hc2:=HX3.out.box.c2
     have hf0:=HX3.out.f 0
     have hf1:=HX3.out.f 1
     have hf2:=HX3.out.f 2
     clear hb3 hmay HX2 HB2 HD HN HG2
     go_wp2
     rw[HNO.out]
     refine bodyPost_ret (v:=.tuple #[gv none,.int .i64 (ev none)]) ?_ rfl ⟨rfl,?_⟩
     · simp[results,Tryz.results172,go_sem,gv,ev,hc0,hc1,hc2]
     · exact ((HB3.out.setCell (Nat.le_refl _) _).setCell (Nat.le_refl _) _).setCell (Nat.le_refl _) _
   | true=>
     refine (encode_yes _ s c q n HN.out hmay).mono ?_
     rintro e w3 ⟨rfl,hb3⟩
     have HX3:=hid (HX2.out.keep hb3)
     have HG3:=hid (HG2.out.keep hb3)
     have HB3:=hid (HB2.out.trans (hb3.mono HB2.out.size))
     have hc0:=HX3.out.box.c0
     have hc1:=HX3.out.box.c1
     have hc2:=HX3.out.box.c2
     have hf0:=HX3.out.f 0
     have hf1:=HX3.out.f 1
     have hf2:=HX3.out.f 2
     have hg0:=HG3.out.c0
     have hg1:=HG3.out.c1
     have hg2:=HG3.out.c2
     have HM:=hid hmay
     clear hb3 hmay HX2 HB2 HG2
     by_cases hls:x=wd s c q
     · have HNO:=hid (show dec x=some (s,c,q) by rw[HD.out,if_pos ⟨HM.out,hls⟩])
       have hbe:(((x:Nat):Int) != ((wd s c q:Nat):Int))=false:=by rw[← hls];simp
       clear hls HD HM
       go_wp2
       rw[HNO.out]
       refine bodyPost_ret (v:=.tuple #[gv (some (s,c,q)),.int .i64 (ev (some (s,c,q)))]) ?_ rfl ⟨rfl,?_⟩
       · simp[results,Tryz.results172,go_sem,gv,ev,hc0,hc1,hc2,HN.out]
       · exact ((HB3.out.setCell (Nat.le_refl _) _).setCell (Nat.le_refl _) _).setCell (Nat.le_refl _) _
     · have HNO:=hid (show dec x=none by rw[HD.out,if_neg (fun h=>hls h.2)])
       have hbe:(((x:Nat):Int) != ((wd s c q:Nat):Int))=true:=by simp;omega
       clear hls HD HM
       go_wp2
       rw[HNO.out]
       refine bodyPost_ret (v:=.tuple #[gv none,.int .i64 (ev none)]) ?_ rfl ⟨rfl,?_⟩
       · simp[results,Tryz.results172,go_sem,gv,ev,hc0,hc1,hc2]
       · exact ((HB3.out.setCell (Nat.le_refl _) _).setCell (Nat.le_refl _) _).setCell (Nat.le_refl _) _)
end Slo
end Go.Proofs.YtdafimdfbnphaaaGreatDoor
