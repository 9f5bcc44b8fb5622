/- Texts laid together: VolMed, VolLin, VolWrite, VolVol, ChkMap, ChnMay, LinMem, SloMath, ChnMath, ChnWords, ChnMem, SloMay, VolOf, VolRaw, ChnTell, InoMath. -/
import Derived.Test.YtlodpaaanfjkeaaGreatDoorKt3
import Derived.Test.YtlodpaaanfjkeaaGreatDoorKa1
import Derived.Shelf.SlicesG.CompactI
import Derived.Lib.OwnBridge
import Derived.Test.YtlodpaaanfjkeaaGreatDoorKt1
import Derived.Carry
import Derived.Lib.Hide
import Derived.Deep.RegionHeld3
import Derived.BigCall
import Derived.ArgAppend
import Derived.RegionTactic
import Derived.ChangeAlike
import Derived.Test.YtlodpaaanfjkeaaGreatDoorKt2
import Derived.Test.YtlodpaaanfjkeaaGreatDoorKa2
set_option maxRecDepth 100000
set_option maxHeartbeats 4000000
namespace Go.Proofs.YtlodpaaanfjkeaaGreatDoor
section
open Lib (hid)
open Go.RowKit Go.MapKept
namespace Vol
structure Sts (w:World) (g:Nat) (l:List (Nat × Nat)):Prop where
 lt:g < w.heap.size
 at':∀ j (h:j < l.length),w.cell? ⟨g,j * 2,none⟩=some (.int .i64 (l[j].1:Int))∧w.cell? ⟨g,j * 2+1,none⟩=some (.int .u64 (l[j].2:Int))
theorem Sts.of_block {w w':World} {g:Nat} {l:List (Nat × Nat)} (h:Sts w g l) (e:w'.heap[g]? = w.heap[g]?):Sts w' g l:=
 ⟨Pm.lt_of_some (e.trans (Array.getElem?_eq_getElem h.lt)),fun j hj=>⟨(World.cell?_of_block (w:=w) e).trans (h.at' j hj).1,(World.cell?_of_block (w:=w) e).trans (h.at' j hj).2⟩⟩
theorem Sts.keep {w w':World} {g:Nat} {l:List (Nat × Nat)} (h:Sts w g l) (hb:Below w.heap.size w w'):Sts w' g l:=h.of_block (hb.block g h.lt)
theorem Sts.kq {Q:Nat→Prop} {w w':World} {g:Nat} {l:List (Nat × Nat)} (h:Sts w g l) (hk:Kq Q w w') (hq:Q g):Sts w' g l:=h.of_block (hk.at hq h.lt)
section
variable {Q : Nat → Prop} {w : World} {a : Nat} {W : List Nat} {st sn : Nat}
structure Bx (w:World) (b a:Nat):Prop where
 lt:b < w.heap.size
 c0:w.cell? ⟨b,0,none⟩=some (.pointer (some ⟨a,0,none⟩))
theorem Bx.of_block {w w':World} {b a:Nat} (h:Bx w b a) (e:w'.heap[b]? = w.heap[b]?):Bx w' b a:=
 ⟨Pm.lt_of_some (e.trans (Array.getElem?_eq_getElem h.lt)),(World.cell?_of_block (w:=w) e).trans h.c0⟩
theorem Bx.keep {w w':World} {b a:Nat} (h:Bx w b a) (hb:Below w.heap.size w w'):Bx w' b a:=h.of_block (hb.block b h.lt)
theorem Bx.kq {Q:Nat→Prop} {w w':World} {b a:Nat} (h:Bx w b a) (hk:Kq Q w w') (hq:Q b):Bx w' b a:=h.of_block (hk.at hq h.lt)
theorem bx_new (w:World) (a:Nat) (t:TypeId):Bx (w.alloc (.cells #[.pointer (some ⟨a,0,none⟩)] t)) w.heap.size a:=⟨by simp,Pack.alloc_cell w _ t 0⟩
structure Rd (w:World) (a n:Nat) (l:List Nat) (k:Nat) (wr:World):Prop where
 box:Bx wr w.heap.size a
 row:wr.rowIs (w.heap.size+1) 50 n (Pack.upto l k)
 below:Below w.heap.size w wr
theorem Rd.set {wr:World} {n k:Nat} {l:List Nat} (h:Rd w a n l k wr):Rd w a n l (k+1) (wr.setCell ⟨w.heap.size+1,k,none⟩ (.int .u64 ((l[k]?.getD 0:Nat):Int))):=
 ⟨h.box.of_block (Below.heap_setCell _ _ _ _ (by show w.heap.size≠w.heap.size+1;omega)),(h.row.set k _).congr (fun j _=>Pack.upto_step j),h.below.setCell (by show w.heap.size≤w.heap.size+1;omega) _⟩
theorem read_any (h:Up Q w a W st sn) (f n:Nat) (hf:f≤10000000) (hn:n≤4194304) :
 Calls Tryz.prog 31 #[.agg #[.pointer (some ⟨a,0,none⟩)],.int .i64 (f:Int),.int .i64 (n:Int)] w fun r w'=>
  ∃ g,r = .returned (.slice (some ⟨g,0,none⟩) n n)∧w.heap.size≤g∧w'.rowIs g 50 n (fun i=>.int .u64 (((rdw W f n)[i]?.getD 0:Nat):Int))∧Below w.heap.size w w':=by
 have H:=hid h;clear h;have HX:=hid (bx_new w a 76);have HB:=hid ((Below.refl w.heap.size w).alloc (Nat.le_refl _) (.cells #[.pointer (some ⟨a,0,none⟩)] 76));have HZ:=hid (World.size_alloc w (.cells #[.pointer (some ⟨a,0,none⟩)] 76));go_enter Tryz.func31,Tryz.ntmps31
 have hmk:=fun W=>Pm.run_new n (n:Int) rfl hn W
 go_wp2
 clear hmk;generalize w.alloc (.cells #[.pointer (some ⟨a,0,none⟩)] 76)=w1 at *;have hba:=(Below.refl w1.heap.size w1).alloc (Nat.le_refl _) (.cells (madeCells #[.int .u64 0] n) 50);have hrow:=(World.rowIs_made w1 (.int .u64 0) n 50).congr (g:=Pack.upto (rdw W f n) 0) (fun i _=>by simp[Pack.upto]);rw[HZ.out] at hrow;have HR:=hid (show Rd w a n (rdw W f n) 0 _ from ⟨HX.out.keep hba,hrow,HB.out.trans (hba.mono HB.out.size)⟩);clear hrow hba HX HB HZ;generalize w1.alloc (.cells (madeCells #[.int .u64 0] n) 50)=w2 at *;clear w1
 go_loopw [13] (fun i wr=>∃ (k:Nat),k≤n∧i = .int .i64 (k:Int)∧Rd w a n (rdw W f n) k wr) (fun i _=>n - (intOf i).toNat)
 case atStart=>exact⟨0,Nat.zero_le _,rfl,HR.out⟩
 case round=>
  obtain⟨k,hk,rfl,hrs⟩:=hrel
  have HS:=hid hrs;clear hrs HR;by_cases hlt:k < n
  · have HC:=hid (up_load (H.out.keep HS.out.below) (f+k))
    have hx:(rdw W f n)[k]?.getD 0=W[f+k]?.getD 0:=by
     have hl:k < (rdw W f n).length:=by rw[rdw_len];exact hlt
     rw[List.getElem?_eq_getElem hl,rdw_get];rfl
    have hi0:(0:Int)≤(k:Int):=by omega
    have hi1:(k:Int) < (n:Int):=by omega
    have hrc:=HS.out.row.cell hlt;have hrf:=HS.out.row.frozen k;have hc0:=HS.out.box.c0;have HS2:=hid HS.out.set;rw[hx] at HS2;clear hx;generalize W[f+k]?.getD 0=x at *;generalize hcast:((f+k:Nat):Int)=F at *;have hF:(f:Int)+(k:Int)=F:=by omega
    clear hcast;go_wp2_with fail
    refine HC.out.mono ?_;rintro e w' ⟨rfl,rfl⟩;go_wp2
    refine⟨⟨k+1,by omega,by go_num,HS2.out⟩,by simp[intOf];omega⟩
  · obtain rfl:k=n:=by omega
    go_wp2
    go_ret
    refine⟨_,rfl,by omega,HS.out.row.congr (fun i hi=>?_),HS.out.below⟩
    unfold Pack.upto;rw[if_pos hi]
theorem store_info:(Tryz.prog.info? 143).map (fun i=>(i.zero,i.size,i.bytes))=some (some (.agg #[.int .i64 0,.int .u64 0]),2,16):=by kernel_rfl
def stc (l:List (Nat × Nat)) (m i:Nat):Value:=
 if i / 2 < m then (if i % 2=0 then .int .i64 (((l[i / 2]?.getD (0,0)).1:Nat):Int) else .int .u64 (((l[i / 2]?.getD (0,0)).2:Nat):Int)) else if i % 2=0 then .int .i64 0 else .int .u64 0
theorem stc_step {l:List (Nat × Nat)} {m x y:Nat} (h:l[m]?.getD (0,0)=(x,y)) (j:Nat):(if j=m * 2+1 then Value.int .u64 (y:Int) else if j=m * 2 then Value.int .i64 (x:Int) else stc l m j)=stc l (m+1) j:=by
 unfold stc;by_cases h1:j=m * 2+1
 · subst h1
   rw[if_pos rfl,show (m * 2+1) / 2=m by omega,if_pos (by omega),if_neg (by omega),h]
 · rw[if_neg h1]
   by_cases h2:j=m * 2
   · subst h2
     rw[if_pos rfl,show m * 2 / 2=m by omega,if_pos (by omega),if_pos (by omega),h]
   · rw[if_neg h2]
     by_cases h3:j / 2 < m
     · rw[if_pos h3,if_pos (show j / 2 < m+1 by omega)]
     · rw[if_neg h3,if_neg (show ¬ j / 2 < m+1 by omega)]
theorem made_two (w:World) (n:Nat) (l:List (Nat × Nat)) (t:TypeId):(w.alloc (.cells (madeCells #[.int .i64 0,.int .u64 0] (n * 2)) t)).rowIs w.heap.size t (n * 2) (stc l 0):=by
 have h:=World.rowIs_alloc w (madeCells #[.int .i64 0,.int .u64 0] (n * 2)) t (stc l 0) (fun i hi=>by
  rw[size_madeCells] at hi;unfold stc;rw[if_neg (by omega)]
  have:i % 2=0∨i % 2=1:=by omega
  rcases this with h | h<;>simp[madeCells,hi,h])
 rwa [size_madeCells] at h
theorem sts_row {g n:Nat} {l:List (Nat × Nat)} {t:TypeId} (h:w.rowIs g t (n * 2) (stc l n)) (hl:l.length=n):Sts w g l:=by
 refine⟨h.lt,fun j hj=>?_⟩
 have h1:=h.cell (i:=j * 2) (by omega);have h2:=h.cell (i:=j * 2+1) (by omega);unfold stc at h1 h2;rw[if_pos (by omega),if_pos (by omega),show j * 2 / 2=j by omega,List.getElem?_eq_getElem hj] at h1;rw[if_pos (by omega),if_neg (by omega),show (j * 2+1) / 2=j by omega,List.getElem?_eq_getElem hj] at h2
 exact⟨h1,h2⟩
theorem storesOf_any (f:Nat) (A:Option Addr) (c:Nat) (l:List Nat) (h:Pack.Wds w A l) (hf:f≤10000000) (hl:l.length≤4194304) :
 Calls Tryz.prog 73 #[.int .i64 (f:Int),.slice A l.length c] w fun r w'=>
  r = .returned (.slice (some ⟨w.heap.size,0,none⟩) l.length l.length)∧Sts w' w.heap.size (sto f l)∧w'.rowIs w.heap.size 143 (l.length * 2) (stc (sto f l) l.length)∧Below w.heap.size w w':=by
 obtain⟨i0,hi0,hz0,hz1,hz2⟩:=info_parts store_info
 have hmk:=run_make (P:=Tryz.prog) w 140 143 i0 _ Tryz.underlying140 hi0 hz0 .i64 .i64 (l.length:Int) (l.length:Int) (by omega) (by omega) (by rw[hz2];omega) (by omega);rw[hz1] at hmk;simp only[Value.cells,Int.toNat_natCast] at hmk;have H:=hid h;have HR0:=hid (made_two w l.length (sto f l) 143);have HB0:=hid ((Below.refl w.heap.size w).alloc (Nat.le_refl _) (.cells (madeCells #[.int .i64 0,.int .u64 0] (l.length * 2)) 143));clear h;go_enter Tryz.func73,Tryz.ntmps73
 go_wp2
 generalize w.alloc (.cells (madeCells #[.int .i64 0,.int .u64 0] (l.length * 2)) 143)=w1 at *
 go_loopw [13] (fun i wr=>∃ (k:Nat),k≤l.length∧i = .int .i64 (k:Int)∧wr.rowIs w.heap.size 143 (l.length * 2) (stc (sto f l) k)∧Below w.heap.size w wr) (fun i _=>l.length - (intOf i).toNat)
 case atStart=>exact⟨0,Nat.zero_le _,rfl,HR0.out,HB0.out⟩
 case round=>
  obtain⟨k,hk,rfl,hrow,hbel⟩:=hrel
  have HS:=hid hrow;have HB:=hid hbel;clear hrow hbel HR0 HB0;by_cases hlt:k < l.length
  · obtain⟨b,o,rfl,hb,hcell⟩:=H.out.at' k hlt
    have hcell:=(HB.out.cell (p:=⟨b,o+k,none⟩) hb).trans hcell
    have hx:(sto f l)[k]?.getD (0,0)=(f+k,l[k]):=by
     have h1:k < (sto f l).length:=by rw[sto_len];exact hlt
     rw[List.getElem?_eq_getElem h1,sto_get,List.getElem?_eq_getElem hlt];rfl
    have HX:=hid hx;clear hx;generalize l[k]=x at *;have hi0:(0:Int)≤(k:Int):=by omega
    have hi1:(k:Int) < (l.length:Int):=by omega
    have hf0:=HS.out.frozen (k * 2);have hf1:=HS.out.frozen (k * 2+1);have hc0:=HS.out.cell (i:=k * 2) (by omega);have hc1:=HS.out.cell (i:=k * 2+1) (by omega);generalize hcast:((f+k:Nat):Int)=F at *;have hF:(f:Int)+(k:Int)=F:=by omega
    have HF:=hid hcast;clear hcast;go_wp2
    refine⟨⟨k+1,by omega,by go_num,?_,?_⟩,by simp[intOf];omega⟩
    · have h2:=((HS.out.set (k * 2) (.int .i64 F)).set (k * 2+1) (.int .u64 (x:Int)))
      rw[← HF.out] at h2;have h3:=h2.congr (fun j _=>stc_step HX.out j);rw[HF.out] at h3;exact h3
    · exact (HB.out.setCell (by show w.heap.size≤w.heap.size;omega) _).setCell (by show w.heap.size≤w.heap.size;omega) _
  · obtain rfl:k=l.length:=by omega
    go_wp2
    go_ret
    exact⟨rfl,sts_row HS.out (sto_len _ _),HS.out,HB.out⟩
end
end Vol
end
section
open Lib (hid)
open Go.RowKit Go.MapKept
namespace Vol
theorem compact_le (zs:List Int):(Lib.compact zs).length≤zs.length:=by
 unfold Lib.compact Lib.compactUpTo;rw[List.length_map];exact Nat.le_trans (List.length_filter_le _ _) (by rw[List.length_range];exact Nat.le_refl _)
theorem compact_any {w:World} {B n c:Nat} {G:Option Addr} {zs:List Int} (h:w.ownsRow B 3 1 (.slice G n c) n (Pack.i64s zs)) (hB:B≤w.heap.size) (hn:n≤4194304) :
 Calls Tryz.prog 189 #[.slice G n c] w fun r w'=>∃ (G':Option Addr) (c':Nat),r = .returned (.slice G' (Lib.compact zs).length c')∧w'.ownsRow B 3 1 (.slice G' (Lib.compact zs).length c') (Lib.compact zs).length (Pack.i64s (Lib.compact zs))∧Below B w w':=by
 have hl:zs.length=n:=by simpa [Pack.i64s] using h.1
 by_cases hv:(Value.slice G n c) = .slice none 0 0
 · injection hv with h1 h2 h3
   subst h1 h2 h3;obtain rfl:zs=[]:=List.length_eq_zero_iff.1 hl;refine (AnyG.slices_Compact_int_empty Tryz.compactA none 0 w).mono ?_;rintro r w' ⟨rfl,rfl⟩
   exact⟨none,0,rfl,World.ownsRow_nil _ _ _ _,Below.refl _ _⟩
 · obtain⟨g,cap,he,hb,hg,hnc,hcm,hl2,hH⟩:=Lib.holds_of_ownsRow (enc:=Value.int .i64) h hv
   injection he with h1 h2 h3
   subst h1 h3;have hc:=AnyG.slices_Compact_int Tryz.compactA g 0 c zs w hH (by omega) (by omega);rw[hl] at hc;refine hc.mono ?_;rintro r w' ⟨rfl,q,rfl⟩;have hle:=compact_le zs;have ho:=Lib.ownsRow_putRow (q:=q) (k:=(Lib.compact zs).length) (ys:=Lib.compact zs++List.replicate (n - (Lib.compact zs).length) 0) h (by simp;omega) (by omega);rw[List.take_left' rfl] at ho
   exact⟨_,_,rfl,ho,Lib.below_putRow (Below.refl _ _) hb⟩
def Ints (w0 w:World) (G:Option Addr) (l:List Int):Prop:=∀ j (h:j < l.length),∃ g,G=some ⟨g,0,none⟩∧w0.heap.size≤g∧g < w.heap.size∧w.cell? ⟨g,j,none⟩=some (.int .i64 l[j])
theorem ints_own {w0 w:World} {n c:Nat} {G:Option Addr} {l:List Int} (h:w.ownsRow w0.heap.size 3 1 (.slice G n c) n (Pack.i64s l)):Ints w0 w G l:=by
 intro j hj;have hl:l.length=n:=by simpa [Pack.i64s] using h.1
 obtain⟨g,e,hg,hc⟩:=Pack.own_cells h j (by omega)
 refine⟨g,e,Pack.row_base_lt h (by rw[e];rfl),hg,?_⟩
 rw[Nat.zero_add] at hc;rw[hc];simp[Pack.i64s,hj]
theorem i64s_lin {l:List (Nat × Nat)} {m:Nat} (h:m < l.length):Pack.i64s (lin (l.take (m+1)))=Pack.i64s (lin (l.take m))++[.int .i64 ((l[m].1 / 8:Nat):Int)]:=by
 unfold Pack.i64s lin;rw[List.take_succ_eq_append_getElem h,List.map_append,List.map_append];rfl
theorem linesOf_any (w:World) (g c:Nat) (l:List (Nat × Nat)) (h:Sts w g l) (hl:l.length≤4194304) (hs:∀ p∈l,p.1≤10000000) :
 Calls Tryz.prog 131 #[.slice (some ⟨g,0,none⟩) l.length c] w fun r w'=>∃ (G:Option Addr) (gc:Nat),r = .returned (.slice G (lns l).length gc)∧Ints w w' G (lns l)∧Below w.heap.size w w':=by
 have H:=hid h;have HS:=hid hs;clear h hs;go_enter Tryz.func131,Tryz.ntmps131
 go_wp2
 go_loopw [3,8] (fun v i wr=>∃ (k:Nat) (G:Option Addr) (gc:Nat),k≤l.length∧i = .int .i64 (k:Int)∧v = .slice G k gc∧wr.ownsRow w.heap.size 3 1 (.slice G k gc) k (Pack.i64s (lin (l.take k)))∧Below w.heap.size w wr) (fun _ i _=>l.length - (intOf i).toNat)
 case atStart=>exact⟨0,none,0,Nat.zero_le _,rfl,rfl,World.ownsRow_nil _ _ _ _,Below.refl _ _⟩
 case round=>
  obtain⟨k,G,gc,hk,rfl,rfl,hown,hbel⟩:=hrel
  have HOW:=hid hown;have HBW:=hid hbel;by_cases hlt:k < l.length
  · have HI:=hid (i64s_lin hlt)
    obtain⟨hc0,hc1⟩:=(H.out.keep hbel).at' k hlt
    have hxs:=HS.out _ (List.getElem_mem hlt);have hsz:=hbel.size;have hgl:=H.out.lt;clear hown hbel;generalize l[k]=p at *
    obtain⟨x,y⟩:=p
    simp only at hc0 hc1 hxs HI
    obtain⟨i1,hi1,hy0,hy1,hy2⟩:=info_parts Pm.int_info
    have hi0:(0:Int)≤(k:Int):=by omega
    have hi2:(k:Int) < (l.length:Int):=by omega
    have HO:=hid ((HOW.out.alloc (.cells #[.int .i64 (x:Int),.int .u64 (y:Int)] 143)).alloc (.cells #[.int .i64 ((x:Int) / 8)] 3));have HB:=hid ((HBW.out.alloc HBW.out.size (.cells #[.int .i64 (x:Int),.int .u64 (y:Int)] 143)).alloc (by have:=HBW.out.size;simp;omega) (.cells #[.int .i64 ((x:Int) / 8)] 3))
    go_wp2_with (at_builtin
                 refine wpList_append_own_at _ rfl (.tmp 12) (.tmp 16) 40 rfl w.heap.size 3 i1 (.int .i64 0) 1 8 Tryz.underlying40 hi1 hy0 hy1 hy2 rfl (by decide) (.slice G k gc) k (Pack.i64s (lin (l.take k))) rfl HO.out ⟨wr.heap.size+1,0,none⟩ 1 1 [.int .i64 ((x:Int) / 8)] rfl rfl (Pm.cell_one_new2 _ _ _ _) (by simp[Value.oneCell']) (by unfold maxLen;omega) (by omega) (by simp;omega) ?_;intro v' w3 hown3 hgr3 _ hat3
                 obtain⟨G3,c3,rfl⟩:=Pack.row_slice hown3
                 have HO3:=hid hown3;have HB3:=hid (HB.out.grown hgr3 (by simp;omega) (fun k hk=>Pack.row_base_lt HOW.out hk));clear hown3 hgr3 hat3)
    refine⟨⟨k+1,G3,c3,by omega,by go_num,rfl,?_,HB3.out⟩,by simp[intOf];omega⟩
    rw[HI.out];exact HO3.out
  · obtain rfl:k=l.length:=by omega
    rw[List.take_length] at hown;have HC:=hid (compact_any hown hbel.size hl);clear hown hbel HOW;go_wp2_with fail
    refine HC.out.mono ?_;rintro r w3 ⟨G',c',rfl,hown,hb⟩;have HI:=hid (ints_own (w0:=w) hown);have HB:=hid (HBW.out.trans hb);clear hown hb HC;go_wp2
    go_ret
    exact⟨G',c',rfl,HI.out,HB.out⟩
end Vol
end
section
open Lib (hid)
open Go.RowKit Go.MapKept
namespace Vol
section
variable {Q : Nat → Prop} {w : World} {a : Nat} {W : List Nat} {st sn : Nat}
def Fs (l:List (Nat × Nat)) (j:Nat):Prop:=∃ p∈l,p.1=j
def Fl (l:List (Nat × Nat)) (L:List Int) (k j:Nat):Prop:=Fs l j∧((j / 8:Nat):Int)∉L.take k
theorem fs_snoc {l:List (Nat × Nat)} {k x y:Nat} (h:k < l.length) (e:l[k]=(x,y)):∀ j,Fs (l.take k) j∨j=x→Fs (l.take (k+1)) j:=by
 rintro j (⟨p,hp,rfl⟩ | rfl)
 · exact⟨p,by rw[List.take_succ_eq_append_getElem h];exact List.mem_append_left _ hp,rfl⟩
 · exact⟨l[k],by rw[List.take_succ_eq_append_getElem h];exact List.mem_append_right _ (List.mem_singleton.2 rfl),by rw[e]⟩
theorem fl_snoc {l:List (Nat × Nat)} {L:List Int} {k q:Nat} (h:k < L.length) (e:L[k]=((q:Nat):Int)):∀ j,Fl l L k j∧j / 8≠q→Fl l L (k+1) j:=by
 rintro j ⟨⟨h1,h2⟩,h3⟩
 refine⟨h1,fun h4=>?_⟩
 rw[List.take_succ_eq_append_getElem h] at h4
 rcases List.mem_append.1 h4 with h4 | h4
 · exact h2 h4
 · rw[e] at h4
   have:=List.mem_singleton.1 h4
   omega
structure Wr (F:Nat→Prop) (Q:Nat→Prop) (w:World) (a b g:Nat) (W:List Nat) (st sn:Nat) (l:List (Nat × Nat)) (w':World):Prop where
 up:Upf F Q w' a W st sn
 kq:Kq Q w w'
 box:Bx w' b a
 sts:Sts w' g l
theorem Ints.kq {w0 w1 w2:World} {G:Option Addr} {l:List Int} (h:Ints w0 w1 G l) (hk:Kq Q w1 w2) (hq:∀ k,w0.heap.size≤k→k < w1.heap.size→Q k):Ints w0 w2 G l:=by
 intro j hj
 obtain⟨g,e,h1,h2,hc⟩:=h j hj
 have hb:=hk.at (hq g h1 h2) h2
 exact⟨g,e,h1,Nat.lt_of_lt_of_le h2 hk.size,(World.cell?_of_block (w:=w1) hb).trans hc⟩
structure Wl (F:Nat→Prop) (Q:Nat→Prop) (w0 w:World) (a b:Nat) (W:List Nat) (st sn:Nat) (G:Option Addr) (l:List Int) (w':World):Prop where
 up:Upf F Q w' a W st sn
 kq:Kq Q w w'
 box:Bx w' b a
 ints:Ints w0 w' G l
theorem write_any (h:Up Q w a W st sn) (g c:Nat) (l:List (Nat × Nat)) (hg:Sts w g l) (hq:Q g) (hW:∀ p∈l,p.1 < W.length∧p.2 < 18446744073709551616) (hs:st+2 * l.length < 100000000000) (hln:l.length≤4194304) :
 Calls Tryz.prog 75 #[.agg #[.pointer (some ⟨a,0,none⟩)],.slice (some ⟨g,0,none⟩) l.length c] w fun r w'=>
  r = .returned (.int .i64 0)∧Up Q w' a (puts W l) (st+l.length+(lns l).length) (sn+l.length)∧Kq Q w w':=by
 have hl:l.length < 100000000000:=by omega
 have hsz:=h.size;have HU:=hid h.u64;have HW:=hid hW;have hb0:=(Below.refl w.heap.size w).alloc (Nat.le_refl _) (.cells #[.pointer (some ⟨a,0,none⟩)] 76);have HX:=hid (bx_new w a 76);have HG:=hid (hg.keep hb0);have HUP:=hid (h.grow hb0);have HB0:=hid hb0;have HQ:=hid hq;have HZ:=hid (World.size_alloc w (.cells #[.pointer (some ⟨a,0,none⟩)] 76));clear h hg hq hW hb0;go_enter Tryz.func75,Tryz.ntmps75
 go_wp2
 generalize w.alloc (.cells #[.pointer (some ⟨a,0,none⟩)] 76)=w1 at *
 obtain⟨Q1,hQ1⟩:∃ Q1:Nat→Prop,Q1=fun k=>Q k∨(w.heap.size≤k∧k < w1.heap.size):=⟨_,rfl⟩
 rw[← hQ1] at HUP;have HQS:=hid (show ∀ k,Q k→Q1 k by rw[hQ1];exact fun k h=>.inl h);have HQB:=hid (show Q1 w.heap.size by rw[hQ1];exact .inr ⟨Nat.le_refl _,HX.out.lt⟩);have HQG:=hid (HQS.out _ HQ.out);clear hQ1;have HR:=hid (show Wr (Fs (l.take 0)) Q1 w1 a w.heap.size g (puts W (l.take 0)) (st+0) (sn+0) l w1 from ⟨Upf.mono HUP.out (fun _ h=>h.elim),Pm.Off.refl _ _,HX.out,HG.out⟩);clear HUP HX HG
 go_loopw [11] (fun i wr=>∃ (k:Nat),k≤l.length∧i = .int .i64 (k:Int)∧Wr (Fs (l.take k)) Q1 w1 a w.heap.size g (puts W (l.take k)) (st+k) (sn+k) l wr) (fun i _=>l.length - (intOf i).toNat)
 case atStart=>exact⟨0,Nat.zero_le _,rfl,HR.out⟩
 case round=>
  obtain⟨k,hk,rfl,hrs⟩:=hrel
  have HS:=hid hrs;clear hrs HR;by_cases hlt:k < l.length
  · obtain⟨hc0,hc1⟩:=HS.out.sts.at' k hlt
    have hbx:=HS.out.box.c0;have hgl:=HS.out.sts.lt;have hbl:=HS.out.box.lt
    obtain⟨hw1,hw2⟩:=HW.out _ (List.getElem_mem hlt)
    have HP:=hid (puts_step W l k hlt);have HFS:=hid (fun x y (e:l[k]=(x,y))=>fs_snoc hlt e);generalize l[k]=p at *
    obtain⟨x,y⟩:=p
    simp only at hc0 hc1 hw1 hw2 HP;have HFS:=hid (HFS.out x y rfl);have hb:=(Below.refl wr.heap.size wr).alloc (Nat.le_refl _) (.cells #[.int .i64 (x:Int),.int .u64 (y:Int)] 143);have hup:=HS.out.up.keep hb;have HC:=hid (up_store hup x y (by rw[puts_len];exact hw1) hw2 (by omega));have HB:=hid hb;have HX:=hid (HS.out.box.keep hb);have HG:=hid (HS.out.sts.keep hb);have hi0:(0:Int)≤(k:Int):=by omega
    have hi1:(k:Int) < (l.length:Int):=by omega
    clear hup hb;go_wp2_with fail
    refine HC.out.mono ?_;rintro e w2 ⟨rfl,hu2,hk2⟩
    have HS2:=hid (show Wr (Fs (l.take (k+1))) Q1 w1 a w.heap.size g (puts W (l.take (k+1))) (st+(k+1)) (sn+(k+1)) l w2 from
     ⟨by rw[HP.out];exact hu2.mono HFS.out,HS.out.kq.trans ((kq_below HB.out).trans hk2),HX.out.kq hk2 HQB.out,HG.out.kq hk2 HQG.out⟩)
    clear hu2 hk2 HC;go_wp2
    refine⟨⟨k+1,by omega,by go_num,HS2.out⟩,by simp[intOf];omega⟩
  · obtain rfl:k=l.length:=by omega
    obtain⟨wo,hwo⟩:∃ wo,wo=wr:=⟨_,rfl⟩
    rw[← hwo] at HS ⊢;clear hwo;have HC:=hid (linesOf_any wo g c l HS.out.sts hln (fun p hp=>by have:=(HW.out p hp).1;omega));go_wp2_with fail
    refine HC.out.mono ?_;rintro r w3 ⟨G,gc,rfl,hin,hb⟩;rw[List.take_length] at HS
    obtain⟨Q2,hQ2⟩:∃ Q2:Nat→Prop,Q2=fun k=>Q1 k∨(wo.heap.size≤k∧k < w3.heap.size):=⟨_,rfl⟩
    have hup:=HS.out.up.grow hb;rw[← hQ2] at hup;have HQ2:=hid (show ∀ k,Q1 k→Q2 k by rw[hQ2];exact fun k h=>.inl h);have HQL:=hid (show ∀ k,wo.heap.size≤k→k < w3.heap.size→Q2 k by rw[hQ2];exact fun k h1 h2=>.inr ⟨h1,h2⟩);clear hQ2;have HL:=hid (show Wl (Fl l (lns l) 0) Q2 wo w3 a w.heap.size (puts W l) (st+l.length+0) (sn+l.length) G (lns l) w3 from ⟨Upf.mono hup (fun _ h=>⟨h,by simp⟩),Pm.Off.refl _ _,HS.out.box.keep hb,hin⟩);have HIN:=hid hin;have HKA:=hid (HS.out.kq.trans (kq_below hb));have HM:=hid (lns_mem l);have HHS:=hid (fun p h=>lns_has (l:=l) (p:=p) h);have hml:=lns_le l;clear hup hin hb HC HS
    obtain⟨L,hL⟩:∃ L,L=lns l:=⟨_,rfl⟩
    rw[← hL] at HL HM hml HIN HHS;have HLL:=hid hL;rw[← hL];clear hL;go_wp2
    go_loopw [27] (fun i ww=>∃ (j:Nat),j≤L.length∧i = .int .i64 (j:Int)∧Wl (Fl l L j) Q2 wo w3 a w.heap.size (puts W l) (st+l.length+j) (sn+l.length) G L ww) (fun i _=>L.length - (intOf i).toNat)
    case atStart=>exact⟨0,Nat.zero_le _,rfl,HL.out⟩
    case round=>
     obtain⟨j,hj,rfl,hrs⟩:=hrel
     have HS:=hid hrs;clear hrs HL;by_cases hjl:j < L.length
     · obtain⟨g',rfl,hg1,hg2,hcl⟩:=HS.out.ints j hjl
       obtain⟨p,hp,hpe⟩:=HM.out _ (List.getElem_mem hjl)
       have hpl:=(HW.out p hp).1;rw[hpe] at hcl;have HFL:=hid (fun q (e:p.1 / 8=q)=>fl_snoc (l:=l) hjl (hpe.trans (by rw[e])));clear hpe hp;generalize hq:p.1 / 8=q at *;have HFL:=hid (HFL.out q rfl);have HC:=hid (up_flush HS.out.up q (by rw[puts_len];omega) (by omega));have hbx:=HS.out.box.c0;have hbl:=HS.out.box.lt;have hi0:(0:Int)≤(j:Int):=by omega
       have hi1:(j:Int) < (L.length:Int):=by omega
       clear hq hpl;go_wp2_with fail
       refine HC.out.mono ?_;rintro e w5 ⟨rfl,hu5,hk5⟩
       have HS5:=hid (show Wl (Fl l L (j+1)) Q2 wo w3 a w.heap.size (puts W l) (st+l.length+(j+1)) (sn+l.length) (some ⟨g',0,none⟩) L w5 from
        ⟨hu5.mono HFL.out,HS.out.kq.trans hk5,HS.out.box.kq hk5 (HQ2.out _ HQB.out),?_⟩)
       · clear hu5 hk5 HC
         go_wp2
         refine⟨⟨j+1,by omega,by go_num,HS5.out⟩,by simp[intOf];omega⟩
       · exact HIN.out.kq (HS.out.kq.trans hk5) HQL.out
     · obtain rfl:j=L.length:=by omega
       go_wp2
       go_ret
       refine⟨rfl,by rw[← HLL.out];exact (HS.out.up.sub (fun k h=>HQ2.out k (HQS.out k h))).mono (fun j hj=>by
        obtain⟨⟨p,hp,rfl⟩,h2⟩:=hj
        rw[List.take_length] at h2;exact h2 (HHS.out p hp)),?_⟩
       exact (kq_below HB0.out).trans ((HKA.out.sub HQS.out).trans (HS.out.kq.sub (fun k h=>HQ2.out k (HQS.out k h))))
end
end Vol
end
section
open Lib (hid)
open Go.RowKit Go.MapKept
namespace Vol
section
variable {Q Q' : Nat → Prop} {w w' : World} {vb a n m s : Nat} {W : List Nat} {st sn : Nat}
structure Vo (Q:Nat→Prop) (w:World) (vb a n m s:Nat) (W:List Nat) (st sn:Nat):Prop where
 vol:w.heap[vb]? = some (.cells #[.pointer (some ⟨a,0,none⟩),.int .i64 (n:Int),.int .i64 (m:Int),.int .i64 (s:Int)] 78 (0,0))
 q:Q vb
 up:Up Q w a W st sn
 may:Geo.may n m s=true
 len:(W.length:Int)=Geo.fin n m s
theorem Vo.lt (h:Vo Q w vb a n m s W st sn):vb < w.heap.size:=Pm.lt_of_some h.vol
theorem Vo.keep (h:Vo Q w vb a n m s W st sn) (hb:Below w.heap.size w w'):Vo Q w' vb a n m s W st sn:=⟨(hb.block vb h.lt).trans h.vol,h.q,h.up.keep hb,h.may,h.len⟩
theorem Vo.grow (h:Vo Q w vb a n m s W st sn) (hb:Below w.heap.size w w'):Vo (fun k=>Q k∨(w.heap.size≤k∧k < w'.heap.size)) w' vb a n m s W st sn:=⟨(hb.block vb h.lt).trans h.vol,.inl h.q,h.up.grow hb,h.may,h.len⟩
theorem Vo.sub (h:Vo Q w vb a n m s W st sn) (hs:∀ k,Q' k→Q k) (hq:Q' vb):Vo Q' w vb a n m s W st sn:=⟨h.vol,hq,h.up.sub hs,h.may,h.len⟩
theorem Vo.cells (h:Vo Q w vb a n m s W st sn):w.cell? ⟨vb,0,none⟩=some (.pointer (some ⟨a,0,none⟩))∧w.cell? ⟨vb,1,none⟩=some (.int .i64 (n:Int))∧w.cell? ⟨vb,2,none⟩=some (.int .i64 (m:Int))∧w.cell? ⟨vb,3,none⟩=some (.int .i64 (s:Int)):=
 ⟨Pm.blk_cell h.vol 0,Pm.blk_cell h.vol 1,Pm.blk_cell h.vol 2,Pm.blk_cell h.vol 3⟩
theorem Vo.next (h:Vo Q w vb a n m s W st sn) {W':List Nat} {st' sn':Nat} (hu:Up Q w' a W' st' sn') (hk:Kq Q w w') (hl:W'.length=W.length):Vo Q w' vb a n m s W' st' sn':=
 ⟨(hk.at h.q h.lt).trans h.vol,h.q,hu,h.may,by rw[hl];exact h.len⟩
theorem up_read (h:Up Q w a W st sn) (hm:Geo.may n m s=true) (hl:(W.length:Int)=Geo.fin n m s) (h8:rdw W 0 8=Sup.sb n m s) :
 Calls Tryz.prog 26 #[.pointer (some ⟨a,0,none⟩)] w fun r w'=>r = .returned (.tuple #[.agg #[.int .i64 (n:Int),.int .i64 (m:Int),.int .i64 (s:Int)],.int .i64 0])∧Below w.heap.size w w':=by
 obtain⟨A,hv,_,hw,h64,_⟩:=h
 have hu:Sup.U64 A.words:=by
  intro x hx;rw[hw] at hx
  obtain⟨y,hy,rfl⟩:=List.mem_map.1 hx
  have:=h64 y hy
  simp only[Int.ofNat_eq_natCast];omega
 have hr:=Sup.read_any hv.ses hu
 have e:Sup.rd A=rdw W 0 8:=by
  refine List.ext_getElem (by rw[Sup.rd_len,rdw_len]) (fun i h1 h2=>?_);rw[rdw_get];have h3:i < 8:=by rwa [Sup.rd_len] at h1
  have:=Sup.rd_get A h3
  rw[List.getElem?_eq_getElem h1] at this;refine Eq.trans (b:=(A.words[i]?.getD 0).toNat) (by simpa using this) ?_;rw[hw,List.getElem?_map,Nat.zero_add]
  cases W[i]? with
  | none=>rfl
  | some y=>simp
 have hon:Sup.ron (Sup.rd A) A.words.length=some (n,m,s):=by
  rw[e,h8];unfold Sup.ron;rw[Sup.dec_sb hm];simp only;rw[if_pos (by rw[hw,List.length_map];exact hl.symm)]
 rw[hon] at hr;exact hr
theorem open_any (h:Up Q w a W st sn) (hm:Geo.may n m s=true) (hl:(W.length:Int)=Geo.fin n m s) (h8:rdw W 0 8=Sup.sb n m s) :
 Calls Tryz.prog 16 #[.pointer (some ⟨a,0,none⟩)] w fun r w'=>∃ vb,r = .returned (.tuple #[.pointer (some ⟨vb,0,none⟩),.int .i64 0])∧w.heap.size≤vb ∧
  Vo (fun k=>Q k∨(w.heap.size≤k∧k < w'.heap.size)) w' vb a n m s W st sn∧Below w.heap.size w w':=by
 have HC:=hid (up_read h hm hl h8);have H:=hid h;have HM:=hid hm;have HL:=hid hl;clear h hm hl h8;go_enter Tryz.func16,Tryz.ntmps16
 go_wp2_with fail
 refine HC.out.mono ?_;rintro r w1 ⟨rfl,hb⟩;have HB:=hid hb;clear hb HC;go_wp2
 go_ret2;have hb0:=HB.out.alloc HB.out.size (.cells #[.int .i64 (n:Int),.int .i64 (m:Int),.int .i64 (s:Int)] 72);have hz:=World.size_alloc w1 (.cells #[.int .i64 (n:Int),.int .i64 (m:Int),.int .i64 (s:Int)] 72);generalize w1.alloc (.cells #[.int .i64 (n:Int),.int .i64 (m:Int),.int .i64 (s:Int)] 72)=w2 at *;have hb1:=hb0.alloc hb0.size (.cells #[.pointer (some ⟨a,0,none⟩),.int .i64 (n:Int),.int .i64 (m:Int),.int .i64 (s:Int)] 78)
 refine⟨w1.heap.size+1,rfl,Nat.le_succ_of_le HB.out.size,⟨?_,.inr ⟨Nat.le_succ_of_le HB.out.size,by simp;omega⟩,H.out.grow hb1,HM.out,HL.out⟩,hb1⟩
 have:=(heap_alloc w2 (.cells #[.pointer (some ⟨a,0,none⟩),.int .i64 (n:Int),.int .i64 (m:Int),.int .i64 (s:Int)] 78)).1
 rw[hz] at this;exact this
theorem geometry_any (h:Vo Q w vb a n m s W st sn):Calls Tryz.prog 27 #[.pointer (some ⟨vb,0,none⟩)] w fun r w'=>r = .returned (.agg #[.int .i64 (n:Int),.int .i64 (m:Int),.int .i64 (s:Int)])∧Below w.heap.size w w':=by
 obtain⟨c0,c1,c2,c3⟩:=h.cells
 have hlt:=h.lt;clear h;go_enter Tryz.func27,Tryz.ntmps27
 go_wp2
 refine bodyPost_ret (v:=.agg #[.int .i64 (n:Int),.int .i64 (m:Int),.int .i64 (s:Int)]) ?_ rfl ⟨rfl,?_⟩
 · simp[results,Tryz.results27,go_sem]
 · exact (Below.refl _ _).alloc (Nat.le_refl _) _
theorem isNone_any (w:World) (p:Int):Calls Tryz.prog 110 #[.int .i64 p] w fun r w'=>r = .returned (.bool (decide (p < 0)))∧w=w':=by
 go_enter Tryz.func110,Tryz.ntmps110
 go_wp2
 go_ret
 exact⟨rfl,rfl⟩
theorem sync_ls (h:Vo Q w vb a n m s W st sn) (hs:st+1 < 100000000000):Calls Tryz.prog 38 #[.pointer (some ⟨vb,0,none⟩)] w fun r w'=>r = .returned (.int .i64 0)∧Vo Q w' vb a n m s W (st+1) sn∧Ls Q w' a W (st+1) sn∧Kq Q w w':=by
 obtain⟨c0,c1,c2,c3⟩:=h.cells
 have hlt:=h.lt;have HC:=hid (up_fence h.up hs);have H:=hid h;clear h;go_enter Tryz.func38,Tryz.ntmps38
 go_wp2_with fail
 refine HC.out.mono ?_;rintro r w1 ⟨rfl,hu,hk⟩;have HU:=hid hu;have HK:=hid hk;clear hu hk HC;go_wp2
 go_ret
 exact⟨rfl,H.out.next HU.out.up HK.out rfl,HU.out,HK.out⟩
theorem sync_any (h:Vo Q w vb a n m s W st sn) (hs:st+1 < 100000000000):Calls Tryz.prog 38 #[.pointer (some ⟨vb,0,none⟩)] w fun r w'=>r = .returned (.int .i64 0)∧Vo Q w' vb a n m s W (st+1) sn∧Kq Q w w':=
 (sync_ls h hs).mono fun _ _ ⟨h1,h2,_,h4⟩=>⟨h1,h2,h4⟩
end
end Vol
end
section
open Go.RowKit Go.MapKept
namespace Chk
open Bm (Chg)
abbrev St:=List (Int × ByteArray)
def keys (S:St):List Int:=S.map (·.1)
def pent (i:Nat) (p:Int × ByteArray):MapEntry:=⟨.int .i64 p.1,.string p.2,i⟩
def pents (l:St):List MapEntry:=l.mapIdx pent
theorem pents_snoc (l:St) (p:Int × ByteArray):pents (l++[p])=pents l++[pent l.length p]:=by
 unfold pents;rw[List.mapIdx_append];simp
theorem mem_pents {l:St} {e:MapEntry} (h:e∈pents l):∃ i p,p∈l∧e=pent i p:=by
 unfold pents at h
 obtain⟨i,hi,rfl⟩:=List.mem_mapIdx.1 h
 exact⟨i,l[i],List.getElem_mem hi,rfl⟩
theorem find_none (s:Int):∀ (es:List MapEntry) (i:Nat),(∀ e∈es,∃ j p,p.1≠s∧e=pent j p)→Instr.findNow (.int .i64) (.int .i64 s) es i=some none
 | [],_,_=>rfl
 | e :: r,i,h=>by
   obtain⟨j,p,ht,rfl⟩:=h e (List.mem_cons_self ..)
   have hne:(s == p.1)=false:=by simp;exact fun e=>ht e.symm
   simp only[Instr.findNow,pent,Instr.sameNow,if_true,hne];exact find_none s r (i+1) (fun e he=>h e (List.mem_cons_of_mem _ he))
theorem find_some (s:Int):∀ (es:List MapEntry) (i:Nat),(∀ e∈es,∃ j p,e=pent j p)→(∃ j t,pent j (s,t)∈es)→∃ k t,Instr.findNow (.int .i64) (.int .i64 s) es i=some (some (k,.string t))
 | [],_,_,h=>by
   obtain⟨j,t,h⟩:=h
   simp at h
 | e :: r,i,h,hx=>by
   obtain⟨j,p,rfl⟩:=h e (List.mem_cons_self ..)
   by_cases ht:s=p.1
   · exact⟨i,p.2,by simp[Instr.findNow,pent,Instr.sameNow,ht]⟩
   · have hne:(s == p.1)=false:=by simp;exact ht
     obtain⟨j',t',hj⟩:=hx
     obtain⟨k,t,hk⟩:=find_some s r (i+1) (fun e he=>h e (List.mem_cons_of_mem _ he)) ⟨j',t',by
      rcases List.mem_cons.1 hj with h1 | h1
      · simp[pent] at h1
        first | exact absurd h1.1.1 ht | exact absurd h1.1 ht
      · exact h1⟩
     refine⟨k,t,?_⟩
     simp only[Instr.findNow,pent,Instr.sameNow,if_true,hne];exact hk
def putMap (w:World) (b:Nat) (es:List MapEntry) (c:Nat):World:={ w with heap:=w.heap.setIfInBounds b (.map es.toArray c) }
def Mm (w:World) (b:Nat) (S:St):Prop:=w.heap[b]? = some (.map (pents S).toArray S.length)
section
variable {w w' : World} {b : Nat} {S : St}
theorem Mm.lt (h:Mm w b S):b < w.heap.size:=Pm.lt_of_some h
theorem Mm.keep (h:Mm w b S) (hb:Below w.heap.size w w'):Mm w' b S:=(hb.block b h.lt).trans h
theorem Mm.drew (h:Mm w b S):Mm w.drew b S:=h
theorem Mm.put (h:Mm w b S) (p:Int × ByteArray):Mm (putMap w b (pents (S++[p])) (S.length+1)) b (S++[p]):=by
 unfold Mm;rw[List.length_append];simp[putMap,h.lt]
theorem putMap_chg {q:Nat} {w0:World} (h:Chg q w0 w) (es:List MapEntry) (c:Nat):Chg q w0 (putMap w q es c):=
 h.trans ⟨rfl,rfl,rfl,by simp[putMap],fun k _ hn=>by
  have:q≠k:=fun e=>hn e.symm
  simp[putMap,this]⟩
theorem isKey (k:Int):IsKey (.int .i64) (.int .i64 k):=by simp[IsKey]
theorem run_look_no {s:Int} (h:Mm w b S) (hs:s∉keys S):(Instr.lookup 66 (.map (some b)) (.int .i64 s) true).run Tryz.prog w = .ok (.tuple #[.string ⟨#[]⟩,.bool false]) w:=by
 have hf:=find_none s (pents S) 0 (fun e he=>by
  obtain⟨i,p,hp,rfl⟩:=mem_pents he
  exact⟨i,p,fun e=>hs (e ▸ List.mem_map.2 ⟨p,hp,rfl⟩),rfl⟩)
 have hb:w.heap[b]? = some (.map (pents S).toArray S.length):=h;simp[Instr.lookup,run_underlying Tryz.underlying66,MapKept.run_getObj_map hb,run_checkKey Tryz.underlying3 (isKey s),run_findKey Tryz.underlying3 hf,Result.andThen]
theorem run_look_yes {s:Int} (h:Mm w b S) (hs:s∈keys S):∃ t,(Instr.lookup 66 (.map (some b)) (.int .i64 s) true).run Tryz.prog w = .ok (.tuple #[.string t,.bool true]) w:=by
 obtain⟨k,t,hf⟩:=find_some s (pents S) 0 (fun e he=>by
  obtain⟨i,p,_,rfl⟩:=mem_pents he
  exact⟨i,p,rfl⟩) (by
  obtain⟨p,hp,rfl⟩:=List.mem_map.1 hs
  obtain⟨i,hi,rfl⟩:=List.getElem_of_mem hp
  exact⟨i,S[i].2,by
   unfold pents;exact List.mem_mapIdx.2 ⟨i,hi,rfl⟩⟩)
 have hb:w.heap[b]? = some (.map (pents S).toArray S.length):=h
 refine⟨t,?_⟩
 simp only[Instr.lookup,Sem.run_bind,run_underlying Tryz.underlying66,Result.andThen,MapKept.run_getObj_map hb,Sem.run_pure,run_checkKey Tryz.underlying3 (isKey s),run_findKey Tryz.underlying3 hf];rfl
theorem run_put {s:Int} (t:ByteArray) (h:Mm w b S) (hs:s∉keys S):(Instr.mapUpdate 66 (.map (some b)) (.int .i64 s) (.string t)).run Tryz.prog w = .ok () (putMap w b (pents (S++[(s,t)])) (S.length+1)):=by
 have hf:=find_none s (pents S) 0 (fun e he=>by
  obtain⟨i,p,hp,rfl⟩:=mem_pents he
  exact⟨i,p,fun e=>hs (e ▸ List.mem_map.2 ⟨p,hp,rfl⟩),rfl⟩)
 have hb:w.heap[b]? = some (.map (pents S).toArray S.length):=h;simp only[Instr.mapUpdate,Sem.run_bind,run_underlying Tryz.underlying66,Result.andThen,MapKept.run_getObj_map hb,run_checkKey Tryz.underlying3 (isKey s),run_findKey Tryz.underlying3 hf,run_setObj_map _ hb];simp[putMap,pents_snoc,pent]
theorem run_len (h:Mm w b S) (ty:TypeId):(Builtin.len_ #[66] ty #[.map (some b)]).run Tryz.prog w = .ok (.int .i64 (S.length:Int)) w:=by
 have hb:w.heap[b]? = some (.map (pents S).toArray S.length):=h;simp[Builtin.len_,run_underlying Tryz.underlying66,MapKept.run_getObj_map hb,Result.andThen,pents,goInt]
end
end Chk
end
section
open Lib (hid)
open Go.RowKit Go.MapKept
namespace Chn
def kent (i:Nat) (k:Int):MapEntry:=⟨.int .i64 k,.bool true,i⟩
def kents (l:List Int):List MapEntry:=l.mapIdx kent
theorem kents_snoc (l:List Int) (k:Int):kents (l++[k])=kents l++[kent l.length k]:=by
 unfold kents;rw[List.mapIdx_append];simp
theorem mem_kents {l:List Int} {e:MapEntry} (h:e∈kents l):∃ i k,k∈l∧e=kent i k:=by
 unfold kents at h
 obtain⟨i,hi,rfl⟩:=List.mem_mapIdx.1 h
 exact⟨i,l[i],List.getElem_mem hi,rfl⟩
theorem find_none (s:Int):∀ (es:List MapEntry) (i:Nat),(∀ e∈es,∃ j t,t≠s∧e=kent j t)→Instr.findNow (.int .i64) (.int .i64 s) es i=some none
 | [],_,_=>rfl
 | e :: r,i,h=>by
   obtain⟨j,t,ht,rfl⟩:=h e (List.mem_cons_self ..)
   have hne:(s == t)=false:=by simp;exact fun e=>ht e.symm
   simp only[Instr.findNow,kent,Instr.sameNow,if_true,hne];exact find_none s r (i+1) (fun e he=>h e (List.mem_cons_of_mem _ he))
theorem find_some (s:Int):∀ (es:List MapEntry) (i:Nat),(∀ e∈es,∃ j t,e=kent j t)→(∃ j,kent j s∈es)→∃ k,Instr.findNow (.int .i64) (.int .i64 s) es i=some (some (k,.bool true))
 | [],_,_,h=>by
   obtain⟨j,h⟩:=h
   simp at h
 | e :: r,i,h,hx=>by
   obtain⟨j,t,rfl⟩:=h e (List.mem_cons_self ..)
   by_cases ht:s=t
   · subst ht
     exact⟨i,by simp[Instr.findNow,kent,Instr.sameNow]⟩
   · have hne:(s == t)=false:=by simp;exact ht
     obtain⟨j',hj⟩:=hx
     obtain⟨k,hk⟩:=find_some s r (i+1) (fun e he=>h e (List.mem_cons_of_mem _ he)) ⟨j',by
      rcases List.mem_cons.1 hj with h1 | h1
      · simp[kent] at h1
        exact absurd h1.1 ht
      · exact h1⟩
     refine⟨k,?_⟩
     simp only[Instr.findNow,kent,Instr.sameNow,if_true,hne];exact hk
def putMap (w:World) (b:Nat) (es:List MapEntry) (c:Nat):World:={ w with heap:=w.heap.setIfInBounds b (.map es.toArray c) }
theorem putMap_at {w:World} {b c:Nat} {es:List MapEntry} (hb:b < w.heap.size):(putMap w b es c).heap[b]? = some (.map es.toArray c):=by simp[putMap,hb]
theorem putMap_below {w0 w:World} {N b c:Nat} {es:List MapEntry} (h:Below N w0 w) (hb:N≤b):Below N w0 (putMap w b es c):=
 h.trans ⟨rfl,rfl,rfl,by simp[putMap],fun k hk=>by
  have:b≠k:=by omega
  simp[putMap,this]⟩
theorem isKey (k:Int):IsKey (.int .i64) (.int .i64 k):=by simp[IsKey]
section
variable {w : World} {b c : Nat} {l : List Int} {s : Int}
theorem run_look_no (hb:w.heap[b]? = some (.map (kents l).toArray c)) (hs:s∉l):(Instr.lookup 300 (.map (some b)) (.int .i64 s) false).run Tryz.prog w = .ok (.bool false) w:=by
 have hf:=find_none s (kents l) 0 (fun e he=>by
  obtain⟨i,t,ht,rfl⟩:=mem_kents he
  exact⟨i,t,fun h=>hs (h ▸ ht),rfl⟩)
 simp[Instr.lookup,run_underlying Tryz.underlying300,MapKept.run_getObj_map hb,run_checkKey Tryz.underlying3 (isKey s),run_findKey Tryz.underlying3 hf,Result.andThen]
theorem run_look_yes (hb:w.heap[b]? = some (.map (kents l).toArray c)) (hs:s∈l):(Instr.lookup 300 (.map (some b)) (.int .i64 s) false).run Tryz.prog w = .ok (.bool true) w:=by
 obtain⟨k,hf⟩:=find_some s (kents l) 0 (fun e he=>by
  obtain⟨i,t,_,rfl⟩:=mem_kents he
  exact⟨i,t,rfl⟩) (by
  obtain⟨i,hi,rfl⟩:=List.getElem_of_mem hs
  exact⟨i,by
   unfold kents;exact List.mem_mapIdx.2 ⟨i,hi,rfl⟩⟩)
 simp only[Instr.lookup,Sem.run_bind,run_underlying Tryz.underlying300,Result.andThen,MapKept.run_getObj_map hb,Sem.run_pure,run_checkKey Tryz.underlying3 (isKey s),run_findKey Tryz.underlying3 hf];rfl
theorem run_put (hb:w.heap[b]? = some (.map (kents l).toArray l.length)) (hs:s∉l):(Instr.mapUpdate 300 (.map (some b)) (.int .i64 s) (.bool true)).run Tryz.prog w = .ok () (putMap w b (kents (l++[s])) (l.length+1)):=by
 have hf:=find_none s (kents l) 0 (fun e he=>by
  obtain⟨i,t,ht,rfl⟩:=mem_kents he
  exact⟨i,t,fun h=>hs (h ▸ ht),rfl⟩)
 simp only[Instr.mapUpdate,Sem.run_bind,run_underlying Tryz.underlying300,Result.andThen,MapKept.run_getObj_map hb,run_checkKey Tryz.underlying3 (isKey s),run_findKey Tryz.underlying3 hf,run_setObj_map _ hb];simp[putMap,kents_snoc,kent]
end
structure Prs (w:World) (A:Option Addr) (l:List (Int × Int)):Prop where
 i64:∀ r∈l,(-9223372036854775808≤r.1∧r.1≤9223372036854775807)∧(-9223372036854775808≤r.2∧r.2≤9223372036854775807)
 len:l.length≤9223372036854775807
 at':∀ j (h:j < l.length),∃ b o,A=some ⟨b,o,none⟩∧b < w.heap.size∧w.cell? ⟨b,o+j * 2,none⟩=some (.int .i64 l[j].1)∧w.cell? ⟨b,o+j * 2+1,none⟩=some (.int .i64 l[j].2)
theorem Prs.keep {w w':World} {A:Option Addr} {l:List (Int × Int)} (h:Prs w A l) (hb:Below w.heap.size w w'):Prs w' A l:=
 ⟨h.i64,h.len,fun j hj=>by
   obtain⟨b,o,e,hlt,hc,hd⟩:=h.at' j hj
   exact⟨b,o,e,Nat.lt_of_lt_of_le hlt hb.size,(hb.cell (p:=⟨b,o+j * 2,none⟩) hlt).trans hc,(hb.cell (p:=⟨b,o+j * 2+1,none⟩) hlt).trans hd⟩⟩
def win (n:Nat) (x c:Int):Bool:=decide (1≤c∧0≤x∧x≤(n:Int) - c)
theorem runOf_any (w:World) (x c q:Int):Calls Tryz.prog 114 #[.agg #[.int .i64 x,.int .i64 c,.int .i64 q]] w fun r w'=>r = .returned (.agg #[.int .i64 x,.int .i64 c])∧Below w.heap.size w w':=by
 go_enter Tryz.func114,Tryz.ntmps114
 go_wp2
 refine bodyPost_ret (v:=.agg #[.int .i64 x,.int .i64 c]) ?_ rfl ⟨rfl,?_⟩
 · simp[results,Tryz.results114,go_sem]
 · first
   | exact ((Below.refl _ _).alloc (Nat.le_refl _) _).alloc (by simp) _
   | exact (Below.refl _ _).alloc (Nat.le_refl _) _
theorem within_any (w:World) (n:Nat) (x c:Int) (hn:n≤1000000) (hc:c≤9223372036854775807):Calls Tryz.prog 113 #[.int .i64 (n:Int),.agg #[.int .i64 x,.int .i64 c]] w fun r w'=>r = .returned (.bool (win n x c))∧Below w.heap.size w w':=by
 have HW:=hid (show win n x c=decide (1≤c∧0≤x∧x≤(n:Int) - c) from rfl);generalize win n x c=r at *;go_enter Tryz.func113,Tryz.ntmps113
 go_wp2_with fail
 all_goals have hr:=HW.out
 all_goals first
  | rw[decide_eq_false (by omega)] at hr
  | rw[show decide (1≤c∧0≤x∧x≤(n:Int) - c)=decide (x≤(n:Int) - c) from decide_eq_decide.2 (by omega)] at hr
 all_goals subst hr
 all_goals go_ret
 all_goals exact⟨rfl,(Below.refl _ _).alloc (Nat.le_refl _) _⟩
def MayW (n:Nat) (ss:List Int) (rs:List (Int × Int)):Prop:=ss.length=rs.length∧(∀ s∈ss,0≤s∧s < (n:Int))∧ss.Nodup∧∀ r∈rs,win n r.1 r.2=true
instance (n:Nat) (ss:List Int) (rs:List (Int × Int)):Decidable (MayW n ss rs):=inferInstanceAs (Decidable (_∧_∧_∧_))
def mayW (n:Nat) (ss:List Int) (rs:List (Int × Int)):Bool:=decide (MayW n ss rs)
structure Good (n:Nat) (ss:List Int) (rs:List (Int × Int)) (m:Nat):Prop where
 slot:∀ s∈ss.take m,0≤s∧s < (n:Int)
 once:(ss.take m).Nodup
 run:∀ r∈rs.take m,win n r.1 r.2=true
theorem Good.zero (n:Nat) (ss:List Int) (rs:List (Int × Int)):Good n ss rs 0:=⟨fun s h=>by simp at h,by simp,fun r h=>by simp at h⟩
theorem Good.next {n:Nat} {ss:List Int} {rs:List (Int × Int)} {m:Nat} (h:Good n ss rs m) (hs:m < ss.length) (hr:m < rs.length) (h0:0≤ss[m]) (h1:ss[m] < (n:Int)) (h2:ss[m]∉ss.take m) (h3:win n rs[m].1 rs[m].2=true):Good n ss rs (m+1):=by
 refine⟨fun s k=>?_,?_,fun r k=>?_⟩
 · rw[List.take_succ_eq_append_getElem hs,List.mem_append] at k
   rcases k with k | k
   · exact h.slot s k
   · obtain rfl:s=ss[m]:=by simpa using k
     exact⟨h0,h1⟩
 · rw[List.take_succ_eq_append_getElem hs,List.nodup_append]
   refine⟨h.once,by simp,fun a ha b hb=>?_⟩
   obtain rfl:b=ss[m]:=by simpa using hb
   exact fun e=>h2 (e ▸ ha)
 · rw[List.take_succ_eq_append_getElem hr,List.mem_append] at k
   rcases k with k | k
   · exact h.run r k
   · obtain rfl:r=rs[m]:=by simpa using k
     exact h3
theorem Good.all {n:Nat} {ss:List Int} {rs:List (Int × Int)} (h:Good n ss rs ss.length) (hl:ss.length=rs.length):mayW n ss rs=true:=by
 obtain⟨h1,h2,h3⟩:=h
 rw[List.take_length] at h1 h2;rw[hl,List.take_length] at h3;exact decide_eq_true ⟨hl,h1,h2,h3⟩
theorem bad {n:Nat} {ss:List Int} {rs:List (Int × Int)} {m:Nat} (hs:m < ss.length) (hr:m < rs.length) (h:ss[m] < 0∨(n:Int)≤ss[m]∨ss[m]∈ss.take m∨win n rs[m].1 rs[m].2=false):mayW n ss rs=false:=by
 refine decide_eq_false (fun ⟨_,h1,h2,h3⟩=>?_)
 rcases h with h | h | h | h
 · have:=h1 _ (List.getElem_mem hs);omega
 · have:=h1 _ (List.getElem_mem hs);omega
 · have e:ss.take (m+1) <+: ss:=List.take_prefix _ _
   have h4:=h2.sublist e.sublist;rw[List.take_succ_eq_append_getElem hs,List.nodup_append] at h4;exact h4.2.2 _ h _ (by simp) rfl
 · have:=h3 _ (List.getElem_mem hr)
   rw[h] at this
   cases this
theorem mayWrite_any (w:World) (n:Nat) (hn:n≤1000000) (A B:Option Addr) (c d:Nat) (ss:List Int) (rs:List (Int × Int)) (hs:Pack.Nts w A ss) (hr:Prs w B rs) :
 Calls Tryz.prog 205 #[.int .i64 (n:Int),.slice A ss.length c,.slice B rs.length d] w fun r w'=>r = .returned (.bool (mayW n ss rs))∧Below w.heap.size w w':=by
 obtain⟨M,hM⟩:∃ M,M=mayW n ss rs:=⟨_,rfl⟩
 rw[← hM];have HM:=hid hM;have HS:=hid hs;have HR:=hid hr;have hsl:=hs.len;have hrl:=hr.len;have HWI:=hid (fun w x c hc=>within_any w n x c hn hc);have hmm:=@run_makeMap Tryz.prog;clear hM hs hr;go_enter Tryz.func205,Tryz.ntmps205
 by_cases hlen:ss.length=rs.length
 · go_wp2
   clear hmm;have HL:=hid hlen;clear hlen
   go_loopw [18] (fun i wr=>∃ m:Nat,m≤ss.length∧i = .int .i64 (m:Int)∧wr.heap[w.heap.size]? = some (.map (kents (ss.take m)).toArray m)∧Good n ss rs m∧Below w.heap.size w wr) (fun i _=>ss.length - (intOf i).toNat)
   case atStart=>exact⟨0,Nat.zero_le _,rfl,by simpa [kents] using (heap_alloc w (.map #[] 0)).1,Good.zero ..,(Below.refl _ _).alloc (Nat.le_refl _) _⟩
   case round=>
    obtain⟨m,hm,rfl,hmap,hgd,hb⟩:=hrel
    have HMP:=hid hmap;have HG:=hid hgd;have HB:=hid hb;have hwr:w.heap.size < wr.heap.size:=(Array.getElem?_eq_some_iff.1 hmap).1;clear hmap hgd;by_cases hlt:m < ss.length
    · have hlr:m < rs.length:=by have:=HL.out;omega
      obtain⟨b,o,rfl,hbb,hc0⟩:=HS.out.at' m hlt
      obtain⟨b2,o2,rfl,hbb2,hd0,hd1⟩:=HR.out.at' m hlr
      have hc0:=(hb.cell (p:=⟨b,o+m,none⟩) hbb).trans hc0;have hd0:=(hb.cell (p:=⟨b2,o2+m * 2,none⟩) hbb2).trans hd0;have hd1:=(hb.cell (p:=⟨b2,o2+m * 2+1,none⟩) hbb2).trans hd1;have hbb:=Nat.lt_of_lt_of_le hbb hb.size;have hbb2:=Nat.lt_of_lt_of_le hbb2 hb.size;have HI:=hid (HR.out.i64 rs[m] (List.getElem_mem hlr));have HBAD:=hid (fun h=>show mayW n ss rs=false from bad (n:=n) hlt hlr h);have HNX:=hid (HG.out.next hlt hlr);have HT:=hid (show ss.take (m+1)=ss.take m++[ss[m]] from List.take_succ_eq_append_getElem hlt);have HTL:=hid (show (ss.take m).length=m by rw[List.length_take];omega)
      obtain⟨s,hs⟩:∃ s,s=ss[m]:=⟨_,rfl⟩
      obtain⟨x,hx⟩:∃ x,x=rs[m].1:=⟨_,rfl⟩
      obtain⟨y,hy⟩:∃ y,y=rs[m].2:=⟨_,rfl⟩
      rw[← hs] at hc0 HBAD HNX HT;rw[← hx] at hd0 HI HBAD HNX;rw[← hy] at hd1 HI HBAD HNX;clear hs hx hy hb
      rcases Int.lt_or_le s 0 with h0 | h0
      · have HN:=hid (show M=false by rw[HM.out];exact HBAD.out (.inl h0))
        go_wp2
        go_ret
        exact⟨by rw[HN.out];rfl,HB.out⟩
      rcases Int.lt_or_le s (n:Int) with h1 | h1
      · by_cases h2:s∈ss.take m
        · have HN:=hid (show M=false by rw[HM.out];exact HBAD.out (.inr (.inr (.inl h2))))
          have hlk:=run_look_yes HMP.out h2;clear h2;go_wp2
          go_ret
          exact⟨by rw[HN.out];rfl,HB.out⟩
        · have hlk:=run_look_no HMP.out h2
          have HNO:=hid h2;have HC:=hid (HWI.out wr x y HI.out.2.2)
          cases hw:win n x y with
          | false=>
            have HN:=hid (show M=false by rw[HM.out];exact HBAD.out (.inr (.inr (.inr hw))));rw[hw] at HC;clear hw h2;go_wp2_with fail
            refine HC.out.mono ?_;rintro e w2 ⟨rfl,hb2⟩;have HB2:=hid (HB.out.trans (hb2.mono HB.out.size));clear hb2 HC;go_wp2
            go_ret
            exact⟨by rw[HN.out];rfl,HB2.out⟩
          | true=>
            have HGN:=hid (HNX.out h0 h1 h2 hw);rw[hw] at HC;clear hw h2;go_wp2_with fail
            refine HC.out.mono ?_;rintro e w2 ⟨rfl,hb2⟩;have hmp:w2.heap[w.heap.size]? = some (.map (kents (ss.take m)).toArray (ss.take m).length):=by rw[HTL.out];exact (hb2.block _ hwr).trans HMP.out
            have hpt:=run_put hmp HNO.out;rw[HTL.out,← HT.out] at hpt;have HB2:=hid (HB.out.trans (hb2.mono HB.out.size));have hw2:w.heap.size < w2.heap.size:=Nat.lt_of_lt_of_le hwr hb2.size;have HAT:=hid (putMap_at (c:=m+1) (es:=kents (ss.take (m+1))) hw2);have HPB:=hid (putMap_below (c:=m+1) (es:=kents (ss.take (m+1))) HB2.out (Nat.le_refl w.heap.size));clear hb2 HC hmp HNO;go_wp2
            refine⟨⟨m+1,by omega,by go_num,HAT.out,HGN.out,HPB.out⟩,by simp[intOf];omega⟩
      · have HN:=hid (show M=false by rw[HM.out];exact HBAD.out (.inr (.inl h1)))
        go_wp2
        go_ret
        exact⟨by rw[HN.out];rfl,HB.out⟩
    · obtain rfl:m=ss.length:=by omega
      have HN:=hid (show M=true by rw[HM.out];exact HG.out.all HL.out);have hnl:decide ((ss.length:Int) < (rs.length:Int))=false:=decide_eq_false (by have:=HL.out;omega);have hnl2:¬ (ss.length:Int) < (rs.length:Int):=by have:=HL.out;omega
      clear hb hlt hm;go_wp2
      go_ret
      exact⟨by rw[HN.out];rfl,HB.out⟩
 · have HN:=hid (show M=false by rw[HM.out];exact decide_eq_false (fun h=>hlen h.1))
   have hne:((ss.length:Int) != (rs.length:Int))=true:=by simp;omega
   have hne2:¬ (ss.length:Int)=(rs.length:Int):=by omega
   clear hlen;go_wp2
   go_ret
   exact⟨by rw[HN.out];rfl,Below.refl _ _⟩
end Chn
end
section
open Go.RowKit Go.MapKept
namespace Lin
section
variable {P : Program} {ops : Array Oper} {Q : Exit → Act → World → Prop} {md : Region.Mode} {S : World → Prop}
theorem take_yes (i d:Nat) (v:Value) {oi:Oper} {fuel:Nat} {listed:Array Bool} {a:Act} {w:World} (hi:ops[i]? = some oi) (hd:oi.dst=some d)
 (hs:Region.noSelect ops=true) (hf:Region.free md ops listed i=true) (hr:(Region.ready md ops listed).contains i=true)
 (hQ:∀ c a w,Q (.panic c) (Act.put a (some d) v) w→Q (.panic c) a w) (hw:Region.wanted oi (yielded ops a.tmps)=true) (hy:∀ w,S w→(execOp a.eval oi).run P w = .ok (.value v) w) (hS:S w)
 (h:wpAnyH P md ops Q S fuel (listed.setIfInBounds i true) (a.put (some d) v) w):wpAnyH P md ops Q S (fuel+1) listed a w:=
 wpAnyH_take hi hs hf hr (by rw[hd];exact hQ) (Or.inl ⟨hw,hy⟩) hS (by rw[hd];exact h)
theorem take_no (i d:Nat) {oi:Oper} {fuel:Nat} {listed:Array Bool} {a:Act} {w:World} (hi:ops[i]? = some oi) (hd:oi.dst=some d)
 (hs:Region.noSelect ops=true) (hf:Region.free md ops listed i=true) (hr:(Region.ready md ops listed).contains i=true)
 (hQ:∀ c a w,Q (.panic c) (Act.put a (some d) undef) w→Q (.panic c) a w) (hw:Region.wanted oi (yielded ops a.tmps)=false) (hS:S w)
 (h:wpAnyH P md ops Q S fuel (listed.setIfInBounds i true) (a.put (some d) undef) w):wpAnyH P md ops Q S (fuel+1) listed a w:=
 wpAnyH_take hi hs hf hr (by rw[hd];exact hQ) (Or.inr ⟨hw,rfl⟩) hS (by rw[hd];exact h)
end
structure Box (w:World) (b:Nat) (n m s:Int):Prop where
 lt:b < w.heap.size
 c0:w.cell? ⟨b,0,none⟩=some (.int .i64 n)
 c1:w.cell? ⟨b,1,none⟩=some (.int .i64 m)
 c2:w.cell? ⟨b,2,none⟩=some (.int .i64 s)
theorem Box.keep {w w':World} {b:Nat} {n m s:Int} (h:Box w b n m s) (hb:Below w.heap.size w w'):Box w' b n m s:=
 ⟨Nat.lt_of_lt_of_le h.lt hb.size,(hb.cell (p:=⟨b,0,none⟩) h.lt).trans h.c0,(hb.cell (p:=⟨b,1,none⟩) h.lt).trans h.c1,(hb.cell (p:=⟨b,2,none⟩) h.lt).trans h.c2⟩
theorem Box.drew {w:World} {b:Nat} {n m s:Int} (h:Box w b n m s):Box w.drew b n m s:=⟨h.lt,h.c0,h.c1,h.c2⟩
theorem Box.drewN {w:World} {b:Nat} {n m s:Int} (h:Box w b n m s) (k:Nat):Box (w.drewN k) b n m s:=⟨h.lt,h.c0,h.c1,h.c2⟩
theorem boxed (w:World) (n m s:Int) (t:TypeId):Box (w.alloc (.cells #[.int .i64 n,.int .i64 m,.int .i64 s] t)) w.heap.size n m s:=
 ⟨by simp,World.cell?_alloc_mark w _ t _ 0,World.cell?_alloc_mark w _ t _ 1,World.cell?_alloc_mark w _ t _ 2⟩
theorem boxed_at {w:World} {k:Nat} (hk:w.heap.size=k) (n m s:Int) (t:TypeId):Box (w.alloc (.cells #[.int .i64 n,.int .i64 m,.int .i64 s] t)) k n m s:=by
 subst hk;exact boxed w n m s t
structure Own (w:World) (b:Nat) (n m s:Int):Prop where
 box:Box w b n m s
 f:∀ o,w.frozen? ⟨b,o,none⟩=false
theorem Own.keep {w w':World} {b:Nat} {n m s:Int} (h:Own w b n m s) (hb:Below w.heap.size w w'):Own w' b n m s:=
 ⟨h.box.keep hb,fun o=>(hb.frozen (p:=⟨b,o,none⟩) h.box.lt).trans (h.f o)⟩
theorem Own.drew {w:World} {b:Nat} {n m s:Int} (h:Own w b n m s):Own w.drew b n m s:=⟨h.box.drew,h.f⟩
theorem Own.drewN {w:World} {b:Nat} {n m s:Int} (h:Own w b n m s) (k:Nat):Own (w.drewN k) b n m s:=⟨h.box.drewN k,h.f⟩
theorem owned (w:World) (n m s:Int) (t:TypeId):Own (w.alloc (.cells #[.int .i64 n,.int .i64 m,.int .i64 s] t)) w.heap.size n m s:=
 ⟨boxed w n m s t,fun o=>(World.rowIs_alloc w #[.int .i64 n,.int .i64 m,.int .i64 s] t (fun i=>if i=0 then .int .i64 n else if i=1 then .int .i64 m else .int .i64 s) (fun i hi=>by
   have:i < 3:=hi
   match i,this with
   | 0,_=>rfl
   | 1,_=>rfl
   | 2,_=>rfl)).frozen o⟩
def rowOf (l:List Nat) (i:Nat):Value:=.int .u64 ((l[i]?.getD 0:Nat):Int)
theorem row_keep {w w':World} {g:Nat} {l:List Nat} (h:w.rowIs g 50 8 (rowOf l)) (hb:Below w.heap.size w w'):w'.rowIs g 50 8 (rowOf l):=h.of_block (hb.block _ h.lt)
theorem cell_set_other {w:World} {p q:Addr} (h:p.block≠q.block) (v:Value):(w.setCell q v).cell? p=w.cell? p:=World.cell?_of_block (w:=w) (Below.heap_setCell w q v p.block h)
theorem row_crc {w:World} {g:Nat} {l k:List Nat} (h:w.rowIs g 50 8 (rowOf l)) (hk:k.length≤8) (hu:∀ x∈k,x < 18446744073709551616) (e:∀ j (h:j < k.length),l[j]?.getD 0=k[j]):Crc.Wds w (some ⟨g,0,none⟩) k:=
 ⟨hu,by omega,fun j hj=>⟨g,0,rfl,h.lt,by
   rw[Nat.zero_add,h.cell (by omega)];unfold rowOf;rw[e j hj]⟩⟩
theorem row_pack {w:World} {g:Nat} {l:List Nat} (h:w.rowIs g 50 8 (rowOf l)) (hk:l.length=8) (hu:∀ x∈l,x < 18446744073709551616):Pack.Wds w (some ⟨g,0,none⟩) l:=
 ⟨hu,by omega,fun j hj=>⟨g,0,rfl,h.lt,by
   rw[Nat.zero_add,h.cell (by omega)];unfold rowOf;rw[List.getElem?_eq_getElem hj]
   rfl⟩⟩
theorem row_made (w:World):(w.alloc (.cells (madeCells #[.int .u64 0] 8) 50)).rowIs w.heap.size 50 8 (rowOf []):=(World.rowIs_made w (.int .u64 0) 8 50).congr (fun i _=>by simp[rowOf])
theorem row_zero {w:World} {g:Nat} (h:w.rowIs g 50 8 (rowOf [])):w.rowIs g 50 8 (rowOf [0,0,0,0,0,0,0,0]):=h.congr (fun i hi=>by
 have:i=0∨i=1∨i=2∨i=3∨i=4∨i=5∨i=6∨i=7:=by omega
 rcases this with rfl | rfl | rfl | rfl | rfl | rfl | rfl | rfl<;>rfl)
structure En (w0:World) (N b g:Nat) (n m s:Int) (l:List Nat) (w:World):Prop where
 box:Box w b n m s
 row:w.rowIs g 50 8 (rowOf l)
 bg:b≠g
 below:Below N w0 w
 nN:N≤g
theorem En.keep {w0 w w':World} {N b g:Nat} {n m s:Int} {l:List Nat} (h:En w0 N b g n m s l w) (hb:Below w.heap.size w w') (hN:N≤w.heap.size):En w0 N b g n m s l w':=
 ⟨h.box.keep hb,h.row.of_block (hb.block _ h.row.lt),h.bg,h.below.trans (hb.mono hN),h.nN⟩
theorem En.drew {w0 w:World} {N b g:Nat} {n m s:Int} {l:List Nat} (h:En w0 N b g n m s l w):En w0 N b g n m s l w.drew:=
 ⟨h.box.drew,h.row.drew,h.bg,h.below.drew,h.nN⟩
theorem En.set {w0 w:World} {N b g:Nat} {n m s:Int} {l l':List Nat} (h:En w0 N b g n m s l w) (i x:Nat) (e:∀ j,j < 8→(if j=i then x else l[j]?.getD 0)=l'[j]?.getD 0):En w0 N b g n m s l' (w.setCell ⟨g,i,none⟩ (.int .u64 (x:Int))):=
 ⟨⟨by simpa using h.box.lt,(cell_set_other h.bg _).trans h.box.c0,(cell_set_other h.bg _).trans h.box.c1,(cell_set_other h.bg _).trans h.box.c2⟩,
  (h.row.set i (.int .u64 (x:Int))).congr (fun j hj=>by
   have:=e j hj
   unfold rowOf;rw[← this]
   split<;>rfl),h.bg,h.below.setCell h.nN _,h.nN⟩
theorem wpList_append_run {P:Program} {w w':World} {ops:Array Oper} {rest:List Oper} {o:Oper} {a:Act} {Q:Exit→Act→World→Prop} (hgd:o.guard=none) (s x:Operand) (t:TypeId)
 (ho:o.op = .call { callee:=.builtin .append,args:=#[s,x],argTypes:=#[t,t] }) (v u v':Value) (hs:a.eval s=v) (hx:a.eval x=u) (hr:(Builtin.append_ #[t,t] o.type #[v,u]).run P w = .ok v' w')
 (h:wpList P ops Q rest (a.put o.dst v') w'):wpList P ops Q (o :: rest) a w:=by
 refine wpList_plain hgd fun K hK=>?_
 unfold Oper.wp execOp;simp only[ho,resolve,invoke,builtin,Sem.run_bind,Sem.run_pure,Result.andThen_ok,List.map_toArray,List.map_cons,List.map_nil,hs,hx,hr];exact hK _ _ h
theorem grow8 (W:World) (g:Nat) (l:List Nat) (y:Nat) (hl:l.length=7) (h:Crc.Wds W (some ⟨g,0,none⟩) l) (hu:∀ x∈l++[y],x < 18446744073709551616) :
 ∃ (G:Option Addr) (gc:Nat) (w':World),(Builtin.append_ #[22,22] 22 #[.slice (some ⟨g,0,none⟩) 7 7,.slice (some ⟨W.heap.size,0,none⟩) 1 1]).run Tryz.prog (W.alloc (.cells #[.int .u64 (y:Int)] 50)) = .ok (.slice G 8 gc) w'∧Pack.Wds w' G (l++[y])∧Below W.heap.size W w':=by
 obtain⟨i1,hi1,hy⟩:=Option.map_eq_some_iff.1 Pack.u64_info
 injection hy with hy0 hy
 injection hy with hy1 hy2
 have hb:=(Below.refl W.heap.size W).alloc (Nat.le_refl _) (.cells #[.int .u64 (y:Int)] 50);have h7:Crc.Wds (W.alloc (.cells #[.int .u64 (y:Int)] 50)) (some ⟨g,0,none⟩) l:=h.keep hb
 obtain⟨v',w',hr,hown,hgr⟩:=run_append_arg_grows (P:=Tryz.prog) (W.alloc (.cells #[.int .u64 (y:Int)] 50)) 22 22 50 i1 (.int .u64 0) 1 8 Tryz.underlying22 hi1 hy0 hy1 hy2 rfl (by decide)
  ⟨g,0,none⟩ 7 7 (Pack.u64s l) (by unfold Pack.u64s;rw[List.length_map,hl]) (fun j u hj=>by
    unfold Pack.u64s at hj;rw[List.getElem?_map] at hj
    rcases Nat.lt_or_ge j l.length with h1 | h1
    · obtain⟨b,o,e,_,hc⟩:=h7.at' j h1
      injection e with e
      injection e with e1 e2
      subst e1 e2;rw[List.getElem?_eq_getElem h1] at hj;rw[Go.WideShapes.add_plain,hc,← hj];rfl
    · rw[List.getElem?_eq_none h1] at hj
      cases hj)
  ⟨W.heap.size,0,none⟩ 1 1 [.int .u64 (y:Int)] rfl (cell_one_new _ _ _) (by decide) (by decide) (by decide)
 obtain⟨G,gc,rfl⟩:=Pack.row_slice hown
 refine⟨G,gc,w',hr,?_,hb.grown hgr hb.size (fun k hk=>by cases hk)⟩
 have e:Pack.u64s l++[Value.int .u64 (y:Int)]=Pack.u64s (l++[y]):=by unfold Pack.u64s;simp
 rw[e] at hown;exact Pack.own_wds (l:=l++[y]) hown hu (by decide)
theorem fds_two (w:World) {n m:Nat} (hn:n < 65536) (hm:m < 65536):Pack.Fds (w.alloc (.cells #[.int .i64 16,.int .u64 (n:Int),.int .i64 16,.int .u64 (m:Int)] 208)) (some ⟨w.heap.size,0,none⟩) [⟨16,n⟩,⟨16,m⟩]:=
 ⟨fun f hf=>by
   simp only[List.mem_cons,List.not_mem_nil,or_false] at hf
   rcases hf with rfl | rfl<;>exact⟨by simp only;omega,by simp only;omega,by simp only;omega⟩,by simp,fun j hj=>by
   have:j < 2:=hj
   match j,this with
   | 0,_=>exact⟨w.heap.size,0,rfl,by simp,Pack.alloc_cell _ _ _ _,Pack.alloc_cell _ _ _ _⟩
   | 1,_=>exact⟨w.heap.size,0,rfl,by simp,Pack.alloc_cell _ _ _ _,Pack.alloc_cell _ _ _ _⟩⟩
theorem nts_two (w:World):Pack.Nts (w.alloc (.cells #[.int .i64 16,.int .i64 16] 3)) (some ⟨w.heap.size,0,none⟩) [16,16]:=
 ⟨fun f hf=>by
   obtain rfl:f=16:=by simpa using hf
   exact⟨by decide,by decide⟩,by decide,fun j hj=>by
   have:j < 2:=hj
   match j,this with
   | 0,_=>exact⟨w.heap.size,0,rfl,by simp,Pack.alloc_cell _ _ _ _⟩
   | 1,_=>exact⟨w.heap.size,0,rfl,by simp,Pack.alloc_cell _ _ _ _⟩⟩
theorem s32_lt (l:List Nat):Crc.S32 l < 4294967296:=by
 unfold Crc.S32;omega
end Lin
end
section
open Go.RowKit Go.MapKept
namespace Slo
open Lin
def May (s c n:Int):Prop:=(0≤s∧s≤65533)∧(1≤c∧c≤65534 - s)∧(-1≤n∧n≤65533)
instance (s c n:Int):Decidable (May s c n):=by unfold May;infer_instance
def may (s c n:Int):Bool:=decide (May s c n)
theorem may_iff {s c n:Int}:may s c n=true↔May s c n:=decide_eq_true_iff
def nx (q:Nat):Int:=if q=65535 then -1 else (q:Int)
theorem nx_none:nx 65535 = -1:=rfl
theorem nx_some {q:Nat} (h:q≠65535):nx q=(q:Int):=if_neg h
def nums (s c q:Nat):Nat:=s+65536 * c+4294967296 * q
def six (x:Nat):List Nat:=(Crc.wb x).take 6
def sum (s c q:Nat):Nat:=Crc.S16 (six (nums s c q))
def wd (s c q:Nat):Nat:=nums s c q+281474976710656 * sum s c q
theorem six_len (x:Nat):(six x).length=6:=by
 unfold six;rw[List.length_take,Crc.wb_len];rfl
theorem six_byt (x:Nat):Crc.Byt (six x):=(Crc.wb_byt x).take 6
theorem nums_lt {s c q:Nat} (hs:s < 65536) (hc:c < 65536) (hq:q < 65536):nums s c q < 281474976710656:=by unfold nums;omega
theorem s16_lt (l:List Nat):Crc.S16 l < 65536:=by
 unfold Crc.S16;exact Crc.rev_lt 16 _
theorem sum_lt (s c q:Nat):sum s c q < 65536:=s16_lt _
theorem wd_lt {s c q:Nat} (hs:s < 65536) (hc:c < 65536) (hq:q < 65536):wd s c q < 18446744073709551616:=by
 have h1:=nums_lt hs hc hq;have h2:=sum_lt s c q;unfold wd;omega
theorem wd_s {s c q:Nat} (hs:s < 65536) (_hc:c < 65536) (_hq:q < 65536):wd s c q % 65536=s:=by
 unfold wd nums;omega
theorem wd_c {s c q:Nat} (hs:s < 65536) (hc:c < 65536) (_hq:q < 65536):wd s c q / 65536 % 65536=c:=by
 unfold wd nums;omega
theorem wd_q {s c q:Nat} (hs:s < 65536) (hc:c < 65536) (hq:q < 65536):wd s c q / 4294967296 % 65536=q:=by
 unfold wd nums;omega
theorem may_lt {s c q:Nat} (h:may s c (nx q)=true):s≤65533∧1≤c∧c+s≤65534∧q < 65536:=by
 have h:=may_iff.1 h;unfold May nx at h
 split at h<;>omega
theorem pk_three {s c q:Nat} (hs:s < 65536) (hc:c < 65536) (hq:q < 65536):Pack.pk 0 0 [⟨16,s⟩,⟨16,c⟩,⟨16,q⟩]=some (nums s c q,48):=by
 unfold nums;simp[Pack.pk,hs,hc,hq];omega
theorem pk_four {s c q m:Nat} (hs:s < 65536) (hc:c < 65536) (hq:q < 65536) (hm:m < 65536):Pack.pk 0 0 [⟨16,s⟩,⟨16,c⟩,⟨16,q⟩,⟨16,m⟩]=some (nums s c q+281474976710656 * m,64):=by
 unfold nums;simp[Pack.pk,hs,hc,hq,hm];omega
theorem split_four {x:Nat} (h:x < 18446744073709551616):Pack.split x [16,16,16,16]=some [x % 65536,x / 65536 % 65536,x / 4294967296 % 65536,x / 281474976710656]:=by
 have ht:Pack.tot 0 [16,16,16,16]=some 64:=by decide
 unfold Pack.split;rw[ht];have e:(2:Nat) ^ 64=18446744073709551616:=rfl;simp only[e];have h0:x / 18446744073709551616=0:=by omega
 rw[if_pos h0];simp only[Pack.sp];have e16:(2:Nat) ^ (16:Int).toNat=65536:=by decide
 simp only[e16];have e1:x / 65536 / 65536=x / 4294967296:=by rw[Nat.div_div_eq_div_mul]
 have e2:x / 4294967296 / 65536=x / 281474976710656:=by rw[Nat.div_div_eq_div_mul]
 rw[e1,e2];have e3:x / 281474976710656 % 65536=x / 281474976710656:=by omega
 rw[e3]
def dec (x:Nat):Option (Nat × Nat × Nat):=
 let s:Nat:=x % 65536
 let c:Nat:=x / 65536 % 65536
 let q:Nat:=x / 4294967296 % 65536
 if may s c (nx q)=true∧x=wd s c q then some (s,c,q) else none
theorem dec_wd {s c q:Nat} (h:may s c (nx q)=true):dec (wd s c q)=some (s,c,q):=by
 obtain⟨h1,h2,h3,h4⟩:=may_lt h
 unfold dec;simp only[wd_s (show s < 65536 by omega) (show c < 65536 by omega) h4,wd_c (show s < 65536 by omega) (show c < 65536 by omega) h4,wd_q (show s < 65536 by omega) (show c < 65536 by omega) h4];exact if_pos ⟨h,trivial⟩
theorem dec_some {x s c q:Nat} (h:dec x=some (s,c,q)):may s c (nx q)=true∧x=wd s c q:=by
 unfold dec at h;simp only at h
 split at h
 · rename_i hc
   injection h with h
   injection h with h1 h2
   injection h2 with h2 h3
   subst h1 h2 h3;exact hc
 · cases h
end Slo
end
section
namespace Chn
structure Pt where
 s:Nat
 x:Nat
 c:Nat
 q:Nat
def pat (f:Nat→Option (Nat × Nat × Nat)) (n:Nat) (i:Int):Option Pt:=
 if 0≤i∧i < (n:Int) then
  match f i.toNat with
  | none=>none
  | some t=>if t.1+t.2.1≤n then some ⟨i.toNat,t.1,t.2.1,t.2.2⟩ else none
 else none
theorem pat_out {f:Nat→Option (Nat × Nat × Nat)} {n:Nat} {i:Int} (h:i < 0∨(n:Int)≤i):pat f n i=none:=if_neg (by omega)
theorem pat_none {f:Nat→Option (Nat × Nat × Nat)} {n i:Nat} (h:f i=none):pat f n (i:Int)=none:=by
 unfold pat
 split
 · rw[Int.toNat_natCast,h]
 · rfl
theorem pat_far {f:Nat→Option (Nat × Nat × Nat)} {n i x c q:Nat} (h:f i=some (x,c,q)) (hn:n < x+c):pat f n (i:Int)=none:=by
 unfold pat
 split
 · rw[Int.toNat_natCast,h]
   exact if_neg (by simp only;omega)
 · rfl
theorem pat_yes {f:Nat→Option (Nat × Nat × Nat)} {n i x c q:Nat} (h:f i=some (x,c,q)) (hi:i < n) (hn:x+c≤n):pat f n (i:Int)=some ⟨i,x,c,q⟩:=by
 unfold pat;rw[if_pos (by omega),Int.toNat_natCast,h];exact if_pos hn
theorem pat_some {f:Nat→Option (Nat × Nat × Nat)} {n:Nat} {i:Int} {p:Pt} (h:pat f n i=some p):i=(p.s:Int)∧p.s < n∧f p.s=some (p.x,p.c,p.q)∧p.x+p.c≤n:=by
 unfold pat at h
 split at h
 case isFalse=>cases h
 case isTrue hi=>
  split at h
  · cases h
  · rename_i t ht
    split at h
    · injection h with h
      subst h
      exact⟨by simp only;omega,by simp only;omega,ht,by assumption⟩
    · cases h
section
variable {P : Int → Option Pt}
def Path (P:Int→Option Pt):Int→List Pt→Int→Prop
 | h,[],s=>h=s
 | h,p :: l,s=>h≠-1∧P h=some p∧Path P (Slo.nx p.q) l s
theorem path_append:∀ {l1 l2:List Pt} {h s:Int},Path P h (l1++l2) s↔∃ t,Path P h l1 t∧Path P t l2 s
 | [],l2,h,s=>⟨fun k=>⟨h,rfl,k⟩,fun ⟨t,e,k⟩=>by cases e;exact k⟩
 | p :: l1,l2,h,s=>by
   constructor
   · rintro ⟨h1,h2,h3⟩
     obtain⟨t,k1,k2⟩:=path_append.1 h3
     exact⟨t,⟨h1,h2,k1⟩,k2⟩
   · rintro ⟨t,⟨h1,h2,h3⟩,k⟩
     exact⟨h1,h2,path_append.2 ⟨t,h3,k⟩⟩
theorem path_snoc {l:List Pt} {h s:Int} {p:Pt} (k:Path P h l s) (hs:s≠-1) (hp:P s=some p):Path P h (l++[p]) (Slo.nx p.q):=
 path_append.2 ⟨s,k,hs,hp,rfl⟩
theorem path_go:∀ {l r:List Pt} {h s:Int},Path P h l s→Path P h r (-1)→∃ r',r=l++r'∧Path P s r' (-1)
 | [],r,h,s,k,m=>⟨r,rfl,by cases k;exact m⟩
 | p :: l,[],h,s,k,m=>absurd m k.1
 | p :: l,p' :: r,h,s,k,m=>by
   obtain⟨k1,k2,k3⟩:=k
   obtain⟨m1,m2,m3⟩:=m
   rw[k2] at m2;injection m2 with m2
   subst m2
   obtain⟨r',e,h'⟩:=path_go k3 m3
   exact⟨r',by rw[e];rfl,h'⟩
theorem path_one {r r':List Pt} {h:Int} (k:Path P h r (-1)) (m:Path P h r' (-1)):r=r':=by
 obtain⟨r2,e,m2⟩:=path_go k m
 cases r2 with
 | nil=>rw[e,List.append_nil]
 | cons p r2=>exact absurd rfl m2.1
theorem path_round {l r:List Pt} {h:Int} (k:Path P h l h) (hl:l≠[]):¬ Path P h r (-1):=by
 intro m
 obtain⟨r',e,m'⟩:=path_go k m
 have:=congrArg List.length (path_one m m')
 have h2:=congrArg List.length e;rw[List.length_append] at h2;have h3:=List.length_pos_iff.2 hl;omega
def rd (P:Int→Option Pt):Nat→Int→Option (List Pt)
 | k,s=>if s = -1 then some [] else
   match k with
   | 0=>none
   | k+1=>match P s with
     | none=>none
     | some p=>(rd P k (Slo.nx p.q)).map (p :: ·)
theorem rd_iff:∀ {k:Nat} {s:Int} {r:List Pt},rd P k s=some r↔Path P s r (-1)∧r.length≤k
 | 0,s,r=>by
   unfold rd;by_cases hs:s = -1
   · rw[if_pos hs]
     constructor
     · intro h;injection h with h;subst h;exact⟨hs,Nat.le_refl _⟩
     · rintro ⟨h,_⟩
       cases r with
       | nil=>rfl
       | cons p r=>exact absurd hs h.1
   · rw[if_neg hs]
     constructor
     · intro h;cases h
     · rintro ⟨h,h2⟩
       obtain rfl:r=[]:=List.length_eq_zero_iff.1 (by omega);exact absurd h hs
 | k+1,s,r=>by
   unfold rd;by_cases hs:s = -1
   · rw[if_pos hs]
     constructor
     · intro h;injection h with h;subst h;exact⟨hs,Nat.zero_le _⟩
     · rintro ⟨h,_⟩
       cases r with
       | nil=>rfl
       | cons p r=>exact absurd hs h.1
   · rw[if_neg hs]
     simp only
     cases hp:P s with
     | none=>
       constructor
       · intro h;cases h
       · rintro ⟨h,_⟩
         cases r with
         | nil=>exact absurd h hs
         | cons p r=>have:=h.2.1;rw[hp] at this;cases this
     | some p=>
       simp only
       constructor
       · intro h
         obtain⟨r',hr,rfl⟩:=Option.map_eq_some_iff.1 h
         obtain⟨h1,h2⟩:=rd_iff.1 hr
         exact⟨⟨hs,hp,h1⟩,by simp;omega⟩
       · rintro ⟨h,h2⟩
         cases r with
         | nil=>exact absurd h hs
         | cons p' r=>
           obtain⟨h3,h4,h5⟩:=h
           rw[hp] at h4;injection h4 with h4
           subst h4;exact Option.map_eq_some_iff.2 ⟨r,rd_iff.2 ⟨h5,by simpa using h2⟩,rfl⟩
theorem rd_none {k:Nat} {s:Int} (h:∀ r,Path P s r (-1)→r.length≤k→False):rd P k s=none:=by
 cases e:rd P k s with
 | none=>rfl
 | some r=>exact (h r (rd_iff.1 e).1 (rd_iff.1 e).2).elim
theorem rd_full {n:Nat} {l:List Pt} {h s:Int} (k:Path P h l s) (hs:s≠-1) (hl:l.length=n):rd P n h=none:=
 rd_none fun r hr hn=>by
  obtain⟨r',e,m⟩:=path_go k hr
  cases r' with
  | nil=>exact hs m
  | cons p r'=>rw[e,List.length_append,List.length_cons] at hn;omega
theorem rd_stop {n:Nat} {l:List Pt} {h s:Int} (k:Path P h l s) (hs:s≠-1) (hp:P s=none):rd P n h=none:=
 rd_none fun r hr _=>by
  obtain⟨r',e,m⟩:=path_go k hr
  cases r' with
  | nil=>exact hs m
  | cons p r'=>have:=m.2.1;rw[hp] at this;cases this
end
section
variable {f : Nat → Option (Nat × Nat × Nat)} {n : Nat}
theorem path_head {l:List Pt} {h s:Int} {p:Pt} (k:Path (pat f n) h (p :: l) s):h=(p.s:Int):=(pat_some k.2.1).1
theorem path_mem:∀ {l:List Pt} {h s:Int},Path (pat f n) h l s→∀ p∈l,p.s < n∧f p.s=some (p.x,p.c,p.q)∧p.x+p.c≤n
 | [],_,_,_,p,hp=>by cases hp
 | p :: l,h,s,k,p',hp=>by
   rcases List.mem_cons.1 hp with e | hp
   · subst e
     obtain⟨_,h2⟩:=pat_some k.2.1
     exact h2
   · exact path_mem k.2.2 p' hp
theorem path_at {l:List Pt} {h s:Int} (k:Path (pat f n) h l s) {i:Nat} (hi:i < l.length):Path (pat f n) h (l.take i) ((l[i].s:Nat):Int)∧Path (pat f n) ((l[i].s:Nat):Int) (l.drop i) s:=by
 have e:l=l.take i++l.drop i:=(List.take_append_drop i l).symm;have k2:=k;rw[e] at k2
 obtain⟨t,k3,k4⟩:=path_append.1 k2
 rw[List.drop_eq_getElem_cons hi] at k4;obtain rfl:=path_head k4
 exact⟨k3,by rw[List.drop_eq_getElem_cons hi];exact k4⟩
theorem path_nodup:∀ {r:List Pt} {h:Int},Path (pat f n) h r (-1)→(r.map Pt.s).Nodup
 | [],_,_=>List.nodup_nil
 | p :: l,h,k=>by
   rw[List.map_cons,List.nodup_cons]
   refine⟨fun hm=>?_,path_nodup k.2.2⟩
   obtain⟨p',hp',e⟩:=List.mem_map.1 hm
   obtain⟨i,hi,rfl⟩:=List.mem_iff_getElem.1 hp'
   obtain⟨k1,_⟩:=path_at k.2.2 hi
   have k3:Path (pat f n) h (p :: l.take i) h:=⟨k.1,k.2.1,by rw[path_head k,← e];exact k1⟩;exact path_round k3 (by simp) k
theorem few_slots {l:List Pt} (h:∀ p∈l,p.s < n) (hn:(l.map Pt.s).Nodup):l.length≤n:=by
 have:=List.Nodup.length_le_of_subset (l₁:=l.map Pt.s) (l₂:=List.range n) hn (fun x hx=>by
  obtain⟨p,hp,rfl⟩:=List.mem_map.1 hx
  exact List.mem_range.2 (h p hp))
 simpa using this
theorem path_len {r:List Pt} {h:Int} (k:Path (pat f n) h r (-1)):r.length≤n:=few_slots (fun p hp=>(path_mem k p hp).1) (path_nodup k)
theorem rd_yes {r:List Pt} {h:Int} (k:Path (pat f n) h r (-1)):rd (pat f n) n h=some r:=rd_iff.2 ⟨k,path_len k⟩
end
end Chn
end
section
namespace Chn
structure Wr (n:Nat) (S:List Nat) (R:List (Nat × Nat)):Prop where
 n64:n≤65534
 len:R.length=S.length
 slot:∀ s∈S,s < n
 once:S.Nodup
 run:∀ r∈R,1≤r.2∧r.1+r.2≤n
theorem Wr.few {n:Nat} {S:List Nat} {R:List (Nat × Nat)} (h:Wr n S R):S.length≤n:=by
 have:=List.Nodup.length_le_of_subset (l₁:=S) (l₂:=List.range n) h.once (fun x hx=>List.mem_range.2 (h.slot x hx))
 simpa using this
theorem may_of {n:Nat} {S:List Nat} {R:List (Nat × Nat)} (h:Wr n S R):mayW n (S.map Int.ofNat) (R.map (fun r:Nat × Nat=>((r.1:Int),(r.2:Int))))=true:=by
 refine decide_eq_true ⟨by simp[h.len],fun s hs=>?_,?_,fun r hr=>?_⟩
 · obtain⟨i,hi,rfl⟩:=List.mem_map.1 hs
   have:=h.slot i hi
   simp only[Int.ofNat_eq_natCast];omega
 · exact List.Pairwise.map Int.ofNat (fun a b hab e=>hab (Int.ofNat.inj e)) h.once
 · obtain⟨q,hq,rfl⟩:=List.mem_map.1 hr
   have:=h.run q hq
   exact decide_eq_true (by simp only;omega)
def pk (S:List Nat) (R:List (Nat × Nat)) (k:Nat):Pt:=⟨S[k]?.getD 0,(R[k]?.getD (0,0)).1,(R[k]?.getD (0,0)).2,S[k+1]?.getD 65535⟩
def pw (p:Pt):Nat:=Slo.wd p.x p.c p.q
def wk (W:List Nat) (b:Nat) (S:List Nat) (R:List (Nat × Nat)):Nat→List Nat
 | 0=>W
 | k+1=>(wk W b S R k).set (b+(pk S R (S.length - 1 - k)).s) (pw (pk S R (S.length - 1 - k)))
theorem wk_len (W:List Nat) (b:Nat) (S:List Nat) (R:List (Nat × Nat)):∀ k,(wk W b S R k).length=W.length
 | 0=>rfl
 | k+1=>by unfold wk;rw[List.length_set,wk_len W b S R k]
section
variable {W : List Nat} {b n : Nat} {S : List Nat} {R : List (Nat × Nat)}
theorem pk_s {k:Nat} (hk:k < S.length):(pk S R k).s=S[k]:=by simp[pk,hk]
theorem pk_may (h:Wr n S R) {k:Nat} (hk:k < S.length):(1≤(pk S R k).c∧(pk S R k).x+(pk S R k).c≤n)∧((pk S R k).q < n∨(pk S R k).q=65535)∧Slo.may (pk S R k).x (pk S R k).c (Slo.nx (pk S R k).q)=true:=by
 have hr:k < R.length:=by rw[h.len];exact hk
 have h1:=h.run R[k] (List.getElem_mem hr);have e1:(pk S R k).x=R[k].1:=by simp[pk,hr]
 have e2:(pk S R k).c=R[k].2:=by simp[pk,hr]
 have h2:(pk S R k).q < n∨(pk S R k).q=65535:=by
  unfold pk;simp only
  rcases Nat.lt_or_ge (k+1) S.length with h3 | h3
  · rw[List.getElem?_eq_getElem h3,Option.getD_some]
    exact .inl (h.slot _ (List.getElem_mem h3))
  · rw[List.getElem?_eq_none h3]
    exact .inr rfl
 have h64:=h.n64
 refine⟨by rw[e1,e2];exact h1,h2,Slo.may_iff.2 ?_⟩
 rw[e1,e2];generalize (pk S R k).q=q at *;unfold Slo.May Slo.nx
 split<;>omega
theorem wk_at (h:Wr n S R) (hW:b+n≤W.length):∀ {k:Nat},k≤S.length→∀ {j:Nat} (hj:j < S.length),S.length - k≤j→(wk W b S R k)[b+S[j]]?.getD 0=pw (pk S R j)
 | 0,_,j,hj,h1=>by omega
 | k+1,hk,j,hj,h1=>by
   have hi:S.length - 1 - k < S.length:=by omega
   have hs:=h.slot S[j] (List.getElem_mem hj);unfold wk;rw[pk_s hi];by_cases e:j=S.length - 1 - k
   · subst e
     rw[List.getElem?_set_self (by rw[wk_len];omega),Option.getD_some]
   · have hne:S[S.length - 1 - k]≠S[j]:=fun e2=>e ((List.getElem_inj h.once).1 e2).symm
     rw[List.getElem?_set_ne (by omega)];exact wk_at h hW (by omega) hj (by omega)
theorem wk_else (h:Wr n S R) {i:Nat} (hi:∀ s∈S,i≠b+s):∀ {k:Nat},k≤S.length→(wk W b S R k)[i]? = W[i]?
 | 0,_=>rfl
 | k+1,hk=>by
   have hl:S.length - 1 - k < S.length:=by omega
   unfold wk;rw[pk_s hl,List.getElem?_set_ne (fun e=>hi _ (List.getElem_mem hl) e.symm)];exact wk_else h hi (by omega)
def hd (S:List Nat) (k:Nat):Int:=Slo.nx (S[k]?.getD 65535)
theorem hd_some (h:Wr n S R) {k:Nat} (hk:k < S.length):hd S k=(S[k]:Int):=by
 unfold hd;rw[List.getElem?_eq_getElem hk,Option.getD_some];exact Slo.nx_some (by have:=h.slot S[k] (List.getElem_mem hk);have:=h.n64;omega)
theorem hd_none {k:Nat} (hk:S.length≤k):hd S k = -1:=by
 unfold hd;rw[List.getElem?_eq_none hk];rfl
def fw (W:List Nat) (b i:Nat):Option (Nat × Nat × Nat):=Slo.dec (W[b+i]?.getD 0)
theorem wk_path (h:Wr n S R) (hW:b+n≤W.length):∀ {k:Nat},k≤S.length→Path (pat (fw (wk W b S R S.length) b) n) (hd S (S.length - k)) ((List.range' (S.length - k) k).map (pk S R)) (-1)
 | 0,_=>hd_none (Nat.le_refl _)
 | k+1,hk=>by
   have hi:S.length - (k+1) < S.length:=by omega
   have hs:=h.slot S[S.length - (k+1)] (List.getElem_mem hi)
   obtain⟨⟨m1,m2⟩,m3,m4⟩:=pk_may h hi
   rw[List.range'_succ,List.map_cons,show S.length - (k+1)+1=S.length - k by omega,hd_some h hi]
   refine⟨by omega,?_,?_⟩
   · have hw:fw (wk W b S R S.length) b S[S.length - (k+1)]=some ((pk S R (S.length - (k+1))).x,(pk S R (S.length - (k+1))).c,(pk S R (S.length - (k+1))).q):=by
      unfold fw;rw[wk_at h hW (Nat.le_refl _) hi (by omega)];exact Slo.dec_wd m4
     rw[pat_yes hw hs m2]
     congr 1
     have e:=pk_s (R:=R) hi;generalize pk S R (S.length - (k+1))=p at *
     obtain⟨a1,a2,a3,a4⟩:=p
     simp only at e;subst e;rfl
   · have e:Slo.nx (pk S R (S.length - (k+1))).q=hd S (S.length - k):=by
      unfold pk hd;simp only;rw[show S.length - (k+1)+1=S.length - k by omega]
     rw[e];exact wk_path h hW (by omega)
def pts (S:List Nat) (R:List (Nat × Nat)):List Pt:=(List.range' 0 S.length).map (pk S R)
theorem wk_read (h:Wr n S R) (hW:b+n≤W.length):rd (pat (fw (wk W b S R S.length) b) n) n (hd S 0)=some (pts S R):=by
 have:=wk_path h hW (Nat.le_refl S.length)
 rw[Nat.sub_self] at this;exact rd_yes this
end
end Chn
end
section
open Go.RowKit Go.MapKept
namespace Chn
structure Prt (w:World) (A:Option Addr) (l:List Pt):Prop where
 at':∀ j (h:j < l.length),∃ b o,A=some ⟨b,o,none⟩∧b < w.heap.size∧w.cell? ⟨b,o+j * 3,none⟩=some (.int .i64 (l[j].x:Int))∧w.cell? ⟨b,o+j * 3+1,none⟩=some (.int .i64 (l[j].c:Int))∧w.cell? ⟨b,o+j * 3+2,none⟩=some (.int .i64 (Slo.nx l[j].q))
theorem Prt.keep {w w':World} {A:Option Addr} {l:List Pt} (h:Prt w A l) (hb:Below w.heap.size w w'):Prt w' A l:=
 ⟨fun j hj=>by
   obtain⟨b,o,e,hlt,hc,hd,he⟩:=h.at' j hj
   exact⟨b,o,e,Nat.lt_of_lt_of_le hlt hb.size,(hb.cell (p:=⟨b,o+j * 3,none⟩) hlt).trans hc,(hb.cell (p:=⟨b,o+j * 3+1,none⟩) hlt).trans hd,(hb.cell (p:=⟨b,o+j * 3+2,none⟩) hlt).trans he⟩⟩
def pcells (l:List Pt):List Value:=l.flatMap fun p=>[.int .i64 (p.x:Int),.int .i64 (p.c:Int),.int .i64 (Slo.nx p.q)]
theorem pcells_snoc (l:List Pt) (p:Pt):pcells (l++[p])=pcells l++[.int .i64 (p.x:Int),.int .i64 (p.c:Int),.int .i64 (Slo.nx p.q)]:=by simp[pcells]
theorem pcells_len (l:List Pt):(pcells l).length=l.length * 3:=by
 induction l with
 | nil=>rfl
 | cons p l ih=>
   have e:pcells (p :: l)=[.int .i64 (p.x:Int),.int .i64 (p.c:Int),.int .i64 (Slo.nx p.q)]++pcells l:=rfl;rw[e,List.length_append,ih]
   simp;omega
theorem pcells_get {l:List Pt}:∀ {j:Nat} (h:j < l.length),(pcells l)[j * 3]? = some (.int .i64 (l[j].x:Int))∧(pcells l)[j * 3+1]? = some (.int .i64 (l[j].c:Int))∧(pcells l)[j * 3+2]? = some (.int .i64 (Slo.nx l[j].q)):=by
 induction l with
 | nil=>intro j h;simp at h
 | cons p l ih=>
   intro j h
   cases j with
   | zero=>exact⟨rfl,rfl,rfl⟩
   | succ j=>
     have:=ih (j:=j) (by simpa using h)
     have e:(j+1) * 3=j * 3+1+1+1:=by omega
     rw[e]
     simpa [pcells] using this
theorem own_prt {W:World} {B n c:Nat} {t:TypeId} {G:Option Addr} {l:List Pt} (h:W.ownsRow B t 3 (.slice G n c) n (pcells l)):Prt W G l∧l.length=n:=by
 have hl:l.length=n:=by
  have:=h.1
  rw[pcells_len] at this;omega
 refine⟨⟨fun j hj=>?_⟩,hl⟩
 obtain⟨f0,f1,f2⟩:=pcells_get hj
 rcases h.2 with ⟨e,h0⟩ | ⟨g,cap,cur,e,hB,hh,_,_,_,ht⟩
 · omega
 · injection e with e
   subst e
   have key:∀ i,i < n * 3→W.cell? ⟨g,0+i,none⟩=(pcells l)[i]?:=fun i hi=>by
    have:=congrArg (·[i]?) ht
    simp only[List.getElem?_take,hi,if_true] at this;rw[← this];simp[World.cell?,hh]
   have k0:=key (j * 3) (by omega);have k1:=key (j * 3+1) (by omega);have k2:=key (j * 3+2) (by omega)
   exact⟨g,0,rfl,Pm.lt_of_some hh,k0.trans f0,by rw[Nat.add_assoc];exact k1.trans f1,by rw[Nat.add_assoc];exact k2.trans f2⟩
theorem row_slice3 {B n:Nat} {W:World} {e:TypeId} {v:Value} {xs:List Value} (h:W.ownsRow B e 3 v n xs):∃ G c,v = .slice G n c:=by
 rcases h.2 with ⟨e,h0⟩ | ⟨g,cap,cur,e,_⟩
 · exact⟨none,0,by rw[e,h0]⟩
 · exact⟨_,_,e⟩
theorem row_base_lt3 {w:World} {B s:Nat} {e:TypeId} {n:Nat} {v:Value} {xs:List Value} (h:w.ownsRow B e s v n xs) {g:Nat} (hg:v.ownBlock=some g):B≤g:=(World.ownsRow.lt h g hg).1
theorem own_keep3 {w w':World} {B n s:Nat} {t:TypeId} {v:Value} {xs:List Value} (h:w.ownsRow B t s v n xs) (hb:Below w.heap.size w w'):w'.ownsRow B t s v n xs:=by
 have hN:∀ g,v.ownBlock=some g→g < w.heap.size:=fun g hg=>(World.ownsRow.lt h g hg).2
 rcases h with ⟨h1,h2⟩
 refine⟨h1,?_⟩
 rcases h2 with h0 | ⟨g,cap,cur,e,hB,hh,hr⟩
 · exact .inl h0
 · exact .inr ⟨g,cap,cur,e,hB,(hb.block g (hN g (by rw[e];rfl))).trans hh,hr⟩
def slots (l:List Pt):List Int:=l.map fun p=>(p.s:Int)
theorem slots_snoc (l:List Pt) (p:Pt):slots (l++[p])=slots l++[(p.s:Int)]:=by simp[slots]
theorem slots_len (l:List Pt):(slots l).length=l.length:=by simp[slots]
end Chn
end
section
open Lib (hid)
open Go.RowKit Go.MapKept
namespace Slo
open Lin
theorem within_any (w:World) (n a b:Int) :
 Calls Tryz.prog 222 #[.int .i64 n,.int .i64 a,.int .i64 b] w fun e w'=>e = .returned (.bool (decide (a≤n∧n≤b)))∧w=w':=by
 go_enter Tryz.func222,Tryz.ntmps222
 go_wp2
 · rename_i h
   go_ret
   exact⟨by simp[h],rfl⟩
 · rename_i h
   go_ret
   refine⟨?_,rfl⟩
   have:¬ a≤n:=by omega
   simp[this]
theorem toField_any (w:World) (n:Int) (q:Nat) (hn:n=nx q) (hq:q < 65536) :
 Calls Tryz.prog 241 #[.int .i64 n] w fun e w'=>e = .returned (.int .i64 (q:Int))∧w=w':=by
 by_cases h:q=65535
 · subst h
   rw[nx_none] at hn;subst hn;go_enter Tryz.func241,Tryz.ntmps241
   go_wp2
   go_ret
   exact⟨rfl,rfl⟩
 · rw[nx_some h] at hn
   subst hn;have h1:¬ (q:Int) = -1:=by omega
   go_enter Tryz.func241,Tryz.ntmps241
   go_wp2
   go_ret
   exact⟨rfl,rfl⟩
theorem toNext_any (w:World) (q:Nat) :
 Calls Tryz.prog 220 #[.int .i64 (q:Int)] w fun e w'=>e = .returned (.int .i64 (nx q))∧w=w':=by
 by_cases h:q=65535
 · subst h
   rw[nx_none];go_enter Tryz.func220,Tryz.ntmps220
   go_wp2
   go_ret
   exact⟨rfl,rfl⟩
 · rw[nx_some h]
   have h1:¬ (q:Int)=65535:=by omega
   go_enter Tryz.func220,Tryz.ntmps220
   go_wp2
   go_ret
   exact⟨rfl,rfl⟩
theorem field_any (w:World) (n:Nat) (h:n < 65536) :
 Calls Tryz.prog 240 #[.int .i64 (n:Int)] w fun r w'=>r = .returned (.agg #[.int .i64 16,.int .u64 (n:Int)])∧Below w.heap.size w w':=by
 go_enter Tryz.func240,Tryz.ntmps240
 go_wp2
 refine bodyPost_ret (v:=.agg #[.int .i64 16,.int .u64 (n:Int)]) ?_ rfl ⟨rfl,?_⟩
 · simp[results,Tryz.results240,go_sem]
 · first
   | exact (Below.refl _ _).alloc (Nat.le_refl _) _
   | exact (((Below.refl _ _).alloc (Nat.le_refl _) _).setCell (by simp) _).setCell (by simp) _
theorem may_any (w:World) (s c n:Int) :
 Calls Tryz.prog 180 #[.agg #[.int .i64 s,.int .i64 c,.int .i64 n]] w fun r w'=>r = .returned (.bool (may s c n))∧Below w.heap.size w w':=by
 have HB:=hid ((Below.refl w.heap.size w).alloc (Nat.le_refl _) (.cells #[.int .i64 s,.int .i64 c,.int .i64 n] 190));have HS:=hid (fun w=>within_any w s 0 65533);have HN:=hid (fun w=>within_any w n (-1) 65533);by_cases h1:0≤s∧s≤65533
 · have h11:=h1.1
   have h12:=h1.2;have HC:=hid (fun w=>within_any w c 1 (65534 - s));by_cases h2:1≤c∧c≤65534 - s
   · have HE:=hid (show may s c n=decide (-1≤n∧n≤65533) by
      rw[Bool.eq_iff_iff,decide_eq_true_iff]
      exact⟨fun h=>(may_iff.1 h).2.2,fun h=>may_iff.2 ⟨h1,h2,h⟩⟩)
     have H1:=hid (decide_eq_true h1);have H2:=hid (decide_eq_true h2);clear h1 h2;go_enter Tryz.func180,Tryz.ntmps180
     go_wp2_with fail
     refine (HS.out _).mono ?_;rintro e w' ⟨rfl,rfl⟩;rw[H1.out];go_wp2_with fail
     refine (HC.out _).mono ?_;rintro e w' ⟨rfl,rfl⟩;rw[H2.out];go_wp2_with fail
     refine (HN.out _).mono ?_;rintro e w' ⟨rfl,rfl⟩;rw[← HE.out];go_wp2
     go_ret
     exact⟨rfl,HB.out⟩
   · have HE:=hid (show may s c n=false by unfold may May;exact decide_eq_false (fun h=>h2 h.2.1))
     have H1:=hid (decide_eq_true h1);have H2:=hid (decide_eq_false h2);clear h1 h2;go_enter Tryz.func180,Tryz.ntmps180
     go_wp2_with fail
     refine (HS.out _).mono ?_;rintro e w' ⟨rfl,rfl⟩;rw[H1.out];go_wp2_with fail
     refine (HC.out _).mono ?_;rintro e w' ⟨rfl,rfl⟩;rw[H2.out];go_wp2
     go_ret
     exact⟨by rw[HE.out];rfl,HB.out⟩
 · have HE:=hid (show may s c n=false by unfold may May;exact decide_eq_false (fun h=>h1 h.1))
   have H1:=hid (decide_eq_false h1);clear h1;go_enter Tryz.func180,Tryz.ntmps180
   go_wp2_with fail
   refine (HS.out _).mono ?_;rintro e w' ⟨rfl,rfl⟩;rw[H1.out];go_wp2
   go_ret
   exact⟨by rw[HE.out];rfl,HB.out⟩
def fin (s c n:Int):Int:=if may s c n=true then s+c else 0
end Slo
end
section
open Lib (hid)
open Go.RowKit Go.MapKept
namespace Vol
section
variable {w : World}
theorem own_room (G:Option Addr) (n m:Nat):Calls Tryz.prog 14 #[.slice G n m] w fun e w'=>e = .returned (.pointer (some ⟨w.heap.size+1,0,none⟩)) ∧
 w'=(w.alloc (.map #[] 0)).alloc (.cells #[.int .i64 0,.int .i64 0,.bool false,.int .i64 0,.slice G n m,.map (some w.heap.size),.slice none 0 0] 42):=by
 have hmm:=@run_makeMap Tryz.prog;go_enter Tryz.func14,Tryz.ntmps14
 go_wp2
 go_ret
 exact⟨rfl,rfl⟩
theorem rep_of {w1:World} {g c:Nat} {l:List Int} (h:w1.ownsRow w.heap.size 50 1 (.slice (some ⟨g,0,none⟩) l.length c) l.length (Pm.u64s l)) :
 ∃ D,D.abs=⟨0,0,false,0,l,[],[]⟩∧Pm.Rep ((w1.alloc (.map #[] 0)).alloc (.cells #[.int .i64 0,.int .i64 0,.bool false,.int .i64 0,.slice (some ⟨g,0,none⟩) l.length c,.map (some w1.heap.size),.slice none 0 0] 42)) (w1.heap.size+1) D ∧
   ∀ k,Pm.Foot (w1.heap.size+1) D k→w.heap.size≤k:=by
 rcases h.2 with ⟨e,_⟩ | ⟨g',c',cur,e,hb,hg,hn,hm,hs,ht⟩
 · cases e
 injection e with e1 _ e3
 injection e1 with e1
 injection e1 with e1
 subst e1 e3;simp only[Nat.mul_one] at hs ht;have hglt:=Pm.lt_of_some hg
 have hcur:(Pm.u64s l++cur.toList.drop l.length).toArray=cur:=by
  apply Array.toList_inj.1;rw[← ht];exact List.take_append_drop _ _
 refine⟨{ steps:=0,stores:=0,armed:=false,left:=0,words:=l,ents:=[],marked:=[],wb:=g,mb:=w1.heap.size,clock:=0,mka:=none,mkc:=0,wcap:=c,spare:=cur.toList.drop l.length },rfl,?_,?_⟩
 · refine⟨?_,?_,?_,by simp,⟨by simp[Pm.i64s],.inl ⟨rfl,rfl⟩⟩,by simp,by simp,by simp[Pm.Stamp]⟩
   · have:=(heap_alloc (w1.alloc (.map #[] 0)) (.cells #[.int .i64 0,.int .i64 0,.bool false,.int .i64 0,.slice (some ⟨g,0,none⟩) l.length c,.map (some w1.heap.size),.slice none 0 0] 42)).1
     rw[World.size_alloc] at this;exact this
   · show _=some (Obj.cells (Pm.u64s l++cur.toList.drop l.length).toArray 50 (0,0))
     rw[hcur];exact Pm.blk_alloc (Pm.blk_alloc hg _) _
   · exact Pm.blk_alloc (heap_alloc w1 _).1 _
 · rintro k (rfl | rfl | rfl | hk | hk)
   · omega
   · exact hb
   · show w.heap.size≤w1.heap.size
     omega
   · simp at hk
   · simp[Pm.Dev.mkv,Value.ownBlock] at hk
theorem of_at (g o c:Nat) (l:List Nat) (h:Pack.Wds w (some ⟨g,o,none⟩) l) (hg:g < w.heap.size) (hc:l.length≤c) (h0:0 < l.length) (hl:l.length≤4194304) :
 Calls Tryz.prog 5 #[.slice (some ⟨g,o,none⟩) l.length c] w fun r w'=>∃ a,r = .returned (.pointer (some ⟨a,0,none⟩))∧Ls (fun k=>k < w.heap.size) w' a l 0 0∧Below w.heap.size w w':=by
 have hcl:=fun n=>Pm.clone_any (w:=w) ⟨g,o,none⟩ n (l.map Int.ofNat) hg (by rw[List.length_map];omega) (fun j u hu=>by
  rw[Addr.add_lit];unfold Pm.u64s at hu;rw[List.map_map,List.getElem?_map] at hu
  rcases Nat.lt_or_ge j l.length with h1 | h1
  · obtain⟨b,o',e,_,hc⟩:=h.at' j h1
    injection e with e
    injection e with e1 e2
    subst e1 e2;rw[List.getElem?_eq_getElem h1] at hu;rw[hc];exact hu
  · rw[List.getElem?_eq_none h1] at hu
    cases hu)
 rw[List.length_map] at hcl;have HC:=hid hcl;have H64:=hid h.u64;have HO:=hid (fun (w:World) G n m=>@own_room w G n m);have hmin:min (l.length:Int) 4194304=(l.length:Int):=by omega
 have HMIN:=hid hmin;clear hcl h hg hmin;go_enter Tryz.func5,Tryz.ntmps5
 go_wp2_with fail
 try rw[HMIN.out,Int.toNat_natCast]
 refine (HC.out _).mono ?_;rintro r w1 ⟨v,rfl,hown,hoff⟩;rw[List.length_map] at hown
 obtain⟨g1,c1,rfl⟩:=Pm.row_form hown h0
 have HW:=hid hown;have HF:=hid hoff;clear hown hoff HC;go_wp2_with fail
 refine (HO.out _ _ _ _).mono ?_;rintro r w2 ⟨rfl,rfl⟩;go_wp2
 go_ret;have hown:=HW.out;rw[show l.length=(l.map Int.ofNat).length by simp] at hown
 obtain⟨D,hD,hrep,hf⟩:=rep_of (w:=w) hown
 rw[List.length_map] at hrep;have hb:=(off_below HF.out)
 have hb2:Below w.heap.size w ((w1.alloc (.map #[] 0)).alloc (.cells #[.int .i64 0,.int .i64 0,.bool false,.int .i64 0,.slice (some ⟨g1,0,none⟩) l.length c1,.map (some w1.heap.size),.slice none 0 0] 42)):=
  (hb.alloc hb.size _).alloc (by have:=hb.size;simp;omega) _
 refine⟨_,rfl,⟨_,⟨D,hrep,hD,?_,fun k hk hn=>?_,fun k hk=>?_⟩,rfl,rfl,H64.out,rfl,rfl,rfl⟩,hb2⟩
 · refine⟨by simp,by simp,by simp,by simp,by simp,by simpa using hl,Nat.le_refl _,by simp,by simp⟩
 · have:=hf k hk
   omega
 · exact Nat.lt_of_lt_of_le hk hb2.size
theorem of_ls (g c:Nat) (l:List Nat) (h:Pack.Wds w (some ⟨g,0,none⟩) l) (hg:g < w.heap.size) (hc:l.length≤c) (h0:0 < l.length) (hl:l.length≤4194304) :
 Calls Tryz.prog 5 #[.slice (some ⟨g,0,none⟩) l.length c] w fun r w'=>∃ a,r = .returned (.pointer (some ⟨a,0,none⟩))∧Ls (fun k=>k < w.heap.size) w' a l 0 0∧Below w.heap.size w w':=
 of_at g 0 c l h hg hc h0 hl
theorem of_any (g c:Nat) (l:List Nat) (h:Pack.Wds w (some ⟨g,0,none⟩) l) (hg:g < w.heap.size) (hc:l.length≤c) (h0:0 < l.length) (hl:l.length≤4194304) :
 Calls Tryz.prog 5 #[.slice (some ⟨g,0,none⟩) l.length c] w fun r w'=>∃ a,r = .returned (.pointer (some ⟨a,0,none⟩))∧Up (fun k=>k < w.heap.size) w' a l 0 0∧Below w.heap.size w w':=
 (of_ls g c l h hg hc h0 hl).mono fun _ _ ⟨a,h1,h2,h3⟩=>⟨a,h1,h2.up,h3⟩
end
end Vol
end
section
open Lib (hid)
open Go.RowKit Go.MapKept
namespace Vol
structure Pl (n m s sl bm bk E:Nat):Prop where
 may:Geo.may n m s=true
 e1:16+(m:Int) * 8=(sl:Int)
 e2:Geo.bmAt n m=(bm:Int)
 e3:Geo.bkAt n m=(bk:Int)
 e4:Geo.fin n m s=(E:Int)
 n20:1≤n∧n≤20
 m20:1≤m∧m≤20
 s2:s=64∨s=128
def gn (x:Nat):Nat:=1+x % 20
def gs (x:Nat):Nat:=64 * 2 ^ (x % 2)
theorem gs_cases (x:Nat):gs x=64∨gs x=128:=by
 unfold gs
 have:x % 2=0∨x % 2=1:=by omega
 rcases this with h | h<;>rw[h]<;>simp
theorem pl_any (n m k:Nat):∃ sl bm bk E,Pl (gn n) (gn m) (gs k) sl bm bk E:=by
 have h1:1≤gn n∧gn n≤20:=by unfold gn;omega
 have h2:1≤gn m∧gn m≤20:=by unfold gn;omega
 have h3:=gs_cases k;generalize gn n=N at *;generalize gn m=M at *;generalize gs k=S at *
 refine⟨16+M * 8,16+M * 8+(N+7) / 8 * 8,16+M * 8+(N+7) / 8 * 8+((N+63) / 64+7) / 8 * 8,16+M * 8+(N+7) / 8 * 8+((N+63) / 64+7) / 8 * 8+N * (S / 8),?_,?_,?_,?_,?_,h1,h2,h3⟩
 · refine Geo.may_yes ⟨⟨by omega,by omega,?_⟩,?_⟩
   · unfold Geo.Sz
     omega
   · unfold Geo.fin Geo.bkAt Geo.bmAt Geo.lines
     rcases h3 with h | h<;>rw[h]<;>omega
 · omega
 · unfold Geo.bmAt Geo.lines
   omega
 · unfold Geo.bkAt Geo.bmAt Geo.lines
   omega
 · unfold Geo.fin Geo.bkAt Geo.bmAt Geo.lines
   simp
section
variable {n m s sl bm bk E : Nat}
theorem Pl.at (h:Pl n m s sl bm bk E):sl=16+m * 8∧bm=sl+8 * ((n+7) / 8)∧bk=bm+8∧E=bk+n * (s / 8)∧E≤540:=by
 have h1:=h.e1;have h2:=h.e2;have h3:=h.e3;have h4:=h.e4;have h5:=h.n20;have h6:=h.m20;unfold Geo.fin at h4;unfold Geo.bkAt at h3 h4;unfold Geo.bmAt at h2 h3 h4;unfold Geo.lines at h2 h3 h4
 rcases h.s2 with h7 | h7<;>subst h7<;>refine⟨by omega,by omega,by omega,?_,?_⟩<;>omega
end
def Hb (w:World) (b:Nat) (cs:Array Value) (t:TypeId):Prop:=w.heap[b]? = some (.cells cs t (0,0))
section
variable {w w' : World} {b : Nat} {cs : Array Value} {t : TypeId}
theorem Hb.lt (h:Hb w b cs t):b < w.heap.size:=Pm.lt_of_some h
theorem Hb.keep (h:Hb w b cs t) (hb:Below w.heap.size w w'):Hb w' b cs t:=(hb.block b h.lt).trans h
theorem Hb.below {B:Nat} (h:Hb w b cs t) (hb:Below B w w') (hB:b < B):Hb w' b cs t:=(hb.block b hB).trans h
theorem Hb.kq {Q:Nat→Prop} (h:Hb w b cs t) (hk:Kq Q w w') (hq:Q b):Hb w' b cs t:=(hk.at hq h.lt).trans h
theorem Hb.cell (h:Hb w b cs t) (i:Nat):w.cell? ⟨b,i,none⟩=cs[i]?:=Pm.blk_cell h i
theorem Hb.frozen (h:Hb w b cs t) (i:Nat):w.frozen? ⟨b,i,none⟩=false:=Pm.blk_frozen h i
theorem Hb.set (h:Hb w b cs t) (i:Nat) (u:Value):Hb (w.setCell ⟨b,i,none⟩ u) b (cs.setIfInBounds i u) t:=Pm.blk_set h i u
theorem Hb.far (h:Hb w b cs t) {p:Addr} (hp:b≠p.block) (u:Value):Hb (w.setCell p u) b cs t:=Pm.blk_far h hp u
theorem hb_new (w:World) (cs:Array Value) (t:TypeId):Hb (w.alloc (.cells cs t)) w.heap.size cs t:=(heap_alloc w _).1
theorem hb_grown {row:Option Nat} (h:Hb w b cs t) (hg:w.grownBy w' row) (hr:row≠some b):Hb w' b cs t:=(hg.block b h.lt (fun e=>hr e.symm)).trans h
theorem hb_apart {B n:Nat} {e:TypeId} {v:Value} {xs:List Value} (h:Hb w b cs t) (ho:w.ownsRow B e 1 v n xs) (ht:e≠t):v.ownBlock≠some b:=by
 rcases ho.2 with ⟨e1,_⟩ | ⟨g,cap,cur,e1,_,hg,_⟩
 · rw[e1];simp[Value.ownBlock]
 · rw[e1]
   simp only[Value.ownBlock,ne_eq,Option.some.injEq];exact Pm.blk_ne hg h ht
theorem Hb.drewN (h:Hb w b cs t) (n:Nat):Hb (w.drewN n) b cs t:=h
end
def dv (n m s sl bm bk E:Nat) (v:Value):Array Value:=#[.int .i64 (n:Int),.int .i64 (m:Int),.int .i64 (s:Int),.int .i64 16,.int .i64 (sl:Int),.int .i64 (bm:Int),.int .i64 (bk:Int),.int .i64 (E:Int),v]
section
variable {w : World} {n m s sl bm bk E : Nat}
theorem refOf_any (w:World) (h:Pl n m s sl bm bk E):Calls Tryz.prog 150 #[.int .i64 (n:Int),.int .i64 (m:Int),.int .i64 (s:Int),.slice none 0 0] w fun r w'=>r = .returned (.agg (dv n m s sl bm bk E (.slice none 0 0)))∧Below w.heap.size w w':=by
 have hof:=fun w=>Geo.of_any w (n:Int) (m:Int) (s:Int)
 rw[h.may,Geo.parts_yes h.may,h.e1,h.e2,h.e3,h.e4] at hof;have HO:=hid hof;clear hof h;unfold dv;go_enter Tryz.func150,Tryz.ntmps150
 have hz0:=(heap_alloc w (.cells #[.int .i64 0,.int .i64 0,.int .i64 0,.int .i64 0,.int .i64 0,.int .i64 0,.int .i64 0,.int .i64 0,.slice none 0 0] 102)).1;have HB0:=hid ((Below.refl w.heap.size w).alloc (Nat.le_refl _) (.cells #[.int .i64 0,.int .i64 0,.int .i64 0,.int .i64 0,.int .i64 0,.int .i64 0,.int .i64 0,.int .i64 0,.slice none 0 0] 102));have HZ:=hid hz0;clear hz0;go_wp2_with fail
 generalize w.alloc (.cells #[.int .i64 0,.int .i64 0,.int .i64 0,.int .i64 0,.int .i64 0,.int .i64 0,.int .i64 0,.int .i64 0,.slice none 0 0] 102)=w0 at *;refine (HO.out _).mono ?_;rintro r w1 ⟨rfl,hb⟩;have HB:=hid (HB0.out.trans (hb.mono HB0.out.size));have hblk:=(hb.block w.heap.size (Pm.lt_of_some HZ.out)).trans HZ.out;have hl:=Pm.lt_of_some hblk;have c0:=Pm.blk_cell hblk 0;have c1:=Pm.blk_cell hblk 1;have c2:=Pm.blk_cell hblk 2;have c3:=Pm.blk_cell hblk 3;have c4:=Pm.blk_cell hblk 4;have c5:=Pm.blk_cell hblk 5;have c6:=Pm.blk_cell hblk 6;have c7:=Pm.blk_cell hblk 7;have c8:=Pm.blk_cell hblk 8;have f0:=Pm.blk_frozen hblk 0;have f1:=Pm.blk_frozen hblk 1;have f2:=Pm.blk_frozen hblk 2;have f3:=Pm.blk_frozen hblk 3;have f4:=Pm.blk_frozen hblk 4;have f5:=Pm.blk_frozen hblk 5;have f6:=Pm.blk_frozen hblk 6;have f7:=Pm.blk_frozen hblk 7;have f8:=Pm.blk_frozen hblk 8;clear hb hblk HO HZ HB0;go_wp2
 refine bodyPost_ret (v:=.agg #[.int .i64 (n:Int),.int .i64 (m:Int),.int .i64 (s:Int),.int .i64 16,.int .i64 (sl:Int),.int .i64 (bm:Int),.int .i64 (bk:Int),.int .i64 (E:Int),.slice none 0 0]) ?_ rfl ⟨rfl,?_⟩
 · simp[results,Tryz.results150,go_sem,c0,c1,c2,c3,c4,c5,c6,c7,c8,hl]
 · have h9:=(((((((((HB.out.setCell (p:=⟨w.heap.size,0,none⟩) (Nat.le_refl _) (.int .i64 (n:Int))).setCell (p:=⟨w.heap.size,1,none⟩) (Nat.le_refl _) (.int .i64 (m:Int))).setCell (p:=⟨w.heap.size,2,none⟩) (Nat.le_refl _) (.int .i64 (s:Int))).setCell (p:=⟨w.heap.size,3,none⟩) (Nat.le_refl _) (.int .i64 16)).setCell (p:=⟨w.heap.size,4,none⟩) (Nat.le_refl _) (.int .i64 (sl:Int))).setCell (p:=⟨w.heap.size,5,none⟩) (Nat.le_refl _) (.int .i64 (bm:Int))).setCell (p:=⟨w.heap.size,6,none⟩) (Nat.le_refl _) (.int .i64 (bk:Int))).setCell (p:=⟨w.heap.size,7,none⟩) (Nat.le_refl _) (.int .i64 (E:Int))).setCell (p:=⟨w.heap.size,8,none⟩) (Nat.le_refl _) (.slice none 0 0))
   exact h9.alloc h9.size _
theorem rgeo_any (w:World) (x y k:Nat) (hx:x < 256) (hy:y < 256) (hk:k < 256) (v:Value):Calls Tryz.prog 148 #[.agg #[.int .u8 (x:Int),.int .u8 (y:Int),.int .u8 (k:Int),v]] w fun r w'=>r = .returned (.agg #[.int .i64 (gn x:Nat),.int .i64 (gn y:Nat),.int .i64 (gs k:Nat)])∧Below w.heap.size w w':=by
 go_enter Tryz.func148,Tryz.ntmps148
 go_wp2
 have e1:(1:Int)+(x:Int) % 20=(gn x:Nat):=by unfold gn;omega
 have e2:(1:Int)+(y:Int) % 20=(gn y:Nat):=by unfold gn;omega
 have e3:wrap64 (64 * 2 ^ (k % 2))=(gs k:Nat):=by
  have e:(64:Int) * 2 ^ (k % 2)=(gs k:Nat):=by unfold gs;simp
  rw[e];refine IntWalk.wrap64_in _ ?_
  have:=gs_cases k
  omega
 rw[e1,e2,e3];refine bodyPost_ret (v:=.agg #[.int .i64 (gn x:Nat),.int .i64 (gn y:Nat),.int .i64 (gs k:Nat)]) ?_ rfl ⟨rfl,?_⟩
 · simp[results,Tryz.results148,go_sem]
 · exact ((Below.refl _ _).alloc (Nat.le_refl _) _).alloc (by simp) _
end
end Vol
end
section
open Lib (hid)
open Go.RowKit Go.MapKept
namespace Chn
open Vol (Hb hb_new hb_grown hb_apart)
def Mays (l:List Pt):Prop:=∀ p∈l,Slo.may (p.x:Int) (p.c:Int) (Slo.nx p.q)=true
def tot (l:List Pt):Nat:=(l.map Pt.c).sum
theorem tot_snoc {l:List Pt} {m:Nat} (h:m < l.length):tot (l.take (m+1))=tot (l.take m)+l[m].c:=by
 unfold tot;rw[List.take_succ_eq_append_getElem h,List.map_append,List.sum_append];simp
theorem tot_le {l:List Pt} (h:Mays l) (k:Nat):tot (l.take k)≤65534 * l.length:=by
 have:∀ (l:List Pt),Mays l→tot l≤65534 * l.length:=by
  intro l
  induction l with
  | nil=>intro _;simp[tot]
  | cons p l ih=>
    intro h;have h1:=ih (fun q hq=>h q (List.mem_cons_of_mem _ hq));have h2:=Slo.may_lt (h p (by simp));unfold tot at h1 ⊢;simp only[List.map_cons,List.sum_cons,List.length_cons];omega
 have h1:=this (l.take k) (fun p hp=>h p (List.mem_of_mem_take hp));have h2:(l.take k).length≤l.length:=by rw[List.length_take];omega
 omega
def blk (l:List Pt):List Nat:=l.flatMap fun p=>(List.range p.c).map (p.x+·)
theorem blk_len:∀ l:List Pt,(blk l).length=tot l
 | []=>rfl
 | p :: l=>by
   have:=blk_len l
   unfold blk tot at this ⊢;rw[List.flatMap_cons,List.length_append,this];simp
theorem blocksOf_any (w:World) (x c q:Nat) (z:Int) (hz:z=Slo.nx q) (hm:Slo.may (x:Int) (c:Int) (Slo.nx q)=true) :
 Calls Tryz.prog 115 #[.agg #[.int .i64 (x:Int),.int .i64 (c:Int),.int .i64 z]] w fun r w'=>r = .returned (.int .i64 (c:Int))∧Below w.heap.size w w':=by
 subst hz;have hmy:=fun w=>Slo.may_any w (x:Int) (c:Int) (Slo.nx q)
 rw[hm] at hmy;have HM:=hid hmy;clear hmy hm;generalize Slo.nx q=z at *;go_enter Tryz.func115,Tryz.ntmps115
 go_wp2_with fail
 have hb0:=(Below.refl w.heap.size w).alloc (Nat.le_refl _) (.cells #[.int .i64 (x:Int),.int .i64 (c:Int),.int .i64 z] 190);have HX:=hid (hb_new w #[.int .i64 (x:Int),.int .i64 (c:Int),.int .i64 z] 190);have HB:=hid hb0;clear hb0;generalize w.alloc (.cells #[.int .i64 (x:Int),.int .i64 (c:Int),.int .i64 z] 190)=w0 at *;refine (HM.out _).mono ?_;rintro r w1 ⟨rfl,hb⟩;have c1:=(HX.out.keep hb).cell 1;have HB1:=hid (HB.out.trans (hb.mono HB.out.size));clear hb;go_wp2
 go_ret
 exact⟨rfl,HB1.out⟩
theorem count_any (w:World) (A B:Option Addr) (n' c d:Nat) (l:List Pt) (h:Prt w B l) (hm:Mays l) (hl:l.length≤65534) :
 Calls Tryz.prog 61 #[.agg #[.slice A n' c,.slice B l.length d]] w fun r w'=>r = .returned (.int .i64 (tot l:Nat))∧Below w.heap.size w w':=by
 have H:=hid h;have HM:=hid hm;have HTL:=hid (tot_le hm);clear h hm;go_enter Tryz.func61,Tryz.ntmps61
 go_wp2
 have HB0:=hid ((Below.refl w.heap.size w).alloc (Nat.le_refl _) (.cells #[.slice A n' c,.slice B l.length d] 130))
 go_loopw [3,9] (fun cnt i wr=>∃ m:Nat,m≤l.length∧i = .int .i64 (m:Int)∧cnt = .int .i64 (tot (l.take m):Nat)∧Below w.heap.size w wr) (fun _ i _=>l.length - (intOf i).toNat)
 case atStart=>exact⟨0,Nat.zero_le _,rfl,by simp[tot],HB0.out⟩
 case round=>
  obtain⟨m,hm,rfl,rfl,hb⟩:=hrel
  clear HB0;by_cases hlt:m < l.length
  · obtain⟨b,o,rfl,hbb,hc0,hc1,hc2⟩:=H.out.at' m hlt
    have hc0:=(hb.cell (p:=⟨b,o+m * 3,none⟩) hbb).trans hc0;have hc1:=(hb.cell (p:=⟨b,o+m * 3+1,none⟩) hbb).trans hc1;have hc2:=(hb.cell (p:=⟨b,o+m * 3+2,none⟩) hbb).trans hc2;have hbb:=Nat.lt_of_lt_of_le hbb hb.size;have HBO:=hid (fun w=>blocksOf_any w l[m].x l[m].c l[m].q _ rfl (HM.out _ (List.getElem_mem hlt)));have HT:=hid (tot_snoc hlt);have ht0:=HTL.out m;have hcl:=(Slo.may_lt (HM.out _ (List.getElem_mem hlt))).2.2.1;generalize l[m]=p at *
    obtain⟨p0,x,y,q⟩:=p
    simp only at hc0 hc1 hc2 HBO HT hcl;generalize Slo.nx q=z at *;have hba:=hb.alloc hb.size (.cells #[.int .i64 (x:Int),.int .i64 (y:Int),.int .i64 z] 190);have HB:=hid hba;generalize tot (l.take m)=T at *;clear hba hb;go_wp2_with fail
    refine (HBO.out _).mono ?_;rintro r w2 ⟨rfl,hb2⟩;have HB2:=hid (HB.out.trans (hb2.mono HB.out.size));clear hb2;go_wp2
    refine⟨⟨m+1,by omega,by go_num,?_,HB2.out⟩,by simp[intOf];omega⟩
    rw[HT.out]
    go_num
  · obtain rfl:m=l.length:=by omega
    rw[List.take_length];go_wp2
    go_ret
    exact⟨rfl,hb⟩
end Chn
end
section
open Go.RowKit Go.MapKept
namespace Ino
open Lin
def plc (h s:Int):Bool:=decide ((-1≤h∧h≤65533)∧(0≤s∧s≤268435456)∧(h = -1↔s=0))
def May (k h s:Int):Prop:=(k=0∧h = -1∧s=0)∨((k=1∨k=2∧s % 64=0)∧(-1≤h∧h≤65533)∧(0≤s∧s≤268435456)∧(h = -1↔s=0))
instance (k h s:Int):Decidable (May k h s):=by unfold May;infer_instance
def may (k h s:Int):Bool:=decide (May k h s)
def nums (k p:Nat):Nat:=k+65536 * p
def front (k p s:Nat):List Nat:=[nums k p,s,0,0,0,0,0]
def sum (k p s:Nat):Nat:=Crc.S32 (Crc.wflat (front k p s))
def zero:List Nat:=[0,0,0,0,0,0,0,0]
def full (k p s:Nat):List Nat:=[nums k p,s,0,0,0,0,0,sum k p s]
def ln (k p s:Nat):List Nat:=if k=0 then zero else full k p s
theorem front_len (k p s:Nat):(front k p s).length=7:=rfl
theorem ln_len (k p s:Nat):(ln k p s).length=8:=by
 unfold ln
 split<;>rfl
theorem ln_zero (p s:Nat):ln 0 p s=zero:=rfl
theorem ln_full {k:Nat} (h:k≠0) (p s:Nat):ln k p s=full k p s:=if_neg h
theorem nums_lt {k p:Nat} (hk:k < 65536) (hp:p < 65536):nums k p < 4294967296:=by unfold nums;omega
theorem sum_lt (k p s:Nat):sum k p s < 4294967296:=s32_lt _
theorem front_u64 {k p s:Nat} (hk:k < 65536) (hp:p < 65536) (hs:s < 18446744073709551616):∀ x∈front k p s,x < 18446744073709551616:=by
 intro x hx;have h1:=nums_lt hk hp;simp only[front,List.mem_cons,List.not_mem_nil,or_false] at hx
 rcases hx with rfl | rfl | rfl | rfl | rfl | rfl | rfl<;>omega
theorem full_u64 {k p s:Nat} (hk:k < 65536) (hp:p < 65536) (hs:s < 18446744073709551616):∀ x∈full k p s,x < 18446744073709551616:=by
 intro x hx;have h1:=nums_lt hk hp;have h2:=sum_lt k p s;simp only[full,List.mem_cons,List.not_mem_nil,or_false] at hx
 rcases hx with rfl | rfl | rfl | rfl | rfl | rfl | rfl | rfl<;>omega
theorem zero_u64:∀ x∈zero,x < 18446744073709551616:=by decide
theorem may_lt {k p s:Nat} (h:may k ((p:Int) - 1) s=true):k < 3∧p < 65535∧s≤268435456:=by
 have h:=of_decide_eq_true h;unfold May at h;omega
theorem may_free {p s:Nat} (h:may ((0:Nat):Int) ((p:Int) - 1) s=true):p=0∧s=0:=by
 have h:=of_decide_eq_true h;unfold May at h;omega
theorem ln_u64 {k p s:Nat} (h:may k ((p:Int) - 1) s=true):∀ x∈ln k p s,x < 18446744073709551616:=by
 obtain⟨h1,h2,h3⟩:=may_lt h
 unfold ln
 split
 · exact zero_u64
 · exact full_u64 (by omega) (by omega) (by omega)
theorem pk_nums {k p:Nat} (hk:k < 65536) (hp:p < 65536):Pack.pk 0 0 [⟨16,k⟩,⟨16,p⟩]=some (nums k p,32):=by
 unfold nums;simp[Pack.pk,hk,hp];omega
theorem split_nums (x:Nat):Pack.split x [16,16]=if x < 4294967296 then some [x % 65536,x / 65536 % 65536] else none:=by
 have h:Pack.tot 0 [16,16]=some 32:=by decide
 unfold Pack.split;rw[h];have e:(2:Nat) ^ 32=4294967296:=rfl;simp only[e];by_cases hx:x < 4294967296
 · have:x / 4294967296=0:=by omega
   simp[hx,this,Pack.sp]
 · have:¬ x / 4294967296=0:=by omega
   simp[hx,this]
def dec (l:List Nat):Option (Nat × Nat × Nat):=
 let x:Nat:=l[0]?.getD 0
 let s:Nat:=l[1]?.getD 0
 let k:Nat:=x % 65536
 let p:Nat:=x / 65536
 if l.length=8∧x < 4294967296∧may k ((p:Int) - 1) s=true∧l=ln k p s then some (k,p,s) else none
theorem dec_ln {k p s:Nat} (h:may k ((p:Int) - 1) s=true):dec (ln k p s)=some (k,p,s):=by
 obtain⟨h1,h2,h3⟩:=may_lt h
 by_cases hk:k=0
 · subst hk
   obtain⟨rfl,rfl⟩:=may_free h
   unfold dec;exact if_pos ⟨rfl,by decide,h,rfl⟩
 · have h4:=nums_lt (k:=k) (p:=p) (by omega) (by omega)
   have e1:nums k p % 65536=k:=by unfold nums;omega
   have e2:nums k p / 65536=p:=by unfold nums;omega
   have e:(ln k p s)[0]?.getD 0=nums k p:=by rw[ln_full hk];rfl
   have e':(ln k p s)[1]?.getD 0=s:=by rw[ln_full hk];rfl
   unfold dec;simp only[e,e',e1,e2];exact if_pos ⟨ln_len k p s,h4,h,trivial⟩
theorem dec_some {l:List Nat} {k p s:Nat} (h:dec l=some (k,p,s)):may k ((p:Int) - 1) s=true∧l=ln k p s:=by
 unfold dec at h;simp only at h
 split at h
 · rename_i hc
   injection h with h
   injection h with h1 h2
   injection h2 with h2 h3
   subst h1 h2 h3;exact hc.2.2
 · cases h
end Ino
end
end Go.Proofs.YtlodpaaanfjkeaaGreatDoor
