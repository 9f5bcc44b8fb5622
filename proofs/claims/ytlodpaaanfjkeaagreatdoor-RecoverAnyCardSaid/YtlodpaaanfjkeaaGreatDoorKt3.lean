/- Texts laid together: PmStore, PmAbs, PmFlush, PmMay, PmSes, PmLives, SupLives, CrcLine, SupTurned, SupRead, VolFlu, VolDev, VolLay. -/
import Derived.Test.YtlodpaaanfjkeaaGreatDoorKt2
import Derived.Lib.SliceRun
import Derived.Test.YtlodpaaanfjkeaaGreatDoorKt1
import Derived.RegionTactic
import Derived.ChangeAlike
import Derived.Test.YtlodpaaanfjkeaaGreatDoorKa1
import Derived.Shelf.SlicesG.CompactI
import Derived.Ground.SlgnProg
import Derived.Test.YtlodpaaanfjkeaaGreatDoorProg
set_option maxRecDepth 100000
set_option maxHeartbeats 2000000
namespace Go.Proofs.YtlodpaaanfjkeaaGreatDoor
section
open Lib (hid)
open Go.RowKit Go.MapKept
namespace Pm
section
variable {w : World} {a : Nat} {D : Dev}
theorem store_none (h:Rep w a D) (i:Int) (x:Int) (hi:D.hasB i=false):Calls Tryz.prog 130 #[.pointer (some ⟨a,0,none⟩),.int .i64 i,.int .u64 x] w fun e w'=>e = .returned (.bool false)∧w=w':=by
 have hc:=has_any h i;rw[hi] at hc;have H:=hid hc;clear hc hi h;go_enter Tryz.func130,Tryz.ntmps130
 go_wp2_with (go_at_call 106;refine H.out.mono ?_;rintro e w' ⟨rfl,rfl⟩)
 go_ret
 exact⟨rfl,rfl⟩
theorem store_down (h:Rep w a D) (i:Int) (x:Int) (hd:D.down=true):Calls Tryz.prog 130 #[.pointer (some ⟨a,0,none⟩),.int .i64 i,.int .u64 x] w fun e w'=>e = .returned (.bool false)∧w=w':=by
 cases hi:D.hasB i
 · exact store_none h i x hi
 · have hc:=has_any h i
   have hs:=step_no h hd;rw[hi] at hc;have H:=hid hc;have HS:=hid hs;clear hc hi h hs hd;go_enter Tryz.func130,Tryz.ntmps130
   go_wp2_with (first
    | (go_at_call 106;refine H.out.mono ?_;rintro e w' ⟨rfl,rfl⟩)
    | (go_at_call 133;refine HS.out.mono ?_;rintro e w' ⟨rfl,rfl⟩))
   go_ret
   exact⟨rfl,rfl⟩
theorem step_res {w1:World} (h:Rep w1 a D.stepped) (ho:Off (fun k=>k=a) w w1):Res w a D w1 D.stepped:=⟨h,ho.mono (fun _ _ h=>.inl h),fun _ h=>.inl h⟩
def Dev.stored (D:Dev):Dev:={ D.stepped with stores:=D.stores+1 }
theorem stored_rep {w1:World} (h:Rep w1 a D.stepped):Res w1 a D.stepped (w1.setCell ⟨a,1,none⟩ (.int .i64 ((D.stores:Int)+1))) D.stored:=by
 refine⟨h.turn (D':=D.stored) ?_ (fun k hk hne=>Below.heap_setCell _ _ _ _ hne) rfl rfl rfl rfl rfl rfl rfl rfl,(Off.refl _ _).setCell (fun _=>.inl rfl) _,fun k hk=>.inl hk⟩
 rw[blk_set h.dev 1 _];simp[Dev.cells,Dev.stored,Dev.stepped]
theorem put_res {w2:World} (h:Rep w a D) {pre post:List Ent} {e e':Ent} (he:D.ents=pre++e :: post) (e1:e'.key=e.key) (e6:e'.born=e.born) (hoff:Off (fun k=>k=e.blk) w w2) (hl:e'.lies w2) (hb:e'.blk=e.blk∨w.heap.size≤e'.blk) :
 Res w a D (putMap w2 D.mb (pre++e' :: post) D.clock) { D with ents:=pre++e' :: post }:=by
 rcases hb with hb | hb
 · exact mid_res h he e1 e6 hb hoff hl
 have hnd:=h.nodup;rw[he,List.map_append,List.map_cons] at hnd;have hmid:=nodup_mid (List.nodup_cons.1 hnd).2;have hmem:∀ x,x∈pre∨x∈post→x∈D.ents:=by intro x hx;rw[he];simp only[List.mem_append,List.mem_cons];rcases hx with hx | hx<;>simp[hx]
 have hoth:∀ x,x∈pre∨x∈post→x.blk≠e.blk:=by
  rintro x (hx | hx) hxe
  · exact hmid.1 (by rw[← hxe];exact List.mem_map_of_mem hx)
  · exact hmid.2 (by rw[← hxe];exact List.mem_map_of_mem hx)
 have hlt:∀ x,x∈pre∨x∈post→x.blk < w.heap.size:=fun x hx=>h.foot_lt (.inr (.inr (.inr (.inl (List.mem_map_of_mem (hmem x hx))))))
 have hwl:=lt_of_some h.wds;refine ents_res h (pre++e' :: post) D.clock (hoff.mono (fun k _ hk=>?_)) ?_ ?_ ?_ (stamp_mid h.stamp he e6) ?_
 · subst hk;rw[he];simp
 · intro x hx
   simp only[List.mem_append,List.mem_cons] at hx;have hxx:x=e'∨(x∈pre∨x∈post):=by rcases hx with hx | hx | hx<;>simp[hx]
   rcases hxx with rfl | hx
   · exact hl
   · exact lies_keep (h.ent x (hmem x hx)) (hoff.block _ (hlt x hx) (hoth x hx))
 · rw[List.map_append,List.map_cons]
   have h1:=List.nodup_cons.1 hnd;have h2:=List.nodup_append.1 h1.2;have h3:=List.nodup_cons.1 h2.2.1
   have n1:e'.blk∉pre.map Ent.blk:=fun hx=>by
    obtain⟨x,hx,hxe⟩:=List.mem_map.1 hx
    have:=hlt x (.inl hx);omega
   have n2:e'.blk∉post.map Ent.blk:=fun hx=>by
    obtain⟨x,hx,hxe⟩:=List.mem_map.1 hx
    have:=hlt x (.inr hx);omega
   refine List.nodup_cons.2 ⟨?_,List.nodup_append.2 ⟨h2.1,List.nodup_cons.2 ⟨n2,h3.2⟩,?_⟩⟩
   · intro hx
     simp only[List.mem_append,List.mem_cons] at hx
     rcases hx with hx | hx | hx
     · exact h1.1 (by simp only[List.mem_append];exact .inl hx)
     · omega
     · exact h1.1 (by simp only[List.mem_append,List.mem_cons];exact .inr (.inr hx))
   · intro x hx y hy hxy
     subst hxy
     rcases List.mem_cons.1 hy with rfl | hy
     · exact n1 hx
     · exact h2.2.2 _ hx _ (List.mem_cons_of_mem _ hy) rfl
 · rw[keys_mid he e1];exact h.keys
 · intro x hx
   simp only[List.mem_append,List.mem_cons] at hx;have hxx:x=e'∨(x∈pre∨x∈post):=by rcases hx with hx | hx | hx<;>simp[hx]
   rcases hxx with rfl | hx
   · exact .inr hb
   · exact .inl (List.mem_map_of_mem (hmem x hx))
theorem word_res (h:Rep w a D) (i:Nat) (hi:i < D.words.length) (x:Int):Res w a D (w.setCell ⟨D.wb,i,none⟩ (.int .u64 x)) { D with words:=D.words.set i x }:=by
 have hnb:∀ e∈D.ents,e.blk≠D.wb:=fun e he hx=>(List.nodup_cons.1 h.nodup).1 (by rw[← hx];exact List.mem_map_of_mem he)
 refine⟨⟨?_,?_,?_,?_,?_,h.nodup,h.keys,h.stamp⟩,(Off.refl _ _).setCell (fun _=>.inr (.inl rfl)) _,fun k hk=>.inl hk⟩
 · rw[Below.heap_setCell _ _ _ _ h.ne_wb,h.dev]
   simp[Dev.cells]
 · have e:(u64s D.words++D.spare).toArray.setIfInBounds i (.int .u64 x)=(u64s (D.words.set i x)++D.spare).toArray:=by
    rw[List.setIfInBounds_toArray,List.set_append_left _ _ (by simpa [u64s] using hi)];simp[u64s,List.map_set]
   rw[blk_set h.wds i _,e]
 · exact (Below.heap_setCell _ _ _ _ h.wb_mb.symm).trans h.map
 · exact fun e he=>lies_keep (h.ent e he) (Below.heap_setCell _ _ _ _ (hnb e he))
 · refine row_keep h.mrk (fun g hg=>Below.heap_setCell _ _ _ _ (fun e=>h.u64_mkv h.wds (hg.trans (congrArg some e))))
theorem wpList_append_ent {P:Program} (W:World) {ops:Array Oper} {rest:List Oper} {o:Oper} {act:Act} {Q:Exit→Act→World→Prop}
 (hg:o.guard=none) (s y:Operand) (t:TypeId) (hop:o.op=Op.call { callee:=Callee.builtin Builtin.append,args:=#[s,y],argTypes:=#[t,t] })
 (i:TypeInfo) (h1:P.underlying t=some (.slice 50)) (h2:P.info? 50=some i) (h3:i.zero=some (.int .u64 0)) (h4:i.size=1) (h5:i.bytes=8)
 (e:Ent) (hl:e.lies W) (hs:act.eval s = .slice (some ⟨e.blk,e.off,none⟩) e.vals.length e.cap) (x:Int) (ad:Addr) (c:Nat) (hx:act.eval y = .slice (some ad) 1 c) (hc:∀ j u,[Value.int .u64 x][j]? = some u→W.cell? (ad.add j)=some u)
 (hv:e.vals.length < 1000000000000)
 (hK:∀ blk off cap w',Ent.lies w' { e with vals:=e.vals++[x],blk:=blk,off:=off,cap:=cap }→Off (fun k=>k=e.blk) W w'→(blk=e.blk∨W.heap.size≤blk) →
   wpList P ops Q rest (act.put o.dst (.slice (some ⟨blk,off,none⟩) (e.vals.length+1) cap)) w') :
 wpList P ops Q (o :: rest) act W:=by
 obtain⟨cs,hcs,r1,r2,r3⟩:=hl
 have hcell:∀ j u,(u64s e.vals)[j]? = some u→W.cell? ⟨e.blk,e.off+j,none⟩=some u:=by
  intro j u hj;rw[blk_cell hcs,← hj,← r3]
  have hjl:j < e.vals.length:=by
   have:=(List.getElem?_eq_some_iff.1 hj).1
   simpa [u64s] using this
  rw[List.getElem?_take,if_pos hjl,List.getElem?_drop,Array.getElem?_toList]
 refine wpList_append_arg W hg s y t hop 50 i (.int .u64 0) 1 8 h1 h2 h3 h4 h5 rfl (by decide) e.blk e.off e.vals.length e.cap (u64s e.vals) hs (by simp[u64s]) hcell ad 1 c [.int .u64 x] hx rfl hc (by simp[Value.oneCell']) ?_ (by unfold maxLen;omega) (by omega) ?_ ?_
 · intro hr j hj
   have hj0:j=0:=by simpa using hj
   subst hj0
   refine⟨?_,blk_frozen hcs _⟩
   rw[blk_cell hcs,Array.getElem?_eq_getElem (by omega)];rfl
 · intro hr
   refine hK e.blk e.off e.cap _ ⟨cs.setIfInBounds (e.off+e.vals.length) (.int .u64 x),?_,?_,?_,?_⟩ ?_ (.inl rfl)
   · simp only[World.setCells,Nat.mul_one]
     exact blk_set hcs _ _
   · simpa using r1
   · simpa using hr
   · show (((cs.setIfInBounds (e.off+e.vals.length) (.int .u64 x)).toList).drop e.off).take (e.vals++[x]).length=u64s (e.vals++[x])
     rw[Array.toList_setIfInBounds,List.drop_set,if_neg (by omega),show e.off+e.vals.length - e.off=e.vals.length by omega,List.length_append,List.length_singleton];have hlen:e.vals.length < (cs.toList.drop e.off).length:=by simp;omega
     rw[List.take_set,List.take_add_one,r3,List.getElem?_eq_getElem hlen];simp[u64s]
   · simp only[World.setCells,Nat.mul_one]
     exact (Off.refl (fun k=>k=e.blk) W).setCell (fun _=>rfl) _
 · intro hr v' w' hown hgr
   rcases hown.2 with ⟨_,h0⟩ | ⟨g,cap,cur,rfl,hb,hgb,q1,q2,q3,q4⟩
   · omega
   · refine hK g 0 cap w' ⟨cur,hgb,by simpa using q3.symm,by simpa using q1,?_⟩ ?_ (.inr hb)
     · simpa [u64s] using q4
     · exact (Off.refl _ _).grown hgr (fun k hk=>by cases hk)
theorem store_facts {w2 w5:World} {pre post:List Ent} {e:Ent} {x:Int} {blk off cap:Nat} (h:Rep w2 a D) (he:D.ents=pre++e :: post) (hk:e.key < D.words.length)
 (hl:Ent.lies w5 { e with vals:=e.vals++[x],blk:=blk,off:=off,cap:=cap })
 (ho:Off (fun k=>k=e.blk) ((w2.alloc (.cells #[.slice (some ⟨e.blk,e.off,none⟩) e.vals.length e.cap,.int .i64 (e.mark:Int)] 262)).alloc (.cells #[.int .u64 x] 50)) w5)
 (hb:blk=e.blk∨w2.heap.size+2≤blk) :
 w5.cell? ⟨a,4,none⟩=some (.slice (some ⟨D.wb,0,none⟩) D.words.length D.wcap)∧w5.cell? ⟨a,5,none⟩=some (.map (some D.mb)) ∧
 w5.cell? ⟨w2.heap.size,0,none⟩=some (.slice (some ⟨e.blk,e.off,none⟩) e.vals.length e.cap)∧w5.cell? ⟨w2.heap.size,1,none⟩=some (.int .i64 (e.mark:Int))∧w5.frozen? ⟨w2.heap.size,0,none⟩=false ∧
 ∃ w7,(Instr.mapUpdate 39 (.map (some D.mb)) (.int .i64 (e.key:Int)) (.agg #[.slice (some ⟨blk,off,none⟩) (e.vals.length+1) cap,.int .i64 (e.mark:Int)])).run Tryz.prog (w5.setCell ⟨w2.heap.size,0,none⟩ (.slice (some ⟨blk,off,none⟩) (e.vals.length+1) cap)).drew = .ok () w7 ∧
   Res w2 a D w7 { D with ents:=pre++{ e with vals:=e.vals++[x],blk:=blk,off:=off,cap:=cap } :: post } ∧
   w7.cell? ⟨a,4,none⟩=some (.slice (some ⟨D.wb,0,none⟩) D.words.length D.wcap)∧w7.cell? ⟨D.wb,e.key,none⟩=some (.int .u64 D.words[e.key])∧w7.frozen? ⟨D.wb,e.key,none⟩=false:=by
 have hel:=h.foot_lt (k:=e.blk) (.inr (.inr (.inr (.inl (by rw[he];simp)))));have hae:a≠e.blk:=h.ne_ent (by rw[he];simp);have hal:=h.lt;have hml:=lt_of_some h.map
 have hme:D.mb≠e.blk:=by
  obtain⟨cs,hcs,_⟩:=h.ent e (by rw[he];simp)
  exact (blk_map hcs h.map).symm
 have hD:w5.heap[a]? = some (.cells D.cells 42 (0,0)):=(ho.block a (by simp;omega) hae).trans (blk_alloc (blk_alloc h.dev _) _)
 have hN:w5.heap[w2.heap.size]? = some (.cells #[.slice (some ⟨e.blk,e.off,none⟩) e.vals.length e.cap,.int .i64 (e.mark:Int)] 262 (0,0)):=
  (ho.block _ (by simp;omega) (by omega)).trans (blk_alloc (heap_alloc w2 _).1 _)
 have hM:w5.heap[D.mb]? = some (.map ((pre++e :: post).map Ent.entry).toArray D.clock):=(ho.block _ (by simp;omega) hme).trans (blk_alloc (blk_alloc (by rw[← he];exact h.map) _) _)
 have hM6:(w5.setCell ⟨w2.heap.size,0,none⟩ (.slice (some ⟨blk,off,none⟩) (e.vals.length+1) cap)).drew.heap[D.mb]? = some (.map ((pre++e :: post).map Ent.entry).toArray D.clock):=
  blk_far hM (by show D.mb≠w2.heap.size;omega) _
 have hput:=run_put_some (e':={ e with vals:=e.vals++[x],blk:=blk,off:=off,cap:=cap }) hM6 (h.mid_key he).1 rfl rfl
 have hres:=put_res (w2:=(w5.setCell ⟨w2.heap.size,0,none⟩ (.slice (some ⟨blk,off,none⟩) (e.vals.length+1) cap)).drew) h he (e':={ e with vals:=e.vals++[x],blk:=blk,off:=off,cap:=cap }) rfl rfl
  (Off.drew (Off.setCell (((Off.refl _ _).alloc _).alloc _ |>.trans ho (fun _ _ h=>h)) (fun hx=>absurd hx (Nat.lt_irrefl _)) _)) (by
    obtain⟨cs,hcs,r⟩:=hl
    exact⟨cs,blk_far hcs (by show blk≠w2.heap.size;omega) _,r⟩) (by
    rcases hb with hb | hb
    · exact .inl hb
    · exact .inr (by show w2.heap.size≤blk;omega))
 refine⟨blk_cell hD 4,blk_cell hD 5,blk_cell hN 0,blk_cell hN 1,blk_frozen hN 0,_,?_,hres,hres.rep.c4,?_,blk_frozen hres.rep.wds _⟩
 · rw[← hput]
   simp[Ent.val]
 · exact hres.rep.word e.key hk
theorem store_old (h:Rep w a D) (x:Int) (hd:D.down=false) (pre post:List Ent) (e:Ent) (he:D.ents=pre++e :: post) (hk:e.key < D.words.length) (hs:D.steps < 4611686018427387904) (hl:D.left < 4611686018427387904) (hst:D.stores < 4611686018427387904) (hv:e.vals.length < 1000000000000) :
 Calls Tryz.prog 130 #[.pointer (some ⟨a,0,none⟩),.int .i64 (e.key:Int),.int .u64 x] w fun r w'=>r = .returned (.bool true)∧∃ blk off cap,
  Res w a D w' { D.stored with words:=D.words.set e.key x,ents:=pre++{ e with vals:=e.vals++[x],blk:=blk,off:=off,cap:=cap } :: post }:=by
 obtain⟨i0,hi0,hz0,hz1,hz2⟩:=info_parts u64_info
 have hc:=has_any h (e.key:Int);rw[has_yes (by omega) (by omega)] at hc;have H1:=hid hc;have H2:=hid (step_yes h hd hs hl);have H:=hid h;have HE:=hid he;clear hc h he hd hs hl;go_enter Tryz.func130,Tryz.ntmps130
 go_wp2_with (first
  | (go_at_call 106;refine H1.out.mono ?_;rintro e w' ⟨rfl,rfl⟩)
  | (go_at_call 133;refine H2.out.mono ?_;rintro r w1 ⟨rfl,hr1,ho1,hz1s⟩
     have c1:w1.cell? ⟨a,1,none⟩=some (.int .i64 (D.stores:Int)):=hr1.c1;have c4:w1.cell? ⟨a,4,none⟩=some (.slice (some ⟨D.wb,0,none⟩) D.words.length D.wcap):=hr1.c4;have c5:w1.cell? ⟨a,5,none⟩=some (.map (some D.mb)):=hr1.c5;have f1:=hr1.frozen 1;have hlt:=hr1.lt;have hr2:=stored_rep hr1
     have hm2:(w1.setCell ⟨a,1,none⟩ (.int .i64 ((D.stores:Int)+1))).heap[D.mb]? = some (.map ((pre++e :: post).map Ent.entry).toArray D.clock):=by
      rw[← HE.out];exact hr2.rep.map
     have hlk:=run_look_some hm2 (H.out.mid_key HE.out).1 true;simp only[if_true,Ent.val] at hlk
     have hl4:e.lies (((w1.setCell ⟨a,1,none⟩ (.int .i64 ((D.stores:Int)+1))).alloc (.cells #[.slice (some ⟨e.blk,e.off,none⟩) e.vals.length e.cap,.int .i64 (e.mark:Int)] 262)).alloc (.cells #[.int .u64 x] 50)):=by
      have hl:=hr2.rep.ent e (by show e∈D.ents;rw[HE.out];simp)
      obtain⟨cs,hcs,r⟩:=hl
      exact⟨cs,blk_alloc (blk_alloc hcs _) _,r⟩
     have HL4:=hid hl4;have HR1:=hid hr1;have HR2:=hid hr2;have HO1:=hid ho1;have HZ:=hid hz1s;clear hr1 hr2 ho1 hz1s hm2 hl4)
  | (at_builtin;refine wpList_append_ent _ rfl (.tmp 40) (.tmp 42) 22 rfl i0 Tryz.underlying22 hi0 hz0 hz1 hz2 e HL4.out rfl x ⟨w1.heap.size+1,0,none⟩ 1 rfl ?_ hv ?_
     · have:=cell_one_new2 (w1.setCell ⟨a,1,none⟩ (.int .i64 ((D.stores:Int)+1))) (.cells #[.slice (some ⟨e.blk,e.off,none⟩) e.vals.length e.cap,.int .i64 (e.mark:Int)] 262) (.int .u64 x) 50
       simpa [World.setCell] using this
     intro blk off cap w5 hl5 ho5 hb5;have hz2s:(w1.setCell ⟨a,1,none⟩ (.int .i64 ((D.stores:Int)+1))).heap.size=w1.heap.size:=by simp[World.setCell]
     obtain⟨k4,k5,k0,k1,e0,w7,hput,HR7,j4,jw,jf⟩:=store_facts HR2.out.rep HE.out hk hl5 ho5 (by rw[hz2s];simpa [World.setCell] using hb5)
     rw[hz2s] at k0 k1 e0 hput;have HX:=hid HR7;clear HR7 hl5 ho5 hb5 hz2s))
 have hDw:D.stored.words=D.words:=rfl;have hDb:D.stored.wb=D.wb:=rfl;have hDm:D.stored.mb=D.mb:=rfl;simp only[hDw,hDb,hDm] at k4 k5 hput j4 jw jf
 go_region
 go_wp2
 go_ret;have hfin:=word_res HX.out.rep e.key hk x
 refine⟨rfl,blk,off,cap,?_⟩
 exact (((step_res HR1.out HO1.out).trans HR2.out).trans HX.out).trans hfin
theorem stamp_snoc {l:List Ent} {e:Ent} {c:Nat} (h:Stamp l c) (hb:e.born=c):Stamp (l++[e]) (c+1):=by
 refine⟨?_,?_⟩
 · intro x hx
   rcases List.mem_append.1 hx with hx | hx
   · have:=h.1 x hx;omega
   · rw[List.mem_singleton.1 hx];omega
 · rw[List.map_append]
   refine List.nodup_append.2 ⟨h.2,by simp,?_⟩;intro x hx y hy hxy;have hy:y=e.born:=by simpa using hy
   obtain⟨z,hz,rfl⟩:=List.mem_map.1 hx
   have:=h.1 z hz
   omega
theorem fresh_res {w2:World} (h:Rep w a D) (e:Ent) (hk:e.key∉D.ents.map Ent.key) (hoff:Off (fun _=>False) w w2) (hl:e.lies w2) (hb:w.heap.size≤e.blk) (hbn:e.born=D.clock) :
 Res w a D (putMap w2 D.mb (D.ents++[e]) (D.clock+1)) { D with ents:=D.ents++[e],clock:=D.clock+1 }:=by
 have hlt:∀ x∈D.ents,x.blk < w.heap.size:=fun x hx=>h.foot_lt (.inr (.inr (.inr (.inl (List.mem_map_of_mem hx)))))
 have hwl:=lt_of_some h.wds;have hnd:=List.nodup_cons.1 h.nodup;refine ents_res h (D.ents++[e]) (D.clock+1) (hoff.mono (fun _ _ h=>h.elim)) ?_ ?_ ?_ (stamp_snoc h.stamp hbn) ?_
 · intro x hx
   rcases List.mem_append.1 hx with hx | hx
   · exact lies_keep (h.ent x hx) (hoff.block _ (hlt x hx) id)
   · rw[List.mem_singleton.1 hx];exact hl
 · rw[List.map_append]
   have n1:e.blk∉D.ents.map Ent.blk:=fun hx=>by
    obtain⟨x,hx,hxe⟩:=List.mem_map.1 hx
    have:=hlt x hx;omega
   refine List.nodup_cons.2 ⟨?_,List.nodup_append.2 ⟨hnd.2,by simp,?_⟩⟩
   · intro hx
     rcases List.mem_append.1 hx with hx | hx
     · exact hnd.1 hx
     · have:D.wb=e.blk:=by simpa using hx
       omega
   · intro x hx y hy hxy
     have:y=e.blk:=by simpa using hy
     subst hxy this;exact n1 hx
 · rw[List.map_append]
   refine List.nodup_append.2 ⟨h.keys,by simp,?_⟩;intro x hx y hy hxy
   have:y=e.key:=by simpa using hy
   subst hxy this;exact hk hx
 · intro x hx
   rcases List.mem_append.1 hx with hx | hx
   · exact .inl (List.mem_map_of_mem hx)
   · rw[List.mem_singleton.1 hx];exact .inr hb
theorem new_facts {w2:World} {k:Nat} {v x:Int} (h:Rep w2 a D) (hk:k < D.words.length) (hn:k∉D.ents.map Ent.key) :
 ∃ w7,(Instr.mapUpdate 39 (.map (some D.mb)) (.int .i64 (k:Int)) (.agg #[.slice (some ⟨w2.heap.size+1,0,none⟩) 2 2,.int .i64 0])).run Tryz.prog
  ((w2.alloc (.cells #[.slice (some ⟨w2.heap.size+1,0,none⟩) 2 2,.int .i64 0] 262)).alloc (.cells #[.int .u64 v,.int .u64 x] 50)).drew = .ok () w7 ∧
   Res w2 a D w7 { D with ents:=D.ents++[⟨k,[v,x],0,w2.heap.size+1,0,2,D.clock⟩],clock:=D.clock+1 } ∧
   w7.cell? ⟨a,4,none⟩=some (.slice (some ⟨D.wb,0,none⟩) D.words.length D.wcap)∧w7.cell? ⟨D.wb,k,none⟩=some (.int .u64 D.words[k])∧w7.frozen? ⟨D.wb,k,none⟩=false:=by
 have hN:((w2.alloc (.cells #[.slice (some ⟨w2.heap.size+1,0,none⟩) 2 2,.int .i64 0] 262)).alloc (.cells #[.int .u64 v,.int .u64 x] 50)).heap[w2.heap.size+1]? = some (.cells #[.int .u64 v,.int .u64 x] 50 (0,0)):=by
  have:=(heap_alloc (w2.alloc (.cells #[.slice (some ⟨w2.heap.size+1,0,none⟩) 2 2,.int .i64 0] 262)) (.cells #[.int .u64 v,.int .u64 x] 50)).1
  rw[World.size_alloc] at this;exact this
 have hM:((w2.alloc (.cells #[.slice (some ⟨w2.heap.size+1,0,none⟩) 2 2,.int .i64 0] 262)).alloc (.cells #[.int .u64 v,.int .u64 x] 50)).drew.heap[D.mb]? = some (.map (D.ents.map Ent.entry).toArray D.clock):=blk_alloc (blk_alloc h.map _) _;have hput:=run_put_none (e:=⟨k,[v,x],0,w2.heap.size+1,0,2,D.clock⟩) hM hn rfl
 have hres:=fresh_res (w2:=((w2.alloc (.cells #[.slice (some ⟨w2.heap.size+1,0,none⟩) 2 2,.int .i64 0] 262)).alloc (.cells #[.int .u64 v,.int .u64 x] 50)).drew) h ⟨k,[v,x],0,w2.heap.size+1,0,2,D.clock⟩ hn
  (Off.drew (((Off.refl _ _).alloc _).alloc _)) ⟨_,hN,by simp,by simp,by simp[u64s]⟩ (by show w2.heap.size≤w2.heap.size+1;omega) rfl
 refine⟨_,hput,hres,hres.rep.c4,?_,blk_frozen hres.rep.wds _⟩
 exact hres.rep.word k hk
theorem store_new (h:Rep w a D) (x:Int) (hd:D.down=false) (k:Nat) (hk:k < D.words.length) (hn:k∉D.ents.map Ent.key) (hs:D.steps < 4611686018427387904) (hl:D.left < 4611686018427387904) (hst:D.stores < 4611686018427387904) :
 Calls Tryz.prog 130 #[.pointer (some ⟨a,0,none⟩),.int .i64 (k:Int),.int .u64 x] w fun r w'=>r = .returned (.bool true)∧∃ blk off cap born clock,
  Res w a D w' { D.stored with words:=D.words.set k x,ents:=D.ents++[⟨k,[D.words[k],x],0,blk,off,cap,born⟩],clock:=clock }:=by
 obtain⟨i0,hi0,hz0,hz1,hz2⟩:=info_parts u64_info
 have hc:=has_any h (k:Int);rw[has_yes (by omega) (by omega)] at hc;have H1:=hid hc;have H2:=hid (step_yes h hd hs hl);have H:=hid h;have HN:=hid hn;clear hc h hd hs hl hn;go_enter Tryz.func130,Tryz.ntmps130
 go_wp2_with (first
  | (go_at_call 106;refine H1.out.mono ?_;rintro e w' ⟨rfl,rfl⟩)
  | (go_at_call 133;refine H2.out.mono ?_;rintro r w1 ⟨rfl,hr1,ho1,hz1s⟩
     have c1:w1.cell? ⟨a,1,none⟩=some (.int .i64 (D.stores:Int)):=hr1.c1;have c4:w1.cell? ⟨a,4,none⟩=some (.slice (some ⟨D.wb,0,none⟩) D.words.length D.wcap):=hr1.c4;have c5:w1.cell? ⟨a,5,none⟩=some (.map (some D.mb)):=hr1.c5;have cw:w1.cell? ⟨D.wb,k,none⟩=some (.int .u64 D.words[k]):=hr1.word k hk;have f1:=hr1.frozen 1;have hlt:=hr1.lt;have hwlt:D.wb < w1.heap.size:=lt_of_some hr1.wds;have hwne:D.wb≠a:=hr1.ne_wb.symm;have hr2:=stored_rep hr1;have hlk:=run_look_none (b:=D.mb) (l:=D.ents) (c:=D.clock) hr2.rep.map HN.out true;simp only[if_true] at hlk
     obtain⟨w7,hput0,HR7,j40,jw0,jf0⟩:=new_facts (v:=D.words[k]) (x:=x) hr2.rep hk HN.out
     rw[show (w1.setCell ⟨a,1,none⟩ (.int .i64 ((D.stores:Int)+1))).heap.size=w1.heap.size from by simp[World.setCell]] at hput0
     have hput:(Instr.mapUpdate 39 (.map (some D.mb)) (.int .i64 (k:Int)) (.agg #[.slice (some ⟨w1.heap.size+1,0,none⟩) 2 2,.int .i64 0])).run Tryz.prog
      (((w1.setCell ⟨a,1,none⟩ (.int .i64 ((D.stores:Int)+1))).alloc (.cells #[.slice (some ⟨w1.heap.size+1,0,none⟩) 2 2,.int .i64 0] 262)).alloc (.cells #[.int .u64 D.words[k],.int .u64 x] 50)).drew = .ok () w7:=hput0
     have j4:w7.cell? ⟨a,4,none⟩=some (.slice (some ⟨D.wb,0,none⟩) D.words.length D.wcap):=j40;have jw:w7.cell? ⟨D.wb,k,none⟩=some (.int .u64 D.words[k]):=jw0;have jf:w7.frozen? ⟨D.wb,k,none⟩=false:=jf0;have HX:=hid HR7;have HR1:=hid hr1;have HR2:=hid hr2;have HO1:=hid ho1;clear hr1 hr2 ho1 hz1s HR7 hput0 j40 jw0 jf0))
 go_region
 go_wp2
 go_ret;have hfin:=word_res HX.out.rep k hk x
 exact⟨rfl,_,_,_,_,_,(((step_res HR1.out HO1.out).trans HR2.out).trans HX.out).trans hfin⟩
end
end Pm
end
section
open Go.RowKit Go.MapKept
namespace Pm
abbrev Pend:=List (Nat × List Int × Nat)
def pget:Pend→Nat→Option (List Int × Nat)
 | [],_=>none
 | p :: r,k=>if p.1=k then some p.2 else pget r k
def pset:Pend→Nat→List Int × Nat→Pend
 | [],_,_=>[]
 | p :: r,k,v=>if p.1=k then (k,v) :: r else p :: pset r k v
def pdel:Pend→Nat→Pend
 | [],_=>[]
 | p :: r,k=>if p.1=k then r else p :: pdel r k
structure Abs where
 steps:Nat
 stores:Nat
 armed:Bool
 left:Nat
 words:List Int
 pend:Pend
 marked:List Nat
def Ent.abs (e:Ent):Nat × List Int × Nat:=(e.key,e.vals,e.mark)
def Dev.abs (D:Dev):Abs:=⟨D.steps,D.stores,D.armed,D.left,D.words,D.ents.map Ent.abs,D.marked⟩
def Abs.down (A:Abs):Bool:=A.armed && A.left == 0
def Abs.step (A:Abs):Abs:={ A with steps:=A.steps+1,left:=if A.armed then A.left - 1 else A.left }
def Abs.mark (A:Abs) (k:Nat):Abs:=
 match pget A.pend k with
 | none=>A
 | some (vs,m)=>{ A with pend:=pset A.pend k (vs,vs.length - 1),marked:=if m=0 then A.marked++[k] else A.marked }
def Abs.settle (A:Abs) (k:Nat):Abs:=
 match pget A.pend k with
 | none=>A
 | some (vs,m)=>if m+1=vs.length then { A with pend:=pdel A.pend k } else { A with pend:=pset A.pend k (vs.drop m,0) }
def Abs.store (A : Abs) (k : Nat) (x : Int) : Abs :=
  { A.step with stores := A.stores + 1, words := A.words.set k x, pend :=
      match pget A.pend k with
      | none => A.pend ++ [(k, [A.words[k]?.getD 0, x], 0)]
      | some (vs, m) => pset A.pend k (vs ++ [x], m) }
theorem pget_mid {k:Nat} {v:List Int × Nat} {post:Pend}:∀ {pre:Pend},k∉pre.map (·.1)→pget (pre++(k,v) :: post) k=some v
 | [],_=>by simp[pget]
 | p :: r,h=>by
   simp only[List.map_cons,List.mem_cons,not_or] at h;simp only[List.cons_append,pget,if_neg (Ne.symm h.1)];exact pget_mid h.2
theorem pset_mid {k:Nat} {v u:List Int × Nat} {post:Pend}:∀ {pre:Pend},k∉pre.map (·.1)→pset (pre++(k,v) :: post) k u=pre++(k,u) :: post
 | [],_=>by simp[pset]
 | p :: r,h=>by
   simp only[List.map_cons,List.mem_cons,not_or] at h;simp only[List.cons_append,pset,if_neg (Ne.symm h.1)];rw[pset_mid h.2]
theorem pdel_mid {k:Nat} {v:List Int × Nat} {post:Pend}:∀ {pre:Pend},k∉pre.map (·.1)→pdel (pre++(k,v) :: post) k=pre++post
 | [],_=>by simp[pdel]
 | p :: r,h=>by
   simp only[List.map_cons,List.mem_cons,not_or] at h;simp only[List.cons_append,pdel,if_neg (Ne.symm h.1)];rw[pdel_mid h.2]
theorem pget_none {k:Nat}:∀ {l:Pend},pget l k=none↔k∉l.map (·.1)
 | []=>by simp[pget]
 | p :: r=>by
   simp only[pget,List.map_cons,List.mem_cons,not_or]
   split
   · rename_i h;simp[h]
   · rename_i h;rw[pget_none];exact⟨fun h2=>⟨Ne.symm h,h2⟩,fun h2=>h2.2⟩
theorem pget_some {k:Nat} {v:List Int × Nat}:∀ {l:Pend},pget l k=some v→∃ pre post,l=pre++(k,v) :: post∧k∉pre.map (·.1)
 | [],h=>by simp[pget] at h
 | p :: r,h=>by
   simp only[pget] at h
   split at h
   · rename_i hk
     injection h with h
     refine⟨[],r,?_,by simp⟩
     obtain⟨p1,p2⟩:=p
     simp at hk h;subst hk h;rfl
   · rename_i hk
     obtain⟨pre,post,e,hn⟩:=pget_some h
     refine⟨p :: pre,post,by rw[e];rfl,?_⟩
     simp only[List.map_cons,List.mem_cons,not_or]
     exact⟨Ne.symm hk,hn⟩
theorem pget_mem {k:Nat} {v:List Int × Nat} {l:Pend} (h:pget l k=some v):(k,v)∈l:=by
 obtain⟨pre,post,rfl,_⟩:=pget_some h
 simp
theorem pset_keys {k:Nat} {u v:List Int × Nat} {l:Pend} (h:pget l k=some v):(pset l k u).map (·.1)=l.map (·.1):=by
 obtain⟨pre,post,rfl,hn⟩:=pget_some h
 rw[pset_mid hn];simp
theorem nodup_lt:∀ (n:Nat) (l:List Nat),l.Nodup→(∀ x∈l,x < n)→l.length≤n
 | 0,l,_,h=>by
   cases l with
   | nil=>simp
   | cons x r=>exact absurd (h x (.head _)) (by omega)
 | n+1,l,hn,h=>by
   have ih:=nodup_lt n (l.erase n) (hn.erase n) (fun x hx=>by
    have hx:=(List.Nodup.mem_erase_iff hn).1 hx
    have:=h x hx.2
    have:=hx.1
    omega)
   rw[List.length_erase] at ih
   split at ih<;>omega
structure Abs.OkM (A:Abs) (M:List Nat):Prop where
 keys:(A.pend.map (·.1)).Nodup
 ent:∀ p∈A.pend,p.1 < A.words.length∧2≤p.2.1.length∧p.2.2 < p.2.1.length∧p.2.1.length≤A.stores+1
 mk0:M.Nodup
 mk1:∀ k∈M,∃ v,pget A.pend k=some v∧0 < v.2
 mk2:∀ p∈A.pend,0 < p.2.2→p.1∈M
 size:A.words.length≤4194304
 cnt:A.stores≤A.steps
 few:A.steps < 100000000000
 fuse:A.left < 4611686018427387904
def Abs.Ok (A:Abs):Prop:=A.OkM A.marked
theorem Abs.OkM.marked_le {A:Abs} {M:List Nat} (h:A.OkM M):M.length≤4194304:=by
 refine Nat.le_trans (nodup_lt A.words.length M h.mk0 (fun k hk=>?_)) h.size
 obtain⟨v,hv,_⟩:=h.mk1 k hk
 exact (h.ent _ (pget_mem hv)).1
theorem pget_pset_ne {k k':Nat} {u:List Int × Nat} (hne:k≠k'):∀ l:Pend,pget (pset l k u) k'=pget l k'
 | []=>rfl
 | p :: r=>by
   simp only[pset]
   split
   · rename_i h
     simp only[pget];rw[if_neg hne,if_neg (by rw[h];exact hne)]
   · simp only[pget]
     rw[pget_pset_ne hne r]
theorem pget_pdel_ne {k k':Nat} (hne:k≠k'):∀ l:Pend,pget (pdel l k) k'=pget l k'
 | []=>rfl
 | p :: r=>by
   simp only[pdel]
   split
   · rename_i h
     simp only[pget];rw[if_neg (by rw[h];exact hne)]
   · simp only[pget]
     rw[pget_pdel_ne hne r]
theorem pget_append_ne {k k':Nat} {v:List Int × Nat} (hne:k≠k'):∀ l:Pend,pget (l++[(k,v)]) k'=pget l k'
 | []=>by simp[pget,hne]
 | p :: r=>by
   simp only[List.cons_append,pget];rw[pget_append_ne hne r]
theorem pget_pset {k:Nat} {u v:List Int × Nat} {l:Pend} (h:pget l k=some v):pget (pset l k u) k=some u:=by
 obtain⟨pre,post,rfl,hn⟩:=pget_some h
 rw[pset_mid hn,pget_mid hn]
theorem mem_pset {k:Nat} {u v:List Int × Nat} {l:Pend} {p:Nat × List Int × Nat} (h:pget l k=some v) (hk:(l.map (·.1)).Nodup) (hp:p∈pset l k u):p=(k,u)∨(p∈l∧p.1≠k):=by
 obtain⟨pre,post,rfl,hn⟩:=pget_some h
 rw[pset_mid hn] at hp;rw[List.map_append,List.map_cons] at hk;have hm:k∉pre.map (·.1)∧k∉post.map (·.1):=nodup_mid hk;simp only[List.mem_append,List.mem_cons] at hp ⊢
 rcases hp with hp | hp | hp
 · exact .inr ⟨.inl hp,fun e=>hm.1 (List.mem_map.2 ⟨p,hp,e⟩)⟩
 · exact .inl hp
 · exact .inr ⟨.inr (.inr hp),fun e=>hm.2 (List.mem_map.2 ⟨p,hp,e⟩)⟩
theorem mem_pdel {k:Nat} {v:List Int × Nat} {l:Pend} {p:Nat × List Int × Nat} (h:pget l k=some v) (hk:(l.map (·.1)).Nodup) (hp:p∈pdel l k):p∈l∧p.1≠k:=by
 obtain⟨pre,post,rfl,hn⟩:=pget_some h
 rw[pdel_mid hn] at hp;rw[List.map_append,List.map_cons] at hk;have hm:k∉pre.map (·.1)∧k∉post.map (·.1):=nodup_mid hk;simp only[List.mem_append,List.mem_cons] at hp ⊢
 rcases hp with hp | hp
 · exact⟨.inl hp,fun e=>hm.1 (List.mem_map.2 ⟨p,hp,e⟩)⟩
 · exact⟨.inr (.inr hp),fun e=>hm.2 (List.mem_map.2 ⟨p,hp,e⟩)⟩
theorem pdel_keys {k:Nat} {v:List Int × Nat} {l:Pend} (h:pget l k=some v) (hk:(l.map (·.1)).Nodup):((pdel l k).map (·.1)).Nodup:=by
 obtain⟨pre,post,rfl,hn⟩:=pget_some h
 rw[pdel_mid hn];refine List.Nodup.sublist (List.Sublist.map _ ?_) hk;exact List.Sublist.append (List.Sublist.refl _) (List.sublist_cons_self _ _)
theorem step_ok {A:Abs} {M:List Nat} (h:A.OkM M) (hs:A.steps+1 < 100000000000):A.step.OkM M:={
 keys:=h.keys
 ent:=h.ent
 mk0:=h.mk0
 mk1:=h.mk1
 mk2:=h.mk2
 size:=h.size
 cnt:=Nat.le_succ_of_le h.cnt
 few:=hs
 fuse:=by
  have:=h.fuse
  simp only[Abs.step]
  split<;>omega }
theorem mark_ok {A:Abs} (h:A.Ok) (k:Nat):(A.mark k).Ok:=by
 unfold Abs.Ok Abs.mark
 cases hg:pget A.pend k with
 | none=>exact h
 | some v=>
   obtain⟨vs,m⟩:=v
   have he:=h.ent _ (pget_mem hg)
   refine⟨?_,?_,?_,?_,?_,h.size,h.cnt,h.few,h.fuse⟩
   · simp only[pset_keys hg];exact h.keys
   · intro p hp
     rcases mem_pset hg h.keys hp with rfl | ⟨hp,_⟩
     · simp only at he ⊢
       omega
     · exact h.ent p hp
   · by_cases hm:m=0
     · simp only[hm,if_true]
       refine List.nodup_append.2 ⟨h.mk0,by simp,?_⟩;intro x hx y hy hxy
       have:y=k:=by simpa using hy
       subst this hxy
       obtain⟨v,hv,h0⟩:=h.mk1 _ hx
       rw[hg] at hv;injection hv with hv
       subst hv;simp only at h0;omega
     · simp only[hm,if_false];exact h.mk0
   · intro x hx
     by_cases hxk:k=x
     · subst hxk
       exact⟨_,pget_pset hg,by simp only at he ⊢;omega⟩
     · have hx:x∈A.marked:=by
        by_cases hm:m=0
        · simp only[hm,if_true,List.mem_append,List.mem_singleton] at hx
          exact hx.resolve_right (Ne.symm hxk)
        · simpa only[hm,if_false] using hx
       obtain⟨v,hv,h0⟩:=h.mk1 x hx
       exact⟨v,by rw[pget_pset_ne hxk];exact hv,h0⟩
   · intro p hp h0
     rcases mem_pset hg h.keys hp with rfl | ⟨hp,_⟩
     · by_cases hm:m=0
       · simp[hm]
       · simp only[hm,if_false]
         exact h.mk2 _ (pget_mem hg) (by simp only;omega)
     · have:=h.mk2 p hp h0
       by_cases hm:m=0
       · simp[hm,this]
       · simpa only[hm,if_false] using this
theorem settle_ok {A:Abs} {k:Nat} {M:List Nat} (h:A.OkM (k :: M)):(A.settle k).OkM M:=by
 obtain⟨v,hg,h0⟩:=h.mk1 k (.head _)
 obtain⟨vs,m⟩:=v
 have he:=h.ent _ (pget_mem hg);have hnk:=List.nodup_cons.1 h.mk0;simp only at he h0;unfold Abs.settle;simp only[hg];by_cases hm:m+1=vs.length
 · simp only[hm,if_true]
   refine⟨pdel_keys hg h.keys,?_,hnk.2,?_,?_,h.size,h.cnt,h.few,h.fuse⟩
   · intro p hp
     exact h.ent p (mem_pdel hg h.keys hp).1
   · intro x hx
     obtain⟨v,hv,h1⟩:=h.mk1 x (.tail _ hx)
     refine⟨v,?_,h1⟩
     rw[pget_pdel_ne (fun e=>hnk.1 (by rw[e];exact hx))];exact hv
   · intro p hp hp0
     have hp:=mem_pdel hg h.keys hp;exact (List.mem_cons.1 (h.mk2 p hp.1 hp0)).resolve_left hp.2
 · simp only[hm,if_false]
   refine⟨?_,?_,hnk.2,?_,?_,h.size,h.cnt,h.few,h.fuse⟩
   · simp only[pset_keys hg];exact h.keys
   · intro p hp
     rcases mem_pset hg h.keys hp with rfl | ⟨hp,_⟩
     · simp only[List.length_drop]
       omega
     · exact h.ent p hp
   · intro x hx
     obtain⟨v,hv,h1⟩:=h.mk1 x (.tail _ hx)
     refine⟨v,?_,h1⟩
     rw[pget_pset_ne (fun e=>hnk.1 (by rw[e];exact hx))];exact hv
   · intro p hp hp0
     rcases mem_pset hg h.keys hp with rfl | ⟨hp,hne⟩
     · simp at hp0
     · exact (List.mem_cons.1 (h.mk2 p hp hp0)).resolve_left hne
theorem store_ok {A:Abs} (h:A.Ok) {k:Nat} (hk:k < A.words.length) (x:Int) (hs:A.steps+1 < 100000000000):(A.store k x).Ok:=by
 have hc:=h.cnt;have hf:=(step_ok h hs).fuse;unfold Abs.Ok Abs.store
 cases hg:pget A.pend k with
 | none=>
   have hn:=pget_none.1 hg
   refine⟨?_,?_,h.mk0,?_,?_,by simpa [Abs.step] using h.size,Nat.succ_le_succ h.cnt,hs,hf⟩
   · simp only[List.map_append]
     refine List.nodup_append.2 ⟨h.keys,by simp,?_⟩;intro a ha b hb hab
     have:b=k:=by simpa using hb
     subst this hab;exact hn ha
   · intro p hp
     rcases List.mem_append.1 hp with hp | hp
     · have:=h.ent p hp
       simp only[List.length_set];omega
     · rw[List.mem_singleton.1 hp]
       simp only[List.length_set,List.length_cons,List.length_nil];omega
   · intro y hy
     obtain⟨v,hv,h0⟩:=h.mk1 y hy
     refine⟨v,?_,h0⟩
     rw[pget_append_ne (fun e=>by subst e;rw[hg] at hv;cases hv)];exact hv
   · intro p hp hp0
     rcases List.mem_append.1 hp with hp | hp
     · exact h.mk2 p hp hp0
     · rw[List.mem_singleton.1 hp] at hp0
       simp at hp0
 | some v=>
   obtain⟨vs,m⟩:=v
   have he:=h.ent _ (pget_mem hg)
   refine⟨?_,?_,h.mk0,?_,?_,by simpa [Abs.step] using h.size,Nat.succ_le_succ h.cnt,hs,hf⟩
   · simp only[pset_keys hg];exact h.keys
   · intro p hp
     rcases mem_pset hg h.keys hp with rfl | ⟨hp,_⟩
     · simp only[List.length_set,List.length_append,List.length_singleton] at he ⊢
       omega
     · have:=h.ent p hp
       simp only[List.length_set];omega
   · intro y hy
     obtain⟨v,hv,h0⟩:=h.mk1 y hy
     by_cases hyk:k=y
     · subst hyk
       rw[hg] at hv;injection hv with hv
       subst hv
       exact⟨_,pget_pset hg,h0⟩
     · exact⟨v,by rw[pget_pset_ne hyk];exact hv,h0⟩
   · intro p hp hp0
     rcases mem_pset hg h.keys hp with rfl | ⟨hp,_⟩
     · exact h.mk2 (k,vs,m) (pget_mem hg) hp0
     · exact h.mk2 p hp hp0
theorem ents_of_get {D:Dev} {k:Nat} {v:List Int × Nat} (h:pget D.abs.pend k=some v):∃ pre post e,D.ents=pre++e :: post∧e.key=k∧e.vals=v.1∧e.mark=v.2∧k∉(pre.map Ent.abs).map (·.1):=by
 obtain⟨p,q,hpq,hn⟩:=pget_some h
 have hpq:D.ents.map Ent.abs=p++(k,v) :: q:=hpq
 obtain⟨l1,l2,e1,rfl,e2⟩:=List.map_eq_append_iff.1 hpq
 obtain⟨e,l3,rfl,e3,e4⟩:=List.map_eq_cons_iff.1 e2
 subst e4
 refine⟨l1,l3,e,e1,?_,?_,?_,hn⟩
 · exact congrArg (·.1) e3
 · exact congrArg (·.2.1) e3
 · exact congrArg (·.2.2) e3
theorem keys_abs (D:Dev):D.abs.pend.map (·.1)=D.ents.map Ent.key:=by simp[Dev.abs,Ent.abs]
section
variable {w : World} {a : Nat} {D : Dev}
theorem mark_any (h:Rep w a D) (ok:D.abs.Ok) (k:Nat):Calls Tryz.prog 190 #[.pointer (some ⟨a,0,none⟩),.int .i64 (k:Int)] w fun r w'=>
 r = .returned (.tuple #[])∧∃ D',Res w a D w' D'∧D'.abs=D.abs.mark k∧D'.wb=D.wb:=by
 cases hg:pget D.abs.pend k with
 | none=>
   have hn:k∉D.ents.map Ent.key:=by rw[← keys_abs];exact pget_none.1 hg
   refine (mark_no h k hn).mono fun r w' ⟨hr,hres⟩=>⟨hr,D,hres,?_,rfl⟩
   simp[Abs.mark,hg]
 | some v=>
   obtain⟨pre,post,e,he,rfl,hv,hm,hn⟩:=ents_of_get hg
   have hent:=ok.ent _ (pget_mem hg);have hfew:=ok.few;have hcnt:=ok.cnt;simp only[← hv,← hm] at hent;have hst:D.abs.stores≤D.abs.steps:=hcnt;have hb:e.vals.length < 1000000000000:=by omega
   have hpend:D.abs.pend=pre.map Ent.abs++(e.key,e.vals,e.mark) :: post.map Ent.abs:=by
    show D.ents.map Ent.abs=_
    rw[he];simp[Ent.abs]
   obtain⟨v1,v2⟩:=v
   simp only at hv hm;subst hv hm
   rcases Nat.eq_zero_or_pos e.mark with hz | hz
   · have hml:=ok.marked_le
     have hml:D.marked.length≤4194304:=hml;refine (mark_first h pre post e he hz (by omega) (by omega) hb).mono fun r w' ⟨hr,mka,mkc,hres⟩=>⟨hr,_,hres,?_,rfl⟩
     simp only[Abs.mark,hg,hz,if_true];rw[hpend,pset_mid hn];simp[Dev.abs,Ent.abs]
   · refine (mark_again h pre post e he hz (by omega) hb).mono fun r w' ⟨hr,hres⟩=>⟨hr,_,hres,?_,rfl⟩
     simp only[Abs.mark,hg];rw[hpend,pset_mid hn,if_neg (by omega)];simp[Dev.abs,Ent.abs]
theorem settle_any {M:List Nat} (h:Rep w a D) (k:Nat) (ok:D.abs.OkM (k :: M)):Calls Tryz.prog 134 #[.pointer (some ⟨a,0,none⟩),.int .i64 (k:Int)] w fun r w'=>
 r = .returned (.tuple #[])∧∃ D',Res w a D w' D'∧D'.abs=D.abs.settle k∧D'.mka=D.mka∧D'.mkc=D.mkc∧D'.marked=D.marked:=by
 cases hg:pget D.abs.pend k with
 | none=>
   obtain⟨v,hv,_⟩:=ok.mk1 k (.head _)
   rw[hg] at hv
   cases hv
 | some v=>
   obtain⟨pre,post,e,he,rfl,hv,hm,hn⟩:=ents_of_get hg
   have hent:=ok.ent _ (pget_mem hg);simp only[← hv,← hm] at hent
   have hpend:D.abs.pend=pre.map Ent.abs++(e.key,e.vals,e.mark) :: post.map Ent.abs:=by
    show D.ents.map Ent.abs=_
    rw[he];simp[Ent.abs]
   obtain⟨v1,v2⟩:=v
   simp only at hv hm;subst hv hm
   obtain⟨cs,_,_,hcap,_⟩:=h.ent e (by rw[he];simp)
   by_cases hz:e.mark+1=e.vals.length
   · refine (settle_one h pre post e he hz hcap).mono fun r w' ⟨hr,hres⟩=>⟨hr,_,hres,?_,rfl,rfl,rfl⟩
     simp only[Abs.settle,hg,hz,if_true];rw[hpend,pdel_mid hn];simp[Dev.abs]
   · refine (settle_more h pre post e he (by omega) hcap).mono fun r w' ⟨hr,hres⟩=>⟨hr,_,hres,?_,rfl,rfl,rfl⟩
     simp only[Abs.settle,hg,hz,if_false];rw[hpend,pset_mid hn];simp[Dev.abs,Ent.abs]
theorem store_any (h:Rep w a D) (ok:D.abs.Ok) (hd:D.abs.down=false) (k:Nat) (x:Int) (hk:k < D.abs.words.length) :
 Calls Tryz.prog 130 #[.pointer (some ⟨a,0,none⟩),.int .i64 (k:Int),.int .u64 x] w fun r w'=>r = .returned (.bool true)∧∃ D',Res w a D w' D'∧D'.abs=D.abs.store k x:=by
 have hd:D.down=false:=hd;have h1:D.steps < 4611686018427387904:=Nat.lt_trans (m:=100000000000) ok.few (by omega);have h2:D.stores < 4611686018427387904:=Nat.lt_of_le_of_lt ok.cnt h1;have hk:k < D.words.length:=hk
 cases hg:pget D.abs.pend k with
 | none=>
   have hn:k∉D.ents.map Ent.key:=by rw[← keys_abs];exact pget_none.1 hg
   refine (store_new h x hd k hk hn h1 ok.fuse h2).mono fun r w' ⟨hr,_,_,_,_,_,hres⟩=>⟨hr,_,hres,?_⟩
   simp only[Abs.store,hg];simp[Dev.abs,Dev.stored,Dev.stepped,Abs.step,Ent.abs,List.getElem?_eq_getElem hk];rfl
 | some v=>
   obtain⟨pre,post,e,he,rfl,hv,hm,hn⟩:=ents_of_get hg
   have hent:=ok.ent _ (pget_mem hg);have hfew:=ok.few;have hcnt:=ok.cnt;simp only[← hv,← hm] at hent;have hb:e.vals.length < 1000000000000:=by omega
   have hpend:D.abs.pend=pre.map Ent.abs++(e.key,e.vals,e.mark) :: post.map Ent.abs:=by
    show D.ents.map Ent.abs=_
    rw[he];simp[Ent.abs]
   obtain⟨v1,v2⟩:=v
   simp only at hv hm;subst hv hm;refine (store_old h x hd pre post e he hk h1 ok.fuse h2 hb).mono fun r w' ⟨hr,_,_,_,hres⟩=>⟨hr,_,hres,?_⟩
   simp only[Abs.store,hg];rw[hpend,pset_mid hn];simp[Dev.abs,Dev.stored,Dev.stepped,Abs.step,Ent.abs];rfl
end
end Pm
end
section
open Lib (hid)
open Go.RowKit Go.MapKept
namespace Pm
def Abs.marks (A:Abs) (i:Nat):Nat→Abs
 | 0=>A
 | n+1=>(A.marks i n).mark (i+n)
def Abs.flush (A:Abs) (line:Nat):Abs:=A.step.marks (8 * line) (min 8 (A.words.length - 8 * line))
theorem mark_words (A:Abs) (k:Nat):(A.mark k).words=A.words:=by
 unfold Abs.mark;split<;>rfl
theorem marks_words (A:Abs) (i:Nat):∀ n,(A.marks i n).words=A.words
 | 0=>rfl
 | n+1=>by rw[Abs.marks,mark_words,marks_words A i n]
theorem marks_ok {A:Abs} (h:A.Ok) (i:Nat):∀ n,(A.marks i n).Ok
 | 0=>h
 | n+1=>mark_ok (marks_ok h i n) (i+n)
theorem flush_ok {A:Abs} (h:A.Ok) (line:Nat) (hs:A.steps+1 < 100000000000):(A.flush line).Ok:=marks_ok (step_ok h hs) _ _
section
variable {w : World} {a : Nat} {D : Dev}
theorem flush_neg (line:Int) (hl:line < 0):Calls Tryz.prog 132 #[.pointer (some ⟨a,0,none⟩),.int .i64 line] w fun r w'=>r = .returned (.bool false)∧w=w':=by
 go_enter Tryz.func132,Tryz.ntmps132
 go_wp2
 go_ret
 exact⟨rfl,rfl⟩
theorem flush_far (h:Rep w a D) (line:Nat) (hl:(D.words.length+7) / 8≤line) (hw:D.words.length≤4194304):Calls Tryz.prog 132 #[.pointer (some ⟨a,0,none⟩),.int .i64 (line:Int)] w fun r w'=>r = .returned (.bool false)∧w=w':=by
 have c4:=h.c4
 obtain⟨n,hn⟩:∃ n,n=D.words.length:=⟨_,rfl⟩
 rw[← hn] at c4 hl hw;clear hn h;have g1:((n:Int)+8 - 1) / 8≤(line:Int):=by omega
 clear hl;go_enter Tryz.func132,Tryz.ntmps132
 go_wp2
 go_ret
 exact⟨rfl,rfl⟩
theorem flush_down (h:Rep w a D) (line:Nat) (hl:line < (D.words.length+7) / 8) (hw:D.words.length≤4194304) (hd:D.down=true):Calls Tryz.prog 132 #[.pointer (some ⟨a,0,none⟩),.int .i64 (line:Int)] w fun r w'=>r = .returned (.bool false)∧w=w':=by
 have c4:=h.c4;have HS:=hid (step_no h hd)
 obtain⟨n,hn⟩:∃ n,n=D.words.length:=⟨_,rfl⟩
 rw[← hn] at c4 hl hw;clear hn h hd;have g1:(line:Int) < ((n:Int)+8 - 1) / 8:=by omega
 clear hl;go_enter Tryz.func132,Tryz.ntmps132
 go_wp2_with (go_at_call 133;refine HS.out.mono ?_;rintro e w' ⟨rfl,rfl⟩)
 go_ret
 exact⟨rfl,rfl⟩
def FlushRel (w:World) (a:Nat) (D:Dev) (line:Nat) (n:Nat) (wr:World):Prop:=
 ∃ D':Dev,Res w a D wr D'∧D'.abs=D.abs.step.marks (8 * line) n∧D'.wb=D.wb∧D'.words.length=D.words.length
theorem mark_at (h:Rep w a D) (ok:D.abs.Ok) (i:Int) (k:Nat) (hi:i=(k:Int)):Calls Tryz.prog 190 #[.pointer (some ⟨a,0,none⟩),.int .i64 i] w fun r w'=>
 r = .returned (.tuple #[])∧∃ D',Res w a D w' D'∧D'.abs=D.abs.mark k∧D'.wb=D.wb:=by
 subst hi;exact mark_any h ok k
theorem flush_step {wr:World} {line n:Nat} (ok:D.abs.Ok) (hs:D.steps+1 < 100000000000) (h:FlushRel w a D line n wr) (i:Int) (hi:i=((8 * line+n:Nat):Int)) :
 Calls Tryz.prog 190 #[.pointer (some ⟨a,0,none⟩),.int .i64 i] wr fun r w'=>r = .returned (.tuple #[])∧FlushRel w a D line (n+1) w':=by
 obtain⟨D',hres,habs,hwb,hlen⟩:=h
 have ok':D'.abs.Ok:=by rw[habs];exact marks_ok (step_ok ok hs) _ _
 refine (mark_at hres.rep ok' i _ hi).mono fun r w' ⟨hr,D2,hres2,habs2,hwb2⟩=>⟨hr,D2,hres.trans hres2,?_,hwb2.trans hwb,?_⟩
 · rw[habs2,habs];rfl
 · have:D2.abs.words=D'.abs.words:=by rw[habs2,mark_words]
   have:D2.words=D'.words:=this
   rw[this,hlen]
theorem flush_c4 {wr:World} {line n:Nat} (h:FlushRel w a D line n wr):∃ c,wr.cell? ⟨a,4,none⟩=some (.slice (some ⟨D.wb,0,none⟩) D.words.length c):=by
 obtain⟨D',hres,habs,hwb,hlen⟩:=h
 exact⟨D'.wcap,by rw[hres.rep.c4,hwb,hlen]⟩
theorem flush_yes (h:Rep w a D) (ok:D.abs.Ok) (hd:D.abs.down=false) (line:Nat) (hl:8 * line < D.words.length) (hs:D.steps+1 < 100000000000) :
 Calls Tryz.prog 132 #[.pointer (some ⟨a,0,none⟩),.int .i64 (line:Int)] w fun r w'=>r = .returned (.bool true)∧∃ D',Res w a D w' D'∧D'.abs=D.abs.flush line:=by
 have c4:=h.c4;have hw:D.words.length≤4194304:=ok.size;have HS:=hid (step_yes h hd (by omega) ok.fuse);have HF:=fun wr n (x:FlushRel w a D line n wr)=>flush_step ok hs x
 have HFS:=hid HF;have HC:=hid (fun wr n (x:FlushRel w a D line n wr)=>flush_c4 x);have hfl:D.abs.flush line=D.abs.step.marks (8 * line) (min 8 (D.words.length - 8 * line)):=rfl;rw[hfl]
 obtain⟨L,hL⟩:∃ L,L=D.words.length:=⟨_,rfl⟩
 rw[← hL] at c4 hw hl HC ⊢;have g1:decide ((line:Int) < 0)=false:=by simp
 have g2:decide (((L:Int)+8 - 1) / 8≤(line:Int))=false:=by simp;omega
 have H:=hid h;have HHL:=hid hL;clear h hd ok HF hL hfl;go_enter Tryz.func132,Tryz.ntmps132
 go_wp2_with (go_at_call 133;refine HS.out.mono ?_;rintro e w1 ⟨rfl,hr1,ho1,hz1⟩
              have HR1:=hid (step_res hr1 ho1);clear hr1 ho1 hz1)
 go_loopw [6] (fun i wr=>∃ n:Nat,n≤min 8 (L - 8 * line)∧i = .int .i64 ((line:Int) * 8+(n:Int))∧FlushRel w a D line n wr) (fun i _=>(8 * line+8) - (intOf i).toNat)
 case atStart=>exact⟨0,Nat.zero_le _,by simp,D.stepped,HR1.out,rfl,rfl,rfl⟩
 case round=>
  obtain⟨n,hn,rfl,hrel⟩:=hrel
  obtain⟨kc,k4⟩:=HC.out _ _ hrel
  have HREL:=hid hrel;clear hrel;by_cases hq:L < 8 * line+8
  · by_cases hlt:8 * line+n < L
    · go_wp2_with (go_at_call 190;refine (HFS.out _ _ HREL.out _ (by omega)).mono ?_;rintro e w2 ⟨rfl,hr2⟩;have HR2:=hid hr2;clear hr2)
      go_roundw
      case rel=>exact⟨n+1,by omega,by go_num,HR2.out⟩
      case measure=>simp[intOf];omega
    · go_wp2
      go_ret
      obtain⟨D',hres,habs,_⟩:=HREL.out
      exact⟨rfl,D',hres,by rw[habs,show min 8 (L - 8 * line)=n by omega]⟩
  · by_cases hlt:n < 8
    · go_wp2_with (go_at_call 190;refine (HFS.out _ _ HREL.out _ (by omega)).mono ?_;rintro e w2 ⟨rfl,hr2⟩;have HR2:=hid hr2;clear hr2)
      go_roundw
      case rel=>exact⟨n+1,by omega,by go_num,HR2.out⟩
      case measure=>simp[intOf];omega
    · go_wp2
      go_ret
      obtain⟨D',hres,habs,_⟩:=HREL.out
      exact⟨rfl,D',hres,by rw[habs,show min 8 (L - 8 * line)=n by omega]⟩
def Abs.settles (A:Abs):List Nat→Abs
 | []=>A
 | k :: r=>(A.settle k).settles r
def Abs.fence (A:Abs):Abs:={ A.step.settles A.marked with marked:=[] }
theorem settles_snoc (k:Nat):∀ (l:List Nat) (A:Abs),A.settles (l++[k])=(A.settles l).settle k
 | [],_=>rfl
 | x :: r,A=>settles_snoc k r (A.settle x)
theorem settles_ok:∀ (l:List Nat) {M:List Nat} {A:Abs},A.OkM (l++M)→(A.settles l).OkM M
 | [],_,_,h=>h
 | _ :: r,_,_,h=>settles_ok r (settle_ok h)
theorem fence_ok {A:Abs} (h:A.Ok) (hs:A.steps+1 < 100000000000):A.fence.Ok:=by
 have h1:A.step.OkM (A.marked++[]):=by rw[List.append_nil];exact step_ok h hs
 have h2:=settles_ok A.marked h1
 exact⟨h2.keys,h2.ent,h2.mk0,h2.mk1,h2.mk2,h2.size,h2.cnt,h2.few,h2.fuse⟩
def FenceRel (w:World) (a:Nat) (D:Dev) (n:Nat) (wr:World):Prop:=
 ∃ D':Dev,Res w a D wr D'∧D'.abs=D.abs.step.settles (D.marked.take n)∧D'.marked=D.marked∧D'.mka=D.mka∧D'.mkc=D.mkc
theorem fence_step {wr:World} {n k:Nat} (ok:D.abs.Ok) (hs:D.steps+1 < 100000000000) (h:FenceRel w a D n wr) (hn:n < D.marked.length) (hk:D.marked[n]=k) :
 Calls Tryz.prog 134 #[.pointer (some ⟨a,0,none⟩),.int .i64 (k:Int)] wr fun r w'=>r = .returned (.tuple #[])∧FenceRel w a D (n+1) w':=by
 obtain⟨D',hres,habs,h1,h2,h3⟩:=h
 have hd:D.marked.drop n=k :: D.marked.drop (n+1):=by rw[List.drop_eq_getElem_cons hn,hk]
 have ok':D'.abs.OkM (k :: D.marked.drop (n+1)):=by
  rw[habs,← hd];refine settles_ok _ ?_;rw[List.take_append_drop];exact step_ok ok hs
 refine (settle_any hres.rep k ok').mono fun r w' ⟨hr,D2,hres2,habs2,e1,e2,e3⟩=>⟨hr,D2,hres.trans hres2,?_,e3.trans h1,e1.trans h2,e2.trans h3⟩
 rw[habs2,habs,List.take_add_one,List.getElem?_eq_getElem hn,hk,Option.toList_some,settles_snoc]
theorem fence_cell {wr:World} {n k g:Nat} (h:FenceRel w a D n wr) (hn:n < D.marked.length) (hk:D.marked[n]=k) (hg:D.mka=some ⟨g,0,none⟩):wr.cell? ⟨g,n,none⟩=some (.int .i64 (k:Int)):=by
 obtain⟨D',hres,habs,h1,h2,h3⟩:=h
 rcases hres.rep.mrk.2 with ⟨e,h0⟩ | ⟨g',cap,cur,e,_,hb,_,_,hsz,ht⟩
 · rw[h1] at h0;omega
 · simp only[Dev.mkv,h2,hg] at e
   injection e with e
   injection e with e
   injection e with e
   subst e;rw[blk_cell hb]
   have:=congrArg (·[n]?) ht
   simp only[h1,Nat.mul_one,i64s] at this;rw[List.getElem?_take,if_pos hn,List.getElem?_map,List.getElem?_eq_getElem hn,hk] at this;rw[← Array.getElem?_toList];exact this
theorem fence_c6 {wr:World} {n:Nat} (h:FenceRel w a D n wr):wr.cell? ⟨a,6,none⟩=some (.slice D.mka D.marked.length D.mkc)∧wr.frozen? ⟨a,6,none⟩=false:=by
 obtain⟨D',hres,habs,h1,h2,h3⟩:=h
 rw[hres.rep.c6,h1,h2,h3]
 exact⟨rfl,hres.rep.frozen 6⟩
theorem own_len (A:Option Addr) (n m c:Nat):(Value.slice A n c).ownBlock=(Value.slice A m c).ownBlock:=by cases A<;>rfl
theorem unmark_res (h:Rep w a D):Res w a D (w.setCell ⟨a,6,none⟩ (.slice D.mka 0 D.mkc)) { D with marked:=[] }:=by
 have hm:w.ownsRow 0 3 1 (.slice D.mka 0 D.mkc) 0 []:=by
  refine⟨by simp,?_⟩
  rcases h.mrk.2 with ⟨e,h0⟩ | ⟨g',cap,cur,e,hx,hb,h1,h2,hsz,ht⟩
  · left
    simp only[Dev.mkv] at e;injection e with e1 e2 e3
    rw[e1,e3]
    exact⟨rfl,rfl⟩
  · right
    simp only[Dev.mkv] at e;injection e with e1 e2 e3
    exact⟨g',cap,cur,by rw[e1,e3],hx,hb,by omega,h2,hsz,by simp⟩
 have hnm:∀ g,(Value.slice D.mka 0 D.mkc).ownBlock=some g→g≠a:=fun g hg e=>h.ne_mkv (by
  subst e;rw[← hg];exact own_len _ _ _ _)
 refine⟨⟨?_,?_,?_,?_,?_,h.nodup,h.keys,h.stamp⟩,(Off.refl _ _).setCell (fun _=>.inl rfl) _,?_⟩
 · rw[blk_set h.dev 6 _]
   simp[Dev.cells]
 · exact (Below.heap_setCell _ _ _ _ h.ne_wb.symm).trans h.wds
 · exact (Below.heap_setCell _ _ _ _ h.ne_mb.symm).trans h.map
 · exact fun e he=>lies_keep (h.ent e he) (Below.heap_setCell _ _ _ _ (h.ne_ent he).symm)
 · exact row_keep hm (fun g hg=>Below.heap_setCell _ _ _ _ (hnm g hg))
 · rintro k (rfl | rfl | rfl | hk | hk)
   · exact .inl (.inl rfl)
   · exact .inl (.inr (.inl rfl))
   · exact .inl (.inr (.inr (.inl rfl)))
   · exact .inl (.inr (.inr (.inr (.inl hk))))
   · exact .inl (.inr (.inr (.inr (.inr ((own_len _ _ _ _).trans hk)))))
theorem fence_down (h:Rep w a D) (hd:D.down=true):Calls Tryz.prog 76 #[.pointer (some ⟨a,0,none⟩)] w fun r w'=>r = .returned (.bool false)∧w=w':=by
 have HS:=hid (step_no h hd);clear h hd;go_enter Tryz.func76,Tryz.ntmps76
 go_wp2_with (go_at_call 133;refine HS.out.mono ?_;rintro e w' ⟨rfl,rfl⟩)
 go_ret
 exact⟨rfl,rfl⟩
theorem fence_end {wr:World} (h:FenceRel w a D D.marked.length wr):∃ D',Res w a D (wr.setCell ⟨a,6,none⟩ (.slice D.mka 0 D.mkc)) D'∧D'.abs=D.abs.fence:=by
 obtain⟨D',hres,habs,h1,h2,h3⟩:=h
 have:=unmark_res hres.rep
 rw[h2,h3] at this
 refine⟨_,hres.trans this,?_⟩
 rw[List.take_length] at habs;unfold Abs.fence;rw[show D.abs.marked=D.marked from rfl,← habs];rfl
theorem fence_yes (h:Rep w a D) (ok:D.abs.Ok) (hd:D.abs.down=false) (hs:D.steps+1 < 100000000000) :
 Calls Tryz.prog 76 #[.pointer (some ⟨a,0,none⟩)] w fun r w'=>r = .returned (.bool true)∧∃ D',Res w a D w' D'∧D'.abs=D.abs.fence:=by
 have HS:=hid (step_yes h hd (by omega) ok.fuse);have hml:D.marked.length≤4194304:=ok.marked_le;have HF:=hid (fun wr n k (x:FenceRel w a D n wr)=>fence_step (k:=k) ok hs x);have HE:=hid (fun wr (x:FenceRel w a D D.marked.length wr)=>fence_end x);have H6:=hid (fun wr n (x:FenceRel w a D n wr)=>fence_c6 x);have HC:=hid (fun wr n k g (x:FenceRel w a D n wr)=>fence_cell (k:=k) (g:=g) x)
 rcases h.mrk.2 with ⟨e,h0⟩ | ⟨g,cap,cur,e,_,_,hcap,_⟩
 · simp only[Dev.mkv] at e
   injection e with e1 e2 e3
   rw[e1,e2,e3] at H6;rw[e1,e3] at HE;have HM:=hid e2;have H:=hid h;clear h hd ok e1 e2 h0;go_enter Tryz.func76,Tryz.ntmps76
   go_wp2_with (go_at_call 133;refine HS.out.mono ?_;rintro e w1 ⟨rfl,hr1,ho1,hz1⟩
                have hrel:FenceRel w a D 0 w1:=⟨D.stepped,step_res hr1 ho1,rfl,rfl,rfl,rfl⟩;have k6:=(H6.out _ _ hrel).1;have f6:=(H6.out _ _ hrel).2;have HR1:=hid hrel;clear hr1 ho1 hz1 hrel)
   go_loopw [15] (fun i wr=>i = .int .i64 0∧wr=w1) (fun _ _=>0)
   case atStart=>exact⟨rfl,rfl⟩
   case round=>
    obtain⟨rfl,rfl⟩:=hrel
    go_wp2
    go_ret
    exact⟨rfl,HE.out _ (by rw[HM.out];exact HR1.out)⟩
 · simp only[Dev.mkv] at e
   injection e with e1 e2 e3
   rw[e1,e3] at HE H6;have HG:=hid e1;have H:=hid h;clear h hd ok e1 e2
   obtain⟨M,hM⟩:∃ M,M=D.marked:=⟨_,rfl⟩
   rw[← hM] at HF HE H6 HC hml hcap;have HM:=hid hM;clear hM;go_enter Tryz.func76,Tryz.ntmps76
   go_wp2_with (go_at_call 133;refine HS.out.mono ?_;rintro e w1 ⟨rfl,hr1,ho1,hz1⟩
                have hrel:FenceRel w a D 0 w1:=⟨D.stepped,step_res hr1 ho1,rfl,rfl,rfl,rfl⟩;have k6:=(H6.out _ _ hrel).1;have HR1:=hid hrel;clear hr1 ho1 hz1 hrel)
   go_loopw [15] (fun i wr=>∃ n:Nat,n≤M.length∧i = .int .i64 (n:Int)∧FenceRel w a D n wr) (fun i _=>M.length - (intOf i).toNat)
   case atStart=>exact⟨0,Nat.zero_le _,rfl,HR1.out⟩
   case round=>
    obtain⟨n,hn,rfl,hrel⟩:=hrel
    have j6:=(H6.out _ _ hrel).1;have f6:=(H6.out _ _ hrel).2;by_cases hlt:n < M.length
    · have hce:=HC.out _ _ M[n] g hrel hlt rfl HG.out
      have HX:=hid (HF.out _ _ M[n] hrel hlt rfl);clear hrel;go_wp2_with (go_at_call 134;refine HX.out.mono ?_;rintro e w2 ⟨rfl,hr2⟩;have HR2:=hid hr2;clear hr2)
      go_roundw
      case rel=>exact⟨n+1,by omega,by go_num,HR2.out⟩
      case measure=>simp[intOf];omega
    · have hnn:n=M.length:=by omega
      rw[hnn] at hrel;have HREL:=hid hrel;clear hrel hnn;go_wp2
      go_ret
      exact⟨rfl,HE.out _ HREL.out⟩
end
end Pm
end
section
open Lib (hid)
open Go.RowKit Go.MapKept
namespace Pm
def Abs.may (A:Abs) (k:Nat):List Int:=
 match pget A.pend k with
 | some (vs,_)=>vs
 | none=>[A.words[k]?.getD 0]
def Got (w w':World) (l:List Int) (r:Ending):Prop:=
 ∃ v,r = .returned v∧w'.ownsRow w.heap.size 50 1 v l.length (u64s l)∧Off (fun _=>False) w w'
theorem block_of_add (a:Addr) (n:Nat):(a.add n).block=a.block:=by unfold Addr.add;split<;>rfl
theorem oneCell_u64s (l:List Int):∀ u∈u64s l,u.oneCell'=true:=by
 intro u hu
 obtain⟨x,_,rfl⟩:=List.mem_map.1 hu
 rfl
theorem row_base {w:World} {b b':Nat} {e:TypeId} {size n:Nat} {v:Value} {xs:List Value} (h:w.ownsRow b e size v n xs) (hb:b'≤b):w.ownsRow b' e size v n xs:=by
 refine⟨h.1,?_⟩
 rcases h.2 with h2 | ⟨g,cap,cur,e,hg,r⟩
 · exact .inl h2
 · exact .inr ⟨g,cap,cur,e,Nat.le_trans hb hg,r⟩
section
variable {w : World} {a : Nat} {D : Dev}
theorem clone_any (ad:Addr) (c:Nat) (l:List Int) (hb:ad.block < w.heap.size) (hl:l.length < 1000000000000) (hc:∀ j u,(u64s l)[j]? = some u→w.cell? (ad.add j)=some u) :
 Calls Tryz.prog 15 #[.slice (some ad) l.length c] w fun r w'=>Got w w' l r:=by
 obtain⟨i0,hi0,hz0,hz1,hz2⟩:=info_parts u64_info
 have hq:∀ W:World,(binOp .eql 22 (.slice (some ad) l.length c) (.slice none 0 0)).run Tryz.prog W = .ok (.bool false) W:=fun W=>Lib.run_eql_slice_nil W _ _ _ _ _ _ _ Tryz.underlying22
 have hown:(w.alloc (.cells #[] 50)).ownsRow w.heap.size 50 1 (.slice (some ⟨w.heap.size,0,none⟩) 0 0) 0 []:=
  ⟨by simp,.inr ⟨w.heap.size,0,#[],rfl,Nat.le_refl _,(heap_alloc w _).1,Nat.le_refl _,by unfold maxLen;omega,rfl,rfl⟩⟩
 have HO:=hid hown
 have hc2:∀ j u,(u64s l)[j]? = some u→(w.alloc (.cells #[] 50)).cell? (ad.add j)=some u:=fun j u hu=>by
  rw[World.cell?_of_block (w:=w) (Below.heap_alloc _ _ _ (by rw[block_of_add];exact hb))];exact hc j u hu
 have HC:=hid hc2;clear hc hc2 hown;go_enter Tryz.func15,Tryz.ntmps15
 go_wp2_with (at_builtin;refine wpList_append_own_at _ rfl (.tmp 5) (.tmp 6) 22 rfl w.heap.size 50 i0 (.int .u64 0) 1 8 Tryz.underlying22 hi0 hz0 hz1 hz2 rfl (by decide) (.slice (some ⟨w.heap.size,0,none⟩) 0 0) 0 [] rfl HO.out ad l.length c (u64s l) rfl (by simp[u64s]) HC.out (oneCell_u64s l) (by unfold maxLen;omega) (by omega) (by simp) ?_
              intro v' w2 hown2 hgr hnil hloc;have HO2:=hid hown2;have HG:=hid hgr;clear hown2 hgr hnil hloc)
 go_ret
 refine⟨v',rfl,by simpa using HO2.out,((Off.refl _ _).alloc _).grown HG.out (fun k hk hlt=>?_)⟩
 simp[Value.ownBlock] at hk;omega
theorem Got.rep {r:Ending} {w':World} {l:List Int} (h:Rep w a D) (g:Got w w' l r):Rep w' a D:=by
 obtain⟨v,_,_,ho⟩:=g
 exact h.keep (fun k hk=>ho.block k (h.foot_lt hk) id)
theorem may_none (h:Rep w a D) (i:Int) (hi:D.hasB i=false):Calls Tryz.prog 246 #[.pointer (some ⟨a,0,none⟩),.int .i64 i] w fun r w'=>r = .returned (.slice none 0 0)∧w=w':=by
 have hc:=has_any h i;rw[hi] at hc;have H:=hid hc;clear hc hi h;go_enter Tryz.func246,Tryz.ntmps246
 go_wp2_with (go_at_call 106;refine H.out.mono ?_;rintro e w' ⟨rfl,rfl⟩)
 go_ret
 exact⟨rfl,rfl⟩
theorem may_any (h:Rep w a D) (ok:D.abs.Ok) (k:Nat) (hk:k < D.words.length):Calls Tryz.prog 246 #[.pointer (some ⟨a,0,none⟩),.int .i64 (k:Int)] w fun r w'=>Got w w' (D.abs.may k) r:=by
 have hc:=has_any h (k:Int);rw[has_yes (by omega) (by omega)] at hc;have H1:=hid hc;have c4:=h.c4;have c5:=h.c5;have cw:=h.word k hk;have hlt:=h.lt;have hwl:D.wb < w.heap.size:=lt_of_some h.wds;unfold Abs.may
 cases hg:pget D.abs.pend k with
 | none=>
   have hn:k∉D.ents.map Ent.key:=by rw[← keys_abs];exact pget_none.1 hg
   have hl:=run_look_none h.map hn true;simp only[if_true] at hl
   have hgot:Got w (((w.alloc (.cells #[.slice none 0 0,.int .i64 0] 262)).alloc (.cells #[.int .u64 D.words[k]] 50))) [D.abs.words[k]?.getD 0] (.returned (.slice (some ⟨w.heap.size+1,0,none⟩) 1 1)):=by
    refine⟨_,rfl,⟨by simp[u64s],.inr ⟨w.heap.size+1,1,#[.int .u64 D.words[k]],rfl,by omega,?_,Nat.le_refl _,by unfold maxLen;omega,rfl,?_⟩⟩,((Off.refl _ _).alloc _).alloc _⟩
    · have:=(heap_alloc (w.alloc (.cells #[.slice none 0 0,.int .i64 0] 262)) (.cells #[.int .u64 D.words[k]] 50)).1
      rw[World.size_alloc] at this;exact this
    · simp[u64s,Dev.abs,List.getElem?_eq_getElem hk]
   have HG:=hid hgot;clear hc h ok hg hn hgot;go_enter Tryz.func246,Tryz.ntmps246
   go_wp2_with (go_at_call 106;refine H1.out.mono ?_;rintro e w' ⟨rfl,rfl⟩)
   go_ret;exact HG.out
 | some v=>
   obtain⟨pre,post,e,he,rfl,hv,hm,hn⟩:=ents_of_get hg
   have hent:=ok.ent _ (pget_mem hg);have hfew:=ok.few;have hcnt:=ok.cnt;simp only[← hv,← hm] at hent;have hb:e.vals.length < 1000000000000:=by omega
   obtain⟨v1,v2⟩:=v
   simp only at hv hm;subst hv hm;have hm0:=h.map;rw[he] at hm0;have hl:=run_look_some hm0 (h.mid_key he).1 true;simp only[if_true,Ent.val] at hl
   obtain⟨cs,hcs,r1,r2,r3⟩:=h.ent e (by rw[he];simp)
   have hel:=lt_of_some hcs
   have hcl:=clone_any (w:=w.alloc (.cells #[.slice (some ⟨e.blk,e.off,none⟩) e.vals.length e.cap,.int .i64 (e.mark:Int)] 262)) ⟨e.blk,e.off,none⟩ e.cap e.vals (by simp;omega) hb (fun j u hj=>by
    rw[Addr.add_lit,blk_cell (blk_alloc hcs _),← hj,← r3]
    have hjl:j < e.vals.length:=by
     have:=(List.getElem?_eq_some_iff.1 hj).1
     simpa [u64s] using this
    rw[List.getElem?_take,if_pos hjl,List.getElem?_drop,Array.getElem?_toList])
   have HC:=hid hcl;clear hc h ok hg hn hm0 hcl hcs r1 r2 r3 he hent;go_enter Tryz.func246,Tryz.ntmps246
   go_wp2_with (first
    | (go_at_call 106;refine H1.out.mono ?_;rintro e w' ⟨rfl,rfl⟩)
    | (go_at_call 15;refine HC.out.mono ?_;rintro r w2 ⟨v,rfl,hown,hoff⟩;have HO:=hid hown;have HF:=hid hoff;clear hown hoff))
   go_ret
   refine⟨v,rfl,?_,?_⟩
   · have:=HO.out
     rw[World.size_alloc] at this;exact row_base this (by omega)
   · exact ((Off.refl (fun _=>False) w).alloc _).trans HF.out (fun _ _ h=>h)
end
end Pm
end
section
open Go.RowKit Go.MapKept
namespace Pm
def Ses (B:Nat) (w0 w:World) (a:Nat) (A:Abs):Prop:=
 ∃ D,Rep w a D∧D.abs=A∧A.Ok∧Below B w0 w∧(∀ k,Foot a D k→B≤k)∧B≤w.heap.size
def Abs.fresh (n:Nat):Abs:=⟨0,0,false,0,List.replicate n 0,[],[]⟩
def Abs.has (A:Abs) (i:Int):Bool:=decide (0≤i) && decide (i < (A.words.length:Int))
def Abs.canStore (A:Abs) (i:Int):Bool:=A.has i && !A.down
def Abs.storeAt (A:Abs) (i x:Int):Abs:=if A.canStore i then A.store i.toNat x else A
def Abs.canFlush (A:Abs) (i:Int):Bool:=decide (0≤i) && decide (i < ((A.words.length+7) / 8:Nat)) && !A.down
def Abs.flushAt (A:Abs) (i:Int):Abs:=if A.canFlush i then A.flush i.toNat else A
def Abs.fenceAt (A:Abs):Abs:=if A.down then A else A.fence
theorem fresh_ok (n:Nat) (hn:n≤4194304):(Abs.fresh n).Ok:=by
 refine⟨by simp[Abs.fresh],by simp[Abs.fresh],by simp[Abs.fresh],by simp[Abs.fresh],by simp[Abs.fresh],?_,Nat.le_refl _,by simp[Abs.fresh],by simp[Abs.fresh]⟩
 simpa [Abs.fresh] using hn
section
variable {B a : Nat} {w0 w w' : World} {A : Abs}
theorem Ses.below (h:Ses B w0 w a A):Below B w0 w:=by
 obtain⟨D,_,_,_,h,_⟩:=h;exact h
theorem Ses.size (h:Ses B w0 w a A):B≤w.heap.size:=by
 obtain⟨D,_,_,_,_,_,h⟩:=h;exact h
theorem ses_step {D D':Dev} {A':Abs} (hb:Below B w0 w) (hf:∀ k,Foot a D k→B≤k) (hs:B≤w.heap.size) (hr:Res w a D w' D') (ha:D'.abs=A') (hok:A'.Ok):Ses B w0 w' a A':=by
 refine⟨D',hr.rep,ha,hok,hb.trans (hr.off.below hs hf),fun k hk=>?_,Nat.le_trans hs hr.off.size⟩
 rcases hr.foot k hk with h | h
 · exact hf k h
 · omega
theorem ses_new (n:Int) (m:Nat) (hm:(m:Int)=min (max n 0) 4194304) (w:World):Calls Tryz.prog 12 #[.int .i64 n] w fun r w'=>
 r = .returned (.pointer (some ⟨w.heap.size+2,0,none⟩))∧Ses w.heap.size w w' (w.heap.size+2) (Abs.fresh m):=by
 refine (new_any w n m hm).mono fun r w' ⟨hr,hrep,hb,hz⟩=>⟨hr,Dev.fresh m w.heap.size,hrep,rfl,fresh_ok m (by omega),hb,?_,hb.size⟩
 rintro k (rfl | rfl | rfl | hk | hk)
 · omega
 · exact Nat.le_refl _
 · show w.heap.size≤w.heap.size+1;omega
 · simp[Dev.fresh] at hk
 · simp[Dev.fresh,Dev.mkv,Value.ownBlock] at hk
theorem ses_len (h:Ses B w0 w a A):Calls Tryz.prog 57 #[.pointer (some ⟨a,0,none⟩)] w fun r w'=>r = .returned (.int .i64 (A.words.length:Int))∧w=w':=by
 obtain⟨D,hrep,rfl,_⟩:=h
 exact len_any hrep
theorem ses_load (h:Ses B w0 w a A) (i:Int):Calls Tryz.prog 54 #[.pointer (some ⟨a,0,none⟩),.int .i64 i] w fun r w'=>r = .returned (.int .u64 (if A.has i then A.words[i.toNat]?.getD 0 else 0))∧w=w':=by
 obtain⟨D,hrep,rfl,_⟩:=h
 cases hi:D.abs.has i with
 | false=>exact load_no hrep i hi
 | true=>
   simp only[Abs.has,Bool.and_eq_true,decide_eq_true_eq] at hi
   obtain⟨k,rfl⟩:=Int.eq_ofNat_of_zero_le hi.1
   have hk:k < D.words.length:=by have:=hi.2;simp only[Dev.abs] at this;omega
   have:=load_yes hrep k hk
   simpa [Dev.abs,List.getElem?_eq_getElem hk] using this
theorem ses_store (h:Ses B w0 w a A) (i x:Int) (hs:A.steps+1 < 100000000000):Calls Tryz.prog 130 #[.pointer (some ⟨a,0,none⟩),.int .i64 i,.int .u64 x] w fun r w'=>
 r = .returned (.bool (A.canStore i))∧Ses B w0 w' a (A.storeAt i x):=by
 have hses:=h
 obtain⟨D,hrep,rfl,hok,hb,hf,hz⟩:=h
 unfold Abs.storeAt
 cases hi:D.abs.has i with
 | false=>
   have hc:D.abs.canStore i=false:=by simp[Abs.canStore,hi]
   simp only[hc];refine (store_none hrep i x hi).mono fun r w' ⟨hr,hw⟩=>⟨hr,?_⟩
   subst hw;exact hses
 | true=>
   cases hd:D.abs.down with
   | true=>
     have hc:D.abs.canStore i=false:=by simp[Abs.canStore,hd]
     simp only[hc];refine (store_down hrep i x hd).mono fun r w' ⟨hr,hw⟩=>⟨hr,?_⟩
     subst hw;exact hses
   | false=>
     have hc:D.abs.canStore i=true:=by simp[Abs.canStore,hi,hd]
     simp only[hc,if_true];simp only[Abs.has,Bool.and_eq_true,decide_eq_true_eq] at hi
     obtain⟨k,rfl⟩:=Int.eq_ofNat_of_zero_le hi.1
     rw[Int.toNat_natCast];refine (store_any hrep hok hd k x (by omega)).mono fun r w' ⟨hr,D',hres,ha⟩=>⟨hr,ses_step hb hf hz hres ha (store_ok hok (by omega) x hs)⟩
theorem ses_flush (h:Ses B w0 w a A) (i:Int) (hs:A.steps+1 < 100000000000):Calls Tryz.prog 132 #[.pointer (some ⟨a,0,none⟩),.int .i64 i] w fun r w'=>
 r = .returned (.bool (A.canFlush i))∧Ses B w0 w' a (A.flushAt i):=by
 have hses:=h
 obtain⟨D,hrep,rfl,hok,hb,hf,hz⟩:=h
 have hsz:D.words.length≤4194304:=hok.size;unfold Abs.flushAt
 rcases Int.lt_or_le i 0 with hi | hi
 · have hc:D.abs.canFlush i=false:=by simp[Abs.canFlush];omega
   simp only[hc];refine (flush_neg i hi).mono fun r w' ⟨hr,hw⟩=>⟨hr,?_⟩
   subst hw;exact hses
 · obtain⟨k,rfl⟩:=Int.eq_ofNat_of_zero_le hi
   rcases Nat.lt_or_ge k ((D.words.length+7) / 8) with hk | hk
   · cases hd:D.abs.down with
     | true=>
       have hc:D.abs.canFlush (k:Int)=false:=by simp[Abs.canFlush,hd]
       simp only[hc];refine (flush_down hrep k hk hsz hd).mono fun r w' ⟨hr,hw⟩=>⟨hr,?_⟩
       subst hw;exact hses
     | false=>
       have hc:D.abs.canFlush (k:Int)=true:=by
        simp only[Abs.canFlush,hd,Bool.not_false,Bool.and_true,Bool.and_eq_true,decide_eq_true_eq]
        exact⟨hi,by show (k:Int) < ((D.words.length+7) / 8:Nat);omega⟩
       simp only[hc,if_true];rw[Int.toNat_natCast];exact (flush_yes hrep hok hd k (by omega) hs).mono fun r w' ⟨hr,D',hres,ha⟩=>⟨hr,ses_step hb hf hz hres ha (flush_ok hok k hs)⟩
   · have hc:D.abs.canFlush (k:Int)=false:=by
      simp only[Abs.canFlush,Bool.and_eq_false_iff,decide_eq_false_iff_not];exact .inl (.inr (by show ¬ (k:Int) < ((D.words.length+7) / 8:Nat);omega))
     simp only[hc];refine (flush_far hrep k hk hsz).mono fun r w' ⟨hr,hw⟩=>⟨hr,?_⟩
     subst hw;exact hses
theorem ses_fence (h:Ses B w0 w a A) (hs:A.steps+1 < 100000000000):Calls Tryz.prog 76 #[.pointer (some ⟨a,0,none⟩)] w fun r w'=>
 r = .returned (.bool (!A.down))∧Ses B w0 w' a A.fenceAt:=by
 have hses:=h
 obtain⟨D,hrep,rfl,hok,hb,hf,hz⟩:=h
 unfold Abs.fenceAt
 cases hd:D.abs.down with
 | true=>
   refine (fence_down hrep hd).mono fun r w' ⟨hr,hw⟩=>⟨hr,?_⟩
   subst hw;exact hses
 | false=>
   exact (fence_yes hrep hok hd hs).mono fun r w' ⟨hr,D',hres,ha⟩=>⟨hr,ses_step hb hf hz hres ha (fence_ok hok hs)⟩
def Words (B:Nat) (w:World) (v:Value) (l:List Int):Prop:=w.ownsRow B 50 1 v l.length (u64s l)
theorem ses_may (h:Ses B w0 w a A) (i:Int):Calls Tryz.prog 246 #[.pointer (some ⟨a,0,none⟩),.int .i64 i] w fun r w'=>
 ∃ v,r = .returned v∧Words w.heap.size w' v (if A.has i then A.may i.toNat else [])∧Ses B w0 w' a A∧Off (fun _=>False) w w':=by
 have hses:=h
 obtain⟨D,hrep,rfl,hok,hb,hf,hz⟩:=h
 cases hi:D.abs.has i with
 | false=>
   refine (may_none hrep i hi).mono fun r w' ⟨hr,hw⟩=>⟨_,hr,?_,?_,?_⟩
   · exact⟨by simp[u64s],.inl ⟨rfl,rfl⟩⟩
   · subst hw;exact hses
   · subst hw;exact Off.refl _ _
 | true=>
   simp only[Abs.has,Bool.and_eq_true,decide_eq_true_eq] at hi
   obtain⟨k,rfl⟩:=Int.eq_ofNat_of_zero_le hi.1
   have hk:k < D.words.length:=by have:=hi.2;simp only[Dev.abs] at this;omega
   refine (may_any hrep hok k hk).mono fun r w' hg=>?_
   have hrep2:=hg.rep hrep
   obtain⟨v,hr,hw,ho⟩:=hg
   refine⟨v,hr,by simpa [Words] using hw,⟨D,hrep2,rfl,hok,hb.trans (ho.below hz (fun _ h=>h.elim)),hf,Nat.le_trans hz ho.size⟩,ho⟩
end
end Pm
end
section
open Lib (hid)
open Go.RowKit Go.MapKept
namespace Pm
def LA0:Abs:=Abs.fresh 8
def LA1:Abs:=LA0.storeAt 0 5
def LA2:Abs:=LA1.storeAt 0 6
def LA3:Abs:=LA2.flushAt 0
def LA4:Abs:=LA3.fenceAt
theorem la_s0:LA0.canStore 0=true:=by decide
theorem la_s1:LA1.canStore 0=true:=by decide
theorem la_m2:(if LA2.has 0 then LA2.may (0:Int).toNat else [])=[0,5,6]:=by decide
theorem la_l2:(if LA2.has 0 then LA2.words[(0:Int).toNat]?.getD 0 else 0)=6:=by decide
theorem la_f2:LA2.canFlush 0=true:=by decide
theorem la_d3:(!LA3.down)=true:=by decide
theorem la_m4:(if LA4.has 0 then LA4.may (0:Int).toNat else [])=[6]:=by decide
theorem words_cell {B:Nat} {w:World} {g c n i:Nat} {l:List Int} (h:Words B w (.slice (some ⟨g,0,none⟩) n c) l) (hi:i < l.length):w.cell? ⟨g,i,none⟩=some (.int .u64 l[i]):=by
 rcases h.2 with ⟨e,_⟩ | ⟨g',cap,cur,e,_,hb,_,_,hsz,ht⟩
 · cases e
 · injection e with e
   injection e with e
   injection e with e
   subst e;rw[blk_cell hb]
   have:=congrArg (·[i]?) ht
   simp only[Nat.mul_one,u64s] at this;rw[List.getElem?_take,if_pos hi,List.getElem?_map,List.getElem?_eq_getElem hi] at this;rw[← Array.getElem?_toList];exact this
theorem lives_any (w:World):Calls Tryz.prog 229 #[] w fun r w'=>r = .returned (.bool true)∧Below w.heap.size w w':=by
 have hn:=ses_new 8 8 (by decide) w;have HN:=hid hn;clear hn;go_enter Tryz.func229,Tryz.ntmps229
 go_wp2_with fail
 refine HN.out.mono ?_;rintro r w1 ⟨rfl,h1⟩;have H1:=hid (show Ses w.heap.size w w1 (w.heap.size+2) LA0 from h1);clear h1;go_wp2_with fail
 have hc:=ses_store H1.out 0 5 (by decide);rw[la_s0] at hc;refine hc.mono ?_;clear hc;rintro r w2 ⟨rfl,h2⟩;have H2:=hid (show Ses w.heap.size w w2 (w.heap.size+2) LA1 from h2);clear h2;go_wp2_with fail
 have hc:=ses_store H2.out 0 6 (by decide);rw[la_s1] at hc;refine hc.mono ?_;clear hc;rintro r w3 ⟨rfl,h3⟩;have H3:=hid (show Ses w.heap.size w w3 (w.heap.size+2) LA2 from h3);clear h3;go_wp2_with fail
 have hc:=ses_may H3.out 0;rw[la_m2] at hc;refine hc.mono ?_;clear hc;rintro r w4 ⟨v4,rfl,hw4,h4,_⟩
 obtain⟨g4,c4,rfl⟩:=row_form hw4 (by decide)
 have H4:=hid h4;clear h4 hw4;go_wp2_with fail
 have hc:=ses_load H4.out 0;rw[la_l2] at hc;refine hc.mono ?_;clear hc;rintro r w5 ⟨rfl,rfl⟩;go_wp2_with fail
 have hc:=ses_flush H4.out 0 (by decide);rw[la_f2] at hc;refine hc.mono ?_;clear hc;rintro r w6 ⟨rfl,h6⟩;have H6:=hid (show Ses w.heap.size w w6 (w.heap.size+2) LA3 from h6);clear h6;go_wp2_with fail
 have hc:=ses_fence H6.out (by decide);rw[la_d3] at hc;refine hc.mono ?_;clear hc;rintro r w7 ⟨rfl,h7⟩;have H7:=hid (show Ses w.heap.size w w7 (w.heap.size+2) LA4 from h7);clear h7;go_wp2_with fail
 have hc:=ses_may H7.out 0;rw[la_m4] at hc;refine hc.mono ?_;clear hc;rintro r w8 ⟨v8,rfl,hw8,h8,_⟩
 obtain⟨g8,c8,rfl⟩:=row_form hw8 (by decide)
 have H8:=hid h8;clear h8 hw8;go_wp2_with fail
 have hc:=ses_may H8.out 0;rw[la_m4] at hc;refine hc.mono ?_;clear hc;rintro r w9 ⟨v9,rfl,hw9,h9,_⟩
 obtain⟨g9,c9,rfl⟩:=row_form hw9 (by decide)
 have k9:=words_cell (i:=0) hw9 (by decide);simp only[List.getElem_cons_zero] at k9;have H9:=hid h9;clear h9 hw9;go_wp2
 go_ret
 exact⟨rfl,H9.out.below⟩
end Pm
end
section
open Lib (hid)
open Go.RowKit Go.MapKept
namespace Sup
theorem nums_ex:nums 10 3 64=274878103562:=by decide
theorem may_ex:Geo.may ((10:Nat):Int) ((3:Nat):Int) ((64:Nat):Int)=true:=by decide
theorem row_keep {w w':World} {g:Nat} {l:List Nat} (h:w.rowIs g 50 8 (rowOf l)) (hb:Below w.heap.size w w'):w'.rowIs g 50 8 (rowOf l):=h.of_block (hb.block _ h.lt)
theorem lives_any (w:World):Calls Tryz.prog 199 #[] w fun r w'=>r = .returned (.bool true)∧Below w.heap.size w w':=by
 have he:Calls Tryz.prog 107 #[.agg #[.int .i64 10,.int .i64 3,.int .i64 64]] w fun r w'=>∃ g:Nat,w.heap.size≤g∧r = .returned (.tuple #[.slice (some ⟨g,0,none⟩) 8 8,.int .i64 0])∧w'.rowIs g 50 8 (rowOf (sb 10 3 64))∧Below w.heap.size w w':=encode_yes w 10 3 64 may_ex
 have HE:=hid he;have H1:=hid Pm.lives_any;have H2:=hid Crc.lives_any;have H3:=hid Pack.lives_any;have H4:=hid Geo.lives_any;clear he;go_enter Tryz.func199,Tryz.ntmps199
 go_wp2_with fail
 refine HE.out.mono ?_;rintro e w0 ⟨g,_,rfl,hrow,hb⟩;have HR0:=hid hrow;have HB0:=hid hb;clear hrow hb HE;go_wp2_with fail
 refine (H1.out _).mono ?_;rintro e w1 ⟨rfl,hb⟩;have HR1:=hid (row_keep HR0.out hb);have HB1:=hid (HB0.out.trans (hb.mono HB0.out.size));clear hb HR0 HB0;go_wp2_with fail
 refine (H2.out _).mono ?_;rintro e w2 ⟨rfl,hb⟩;have HR2:=hid (row_keep HR1.out hb);have HB2:=hid (HB1.out.trans (hb.mono HB1.out.size));clear hb HR1 HB1;go_wp2_with fail
 refine (H3.out _).mono ?_;rintro e w3 ⟨rfl,hb⟩;have HR3:=hid (row_keep HR2.out hb);have HB3:=hid (HB2.out.trans (hb.mono HB2.out.size));clear hb HR2 HB2;go_wp2_with fail
 refine (H4.out _).mono ?_;rintro e w4 ⟨rfl,hb⟩;have HR4:=hid (row_keep HR3.out hb);have HB4:=hid (HB3.out.trans (hb.mono HB3.out.size));clear hb HR3 HB3
 have hc1:w4.cell? ⟨g,1,none⟩=some (.int .u64 274878103562):=by
  rw[HR4.out.cell (i:=1) (by omega)];show some (Value.int .u64 ((nums 10 3 64:Nat):Int))=_
  rw[nums_ex];rfl
 go_wp2
 go_ret
 exact⟨rfl,HB4.out⟩
end Sup
end
section
open Lib (hid)
open Go.RowKit Go.MapKept
namespace Sup
theorem ses_keep {B a:Nat} {w0 w w':World} {A:Pm.Abs} (h:Pm.Ses B w0 w a A) (hb:Below w.heap.size w w'):Pm.Ses B w0 w' a A:=by
 obtain⟨D,hrep,e,ok,hbel,hf,hz⟩:=h
 exact⟨D,hrep.keep (fun k hk=>hb.block k (hrep.foot_lt hk)),e,ok,hbel.trans (hb.mono hz),hf,Nat.le_trans hz hb.size⟩
def rd (A:Pm.Abs):List Nat:=(List.range 8).map fun i=>(A.words[i]?.getD 0).toNat
theorem rd_len (A:Pm.Abs):(rd A).length=8:=by simp[rd]
theorem rd_get (A:Pm.Abs) {k:Nat} (hk:k < 8):(rd A)[k]?.getD 0=(A.words[k]?.getD 0).toNat:=by
 unfold rd;rw[List.getElem?_map,List.getElem?_range hk];rfl
def ron (l:List Nat) (L:Nat):Option (Nat × Nat × Nat):=
 match dec l with
 | some (n,m,s)=>if Geo.fin n m s=(L:Int) then some (n,m,s) else none
 | none=>none
def U64 (l:List Int):Prop:=∀ x∈l,0≤x∧x < 18446744073709551616
theorem U64.get {l:List Int} (h:U64 l) (k:Nat):0≤l[k]?.getD 0∧l[k]?.getD 0 < 18446744073709551616:=by
 rcases Nat.lt_or_ge k l.length with h1 | h1
 · rw[List.getElem?_eq_getElem h1]
   exact h _ (List.getElem_mem h1)
 · rw[List.getElem?_eq_none h1]
   simp
theorem rd_u64 {A:Pm.Abs} (h:U64 A.words):∀ x∈rd A,x < 18446744073709551616:=by
 intro x hx
 obtain⟨k,_,rfl⟩:=List.mem_map.1 hx
 have:=h.get k
 omega
theorem load_any {B a:Nat} {w0 w:World} {A:Pm.Abs} (h:Pm.Ses B w0 w a A) (hu:U64 A.words) (k:Nat) (hk:k < 8):Calls Tryz.prog 54 #[.pointer (some ⟨a,0,none⟩),.int .i64 (k:Int)] w fun r w'=>r = .returned (.int .u64 (((rd A)[k]?.getD 0:Nat):Int))∧w=w':=by
 refine (Pm.ses_load h (k:Int)).mono ?_;rintro r w' ⟨rfl,rfl⟩
 refine⟨?_,rfl⟩
 have e:(((rd A)[k]?.getD 0:Nat):Int)=A.words[k]?.getD 0:=by
  rw[rd_get A hk]
  have:=hu.get k
  omega
 rw[e]
 cases hh:A.has (k:Int) with
 | true=>simp
 | false=>
   have:A.words.length≤k:=by
    unfold Pm.Abs.has at hh;simp at hh;omega
   rw[List.getElem?_eq_none this];simp
def upt (l:List Nat) (m i:Nat):Value:=.int .u64 ((if i < m then l[i]?.getD 0 else 0:Nat):Int)
theorem upt_step {l:List Nat} {m:Nat} (j:Nat):(if j=m then Value.int .u64 ((l[m]?.getD 0:Nat):Int) else upt l m j)=upt l (m+1) j:=by
 unfold upt;by_cases h:j=m
 · subst h
   rw[if_pos rfl,if_pos (by omega)]
 · rw[if_neg h]
   by_cases h2:j < m
   · rw[if_pos h2,if_pos (by omega)]
   · rw[if_neg h2,if_neg (by omega)]
theorem row_read {w:World} {g:Nat} {t:TypeId} {A:Pm.Abs} (h:w.rowIs g t 8 (upt (rd A) 8)) (hu:U64 A.words):Pack.Wds w (some ⟨g,0,none⟩) (rd A):=
 ⟨rd_u64 hu,by rw[rd_len];omega,fun j hj=>⟨g,0,rfl,h.lt,by
   have h8:j < 8:=by rwa [rd_len] at hj
   rw[Nat.zero_add,h.cell h8];unfold upt;rw[if_pos h8,List.getElem?_eq_getElem hj]
   rfl⟩⟩
theorem zeros_row (w:World) (t:TypeId) (l:List Nat):(w.alloc (.cells #[.int .u64 0,.int .u64 0,.int .u64 0,.int .u64 0,.int .u64 0,.int .u64 0,.int .u64 0,.int .u64 0] t)).rowIs w.heap.size t 8 (upt l 0):=
 World.rowIs_alloc w #[.int .u64 0,.int .u64 0,.int .u64 0,.int .u64 0,.int .u64 0,.int .u64 0,.int .u64 0,.int .u64 0] t (upt l 0) (fun i hi=>by
  have:i < 8:=hi
  have:i=0∨i=1∨i=2∨i=3∨i=4∨i=5∨i=6∨i=7:=by omega
  rcases this with rfl | rfl | rfl | rfl | rfl | rfl | rfl | rfl<;>rfl)
theorem words_yes (w:World) {n m s:Nat} (h:Geo.may n m s=true):Calls Tryz.prog 56 #[.agg #[.int .i64 (n:Int),.int .i64 (m:Int),.int .i64 (s:Int)]] w fun r w'=>r = .returned (.int .i64 (Geo.fin n m s))∧Below w.heap.size w w':=by
 have:=Geo.words_any w n m s
 rw[Geo.iff_yes h] at this;exact this
theorem frozen_set_other {w:World} {p q:Addr} (h:p.block≠q.block) (v:Value):(w.setCell q v).frozen? p=w.frozen? p:=World.frozen?_of_block (w:=w) (Below.heap_setCell w q v p.block h)
theorem own_set_other {w:World} {b g i:Nat} {n m s:Int} (h:Own w b n m s) (hg:b≠g) (v:Value):Own (w.setCell ⟨g,i,none⟩ v) b n m s:=
 ⟨⟨by simpa using h.box.lt,(cell_set_other hg _).trans h.box.c0,(cell_set_other hg _).trans h.box.c1,(cell_set_other hg _).trans h.box.c2⟩,fun o=>(frozen_set_other hg _).trans (h.f o)⟩
structure Rs (w:World) (b g k:Nat) (l:List Nat) (wr:World):Prop where
 row:wr.rowIs g 120 8 (upt l k)
 own:Own wr b 0 0 0
 bg:b≠g
 below:Below w.heap.size w wr
 le:w.heap.size≤g
theorem Rs.set {w wr:World} {b g k:Nat} {l:List Nat} (h:Rs w b g k l wr):Rs w b g (k+1) l (wr.setCell ⟨g,k,none⟩ (.int .u64 ((l[k]?.getD 0:Nat):Int))):=
 ⟨(h.row.set k _).congr (fun j _=>upt_step j),own_set_other h.own h.bg _,h.bg,h.below.setCell h.le _,h.le⟩
section
variable {w : World}
theorem read_core {a:Nat} {A:Pm.Abs} (hu:U64 A.words)
 (hld:∀ W,Below w.heap.size w W→∀ k:Nat,k < 8→Calls Tryz.prog 54 #[.pointer (some ⟨a,0,none⟩),.int .i64 (k:Int)] W fun r w'=>r = .returned (.int .u64 (((rd A)[k]?.getD 0:Nat):Int))∧W=w')
 (hln:∀ W,Below w.heap.size w W→Calls Tryz.prog 57 #[.pointer (some ⟨a,0,none⟩)] W fun r w'=>r = .returned (.int .i64 (A.words.length:Int))∧W=w') :
 Calls Tryz.prog 26 #[.pointer (some ⟨a,0,none⟩)] w fun r w'=>r = .returned (.tuple #[gv (ron (rd A) A.words.length),.int .i64 (ev (ron (rd A) A.words.length))])∧Below w.heap.size w w':=by
 have HLD:=hid hld;have HLN:=hid hln;have HU:=hid hu;clear hld hln hu;have HB:=hid ((Below.refl w.heap.size w).alloc (Nat.le_refl _) (.cells #[.int .i64 0,.int .i64 0,.int .i64 0] 72));have HX:=hid (owned w 0 0 0 72);have HZ:=hid (World.size_alloc w (.cells #[.int .i64 0,.int .i64 0,.int .i64 0] 72));go_enter Tryz.func26,Tryz.ntmps26
 go_wp2
 generalize w.alloc (.cells #[.int .i64 0,.int .i64 0,.int .i64 0] 72)=W at *;have hrow:=zeros_row W 120 (rd A);rw[HZ.out] at hrow;have hba:=(Below.refl W.heap.size W).alloc (Nat.le_refl _) (.cells #[.int .u64 0,.int .u64 0,.int .u64 0,.int .u64 0,.int .u64 0,.int .u64 0,.int .u64 0,.int .u64 0] 120);have HR:=hid (show Rs w w.heap.size (w.heap.size+1) 0 (rd A) _ from ⟨hrow,HX.out.keep hba,by omega,HB.out.trans (hba.mono HB.out.size),by omega⟩);clear hrow hba HX HB HZ;generalize W.alloc (.cells #[.int .u64 0,.int .u64 0,.int .u64 0,.int .u64 0,.int .u64 0,.int .u64 0,.int .u64 0,.int .u64 0] 120)=W1 at *;clear W
 go_loopw [8] (fun i wr=>∃ (k:Nat),k≤8∧i = .int .i64 (k:Int)∧Rs w w.heap.size (w.heap.size+1) k (rd A) wr) (fun i _=>8 - (intOf i).toNat)
 case atStart=>exact⟨0,Nat.zero_le _,rfl,HR.out⟩
 case round=>
  obtain⟨k,hk,rfl,hrs⟩:=hrel
  have HS:=hid hrs;clear hrs HR;by_cases hlt:k < 8
  · have HC:=hid (HLD.out _ HS.out.below k hlt)
    have hi0:(0:Int)≤(k:Int):=by omega
    have hi1:(k:Int) < 8:=by omega
    have hrc:=HS.out.row.cell hlt;have hrf:=HS.out.row.frozen k;have HS2:=hid HS.out.set;generalize (rd A)[k]?.getD 0=x at *;go_wp2_with fail
    refine HC.out.mono ?_;rintro e w' ⟨rfl,rfl⟩;go_wp2
    refine⟨⟨k+1,by omega,by go_num,HS2.out⟩,by simp[intOf];omega⟩
  · obtain rfl:k=8:=by omega
    have hdc:=decode_any (some ⟨w.heap.size+1,0,none⟩) 8 (rd A) (row_read HS.out.row HU.out);rw[rd_len] at hdc
    cases ho:dec (rd A) with
    | none=>
      rw[ho] at hdc;simp only[gv,ev] at hdc;have HD:=hid hdc;have HN:=hid (show ron (rd A) A.words.length=none by unfold ron;rw[ho]);clear hdc ho;go_wp2_with fail
      refine HD.out.mono ?_;rintro e w1 ⟨rfl,hb⟩;have hb0:=hb.alloc hb.size (.cells #[.int .i64 0,.int .i64 0,.int .i64 0] 72);have HX1:=hid (HS.out.own.keep hb);have HB1:=hid (HS.out.below.trans (hb0.mono HS.out.below.size));have HB0:=hid (HS.out.below.trans (hb.mono HS.out.below.size));clear hb hb0 HS HD;have hlt1:w.heap.size < w1.heap.size:=HX1.out.box.lt;have hc0:=HX1.out.box.c0;have hc1:=HX1.out.box.c1;have hc2:=HX1.out.box.c2;have hf0:=HX1.out.f 0;have hf1:=HX1.out.f 1;have hf2:=HX1.out.f 2;go_wp2
      rw[HN.out];refine bodyPost_ret (v:=.tuple #[gv none,.int .i64 (ev none)]) ?_ rfl ⟨rfl,?_⟩
      · simp[results,Tryz.results26,go_sem,gv,ev,hc0,hc1,hc2,hlt1]
      · first
        | exact ((HB1.out.setCell (Nat.le_refl _) _).setCell (Nat.le_refl _) _).setCell (Nat.le_refl _) _
        | exact (((HB0.out.setCell (Nat.le_refl _) _).setCell (Nat.le_refl _) _).setCell (Nat.le_refl _) _).alloc (by have:=HB0.out.size;simpa using this) _
    | some q=>
      obtain⟨n,m,s⟩:=q
      have hms:=dec_some ho;rw[ho] at hdc;simp only[gv,ev] at hdc;have HD:=hid hdc;have HW:=hid (fun w=>words_yes w hms.1);have HM:=hid hms.1;have HO:=hid ho;clear hdc ho hms;go_wp2_with fail
      refine HD.out.mono ?_;rintro e w1 ⟨rfl,hb⟩;have hb0:=hb.alloc hb.size (.cells #[.int .i64 (n:Int),.int .i64 (m:Int),.int .i64 (s:Int)] 72);have HX1:=hid (HS.out.own.keep hb0);have HB1:=hid (HS.out.below.trans (hb0.mono HS.out.below.size));have HG1:=hid (Geo.boxed w1 n m s 72);clear hb hb0 HS HD;go_wp2_with fail
      generalize w1.alloc (.cells #[.int .i64 (n:Int),.int .i64 (m:Int),.int .i64 (s:Int)] 72)=w2 at *;generalize w1.heap.size=k1 at *;refine (HW.out _).mono ?_;rintro e w3 ⟨rfl,hb⟩;have HX3:=hid (HX1.out.keep hb);have HB3:=hid (HB1.out.trans (hb.mono HB1.out.size));have HG3:=hid (HG1.out.keep hb);have HL:=hid (HLN.out _ HB3.out);clear hb HX1 HB1 HG1 HW;go_wp2_with fail
      refine HL.out.mono ?_;rintro e w' ⟨rfl,rfl⟩;have hc0:=HX3.out.box.c0;have hc1:=HX3.out.box.c1;have hc2:=HX3.out.box.c2;have hf0:=HX3.out.f 0;have hf1:=HX3.out.f 1;have hf2:=HX3.out.f 2;have hg0:=HG3.out.c0;have hg1:=HG3.out.c1;have hg2:=HG3.out.c2;generalize hfin:Geo.fin (n:Int) (m:Int) (s:Int)=F at *;by_cases hFL:F=(A.words.length:Int)
      · have HN:=hid (show ron (rd A) A.words.length=some (n,m,s) by unfold ron;rw[HO.out];simp only;rw[hfin,if_pos hFL])
        rw[hFL];clear hfin hFL;go_wp2
        rw[HN.out];refine bodyPost_ret (v:=.tuple #[gv (some (n,m,s)),.int .i64 (ev (some (n,m,s)))]) ?_ rfl ⟨rfl,?_⟩
        · simp[results,Tryz.results26,go_sem,gv,ev,hc0,hc1,hc2]
        · exact ((HB3.out.setCell (Nat.le_refl _) _).setCell (Nat.le_refl _) _).setCell (Nat.le_refl _) _
      · have HN:=hid (show ron (rd A) A.words.length=none by unfold ron;rw[HO.out];simp only;rw[hfin,if_neg hFL])
        clear hfin;go_wp2
        rw[HN.out];refine bodyPost_ret (v:=.tuple #[gv none,.int .i64 (ev none)]) ?_ rfl ⟨rfl,?_⟩
        · simp[results,Tryz.results26,go_sem,gv,ev,hc0,hc1,hc2]
        · exact ((HB3.out.setCell (Nat.le_refl _) _).setCell (Nat.le_refl _) _).setCell (Nat.le_refl _) _
theorem read_any {B a:Nat} {w0:World} {A:Pm.Abs} (h:Pm.Ses B w0 w a A) (hu:U64 A.words) :
 Calls Tryz.prog 26 #[.pointer (some ⟨a,0,none⟩)] w fun r w'=>r = .returned (.tuple #[gv (ron (rd A) A.words.length),.int .i64 (ev (ron (rd A) A.words.length))])∧Below w.heap.size w w':=
 read_core hu (fun _ hb k hk=>load_any (ses_keep h hb) hu k hk) fun _ hb=>Pm.ses_len (ses_keep h hb)
end
end Sup
end
section
namespace Vol
def Flu (F:Nat→Prop) (A:Pm.Abs):Prop:=∀ k vs m,Pm.pget A.pend k=some (vs,m)→F k∨m+1=vs.length
theorem Flu.mono {F G:Nat→Prop} {A:Pm.Abs} (h:Flu F A) (hs:∀ k,F k→G k):Flu G A:=fun k vs m e=>(h k vs m e).imp (hs k) id
theorem flu_nil {A:Pm.Abs} (h:A.pend=[]) (F:Nat→Prop):Flu F A:=fun k vs m e=>by
 rw[h] at e
 cases e
theorem pget_snoc_ne {k j:Nat} {v:List Int × Nat} (hne:k≠j):∀ l:Pm.Pend,Pm.pget (l++[(k,v)]) j=Pm.pget l j
 | []=>by simp[Pm.pget,hne]
 | p :: r=>by
   simp only[List.cons_append,Pm.pget];rw[pget_snoc_ne hne r]
theorem flu_store {F:Nat→Prop} {A:Pm.Abs} (h:Flu F A) (k:Nat) (x:Int):Flu (fun j=>F j∨j=k) (A.store k x):=fun j vs m e=>by
 by_cases hj:j=k
 · exact .inl (.inr hj)
 · refine (h j vs m ?_).imp .inl id
   rw[← e];unfold Pm.Abs.store;simp only
   cases Pm.pget A.pend k with
   | none=>exact (pget_snoc_ne (fun e=>hj e.symm) _).symm
   | some v=>exact (Pm.pget_pset_ne (fun e=>hj e.symm) _).symm
theorem flu_mark {F:Nat→Prop} {A:Pm.Abs} (ok:A.Ok) (h:Flu F A) (k:Nat):Flu (fun j=>F j∧j≠k) (A.mark k):=fun j vs m e=>by
 unfold Pm.Abs.mark at e;by_cases hj:j=k
 · subst hj
   cases hp:Pm.pget A.pend j with
   | none=>
     rw[hp] at e;simp only at e;rw[hp] at e
     cases e
   | some v=>
     obtain⟨us,n⟩:=v
     rw[hp] at e;simp only at e;rw[Pm.pget_pset hp] at e;injection e with e
     injection e with e1 e2
     subst e1 e2
     have:=(ok.ent _ (Pm.pget_mem hp)).2.1
     simp only at this;exact .inr (by omega)
 · cases hp:Pm.pget A.pend k with
   | none=>
     rw[hp] at e;exact (h j vs m e).imp (fun hf=>⟨hf,hj⟩) id
   | some v=>
     obtain⟨us,n⟩:=v
     rw[hp] at e;simp only at e;rw[Pm.pget_pset_ne (fun e=>hj e.symm)] at e;exact (h j vs m e).imp (fun hf=>⟨hf,hj⟩) id
theorem flu_marks {F:Nat→Prop} {A:Pm.Abs} (ok:A.Ok) (h:Flu F A) (i:Nat):∀ n,Flu (fun j=>F j∧¬ (i≤j∧j < i+n)) (A.marks i n)
 | 0=>h.mono fun k hk=>⟨hk,by omega⟩
 | n+1=>(flu_mark (Pm.marks_ok ok i n) (flu_marks ok h i n) (i+n)).mono fun k hk=>⟨hk.1.1,by have:=hk.1.2;have:=hk.2;omega⟩
theorem flu_flush {F:Nat→Prop} {A:Pm.Abs} (ok:A.Ok) (h:Flu F A) (q:Nat) (hs:A.steps+1 < 100000000000):Flu (fun j=>F j∧j / 8≠q) (A.flush q):=by
 have h1:Flu (fun j=>F j∧j < A.words.length) A:=fun k vs m e=>by
  rcases h k vs m e with hf | hf
  · exact .inl ⟨hf,(ok.ent _ (Pm.pget_mem e)).1⟩
  · exact .inr hf
 exact (flu_marks (Pm.step_ok ok hs) (show Flu _ A.step from h1) (8 * q) (min 8 (A.words.length - 8 * q))).mono fun k hk=>⟨hk.1.1,by have:=hk.1.2;have:=hk.2;omega⟩
theorem settle_get {A:Pm.Abs} (h:Flu (fun _=>False) A) (hk:(A.pend.map (·.1)).Nodup) (k:Nat):(∀ j,Pm.pget (A.settle k).pend j=if j=k then none else Pm.pget A.pend j)∧((A.settle k).pend.map (·.1)).Nodup:=by
 unfold Pm.Abs.settle
 cases hp:Pm.pget A.pend k with
 | none=>
   refine⟨fun j=>?_,hk⟩
   by_cases hj:j=k
   · subst hj;rw[if_pos rfl];exact hp
   · rw[if_neg hj]
 | some v=>
   obtain⟨vs,m⟩:=v
   have hm:m+1=vs.length:=by
    rcases h k vs m hp with hf | hf
    · exact hf.elim
    · exact hf
   simp only[hm,if_true]
   refine⟨fun j=>?_,Pm.pdel_keys hp hk⟩
   by_cases hj:j=k
   · subst hj
     rw[if_pos rfl]
     cases hq:Pm.pget (Pm.pdel A.pend j) j with
     | none=>rfl
     | some u=>exact absurd rfl (Pm.mem_pdel hp hk (Pm.pget_mem hq)).2
   · rw[if_neg hj]
     exact Pm.pget_pdel_ne (fun e=>hj e.symm) _
theorem settles_get:∀ (l:List Nat) {A:Pm.Abs},Flu (fun _=>False) A→(A.pend.map (·.1)).Nodup→∀ j,Pm.pget (A.settles l).pend j=if j∈l then none else Pm.pget A.pend j
 | [],_,_,_,j=>by simp[Pm.Abs.settles]
 | k :: r,A,h,hk,j=>by
   obtain⟨h1,h2⟩:=settle_get h hk k
   have h3:Flu (fun _=>False) (A.settle k):=fun i vs m e=>by
    rw[h1 i] at e
    split at e
    · cases e
    · exact h i vs m e
   rw[Pm.Abs.settles,settles_get r h3 h2 j,h1 j];by_cases hj:j=k
   · simp[hj]
   · simp[hj]
theorem pend_nil {l:Pm.Pend} (h:∀ j,Pm.pget l j=none):l=[]:=by
 cases l with
 | nil=>rfl
 | cons p r=>
   have:=h p.1
   simp[Pm.pget] at this
theorem flu_fence {A:Pm.Abs} (ok:A.Ok) (h:Flu (fun _=>False) A):A.fence.pend=[]:=by
 refine pend_nil fun j=>?_
 show Pm.pget (A.step.settles A.marked).pend j=none
 rw[settles_get A.marked (show Flu _ A.step from h) ok.keys j]
 split
 · rfl
 · rename_i hj
   cases hp:Pm.pget A.step.pend j with
   | none=>rfl
   | some v=>
     obtain⟨vs,m⟩:=v
     have hp:Pm.pget A.pend j=some (vs,m):=hp;have hm:=Pm.pget_mem hp;have h2:=(ok.ent _ hm).2.1;simp only at h2
     rcases h j vs m hp with hf | hf
     · exact hf.elim
     · exact absurd (ok.mk2 _ hm (show 0 < m by omega)) hj
end Vol
end
section
open Lib (hid)
open Go.RowKit Go.MapKept
namespace Vol
def Vd (Q:Nat→Prop) (w:World) (a:Nat) (A:Pm.Abs):Prop:=
 ∃ D,Pm.Rep w a D∧D.abs=A∧A.Ok∧(∀ k,Pm.Foot a D k→¬ Q k)∧∀ k,Q k→k < w.heap.size
abbrev Kq (Q:Nat→Prop) (w w':World):Prop:=Pm.Off (fun k=>¬ Q k) w w'
section
variable {Q Q' : Nat → Prop} {w w' w'' : World} {a : Nat} {A A' : Pm.Abs}
theorem Kq.trans (h:Kq Q w w') (k:Kq Q w' w''):Kq Q w w'':=Pm.Off.trans h k (fun _ _ h=>h)
theorem Kq.sub (h:Kq Q' w w') (hs:∀ k,Q k→Q' k):Kq Q w w':=h.mono (fun b _ hn hq=>hn (hs b hq))
theorem Kq.at (h:Kq Q w w') {k:Nat} (hq:Q k) (hk:k < w.heap.size):w'.heap[k]? = w.heap[k]?:=h.block k hk (fun hn=>hn hq)
theorem kq_below (h:Below w.heap.size w w'):Kq Q w w':=⟨h.os,h.tape,h.output,h.size,fun k hk _=>h.block k hk⟩
theorem Kq.below {B:Nat} (h:Kq Q w w') (hB:B≤w.heap.size) (hq:∀ k,k < B→Q k):Below B w w':=
 ⟨h.os,h.tape,h.output,h.size,fun k hk=>h.block k (by omega) (fun hn=>hn (hq k hk))⟩
theorem Vd.lt (h:Vd Q w a A):∀ k,Q k→k < w.heap.size:=by
 obtain⟨_,_,_,_,_,h⟩:=h;exact h
theorem Vd.ok (h:Vd Q w a A):A.Ok:=by
 obtain⟨_,_,_,h,_⟩:=h;exact h
theorem Vd.keep (h:Vd Q w a A) (hb:Below w.heap.size w w'):Vd Q w' a A:=by
 obtain⟨D,hrep,e,ok,hf,hq⟩:=h
 exact⟨D,hrep.keep (fun k hk=>hb.block k (hrep.foot_lt hk)),e,ok,hf,fun k hk=>Nat.lt_of_lt_of_le (hq k hk) hb.size⟩
theorem Vd.grow (h:Vd Q w a A) (hb:Below w.heap.size w w'):Vd (fun k=>Q k∨(w.heap.size≤k∧k < w'.heap.size)) w' a A:=by
 obtain⟨D,hrep,e,ok,hf,hq⟩:=h
 refine⟨D,hrep.keep (fun k hk=>hb.block k (hrep.foot_lt hk)),e,ok,fun k hk hn=>?_,fun k hk=>?_⟩
 · rcases hn with hn | hn
   · exact hf k hk hn
   · have:=hrep.foot_lt hk;omega
 · rcases hk with hk | hk
   · exact Nat.lt_of_lt_of_le (hq k hk) hb.size
   · exact hk.2
theorem Vd.sub (h:Vd Q w a A) (hs:∀ k,Q' k→Q k):Vd Q' w a A:=by
 obtain⟨D,hrep,e,ok,hf,hq⟩:=h
 exact⟨D,hrep,e,ok,fun k hk hn=>hf k hk (hs k hn),fun k hk=>hq k (hs k hk)⟩
theorem vd_step {D D':Pm.Dev} (hf:∀ k,Pm.Foot a D k→¬ Q k) (hq:∀ k,Q k→k < w.heap.size) (hr:Pm.Res w a D w' D') (ha:D'.abs=A') (hok:A'.Ok):Vd Q w' a A'∧Kq Q w w':=by
 refine⟨⟨D',hr.rep,ha,hok,fun k hk hn=>?_,fun k hk=>Nat.lt_of_lt_of_le (hq k hk) hr.off.size⟩,hr.off.mono (fun b _ hb=>hf b hb)⟩
 rcases hr.foot k hk with h | h
 · exact hf k h hn
 · have:=hq k hn;omega
theorem Vd.ses (h:Vd Q w a A):Pm.Ses 0 w w a A:=by
 obtain⟨D,hrep,e,ok,hf,hq⟩:=h
 exact⟨D,hrep,e,ok,Below.refl _ _,fun _ _=>Nat.zero_le _,Nat.zero_le _⟩
def Upf (F:Nat→Prop) (Q:Nat→Prop) (w:World) (a:Nat) (W:List Nat) (st sn:Nat):Prop:=
 ∃ A:Pm.Abs,Vd Q w a A∧A.armed=false∧A.words=W.map Int.ofNat∧(∀ x∈W,x < 18446744073709551616)∧A.steps=st∧A.stores=sn∧Flu F A
abbrev Up (Q:Nat→Prop) (w:World) (a:Nat) (W:List Nat) (st sn:Nat):Prop:=Upf (fun _=>False) Q w a W st sn
variable {F : Nat → Prop} {W : List Nat} {st sn : Nat}
theorem Upf.lt (h:Upf F Q w a W st sn):∀ k,Q k→k < w.heap.size:=by
 obtain⟨A,h,_⟩:=h;exact h.lt
theorem Upf.u64 (h:Upf F Q w a W st sn):∀ x∈W,x < 18446744073709551616:=by
 obtain⟨A,_,_,_,h,_⟩:=h;exact h
theorem Upf.size (h:Upf F Q w a W st sn):W.length≤4194304:=by
 obtain⟨A,h,_,e,_⟩:=h
 have:=h.ok.size
 rw[e] at this
 simpa using this
theorem Upf.keep (h:Upf F Q w a W st sn) (hb:Below w.heap.size w w'):Upf F Q w' a W st sn:=by
 obtain⟨A,h,r⟩:=h;exact⟨A,h.keep hb,r⟩
theorem Upf.grow (h:Upf F Q w a W st sn) (hb:Below w.heap.size w w'):Upf F (fun k=>Q k∨(w.heap.size≤k∧k < w'.heap.size)) w' a W st sn:=by
 obtain⟨A,h,r⟩:=h;exact⟨A,h.grow hb,r⟩
theorem Upf.sub (h:Upf F Q w a W st sn) (hs:∀ k,Q' k→Q k):Upf F Q' w a W st sn:=by
 obtain⟨A,h,r⟩:=h;exact⟨A,h.sub hs,r⟩
theorem Upf.put (h:Upf F Q w a W st sn) {p:Addr} (hp:Q p.block) (v:Value):Upf F Q (w.setCell p v) a W st sn:=by
 obtain⟨A,⟨D,hrep,e,ok,hf,hq⟩,r⟩:=h
 refine⟨A,⟨D,hrep.keep (fun k hk=>Below.heap_setCell _ _ _ _ (fun e=>hf k hk (by rw[e];exact hp))),e,ok,hf,fun k hk=>?_⟩,r⟩
 have:=hq k hk
 simpa [World.setCell] using this
theorem wds_block {w w':World} {g:Nat} {l:List Nat} (h:Pack.Wds w (some ⟨g,0,none⟩) l) (e:w'.heap[g]? = w.heap[g]?):Pack.Wds w' (some ⟨g,0,none⟩) l:=
 ⟨h.u64,h.len,fun j hj=>by
   obtain⟨b,o,e1,h1,h2⟩:=h.at' j hj
   injection e1 with e1
   injection e1 with e1 e2
   subst e1 e2
   refine⟨g,0,rfl,Pm.lt_of_some (e.trans (Array.getElem?_eq_getElem h1)),(World.cell?_of_block (w:=w) e).trans h2⟩⟩
theorem Upf.mono {G:Nat→Prop} (h:Upf F Q w a W st sn) (hs:∀ k,F k→G k):Upf G Q w a W st sn:=by
 obtain⟨A,h1,h2,h3,h4,h5,h6,h7⟩:=h
 exact⟨A,h1,h2,h3,h4,h5,h6,h7.mono hs⟩
theorem abs_down (h:A.armed=false):A.down=false:=by unfold Pm.Abs.down;rw[h];rfl
theorem up_load (h:Up Q w a W st sn) (k:Nat):Calls Tryz.prog 54 #[.pointer (some ⟨a,0,none⟩),.int .i64 (k:Int)] w fun r w'=>r = .returned (.int .u64 ((W[k]?.getD 0:Nat):Int))∧w=w':=by
 obtain⟨A,hv,hu,hw,_⟩:=h
 refine (Pm.ses_load hv.ses (k:Int)).mono ?_;rintro r w' ⟨rfl,rfl⟩
 refine⟨?_,rfl⟩
 congr 2
 unfold Pm.Abs.has;rw[hw];by_cases hk:k < W.length
 · rw[if_pos (by simp;exact hk)]
   simp[List.getElem?_eq_getElem hk]
 · rw[if_neg (by simp;omega),List.getElem?_eq_none (by omega)]
   rfl
theorem up_store (h:Upf F Q w a W st sn) (k x:Nat) (hk:k < W.length) (hx:x < 18446744073709551616) (hs:st+1 < 100000000000) :
 Calls Tryz.prog 130 #[.pointer (some ⟨a,0,none⟩),.int .i64 (k:Int),.int .u64 (x:Int)] w fun r w'=>r = .returned (.bool true)∧Upf (fun j=>F j∨j=k) Q w' a (W.set k x) (st+1) (sn+1)∧Kq Q w w':=by
 obtain⟨A,⟨D,hrep,rfl,hok,hf,hq⟩,hu,hw,h64,h1,h2,hfl⟩:=h
 have hkl:k < D.abs.words.length:=by rw[hw];simpa using hk
 refine (Pm.store_any hrep hok (abs_down hu) k (x:Int) hkl).mono ?_;rintro r w' ⟨rfl,D',hres,ha⟩;have hst:D.abs.steps+1 < 100000000000:=by omega
 obtain⟨g1,g2⟩:=vd_step hf hq hres ha (Pm.store_ok hok hkl (x:Int) hst)
 refine⟨rfl,⟨_,g1,?_,?_,?_,?_,?_,flu_store hfl k (x:Int)⟩,g2⟩
 · exact hu
 · show D.abs.words.set k (x:Int)=_
   rw[hw,List.map_set];rfl
 · intro y hy
   rcases List.mem_or_eq_of_mem_set hy with h | h
   · exact h64 y h
   · rw[h];exact hx
 · show D.abs.steps+1=_
   rw[h1]
 · show D.abs.stores+1=_
   rw[h2]
theorem mark_same (A:Pm.Abs) (k:Nat):(A.mark k).words=A.words∧(A.mark k).armed=A.armed∧(A.mark k).steps=A.steps∧(A.mark k).stores=A.stores:=by
 unfold Pm.Abs.mark
 cases Pm.pget A.pend k with
 | none=>exact⟨rfl,rfl,rfl,rfl⟩
 | some v=>exact⟨rfl,rfl,rfl,rfl⟩
theorem marks_same (A:Pm.Abs) (k:Nat):∀ n,(A.marks k n).words=A.words∧(A.marks k n).armed=A.armed∧(A.marks k n).steps=A.steps∧(A.marks k n).stores=A.stores:=by
 intro n
 induction n with
 | zero=>exact⟨rfl,rfl,rfl,rfl⟩
 | succ n ih=>
   have e:A.marks k (n+1)=(A.marks k n).mark (k+n):=rfl;rw[e]
   obtain⟨h1,h2,h3,h4⟩:=mark_same (A.marks k n) (k+n)
   exact⟨h1.trans ih.1,h2.trans ih.2.1,h3.trans ih.2.2.1,h4.trans ih.2.2.2⟩
theorem up_flush (h:Upf F Q w a W st sn) (k:Nat) (hk:8 * k < W.length) (hs:st+1 < 100000000000) :
 Calls Tryz.prog 132 #[.pointer (some ⟨a,0,none⟩),.int .i64 (k:Int)] w fun r w'=>r = .returned (.bool true)∧Upf (fun j=>F j∧j / 8≠k) Q w' a W (st+1) sn∧Kq Q w w':=by
 obtain⟨A,⟨D,hrep,rfl,hok,hf,hq⟩,hu,hw,h64,h1,h2,hfl⟩:=h
 have hkl:8 * k < D.words.length:=by
  have e:D.words.length=W.length:=by
   have e:D.words=W.map Int.ofNat:=hw;rw[e,List.length_map]
  omega
 have hst:D.abs.steps+1 < 100000000000:=by omega
 refine (Pm.flush_yes hrep hok (abs_down hu) k hkl hst).mono ?_;rintro r w' ⟨rfl,D',hres,ha⟩
 obtain⟨g1,g2⟩:=vd_step hf hq hres ha (Pm.flush_ok hok k hst)
 have hm:=marks_same D.abs.step (8 * k) (min 8 (D.abs.words.length - 8 * k))
 refine⟨rfl,⟨_,g1,?_,?_,h64,?_,?_,flu_flush hok hfl k hst⟩,g2⟩
 · exact hm.2.1.trans hu
 · exact hm.1.trans hw
 · refine hm.2.2.1.trans ?_
   show D.abs.steps+1=_
   rw[h1]
 · exact hm.2.2.2.trans h2
theorem settle_same (A:Pm.Abs) (k:Nat):(A.settle k).words=A.words∧(A.settle k).armed=A.armed∧(A.settle k).steps=A.steps∧(A.settle k).stores=A.stores:=by
 unfold Pm.Abs.settle
 cases Pm.pget A.pend k with
 | none=>exact⟨rfl,rfl,rfl,rfl⟩
 | some v=>
   obtain⟨vs,m⟩:=v
   simp only
   split<;>exact⟨rfl,rfl,rfl,rfl⟩
theorem settles_same:∀ (l:List Nat) (A:Pm.Abs),(A.settles l).words=A.words∧(A.settles l).armed=A.armed∧(A.settles l).steps=A.steps∧(A.settles l).stores=A.stores
 | [],_=>⟨rfl,rfl,rfl,rfl⟩
 | k :: r,A=>by
   obtain⟨h1,h2,h3,h4⟩:=settles_same r (A.settle k)
   obtain⟨g1,g2,g3,g4⟩:=settle_same A k
   exact⟨h1.trans g1,h2.trans g2,h3.trans g3,h4.trans g4⟩
def Ls (Q:Nat→Prop) (w:World) (a:Nat) (W:List Nat) (st sn:Nat):Prop:=
 ∃ A:Pm.Abs,Vd Q w a A∧A.armed=false∧A.words=W.map Int.ofNat∧(∀ x∈W,x < 18446744073709551616)∧A.steps=st∧A.stores=sn∧A.pend=[]
theorem Ls.up (h:Ls Q w a W st sn):Up Q w a W st sn:=by
 obtain⟨A,h1,h2,h3,h4,h5,h6,h7⟩:=h
 exact⟨A,h1,h2,h3,h4,h5,h6,flu_nil h7 _⟩
theorem up_fence (h:Up Q w a W st sn) (hs:st+1 < 100000000000) :
 Calls Tryz.prog 76 #[.pointer (some ⟨a,0,none⟩)] w fun r w'=>r = .returned (.bool true)∧Ls Q w' a W (st+1) sn∧Kq Q w w':=by
 obtain⟨A,⟨D,hrep,rfl,hok,hf,hq⟩,hu,hw,h64,h1,h2,hfl⟩:=h
 have hst:D.abs.steps+1 < 100000000000:=by omega
 refine (Pm.fence_yes hrep hok (abs_down hu) hst).mono ?_;rintro r w' ⟨rfl,D',hres,ha⟩
 obtain⟨g1,g2⟩:=vd_step hf hq hres ha (Pm.fence_ok hok hst)
 have hm:=settles_same D.abs.marked D.abs.step
 refine⟨rfl,⟨_,g1,?_,?_,h64,?_,?_,flu_fence hok hfl⟩,g2⟩
 · exact hm.2.1.trans hu
 · exact hm.1.trans hw
 · refine hm.2.2.1.trans ?_
   show D.abs.steps+1=_
   rw[h1]
 · exact hm.2.2.2.trans h2
theorem up_steps (h:Up Q w a W st sn):Calls Tryz.prog 8 #[.pointer (some ⟨a,0,none⟩)] w fun r w'=>r = .returned (.int .i64 (st:Int))∧w=w':=by
 obtain⟨A,⟨D,hrep,rfl,_⟩,_,_,_,h1,_⟩:=h
 have c0:=hrep.cell 0;simp only[Pm.Dev.cells] at c0;have h1:D.steps=st:=h1;rw[h1] at c0;clear hrep h1;go_enter Tryz.func8,Tryz.ntmps8
 go_wp2
 go_ret
 exact⟨rfl,rfl⟩
theorem up_stores (h:Up Q w a W st sn):Calls Tryz.prog 204 #[.pointer (some ⟨a,0,none⟩)] w fun r w'=>r = .returned (.int .i64 (sn:Int))∧w=w':=by
 obtain⟨A,⟨D,hrep,rfl,_⟩,_,_,_,_,h1,_⟩:=h
 have c0:=hrep.cell 1;simp only[Pm.Dev.cells] at c0;have h1:D.stores=sn:=h1;rw[h1] at c0;clear hrep h1;go_enter Tryz.func204,Tryz.ntmps204
 go_wp2
 go_ret
 exact⟨rfl,rfl⟩
theorem u64s_map (l:List Nat):Pm.u64s (l.map Int.ofNat)=Pack.u64s l:=by
 unfold Pm.u64s Pack.u64s;rw[List.map_map];rfl
def Row (w w':World) (r:Ending) (l:List Nat):Prop:=
 ∃ g c:Nat,r = .returned (.slice (some ⟨g,0,none⟩) l.length c)∧w.heap.size≤g∧Pack.Wds w' (some ⟨g,0,none⟩) l∧Below w.heap.size w w'
theorem off_below {w w':World} (h:Pm.Off (fun _=>False) w w'):Below w.heap.size w w':=⟨h.os,h.tape,h.output,h.size,fun k hk=>h.block k hk id⟩
theorem up_words (h:Up Q w a W st sn) (h0:0 < W.length):Calls Tryz.prog 10 #[.pointer (some ⟨a,0,none⟩)] w fun r w'=>Row w w' r W:=by
 have hsz:=h.size;have h64:=h.u64
 obtain⟨A,⟨D,hrep,rfl,_⟩,_,hw,_⟩:=h
 have hw:D.words=W.map Int.ofNat:=hw;have c4:=hrep.c4
 have hcl:=Pm.clone_any (w:=w) ⟨D.wb,0,none⟩ D.wcap D.words (Pm.lt_of_some hrep.wds) (by rw[hw,List.length_map];omega) (fun j u hu=>by
  have hj:=(List.getElem?_eq_some_iff.1 hu).1;rw[Addr.add_lit,Pm.blk_cell hrep.wds,List.getElem?_toArray,Nat.zero_add,List.getElem?_append_left hj];exact hu)
 have HC:=hid hcl;have HW:=hid hw;clear hcl hrep hw;go_enter Tryz.func10,Tryz.ntmps10
 go_wp2_with fail
 refine HC.out.mono ?_;rintro r w1 ⟨v,rfl,hown,hoff⟩;rw[HW.out,u64s_map,List.length_map] at hown
 obtain⟨g,c,rfl⟩:=Pm.row_form hown h0
 have hb:=Pack.row_base_lt hown (g:=g) rfl;have HO:=hid hown;have HF:=hid hoff;clear hown hoff HC;go_wp2
 go_ret
 exact⟨g,c,rfl,hb,Pack.own_wds HO.out h64 (by omega),off_below HF.out⟩
end
end Vol
end
end Go.Proofs.YtlodpaaanfjkeaaGreatDoor
/- Texts. -/
namespace Go.Proofs
open Go.Shelf
def Tryz.compactA_ren : Go.Shelf.Ren := ⟨fun | 43 => 189 | n => n, fun | 22 => 40 | 23 => 3 | 3 => 3 | 4 => 4 | 0 => 0 | n => n, fun | n => n⟩
theorem Tryz.compactA : Go.Proofs.SlLaysN.n43 Tryz.prog Tryz.compactA_ren := {
  mixed := by kernel_rfl
  f43 := ⟨Tryz.f189.name, by decide, Tryz.func189.trans (congrArg some (by kernel_rfl))⟩
  t0 := Tryz.underlying0
  a0 := Tryz.isAgg0
  z0 := Tryz.sizeOf0
  v0 := Tryz.zeroValue0
  t3 := Tryz.underlying3
  a3 := Tryz.isAgg3
  z3 := Tryz.sizeOf3
  v3 := Tryz.zeroValue3
  t4 := Tryz.underlying4
  a4 := Tryz.isAgg4
  z4 := Tryz.sizeOf4
  v4 := Tryz.zeroValue4
  t22 := Tryz.underlying40
  a22 := Tryz.isAgg40
  z22 := Tryz.sizeOf40
  v22 := Tryz.zeroValue40
  t23 := Tryz.underlying3
  a23 := Tryz.isAgg3
  z23 := Tryz.sizeOf3
  v23 := Tryz.zeroValue3
  i23 := by kernel_rfl }
end Go.Proofs
namespace Go.Proofs.YtlodpaaanfjkeaaGreatDoor
end Go.Proofs.YtlodpaaanfjkeaaGreatDoor
