/- Texts laid together: PatSplit, PatSplitP, PatLives, PatPar, PatParLaw, PatKids, TreMem, PatJoin, PatRefSplit, TreGo, TreFile, TreAdd, TreSet, TreWithout, TrkMath, TrkMem, TrkLay, TrkFollow, TrkAt, TrkFind, TrkPut, TrkAdd, TrkCreate, TrkZeros. -/
import Derived.Test.YtdafimdfbnphaaaGreatDoorKb8
import Derived.Laws.IdiomCopy
import Derived.Lib.LazyBuf
import Derived.Deep.RegionHeld3
import Derived.BigCall
import Derived.Deep.DeepCutAuto
import Derived.Deep.AppendLies
import Derived.Test.YtdafimdfbnphaaaGreatDoorKb1
import Derived.Maps.OwnSet
import Derived.Maps.OwnIn
import Derived.Sort.KeysCollected
import Derived.Shelf.Strconv.Clone
import Derived.Ground.NamesProg
import Derived.Test.YtdafimdfbnphaaaGreatDoorProg
import Derived.WalkSpells
import Derived.Maps.AppendAt
import Derived.Lib.AppendZerosOnto
import Derived.Laws.CopyRow
import Derived.Test.YtdafimdfbnphaaaGreatDoorKa1
import Derived.Test.YtdafimdfbnphaaaGreatDoorKa2
import Derived.Test.YtdafimdfbnphaaaGreatDoorKb2
import Derived.Test.YtdafimdfbnphaaaGreatDoorKb3
import Derived.Test.YtdafimdfbnphaaaGreatDoorKb4
import Derived.Test.YtdafimdfbnphaaaGreatDoorKb5
import Derived.Test.YtdafimdfbnphaaaGreatDoorKb6
import Derived.Test.YtdafimdfbnphaaaGreatDoorKb7
/- Texts. -/
namespace Go.Proofs.YtdafimdfbnphaaaGreatDoor
open Lib (hid)
open Go.RowKit Go.MapKept Go.Shelf
namespace Pat
theorem isNames_no {l:List ByteArray} (h:¬ IsNames l):isNames l=false:=decide_eq_false h
set_option maxHeartbeats 1000000 in
theorem right_any (w:World) (A:Option Addr) (c n:Nat) (l:List ByteArray) (h:Txs w A l) (hn:l.length=n) :
 Calls Tryz.prog 94 #[.slice A n c] w fun e w'=>e = .returned (.bool (isNames l))∧w'=w:=by
 subst hn
 have hl:=h.len
 have H:=hid h
 clear h
 by_cases h64:l.length≤64
 · have hg:¬ (64:Int) < (l.length:Int):=by omega
   go_enter Tryz.func94,Tryz.ntmps94
   go_wp2
   go_loopw [10] (fun i wr=>∃ k:Nat,k≤l.length∧i = .int .i64 (k:Int)∧wr=w∧∀ s∈l.take k,Ent.Right (Crc.tx s)) (fun i _=>l.length - (intOf i).toNat)
   case atStart=>exact⟨0,Nat.zero_le _,rfl,rfl,fun s hs=>by simp at hs⟩
   case round=>
    obtain⟨k,hk,rfl,rfl,hr⟩:=hrel
    have HR:=hid hr
    clear hr
    by_cases hlt:k < l.length
    · obtain⟨b,o,rfl,_,hc0⟩:=H.out.at' k hlt
      have hs:=H.out.size _ (List.getElem_mem hlt)
      have HT:=hid (show l.take (k+1)=l.take k++[l[k]] from List.take_succ_eq_append_getElem hlt)
      have HM:=hid (List.getElem_mem hlt)
      generalize l[k]=s at *
      by_cases hr:Ent.Right (Crc.tx s)
      · have hrb:Ent.right (Crc.tx s)=true:=Ent.right_iff.2 hr
        have HX:=hid hr
        clear hr
        go_wp2_with fail
        refine (Ent.right_any _ s hs).mono ?_
        rintro e w' ⟨rfl,rfl⟩
        rw[hrb]
        go_wp2
        refine⟨⟨k+1,by omega,by go_num,by first | rfl | trivial,?_⟩,by simp[intOf];omega⟩
        rw[HT.out]
        intro x hx
        rcases List.mem_append.1 hx with h1 | h1
        · exact HR.out x h1
        · obtain rfl:x=s:=by simpa using h1
          exact HX.out
      · have hrb:Ent.right (Crc.tx s)=false:=Ent.right_no hr
        have HX:=hid (isNames_no (l:=l) (fun h=>hr (h.2 _ HM.out)))
        clear hr
        go_wp2_with fail
        refine (Ent.right_any _ s hs).mono ?_
        rintro e w' ⟨rfl,rfl⟩
        rw[hrb]
        go_wp2
        go_ret
        exact⟨by rw[HX.out];rfl,rfl⟩
    · obtain rfl:k=l.length:=by omega
      rw[List.take_length] at HR
      have HX:=hid (show isNames l=true from decide_eq_true ⟨h64,HR.out⟩)
      go_wp2
      go_ret
      exact⟨by rw[HX.out];rfl,rfl⟩
 · have hg:(64:Int) < (l.length:Int):=by omega
   have HX:=hid (isNames_no (l:=l) (fun h=>h64 h.1))
   go_enter Tryz.func94,Tryz.ntmps94
   go_wp2
   go_ret
   exact⟨by rw[HX.out];rfl,rfl⟩
theorem index_one (w:World) (x:ByteArray) (c:Array Value) (t:TypeId):Calls Tryz.prog 196 #[.string x,.string ⟨#[47]⟩] (w.alloc (.cells c t)) fun e w'=>e = .returned (.int .i64 (Lib.indexB x ⟨#[47]⟩))∧w'=w.alloc (.cells c t):=
 (Any.strings_Index_one { Tryz.splitA with } x 47 (w.alloc (.cells c t))).mono fun e w' ⟨he,hw⟩=>⟨by
   rw[he]
   show _=Ending.returned (Value.int .i64 (Lib.index x.data.toList [47]))
   rw[Lib.index_one],hw⟩
theorem count_one (w:World) (s:ByteArray):Calls Tryz.prog 195 #[.string s,.string ⟨#[47]⟩] w fun e w'=>e = .returned (.int .i64 (Lib.countB s ⟨#[47]⟩))∧w'=w:=
 (Any.strings_Count_one { Tryz.splitA with } s 47 w).mono fun e w' ⟨he,hw⟩=>⟨by
   rw[he]
   show _=Ending.returned (Value.int .i64 ((Lib.count s.data.toList [47]:Nat):Int))
   rw[Lib.count_one]
   rfl,hw⟩
theorem pieces_few {s:ByteArray} (h:(cut s.data.toList).length≤64):Lib.splitB ⟨#[47]⟩ 0 (min 65 (s.size+1) - 1) s=(cut s.data.toList).map mk:=by
 have h1:=Lib.splitB_data ⟨#[47]⟩ 0 (min 65 (s.size+1) - 1) s
 have hl:=cut_len s.data.toList
 rw[← Lib.size_eq] at hl
 have h2:Lib.splitK [47] 0 (min 65 (s.size+1) - 1) s.data.toList=cut s.data.toList:=splitK_few _ _ (by omega)
 have h3:=congrArg (List.map mk) (h1.trans h2)
 rw[map_mk] at h3
 exact h3
theorem pieces_many {s:ByteArray} (h:¬ (cut s.data.toList).length≤64):(Lib.splitB ⟨#[47]⟩ 0 (min 65 (s.size+1) - 1) s).length=65:=by
 have h1:=congrArg List.length (Lib.splitB_data ⟨#[47]⟩ 0 (min 65 (s.size+1) - 1) s)
 have hl:=cut_len s.data.toList
 rw[← Lib.size_eq] at hl
 have hk:min 65 (s.size+1) - 1=64:=by omega
 rw[hk] at h1 ⊢
 rw[List.length_map] at h1
 rw[h1]
 exact splitK_many 64 s.data.toList (by omega)
theorem piece_size (k:Nat):∀ (s:ByteArray),∀ x∈Lib.splitB ⟨#[47]⟩ 0 k s,x.size≤s.size:=by
 induction k with
 | zero=>
   intro s x hx
   rw[Lib.splitB_zero] at hx
   obtain rfl:x=s:=by simpa using hx
   exact Nat.le_refl _
 | succ k ih=>
   intro s x hx
   rcases Lib.indexB_cases s ⟨#[47]⟩ with hix | ⟨i,hix,hroom⟩
   · rw[Lib.splitB_miss _ _ _ _ hix] at hx
     obtain rfl:x=s:=by simpa using hx
     exact Nat.le_refl _
   · rw[Lib.splitB_hit _ _ _ _ i hix] at hx
     rcases List.mem_cons.1 hx with rfl | hx
     · rw[ByteArray.size_extract];omega
     · have:=ih _ x hx
       rw[ByteArray.size_extract] at this
       omega
theorem cells_txs (w:World) (l:List ByteArray) (N:Nat) (t:TypeId) (hs:∀ s∈l,s.size≤9223372036854775807) (hl:l.length≤9223372036854775807):Txs (w.alloc (.cells (Lib.cellsOf l N) t)) (some ⟨w.heap.size,0,none⟩) l:=
 ⟨hs,hl,fun j hj=>⟨w.heap.size,0,rfl,by simp,by
   rw[Nat.zero_add,World.cell?_alloc_mark]
   unfold Lib.cellsOf
   rw[List.getElem?_toArray,List.getElem?_append_left (by simpa using hj),List.getElem?_map,List.getElem?_eq_getElem hj]
   rfl⟩⟩
def GotN (w:World) (l:List ByteArray) (c:Nat) (e:Ending) (w':World):Prop:=
 ∃ A,e = .returned (.slice A l.length c)∧l.length≤c∧Txs w' A l∧Below w.heap.size w w'
set_option maxRecDepth 100000 in
set_option maxHeartbeats 1000000 in
theorem splitN_any (w:World) (s:ByteArray) (hs:s.size < 4294967281) :
 Calls Tryz.prog 93 #[.string s,.string ⟨#[47]⟩,.int .i64 65] w (GotN w (Lib.splitB ⟨#[47]⟩ 0 (min 65 (s.size+1) - 1) s) (min 65 (s.size+1))):=by
 have c:=Any.strings_genSplit_core { Tryz.splitA with } str_info s ⟨#[47]⟩ 0 65 (min 65 (s.size+1)) w hs (by decide) (Nat.zero_le _) (fun x c _=>index_one w x c 9) (count_one w s) (by decide) (by decide) (by rw[if_neg (by decide)];omega)
 have hle:=Lib.splitB_length_le ⟨#[47]⟩ 0 (min 65 (s.size+1) - 1) s
 have hps:=piece_size (min 65 (s.size+1) - 1) s
 have HT:=hid (cells_txs w (Lib.splitB ⟨#[47]⟩ 0 (min 65 (s.size+1) - 1) s) (min 65 (s.size+1)) 9 (fun x hx=>by have:=hps x hx;omega) (by omega))
 have HC:=hid (show Calls Tryz.prog 148 #[.string s,.string ⟨#[47]⟩,.int .i64 0,.int .i64 65] w _ from c)
 have HL:=hid (show (Lib.splitB ⟨#[47]⟩ 0 (min 65 (s.size+1) - 1) s).length≤min 65 (s.size+1) by omega)
 have HB:=hid ((Below.refl w.heap.size w).alloc (Nat.le_refl _) (.cells (Lib.cellsOf (Lib.splitB ⟨#[47]⟩ 0 (min 65 (s.size+1) - 1) s) (min 65 (s.size+1))) 9))
 clear c hle hps
 go_enter Tryz.func93,Tryz.ntmps93
 go_wp2_with fail
 refine HC.out.mono ?_
 rintro e w1 ⟨rfl,hw⟩
 have HX:=hid (show GotN w (Lib.splitB ⟨#[47]⟩ 0 (min 65 (s.size+1) - 1) s) (min 65 (s.size+1)) (.returned (.slice (some ⟨w.heap.size,0,none⟩) (Lib.splitB ⟨#[47]⟩ 0 (min 65 (s.size+1) - 1) s).length (min 65 (s.size+1)))) w1 by
  rw[hw]
  exact⟨_,rfl,HL.out,HT.out,HB.out⟩)
 clear hw HC HT HL HB
 go_wp2
 go_ret
 exact HX.out
def SplR (w:World) (s:ByteArray) (e:Ending) (w':World):Prop:=
 Below w.heap.size w w'∧((∃ l A c,spl s=some l∧e = .returned (.tuple #[.slice A l.length c,.int .i64 0])∧l.length≤c∧Txs w' A l)∨(spl s=none∧e = .returned (.tuple #[.slice none 0 0,.int .i64 3])))
theorem spl_root {s:ByteArray} (h:s.toList=[47]):spl s=some []:=by
 have:s.data.toList=[47]:=by rw[← Lib.toList_data];exact h
 unfold spl
 rw[this]
 rfl
theorem data_cons {s:ByteArray} (h0:0 < s.size):s.data.toList=s[0] :: (s.extract 1 s.size).data.toList:=by
 rw[Lib.extract_to_end]
 have h1:=Lib.data_getElem? s 0 h0
 cases e:s.data.toList with
 | nil=>rw[e] at h1;simp at h1
 | cons b l=>
   rw[e] at h1
   simp at h1
   rw[h1]
   rfl
theorem spl_cons {s:ByteArray} (h0:0 < s.size) (hb:s[0]=47) (h1:s.toList≠[47]):spl s=if IsNames ((cut (s.extract 1 s.size).data.toList).map mk) then some ((cut (s.extract 1 s.size).data.toList).map mk) else none:=by
 have e:=data_cons h0
 rw[hb] at e
 have hr:(s.extract 1 s.size).data.toList≠[]:=fun h=>h1 (by rw[Lib.toList_data,e,h])
 unfold spl
 rw[e]
 simp only[if_true]
 rw[if_neg hr]
theorem spl_other {s:ByteArray} (h:∀ h0:0 < s.size,s[0]≠47):spl s=none:=by
 by_cases h0:0 < s.size
 · have e:=data_cons h0
   unfold spl
   rw[e]
   simp only
   rw[if_neg (h h0)]
 · have:s.data.toList=[]:=List.length_eq_zero_iff.1 (by rw[← Lib.size_eq];omega)
   unfold spl
   rw[this]
theorem head_text {s:ByteArray} (h0:0 < s.size):(s.extract 0 1).toList=[s[0]]:=by
 rw[Lib.toList_data,Lib.extract_from_zero,data_cons h0]
 rfl
end Pat
end Go.Proofs.YtdafimdfbnphaaaGreatDoor
/- Texts. -/
namespace Go.Proofs.YtdafimdfbnphaaaGreatDoor
open Lib (hid)
open Go.RowKit Go.MapKept Go.Shelf
namespace Pat
set_option maxHeartbeats 1000000 in
theorem cutPrefix_yes (w:World) (s:ByteArray) (hs:s.size≤9223372036854775807) (h0:0 < s.size) (hb:s[0]=47) :
 Calls Tryz.prog 92 #[.string s,.string ⟨#[47]⟩] w fun e w'=>e = .returned (.tuple #[.string (s.extract 1 s.size),.bool true])∧w'=w:=by
 have h1:=head_text h0
 rw[hb] at h1
 have h2:((s.extract 0 1).toList == [47])=true:=by rw[h1];rfl
 have h3:(1:Int)≤(s.size:Int):=by omega
 clear hb
 go_enter Tryz.func92,Tryz.ntmps92
 go_wp2
 refine bodyPost_ret (v:=.tuple #[.string (s.extract 1 s.size),.bool true]) ?_ rfl ⟨rfl,rfl⟩
 simp[results,Tryz.results92,go_sem]
set_option maxHeartbeats 1000000 in
theorem cutPrefix_no (w:World) (s:ByteArray) (hs:s.size≤9223372036854775807) (h:∀ h0:0 < s.size,s[0]≠47) :
 Calls Tryz.prog 92 #[.string s,.string ⟨#[47]⟩] w fun e w'=>e = .returned (.tuple #[.string s,.bool false])∧w'=w:=by
 by_cases h0:0 < s.size
 · have h1:=head_text h0
   have hb:=h h0
   have h2:((s.extract 0 1).toList == [47])=false:=by rw[h1];simpa using hb
   have h4:¬ (s.extract 0 1).toList=[47]:=by rw[h1];simpa using hb
   have h3:(1:Int)≤(s.size:Int):=by omega
   clear h hb h1
   go_enter Tryz.func92,Tryz.ntmps92
   go_wp2
   refine bodyPost_ret (v:=.tuple #[.string s,.bool false]) ?_ rfl ⟨rfl,rfl⟩
   simp[results,Tryz.results92,go_sem]
 · have h3:¬ (1:Int)≤(s.size:Int):=by omega
   clear h
   go_enter Tryz.func92,Tryz.ntmps92
   go_wp2
   refine bodyPost_ret (v:=.tuple #[.string s,.bool false]) ?_ rfl ⟨rfl,rfl⟩
   simp[results,Tryz.results92,go_sem]
set_option maxRecDepth 100000 in
set_option maxHeartbeats 1000000 in
theorem split_any (w:World) (s:ByteArray) (hs:s.size < 4294967281) :
 Calls Tryz.prog 44 #[.string s] w (SplR w s):=by
 have hs2:s.size≤9223372036854775807:=by omega
 have hsz:(s.extract 1 s.size).size < 4294967281:=by rw[ByteArray.size_extract];omega
 by_cases hr:s.toList=[47]
 · have HX:=hid (show SplR w s (.returned (.tuple #[.slice none 0 0,.int .i64 0])) w from ⟨Below.refl _ _,.inl ⟨[],none,0,spl_root hr,rfl,Nat.le_refl _,txs_nil _ _⟩⟩)
   go_enter Tryz.func44,Tryz.ntmps44
   go_wp2
   refine bodyPost_ret (v:=.tuple #[.slice none 0 0,.int .i64 0]) ?_ rfl HX.out
   simp[results,Tryz.results44,go_sem]
 · have hr1:(s.toList == [47])=false:=by simpa using hr
   by_cases hh:∀ h0:0 < s.size,s[0]≠47
   · have HX:=hid (show SplR w s (.returned (.tuple #[.slice none 0 0,.int .i64 3])) w from ⟨Below.refl _ _,.inr ⟨spl_other hh,rfl⟩⟩)
     have HC:=hid (cutPrefix_no w s hs2 hh)
     clear hh
     go_enter Tryz.func44,Tryz.ntmps44
     go_wp2_with fail
     refine HC.out.mono ?_
     rintro e w1 ⟨rfl,rfl⟩
     go_wp2
     refine bodyPost_ret (v:=.tuple #[.slice none 0 0,.int .i64 3]) ?_ rfl HX.out
     simp[results,Tryz.results44,go_sem]
   · obtain⟨h0,hb⟩:∃ h0:0 < s.size,s[0]=47:=by
      by_cases h0:0 < s.size
      · refine⟨h0,?_⟩
        by_cases hb:s[0]=47
        · exact hb
        · exact absurd (fun _=>hb) hh
      · exact absurd (fun h=>absurd h h0) hh
     have hsp:=spl_cons h0 hb hr
     have HC:=hid (cutPrefix_yes w s hs2 h0 hb)
     have HN:=hid (splitN_any w (s.extract 1 s.size) hsz)
     clear hh hb
     generalize s.extract 1 s.size=r at *
     by_cases hn:IsNames (Lib.splitB ⟨#[47]⟩ 0 (min 65 (r.size+1) - 1) r)
     · have hnb:isNames (Lib.splitB ⟨#[47]⟩ 0 (min 65 (r.size+1) - 1) r)=true:=decide_eq_true hn
       have hfew:(cut r.data.toList).length≤64:=by
        by_cases h:(cut r.data.toList).length≤64
        · exact h
        · have h1:=pieces_many h
          have:=hn.1
          omega
       have hpc:=pieces_few hfew
       have hsp2:spl s=some (Lib.splitB ⟨#[47]⟩ 0 (min 65 (r.size+1) - 1) r):=by
        rw[hsp,← hpc,if_pos hn]
       have HS:=hid hsp2
       clear hsp hfew hpc hn hsp2
       generalize Lib.splitB ⟨#[47]⟩ 0 (min 65 (r.size+1) - 1) r=l at *
       go_enter Tryz.func44,Tryz.ntmps44
       go_wp2_with fail
       refine HC.out.mono ?_
       rintro e w1 ⟨rfl,rfl⟩
       go_wp2_with fail
       refine HN.out.mono ?_
       rintro e w2 ⟨A,rfl,hc,ht,hb⟩
       have HT:=hid ht
       have HX:=hid (show SplR w1 s (.returned (.tuple #[.slice A l.length (min 65 (r.size+1)),.int .i64 0])) w2 from ⟨hb,.inl ⟨l,A,_,HS.out,rfl,hc,ht⟩⟩)
       clear hc ht hb
       generalize min 65 (r.size+1)=c at *
       go_wp2_with fail
       refine (right_any w2 A c l.length l HT.out rfl).mono ?_
       rintro e w3 ⟨rfl,rfl⟩
       rw[hnb]
       go_wp2
       refine bodyPost_ret (v:=.tuple #[.slice A l.length c,.int .i64 0]) ?_ rfl HX.out
       simp[results,Tryz.results44,go_sem]
     · have hnb:isNames (Lib.splitB ⟨#[47]⟩ 0 (min 65 (r.size+1) - 1) r)=false:=decide_eq_false hn
       have hsp2:spl s=none:=by
        rw[hsp]
        refine if_neg (fun h=>hn ?_)
        have hfew:(cut r.data.toList).length≤64:=by
         have:=h.1
         rw[List.length_map] at this
         exact this
        rw[pieces_few hfew]
        exact h
       have HS:=hid hsp2
       clear hsp hn hsp2
       generalize Lib.splitB ⟨#[47]⟩ 0 (min 65 (r.size+1) - 1) r=l at *
       go_enter Tryz.func44,Tryz.ntmps44
       go_wp2_with fail
       refine HC.out.mono ?_
       rintro e w1 ⟨rfl,rfl⟩
       go_wp2_with fail
       refine HN.out.mono ?_
       rintro e w2 ⟨A,rfl,hc,ht,hb⟩
       have HT:=hid ht
       have HX:=hid (show SplR w1 s (.returned (.tuple #[.slice none 0 0,.int .i64 3])) w2 from ⟨hb,.inr ⟨HS.out,rfl⟩⟩)
       clear hc ht hb
       generalize min 65 (r.size+1)=c at *
       go_wp2_with fail
       refine (right_any w2 A c l.length l HT.out rfl).mono ?_
       rintro e w3 ⟨rfl,rfl⟩
       rw[hnb]
       go_wp2
       refine bodyPost_ret (v:=.tuple #[.slice none 0 0,.int .i64 3]) ?_ rfl HX.out
       simp[results,Tryz.results44,go_sem]
end Pat
end Go.Proofs.YtdafimdfbnphaaaGreatDoor
/- Texts. -/
namespace Go.Proofs.YtdafimdfbnphaaaGreatDoor
open Lib (hid)
open Go.RowKit Go.MapKept Go.Shelf
namespace Pat
theorem ex_yes:spl ⟨#[47,97,47,98]⟩=some [⟨#[97]⟩,⟨#[98]⟩]:=by decide +kernel
theorem ex_no:spl ⟨#[47,97,47]⟩=none:=by decide +kernel
theorem split_yes (w:World):Calls Tryz.prog 44 #[.string ⟨#[47,97,47,98]⟩] w fun e w'=>∃ A c,e = .returned (.tuple #[.slice A 2 c,.int .i64 0])∧Txs w' A [⟨#[97]⟩,⟨#[98]⟩]∧Below w.heap.size w w':=
 (split_any w _ (by decide)).mono fun e w' ⟨hb,h⟩=>by
   rcases h with ⟨l,A,c,hs,he,_,ht⟩ | ⟨hs,_⟩
   · rw[ex_yes] at hs
     injection hs with hs
     subst hs
     exact⟨A,c,he,ht,hb⟩
   · rw[ex_yes] at hs
     cases hs
theorem split_no (w:World):Calls Tryz.prog 44 #[.string ⟨#[47,97,47]⟩] w fun e w'=>e = .returned (.tuple #[.slice none 0 0,.int .i64 3])∧Below w.heap.size w w':=
 (split_any w _ (by decide)).mono fun e w' ⟨hb,h⟩=>by
   rcases h with ⟨l,A,c,hs,_⟩ | ⟨_,he⟩
   · rw[ex_no] at hs
     cases hs
   · exact⟨he,hb⟩
set_option maxRecDepth 100000 in
set_option maxHeartbeats 1000000 in
theorem lives_any (w:World):Calls Tryz.prog 16 #[] w fun e w'=>e = .returned (.bool true)∧Below w.heap.size w w':=by
 have H1:=hid split_yes
 have H2:=hid split_no
 have H3:=hid Ent.lives_any
 go_enter Tryz.func16,Tryz.ntmps16
 go_wp2_with fail
 refine (H1.out _).mono ?_
 rintro e w1 ⟨A,c,rfl,ht,hb⟩
 have HT:=hid ht
 have HB:=hid hb
 clear ht hb
 go_wp2_with fail
 refine (H2.out _).mono ?_
 rintro e w2 ⟨rfl,hb2⟩
 have HT2:=hid (HT.out.keep hb2)
 have HB2:=hid (HB.out.trans (hb2.mono HB.out.size))
 clear hb2
 go_wp2_with fail
 refine (H3.out _).mono ?_
 rintro e w3 ⟨rfl,hb3⟩
 have hb3':=HB2.out.trans (hb3.mono HB2.out.size)
 have HB3:=hid hb3'
 obtain⟨b,o,rfl,_,hc0⟩:=(HT2.out.keep hb3).at' 0 (by decide)
 obtain⟨b',o',e,_,hc1⟩:=(HT2.out.keep hb3).at' 1 (by decide)
 injection e with e
 injection e with e1 e2
 subst e1 e2
 simp only[List.getElem_cons_zero,List.getElem_cons_succ,Nat.add_zero] at hc0 hc1
 clear hb3 hb3'
 go_wp2
 go_ret
 exact⟨rfl,HB3.out⟩
end Pat
end Go.Proofs.YtdafimdfbnphaaaGreatDoor
/- Texts. -/
namespace Go.Proofs.YtdafimdfbnphaaaGreatDoor
open Lib (hid)
open Go.RowKit Go.MapKept Go.Lib
namespace Pat
def Own (w:World) (g:Nat) (l:List ByteArray):Prop:=w.rowIs g 9 l.length (fun i=>.string (l.getD i ByteArray.empty))
theorem Own.txs {w:World} {g:Nat} {l:List ByteArray} (h:Own w g l) (hs:∀ s∈l,s.size≤9223372036854775807) (hl:l.length≤9223372036854775807):Txs w (some ⟨g,0,none⟩) l:=
 ⟨hs,hl,fun j hj=>⟨g,0,rfl,World.rowIs.lt h,by
   rw[Nat.zero_add,World.rowIs.cell h hj,List.getD_eq_getElem?_getD,List.getElem?_eq_getElem hj,Option.getD_some]⟩⟩
theorem Own.keep {w w':World} {g N:Nat} {l:List ByteArray} (h:Own w g l) (hb:Below N w w') (hg:g < N):Own w' g l:=World.rowIs.of_block h (hb.block g hg)
theorem kid_at {m:List ByteArray} {s:ByteArray}:(m++[s])[m.length]'(by simp)=s:=by simp
set_option maxRecDepth 100000 in
set_option maxHeartbeats 1000000 in
theorem parent_yes (w:World) (A:Option Addr) (c n k:Nat) (m:List ByteArray) (s:ByteArray) (h:Txs w A (m++[s])) (hk:m.length=k) (hn:n=k+1) (hm:k≤1000000) :
 Calls Tryz.prog 95 #[.slice A n c] w fun e w'=>∃ g,e = .returned (.tuple #[.slice (some ⟨g,0,none⟩) k k,.string s,.bool true])∧w.heap.size≤g∧Own w' g m∧Below w.heap.size w w':=by
 subst hk
 have hmk:=run_make_row' (P:=Tryz.prog) 23 9 _ 16 Tryz.underlying23 str_info rfl .i64 .i64 m.length (by omega) (by omega) w
 have hr1:=World.rowIs_made w (.string ByteArray.empty) m.length 9
 have hb1:=(Below.refl w.heap.size w).alloc (Nat.le_refl _) (.cells (madeCells #[.string ByteArray.empty] m.length) 9)
 obtain⟨b,o,hA,hlt,hc⟩:=h.at' m.length (by simp)
 rw[kid_at] at hc
 subst hA
 have hcp:=run_copy_cells (P:=Tryz.prog) (w.alloc (.cells (madeCells #[.string ByteArray.empty] m.length) 9)) 23 23 3 9 w.heap.size 0 m.length m.length ⟨b,o,none⟩ n c (strs m)
  Tryz.underlying23 (by kernel_rfl) (by rw[hn];simp[strs])
  (fun j v hj=>by
    have hjl:j < m.length:=by
     have:=(List.getElem?_eq_some_iff.1 hj).1
     simpa [strs] using this
    obtain⟨b',o',e,hlt',hc'⟩:=(h.alloc (.cells (madeCells #[.string ByteArray.empty] m.length) 9)).at' j (by simp;omega)
    injection e with e
    injection e with e1 e2
    subst e1 e2
    rw[Go.WideShapes.add_plain,hc',← hj]
    simp[strs,List.getElem_append_left hjl,List.getElem?_eq_getElem hjl])
  (fun j hj=>by
    have hjl:j < m.length:=by simpa [strs] using hj
    rw[Nat.zero_add,hr1.cell hjl];rfl)
  (fun j hj=>hr1.frozen _) (strs_one m)
 have hr2:Own ((w.alloc (.cells (madeCells #[.string ByteArray.empty] m.length) 9)).setCells w.heap.size 0 (strs m)) w.heap.size m:=
  (rowIs_setCells (strs m) 0 (w.alloc (.cells (madeCells #[.string ByteArray.empty] m.length) 9)) _ hr1).congr (fun j hj=>by
    rw[if_pos ⟨Nat.zero_le _,by simpa [strs] using hj⟩]
    simp[strs,List.getElem?_eq_getElem hj])
 have hb2:=below_setCells (b:=w.heap.size) (Nat.le_refl _) (strs m) 0 _ hb1
 have hcw:=(hb2.cell (p:=⟨b,o+m.length,none⟩) hlt).trans hc
 have hlen:(strs m).length=m.length:=by simp[strs]
 rw[hlen] at hcp
 have HO:=hid hr2
 have HB:=hid hb2
 have hsub:(n:Int) - 1=(m.length:Int):=by omega
 have hn0:((n:Int) == 0)=false:=beq_eq_false_iff_ne.2 (by omega)
 have hn1:¬ (n:Int)=0:=by omega
 have hi0:(0:Int)≤(m.length:Int):=by omega
 have hi1:(m.length:Int) < (n:Int):=by omega
 clear h hr1 hr2 hb1 hb2 hn hlen hc
 generalize w.heap.size=g at *
 generalize w.alloc (.cells (madeCells #[.string ByteArray.empty] m.length) 9)=w1 at *
 generalize w1.setCells g 0 (strs m)=w2 at *
 go_enter Tryz.func95,Tryz.ntmps95
 go_wp2
 go_quiet (fail)
 go_wp2
 refine bodyPost_ret (v:=.tuple #[.slice (some ⟨g,0,none⟩) m.length m.length,.string s,.bool true]) ?_ rfl ⟨g,rfl,Nat.le_refl _,HO.out,below_drewN HB.out _⟩
 simp[results,Tryz.results95,go_sem]
set_option maxHeartbeats 1000000 in
theorem parent_no (w:World) (A:Option Addr) (c:Nat) :
 Calls Tryz.prog 95 #[.slice A 0 c] w fun e w'=>e = .returned (.tuple #[.slice none 0 0,.string ByteArray.empty,.bool false])∧w'=w:=by
 go_enter Tryz.func95,Tryz.ntmps95
 go_wp2
 refine bodyPost_ret (v:=.tuple #[.slice none 0 0,.string ByteArray.empty,.bool false]) ?_ rfl ⟨rfl,rfl⟩
 simp[results,Tryz.results95,go_sem]
 rfl
end Pat
end Go.Proofs.YtdafimdfbnphaaaGreatDoor
/- Texts. -/
namespace Go.Proofs.YtdafimdfbnphaaaGreatDoor
open Go.RowKit Go.MapKept Go.Shelf
namespace Pat
theorem Txs.left {w:World} {A:Option Addr} {m r:List ByteArray} (h:Txs w A (m++r)):Txs w A m:=by
 have:=h.take m.length
 rwa [List.take_left] at this
end Pat
end Go.Proofs.YtdafimdfbnphaaaGreatDoor
/- Texts. -/
namespace Go.Proofs.YtdafimdfbnphaaaGreatDoor
open Go.RowKit Go.MapKept Go.Shelf
namespace Pat
theorem wpList_append_run {P:Program} {w w':World} {ops:Array Oper} {rest:List Oper} {o:Oper} {a:Act} {Q:Exit→Act→World→Prop} (hgd:o.guard=none) (s x:Operand) (t:TypeId)
 (ho:o.op = .call { callee:=.builtin .append,args:=#[s,x],argTypes:=#[t,t] }) (v u v':Value) (hs:a.eval s=v) (hx:a.eval x=u) (hr:(Builtin.append_ #[t,t] o.type #[v,u]).run P w = .ok v' w')
 (h:wpList P ops Q rest (a.put o.dst v') w'):wpList P ops Q (o :: rest) a w:=by
 refine wpList_plain hgd fun K hK=>?_
 unfold Oper.wp execOp
 simp only[ho,resolve,invoke,builtin,Sem.run_bind,Sem.run_pure,Result.andThen_ok,List.map_toArray,List.map_cons,List.map_nil,hs,hx,hr]
 exact hK _ _ h
end Pat
end Go.Proofs.YtdafimdfbnphaaaGreatDoor
/- Texts. -/
namespace Go.Proofs.YtdafimdfbnphaaaGreatDoor
open Go.RowKit Go.MapKept
namespace Tre
open Pat (Txs)
abbrev Tg:=Option Addr × Nat × Th
structure Ths (w:World) (A:Option Addr) (l:List Tg):Prop where
 len:l.length≤1000000
 nm:∀ g∈l,Txs w g.1 g.2.2.1∧g.2.2.1.length≤g.2.1
 sz:∀ g∈l,g.2.2.2.2.size≤9223372036854775807
 at':∀ j (h:j < l.length),∃ b o,A=some ⟨b,o,none⟩∧b < w.heap.size∧w.cell? ⟨b,o+j * 3,none⟩=some (.slice l[j].1 l[j].2.2.1.length l[j].2.1)∧w.cell? ⟨b,o+j * 3+1,none⟩=some (.bool l[j].2.2.2.1)∧w.cell? ⟨b,o+j * 3+2,none⟩=some (.string l[j].2.2.2.2)
def Apart (b:Nat) (A:Option Addr) (l:List Tg):Prop:=(∀ a,A=some a→l≠[]→a.block≠b)∧∀ g∈l,∀ a,g.1=some a→g.2.2.1≠[]→a.block≠b
theorem Ths.apart {w:World} {A:Option Addr} {l:List Tg} (h:Ths w A l) {b:Nat} (hb:w.heap.size≤b):Apart b A l:=by
 refine⟨fun a e hl=>?_,fun g hg a e hn=>?_⟩
 · obtain⟨b',o',e',hlt,_⟩:=h.at' 0 (List.length_pos_iff.2 hl)
   rw[e] at e'
   injection e' with e'
   subst e'
   simp only
   omega
 · obtain⟨b',o',e',hlt,_⟩:=(h.nm g hg).1.at' 0 (List.length_pos_iff.2 hn)
   rw[e] at e'
   injection e' with e'
   subst e'
   simp only
   omega
end Tre
end Go.Proofs.YtdafimdfbnphaaaGreatDoor
/- Texts. -/
/- Texts. -/
namespace Go.Proofs.YtdafimdfbnphaaaGreatDoor
open Go.RowKit Go.MapKept Go.Shelf
namespace Pat
def Mid (s:ByteArray) (k:Nat) (m:List ByteArray) (t:ByteArray):Prop:=
 k≤s.size∧cut (s.extract 1 s.size).data.toList=m.map (·.data.toList)++glue t.data.toList (cut (s.data.toList.drop k))
theorem drop_byte {s:ByteArray} {k:Nat} (h:k < s.size):s.data.toList.drop k=s[k] :: s.data.toList.drop (k+1):=by
 have h1:=Lib.data_getElem? s k h
 have h2:k < s.data.toList.length:=by rw[← Lib.size_eq];exact h
 rw[List.drop_eq_getElem_cons h2]
 rw[List.getElem?_eq_getElem h2] at h1
 injection h1 with h1
 rw[h1]
theorem mid_piece {s:ByteArray} {k:Nat} {m:List ByteArray} {t:ByteArray} (h:k=s.size∨∃ h:k < s.size,s[k]=47) (hm:Mid s k m t):∃ r,cut (s.extract 1 s.size).data.toList=m.map (·.data.toList)++t.data.toList :: r:=by
 rw[hm.2]
 rcases h with rfl | ⟨h,hb⟩
 · refine⟨[],?_⟩
   rw[List.drop_eq_nil_of_le (by rw[← Lib.size_eq];exact Nat.le_refl _)]
   simp[cut,glue]
 · refine⟨cut (s.data.toList.drop (k+1)),?_⟩
   rw[drop_byte h,cut,if_pos hb]
   simp[glue]
def St (s:ByteArray) (k:Nat) (m:List ByteArray) (t:ByteArray):Prop:=
 (∀ n∈m,Ent.Right (Crc.tx n))∧m.length≤64∧t.size≤k∧(Mid s k m t∨(k=s.size+1∧cut (s.extract 1 s.size).data.toList=m.map (·.data.toList)))
theorem St.mid {s:ByteArray} {k:Nat} {m:List ByteArray} {t:ByteArray} (h:St s k m t) (hk:k≤s.size):Mid s k m t:=by
 rcases h.2.2.2 with h | ⟨h,_⟩
 · exact h
 · omega
theorem St.none {s:ByteArray} {k:Nat} {m:List ByteArray} {t:ByteArray} (h:St s k m t) (hk:k≤s.size) (hb:k=s.size∨∃ h:k < s.size,s[k]=47) (hr:¬ Ent.Right (Crc.tx t)∨m.length=64):¬ IsNames ((cut (s.extract 1 s.size).data.toList).map mk):=by
 obtain⟨r,e⟩:=mid_piece hb (h.mid hk)
 intro hn
 rw[e] at hn
 rcases hr with hr | hr
 · exact hr (hn.2 t (by simp))
 · have:=hn.1
   simp at this
   omega
theorem St.last {s:ByteArray} {k:Nat} {m:List ByteArray} {t:ByteArray} (h:St s k m t) (hk:s.size < k):(cut (s.extract 1 s.size).data.toList).map mk=m∧IsNames m:=by
 rcases h.2.2.2 with h1 | ⟨_,h1⟩
 · have:=h1.1
   omega
 · exact⟨by rw[h1,map_mk],h.2.1,h.1⟩
end Pat
end Go.Proofs.YtdafimdfbnphaaaGreatDoor
/- Texts. -/
/- Texts. -/
namespace Go.Proofs.YtdafimdfbnphaaaGreatDoor
open Go.RowKit Go.MapKept
namespace Tre
open Pat (Txs)
def fileT (t:List Th) (p:ByteArray):Int × Int:=
 match Pat.spl p with
 | none=>(-1,3)
 | some n=>if goT t n≠0 then (-1,goT t n) else if dirT t n=true then (-1,7) else (fv t n,0)
theorem fileT_none {t:List Th} {p:ByteArray} (h:Pat.spl p=none):fileT t p=(-1,3):=by unfold fileT;rw[h]
theorem fileT_go {t:List Th} {p:ByteArray} {n:Nm} (h:Pat.spl p=some n) (hg:goT t n≠0):fileT t p=(-1,goT t n):=by unfold fileT;rw[h];exact if_pos hg
theorem fileT_dir {t:List Th} {p:ByteArray} {n:Nm} (h:Pat.spl p=some n) (hg:goT t n=0) (hd:dirT t n=true):fileT t p=(-1,7):=by
 unfold fileT
 rw[h]
 exact (if_neg (fun h=>h hg)).trans (if_pos hd)
end Tre
end Go.Proofs.YtdafimdfbnphaaaGreatDoor
/- Texts. -/
namespace Go.Proofs.YtdafimdfbnphaaaGreatDoor
open Go.RowKit Go.MapKept
namespace Tre
open Pat (Txs)
theorem row_base_lt3 {w:World} {B:Nat} {e:TypeId} {n:Nat} {v:Value} {xs:List Value} (h:w.ownsRow B e 3 v n xs) {g:Nat} (hg:v.ownBlock=some g):B≤g:=(World.ownsRow.lt h g hg).1
theorem own_keep3 {w w':World} {B n:Nat} {t:TypeId} {v:Value} {xs:List Value} (h:w.ownsRow B t 3 v n xs) (hb:Below w.heap.size w w'):w'.ownsRow B t 3 v n xs:=by
 have hN:=fun g hg=>(World.ownsRow.lt h g hg).2
 rcases h with ⟨h1,h2⟩
 refine⟨h1,?_⟩
 rcases h2 with h0 | ⟨g,cap,cur,e,hB,hh,hr⟩
 · exact .inl h0
 · exact .inr ⟨g,cap,cur,e,hB,(hb.block g (hN g (by rw[e];rfl))).trans hh,hr⟩
def addT (t:List Th) (p:ByteArray) (d:Bool):List Th × Int:=
 match Pat.spl p with
 | none=>(t,3)
 | some n=>if n=[] then (t,5) else if goT t (n.take (n.length - 1))≠0 then (t,goT t (n.take (n.length - 1))) else if dirT t (n.take (n.length - 1))=false then (t,6) else if (fi t n).isSome then (t,5) else (t++[(n,d,ByteArray.empty)],0)
theorem addT_none {t:List Th} {p:ByteArray} {d:Bool} (h:Pat.spl p=none):addT t p d=(t,3):=by unfold addT;rw[h]
theorem addT_root {t:List Th} {p:ByteArray} {d:Bool} (h:Pat.spl p=some []):addT t p d=(t,5):=by unfold addT;rw[h];rfl
section
variable {t : List Th} {p : ByteArray} {d : Bool} {n : Nm} (h : Pat.spl p = some n) (h0 : n ≠ [])
include h h0
theorem addT_go (hg:goT t (n.take (n.length - 1))≠0):addT t p d=(t,goT t (n.take (n.length - 1))):=by
 unfold addT
 rw[h]
 simp only
 rw[if_neg h0,if_pos hg]
theorem addT_file (hg:goT t (n.take (n.length - 1))=0) (hd:dirT t (n.take (n.length - 1))=false):addT t p d=(t,6):=by
 unfold addT
 rw[h]
 simp only
 rw[if_neg h0,if_neg (fun h=>h hg),if_pos hd]
theorem addT_there {i:Nat} (hg:goT t (n.take (n.length - 1))=0) (hd:dirT t (n.take (n.length - 1))=true) (hf:fi t n=some i):addT t p d=(t,5):=by
 unfold addT
 rw[h]
 simp only
 rw[if_neg h0,if_neg (fun h=>h hg),if_neg (by rw[hd];decide),if_pos (by rw[hf];rfl)]
theorem addT_yes (hg:goT t (n.take (n.length - 1))=0) (hd:dirT t (n.take (n.length - 1))=true) (hf:fi t n=none):addT t p d=(t++[(n,d,ByteArray.empty)],0):=by
 unfold addT
 rw[h]
 simp only
 rw[if_neg h0,if_neg (fun h=>h hg),if_neg (by rw[hd];decide),if_neg (by rw[hf];decide)]
end
structure Bx (w:World) (b0 b1:Nat) (v u:Value):Prop where
 l0:b0 < w.heap.size
 l1:b1 < w.heap.size
 c0:w.cell? ⟨b0,0,none⟩=some v
 c1:w.cell? ⟨b1,0,none⟩=some u
 f1:w.frozen? ⟨b1,0,none⟩=false
theorem Bx.keep {w w':World} {b0 b1:Nat} {v u:Value} (h:Bx w b0 b1 v u) (hb:Below w.heap.size w w'):Bx w' b0 b1 v u:=
 ⟨Nat.lt_of_lt_of_le h.l0 hb.size,Nat.lt_of_lt_of_le h.l1 hb.size,(hb.cell (p:=⟨b0,0,none⟩) h.l0).trans h.c0,(hb.cell (p:=⟨b1,0,none⟩) h.l1).trans h.c1,(hb.frozen (p:=⟨b1,0,none⟩) h.l1).trans h.f1⟩
end Tre
end Go.Proofs.YtdafimdfbnphaaaGreatDoor
/- Texts. -/
namespace Go.Proofs.YtdafimdfbnphaaaGreatDoor
open Go.RowKit Go.MapKept
namespace Tre
open Pat (Txs)
def setT:List Th→Nat→ByteArray→List Th
 | [],_,_=>[]
 | x :: t,0,s=>(x.1,x.2.1,s) :: t
 | x :: t,i+1,s=>x :: setT t i s
def zt (n:Nat):ByteArray:=Crc.str (List.replicate n 0)
theorem zt_size (n:Nat):(zt n).size=n:=by
 rw[Lib.size_eq]
 unfold zt Crc.str
 simp
end Tre
end Go.Proofs.YtdafimdfbnphaaaGreatDoor
/- Texts. -/
namespace Go.Proofs.YtdafimdfbnphaaaGreatDoor
open Go.RowKit Go.MapKept
namespace Tre
open Pat (Txs)
def dropT (t:List Th) (i:Nat):List Th:=t.take i++t.drop (i+1)
end Tre
end Go.Proofs.YtdafimdfbnphaaaGreatDoor
/- Texts. -/
namespace Go.Proofs.YtdafimdfbnphaaaGreatDoor
open Go.RowKit Go.MapKept
namespace Trk
open Tre (Nm Th fi isDirAt dirT goT goF setT dropT)
def T (t:List Th) (n:Nm):Option (Bool × ByteArray):=if n=[] then some (true,ByteArray.empty) else (fi t n).bind fun i=>t[i]?.map (·.2)
theorem T_root (t:List Th):T t []=some (true,ByteArray.empty):=if_pos rfl
theorem T_fi {t:List Th} {n:Nm} {i:Nat} (h0:n≠[]) (h:fi t n=some i):∃ h:i < t.length,T t n=some t[i].2:=by
 obtain⟨h1,_,_⟩:=Tre.fi_some h
 refine⟨h1,?_⟩
 unfold T
 rw[if_neg h0,h]
 simp[List.getElem?_eq_getElem h1]
theorem T_none {t:List Th} {n:Nm} (h0:n≠[]) (h:fi t n=none):T t n=none:=by
 unfold T
 rw[if_neg h0,h]
 rfl
theorem T_no {t:List Th} {n:Nm} (h:T t n=none):n≠[]∧fi t n=none:=by
 have h0:n≠[]:=fun e=>by rw[e,T_root] at h;cases h
 refine⟨h0,?_⟩
 cases hf:fi t n with
 | none=>rfl
 | some i=>
   obtain⟨_,h1⟩:=T_fi h0 hf
   rw[h1] at h
   cases h
theorem T_mem {t:List Th} {n:Nm} (h0:n≠[]) {v:Bool × ByteArray} (h:T t n=some v):(n,v)∈t:=by
 cases hf:fi t n with
 | none=>rw[T_none h0 hf] at h;cases h
 | some i=>
   obtain⟨h1,h2⟩:=T_fi h0 hf
   obtain⟨_,h3,_⟩:=Tre.fi_some hf
   rw[h2] at h
   injection h with h
   have:t[i]=(n,v):=by rw[← h,← h3]
   rw[← this]
   exact List.getElem_mem h1
theorem fi_mem {t:List Th} {x:Th} (h:x∈t):∃ i,fi t x.1=some i:=by
 cases hf:fi t x.1 with
 | some i=>exact⟨i,rfl⟩
 | none=>
   unfold Tre.fi at hf
   rw[List.findIdx?_eq_none_iff] at hf
   have:=hf x h
   simp at this
def Once (t:List Th):Prop:=(t.map (·.1)).Nodup
theorem once_at {t:List Th} (h:Once t) {i j:Nat} (hi:i < t.length) (hj:j < t.length) (e:t[i].1=t[j].1):i=j:=by
 have:=List.pairwise_iff_getElem.1 h
 rcases Nat.lt_trichotomy i j with hl | hl | hl
 · exact absurd (show (t.map (·.1))[i]'(by simpa using hi)=(t.map (·.1))[j]'(by simpa using hj) by rw[List.getElem_map,List.getElem_map];exact e) (this i j (by simpa using hi) (by simpa using hj) hl)
 · exact hl
 · exact absurd (show (t.map (·.1))[j]'(by simpa using hj)=(t.map (·.1))[i]'(by simpa using hi) by rw[List.getElem_map,List.getElem_map];exact e.symm) (this j i (by simpa using hj) (by simpa using hi) hl)
theorem mem_T {t:List Th} (h:Once t) {x:Th} (hx:x∈t) (h0:x.1≠[]):T t x.1=some x.2:=by
 obtain⟨i,hi⟩:=fi_mem hx
 obtain⟨h1,h2⟩:=T_fi h0 hi
 obtain⟨_,h3,_⟩:=Tre.fi_some hi
 obtain⟨j,hj,rfl⟩:=List.getElem_of_mem hx
 have:=once_at h h1 hj h3
 subst this
 exact h2
theorem fi_app {t:List Th} {x:Th} (h:fi t x.1=none) (n:Nm):fi (t++[x]) n=if n=x.1 then some t.length else fi t n:=by
 have hx:∀ y∈t,y.1≠x.1:=fun y hy e=>by
  obtain⟨i,hi⟩:=fi_mem hy
  rw[e,h] at hi
  cases hi
 by_cases e:n=x.1
 · subst e
   rw[if_pos rfl]
   refine Tre.fi_at (by simp) (by simp) (fun j hj=>?_)
   rw[List.getElem_append_left hj]
   exact hx _ (List.getElem_mem _)
 · rw[if_neg e]
   cases hf:fi t n with
   | none=>
     refine Tre.fi_none (fun j hj=>?_)
     by_cases hjt:j < t.length
     · rw[List.getElem_append_left hjt]
       intro e'
       obtain⟨i,hi⟩:=fi_mem (List.getElem_mem hjt)
       rw[e',hf] at hi
       cases hi
     · have:j=t.length:=by simp at hj;omega
       subst this
       simpa using fun e':x.1=n=>e e'.symm
   | some i=>
     obtain⟨h1,h2,h3⟩:=Tre.fi_some hf
     refine Tre.fi_at (by simp;omega) (by rw[List.getElem_append_left h1];exact h2) (fun j hj=>?_)
     rw[List.getElem_append_left (by omega)]
     exact h3 j hj
theorem T_app {t:List Th} {x:Th} (h0:x.1≠[]) (h:fi t x.1=none) (n:Nm):T (t++[x]) n=if n=x.1 then some x.2 else T t n:=by
 by_cases e:n=x.1
 · subst e
   rw[if_pos rfl]
   obtain⟨h1,h2⟩:=T_fi (t:=t++[x]) (i:=t.length) h0 (by rw[fi_app h,if_pos rfl])
   rw[h2]
   simp
 · rw[if_neg e]
   unfold T
   by_cases hn:n=[]
   · rw[if_pos hn,if_pos hn]
   · rw[if_neg hn,if_neg hn,fi_app h,if_neg e]
     cases hf:fi t n with
     | none=>rfl
     | some i=>
       obtain⟨h1,_,_⟩:=Tre.fi_some hf
       simp only[Option.bind_some]
       rw[List.getElem?_append_left h1]
theorem setT_at:∀ (t:List Th) (i j:Nat) (s:ByteArray),(setT t i s)[j]? = t[j]?.map fun x=>if j=i then (x.1,x.2.1,s) else x
 | [],i,j,s=>by simp[setT]
 | x :: t,0,0,s=>by simp[setT]
 | x :: t,0,j+1,s=>by simp[setT]
 | x :: t,i+1,0,s=>by simp[setT]
 | x :: t,i+1,j+1,s=>by
   rw[setT,List.getElem?_cons_succ,List.getElem?_cons_succ,setT_at t i j s]
   simp
theorem setT_names (t:List Th) (i:Nat) (s:ByteArray):(setT t i s).map (·.1)=t.map (·.1):=by
 apply List.ext_getElem?
 intro j
 rw[List.getElem?_map,List.getElem?_map,setT_at]
 cases t[j]? with
 | none=>rfl
 | some x=>simp only[Option.map_some];split<;>rfl
theorem fi_set (t:List Th) (i:Nat) (s:ByteArray) (n:Nm):fi (setT t i s) n=fi t n:=by
 have key:∀ u:List Th,fi u n=(u.map (·.1)).findIdx? (fun x=>decide (x=n)):=fun u=>by
  unfold Tre.fi
  rw[List.findIdx?_map]
  rfl
 rw[key,key,setT_names]
theorem T_set {t:List Th} {p:Nm} {i:Nat} (h0:p≠[]) (h:fi t p=some i) {d:Bool} {s:ByteArray} (hv:T t p=some (d,s)) (u:ByteArray) (n:Nm):T (setT t i u) n=if n=p then some (d,u) else T t n:=by
 obtain⟨h1,h2,_⟩:=Tre.fi_some h
 unfold T
 rw[fi_set]
 by_cases e:n=p
 · subst e
   rw[if_pos rfl,if_neg h0,h]
   obtain⟨h3,h4⟩:=T_fi h0 h
   rw[hv] at h4
   injection h4 with h4
   simp only[Option.bind_some]
   rw[setT_at,List.getElem?_eq_getElem h1]
   simp[← h4]
 · rw[if_neg e]
   by_cases hn:n=[]
   · rw[if_pos hn,if_pos hn]
   · rw[if_neg hn,if_neg hn]
     cases hf:fi t n with
     | none=>rfl
     | some j=>
       obtain⟨g1,g2,_⟩:=Tre.fi_some hf
       simp only[Option.bind_some]
       rw[setT_at,List.getElem?_eq_getElem g1]
       have:j≠i:=fun e'=>by
        subst e'
        exact e (g2.symm.trans h2)
       simp[this]
theorem once_drop {t:List Th} (h:Once t) (i:Nat):Once (dropT t i):=by
 unfold Once Tre.dropT at *
 rw[← List.eraseIdx_eq_take_drop_succ]
 exact ((List.eraseIdx_sublist t i).map _).nodup h
theorem mem_drop {t:List Th} (h:Once t) {i:Nat} (hi:i < t.length) (x:Th):x∈dropT t i↔x∈t∧x.1≠t[i].1:=by
 unfold Tre.dropT
 rw[List.mem_append]
 constructor
 · rintro (hx | hx)
   · obtain⟨j,hj,rfl⟩:=List.getElem_of_mem hx
     have hj':j < i:=by simp at hj;omega
     rw[List.getElem_take]
     exact⟨List.getElem_mem _,fun e=>by have:=once_at h (by omega) hi e;omega⟩
   · obtain⟨j,hj,rfl⟩:=List.getElem_of_mem hx
     rw[List.getElem_drop]
     exact⟨List.getElem_mem _,fun e=>by have:=once_at h (by simp at hj;omega) hi e;omega⟩
 · rintro ⟨hx,hne⟩
   obtain⟨j,hj,rfl⟩:=List.getElem_of_mem hx
   have hji:j≠i:=fun e=>by subst e;exact hne rfl
   rcases Nat.lt_or_gt_of_ne hji with hl | hl
   · refine .inl (List.mem_of_getElem? (i:=j) ?_)
     rw[List.getElem?_take,if_pos hl,List.getElem?_eq_getElem hj]
   · refine .inr (List.mem_of_getElem? (i:=j - (i+1)) ?_)
     rw[List.getElem?_drop,show i+1+(j - (i+1))=j by omega,List.getElem?_eq_getElem hj]
theorem T_drop {t:List Th} (h:Once t) {p:Nm} {i:Nat} (h0:p≠[]) (hi:fi t p=some i) (n:Nm):T (dropT t i) n=if n=p then none else T t n:=by
 obtain⟨h1,h2,_⟩:=Tre.fi_some hi
 by_cases e:n=p
 · subst e
   rw[if_pos rfl]
   refine T_none h0 ?_
   cases hf:fi (dropT t i) n with
   | none=>rfl
   | some j=>
     obtain⟨g1,g2,_⟩:=Tre.fi_some hf
     exact absurd (g2.trans h2.symm) ((mem_drop h h1 _).1 (List.getElem_mem g1)).2
 · rw[if_neg e]
   by_cases hn:n=[]
   · subst hn;rw[T_root,T_root]
   cases hv:T t n with
   | some v=>
     have hm:=T_mem hn hv
     exact mem_T (once_drop h i) ((mem_drop h h1 (n,v)).2 ⟨hm,fun e'=>e (e'.trans h2)⟩) hn
   | none=>
     cases hv':T (dropT t i) n with
     | none=>rfl
     | some v=>
       have hm:=((mem_drop h h1 _).1 (T_mem hn hv')).1
       rw[mem_T h hm hn] at hv
       cases hv
end Trk
end Go.Proofs.YtdafimdfbnphaaaGreatDoor
/- Texts. -/
namespace Go.Proofs.YtdafimdfbnphaaaGreatDoor
open Go.RowKit Go.MapKept
namespace Trk
open Tre (Nm Th fi setT dropT)
structure Nd where
 b:Nat
 A:Option Addr
 c:Nat
 m:Option Nat
def own (x:Nd):List Nat:=x.b :: (x.m.toList++(x.A.map (·.block)).toList)
def Rp:Value→Option (DataW Unit × List MemPlace)
 | .pointer none=>some (.nil,[])
 | .pointer (some ⟨b,0,none⟩)=>some (.lit (.int .i64 (b:Int)),[])
 | _=>none
def pd:Option Nat→DataW Unit
 | none=>.nil
 | some b=>.lit (.int .i64 (b:Int))
def pv:Option Nat→Value
 | none=>.pointer none
 | some b=>.pointer (some ⟨b,0,none⟩)
theorem rp_pv (o:Option Nat):Rp (pv o)=some (pd o,[]):=by cases o<;>rfl
theorem rp_inv {v:Value} {o:Option Nat} {ps:List MemPlace} (h:Rp v=some (pd o,ps)):v=pv o:=by
 cases o with
 | none=>
   unfold Rp pd at h
   split at h
   · rfl
   · simp at h
   · simp at h
 | some b=>
   unfold Rp pd at h
   split at h
   · simp at h
   · rename_i b'
     simp at h
     obtain rfl:b'=b:=by omega
     rfl
   · simp at h
structure Ask (w:World) (g N:Nat) (f:ByteArray→Option Nat) (D:DataW Unit):Prop where
 own:w.ownsMap Tryz.prog 9 Rp g N D
 ask:∀ s:ByteArray,s.size≤maxLen→D.atKey (.string s.data.toList) .nil=pd (f s)
 non:∀ s:ByteArray,f s=none→Maps.has D (.string s.data.toList)=false
theorem Ask.block {w w':World} {g N:Nat} {f:ByteArray→Option Nat} {D:DataW Unit} (h:Ask w g N f D) (hb:w'.heap[g]? = w.heap[g]?):Ask w' g N f D:=
 ⟨by obtain⟨es,clock,h1,h2⟩:=h.own;exact⟨es,clock,hb.trans h1,h2⟩,h.ask,h.non⟩
theorem key_of {s:ByteArray} (hs:s.size≤maxLen):keyOf Tryz.prog 9 (.string s)=some (.string s.data.toList):=by
 simp[keyOf,mapKey,Tryz.underlying9,hs]
theorem keyed:Go.Maps.Keyed Tryz.prog 9:=Go.Maps.string_keyed Tryz.underlying9
theorem zero_p (w:World):(zeroValue 102).run Tryz.prog w = .ok (.pointer none) w:=by
 first | exact Tryz.zeroValue102 w | exact Tryz.zeroValue102
theorem Ask.look {w:World} {g N:Nat} {f:ByteArray→Option Nat} {D:DataW Unit} (h:Ask w g N f D) (s:ByteArray) (hs:s.size≤maxLen) :
 (Instr.lookup 94 (.map (some g)) (.string s) false).run Tryz.prog w = .ok (pv (f s)) w:=by
 obtain⟨v,ps,h1,h2⟩:=h.own.lookup keyed Tryz.underlying94 (zero_p w) (zd:=.nil) (zp:=[]) rfl (key_of hs)
 rw[h.ask s hs] at h2
 rw[h1,rp_inv h2]
theorem look_nil (w:World) (s:ByteArray) (hs:s.size≤maxLen):(Instr.lookup 94 (.map none) (.string s) false).run Tryz.prog w = .ok (.pointer none) w:=
 Maps.look_nil false keyed Tryz.underlying94 (zero_p w) (key_of hs)
theorem data_inj {s u:ByteArray} (h:s.data.toList=u.data.toList):s=u:=by
 apply ByteArray.ext
 exact Array.toList_inj.1 h
theorem Ask.store {w:World} {g N:Nat} {f:ByteArray→Option Nat} {D:DataW Unit} (h:Ask w g N f D) (s:ByteArray) (hs:s.size≤maxLen) (b:Nat) (hN:N≤1000000) :
 ∃ w' D',(Instr.mapUpdate 94 (.map (some g)) (.string s) (.pointer (some ⟨b,0,none⟩))).run Tryz.prog w = .ok () w'∧Ask w' g (N+1) (fun x=>if x=s then some b else f x) D'∧w.grownBy w' (some g):=by
 obtain⟨w',h1,h2,h3⟩:=h.own.update keyed Tryz.underlying94 (by unfold maxLen;omega) (key_of hs) (rp_pv (some b))
 refine⟨w',_,h1,⟨h2,fun x hx=>?_,fun x hx=>?_⟩,h3⟩
 · by_cases e:x=s
   · subst e
     rw[if_pos rfl,Maps.atKey_put_same (k:=.string x.data.toList) h.own.isMap trivial]
   · rw[if_neg e,Maps.atKey_put_other (fun e'=>e (data_inj (by injection e'))),h.ask x hx]
 · by_cases e:x=s
   · rw[if_pos e] at hx
     cases hx
   · rw[if_neg e] at hx
     rw[Maps.has_put_other (fun e'=>e (data_inj (by injection e')))]
     exact h.non x hx
theorem Ask.strike {w:World} {g N:Nat} {f:ByteArray→Option Nat} {D:DataW Unit} (h:Ask w g N f D) (s:ByteArray) (hs:s.size≤maxLen) (ty:TypeId) :
 ∃ w' D',(Builtin.delete_ #[94,9] ty #[.map (some g),.string s]).run Tryz.prog w = .ok (.tuple #[]) w'∧Ask w' g N (fun x=>if x=s then none else f x) D'∧w.grownBy w' (some g):=by
 obtain⟨w',h1,h2,h3⟩:=h.own.drop keyed Tryz.underlying94 (key_of hs) ty
 refine⟨w',_,h1,⟨h2,fun x hx=>?_,fun x hx=>?_⟩,h3.grown⟩
 · by_cases e:x=s
   · subst e
     rw[if_pos rfl,Maps.atKey_del_same]
     rfl
   · rw[if_neg e,Maps.atKey_del_other (fun e'=>e (data_inj (by injection e'))),h.ask x hx]
 · by_cases e:x=s
   · subst e
     exact Maps.has_del_same
   · rw[if_neg e] at hx
     rw[Maps.has_del_other (fun e'=>e (data_inj (by injection e')))]
     exact h.non x hx
theorem ask_made (w:World):Ask (w.alloc (.map #[] 0)) w.heap.size 0 (fun _=>none) (.map []):=⟨World.ownsMap_made w _ _ _,fun _ _=>rfl,fun _ _=>rfl⟩
theorem Ask.has {w:World} {g N:Nat} {f:ByteArray→Option Nat} {D:DataW Unit} (h:Ask w g N f D) (s:ByteArray) (hs:s.size≤maxLen):Maps.has D (.string s.data.toList)=(f s).isSome:=by
 cases hf:f s with
 | none=>exact h.non s hf
 | some b=>
   cases hh:Maps.has D (.string s.data.toList) with
   | true=>rfl
   | false=>
     have:=h.ask s hs
     rw[Maps.atKey_of_not_has hh,hf] at this
     cases this
theorem Ask.keys {w:World} {g N:Nat} {f:ByteArray→Option Nat} {D:DataW Unit} (h:Ask w g N f D) {ks:List ByteArray} (hk:ks.Nodup) (hm:∀ x,x∈ks↔(f x).isSome=true) (hl:∀ x∈ks,x.size≤maxLen):(ks.map fun x=>x.data.toList).Perm (strKeys D)∧Maps.size D=ks.length:=by
 obtain⟨es,hD,hpw,_⟩:=h.own.entries keyed
 obtain⟨es',hD',hko⟩:=h.own.keysOf
 obtain rfl:es=es':=by rw[hD] at hD';simpa using hD'
 subst hD
 have hp:(ks.map fun x=>x.data.toList).Perm (strKeys (.map es)):=by
  refine perm_strKeys hpw (fun p hp=>by obtain⟨v,hv⟩:=hko p hp;obtain⟨x,_,hx,_⟩:=Maps.keyOf_str Tryz.underlying9 hv;exact⟨x,hx⟩) (List.pairwise_map.2 (hk.imp fun hne e=>hne (data_inj e))) (fun x=>?_)
  rw[List.mem_map]
  constructor
  · rintro ⟨y,hy,rfl⟩
    rw[h.has y (hl y hy)]
    exact (hm y).1 hy
  · intro hx
    have hxs:x∈strKeys (.map es):=by
     rw[Maps.has_eq,List.any_eq_true] at hx
     obtain⟨p,hp,e⟩:=hx
     exact List.mem_map.2 ⟨p,hp,by rw[WideAt.sameKey_eq e];rfl⟩
    have hxl:=strKeys_le h.own Tryz.underlying9 x hxs
    refine⟨⟨x.toArray⟩,(hm _).2 ?_,by simp⟩
    rw[← h.has ⟨x.toArray⟩ (show x.toArray.size≤maxLen by simpa using hxl)]
    simpa using hx
 refine⟨hp,?_⟩
 have:=hp.length_eq
 rw[List.length_map] at this
 rw[this]
 show es.length=(es.map _).length
 rw[List.length_map]
def Kd (w:World) (N:Nat) (f:ByteArray→Option Nat):Option Nat→Prop
 | none=>∀ x,f x=none
 | some g=>∃ D,Ask w g N f D
theorem Kd.congr {w:World} {N:Nat} {f f':ByteArray→Option Nat} {m:Option Nat} (h:Kd w N f m) (e:∀ x,f x=f' x):Kd w N f' m:=by
 have:f=f':=funext e
 rw[← this]
 exact h
theorem Kd.mono {w:World} {N N':Nat} {f:ByteArray→Option Nat} {m:Option Nat} (h:Kd w N f m) (hN:N≤N'):Kd w N' f m:=by
 cases m with
 | none=>exact h
 | some g=>obtain⟨D,hD⟩:=h;exact⟨D,hD.own.mono hN,hD.ask,hD.non⟩
def kb (t:List Th) (L:Nm→Nd) (p:Nm) (x:ByteArray):Option Nat:=(T t (p++[x])).map fun _=>(L (p++[x])).b
structure Nod (w:World) (N:Nat) (x:Nd) (f:ByteArray→Option Nat) (d:Bool) (s:ByteArray):Prop where
 box:∃ ty,w.heap[x.b]? = some (.cells #[.bool (!d),.slice x.A s.size x.c,.map x.m] ty (0,0))
 row:w.ownsRow 0 5 1 (.slice x.A s.size x.c) s.size (Crc.u8s (Crc.tx s))
 map:Kd w N f x.m
theorem Nod.block {w w':World} {N:Nat} {x:Nd} {f:ByteArray→Option Nat} {d:Bool} {s:ByteArray} (h:Nod w N x f d s) (hb:∀ i∈own x,w'.heap[i]? = w.heap[i]?):Nod w' N x f d s:=by
 refine⟨?_,?_,?_⟩
 · obtain⟨ty,h1⟩:=h.box
   exact⟨ty,(hb _ (by simp[own])).trans h1⟩
 · rcases h.row with ⟨h1,h2⟩
   refine⟨h1,?_⟩
   rcases h2 with h0 | ⟨g,cap,cur,e,hB,hh,hr⟩
   · exact .inl h0
   · have hA:x.A=some ⟨g,0,none⟩:=by injection e
     exact .inr ⟨g,cap,cur,e,hB,(hb g (by simp[own,hA])).trans hh,hr⟩
 · have:=h.map
   cases hm:x.m with
   | none=>rw[hm] at this;exact this
   | some g=>
     rw[hm] at this
     obtain⟨D,hD⟩:=this
     exact⟨D,hD.block (hb g (by simp[own,hm]))⟩
theorem Nod.lt {w:World} {N:Nat} {x:Nd} {f:ByteArray→Option Nat} {d:Bool} {s:ByteArray} (h:Nod w N x f d s):∀ i∈own x,i < w.heap.size:=by
 intro i hi
 simp only[own,List.mem_cons,List.mem_append,Option.mem_toList] at hi
 rcases hi with rfl | hi | hi
 · obtain⟨ty,h1⟩:=h.box
   exact (Array.getElem?_eq_some_iff.1 h1).1
 · have:=h.map
   rw[hi] at this
   obtain⟨D,hD⟩:=this
   exact hD.own.lt
 · rcases h.row with ⟨_,h0 | ⟨g,cap,cur,e,hB,hh,hr⟩⟩
   · have hA:x.A=none:=by injection h0.1
     rw[hA] at hi
     simp at hi
   · have hA:x.A=some ⟨g,0,none⟩:=by injection e
     rw[hA] at hi
     simp at hi
     subst hi
     exact (Array.getElem?_eq_some_iff.1 hh).1
section
variable {w : World} {N : Nat} {x : Nd} {f : ByteArray → Option Nat} {d : Bool} {s : ByteArray} (h : Nod w N x f d s)
include h
theorem Nod.c0:w.cell? ⟨x.b,0,none⟩=some (.bool (!d)):=by
 obtain⟨ty,h1⟩:=h.box
 simp[World.cell?,h1]
theorem Nod.c1:w.cell? ⟨x.b,1,none⟩=some (.slice x.A s.size x.c):=by
 obtain⟨ty,h1⟩:=h.box
 simp[World.cell?,h1]
theorem Nod.c2:w.cell? ⟨x.b,2,none⟩=some (.map x.m):=by
 obtain⟨ty,h1⟩:=h.box
 simp[World.cell?,h1]
theorem Nod.fr (o:Nat):w.frozen? ⟨x.b,o,none⟩=false:=by
 obtain⟨ty,h1⟩:=h.box
 simp[World.frozen?,h1]
theorem Nod.look (z:ByteArray) (hz:z.size≤maxLen):(Instr.lookup 94 (.map x.m) (.string z) false).run Tryz.prog w = .ok (pv (f z)) w:=by
 have:=h.map
 cases hm:x.m with
 | none=>
   rw[hm] at this
   rw[this z]
   exact look_nil w z hz
 | some g=>
   rw[hm] at this
   obtain⟨D,hD⟩:=this
   exact hD.look z hz
theorem Nod.blt:x.b < w.heap.size:=h.lt _ (by simp[own])
end
structure Mem (w:World) (N:Nat) (t:List Th) (L:Nm→Nd):Prop where
 nod:∀ p d s,T t p=some (d,s)→Nod w N (L p) (kb t L p) d s
 one:∀ p v,T t p=some v→(own (L p)).Nodup
 apart:∀ p q v u,T t p=some v→T t q=some u→p≠q→∀ i∈own (L p),i∉own (L q)
def Fp (t:List Th) (L:Nm→Nd) (i:Nat):Prop:=∃ p v,T t p=some v∧i∈own (L p)
theorem Mem.lt {w:World} {N:Nat} {t:List Th} {L:Nm→Nd} (h:Mem w N t L) {i:Nat} (hi:Fp t L i):i < w.heap.size:=by
 obtain⟨p,⟨d,s⟩,h1,h2⟩:=hi
 exact (h.nod p d s h1).lt i h2
theorem Mem.block {w w':World} {N:Nat} {t:List Th} {L:Nm→Nd} (h:Mem w N t L) (hb:∀ i,Fp t L i→w'.heap[i]? = w.heap[i]?):Mem w' N t L:=
 ⟨fun p d s e=>(h.nod p d s e).block fun i hi=>hb i ⟨p,_,e,hi⟩,h.one,h.apart⟩
theorem Mem.keep {w w':World} {N:Nat} {t:List Th} {L:Nm→Nd} (h:Mem w N t L) (hb:Below w.heap.size w w'):Mem w' N t L:=h.block fun i hi=>hb.block i (h.lt hi)
theorem Mem.step {w w':World} {N N':Nat} {t t':List Th} {L L':Nm→Nd} (h:Mem w N t L) (S:Nm→Prop) (hN:N≤N')
 (hT:∀ q,¬ S q→T t' q=T t q) (hL:∀ q,¬ S q→L' q=L q)
 (hH:∀ q v,T t q=some v→¬ S q→∀ i∈own (L q),w'.heap[i]? = w.heap[i]?)
 (hC:∀ q x v,T t q=some v→¬ S q→kb t' L' q x=kb t L q x)
 (hn:∀ q d s,S q→T t' q=some (d,s)→Nod w' N' (L' q) (kb t' L' q) d s)
 (h1:∀ q v,S q→T t' q=some v→(own (L' q)).Nodup)
 (ha:∀ q r v u,S q→T t' q=some v→T t' r=some u→r≠q→∀ i∈own (L' q),i∉own (L' r)):Mem w' N' t' L':=by
 refine⟨fun p d s e=>?_,fun p v e=>?_,fun p q v u ep eq hne i hi=>?_⟩
 · by_cases hS:S p
   · exact hn p d s hS e
   · have e':=(hT p hS).symm.trans e
     have:=(h.nod p d s e').block (hH p _ e' hS)
     rw[hL p hS]
     exact⟨this.box,this.row,(this.map.congr fun x=>(hC p x _ e' hS).symm).mono hN⟩
 · by_cases hS:S p
   · exact h1 p v hS e
   · rw[hL p hS]
     exact h.one p v ((hT p hS).symm.trans e)
 · by_cases hS:S p
   · exact ha p q v u hS ep eq (fun e=>hne e.symm) i hi
   · by_cases hS':S q
     · intro hi'
       exact ha q p u v hS' eq ep hne i hi' hi
     · rw[hL p hS] at hi
       rw[hL q hS']
       exact h.apart p q v u ((hT p hS).symm.trans ep) ((hT q hS').symm.trans eq) hne i hi
structure Chg (F:Nat→Prop) (w w':World):Prop where
 os:w'.os=w.os
 tape:w'.tape=w.tape
 output:w'.output=w.output
 size:w.heap.size≤w'.heap.size
 block:∀ k,k < w.heap.size→¬ F k→w'.heap[k]? = w.heap[k]?
theorem Chg.refl (F:Nat→Prop) (w:World):Chg F w w:=⟨rfl,rfl,rfl,Nat.le_refl _,fun _ _ _=>rfl⟩
theorem Chg.of_below {F:Nat→Prop} {w w':World} (h:Below w.heap.size w w'):Chg F w w':=⟨h.os,h.tape,h.output,h.size,fun k hk _=>h.block k hk⟩
theorem Chg.trans {F G:Nat→Prop} {a b c:World} (h:Chg F a b) (k:Chg G b c) (hG:∀ i,G i→F i∨a.heap.size≤i):Chg F a c:=
 ⟨k.os.trans h.os,k.tape.trans h.tape,k.output.trans h.output,Nat.le_trans h.size k.size,fun i hi hF=>(k.block i (Nat.lt_of_lt_of_le hi h.size) (fun hg=>by rcases hG i hg with h' | h';exact hF h';omega)).trans (h.block i hi hF)⟩
theorem Chg.then {F:Nat→Prop} {a b c:World} (h:Chg F a b) (k:Below b.heap.size b c):Chg F a c:=h.trans (Chg.of_below (F:=fun _=>False) k) (fun _ h=>h.elim)
theorem Chg.after {F:Nat→Prop} {a b c:World} (h:Below a.heap.size a b) (k:Chg F b c):Chg F a c:=(Chg.of_below h).trans k (fun _ h=>.inl h)
theorem Chg.grown {F:Nat→Prop} {a b:World} {g:Nat} (h:a.grownBy b (some g)) (hg:F g):Chg F a b:=⟨h.os,h.tape,h.output,h.size,fun k hk hF=>h.block k hk (fun e=>by injection e with e;subst e;exact hF hg)⟩
theorem Chg.below {F:Nat→Prop} {a b:World} {B:Nat} (h:Chg F a b) (hB:B≤a.heap.size) (hF:∀ i,F i→B≤i):Below B a b:=⟨h.os,h.tape,h.output,h.size,fun k hk=>h.block k (by omega) (fun hf=>by have:=hF k hf;omega)⟩
end Trk
end Go.Proofs.YtdafimdfbnphaaaGreatDoor
/- Texts. -/
namespace Go.Proofs
open Go.Shelf
def Tryz.cloneA_ren : Go.Shelf.Ren := ⟨fun | 316 => 149 | n => n, fun | 9 => 9 | 3 => 3 | 4 => 4 | 37 => 49 | 0 => 0 | 127 => 270 | 5 => 5 | n => n, fun | n => n⟩
theorem Tryz.cloneA : Go.Proofs.LaysM.n316 Tryz.prog Tryz.cloneA_ren := {
  mixed := by kernel_rfl
  f316 := Tryz.func149.trans (congrArg some (by kernel_rfl))
  t0 := Tryz.underlying0
  a0 := Tryz.isAgg0
  z0 := Tryz.sizeOf0
  v0 := Tryz.zeroValue0
  t3 := Tryz.underlying3
  a3 := Tryz.isAgg3
  z3 := Tryz.sizeOf3
  v3 := Tryz.zeroValue3
  t4 := Tryz.underlying4
  a4 := Tryz.isAgg4
  z4 := Tryz.sizeOf4
  v4 := Tryz.zeroValue4
  t9 := Tryz.underlying9
  a9 := Tryz.isAgg9
  z9 := Tryz.sizeOf9
  v9 := Tryz.zeroValue9
  t37 := Tryz.underlying49
  a37 := Tryz.isAgg49
  z37 := Tryz.sizeOf49
  v37 := Tryz.zeroValue49
  t127 := Tryz.underlying270
  a127 := Tryz.isAgg270
  z127 := Tryz.sizeOf270
  v127 := Tryz.zeroValue270
  t5 := Tryz.underlying5
  a5 := Tryz.isAgg5
  z5 := Tryz.sizeOf5
  v5 := Tryz.zeroValue5
  i0 := by kernel_rfl
  i3 := by kernel_rfl
  i4 := by kernel_rfl
  i5 := by kernel_rfl
  i9 := by kernel_rfl
  i37 := by kernel_rfl
  i127 := by kernel_rfl }
end Go.Proofs
/- Texts. -/
namespace Go.Proofs.YtdafimdfbnphaaaGreatDoor
open Lib (hid)
open Go.RowKit Go.MapKept
namespace Trk
open Tre (Nm Th fi isDirAt dirT goT goF setT dropT)
open Pat (Txs)
structure Wf (t:List Th):Prop where
 once:Once t
 nm:∀ x∈t,x.1≠[]∧Pat.IsNames x.1
 up:∀ p x v,T t (p++[x])=some v→∃ s,T t p=some (true,s)
 dat:∀ p s,T t p=some (true,s)→s=ByteArray.empty
 size:∀ x∈t,x.2.2.size≤268435456
def rest (t:List Th) (n:Nm) (k:Nat) (d:Bool):Int:=if k=n.length then 0 else if d=false then 6 else goF t n (n.length - k) (k+1)
theorem goT_rest (t:List Th) (n:Nm):goT t n=rest t n 0 true:=by
 unfold Tre.goT rest
 by_cases h:0=n.length
 · rw[if_pos h,← h]
   rfl
 · rw[if_neg h,if_neg (by simp)]
   rfl
theorem rest_end {t:List Th} {n:Nm} {d:Bool}:rest t n n.length d=0:=if_pos rfl
theorem rest_file {t:List Th} {n:Nm} {k:Nat} (hk:k < n.length):rest t n k false=6:=by
 unfold rest
 rw[if_neg (by omega),if_pos rfl]
theorem take_ne {n:Nm} {k:Nat} (hk:k < n.length):n.take (k+1)≠[]:=fun e=>by
 have:=congrArg List.length e
 rw[List.length_take] at this
 simp at this
 rw[this] at hk
 simp at hk
theorem rest_none {t:List Th} {n:Nm} {k:Nat} (hk:k < n.length) (h:T t (n.take (k+1))=none):rest t n k true=4:=by
 unfold rest
 rw[if_neg (by omega),if_neg (by simp),show n.length - k=(n.length - k - 1)+1 by omega]
 unfold Tre.goF
 rw[(T_no h).2]
theorem rest_some {t:List Th} {n:Nm} {k:Nat} (hk:k < n.length) {v:Bool × ByteArray} (h:T t (n.take (k+1))=some v):rest t n k true=rest t n (k+1) v.1:=by
 cases hf:fi t (n.take (k+1)) with
 | none=>rw[T_none (take_ne hk) hf] at h;cases h
 | some i=>
   obtain⟨hi,h2⟩:=T_fi (take_ne hk) hf
   rw[h2] at h
   injection h with h
   have hd:isDirAt t i=v.1:=by unfold Tre.isDirAt;rw[List.getElem?_eq_getElem hi,← h]
   unfold rest
   rw[if_neg (by omega),if_neg (by simp),show n.length - k=(n.length - (k+1))+1 by omega]
   rw[Tre.goF,hf]
   simp only[hd]
   by_cases he:k+1=n.length
   · rw[if_neg (by omega),if_pos he,he,Nat.sub_self]
     rfl
   · rw[if_neg he]
     by_cases hv:v.1=false
     · rw[if_pos ⟨by omega,hv⟩,if_pos hv]
     · rw[if_neg (fun h=>hv h.2),if_neg hv]
theorem right_len {s:ByteArray} (h:Ent.Right (Crc.tx s)):s.size≤maxLen:=by
 have:=h.1.2
 rw[Crc.tx_len] at this
 unfold maxLen
 omega
def gv (t:List Th) (L:Nm→Nd) (n:Nm):Option Nat:=if goT t n=0 then some (L n).b else none
theorem gv_yes {t:List Th} {L:Nm→Nd} {n:Nm} (h:goT t n=0):gv t L n=some (L n).b:=if_pos h
theorem gv_no {t:List Th} {L:Nm→Nd} {n:Nm} (h:goT t n≠0):gv t L n=none:=if_neg h
set_option maxRecDepth 100000 in
set_option maxHeartbeats 4000000 in
theorem follow_any (w:World) (N b0 c m:Nat) (t:List Th) (L:Nm→Nd) (A:Option Addr) (n:Nm) (hM:Mem w N t L) (hb:(L []).b=b0) (h:Txs w A n) (hn:Pat.IsNames n) (hm:n.length=m) :
 Calls Tryz.prog 96 #[.pointer (some ⟨b0,0,none⟩),.slice A m c] w fun e w'=>e = .returned (.tuple #[pv (gv t L n),.int .i64 (goT t n)])∧w'=w:=by
 subst hm
 have hl:=h.len
 have H:=hid h
 have HM:=hid hM
 have HN:=hid hn
 have HX:=hid (goT_rest t n)
 clear h hM hn
 go_enter Tryz.func96,Tryz.ntmps96
 go_wp2
 go_loopw [6,14] (fun x ix wr=>∃ (k:Nat) (d:Bool) (s:ByteArray),k≤n.length∧x=pv (some (L (n.take k)).b)∧ix = .int .i64 (k:Int)∧wr=w∧T t (n.take k)=some (d,s)∧goT t n=rest t n k d) (fun _ ix _=>n.length - (intOf ix).toNat)
 case atStart=>exact⟨0,true,ByteArray.empty,Nat.zero_le _,by rw[List.take_zero,hb];rfl,rfl,rfl,by rw[List.take_zero,T_root],HX.out⟩
 case round=>
  obtain⟨k,d,s,hk,rfl,rfl,rfl,hT,hR⟩:=hrel
  by_cases hlt:k < n.length
  · obtain⟨b,o,rfl,_,hc0⟩:=H.out.at' k hlt
    have hs:=right_len (HN.out.2 _ (List.getElem_mem hlt))
    have HD:=hid (HM.out.nod _ _ _ hT)
    have h0:=HD.out.c0
    have h2:=HD.out.c2
    have HK:=hid HD.out.map
    have HT:=hid hT
    have HR:=hid hR
    have HE:=hid (show n.take (k+1)=n.take k++[n[k]] from List.take_succ_eq_append_getElem hlt)
    clear hT hR
    unfold pv
    generalize n[k]=s0 at *
    generalize hx:L (n.take k)=x at *
    cases d with
    | false=>
      simp only[Bool.not_false] at h0
      have h6:=HR.out
      rw[rest_file hlt] at h6
      have HZ:=hid (show (.tuple #[.pointer none,.int .i64 6]:Value) = .tuple #[pv (gv t L n),.int .i64 (goT t n)] by rw[gv_no (by omega),h6];rfl)
      clear h6
      go_wp2
      refine bodyPost_ret (v:=.tuple #[.pointer none,.int .i64 6]) ?_ rfl ⟨by rw[HZ.out],rfl⟩
      simp[results,Tryz.results96,go_sem]
    | true=>
      simp only[Bool.not_true] at h0
      have hlk:=HD.out.look s0 hs
      unfold kb at hlk
      rw[← HE.out] at hlk
      cases hv:T t (n.take (k+1)) with
      | none=>
        rw[hv] at hlk
        simp only[Option.map_none,pv] at hlk
        have h4:=HR.out
        rw[rest_none hlt hv] at h4
        have HZ:=hid (show (.tuple #[.pointer none,.int .i64 4]:Value) = .tuple #[pv (gv t L n),.int .i64 (goT t n)] by rw[gv_no (by omega),h4];rfl)
        clear hv h4
        go_wp2
        refine bodyPost_ret (v:=.tuple #[.pointer none,.int .i64 4]) ?_ rfl ⟨by rw[HZ.out],rfl⟩
        simp[results,Tryz.results96,go_sem]
      | some v=>
        rw[hv] at hlk
        simp only[Option.map_some,pv] at hlk
        have HV:=hid hv
        have h4:=HR.out
        rw[rest_some hlt hv] at h4
        have H4:=hid h4
        clear hv h4
        go_wp2
        refine⟨⟨k+1,v.1,v.2,by omega,rfl,by go_num,by first | rfl | trivial,HV.out,H4.out⟩,by simp[intOf];omega⟩
  · obtain rfl:k=n.length:=by omega
    rw[List.take_length] at hT
    rw[rest_end] at hR
    have HZ:=hid (show (.tuple #[pv (some (L n).b),.int .i64 0]:Value) = .tuple #[pv (gv t L n),.int .i64 (goT t n)] by rw[gv_yes hR,hR])
    rw[List.take_length]
    clear hR
    generalize pv (some (L n).b)=z at *
    go_wp2
    refine bodyPost_ret (v:=.tuple #[z,.int .i64 0]) ?_ rfl ⟨by rw[HZ.out],rfl⟩
    simp[results,Tryz.results96,go_sem]
end Trk
end Go.Proofs.YtdafimdfbnphaaaGreatDoor
/- Texts. -/
namespace Go.Proofs.YtdafimdfbnphaaaGreatDoor
open Lib (hid)
open Go.RowKit Go.MapKept
namespace Trk
open Tre (Nm Th fi isDirAt dirT goT goF setT dropT fileT)
open Pat (Txs)
theorem rest_zero {t:List Th} {n:Nm}:∀ (f k:Nat) (v:Bool × ByteArray),n.length - k=f→k≤n.length→T t (n.take k)=some v→rest t n k v.1=0→∃ u,T t n=some u
 | 0,k,v,hf,hk,hv,_=>by
   obtain rfl:k=n.length:=by omega
   rw[List.take_length] at hv
   exact⟨v,hv⟩
 | f+1,k,(d,s),hf,hk,hv,h0=>by
   have hlt:k < n.length:=by omega
   cases d with
   | false=>rw[rest_file hlt] at h0;omega
   | true=>
     cases hu:T t (n.take (k+1)) with
     | none=>rw[rest_none hlt hu] at h0;omega
     | some u=>
       rw[rest_some hlt hu] at h0
       exact rest_zero f (k+1) u (by omega) (by omega) hu h0
theorem goT_some {t:List Th} {n:Nm} (h:goT t n=0):∃ u,T t n=some u:=by
 rw[goT_rest] at h
 exact rest_zero n.length 0 (true,ByteArray.empty) (by omega) (by omega) (by rw[List.take_zero,T_root]) h
theorem dirT_T {t:List Th} {n:Nm} {v:Bool × ByteArray} (h:T t n=some v):dirT t n=v.1:=by
 unfold Tre.dirT
 by_cases h0:n=[]
 · rw[if_pos h0]
   rw[h0,T_root] at h
   injection h with h
   rw[← h]
 · rw[if_neg h0]
   cases hf:fi t n with
   | none=>rw[T_none h0 hf] at h;cases h
   | some i=>
     obtain⟨hi,h2⟩:=T_fi h0 hf
     rw[h2] at h
     injection h with h
     simp only
     unfold Tre.isDirAt
     rw[List.getElem?_eq_getElem hi,← h]
theorem fi_of_T {t:List Th} {n:Nm} (h0:n≠[]) {v:Bool × ByteArray} (h:T t n=some v):∃ i,fi t n=some i:=by
 cases hf:fi t n with
 | none=>rw[T_none h0 hf] at h;cases h
 | some i=>exact⟨i,rfl⟩
theorem spl_is {s:ByteArray} {l:List ByteArray} (h:Pat.spl s=some l):Pat.IsNames l:=by
 unfold Pat.spl at h
 split at h
 · cases h
 · split at h
   · split at h
     · injection h with h
       subst h
       exact⟨by simp,fun n hn=>by simp at hn⟩
     · split at h
       · rename_i hi
         injection h with h
         subst h
         exact hi
       · cases h
   · cases h
def ge (t:List Th) (p:ByteArray):Int:=match Pat.spl p with | none=>3 | some n=>goT t n
def gn (t:List Th) (L:Nm→Nd) (p:ByteArray):Option Nat:=match Pat.spl p with | none=>none | some n=>gv t L n
set_option maxRecDepth 100000 in
set_option maxHeartbeats 4000000 in
theorem goTo_any (w:World) (N b0:Nat) (t:List Th) (L:Nm→Nd) (p:ByteArray) (hM:Mem w N t L) (hb:(L []).b=b0) (hp:p.size < 4294967281) :
 Calls Tryz.prog 99 #[.pointer (some ⟨b0,0,none⟩),.string p] w fun e w'=>e = .returned (.tuple #[pv (gn t L p),.int .i64 (ge t p)])∧Below w.heap.size w w':=by
 have HM:=hid hM
 clear hM
 go_enter Tryz.func99,Tryz.ntmps99
 go_wp2_with fail
 refine (Pat.split_any w p hp).mono ?_
 rintro e w1 ⟨hb1,h1⟩
 have HB1:=hid hb1
 clear hb1
 rcases h1 with ⟨l,A,c,hs,rfl,hc,ht⟩ | ⟨hs,rfl⟩
 · have HS:=hid hs
   have HZ:=hid (show (.tuple #[pv (gv t L l),.int .i64 (goT t l)]:Value) = .tuple #[pv (gn t L p),.int .i64 (ge t p)] by unfold gn ge;rw[hs])
   have HF:=hid (follow_any w1 N b0 c l.length t L A l (HM.out.keep HB1.out) hb ht (spl_is hs) rfl)
   clear hs ht hc
   go_wp2_with fail
   refine HF.out.mono ?_
   rintro e w' ⟨rfl,rfl⟩
   generalize pv (gv t L l)=z at *
   generalize goT t l=g at *
   go_wp2
   refine bodyPost_ret (v:=.tuple #[z,.int .i64 g]) ?_ rfl ⟨by rw[HZ.out],HB1.out⟩
   simp[results,Tryz.results99,go_sem]
 · have HZ:=hid (show (.tuple #[.pointer none,.int .i64 3]:Value) = .tuple #[pv (gn t L p),.int .i64 (ge t p)] by unfold gn ge;rw[hs];rfl)
   clear hs
   go_wp2
   refine bodyPost_ret (v:=.tuple #[.pointer none,.int .i64 3]) ?_ rfl ⟨by rw[HZ.out],HB1.out⟩
   simp[results,Tryz.results99,go_sem]
end Trk
end Go.Proofs.YtdafimdfbnphaaaGreatDoor
/- Texts. -/
namespace Go.Proofs.YtdafimdfbnphaaaGreatDoor
open Lib (hid)
open Go.RowKit Go.MapKept
namespace Trk
open Tre (Nm Th fi isDirAt dirT goT goF setT dropT fileT)
open Pat (Txs)
structure IsFile (t:List Th) (p:ByteArray) (n:Nm) (i:Nat) (s:ByteArray):Prop where
 spl:Pat.spl p=some n
 ne:n≠[]
 fi:fi t n=some i
 at':T t n=some (false,s)
 go:goT t n=0
 file:fileT t p=(((i:Nat):Int),0)
theorem ge_no {t:List Th} {L:Nm→Nd} {p:ByteArray} (h:ge t p≠0):gn t L p=none∧(fileT t p).2=ge t p:=by
 unfold gn
 unfold ge at *
 cases hs:Pat.spl p with
 | none=>exact⟨rfl,by rw[Tre.fileT_none hs]⟩
 | some n=>
   rw[hs] at h
   exact⟨gv_no h,by rw[Tre.fileT_go hs h]⟩
theorem ge_yes {t:List Th} {L:Nm→Nd} {p:ByteArray} (h:ge t p=0):∃ n v,Pat.spl p=some n∧goT t n=0∧T t n=some v∧gn t L p=some (L n).b:=by
 unfold gn
 unfold ge at h
 cases hs:Pat.spl p with
 | none=>rw[hs] at h;simp at h
 | some n=>
   rw[hs] at h
   obtain⟨v,hv⟩:=goT_some h
   exact⟨n,v,rfl,h,hv,gv_yes h⟩
theorem is_file {t:List Th} {p:ByteArray} {n:Nm} {s:ByteArray} (hs:Pat.spl p=some n) (hg:goT t n=0) (hv:T t n=some (false,s)):∃ i,IsFile t p n i s:=by
 have h0:n≠[]:=fun e=>by rw[e,T_root] at hv;cases hv
 obtain⟨i,hi⟩:=fi_of_T h0 hv
 refine⟨i,hs,h0,hi,hv,hg,?_⟩
 unfold Tre.fileT
 rw[hs]
 simp only[hg,ne_eq,not_true,if_false,dirT_T hv,Bool.false_eq_true]
 unfold Tre.fv
 rw[hi]
theorem no_file {t:List Th} {p:ByteArray} {n:Nm} {s:ByteArray} (hs:Pat.spl p=some n) (hg:goT t n=0) (hv:T t n=some (true,s)):fileT t p=(-1,7):=Tre.fileT_dir hs hg (dirT_T hv)
def FileR (t:List Th) (L:Nm→Nd) (p:ByteArray) (e:Ending):Prop:=
 ((fileT t p).2≠0∧e = .returned (.tuple #[.pointer none,.int .i64 (fileT t p).2]))∨∃ n i s,IsFile t p n i s∧e = .returned (.tuple #[.pointer (some ⟨(L n).b,0,none⟩),.int .i64 0])
set_option maxRecDepth 100000 in
set_option maxHeartbeats 4000000 in
theorem fileAt_any (w:World) (N b0:Nat) (t:List Th) (L:Nm→Nd) (p:ByteArray) (hM:Mem w N t L) (hb:(L []).b=b0) (hp:p.size < 4294967281) :
 Calls Tryz.prog 46 #[.pointer (some ⟨b0,0,none⟩),.string p] w fun e w'=>FileR t L p e∧Below w.heap.size w w':=by
 have HM:=hid hM
 clear hM
 go_enter Tryz.func46,Tryz.ntmps46
 go_wp2_with fail
 refine (goTo_any w N b0 t L p HM.out hb hp).mono ?_
 rintro e w1 ⟨rfl,hb1⟩
 have HB1:=hid hb1
 have HM1:=hid (HM.out.keep hb1)
 clear hb1
 by_cases hg:ge t p=0
 · obtain⟨n,⟨d,s⟩,hs,hn,hv,hx⟩:=ge_yes (L:=L) hg
   rw[hx,hg]
   have HD:=hid (HM1.out.nod _ _ _ hv)
   have h0:=HD.out.c0
   unfold pv
   cases d with
   | true=>
     simp only[Bool.not_true] at h0
     have HR:=hid (show FileR t L p (.returned (.tuple #[.pointer none,.int .i64 7])) from .inl (by rw[no_file hs hn hv];exact⟨by simp,rfl⟩))
     clear hs hn hv hx hg
     generalize L n=x at *
     go_wp2
     refine bodyPost_ret (v:=.tuple #[.pointer none,.int .i64 7]) ?_ rfl ⟨HR.out,HB1.out⟩
     simp[results,Tryz.results46,go_sem]
   | false=>
     simp only[Bool.not_false] at h0
     have HR:=hid (show FileR t L p (.returned (.tuple #[.pointer (some ⟨(L n).b,0,none⟩),.int .i64 0])) from .inr (by obtain⟨i,hi⟩:=is_file hs hn hv;exact⟨n,i,s,hi,rfl⟩))
     clear hs hn hv hx hg
     generalize L n=x at *
     go_wp2
     refine bodyPost_ret (v:=.tuple #[.pointer (some ⟨x.b,0,none⟩),.int .i64 0]) ?_ rfl ⟨HR.out,HB1.out⟩
     simp[results,Tryz.results46,go_sem]
 · obtain⟨hx,he⟩:=ge_no (L:=L) hg
   have HR:=hid (show FileR t L p (.returned (.tuple #[.pointer none,.int .i64 (ge t p)])) from .inl ⟨by rw[he];exact hg,by rw[he]⟩)
   rw[hx]
   unfold pv
   clear hx he
   generalize ge t p=g at *
   go_wp2
   refine bodyPost_ret (v:=.tuple #[.pointer none,.int .i64 g]) ?_ rfl ⟨HR.out,HB1.out⟩
   simp[results,Tryz.results46,go_sem]
structure IsDir (t:List Th) (p:ByteArray) (n:Nm) (s:ByteArray):Prop where
 spl:Pat.spl p=some n
 at':T t n=some (true,s)
 go:goT t n=0
 dir:dirT t n=true
def dirE (t:List Th) (p:ByteArray):Int:=match Pat.spl p with | none=>3 | some n=>if goT t n≠0 then goT t n else if dirT t n=false then 6 else 0
def DirR (t:List Th) (L:Nm→Nd) (p:ByteArray) (e:Ending):Prop:=
 (dirE t p≠0∧e = .returned (.tuple #[.pointer none,.int .i64 (dirE t p)]))∨∃ n s,IsDir t p n s∧e = .returned (.tuple #[.pointer (some ⟨(L n).b,0,none⟩),.int .i64 0])
theorem ge_dir {t:List Th} {p:ByteArray} (h:ge t p≠0):dirE t p=ge t p:=by
 unfold ge at *
 unfold dirE
 cases hs:Pat.spl p with
 | none=>rfl
 | some n=>
   rw[hs] at h
   exact if_pos h
set_option maxRecDepth 100000 in
set_option maxHeartbeats 4000000 in
theorem dirAt_any (w:World) (N b0:Nat) (t:List Th) (L:Nm→Nd) (p:ByteArray) (hM:Mem w N t L) (hb:(L []).b=b0) (hp:p.size < 4294967281) :
 Calls Tryz.prog 48 #[.pointer (some ⟨b0,0,none⟩),.string p] w fun e w'=>DirR t L p e∧Below w.heap.size w w':=by
 have HM:=hid hM
 clear hM
 go_enter Tryz.func48,Tryz.ntmps48
 go_wp2_with fail
 refine (goTo_any w N b0 t L p HM.out hb hp).mono ?_
 rintro e w1 ⟨rfl,hb1⟩
 have HB1:=hid hb1
 have HM1:=hid (HM.out.keep hb1)
 clear hb1
 by_cases hg:ge t p=0
 · obtain⟨n,⟨d,s⟩,hs,hn,hv,hx⟩:=ge_yes (L:=L) hg
   rw[hx,hg]
   have HD:=hid (HM1.out.nod _ _ _ hv)
   have h0:=HD.out.c0
   unfold pv
   cases d with
   | false=>
     simp only[Bool.not_false] at h0
     have HR:=hid (show DirR t L p (.returned (.tuple #[.pointer none,.int .i64 6])) from .inl (by
      have:dirE t p=6:=by unfold dirE;rw[hs];simp only[hn,ne_eq,not_true,if_false,dirT_T hv,if_true]
      rw[this];exact⟨by simp,rfl⟩))
     clear hs hn hv hx hg
     generalize L n=x at *
     go_wp2
     refine bodyPost_ret (v:=.tuple #[.pointer none,.int .i64 6]) ?_ rfl ⟨HR.out,HB1.out⟩
     simp[results,Tryz.results48,go_sem]
   | true=>
     simp only[Bool.not_true] at h0
     have HR:=hid (show DirR t L p (.returned (.tuple #[.pointer (some ⟨(L n).b,0,none⟩),.int .i64 0])) from .inr ⟨n,s,⟨hs,hv,hn,dirT_T hv⟩,rfl⟩)
     clear hs hn hv hx hg
     generalize L n=x at *
     go_wp2
     refine bodyPost_ret (v:=.tuple #[.pointer (some ⟨x.b,0,none⟩),.int .i64 0]) ?_ rfl ⟨HR.out,HB1.out⟩
     simp[results,Tryz.results48,go_sem]
 · obtain⟨hx,_⟩:=ge_no (L:=L) hg
   have he:=ge_dir hg
   have HR:=hid (show DirR t L p (.returned (.tuple #[.pointer none,.int .i64 (ge t p)])) from .inl ⟨by rw[he];exact hg,by rw[he]⟩)
   rw[hx]
   unfold pv
   clear hx he
   generalize ge t p=g at *
   go_wp2
   refine bodyPost_ret (v:=.tuple #[.pointer none,.int .i64 g]) ?_ rfl ⟨HR.out,HB1.out⟩
   simp[results,Tryz.results48,go_sem]
theorem clone_any (w:World) (s:ByteArray) (hs:s.size≤1000000):Calls Tryz.prog 98 #[.string s] w fun e w'=>e = .returned (.string s)∧Below w.heap.size w w':=by
 go_enter Tryz.func98,Tryz.ntmps98
 go_wp2_with fail
 refine (Any.stringslite_Clone Tryz.cloneA s w (by omega)).mono ?_
 rintro e w' ⟨rfl,hb⟩
 have HB:=hid hb
 clear hb
 go_wp2
 go_ret
 exact⟨rfl,HB.out⟩
def L0 (b:Nat):Nm→Nd:=fun _=>⟨b,none,0,none⟩
theorem T_nil (n:Nm):T [] n=if n=[] then some (true,ByteArray.empty) else none:=rfl
theorem mem_new {w:World} {b:Nat} {ty:TypeId} (h:w.heap[b]? = some (.cells #[.bool false,.slice none 0 0,.map none] ty (0,0))):Mem w 0 [] (L0 b):=by
 have hT:∀ {p:Nm} {v},T [] p=some v→p=[]∧v=(true,ByteArray.empty):=fun {p v} e=>by
  rw[T_nil] at e
  split at e
  · rename_i h0
    injection e with e
    exact⟨h0,e.symm⟩
  · cases e
 refine⟨fun p d s e=>?_,fun p v e=>by simp[own,L0],fun p q v u ep eq hne=>absurd ((hT ep).1.trans (hT eq).1.symm) hne⟩
 obtain⟨rfl,e2⟩:=hT e
 injection e2 with e2 e3
 subst e2 e3
 exact⟨⟨ty,h⟩,⟨rfl,.inl ⟨rfl,rfl⟩⟩,fun x=>by unfold kb;rw[T_nil];simp⟩
theorem wf_nil:Wf []:=by
 refine⟨List.nodup_nil,fun x h=>by simp at h,fun p x v h=>?_,fun p s h=>?_,fun x h=>by simp at h⟩
 · rw[T_nil] at h
   simp at h
 · rw[T_nil] at h
   split at h
   · simp at h
     exact h.symm
   · cases h
set_option maxRecDepth 100000 in
theorem new_any (w:World):Calls Tryz.prog 15 #[] w fun e w'=>e = .returned (.pointer (some ⟨w.heap.size,0,none⟩))∧Mem w' 0 [] (L0 w.heap.size)∧Below w.heap.size w w'∧w'.heap.size=w.heap.size+1:=by
 go_enter Tryz.func15,Tryz.ntmps15
 go_wp2
 go_ret
 exact⟨rfl,mem_new (heap_alloc_new w _),(Below.refl _ _).alloc (Nat.le_refl _) _,by simp⟩
end Trk
end Go.Proofs.YtdafimdfbnphaaaGreatDoor
/- Texts. -/
namespace Go.Proofs.YtdafimdfbnphaaaGreatDoor
open Lib (hid)
open Go.RowKit Go.MapKept
namespace Trk
open Tre (Nm Th fi isDirAt dirT goT goF setT dropT fileT)
open Pat (Txs)
def PutR (w:World) (N:Nat) (x:Nd) (f:ByteArray→Option Nat) (d:Bool) (s:ByteArray) (nm:ByteArray) (nb:Nat) (w':World):Prop:=
 ∃ g,(x.m=some g∨g=w.heap.size)∧Nod w' (N+1) ⟨x.b,x.A,x.c,some g⟩ (fun z=>if z=nm then some nb else f z) d s∧Chg (·∈own x) w w'
set_option maxRecDepth 100000 in
set_option maxHeartbeats 4000000 in
theorem tput_any (w:World) (N:Nat) (x:Nd) (f:ByteArray→Option Nat) (d:Bool) (s nm:ByteArray) (nb:Nat) (h:Nod w N x f d s) (h1:(own x).Nodup) (hs:nm.size≤maxLen) (hN:N≤1000000) :
 Calls Tryz.prog 97 #[.pointer (some ⟨x.b,0,none⟩),.string nm,.pointer (some ⟨nb,0,none⟩)] w fun e w'=>e = .returned (.tuple #[])∧PutR w N x f d s nm nb w':=by
 have H:=hid h
 have h2:=h.c2
 have hfr:=h.fr 2
 have hnil:∀ W r,(binOp .eql 94 (.map r) (.map none)).run Tryz.prog W = .ok (.bool r.isNone) W:=fun W r=>run_eql_map_nil W _ _ _ r Tryz.underlying94
 have hmk:∀ W,(Instr.makeMap 94 none).run Tryz.prog W = .ok (.map (some W.heap.size)) (W.alloc (.map #[] 0)):=fun W=>by
  exact run_makeMap _ W
 have hlt:=h.blt
 clear h
 cases hm:x.m with
 | none=>
   rw[hm] at h2
   have hk:=H.out.map
   rw[hm] at hk
   have hsz0:(w.setCell ⟨x.b,2,none⟩ (.map (some w.heap.size))).heap.size=w.heap.size:=by simp[World.setCell]
   have hA0:Ask ((w.setCell ⟨x.b,2,none⟩ (.map (some w.heap.size))).alloc (.map #[] 0)) w.heap.size N f (.map []):=by
    have:=ask_made (w.setCell ⟨x.b,2,none⟩ (.map (some w.heap.size)))
    rw[hsz0] at this
    exact⟨this.own.mono (Nat.zero_le _),fun z hz=>by rw[this.ask z hz,hk z],fun z _=>this.non z rfl⟩
   obtain⟨w',D',hrun,hA,hg⟩:=hA0.store nm hs nb hN
   have HP:=hid (show PutR w N x f d s nm nb w' from by
    obtain⟨ty,hbox⟩:=H.out.box
    have hw1:=heap_setCell_same _ _ 2 _ _ (.map (some w.heap.size)) hbox
    have hw2:=(Below.heap_alloc _ (.map #[] 0) x.b (by omega)).trans hw1
    have hsz:((w.setCell ⟨x.b,2,none⟩ (.map (some w.heap.size))).alloc (.map #[] 0)).heap.size=w.heap.size+1:=by simp[World.setCell]
    have hoth:∀ k,k < w.heap.size→k≠x.b→w'.heap[k]? = w.heap[k]?:=fun k hk' hne=>
     (hg.block k (by omega) (fun e=>by injection e with e;omega)).trans ((Below.heap_alloc _ _ k (by omega)).trans (Below.heap_setCell _ _ _ k hne))
    refine⟨w.heap.size,.inr rfl,⟨⟨ty,?_⟩,?_,⟨D',hA⟩⟩,⟨hg.os,hg.tape,hg.output,by have:=hg.size;omega,fun k hk' hne=>hoth k hk' (fun e=>hne (by simp[own,e]))⟩⟩
    · exact (hg.block x.b (by omega) (fun e=>by injection e with e;omega)).trans hw2
    · rcases H.out.row with ⟨r1,r2⟩
      refine⟨r1,?_⟩
      rcases r2 with r0 | ⟨q,cap,cur,e,hB,hh,hr⟩
      · exact .inl r0
      · have hA':x.A=some ⟨q,0,none⟩:=by injection e
        have hq:q≠x.b:=fun e'=>by
         rw[own,hA',e'] at h1
         simp at h1
        exact .inr ⟨q,cap,cur,e,hB,(hoth q (Array.getElem?_eq_some_iff.1 hh).1 hq).trans hh,hr⟩)
   clear hA0 hA hg hk
   go_enter Tryz.func97,Tryz.ntmps97
   go_wp2
   go_end0
   exact⟨rfl,HP.out⟩
 | some g=>
   rw[hm] at h2
   have hk:=H.out.map
   rw[hm] at hk
   obtain⟨D,hD⟩:=hk
   obtain⟨w',D',hrun,hA,hg⟩:=hD.store nm hs nb hN
   have HP:=hid (show PutR w N x f d s nm nb w' from by
    obtain⟨ty,hbox⟩:=H.out.box
    have hgx:x.b≠g:=fun e=>by rw[own,hm,e] at h1;simp at h1
    refine⟨g,.inl hm,⟨⟨ty,?_⟩,?_,⟨D',hA⟩⟩,Chg.grown hg (by simp[own,hm])⟩
    · rw[← hm]
      exact (hg.block x.b hlt (fun e=>hgx (by injection e))).trans hbox
    · refine H.out.row.kept hg ?_
      cases hA:x.A with
      | none=>exact .inl rfl
      | some a=>
        refine .inr (fun e=>?_)
        have:a.block=g:=by simpa [Value.ownBlock] using e
        rw[own,hm,hA] at h1
        simp[this] at h1)
   clear hD hA hg
   go_enter Tryz.func97,Tryz.ntmps97
   go_wp2
   go_end0
   exact⟨rfl,HP.out⟩
end Trk
end Go.Proofs.YtdafimdfbnphaaaGreatDoor
/- Texts. -/
namespace Go.Proofs.YtdafimdfbnphaaaGreatDoor
open Go.RowKit Go.MapKept
namespace Trk
open Tre (Nm Th fi isDirAt dirT goT goF setT dropT fileT addT)
open Pat (Txs)
theorem app_ne {p q:Nm} {x y:ByteArray} (h:q≠p):q++[x]≠p++[y]:=fun e=>h (List.append_inj' e rfl).1
theorem app_inj {p:Nm} {x y:ByteArray} (h:p++[x]=p++[y]):x=y:=by
 have:=(List.append_inj' h rfl).2
 injection this
theorem app_self {p:Nm} {x:ByteArray}:p++[x]≠p:=fun e=>by
 have:=congrArg List.length e
 simp at this
def La (L:Nm→Nd) (p:Nm) (nm:ByteArray) (nb g:Nat) (q:Nm):Nd:=if q=p++[nm] then ⟨nb,none,0,none⟩ else if q=p then ⟨(L p).b,(L p).A,(L p).c,some g⟩ else L q
section
variable {L : Nm → Nd} {p : Nm} {nm : ByteArray} {nb g : Nat}
theorem La_new:La L p nm nb g (p++[nm])=⟨nb,none,0,none⟩:=if_pos rfl
theorem La_up:La L p nm nb g p=⟨(L p).b,(L p).A,(L p).c,some g⟩:=by
 unfold La
 rw[if_neg (fun e=>app_self e.symm),if_pos rfl]
theorem La_other {q:Nm} (h:q≠p++[nm]) (h':q≠p):La L p nm nb g q=L q:=by
 unfold La
 rw[if_neg h,if_neg h']
theorem La_b {q:Nm} (h:q≠p++[nm]):(La L p nm nb g q).b=(L q).b:=by
 unfold La
 rw[if_neg h]
 split
 · rename_i e
   rw[e]
 · rfl
end
theorem own_mem {x:Nd} {i:Nat}:i∈own x↔i=x.b∨x.m=some i∨x.A.map (·.block)=some i:=by
 simp[own]
theorem Mem.add {w w':World} {N:Nat} {t:List Th} {L:Nm→Nd} (h:Mem w N t L) (hW:Wf t) {p:Nm} {nm:ByteArray} {s:ByteArray} {nb:Nat} {d:Bool} {ty:TypeId} (hp:T t p=some (true,s)) (hn:T t (p++[nm])=none)
 (hnb:w.heap[nb]? = some (.cells #[.bool (!d),.slice none 0 0,.map none] ty (0,0))) (hF:¬ Fp t L nb) (hr:PutR w N (L p) (kb t L p) true s nm nb w') :
 ∃ g,(Fp t L g∨g=w.heap.size)∧Mem w' (N+1) (t++[(p++[nm],d,ByteArray.empty)]) (La L p nm nb g)∧Chg (Fp t L) w w':=by
 obtain⟨g,hg,hN,hc⟩:=hr
 have hlt:=(Array.getElem?_eq_some_iff.1 hnb).1
 have hFp:∀ i∈own (L p),Fp t L i:=fun i hi=>⟨p,_,hp,hi⟩
 have hgF:Fp t L g∨g=w.heap.size:=by
  rcases hg with hg | hg
  · exact .inl (hFp g (own_mem.2 (.inr (.inl hg))))
  · exact .inr hg
 refine⟨g,hgF,?_,⟨hc.os,hc.tape,hc.output,hc.size,fun k hk hn=>hc.block k hk (fun e=>hn (hFp k e))⟩⟩
 obtain⟨hne,hfi⟩:=T_no hn
 have hT:∀ q,T (t++[(p++[nm],d,ByteArray.empty)]) q=if q=p++[nm] then some (d,ByteArray.empty) else T t q:=T_app (x:=(p++[nm],d,ByteArray.empty)) hne hfi
 have hkid:∀ x,T t (p++[nm]++[x])=none:=fun x=>by
  cases hv:T t (p++[nm]++[x]) with
  | none=>rfl
  | some v=>
    obtain⟨s',hs'⟩:=hW.up _ _ _ hv
    rw[hn] at hs'
    cases hs'
 have hown:∀ i,i∈own (La L p nm nb g p)→i∈own (L p)∨i=w.heap.size:=fun i hi=>by
  rw[La_up,own_mem] at hi
  simp only[Option.some.injEq] at hi
  rcases hi with hi | hi | hi
  · exact .inl (own_mem.2 (.inl hi))
  · rcases hg with hg | hg
    · exact .inl (own_mem.2 (.inr (.inl (hi ▸ hg))))
    · exact .inr (by omega)
  · exact .inl (own_mem.2 (.inr (.inr hi)))
 refine h.step (fun q=>q=p++[nm]∨q=p) (Nat.le_succ N) (fun q hq=>?_) (fun q hq=>?_) (fun q v hv hq i hi=>?_) (fun q x v hv hq=>?_) (fun q d' s' hq hv=>?_) (fun q v hq hv=>?_) (fun q r v u hq hv hu hne' i hi=>?_)
 · rw[hT,if_neg (fun e=>hq (.inl e))]
 · exact La_other (fun e=>hq (.inl e)) (fun e=>hq (.inr e))
 · exact hc.block i (h.lt ⟨q,v,hv,hi⟩) (fun e=>h.apart q p v _ hv hp (fun e=>hq (.inr e)) i hi e)
 · unfold kb
   rw[hT,if_neg (app_ne (fun e=>hq (.inr e))),La_b (app_ne (fun e=>hq (.inr e)))]
 · rcases hq with rfl | rfl
   · rw[hT,if_pos rfl] at hv
     injection hv with hv
     injection hv with h1 h2
     subst h1 h2
     rw[La_new]
     refine⟨⟨ty,(hc.block nb hlt (fun e=>hF (hFp _ e))).trans hnb⟩,⟨rfl,.inl ⟨rfl,rfl⟩⟩,fun x=>?_⟩
     unfold kb
     rw[hT,if_neg app_self,hkid]
     rfl
   · rw[hT,if_neg (fun e=>app_self e.symm),hp] at hv
     injection hv with hv
     injection hv with h1 h2
     subst h1 h2
     rw[La_up]
     refine⟨hN.box,hN.row,hN.map.congr fun x=>?_⟩
     unfold kb
     rw[hT]
     by_cases e:x=nm
     · subst e
       rw[if_pos rfl,if_pos rfl,La_new]
       rfl
     · rw[if_neg e,if_neg (fun e'=>e (app_inj e')),La_b (fun e'=>e (app_inj e'))]
 · rcases hq with rfl | rfl
   · rw[La_new]
     simp[own]
   · rw[La_up]
     have ho:=h.one _ _ hp
     rcases hg with hg | hg
     · have:(⟨(L q).b,(L q).A,(L q).c,some g⟩:Nd)=L q:=by rw[← hg]
       rw[this]
       exact ho
     · have hb:(L q).b < w.heap.size:=h.lt ⟨q,_,hp,own_mem.2 (.inl rfl)⟩
       have hA:∀ a,(L q).A=some a→a.block < w.heap.size:=fun a e=>h.lt ⟨q,_,hp,own_mem.2 (.inr (.inr (by rw[e];rfl)))⟩
       unfold own at ho ⊢
       cases hA':(L q).A with
       | none=>simp;omega
       | some a=>
         have:=hA a hA'
         rw[hA'] at ho
         simp at ho ⊢
         exact⟨⟨by omega,ho.1.2⟩,by omega⟩
 · rcases hq with rfl | rfl
   · rw[La_new] at hi
     have hi:i=nb:=by simpa [own] using hi
     subst hi
     rw[hT,if_neg hne'] at hu
     by_cases e:r=p
     · subst e
       intro hi'
       rcases hown _ hi' with h1 | h1
       · exact hF (hFp _ h1)
       · omega
     · rw[La_other hne' e]
       exact fun h1=>hF ⟨r,u,hu,h1⟩
   · intro hi'
     by_cases e:r=q++[nm]
     · subst e
       rw[La_new] at hi'
       have hi':i=nb:=by simpa [own] using hi'
       subst hi'
       rcases hown _ hi with h1 | h1
       · exact hF (hFp _ h1)
       · omega
     · rw[hT,if_neg e] at hu
       rw[La_other e hne'] at hi'
       rcases hown _ hi with h1 | h1
       · exact h.apart q r _ u hp hu (fun e=>hne' e.symm) i h1 hi'
       · have:=h.lt ⟨r,u,hu,hi'⟩
         omega
theorem Mem.mono {w:World} {N N':Nat} {t:List Th} {L:Nm→Nd} (h:Mem w N t L) (hN:N≤N'):Mem w N' t L:=
 ⟨fun p d s e=>⟨(h.nod p d s e).box,(h.nod p d s e).row,(h.nod p d s e).map.mono hN⟩,h.one,h.apart⟩
end Trk
end Go.Proofs.YtdafimdfbnphaaaGreatDoor
/- Texts. -/
namespace Go.Proofs.YtdafimdfbnphaaaGreatDoor
open Lib (hid)
open Go.RowKit Go.MapKept
namespace Trk
open Tre (Nm Th fi isDirAt dirT goT goF setT dropT fileT addT)
open Pat (Txs)
def TrkR (w:World) (N:Nat) (t:List Th) (L:Nm→Nd) (t':List Th) (w':World):Prop:=
 Chg (Fp t L) w w'∧∃ L',Mem w' (N+1) t' L'∧(L' []).b=(L []).b∧∀ i,Fp t' L' i→Fp t L i∨w.heap.size≤i
theorem TrkR.same {w w':World} {N:Nat} {t:List Th} {L:Nm→Nd} (h:Mem w N t L) (hb:Below w.heap.size w w'):TrkR w N t L t w':=
 ⟨Chg.of_below hb,L,(h.keep hb).mono (Nat.le_succ N),rfl,fun _ hi=>.inl hi⟩
theorem TrkR.after {w w1 w':World} {N:Nat} {t t':List Th} {L:Nm→Nd} (hb:Below w.heap.size w w1) (h:TrkR w1 N t L t' w'):TrkR w N t L t' w':=by
 obtain⟨h1,L',h2,h3,h4⟩:=h
 exact⟨Chg.after hb h1,L',h2,h3,fun i hi=>(h4 i hi).imp id (fun e=>Nat.le_trans hb.size e)⟩
def PutsR (w:World) (N:Nat) (t:List Th) (L:Nm→Nd) (nb:Nat) (t':List Th) (w':World):Prop:=
 Chg (Fp t L) w w'∧∃ L',Mem w' (N+1) t' L'∧(L' []).b=(L []).b∧∀ i,Fp t' L' i→Fp t L i∨i=nb∨w.heap.size≤i
theorem PutsR.same {w w':World} {N nb:Nat} {t:List Th} {L:Nm→Nd} (h:Mem w N t L) (hb:Below w.heap.size w w'):PutsR w N t L nb t w':=
 ⟨Chg.of_below hb,L,(h.keep hb).mono (Nat.le_succ N),rfl,fun _ hi=>.inl hi⟩
theorem fp_add {w:World} {t:List Th} {L:Nm→Nd} {p:Nm} {nm:ByteArray} {nb g:Nat} {d:Bool} {s:ByteArray} (hp:T t p=some (true,s)) (hn:T t (p++[nm])=none) (hg:Fp t L g∨g=w.heap.size) :
 ∀ i,Fp (t++[(p++[nm],d,ByteArray.empty)]) (La L p nm nb g) i→Fp t L i∨i=nb∨w.heap.size≤i:=by
 rintro i ⟨q,v,hv,hi⟩
 obtain⟨hne,hfi⟩:=T_no hn
 rw[T_app (x:=(p++[nm],d,ByteArray.empty)) hne hfi] at hv
 by_cases e:q=p++[nm]
 · subst e
   rw[La_new] at hi
   exact .inr (.inl (by simpa [own] using hi))
 · rw[if_neg e] at hv
   by_cases e':q=p
   · subst e'
     rw[La_up,own_mem] at hi
     simp only[Option.some.injEq] at hi
     rcases hi with hi | hi | hi
     · exact .inl ⟨q,_,hp,own_mem.2 (.inl hi)⟩
     · subst hi
       exact hg.imp id (fun e=>.inr (by omega))
     · exact .inl ⟨q,_,hp,own_mem.2 (.inr (.inr hi))⟩
   · rw[La_other e e'] at hi
     exact .inl ⟨q,v,hv,hi⟩
set_option maxRecDepth 100000 in
set_option maxHeartbeats 1000000 in
theorem put_any (w:World) (N b0 nb:Nat) (t:List Th) (L:Nm→Nd) (p:ByteArray) (d:Bool) (ty:TypeId) (hM:Mem w N t L) (hb:(L []).b=b0) (hW:Wf t) (hp:p.size < 4294967281) (hN:N≤1000000)
 (hnb:w.heap[nb]? = some (.cells #[.bool (!d),.slice none 0 0,.map none] ty (0,0))) (hF:¬ Fp t L nb) :
 Calls Tryz.prog 45 #[.pointer (some ⟨b0,0,none⟩),.string p,.pointer (some ⟨nb,0,none⟩)] w fun e w'=>e = .returned (.int .i64 (addT t p d).2)∧PutsR w N t L nb (addT t p d).1 w':=by
 have HM:=hid hM
 have hlt:=(Array.getElem?_eq_some_iff.1 hnb).1
 have HNB:=hid hnb
 have HL:=hid hlt
 have HF:=hid hF
 clear hM hnb hF hlt
 go_enter Tryz.func45,Tryz.ntmps45
 go_wp2_with fail
 refine (Pat.split_any w p hp).mono ?_
 rintro e w1 ⟨hb1,h1⟩
 have HB1:=hid hb1
 have HM1:=hid (HM.out.keep hb1)
 clear hb1
 rcases h1 with ⟨l,A,c,hs,rfl,hc,ht⟩ | ⟨hs,rfl⟩
 · have HS:=hid hs
   have HC:=hid hc
   have HI:=hid (spl_is hs)
   have HT:=hid ht
   clear hs ht hc
   rcases List.eq_nil_or_concat l with rfl | ⟨m,s,rfl⟩
   · have HZ:=hid (Tre.addT_root (t:=t) (d:=d) HS.out)
     simp only[List.length_nil]
     go_wp2_with fail
     refine (Pat.parent_no w1 A c).mono ?_
     rintro e w2 ⟨rfl,rfl⟩
     go_wp2
     refine bodyPost_ret (v:=.int .i64 5) ?_ rfl ⟨by rw[HZ.out],by rw[HZ.out];exact PutsR.same HM.out HB1.out⟩
     simp[results,Tryz.results45,go_sem]
   · rw[List.concat_eq_append] at *
     have hk:(m++[s]).take ((m++[s]).length - 1)=m:=by simp
     have hne:m++[s]≠[]:=by simp
     have HIm:=hid (show Pat.IsNames m from ⟨by have:=HI.out.1;simp at this;omega,fun z hz=>HI.out.2 z (by simp[hz])⟩)
     have hss:=right_len (HI.out.2 s (by simp))
     have hss2:s.size≤1000000:=by
      have:=(HI.out.2 s (by simp)).1.2
      rw[Crc.tx_len] at this
      omega
     have hml:m.length≤1000000:=by have:=HIm.out.1;omega
     have HG:=hid (fun h=>hk ▸ Tre.addT_go (t:=t) (d:=d) HS.out hne (hk.symm ▸ h))
     obtain⟨n,hn⟩:∃ n,n=(m++[s]).length:=⟨_,rfl⟩
     rw[← hn]
     have hn':n=m.length+1:=by rw[hn];simp
     obtain⟨k,hk'⟩:∃ k,k=m.length:=⟨_,rfl⟩
     rw[← hk'] at hn' hml
     have HPAR:=hid (Pat.parent_yes w1 A c n k m s HT.out hk'.symm hn' hml)
     have HKL:=hid hk'
     clear hn hn' hk'
     go_wp2_with fail
     refine HPAR.out.mono ?_
     rintro e w2 ⟨g,rfl,_,ho,hb2⟩
     have HB2:=hid (HB1.out.trans (hb2.mono HB1.out.size))
     have HM2:=hid (HM.out.keep HB2.out)
     have HO:=hid (Pat.Own.txs ho (fun z hz=>by have:=(HIm.out.2 z hz).1.2;rw[Crc.tx_len] at this;omega) (by have:=HKL.out;omega))
     have HFOL:=hid (follow_any w2 N b0 k k t L (some ⟨g,0,none⟩) m HM2.out hb HO.out HIm.out HKL.out.symm)
     clear ho hb2 HT HC HPAR
     go_wp2_with fail
     refine HFOL.out.mono ?_
     rintro e w3 ⟨rfl,rfl⟩
     by_cases hg:goT t m=0
     · obtain⟨⟨d',s'⟩,hv⟩:=goT_some hg
       have HGO:=hid (hk.symm ▸ hg:goT t ((m++[s]).take ((m++[s]).length - 1))=0)
       rw[gv_yes hg,hg]
       have HD:=hid (HM2.out.nod _ _ _ hv)
       have h0:=HD.out.c0
       have h2:=HD.out.c2
       have HV:=hid hv
       have HDI:=hid (hk.symm ▸ dirT_T hv:dirT t ((m++[s]).take ((m++[s]).length - 1))=d')
       have hlk:=HD.out.look s hss
       unfold pv
       clear hv hg HG
       cases d' with
       | false=>
         simp only[Bool.not_false] at h0
         have HZ:=hid (Tre.addT_file (t:=t) (d:=d) HS.out hne HGO.out HDI.out)
         clear hlk
         generalize hx:L m=x at *
         go_wp2
         refine bodyPost_ret (v:=.int .i64 6) ?_ rfl ⟨by rw[HZ.out],by rw[HZ.out];exact PutsR.same HM.out HB2.out⟩
         simp[results,Tryz.results45,go_sem]
       | true=>
         simp only[Bool.not_true] at h0
         unfold kb at hlk
         cases hv':T t (m++[s]) with
         | some u=>
           rw[hv'] at hlk
           simp only[Option.map_some,pv] at hlk
           obtain⟨i,hi⟩:=fi_of_T hne hv'
           have HZ:=hid (Tre.addT_there (t:=t) (d:=d) HS.out hne HGO.out HDI.out hi)
           clear hv' hi
           generalize hx:L m=x at *
           generalize hy:L (m++[s])=y at *
           go_wp2
           refine bodyPost_ret (v:=.int .i64 5) ?_ rfl ⟨by rw[HZ.out],by rw[HZ.out];exact PutsR.same HM.out HB2.out⟩
           simp[results,Tryz.results45,go_sem]
         | none=>
           rw[hv'] at hlk
           simp only[Option.map_none,pv] at hlk
           have HZ:=hid (Tre.addT_yes (t:=t) (d:=d) HS.out hne HGO.out HDI.out (T_no hv').2)
           have HVN:=hid hv'
           have HCL:=hid (clone_any w3 s hss2)
           clear hv'
           generalize hx:L m=x at *
           go_wp2_with fail
           refine HCL.out.mono ?_
           rintro e w5 ⟨rfl,hb3⟩
           have HB3:=hid (HB2.out.trans (hb3.mono HB2.out.size))
           have HM3:=hid (HM.out.keep HB3.out)
           have HPT:=hid (tput_any w5 N x (kb t L m) true s' s nb (HD.out.block fun i hi=>hb3.block i (HD.out.lt i hi)) (hx ▸ HM.out.one _ _ HV.out) hss hN)
           clear hb3
           go_wp2_with fail
           refine HPT.out.mono ?_
           rintro e w4 ⟨rfl,hr⟩
           have HR:=hid (show PutsR w N t L nb (t++[(m++[s],d,ByteArray.empty)]) w4 from by
            rw[← hx] at hr
            obtain⟨g',hg',hm4,hc4⟩:=HM3.out.add hW HV.out HVN.out (d:=d) (ty:=ty) ((HB3.out.block nb HL.out).trans HNB.out) HF.out hr
            refine⟨Chg.after HB3.out hc4,_,hm4,La_b (by simp),fun i hi=>?_⟩
            rcases fp_add HV.out HVN.out hg' i hi with h | h | h
            · exact .inl h
            · exact .inr (.inl h)
            · exact .inr (.inr (Nat.le_trans HB3.out.size h)))
           clear hr
           go_wp2
           refine bodyPost_ret (v:=.int .i64 0) ?_ rfl ⟨by rw[HZ.out],by rw[HZ.out];exact HR.out⟩
           simp[results,Tryz.results45,go_sem]
     · have HZ:=hid (HG.out hg)
       rw[gv_no hg]
       unfold pv
       clear HG
       generalize goT t m=g at *
       go_wp2
       refine bodyPost_ret (v:=.int .i64 g) ?_ rfl ⟨by rw[HZ.out],by rw[HZ.out];exact PutsR.same HM.out HB2.out⟩
       simp[results,Tryz.results45,go_sem]
 · have HZ:=hid (Tre.addT_none (t:=t) (d:=d) hs)
   clear hs
   go_wp2
   refine bodyPost_ret (v:=.int .i64 3) ?_ rfl ⟨by rw[HZ.out],by rw[HZ.out];exact PutsR.same HM.out HB1.out⟩
   simp[results,Tryz.results45,go_sem]
theorem PutsR.trk {w w1 w':World} {N nb:Nat} {t t':List Th} {L:Nm→Nd} (hb:Below w.heap.size w w1) (hn:w.heap.size≤nb) (h:PutsR w1 N t L nb t' w'):TrkR w N t L t' w':=by
 obtain⟨h1,L',h2,h3,h4⟩:=h
 refine⟨Chg.after hb h1,L',h2,h3,fun i hi=>?_⟩
 rcases h4 i hi with h | h | h
 · exact .inl h
 · exact .inr (h ▸ hn)
 · exact .inr (Nat.le_trans hb.size h)
section
variable (w : World) (N b0 : Nat) (t : List Th) (L : Nm → Nd) (p : ByteArray) (hM : Mem w N t L) (hb : (L []).b = b0) (hW : Wf t) (hp : p.size < 4294967281) (hN : N ≤ 1000000)
include hM hb hW hp hN
set_option maxRecDepth 100000 in
set_option maxHeartbeats 1000000 in
theorem create_any:Calls Tryz.prog 18 #[.pointer (some ⟨b0,0,none⟩),.string p] w fun e w'=>e = .returned (.int .i64 (addT t p false).2)∧TrkR w N t L (addT t p false).1 w':=by
 have hb1:=(Below.refl w.heap.size w).alloc (Nat.le_refl _) (.cells #[.bool true,.slice none 0 0,.map none] 96)
 have HM:=hid hM
 have HB1:=hid hb1
 have HP:=hid (put_any _ N b0 w.heap.size t L p false 96 (HM.out.keep hb1) hb hW hp hN (heap_alloc_new w _) (fun h=>by have:=HM.out.lt h;omega))
 clear hM hb1
 go_enter Tryz.func18,Tryz.ntmps18
 go_wp2_with fail
 refine HP.out.mono ?_
 rintro e w1 ⟨rfl,h1⟩
 have HR:=hid (PutsR.trk HB1.out (Nat.le_refl _) h1)
 clear h1
 generalize hg:(addT t p false).2=g
 have HG:=hid hg
 clear hg
 go_wp2
 refine bodyPost_ret (v:=.int .i64 g) ?_ rfl ⟨by rw[HG.out],HR.out⟩
 simp[results,Tryz.results18,go_sem]
set_option maxRecDepth 100000 in
set_option maxHeartbeats 1000000 in
theorem mkdir_any:Calls Tryz.prog 17 #[.pointer (some ⟨b0,0,none⟩),.string p] w fun e w'=>e = .returned (.int .i64 (addT t p true).2)∧TrkR w N t L (addT t p true).1 w':=by
 have hb1:=(Below.refl w.heap.size w).alloc (Nat.le_refl _) (.cells #[.bool false,.slice none 0 0,.map none] 96)
 have HM:=hid hM
 have HB1:=hid hb1
 have HP:=hid (put_any _ N b0 w.heap.size t L p true 96 (HM.out.keep hb1) hb hW hp hN (heap_alloc_new w _) (fun h=>by have:=HM.out.lt h;omega))
 clear hM hb1
 go_enter Tryz.func17,Tryz.ntmps17
 go_wp2_with fail
 refine HP.out.mono ?_
 rintro e w1 ⟨rfl,h1⟩
 have HR:=hid (PutsR.trk HB1.out (Nat.le_refl _) h1)
 clear h1
 generalize hg:(addT t p true).2=g
 have HG:=hid hg
 clear hg
 go_wp2
 refine bodyPost_ret (v:=.int .i64 g) ?_ rfl ⟨by rw[HG.out],HR.out⟩
 simp[results,Tryz.results17,go_sem]
end
end Trk
end Go.Proofs.YtdafimdfbnphaaaGreatDoor
/- Texts. -/
namespace Go.Proofs.YtdafimdfbnphaaaGreatDoor
open Go.RowKit Go.MapKept
namespace Trk
theorem zero_list (v:Value) (k:Nat):(Builtin.zeroCells #[v] k).toList=List.replicate k v:=by
 apply List.ext_getElem
 · simp[Builtin.zeroCells]
 · intro i h1 h2
   simp[Builtin.zeroCells,Nat.mod_one]
section
variable {P : Program}
theorem run_append_zeros (w:World) (base:Nat) (t tn ty e:TypeId) (i:TypeInfo) (z:Value) (kq kn:IntKind) (ht:P.underlying t=some (.slice e)) (htn:P.underlying tn=some (.int kn)) (hi:P.info? e=some i) (hz:i.zero=some z)
 (hsize:i.size=1) (hby:i.bytes=1) (hzs:z.cells=#[z]) (hz1:z.oneCell'=true) (v:Value) (n:Nat) (xs:List Value) (hown:w.ownsRow base e 1 v n xs) (k:Nat) (h0:0 < k) (hk:n+k≤1000000000) (hbase:base≤w.heap.size) :
 ∃ v' w',(Builtin.append_ #[t,tn] ty #[v,.int kq (k:Int)]).run P w = .ok v' w'∧w'.ownsRow base e 1 v' (n+k) (xs++List.replicate k z)∧w.grownBy w' v.ownBlock∧(v'.ownBlock=v.ownBlock∨v'.ownBlock=some w.heap.size):=by
 have hlen:(xs++List.replicate k z).length=(n+k) * 1:=by rw[List.length_append,hown.1,List.length_replicate,Nat.mul_one,Nat.mul_one]
 have grown:∀ (old:Nat) (row:Option Nat),
  (w.drew.alloc (.cells (xs.toArray++Builtin.zeroCells z.cells k++Builtin.zeroCells z.cells (grownCap w (n+k) old e - (n+k))) e)).ownsRow base e 1
    (.slice (some ⟨w.heap.size,0,none⟩) (n+k) (grownCap w (n+k) old e)) (n+k) (xs++List.replicate k z) ∧
  w.grownBy (w.drew.alloc (.cells (xs.toArray++Builtin.zeroCells z.cells k++Builtin.zeroCells z.cells (grownCap w (n+k) old e - (n+k))) e)) row:=by
  intro old row
  have hge:=grownCap_ge w (n+k) old e
  have hcm:grownCap w (n+k) old e≤maxLen:=grownCap_le_maxLen w (n+k) old e (by unfold maxLen;omega)
  have hxl:xs.length=n:=by have:=hown.1;omega
  refine⟨⟨hlen,.inr ⟨w.heap.size,_,_,rfl,hbase,heap_alloc_new w.drew _,hge,hcm,?_,?_⟩⟩,⟨rfl,rfl,rfl,by simp,fun k' hk' _=>Below.heap_alloc w.drew _ k' hk'⟩⟩
  · simp only[Array.size_append,List.size_toArray,size_zeroCells,hzs,hxl]
    simp
    omega
  · simp only[Array.toList_append,List.append_assoc]
    rw[← List.append_assoc,← hlen,hzs,zero_list]
    exact List.take_left
 rcases hown.2 with ⟨rfl,rfl⟩ | ⟨g,cap,cur,rfl,hbg,hg,hnc,hcm,hcs,htake⟩
 · have hx:xs=[]:=List.eq_nil_of_length_eq_zero (by simpa using hown.1)
   subst hx
   have hr:=Lib.run_append_nil_zeros (P:=P) w t tn ty e i z kq kn ht htn hi hz k h0 (by omega) (by omega) (by rw[hby];omega)
   have hgr:=grown 0 (Value.ownBlock (.slice none 0 0))
   simp only[Nat.zero_add,List.nil_append] at hgr ⊢
   exact⟨_,_,hr,by simpa using hgr.1,by simpa using hgr.2,.inr rfl⟩
 · have hxl:xs.length=n:=by have:=hown.1;omega
   by_cases hroom:n+k≤cap
   · have hst:=run_storeCells_at P g n e (List.replicate k z) 0 cur w hg (by rw[List.length_replicate,hcs];omega) (fun x hx=>by obtain⟨_,rfl⟩:=List.mem_replicate.1 hx;exact hz1)
     have hw:IntKind.i64.wrap (k:Int)=k:=by rw[IntKind.wrap_i64];omega
     have hadd:(⟨g,0,none⟩:Addr).add n=⟨g,n,none⟩:=by rw[Go.WideShapes.add_plain,Nat.zero_add]
     refine⟨.slice (some ⟨g,0,none⟩) (n+k) cap,w.setRow g (cur.toList.take (n+0)++List.replicate k z++cur.toList.drop (n+0+(List.replicate k z).length)).toArray,?_,⟨hlen,.inr ⟨g,cap,_,rfl,hbg,setRow_heap w g cur _ e _ hg,hroom,hcm,?_,?_⟩⟩,⟨rfl,rfl,rfl,by simp,fun k _ hk=>setRow_other w g k _ (fun e=>hk (by simp[Value.ownBlock,e]))⟩,.inl rfl⟩
     · have h1:¬ (281474976710656 < (k:Int)):=by omega
       have h2:¬ k=0:=by omega
       have h3:¬ ((k:Int) < 0):=by omega
       have hst':(storeCells ⟨g,n,none⟩ (List.replicate k z)).run P w=_:=hst
       simp[Builtin.append_,run_underlying ht,run_underlying htn,sizeOf,typeInfo,zeroValue,hi,hz,hsize,hby,asInt,asIntOf,hw,h1,h2,h3,hroom,hzs,zero_list,hadd,hst']
     · simp only[List.size_toArray,List.length_append,List.length_take,List.length_drop,Array.length_toList,List.length_replicate]
       omega
     · have ht':cur.toList.take (n+0)=xs:=by rw[Nat.add_zero,← htake,Nat.mul_one]
       rw[ht',← hlen]
       exact List.take_left
   · have holds:∀ j u,xs[j]? = some u→w.drew.cell? ((⟨g,0,none⟩:Addr).add j)=some u:=fun j u hu=>hown.cells (g:=g) rfl j u (by simpa using hu)
     have hl:=run_loadCells_list (P:=P) w.drew ⟨g,0,none⟩ xs holds
     have hr:=Lib.run_append_grow_zeros (P:=P) w t tn ty e i z kq kn ht htn hi hz (some ⟨g,0,none⟩) n cap xs (by
      unfold Builtin.firstCells
      rw[hsize,Nat.mul_one,← hxl]
      exact hl) k h0 (by omega) (by omega) (by omega) (by rw[hby];omega) (by
       rw[hby]
       have:=nextslicecap_le (show cap < n+k by omega)
       omega)
     have hgr:=grown cap (Value.ownBlock (.slice (some ⟨g,0,none⟩) n cap))
     exact⟨_,_,hr,hgr.1,hgr.2,.inr rfl⟩
end
theorem step_append_zeros {P:Program} {w w':World} {ops:Array Oper} {o:Oper} {a:Act} {K:Act→World→Prop} {Q:Exit→Act→World→Prop} {E:Prop} (hgd:o.guard=none) (s x:Operand) (t tn:TypeId)
 (ho:o.op = .call { callee:=.builtin .append,args:=#[s,x],argTypes:=#[t,tn] }) (v u v':Value) (hs:a.eval s=v) (hx:a.eval x=u) (hr:(Builtin.append_ #[t,tn] o.type #[v,u]).run P w = .ok v' w')
 (h:K (a.put o.dst v') w'):if Region.wanted o (yielded ops a.tmps)=true then Oper.wp P o a w K Q else E:=by
 have hw:Region.wanted o (yielded ops a.tmps)=true:=by simp[Region.wanted,hgd]
 rw[if_pos hw]
 unfold Oper.wp execOp
 simp only[ho,resolve,invoke,builtin,Sem.run_bind,Sem.run_pure,Result.andThen_ok,List.map_toArray,List.map_cons,List.map_nil,hs,hx,hr]
 exact h
end Trk
end Go.Proofs.YtdafimdfbnphaaaGreatDoor
