/- RecoverAny holds: for every input the law returns true, and its arguments read as they did. The condition: the library's tables math/bits.deBruijn64tab, unicode/utf8.acceptRanges and unicode/utf8.first (nothing of the last two is ever read) read as they are laid, which the card ties to the program's text. -/
import Derived.Test.YtlodpaaanfjkeaaGreatDoorKt13
import Derived.SevenTiedAt
import Derived.Test.YtlodpaaanfjkeaaGreatDoorKa1
import Derived.Test.YtlodpaaanfjkeaaGreatDoorKa2
import Derived.Test.YtlodpaaanfjkeaaGreatDoorKt1
import Derived.Test.YtlodpaaanfjkeaaGreatDoorKt2
import Derived.Test.YtlodpaaanfjkeaaGreatDoorKt3
import Derived.Test.YtlodpaaanfjkeaaGreatDoorKt4
import Derived.Test.YtlodpaaanfjkeaaGreatDoorKt5
import Derived.Test.YtlodpaaanfjkeaaGreatDoorKt6
import Derived.Test.YtlodpaaanfjkeaaGreatDoorKt7
import Derived.Test.YtlodpaaanfjkeaaGreatDoorKt8
import Derived.Test.YtlodpaaanfjkeaaGreatDoorKt9
import Derived.Test.YtlodpaaanfjkeaaGreatDoorKt10
import Derived.Test.YtlodpaaanfjkeaaGreatDoorKt11
import Derived.Test.YtlodpaaanfjkeaaGreatDoorKt12
namespace Go.Proofs.YtlodpaaanfjkeaaGreatDoor
open Go.ChangeShapes Go.WideShapes Go.ChangeAt Go.RowKit Go.Deep
set_option maxRecDepth 100000 in
theorem rcv_lifted (os:Os) (started:os.Started) (H:Type) (enc:TypeId × Value→H) :
 ReturnsInHanded {} Tryz.checked os 3 .any (fun w args=>(Rows.recoverAnySpec.pre enc Tryz.prog Tryz.f3 [] false w args∧laidMetH Tryz.prog lst w)∧sizedMet enc Tryz.prog Tryz.f3 (OpenSpec.ofChange Rows.recoverAnySpec) false w args)
  (Rows.recoverAnySpec.post enc Tryz.prog Tryz.f3 false true false false):=by
 refine returnsInHanded_of_change_and (C:=Tryz.checked) (X:=fun w _=>laidMetH Tryz.prog lst w) (fun _ _ _ hh h=>h.of_heap hh) ownKnob_none started (by kernel_rfl) Tryz.func3
  (ChangeSpec.witness_shaped (enc:=enc) (C:=Tryz.checked) (os:=os) (X:=fun w _=>laidMetH Tryz.prog lst w) false (World.laidAll Tryz.prog os lst) #[.slice none 0 0] 8 (World.laidAll_os _ _ _) (World.shaped_of_ZipB (by kernel_rfl) (by kernel_rfl)) (by kernel_rfl) (by kernel_rfl) (by kernel_rfl) (door_met os _)) ?_
 intro W base args ds gs before hval0 hW _ _ hL _
 have hval:∀ (j:Nat) t v,Tryz.f3.params[j]? = some t→args[j]? = some v→Value.okWide Tryz.prog W .any base t v:=hval0
 have hW':=hW
 obtain⟨p,q,hA0,hV,rfl,_,_⟩:=hW
 have hA:DataW.TrodAll enc Tryz.prog W 0 (fun _=>true) true Tryz.f3.params.toList args.toList ds p:=hA0
 rw[Tryz.params3] at hA hval
 obtain⟨v0,d0,rfl,rfl,h0⟩:=trodAll_one hA
 obtain⟨rfl,rfl⟩:=trodVars_none hV
 have k0:=h0
 have lt0:∀ x∈p,x.block < W.heap.size:=by obtain⟨m,hm⟩:=k0;exact DataW.trod_lt m _ _ _ hm
 obtain⟨y0,rfl,g0⟩:=Rcv.open_hnd (hval 0 22 v0 rfl rfl) h0
 have hT:=tab_of_laid hL
 refine (Rcv.any_law g0 hT).mono fun e W' ⟨he,hbel⟩=>?_
 subst he
 refine⟨_,rfl,_,_,_,[],p,[],hW',?_,?_,?_,hbel.frame _,fun h=>by cases h⟩
 · exact trodAll_mk1 (shut_bool Tryz.underlying4 _)
 · have:=trodAll_mk1 (Below.trod laidOut_try (by kernel_rfl) (of_decide_eq_true (by kernel_rfl)) k0 hbel lt0)
   exact this
 · rfl
theorem rcv_row:Rows.RecoverAnySaid:=
 OpenClaim.holds_of_wide 3 Tryz.f3 rfl rfl rfl rfl rfl rfl rfl ⟨rfl,rfl,rfl,rfl,rfl⟩ rfl rfl rfl rfl rfl (by kernel_rfl) Tryz.func3 (by kernel_rfl)
  (of_decide_eq_true (by kernel_rfl)) (by unfold Func.isWrapper;first | (rw[if_pos (by decide +kernel)];kernel_rfl) | (rw[if_neg (by decide +kernel)];exact⟨rfl,rfl⟩))
  (fun os started H enc _=>rcv_lifted os started H enc)
theorem rcv_holds:Rows.RecoverAnyCardSaid:=
 Claim7.holds_tied_plain_at .later [] [.data,.data,.pinned] true Rows.recoverAnyCard.stood.harness false
  rcv_row (fun _ h=>by cases h) (by kernel_rfl) (fun _ h=>by cases h) recoverAny_row_tie rfl ⟨rfl,rfl⟩ (by kernel_rfl) rfl
  (fun f fn hf hfn=>by
    obtain rfl : f = 3 := Option.some.inj ((show Tryz.prog.funcNamed "cantle/cantlelaw20.RecoverAny" = some 3 by kernel_rfl).symm.trans hf) |>.symm
    obtain rfl:fn=Tryz.f3:=(Option.some.inj (Tryz.func3.symm.trans hfn)).symm
    exact⟨by kernel_rfl,fun j t ht=>by
     rw[Tryz.params3] at ht
     have hm:t∈[22]:=by simpa using Array.mem_of_getElem? ht
     have hall:([22].all fun u=>!Tryz.prog.wantsStandIn u)=true:=by kernel_rfl
     exact (show Tryz.prog.wantsStandIn t=false by simpa using List.all_eq_true.1 hall t hm)⟩)
  (by kernel_rfl)
#print axioms rcv_holds
end Go.Proofs.YtlodpaaanfjkeaaGreatDoor
