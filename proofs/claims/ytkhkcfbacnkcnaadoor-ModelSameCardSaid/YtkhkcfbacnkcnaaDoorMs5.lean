/- Texts laid together: TrkItems, TrkAll, CrcSums, TrkLives, TrkOf, TrkTrunc, TrkAct, TrkOfW, TrkOfLaw, TrkDoM, TrkCopy, TrkOff, TrkMid, ModDo, ModRead, ModList, ModWrite. -/
import Derived.Test.YtkhkcfbacnkcnaaDoorMs4
import Derived.Test.YtkhkcfbacnkcnaaDoorMs2
import Derived.Deep.RegionHeld3
import Derived.Test.YtkhkcfbacnkcnaaDoorMs1
import Derived.BigCall
import Derived.Test.YtkhkcfbacnkcnaaDoorMs3
/- The program's items: all that is in a directory, in order. -/
namespace Go.Proofs.YtkhkcfbacnkcnaaDoor
open Go.RowKit Go.MapKept
namespace Trk
open Tre (Nm Th It Its eqI smT allT jnT kidL kidT)
open Pat (Txs)

/-- what a name brings -/
def FF (t : List Th) (k : Nat) (p : Nm) (x : ByteArray) : List Th := th t (p ++ [x]) :: sb k t (p ++ [x])
theorem sb_FF (k : Nat) (t : List Th) (p : Nm) : sb (k + 1) t p = (kidT t p).flatMap (FF t k p) := rfl
theorem FF_next (t : List Th) (k : Nat) (p : Nm) {j : Nat} (h : j < (kidT t p).length) : ((kidT t p).take (j + 1)).flatMap (FF t k p) = ((kidT t p).take j).flatMap (FF t k p) ++ FF t k p (kidT t p)[j] := by
  rw [List.take_succ_eq_append_getElem h, List.flatMap_append]
  simp
theorem part_len (t : List Th) (k : Nat) (p : Nm) (j : Nat) : (((kidT t p).take j).flatMap (FF t k p)).length ≤ (sb (k + 1) t p).length := by
  rw [sb_FF]
  conv => rhs; rw [← List.take_append_drop j (kidT t p), List.flatMap_append, List.length_append]
  omega
theorem tail_len : ∀ (ls : List (List UInt8)), (∀ x ∈ ls, x.length ≤ 48) → (Lib.joinTail [47] ls).length ≤ 49 * ls.length
  | [], _ => by simp [Lib.joinTail]
  | x :: ls, h => by
    have h1 := h x (by simp)
    have h2 := tail_len ls (fun y hy => h y (by simp [hy]))
    rw [Pat.joinTail_cons, List.length_cons, List.length_append, List.length_cons]
    omega
theorem jn_size {q : Nm} (h : Pat.IsNames q) : (jnT q).size ≤ 1000000 := by
  unfold Tre.jnT
  rw [if_pos h]
  unfold Pat.pth
  split
  · decide
  · have h1 := tail_len (q.map (·.data.toList)) (fun x hx => by
      obtain ⟨y, hy, rfl⟩ := List.mem_map.1 hx
      have := (h.2 y hy).1.2
      rw [Crc.tx_len] at this
      simpa using this)
    rw [List.length_map] at h1
    have h2 := h.1
    show (Lib.joinTail [47] (q.map (·.data.toList))).toArray.size ≤ 1000000
    rw [List.size_toArray]
    omega
theorem row_slice3 {W : World} {B n : Nat} {e : TypeId} {v : Value} {xs : List Value} (h : W.ownsRow B e 3 v n xs) : ∃ A c, v = .slice A n c := by
  rcases h.2 with ⟨rfl, rfl⟩ | ⟨g, cap, cur, rfl, _⟩
  · exact ⟨none, 0, rfl⟩
  · exact ⟨_, _, rfl⟩
theorem step_append_run3 {P : Program} {w w' : World} {ops : Array Oper} {o : Oper} {a : Act} {K : Act → World → Prop} {Q : Exit → Act → World → Prop} {E : Prop} (hgd : o.guard = none) (s x : Operand) (t : TypeId)
    (ho : o.op = .call { callee := .builtin .append, args := #[s, x], argTypes := #[t, t] }) (v u v' : Value) (hs : a.eval s = v) (hx : a.eval x = u) (hr : (Builtin.append_ #[t, t] o.type #[v, u]).run P w = .ok v' w')
    (h : K (a.put o.dst v') w') : if Region.wanted o (yielded ops a.tmps) = true then Oper.wp P o a w K Q else E := Tre.step_append_run hgd s x t ho v u v' hs hx hr h
theorem tells_len {its : List It} {l : List Th} (h : tells its = told l) : its.length = l.length := by
  have := congrArg List.length h
  simpa [tells, told] using this
end Trk
end Go.Proofs.YtkhkcfbacnkcnaaDoor
/- The program's All. -/
namespace Go.Proofs.YtkhkcfbacnkcnaaDoor
open Go.RowKit Go.MapKept
namespace Trk
open Tre (Nm Th It Its eqI smT allT jnT kidL kidT)

theorem tells_at {its : List It} {l : List Th} (h : tells its = told l) {j : Nat} (hj : j < its.length) (hl : j < l.length) : its[j].p = jnT l[j].1 ∧ its[j].d = l[j].2.1 ∧ its[j].b = Crc.tx l[j].2.2 := by
  have := congrArg (·[j]?) h
  simp only [tells, told, List.getElem?_map, List.getElem?_eq_getElem hj, List.getElem?_eq_getElem hl, Option.map_some, Option.some.injEq, Prod.mk.injEq] at this
  exact this
theorem tells_sm {its : List It} {t : List Th} (h : tells its = told (allT t)) : smT its t = true := by
  unfold Tre.smT
  refine decide_eq_true ⟨tells_len h, fun j hj hl => ?_⟩
  obtain ⟨h1, h2, h3⟩ := tells_at h hj hl
  exact ⟨h1, h2, by rw [h3, Ent.str_tx]⟩
end Trk
end Go.Proofs.YtkhkcfbacnkcnaaDoor
/- CrcSums, walked: both sums are the document's, as of all bytes in one. -/
namespace Go.Proofs.YtkhkcfbacnkcnaaDoor
open Go.RowKit Go.MapKept
namespace Crc

section
variable {w : World}
theorem str_append (l m : List Nat) : str (l ++ m) = str l ++ str m := by
  apply ByteArray.ext
  rw [ByteArray.data_append]
  simp [str]

theorem flat_len {ps : List Prt} (h : ∀ i (h : i < ps.length), ps[i].l.length ≤ 200) : (flat ps).length ≤ 200 * ps.length := by
  induction ps with
  | nil => simp [flat]
  | cons q ps ih =>
    have h0 := h 0 (by simp)
    have h1 := ih (fun i hi => by
      have := h (i + 1) (by simpa using hi)
      simpa using this)
    simp only [flat, List.flatMap_cons, List.length_append, List.length_cons, List.getElem_cons_zero] at *
    omega

theorem bts_text (W : World) (s : ByteArray) (cap : Nat) (fr : Nat × Nat) (hs : s.size < 1000000000000) : Bts (W.alloc (.cells (bytesRow s cap) 5 fr)) (some ⟨W.heap.size, 0, none⟩) (tx s) :=
  ⟨tx_byt s, by rw [tx_len]; omega, fun j hj => ⟨W.heap.size, 0, rfl, by simp, by
    rw [World.cell?_alloc_mark, Nat.zero_add]
    rw [tx_len] at hj
    rw [bytesRow_at s cap j hj]
    congr 2
    simp [tx]⟩⟩

/-- a text's bytes, anew -/
theorem conv_bytes (W : World) (l : List Nat) (hb : Byt l) (hl : l.length ≤ 4000) : ∃ (W2 : World) (gc : Nat), (convert 9 23 (.string (str l))).run Tryd.prog W = .ok (.slice (some ⟨W.heap.size, 0, none⟩) l.length gc) W2 ∧ Bts W2 (some ⟨W.heap.size, 0, none⟩) l ∧ Below W.heap.size W W2 := by
  have h := run_bytes_of_string (P := Tryd.prog) W 9 23 5 (str l) Tryd.underlying9 Tryd.underlying23 Tryd.underlying5
  have hz := str_size l
  have hbt := bts_text W.drew (str l) (grownCap W (str l).size 0 5) ((bytesRow (str l) (grownCap W (str l).size 0 5)).size, (bytesRow (str l) (grownCap W (str l).size 0 5)).size + 1) (by omega)
  rw [tx_str hb] at hbt
  refine ⟨_, grownCap W (str l).size 0 5, ?_, hbt, (Below.refl _ _).drew.alloc (Nat.le_refl _) _⟩
  rw [h, hz]

end
end Crc
end Go.Proofs.YtkhkcfbacnkcnaaDoor
/- Law 13's example. -/
namespace Go.Proofs.YtkhkcfbacnkcnaaDoor
open Go.RowKit Go.MapKept
namespace Trk
open Tre (Nm Th fi isDirAt dirT goT goF setT dropT fileT addT zt datT unlinkT rmdirT kidT kidL fv writeT wrT truncT readT)
open Pat (Txs)

/-- a tree of the call's own -/
def Own (w0 : World) (B N : Nat) (t : List Th) (b : Nat) (w : World) : Prop := ∃ L, Mem w N t L ∧ (L []).b = b ∧ (∀ i, Fp t L i → B ≤ i) ∧ Below B w0 w ∧ B ≤ w.heap.size
theorem Own.keep {w0 w w' : World} {B N b : Nat} {t : List Th} (h : Own w0 B N t b w) (hb : Below w.heap.size w w') : Own w0 B N t b w' := by
  obtain ⟨L, h1, h2, h3, h4, h5⟩ := h
  exact ⟨L, h1.keep hb, h2, h3, h4.trans (hb.mono h5), Nat.le_trans h5 hb.size⟩
theorem Own.step {w0 w w' : World} {B N b : Nat} {t t' : List Th} {L : Nm → Nd} (hF : ∀ i, Fp t L i → B ≤ i) (hb : (L []).b = b) (hB : Below B w0 w) (hs : B ≤ w.heap.size) (h : TrkR w N t L t' w') : Own w0 B (N + 1) t' b w' := by
  obtain ⟨h1, L', h2, h3, h4⟩ := h
  refine ⟨L', h2, h3.trans hb, fun i hi => (h4 i hi).elim (hF i) (fun e => Nat.le_trans hs e), hB.trans (h1.below hs hF), Nat.le_trans hs h1.size⟩
theorem own_new {w w' : World} (hm : Mem w' 0 [] (L0 w.heap.size)) (hb : Below w.heap.size w w') : Own w w.heap.size 0 [] w.heap.size w' := by
  refine ⟨_, hm, rfl, fun i hi => ?_, hb, hb.size⟩
  obtain ⟨p, v, _, hi⟩ := hi
  have : i = w.heap.size := by simpa [own, L0] using hi
  omega

def t1 : List Th := [([⟨#[97]⟩], true, ByteArray.empty)]
def t2 : List Th := [([⟨#[97]⟩], true, ByteArray.empty), ([⟨#[97]⟩, ⟨#[98]⟩], false, ByteArray.empty)]
def t3 : List Th := [([⟨#[97]⟩], true, ByteArray.empty), ([⟨#[97]⟩, ⟨#[98]⟩], false, ⟨#[0, 0, 120]⟩)]
theorem e1 : addT [] ⟨#[47, 97]⟩ true = (t1, 0) := by kernel_rfl
theorem e2 : addT t1 ⟨#[47, 97, 47, 98]⟩ false = (t2, 0) := by kernel_rfl
theorem e3 : writeT t2 ⟨#[47, 97, 47, 98]⟩ 2 (Crc.str [120]) = (t3, 0) := by kernel_rfl
theorem e4 : rmdirT t3 ⟨#[47, 97]⟩ = (t3, 8) := by kernel_rfl
theorem e5 : readT t3 ⟨#[47, 97, 47, 98]⟩ 0 9 = (⟨#[0, 0, 120]⟩, 0) := by kernel_rfl
theorem w1f : Wf t1 := by
  have := wf_nil.add ⟨#[47, 97]⟩ true
  rw [e1] at this
  exact this
theorem w2f : Wf t2 := by
  have := w1f.add ⟨#[47, 97, 47, 98]⟩ false
  rw [e2] at this
  exact this
theorem w3f : Wf t3 := by
  have := w2f.write ⟨#[47, 97, 47, 98]⟩ 2 (bs := [120]) (by unfold Crc.Byt; decide)
  rw [e3] at this
  exact this
theorem bts_mark (w : World) : Crc.Bts (w.alloc (.cells #[.int .u8 120] 5 (1, 2))) (some ⟨w.heap.size, 0, none⟩) [120] := by
  refine ⟨by unfold Crc.Byt; decide, by decide, fun j hj => ⟨w.heap.size, 0, rfl, by simp, ?_⟩⟩
  obtain rfl : j = 0 := by simpa using hj
  rw [World.cell?_alloc_mark]
  rfl
section
variable {w0 w : World} {B b : Nat}
theorem mkdir_ex (h : Own w0 B 0 [] b w) :
    Calls Tryd.prog 17 #[.pointer (some ⟨b, 0, none⟩), .string ⟨#[47, 97]⟩] w fun e w' => e = .returned (.int .i64 0) ∧ Own w0 B 1 t1 b w' := by
  obtain ⟨L, h1, h2, h3, h4, h5⟩ := h
  have h := mkdir_any w 0 b [] L ⟨#[47, 97]⟩ h1 h2 wf_nil (by decide) (by decide)
  rw [e1] at h
  exact h.mono fun e w' hr => ⟨hr.1, Own.step h3 h2 h4 h5 hr.2⟩
theorem create_ex (h : Own w0 B 1 t1 b w) :
    Calls Tryd.prog 18 #[.pointer (some ⟨b, 0, none⟩), .string ⟨#[47, 97, 47, 98]⟩] w fun e w' => e = .returned (.int .i64 0) ∧ Own w0 B 2 t2 b w' := by
  obtain ⟨L, h1, h2, h3, h4, h5⟩ := h
  have h := create_any w 1 b t1 L ⟨#[47, 97, 47, 98]⟩ h1 h2 w1f (by decide) (by decide)
  rw [e2] at h
  exact h.mono fun e w' hr => ⟨hr.1, Own.step h3 h2 h4 h5 hr.2⟩
theorem write_ex {w1 : World} (c : Nat) (h : Own w0 B 2 t2 b w) (hb : Below w.heap.size w w1) (hB : Crc.Bts w1 (some ⟨w.heap.size, 0, none⟩) [120]) :
    Calls Tryd.prog 19 #[.pointer (some ⟨b, 0, none⟩), .string ⟨#[47, 97, 47, 98]⟩, .int .i64 2, .slice (some ⟨w.heap.size, 0, none⟩) 1 c] w1 fun e w' => e = .returned (.int .i64 0) ∧ Own w0 B 3 t3 b w' := by
  obtain ⟨L, h1, h2, h3, h4, h5⟩ := h
  have h := wr_any w1 2 b t2 L ⟨#[47, 97, 47, 98]⟩ 2 1 c _ [120] (h1.keep hb) h2 w2f (by decide) rfl (by decide) hB (fun ad e _ hi => by injection e with e; subst e; have := h1.lt hi; simp at this)
  rw [e3] at h
  exact h.mono fun e w' hr => ⟨hr.1, Own.step h3 h2 (h4.trans (hb.mono h5)) (Nat.le_trans h5 hb.size) hr.2⟩
theorem rmdir_ex (h : Own w0 B 3 t3 b w) :
    Calls Tryd.prog 20 #[.pointer (some ⟨b, 0, none⟩), .string ⟨#[47, 97]⟩] w fun e w' => e = .returned (.int .i64 8) ∧ Own w0 B 4 t3 b w' := by
  obtain ⟨L, h1, h2, h3, h4, h5⟩ := h
  have h := rmdir_any w 3 b t3 L ⟨#[47, 97]⟩ h1 h2 w3f (by decide)
  rw [e4] at h
  exact h.mono fun e w' hr => ⟨hr.1, Own.step h3 h2 h4 h5 hr.2⟩
theorem read_ex (h : Own w0 B 4 t3 b w) :
    Calls Tryd.prog 21 #[.pointer (some ⟨b, 0, none⟩), .string ⟨#[47, 97, 47, 98]⟩, .int .i64 0, .int .i64 9] w fun e w' => ∃ (G : Option Addr) (gc : Nat), e = .returned (.tuple #[.slice G 3 gc, .int .i64 0]) ∧ Crc.Bts w' G [0, 0, 120] ∧ Below B w0 w' := by
  obtain ⟨L, h1, h2, h3, h4, h5⟩ := h
  have h := rd_any w 4 b t3 L ⟨#[47, 97, 47, 98]⟩ 0 9 h1 h2 w3f (by decide) (by decide) (by decide)
  rw [e5] at h
  refine h.mono ?_
  rintro e w' ⟨G, n, gc, rfl, hn, ho, hb'⟩
  obtain rfl : n = 3 := by rw [← hn]; rfl
  exact ⟨G, gc, rfl, Crc.own_bts ho (by unfold Crc.Byt; decide) (by decide), h4.trans (hb'.mono h5)⟩
end

set_option maxRecDepth 100000 in
set_option maxHeartbeats 1000000 in
theorem lives_any (w : World) : Calls Tryd.prog 12 #[] w fun e w' => e = .returned (.bool true) ∧ Below w.heap.size w w' := by
  have H0 := Lib.hid (new_any w)
  have H1 := Lib.hid Pat.lives_any
  go_enter Tryd.func12, Tryd.ntmps12
  go_wp2_with fail
  refine H0.out.mono ?_
  rintro e wa ⟨rfl, hm, hb, _⟩
  have HA := Lib.hid (own_new hm hb)
  clear hm hb H0
  generalize hbb : w.heap.size = b at *
  have HBB := Lib.hid hbb
  clear hbb
  go_wp2_with fail
  refine (H1.out _).mono ?_
  rintro e wb ⟨rfl, hb⟩
  have HB := Lib.hid (HA.out.keep hb)
  clear hb
  go_wp2_with fail
  refine (mkdir_ex HB.out).mono ?_
  rintro e wc ⟨rfl, hc⟩
  have HC := Lib.hid hc
  clear hc
  go_wp2_with fail
  refine (create_ex HC.out).mono ?_
  rintro e wd ⟨rfl, hd⟩
  have HD := Lib.hid hd
  clear hd
  have hcv := Crc.conv_new wd #[.int .u8 120] 1 1
  have HE := Lib.hid (write_ex 1 HD.out ((Below.refl _ wd).alloc (Nat.le_refl _) (.cells #[.int .u8 120] 5 (1, 2))) (bts_mark wd))
  go_wp2_with fail
  refine HE.out.mono ?_
  rintro e wf ⟨rfl, hf⟩
  have HF := Lib.hid hf
  clear hf
  go_wp2_with fail
  refine (rmdir_ex HF.out).mono ?_
  rintro e wg ⟨rfl, hg⟩
  have HG := Lib.hid hg
  clear hg
  go_wp2_with fail
  refine (read_ex HG.out).mono ?_
  rintro e wh ⟨G, gc2, rfl, hbt, hbh⟩
  have HH := Lib.hid hbh
  have hcs := Crc.conv_str gc2 hbt
  simp only [show Crc.str [0, 0, 120] = ⟨#[0, 0, 120]⟩ from rfl, List.length_cons, List.length_nil, Nat.zero_add] at hcs
  clear hbt hbh
  go_wp2
  go_ret
  exact ⟨rfl, by rw [HBB.out]; exact HH.out⟩
end Trk
end Go.Proofs.YtkhkcfbacnkcnaaDoor
/- The program's add, Of: a tree of items. -/
namespace Go.Proofs.YtkhkcfbacnkcnaaDoor
open Go.RowKit Go.MapKept
namespace Trk
open Tre (Nm Th It Its addT writeT fileT allT)

/-- a tree as deeds leave it -/
def TrkN (w : World) (N' : Nat) (t : List Th) (L : Nm → Nd) (t' : List Th) (w' : World) : Prop :=
  Chg (Fp t L) w w' ∧ ∃ L', Mem w' N' t' L' ∧ (L' []).b = (L []).b ∧ ∀ i, Fp t' L' i → Fp t L i ∨ w.heap.size ≤ i
theorem TrkR.to {w w' : World} {N N' : Nat} {t t' : List Th} {L : Nm → Nd} (h : TrkR w N t L t' w') (hN : N + 1 ≤ N') : TrkN w N' t L t' w' := by
  obtain ⟨h1, L', h2, h3⟩ := h
  exact ⟨h1, L', h2.mono hN, h3⟩
theorem TrkN.after {w w1 w' : World} {N' : Nat} {t t' : List Th} {L : Nm → Nd} (hb : Below w.heap.size w w1) (h : TrkN w1 N' t L t' w') : TrkN w N' t L t' w' := by
  obtain ⟨h1, L', h2, h3, h4⟩ := h
  exact ⟨Chg.after hb h1, L', h2, h3, fun i hi => (h4 i hi).imp id (fun e => Nat.le_trans hb.size e)⟩
theorem TrkN.then {w w1 w2 : World} {N2 : Nat} {t t1 t2 : List Th} {L L1 : Nm → Nd} (hc : Chg (Fp t L) w w1) (hf : ∀ i, Fp t1 L1 i → Fp t L i ∨ w.heap.size ≤ i) (hb : (L1 []).b = (L []).b) (h : TrkN w1 N2 t1 L1 t2 w2) : TrkN w N2 t L t2 w2 := by
  obtain ⟨h1, L2, h2, h3, h4⟩ := h
  exact ⟨hc.trans h1 hf, L2, h2, h3.trans hb, fun i hi => (h4 i hi).elim (hf i) (fun e => .inr (Nat.le_trans hc.size e))⟩
theorem bts_chg {w w' : World} {F : Nat → Prop} {A : Option Addr} {l : List Nat} (h : Crc.Bts w A l) (hc : Chg F w w') (hA : ∀ ad, A = some ad → l ≠ [] → ¬ F ad.block) : Crc.Bts w' A l :=
  ⟨h.byt, h.len, fun j hj => by
    obtain ⟨g, o, e, hlt, hcl⟩ := h.at' j hj
    have hg := hA _ e (fun h0 => by rw [h0] at hj; simp at hj)
    exact ⟨g, o, e, Nat.lt_of_lt_of_le hlt hc.size, (World.cell?_of_block (w := w) (a := ⟨g, o + j, none⟩) (hc.block g hlt hg)).trans hcl⟩⟩
theorem bts_blk {w : World} {A : Option Addr} {l : List Nat} (h : Crc.Bts w A l) {ad : Addr} (e : A = some ad) (h0 : l ≠ []) : ad.block < w.heap.size := by
  obtain ⟨b, o, e', hlt, _⟩ := h.at' 0 (List.length_pos_iff.2 h0)
  rw [e] at e'
  injection e' with e'
  rw [e']
  exact hlt
/-- an item's thing -/
def addI (t : List Th) (p : ByteArray) (d : Bool) (bs : List Nat) : List Th × Int :=
  if d = true then (if (addT t p true).2 ≠ 0 then addT t p true else if 0 < bs.length then ((addT t p true).1, 9) else ((addT t p true).1, 0))
  else (if (addT t p false).2 ≠ 0 then addT t p false else writeT (addT t p false).1 p 0 (Crc.str bs))
theorem Wf.addI {t : List Th} (hW : Wf t) (p : ByteArray) (d : Bool) {bs : List Nat} (hb : Crc.Byt bs) : Wf (addI t p d bs).1 := by
  unfold Trk.addI
  cases d with
  | true =>
    rw [if_pos rfl]
    split
    · exact hW.add p true
    · split <;> exact hW.add p true
  | false =>
    rw [if_neg (by decide)]
    split
    · exact hW.add p false
    · exact (hW.add p false).write p 0 hb
end Trk
end Go.Proofs.YtkhkcfbacnkcnaaDoor
/- The program's Truncate. -/
namespace Go.Proofs.YtkhkcfbacnkcnaaDoor
open Go.RowKit Go.MapKept
namespace Trk
open Tre (Nm Th fi isDirAt dirT goT goF setT dropT fileT addT zt datT truncT)
open Pat (Txs)

/-- other bytes in a thing's block -/
theorem Nod.setD {w : World} {N : Nat} {x : Nd} {f : ByteArray → Option Nat} {d : Bool} {s s' : ByteArray} (h : Nod w N x f d s) (h1 : (own x).Nodup) {A' : Option Addr} {n c' : Nat} (hn : s'.size = n) (ho : w.ownsRow 0 5 1 (.slice A' n c') n (Crc.u8s (Crc.tx s'))) (hne : ∀ a, A' = some a → a.block ≠ x.b) :
    Nod (w.setCell ⟨x.b, 1, none⟩ (.slice A' n c')) N ⟨x.b, A', c', x.m⟩ f d s' := by
  subst hn
  have hoth : ∀ k, k ≠ x.b → (w.setCell ⟨x.b, 1, none⟩ (.slice A' s'.size c')).heap[k]? = w.heap[k]? := fun k hk => Below.heap_setCell _ _ _ k hk
  refine ⟨?_, ?_, ?_⟩
  · obtain ⟨ty, hb⟩ := h.box
    exact ⟨ty, heap_setCell_same _ _ 1 _ _ (.slice A' s'.size c') hb⟩
  · rcases ho with ⟨r1, r2⟩
    refine ⟨r1, ?_⟩
    rcases r2 with r0 | ⟨q, cap, cur, e, hB, hh, hr⟩
    · exact .inl r0
    · have hA : A' = some ⟨q, 0, none⟩ := by injection e
      exact .inr ⟨q, cap, cur, e, hB, (hoth q (hne _ hA)).trans hh, hr⟩
  · have hk := h.map
    cases hm : x.m with
    | none => rw [hm] at hk; exact hk
    | some g =>
      rw [hm] at hk
      obtain ⟨D, hD⟩ := hk
      refine ⟨D, hD.block (hoth g (fun e => ?_))⟩
      unfold own at h1
      rw [hm] at h1
      simp [e] at h1
theorem Chg.set {F : Nat → Prop} (w : World) (b o : Nat) (v : Value) (h : F b) : Chg F w (w.setCell ⟨b, o, none⟩ v) :=
  ⟨rfl, rfl, rfl, by simp [World.setCell], fun k _ hk => Below.heap_setCell _ _ _ k (fun e => hk (e ▸ h))⟩
theorem own_A {x : Nd} {a : Addr} (h1 : (own x).Nodup) (hA : x.A = some a) : a.block ≠ x.b := fun e => by
  unfold own at h1
  rw [hA] at h1
  simp [e] at h1
/-- one deed behind another -/
theorem DatR.then {w w1 w2 : World} {N : Nat} {x : Nd} {f : ByteArray → Option Nat} {d : Bool} {s2 : ByteArray} {A1 : Option Addr} {c1 : Nat} (hA1 : ∀ a, A1 = some a → x.A.map (·.block) = some a.block ∨ w.heap.size ≤ a.block) (hc : Chg (· ∈ own x) w w1)
    (h : DatR w1 N ⟨x.b, A1, c1, x.m⟩ f d s2 w2) : DatR w N x f d s2 w2 := by
  obtain ⟨A2, c2, hN, hA2, hc2⟩ := h
  refine ⟨A2, c2, hN, fun a e => ?_, hc.trans hc2 (fun i hi => ?_)⟩
  · rcases hA2 a e with h | h
    · cases hA : A1 with
      | none => simp only [hA] at h; cases h
      | some a1 =>
        simp only [hA, Option.map_some, Option.some.injEq] at h
        rw [← h]
        exact hA1 a1 hA
    · exact .inr (Nat.le_trans hc.size h)
  · rw [own_mem] at hi
    simp only at hi
    rcases hi with hi | hi | hi
    · exact .inl (own_mem.2 (.inl hi))
    · exact .inl (own_mem.2 (.inr (.inl hi)))
    · cases hA : A1 with
      | none => rw [hA] at hi; cases hi
      | some a1 =>
        rw [hA] at hi
        simp only [Option.map_some, Option.some.injEq] at hi
        subst hi
        rcases hA1 a1 hA with h | h
        · exact .inl (own_mem.2 (.inr (.inr h)))
        · exact .inr h
/-- just so many bytes -/
def cut (s : ByteArray) (n : Nat) : ByteArray := (pad s n).extract 0 n
theorem pad_max (s : ByteArray) (n : Nat) : (pad s n).size = max s.size n := by
  by_cases h : s.size ≤ n
  · rw [pad_size h]; omega
  · rw [pad_none (by omega)]; omega
theorem cut_size (s : ByteArray) (n : Nat) : (cut s n).size = n := by
  unfold cut
  rw [ByteArray.size_extract, pad_max]
  omega
theorem tx_cut (s : ByteArray) (n : Nat) : Crc.tx (cut s n) = (Crc.tx (pad s n)).take n := by
  unfold cut
  rw [Ent.tx_extract]
  rfl
theorem cut_trunc (s : ByteArray) (n : Nat) : cut s n = if (s.size : Int) < (n : Int) then s ++ zt ((n : Int) - s.size).toNat else s.extract 0 (n : Int).toNat := by
  by_cases h : (s.size : Int) < (n : Int)
  · rw [if_pos h]
    apply Ent.tx_inj
    rw [tx_cut, List.take_of_length_le (by rw [Crc.tx_len, pad_max]; omega), tx_pad, tx_app, tx_zt, show ((n : Int) - s.size).toNat = n - s.size by omega]
  · rw [if_neg h]
    unfold cut
    rw [pad_none (by omega)]
    rfl

set_option maxRecDepth 100000 in
set_option maxHeartbeats 1000000 in
theorem resize_any (w : World) (N : Nat) (x : Nd) (f : ByteArray → Option Nat) (d : Bool) (s : ByteArray) (n : Nat) (h : Nod w N x f d s) (h1 : (own x).Nodup) (hs : s.size ≤ 268435456) (hn : n ≤ 268435456) :
    Calls Tryd.prog 91 #[.pointer (some ⟨x.b, 0, none⟩), .int .i64 (n : Int)] w fun e w' => e = .returned (.tuple #[]) ∧ DatR w N x f d (cut s n) w' := by
  have HG := Lib.hid (grow_any w N x f d s n h h1 hs hn)
  have H := Lib.hid h
  have H1 := Lib.hid h1
  clear h h1
  go_enter Tryd.func91, Tryd.ntmps91
  go_wp2_with fail
  refine HG.out.mono ?_
  rintro e w1 ⟨rfl, A1, c1, hN1, hA1, hc1⟩
  have ho1 := dat_nodup (c' := c1) H1.out (fun i hi => H.out.lt i hi) hA1
  obtain ⟨k, hk⟩ : ∃ k, k = (pad s n).size := ⟨_, rfl⟩
  have hkn : n ≤ k := by rw [hk, pad_max]; omega
  have hcell := hN1.c1
  have hfr := hN1.fr 1
  have hrow := hN1.row
  rw [← hk] at hcell hrow
  have hrow2 := own_shrink hrow hkn
  have hsh : (Crc.u8s (Crc.tx (pad s n))).take n = Crc.u8s (Crc.tx (cut s n)) := by
    rw [tx_cut]
    unfold Crc.u8s
    rw [List.map_take]
  rw [hsh] at hrow2
  have hkc : k ≤ c1 := by
    rcases hrow.2 with ⟨e, h0⟩ | ⟨g, cap, cur, e, _, _, h1, _⟩
    · omega
    · simp only [Value.slice.injEq] at e
      omega
  have HN2 := Lib.hid (Nod.setD hN1 ho1 (cut_size s n) hrow2 (fun a e => own_A ho1 e))
  have HA1 := Lib.hid hA1
  have HC1 := Lib.hid hc1
  have HO1 := Lib.hid ho1
  clear hN1 ho1 hA1 hc1 hrow hrow2 hsh hk
  have HFIN := Lib.hid (show DatR w N x f d (cut s n) (w1.setCell ⟨x.b, 1, none⟩ (.slice A1 n c1)) from ⟨A1, c1, HN2.out, HA1.out, HC1.out.trans (Chg.set (F := (· ∈ own x)) w1 x.b 1 _ (own_mem.2 (.inl rfl))) (fun _ h => .inl h)⟩)
  have hcs : (Crc.tx (cut s n)).length = n := by rw [Crc.tx_len, cut_size]
  have HCL := Lib.hid (bclone_any (w1.setCell ⟨x.b, 1, none⟩ (.slice A1 n c1)) A1 n c1 (Crc.tx (cut s n)) (Crc.own_bts (by have := HN2.out.row; rw [cut_size] at this; exact this) (tx_byt _) (by omega)) hcs (by omega))
  have HCC := Lib.hid (HC1.out.trans (Chg.set (F := (· ∈ own x)) w1 x.b 1 (.slice A1 n c1) (own_mem.2 (.inl rfl))) (fun _ h => .inl h))
  have HA2 := Lib.hid (show ∀ a, A1 = some a → x.A.map (·.block) = some a.block ∨ w.heap.size ≤ a.block from HA1.out)
  clear hcs
  go_wp2_with fail
  · generalize w1.setCell ⟨x.b, 1, none⟩ (.slice A1 n c1) = w2 at *
    refine HCL.out.mono ?_
    rintro e w3 ⟨G, gc, rfl, hro, hb3⟩
    have hcs : (Crc.tx (cut s n)).length = n := by rw [Crc.tx_len, cut_size]
    rw [hcs] at hro ⊢
    have hlt2 := HN2.out.lt
    have HN3 := HN2.out.block (w' := w3) (fun i hi => hb3.block i (hlt2 i hi))
    have hGb : ∀ a, G = some a → w2.heap.size ≤ a.block := fun a e => by
      rcases hro.2 with ⟨e', _⟩ | ⟨g, cap, cur, e', hB, _⟩
      · simp only [Value.slice.injEq] at e'
        rw [e] at e'
        cases e'.1
      · simp only [Value.slice.injEq] at e'
        rw [e] at e'
        injection e'.1 with e1
        rw [e1]
        exact hB
    have hxb := hlt2 x.b (own_mem.2 (.inl rfl))
    have HN4 := Nod.setD HN3 HO1.out (cut_size s n) (own_low hro (Nat.zero_le _)) (fun a e => by have := hGb a e; simp only; omega)
    have hcell3 := HN3.c1
    have hfr3 := HN3.fr 1
    rw [cut_size] at hcell3
    have HR := Lib.hid (show DatR w N x f d (cut s n) (w3.setCell ⟨x.b, 1, none⟩ (.slice G n gc)) from
      DatR.then HA2.out HCC.out ⟨G, gc, HN4, fun a e => .inr (hGb a e), (Chg.of_below hb3).trans (Chg.set (F := (· ∈ own (⟨x.b, A1, c1, x.m⟩ : Nd))) w3 x.b 1 _ (own_mem.2 (.inl rfl))) (fun _ h => .inl h)⟩)
    clear hro hb3 HN3 HN4 hGb hlt2 hcs
    go_wp2
    go_end0
    exact ⟨rfl, HR.out⟩
  · go_end0
    exact ⟨rfl, HFIN.out⟩
set_option maxRecDepth 100000 in
set_option maxHeartbeats 1000000 in
theorem trunc_any (w : World) (N b0 : Nat) (t : List Th) (L : Nm → Nd) (p : ByteArray) (x : Int) (hM : Mem w N t L) (hb : (L []).b = b0) (hW : Wf t) (hp : p.size < 4294967281) :
    Calls Tryd.prog 88 #[.pointer (some ⟨b0, 0, none⟩), .string p, .int .i64 x] w fun e w' => e = .returned (.int .i64 (truncT t p x).2) ∧ TrkR w N t L (truncT t p x).1 w' := by
  have HM := Lib.hid hM
  clear hM
  go_enter Tryd.func88, Tryd.ntmps88
  go_wp2_with fail
  refine (fileAt_any w N b0 t L p HM.out hb hp).mono ?_
  rintro e w1 ⟨hf, hb1⟩
  have HB1 := Lib.hid hb1
  have HM1 := Lib.hid (HM.out.keep hb1)
  clear hb1
  rcases hf with ⟨he, rfl⟩ | ⟨n, i, s, hf, rfl⟩
  · have HZ := Lib.hid (show truncT t p x = (t, (fileT t p).2) by unfold Tre.truncT; rw [if_pos he])
    generalize hg : (fileT t p).2 = g at *
    clear hg
    go_wp2
    refine bodyPost_ret (v := .int .i64 g) ?_ rfl ⟨by rw [HZ.out], by rw [HZ.out]; exact TrkR.same HM.out HB1.out⟩
    simp [results, Tryd.results88, go_sem]
  · obtain ⟨f1, f2, f3⟩ := fileT_file hf
    have HF := Lib.hid hf
    have HZ1 := Lib.hid (show truncT t p x = if x < 0 ∨ 268435456 < x then (t, 9) else (setT t i (if (s.size : Int) < x then s ++ zt (x - s.size).toNat else s.extract 0 x.toNat), 0) by unfold Tre.truncT; rw [if_neg (fun h => h f3), f1, f2])
    clear f1 f2 f3 hf
    by_cases hx : x < 0 ∨ 268435456 < x
    · have HZ := Lib.hid (HZ1.out.trans (if_pos hx))
      generalize L n = y at *
      by_cases hx0 : x < 0
      · clear hx
        go_wp2
        refine bodyPost_ret (v := .int .i64 9) ?_ rfl ⟨by rw [HZ.out], by rw [HZ.out]; exact TrkR.same HM.out HB1.out⟩
        simp [results, Tryd.results88, go_sem]
      · have hx1 : 268435456 < x := by omega
        clear hx
        go_wp2
        refine bodyPost_ret (v := .int .i64 9) ?_ rfl ⟨by rw [HZ.out], by rw [HZ.out]; exact TrkR.same HM.out HB1.out⟩
        simp [results, Tryd.results88, go_sem]
    · obtain ⟨a, rfl⟩ : ∃ a : Nat, x = (a : Int) := ⟨x.toNat, by omega⟩
      have hx0 : ¬ (a : Int) < 0 := by omega
      have hx1 : ¬ 268435456 < (a : Int) := by omega
      have HZ := Lib.hid (HZ1.out.trans (if_neg hx))
      have HN := Lib.hid (HM1.out.nod _ _ _ HF.out.at')
      have HTW := Lib.hid (resize_any w1 N (L n) (kb t L n) false s a HN.out (HM1.out.one _ _ HF.out.at') (hW.fsize HF.out.at') (by omega))
      clear hx
      generalize hy : L n = y at *
      go_wp2_with fail
      refine HTW.out.mono ?_
      rintro e w2 ⟨rfl, hr⟩
      have HR := Lib.hid (show TrkR w N t L (truncT t p (a : Int)).1 w2 from by
        rw [← hy] at hr
        refine TrkR.after HB1.out ?_
        rw [HZ.out, ← cut_trunc]
        obtain ⟨A', c', q1, q2, q3⟩ := HM1.out.dat HF.out.at' (t' := setT t i (cut s a)) (T_set HF.out.ne HF.out.fi HF.out.at' _) hr
        exact ⟨q2, _, q1.mono (Nat.le_succ N), Ld_b, q3⟩)
      clear hr
      go_wp2
      refine bodyPost_ret (v := .int .i64 0) ?_ rfl ⟨by rw [HZ.out], HR.out⟩
      simp [results, Tryd.results88, go_sem]
theorem Wf.trunc {t : List Th} (hW : Wf t) (p : ByteArray) (x : Int) : Wf (truncT t p x).1 := by
  unfold Tre.truncT
  by_cases he : (fileT t p).2 ≠ 0
  · rw [if_pos he]; exact hW
  · rw [if_neg he]
    obtain ⟨n, i, s, hf⟩ := file_yes (by simpa using he)
    obtain ⟨f1, f2, _⟩ := fileT_file hf
    rw [f1, f2]
    by_cases hx : x < 0 ∨ 268435456 < x
    · rw [if_pos hx]; exact hW
    · rw [if_neg hx]
      obtain ⟨a, rfl⟩ : ∃ a : Nat, x = (a : Int) := ⟨x.toNat, by omega⟩
      rw [← cut_trunc]
      refine hW.set hf.ne hf.fi hf.at' ?_
      rw [cut_size]
      omega
end Trk
end Go.Proofs.YtkhkcfbacnkcnaaDoor
/- Law 13's act: an act on the program's tree. -/
namespace Go.Proofs.YtkhkcfbacnkcnaaDoor
open Go.RowKit Go.MapKept
namespace Trk
open Tre (Nm Th addT writeT truncT unlinkT rmdirT readT listT doT)
open Pat (Txs)

/-- the answer of an act: a number, a text, names; the tree behind it -/
def ActR (w : World) (N : Nat) (t : List Th) (L : Nm → Nd) (r : List Th × Int × ByteArray × List ByteArray) (e : Ending) (w' : World) : Prop :=
  ∃ (G : Option Addr) (gc : Nat), e = .returned (.tuple #[.int .i64 r.2.1, .string r.2.2.1, .slice G r.2.2.2.length gc]) ∧ Txs w' G r.2.2.2 ∧ TrkN w (N + 1) t L r.1 w'
theorem TrkN.same {w w' : World} {N : Nat} {t : List Th} {L : Nm → Nd} (h : Mem w N t L) (hb : Below w.heap.size w w') : TrkN w (N + 1) t L t w' :=
  ⟨Chg.of_below hb, L, (h.keep hb).mono (Nat.le_succ N), rfl, fun _ hi => .inl hi⟩

theorem dat_small {t : List Th} (hW : Wf t) {p : ByteArray} (h : (Tre.fileT t p).2 = 0) : (Tre.datT t (Tre.fileT t p).1.toNat).size ≤ 268435456 := by
  obtain ⟨n, i, s, hf⟩ := file_yes h
  obtain ⟨h1, h2, _⟩ := fileT_file hf
  rw [h2]
  unfold Tre.datT
  cases hi : t[i]? with
  | none => simp
  | some x => exact hW.size x (List.mem_of_getElem? hi)
theorem read_small {t : List Th} (hW : Wf t) (p : ByteArray) (x n : Int) : (readT t p x n).1.size ≤ 268435456 := by
  unfold Tre.readT
  split
  · exact Nat.zero_le _
  · rename_i h
    split
    · exact Nat.zero_le _
    · have hs := dat_small hW (p := p) (by simpa using h)
      show (Tre.rdT _ x n).size ≤ _
      unfold Tre.rdT
      split
      · exact Nat.zero_le _
      · split <;> simp <;> omega
theorem list_small {t : List Th} (hW : Wf t) (p : ByteArray) : ∀ s ∈ (listT t p).1, s.size ≤ 1000 := by
  unfold Tre.listT
  split
  · intro s hs; simp at hs
  · rename_i n _
    split
    · intro s hs; simp at hs
    · split
      · intro s hs; simp at hs
      · intro s hs
        have h1 := (kidT_perm t n).mem_iff.1 hs
        unfold Tre.kidL at h1
        obtain ⟨y, hy, rfl⟩ := List.mem_map.1 h1
        obtain ⟨hy1, hy2⟩ := List.mem_filter.1 hy
        have hy2 := (of_decide_eq_true hy2).1
        have hn := (hW.nm y hy1).2.2 (y.1.getD n.length ByteArray.empty) (by
          rw [List.getD_eq_getElem?_getD, List.getElem?_eq_getElem (by omega)]
          exact List.getElem_mem _)
        have h3 := hn.1.2
        rw [Crc.tx_len] at h3
        omega
theorem list_len (t : List Th) (p : ByteArray) : (listT t p).1.length ≤ t.length := by
  unfold Tre.listT
  split
  · simp
  · split
    · simp
    · split
      · simp
      · rename_i n _ _ _
        show (Tre.kidT t n).length ≤ _
        rw [(kidT_perm t n).length_eq]
        unfold Tre.kidL
        rw [List.length_map]
        exact List.length_filter_le _ _

end Trk
end Go.Proofs.YtkhkcfbacnkcnaaDoor
/- The program's Of. -/
namespace Go.Proofs.YtkhkcfbacnkcnaaDoor
open Go.RowKit Go.MapKept
namespace Trk
open Tre (Nm Th It Its addT writeT fileT allT)

def stp (r : List Th × Int) (g : It) : List Th × Int := if r.2 ≠ 0 then r else addI r.1 g.p g.d g.b
/-- what items make, one by one, and what is wrong first -/
def ofS (its : List It) : List Th × Int := its.foldl stp ([], 0)
theorem ofS_take {its : List It} {j : Nat} (h : j < its.length) : ofS (its.take (j + 1)) = stp (ofS (its.take j)) its[j] := by
  unfold ofS
  rw [List.take_succ_eq_append_getElem h, List.foldl_append]
  rfl
theorem stp_stay : ∀ (its : List It) (r : List Th × Int), r.2 ≠ 0 → its.foldl stp r = r
  | [], _, _ => rfl
  | g :: its, r, h => by
    rw [List.foldl_cons]
    have : stp r g = r := if_pos h
    rw [this]
    exact stp_stay its r h
theorem ofS_stay {its : List It} {j : Nat} (h : (ofS (its.take j)).2 ≠ 0) : ofS its = ofS (its.take j) := by
  have e : ofS its = (its.drop j).foldl stp (ofS (its.take j)) := by
    unfold ofS
    rw [← List.foldl_append, List.take_append_drop]
  rw [e]
  exact stp_stay _ _ h
/-- items that may be handed in -/
structure Fit (its : List It) : Prop where
  len : its.length ≤ 1000
  ok : ∀ g ∈ its, g.p.size < 4294967281 ∧ g.b.length ≤ 1000000
theorem ofS_wf {its : List It} (hb : ∀ g ∈ its, Crc.Byt g.b) : ∀ j, Wf (ofS (its.take j)).1
  | 0 => by rw [List.take_zero]; exact wf_nil
  | j + 1 => by
    by_cases h : j < its.length
    · rw [ofS_take h]
      unfold stp
      split
      · exact ofS_wf hb j
      · exact (ofS_wf hb j).addI _ _ (hb _ (List.getElem_mem h))
    · rw [List.take_of_length_le (by omega), ← List.take_of_length_le (i := j) (l := its) (by omega)]
      exact ofS_wf hb j
end Trk
end Go.Proofs.YtkhkcfbacnkcnaaDoor
/- Law 13's TreeOf. -/
namespace Go.Proofs.YtkhkcfbacnkcnaaDoor
open Go.RowKit Go.MapKept
namespace Trk
open Tre (Nm Th It Its Tg Ths ths tv TrR Apart addT writeT fileT allT goT)

theorem add_len (t : List Th) (p : ByteArray) (d : Bool) : (addT t p d).1.length ≤ t.length + 1 := by
  unfold Tre.addT
  split <;> try (simp; done)
  split <;> try (simp; done)
  split <;> try (simp; done)
  split <;> try (simp; done)
  split <;> simp
theorem set_len (t : List Th) (i : Nat) (s : ByteArray) : (Tre.setT t i s).length = t.length := by
  have := congrArg List.length (setT_names t i s)
  simpa using this
theorem write_len (t : List Th) (p : ByteArray) (a : Int) (b : ByteArray) : (writeT t p a b).1.length = t.length := by
  unfold Tre.writeT
  split <;> try rfl
  split <;> try rfl
  split <;> try rfl
  exact set_len _ _ _
theorem addI_len (t : List Th) (p : ByteArray) (d : Bool) (bs : List Nat) : (addI t p d bs).1.length ≤ t.length + 1 := by
  unfold Trk.addI
  have h1 := add_len t p true
  have h2 := add_len t p false
  split
  · split
    · exact h1
    · split <;> exact h1
  · split
    · exact h2
    · rw [write_len]; exact h2
theorem ofS_len {its : List It} : ∀ j, (ofS (its.take j)).1.length ≤ j
  | 0 => by rw [List.take_zero]; exact Nat.le_refl _
  | j + 1 => by
    by_cases h : j < its.length
    · rw [ofS_take h]
      unfold stp
      have := ofS_len (its := its) j
      split
      · omega
      · have := addI_len (ofS (its.take j)).1 its[j].p its[j].d its[j].b
        omega
    · have := ofS_len (its := its) j
      rw [List.take_of_length_le (by omega), ← List.take_of_length_le (i := j) (l := its) (by omega)]
      omega
/-- what was made a file takes bytes -/
theorem add_file {t : List Th} (hW : Wf t) {p : ByteArray} (h : (addT t p false).2 = 0) : ∃ n i s, IsFile (addT t p false).1 p n i s := by
  cases hs : Pat.spl p with
  | none => rw [Tre.addT_none hs] at h; cases h
  | some n =>
    by_cases h0 : n = []
    · rw [h0] at hs
      rw [Tre.addT_root hs] at h; cases h
    · by_cases hg : goT t (n.take (n.length - 1)) = 0
      · obtain ⟨v, hv⟩ := goT_some hg
        have hd := dirT_T hv
        cases hv1 : v.1 with
        | false => rw [Tre.addT_file hs h0 hg (hd.trans hv1)] at h; cases h
        | true =>
          cases hf : Tre.fi t n with
          | some i => rw [Tre.addT_there hs h0 hg (hd.trans hv1) hf] at h; cases h
          | none =>
            have hw := hW.add p false
            rw [Tre.addT_yes hs h0 hg (hd.trans hv1) hf] at hw ⊢
            have hT : T (t ++ [(n, false, ByteArray.empty)]) n = some (false, ByteArray.empty) := by
              have := T_app (x := (n, false, ByteArray.empty)) h0 hf n
              rw [if_pos rfl] at this
              exact this
            obtain ⟨i, hi⟩ := is_file hs (hw.go hT) hT
            exact ⟨n, i, _, hi⟩
      · rw [Tre.addT_go hs h0 hg] at h; exact absurd h hg
theorem add_write {t : List Th} (hW : Wf t) {p : ByteArray} {b : ByteArray} (h : (addT t p false).2 = 0) (hb : b.size ≤ 1000) : (writeT (addT t p false).1 p 0 b).2 = 0 := by
  obtain ⟨n, i, s, hf⟩ := add_file hW h
  unfold Tre.writeT
  rw [if_neg (fun hh => hh (fileT_file hf).2.2), if_neg (by omega)]
  split <;> rfl

section
variable {P : Program} {ops : Array Oper} {Q : Exit → Act → World → Prop} {md : Region.Mode} {S : World → Prop}
/-- operation i of a region that draws is taken: it yields v into slot d -/
theorem op_yes (i d : Nat) (v : Value) {oi : Oper} {fuel : Nat} {listed : Array Bool} {a : Act} {w : World} (hi : ops[i]? = some oi) (hd : oi.dst = some d)
    (hs : Region.noSelect ops = true) (hf : Region.free md ops listed i = true) (hr : (Region.ready md ops listed).contains i = true)
    (hQ : ∀ c a w, Q (.panic c) (Act.put a (some d) v) w → Q (.panic c) a w) (hw : Region.wanted oi (yielded ops a.tmps) = true) (hy : ∀ w, S w → (execOp a.eval oi).run P w = .ok (.value v) w) (hS : S w)
    (h : wpAnyH P md ops Q S fuel (listed.setIfInBounds i true) (a.put (some d) v) w) : wpAnyH P md ops Q S (fuel + 1) listed a w :=
  wpAnyH_take hi hs hf hr (by rw [hd]; exact hQ) (Or.inl ⟨hw, hy⟩) hS (by rw [hd]; exact h)
/-- operation i of a region that draws is left out: its guard says so -/
theorem op_no (i d : Nat) {oi : Oper} {fuel : Nat} {listed : Array Bool} {a : Act} {w : World} (hi : ops[i]? = some oi) (hd : oi.dst = some d)
    (hs : Region.noSelect ops = true) (hf : Region.free md ops listed i = true) (hr : (Region.ready md ops listed).contains i = true)
    (hQ : ∀ c a w, Q (.panic c) (Act.put a (some d) undef) w → Q (.panic c) a w) (hw : Region.wanted oi (yielded ops a.tmps) = false) (hS : S w)
    (h : wpAnyH P md ops Q S fuel (listed.setIfInBounds i true) (a.put (some d) undef) w) : wpAnyH P md ops Q S (fuel + 1) listed a w :=
  wpAnyH_take hi hs hf hr (by rw [hd]; exact hQ) (Or.inr ⟨hw, rfl⟩) hS (by rw [hd]; exact h)
end

/-- the document's tree in its box -/
structure DS (w : World) (bw : Nat) (t : List Th) (A : Option Addr) (c : Nat) (l : List Tg) : Prop where
  row : Ths w A l
  eq : Tre.ths l = t
  nil : A = none → c = 0
  cap : l.length ≤ c
  apart : Apart bw A l
  lt : bw < w.heap.size
  cell : w.cell? ⟨bw, 0, none⟩ = some (.slice A l.length c)
  fr : w.frozen? ⟨bw, 0, none⟩ = false
theorem DS.keep {w w' : World} {bw : Nat} {t : List Th} {A : Option Addr} {c : Nat} {l : List Tg} (h : DS w bw t A c l) (hb : Below w.heap.size w w') : DS w' bw t A c l :=
  ⟨h.row.keep hb, h.eq, h.nil, h.cap, h.apart, Nat.lt_of_lt_of_le h.lt hb.size, (hb.cell (p := ⟨bw, 0, none⟩) h.lt).trans h.cell, (hb.frozen (p := ⟨bw, 0, none⟩) h.lt).trans h.fr⟩
theorem ds_new (w : World) (ty : TypeId) : DS (w.alloc (.cells #[.slice none 0 0] ty)) w.heap.size [] none 0 [] := by
  have r := World.rowIs_alloc w #[.slice none 0 0] ty (fun _ => .slice none 0 0) (fun j hj => by
    have : j < 1 := hj
    match j, this with
    | 0, _ => rfl)
  exact ⟨⟨by simp, fun g hg => by simp at hg, fun g hg => by simp at hg, fun j hj => by simp at hj⟩, rfl, fun _ => rfl, Nat.le_refl _, ⟨fun a e => (by cases e), fun g hg => (by simp at hg)⟩, by simp, r.cell (by simp), r.frozen 0⟩
/-- behind a call that answers a tree, stored in its box -/
theorem DS.put {w w2 : World} {bw : Nat} {t : List Th} {A : Option Addr} {c : Nat} {l : List Tg} {r : List Th × Int} {A' : Option Addr} {c' : Nat} {l' : List Tg} (h : DS w bw t A c l) (ht : Ths w2 A' l') (hl' : Tre.ths l' = r.1) (hA' : A' = none → c' = 0) (hc' : l'.length ≤ c') (hb : Below w.heap.size w w2) (hap : ∀ b, b < w.heap.size → Apart b A l → Apart b A' l') : DS (w2.setCell ⟨bw, 0, none⟩ (.slice A' l'.length c')) bw r.1 A' c' l' := by
  have ha := hap bw h.lt h.apart
  have hlt := Nat.lt_of_lt_of_le h.lt hb.size
  have hc := (hb.cell (p := ⟨bw, 0, none⟩) h.lt).trans h.cell
  refine ⟨Tre.ths_set ht ha 0 _, hl', hA', hc', ha, by simpa [World.setCell] using hlt, ?_, ?_⟩
  · exact World.cell?_setCell_same _ _ _ hc
  · exact (World.frozen?_setCell _ _ _ _).trans ((hb.frozen (p := ⟨bw, 0, none⟩) h.lt).trans h.fr)

end Trk
end Go.Proofs.YtkhkcfbacnkcnaaDoor
/- What acts make of the document's tree: it stays well formed, and grows by one thing at most. -/
namespace Go.Proofs.YtkhkcfbacnkcnaaDoor
open Go.RowKit Go.MapKept
namespace Trk
open Tre (Nm Th addT writeT truncT unlinkT rmdirT readT listT doT)

theorem Wf.doT {t : List Th} (hW : Wf t) (k : Nat) (p : ByteArray) (x n : Int) {bs : List Nat} (hb : Crc.Byt bs) : Wf (doT t k p x n (Crc.str bs)).1 := by
  unfold Tre.doT
  split
  · exact hW.add p false
  split
  · exact hW.add p true
  split
  · exact hW.write p x hb
  split
  · exact hW.trunc p x
  split
  · exact hW.unlink p
  split
  · exact hW.rmdir p
  split <;> exact hW
theorem drop_len (t : List Th) (i : Nat) : (Tre.dropT t i).length ≤ t.length := by
  first
    | (unfold Tre.dropT; simp; done)
    | (unfold Tre.dropT; simp; omega)
theorem doT_len (t : List Th) (k : Nat) (p : ByteArray) (x n : Int) (v : ByteArray) : (doT t k p x n v).1.length ≤ t.length + 1 := by
  unfold Tre.doT
  split
  · exact add_len t p false
  split
  · exact add_len t p true
  split
  · exact Nat.le_trans (Nat.le_of_eq (write_len t p x v)) (Nat.le_succ _)
  split
  · show (truncT t p x).1.length ≤ _
    unfold Tre.truncT
    split <;> try exact Nat.le_succ _
    split <;> try exact Nat.le_succ _
    exact Nat.le_trans (Nat.le_of_eq (set_len _ _ _)) (Nat.le_succ _)
  split
  · show (unlinkT t p).1.length ≤ _
    unfold Tre.unlinkT
    split <;> try exact Nat.le_succ _
    exact Nat.le_trans (drop_len _ _) (Nat.le_succ _)
  split
  · show (rmdirT t p).1.length ≤ _
    unfold Tre.rmdirT
    split <;> try exact Nat.le_succ _
    split <;> try exact Nat.le_succ _
    split <;> try exact Nat.le_succ _
    split <;> try exact Nat.le_succ _
    split <;> try exact Nat.le_succ _
    exact Nat.le_trans (drop_len _ _) (Nat.le_succ _)
  split <;> exact Nat.le_succ _
end Trk
end Go.Proofs.YtkhkcfbacnkcnaaDoor
/- A copy of bytes of the call's own; a store of a byte in it. -/
namespace Go.Proofs.YtkhkcfbacnkcnaaDoor
open Go.RowKit Go.MapKept
namespace Trk
theorem u8_parts : ∃ i0, Tryd.prog.info? 5 = some i0 ∧ i0.zero = some (.int .u8 0) ∧ i0.size = 1 ∧ i0.bytes = 1 := Pat.info_parts Crc.u8_info
theorem bts_news' {W : World} {ad : Addr} {l : List Nat} (h : Crc.Bts W (some ad) l) : ∀ j u, (Crc.u8s l)[j]? = some u → W.cell? (ad.add j) = some u := by
  intro j u hu
  have hj : j < l.length := by
    have := (List.getElem?_eq_some_iff.1 hu).1
    simpa [Crc.u8s] using this
  obtain ⟨b, o, e, _, hc⟩ := h.at' j hj
  injection e with e
  subst e
  rw [Go.WideShapes.add_plain, hc, ← hu]
  simp [Crc.u8s, List.getElem?_map, List.getElem?_eq_getElem hj]
/-- a copy of bytes: a row of the call's own -/
theorem copy_own {W : World} {A : Option Addr} {l : List Nat} (c : Nat) (h : Crc.Bts W A l) (hA : A = none → c = 0) (hl : l.length ≤ 1000000) :
    ∃ (G : Option Addr) (gc : Nat) (w' : World), (Builtin.append_ #[23, 23] 23 #[.slice (some ⟨W.heap.size, 0, none⟩) 0 0, .slice A l.length c]).run Tryd.prog (W.alloc (.cells #[] 5)) = .ok (.slice G l.length gc) w' ∧ w'.ownsRow W.heap.size 5 1 (.slice G l.length gc) l.length (Crc.u8s l) ∧ Below W.heap.size W w' := by
  obtain ⟨i0, hi0, hz0, hz1, hz2⟩ := u8_parts
  have hown : (W.alloc (.cells #[] 5)).ownsRow W.heap.size 5 1 (.slice (some ⟨W.heap.size, 0, none⟩) 0 0) 0 [] := World.ownsRow_made W #[] 0 (Nat.le_refl _) (by unfold maxLen; omega) rfl
  have hb := (Below.refl W.heap.size W).alloc (Nat.le_refl _) (.cells #[] 5)
  cases A with
  | none =>
    have hl0 : l = [] := by
      cases l with
      | nil => rfl
      | cons b l =>
        obtain ⟨_, _, e, _⟩ := h.at' 0 (by simp)
        cases e
    subst hl0
    rw [hA rfl]
    exact ⟨_, _, _, run_append_owned_none (P := Tryd.prog) _ W.heap.size 23 23 5 i0 1 Tryd.underlying23 hi0 _ 0 [] hown, hown, hb⟩
  | some ad =>
    obtain ⟨v', w', hr, h2, h3, _, _⟩ := run_append_own_at (P := Tryd.prog) (W.alloc (.cells #[] 5)) W.heap.size 23 23 5 i0 (.int .u8 0) 1 1 Tryd.underlying23 hi0 hz0 hz1 hz2 rfl (by decide) _ 0 [] hown ad l.length c (Crc.u8s l) (by simp [Crc.u8s]) (bts_news' (h.alloc _)) (Crc.u8s_one l) (by unfold maxLen; omega) (by omega) (by simp)
    rw [Nat.zero_add, List.nil_append] at h2
    obtain ⟨G, gc, rfl⟩ := Crc.row_slice h2
    exact ⟨G, gc, w', hr, h2, hb.grown h3 (by simp) (fun k hk => Crc.row_base_lt hown hk)⟩
end Trk
end Go.Proofs.YtkhkcfbacnkcnaaDoor
/- What stays where only some blocks are changed: names, the document's tree; the state of a law that plays on both trees. -/
namespace Go.Proofs.YtkhkcfbacnkcnaaDoor
open Go.RowKit Go.MapKept
namespace Trk
open Tre (Nm Th Tg Ths ths tv Apart)
open Pat (Txs)

theorem txs_chg {w w' : World} {F : Nat → Prop} {A : Option Addr} {l : List ByteArray} (h : Txs w A l) (hc : Chg F w w') (hA : ∀ a, A = some a → l ≠ [] → ¬ F a.block) : Txs w' A l :=
  ⟨h.size, h.len, fun j hj => by
    obtain ⟨g, o, e, hlt, hcl⟩ := h.at' j hj
    have hg := hA _ e (fun h0 => by rw [h0] at hj; simp at hj)
    exact ⟨g, o, e, Nat.lt_of_lt_of_le hlt hc.size, (World.cell?_of_block (w := w) (a := ⟨g, o + j, none⟩) (hc.block g hlt hg)).trans hcl⟩⟩
theorem ths_chg {w w' : World} {F : Nat → Prop} {A : Option Addr} {l : List Tg} (h : Ths w A l) (hc : Chg F w w') (ha : ∀ i, F i → Apart i A l) : Ths w' A l :=
  ⟨h.len, fun g hg => ⟨txs_chg (h.nm g hg).1 hc (fun a e h0 hf => (ha _ hf).2 g hg a e h0 rfl), (h.nm g hg).2⟩, h.sz, fun j hj => by
    obtain ⟨b, o, e, hlt, h0, h1, h2⟩ := h.at' j hj
    have hb := hc.block b hlt (fun hf => (ha _ hf).1 _ e (fun h0 => by rw [h0] at hj; simp at hj) rfl)
    exact ⟨b, o, e, Nat.lt_of_lt_of_le hlt hc.size, (World.cell?_of_block (w := w) (a := ⟨b, o + j * 3, none⟩) hb).trans h0, (World.cell?_of_block (w := w) (a := ⟨b, o + j * 3 + 1, none⟩) hb).trans h1, (World.cell?_of_block (w := w) (a := ⟨b, o + j * 3 + 2, none⟩) hb).trans h2⟩⟩
theorem DS.chg {w w' : World} {F : Nat → Prop} {bw : Nat} {t : List Th} {A : Option Addr} {c : Nat} {l : List Tg} (h : DS w bw t A c l) (hc : Chg F w w') (ha : ∀ i, F i → Apart i A l) (hb : ¬ F bw) : DS w' bw t A c l :=
  ⟨ths_chg h.row hc ha, h.eq, h.nil, h.cap, h.apart, Nat.lt_of_lt_of_le h.lt hc.size, (World.cell?_of_block (w := w) (a := ⟨bw, 0, none⟩) (hc.block bw h.lt hb)).trans h.cell, (World.frozen?_of_block (w := w) (a := ⟨bw, 0, none⟩) (hc.block bw h.lt hb)).trans h.fr⟩
theorem own_chg {w w' : World} {F : Nat → Prop} {B n s : Nat} {t : TypeId} {v : Value} {xs : List Value} (h : w.ownsRow B t s v n xs) (hc : Chg F w w') (hv : ∀ g, v.ownBlock = some g → ¬ F g) : w'.ownsRow B t s v n xs := by
  rcases h with ⟨h1, h2⟩
  refine ⟨h1, ?_⟩
  rcases h2 with h0 | ⟨g, cap, cur, rfl, hB, hh, hr⟩
  · exact .inl h0
  · exact .inr ⟨g, cap, cur, rfl, hB, (hc.block g (Array.getElem?_eq_some_iff.1 hh).1 (hv g rfl)).trans hh, hr⟩
/-- names stay where a cell that is no text is stored -/
theorem txs_off {w : World} {G : Option Addr} {n : List ByteArray} {b o : Nat} {v : Value} (h : Txs w G n) (hc : w.cell? ⟨b, o, none⟩ = some v) (hv : ∀ s, v ≠ .string s) (u : Value) : Txs (w.setCell ⟨b, o, none⟩ u) G n :=
  ⟨h.size, h.len, fun j hj => by
    obtain ⟨b', o', e, hlt, hx⟩ := h.at' j hj
    refine ⟨b', o', e, by simpa [World.setCell] using hlt, ?_⟩
    rw [World.cell?_setCell_other _ _ _ _ (fun e => by
      rw [← e] at hx
      exact hv _ (Option.some.inj (hc.symm.trans hx)))]
    exact hx⟩
theorem Mem.chg {w w' : World} {F : Nat → Prop} {N : Nat} {t : List Th} {L : Nm → Nd} (h : Mem w N t L) (hc : Chg F w w') (hF : ∀ i, Fp t L i → ¬ F i) : Mem w' N t L := h.block fun i hi => hc.block i (h.lt hi) (hF i hi)

/-- both trees: the program's, which lies at bt, and the document's, in its box bw; w0 is the world ahead of both -/
structure Both (w0 w : World) (N bt bw : Nat) (t : List Th) (L : Nm → Nd) (A : Option Addr) (c : Nat) (l : List Tg) : Prop where
  mem : Mem w N t L
  root : (L []).b = bt
  wf : Wf t
  ds : DS w bw t A c l
  fp : ∀ i, Fp t L i → w0.heap.size ≤ i ∧ Apart i A l ∧ i ≠ bw
  bw0 : w0.heap.size ≤ bw
  below : Below w0.heap.size w0 w
theorem Both.keep {w0 w w' : World} {N bt bw : Nat} {t : List Th} {L : Nm → Nd} {A : Option Addr} {c : Nat} {l : List Tg} (h : Both w0 w N bt bw t L A c l) (hb : Below w.heap.size w w') : Both w0 w' N bt bw t L A c l :=
  ⟨h.mem.keep hb, h.root, h.wf, h.ds.keep hb, h.fp, h.bw0, h.below.trans (hb.mono h.below.size)⟩
/-- where a block of neither is changed -/
theorem Both.off {w0 w w' : World} {N bt bw g : Nat} {t : List Th} {L : Nm → Nd} {A : Option Addr} {c : Nat} {l : List Tg} (h : Both w0 w N bt bw t L A c l) (hc : Chg (fun i => i = g) w w') (hg : ¬ Fp t L g) (ha : Apart g A l) (hb : g ≠ bw) (h0 : w0.heap.size ≤ g) : Both w0 w' N bt bw t L A c l :=
  ⟨h.mem.chg hc (fun _ hi e => hg (e ▸ hi)), h.root, h.wf, h.ds.chg hc (fun _ e => e ▸ ha) (fun e => hb e.symm), h.fp, h.bw0, h.below.trans (hc.below h.below.size (fun _ e => e ▸ h0))⟩
theorem both_len {w0 w : World} {N bt bw : Nat} {t : List Th} {L : Nm → Nd} {A : Option Addr} {c : Nat} {l : List Tg} (h : Both w0 w N bt bw t L A c l) : l.length = t.length := by
  have := congrArg List.length h.ds.eq
  simpa using this
/-- at the start -/
theorem both_new {w0 w2 w3 : World} (hb : Below w0.heap.size w0 w2) (hm : Mem w3 0 [] (L0 w2.heap.size)) (hb3 : Below w2.heap.size w2 w3) (hs : w3.heap.size = w2.heap.size + 1) (ty : TypeId) : Both w0 (w3.alloc (.cells #[.slice none 0 0] ty)) 0 w2.heap.size w3.heap.size [] (L0 w2.heap.size) none 0 [] := by
  have h0 := hb.size
  have hbb := hb.trans (hb3.mono h0)
  refine ⟨hm.keep ((Below.refl _ _).alloc (Nat.le_refl _) _), rfl, wf_nil, ds_new w3 ty, fun i hi => ?_, by omega, hbb.alloc (by omega) _⟩
  obtain ⟨p, v, _, hi⟩ := hi
  have hi : i = w2.heap.size := by simpa [own, L0] using hi
  subst hi
  exact ⟨h0, ⟨fun a e => (by cases e), fun g hg => (by simp at hg)⟩, by omega⟩

/-- an act in a box of its own -/
structure Abx (w : World) (b k : Nat) (p : ByteArray) (x n : Int) (A : Option Addr) (m c : Nat) : Prop where
  lt : b < w.heap.size
  c0 : w.cell? ⟨b, 0, none⟩ = some (.int .u8 (k : Int))
  c1 : w.cell? ⟨b, 1, none⟩ = some (.string p)
  c2 : w.cell? ⟨b, 2, none⟩ = some (.int .i64 x)
  c3 : w.cell? ⟨b, 3, none⟩ = some (.int .i64 n)
  c4 : w.cell? ⟨b, 4, none⟩ = some (.slice A m c)
  fr : w.frozen? ⟨b, 4, none⟩ = false
theorem Abx.chg {w w' : World} {F : Nat → Prop} {b k : Nat} {p : ByteArray} {x n : Int} {A : Option Addr} {m c : Nat} (h : Abx w b k p x n A m c) (hc : Chg F w w') (hb : ¬ F b) : Abx w' b k p x n A m c := by
  have hx := hc.block b h.lt hb
  exact ⟨Nat.lt_of_lt_of_le h.lt hc.size, (World.cell?_of_block (w := w) (a := ⟨b, 0, none⟩) hx).trans h.c0, (World.cell?_of_block (w := w) (a := ⟨b, 1, none⟩) hx).trans h.c1, (World.cell?_of_block (w := w) (a := ⟨b, 2, none⟩) hx).trans h.c2, (World.cell?_of_block (w := w) (a := ⟨b, 3, none⟩) hx).trans h.c3, (World.cell?_of_block (w := w) (a := ⟨b, 4, none⟩) hx).trans h.c4, (World.frozen?_of_block (w := w) (a := ⟨b, 4, none⟩) hx).trans h.fr⟩
theorem Abx.keep {w w' : World} {b k : Nat} {p : ByteArray} {x n : Int} {A : Option Addr} {m c : Nat} (h : Abx w b k p x n A m c) (hb : Below w.heap.size w w') : Abx w' b k p x n A m c := h.chg (Chg.of_below (F := fun _ => False) hb) (fun h => h)
theorem abx_new (w : World) (k : Nat) (p : ByteArray) (x n : Int) (A : Option Addr) (m c : Nat) (t : TypeId) : Abx (w.alloc (.cells #[.int .u8 (k : Int), .string p, .int .i64 x, .int .i64 n, .slice A m c] t)) w.heap.size k p x n A m c := by
  have r := World.rowIs_alloc w #[.int .u8 (k : Int), .string p, .int .i64 x, .int .i64 n, .slice A m c] t (fun j => (#[.int .u8 (k : Int), .string p, .int .i64 x, .int .i64 n, .slice A m c] : Array Value)[j]!) (fun j hj => by
    have : j < 5 := hj
    match j, this with
    | 0, _ => rfl
    | 1, _ => rfl
    | 2, _ => rfl
    | 3, _ => rfl
    | 4, _ => rfl)
  exact ⟨by simp, Crc.alloc_cell w _ t 0, Crc.alloc_cell w _ t 1, Crc.alloc_cell w _ t 2, Crc.alloc_cell w _ t 3, Crc.alloc_cell w _ t 4, r.frozen 4⟩
/-- its bytes are others from here on -/
theorem Abx.put {w : World} {b k : Nat} {p : ByteArray} {x n : Int} {A : Option Addr} {m c : Nat} (h : Abx w b k p x n A m c) (B : Option Addr) (m' c' : Nat) : Abx (w.setCell ⟨b, 4, none⟩ (.slice B m' c')) b k p x n B m' c' := by
  have o : ∀ j v, j ≠ 4 → w.cell? ⟨b, j, none⟩ = some v → (w.setCell ⟨b, 4, none⟩ (.slice B m' c')).cell? ⟨b, j, none⟩ = some v := fun j v hj hv => by
    rw [World.cell?_setCell_other _ _ _ _ (fun e => by injection e with _ e; omega)]
    exact hv
  exact ⟨by simpa [World.setCell] using h.lt, o 0 _ (by decide) h.c0, o 1 _ (by decide) h.c1, o 2 _ (by decide) h.c2, o 3 _ (by decide) h.c3, World.cell?_setCell_same _ _ _ h.c4, (World.frozen?_setCell _ _ _ _).trans h.fr⟩
theorem chg_set (w : World) (b o : Nat) (v : Value) : Chg (fun i => i = b) w (w.setCell ⟨b, o, none⟩ v) :=
  ⟨rfl, rfl, rfl, by simp, fun k _ hk => heap_setCell_other w ⟨b, o, none⟩ k v hk⟩
end Trk
end Go.Proofs.YtkhkcfbacnkcnaaDoor
/- Both trees behind an act on the document's, and behind one on the program's; a byte more. -/
namespace Go.Proofs.YtkhkcfbacnkcnaaDoor
open Go.RowKit Go.MapKept
namespace Trk
open Tre (Nm Th It Its Tg Ths ths tv TrR Apart Ac Acs FewA fewA doT DoR Fr)
open Pat (Txs)

/-- the block that an address is in -/
def Gb (G : Option Addr) (i : Nat) : Prop := ∃ a, G = some a ∧ i = a.block
/-- where other blocks than theirs are changed -/
theorem Both.offF {w0 w w' : World} {F : Nat → Prop} {N bt bw : Nat} {t : List Th} {L : Nm → Nd} {A : Option Addr} {c : Nat} {l : List Tg} (h : Both w0 w N bt bw t L A c l) (hc : Chg F w w') (hF : ∀ i, F i → ¬ Fp t L i ∧ Apart i A l ∧ i ≠ bw ∧ w0.heap.size ≤ i) : Both w0 w' N bt bw t L A c l :=
  ⟨h.mem.chg hc (fun i hi hf => (hF i hf).1 hi), h.root, h.wf, h.ds.chg hc (fun i hf => (hF i hf).2.1) (fun hf => (hF _ hf).2.2.1 rfl), h.fp, h.bw0, h.below.trans (hc.below h.below.size (fun i hf => (hF i hf).2.2.2))⟩
/-- the program's tree as it was, the document's behind an act -/
structure Mid (w0 w5 w : World) (N bt bw : Nat) (t : List Th) (L : Nm → Nd) (t' : List Th) (A : Option Addr) (c : Nat) (l : List Tg) : Prop where
  mem : Mem w N t L
  root : (L []).b = bt
  ds : DS w bw t' A c l
  fp : ∀ i, Fp t L i → i < w5.heap.size ∧ w0.heap.size ≤ i ∧ Apart i A l ∧ i ≠ bw
  bw0 : w0.heap.size ≤ bw
  below : Below w0.heap.size w0 w
  size : w5.heap.size ≤ w.heap.size
theorem Both.doc {w0 w5 w6 : World} {N bt bw : Nat} {t : List Th} {L : Nm → Nd} {A : Option Addr} {c : Nat} {l : List Tg} {r : List Th × Int} {A2 : Option Addr} {c2 : Nat} {l2 : List Tg} (h : Both w0 w5 N bt bw t L A c l) (ht : Ths w6 A2 l2) (hl : ths l2 = r.1) (hA : A2 = none → c2 = 0) (hc : l2.length ≤ c2) (hb : Below w5.heap.size w5 w6) (hap : ∀ b, b < w5.heap.size → Apart b A l → Apart b A2 l2) (O : Obj) :
    Mid w0 w5 ((w6.setCell ⟨bw, 0, none⟩ (.slice A2 l2.length c2)).alloc O) N bt bw t L r.1 A2 c2 l2 := by
  have hz := (Below.refl (w6.setCell ⟨bw, 0, none⟩ (.slice A2 l2.length c2)).heap.size (w6.setCell ⟨bw, 0, none⟩ (.slice A2 l2.length c2))).alloc (Nat.le_refl _) O
  have hbl := (h.below.trans (hb.mono h.below.size)).setCell (p := ⟨bw, 0, none⟩) h.bw0 (.slice A2 l2.length c2)
  refine ⟨((h.mem.keep hb).chg (chg_set w6 bw 0 _) (fun i hi e => (h.fp i hi).2.2 e)).keep hz, h.root, (h.ds.put ht hl hA hc hb hap).keep hz, fun i hi => ?_, h.bw0, hbl.trans (hz.mono hbl.size), ?_⟩
  · have h1 := h.mem.lt hi
    exact ⟨h1, (h.fp i hi).1, hap i h1 (h.fp i hi).2.1, (h.fp i hi).2.2⟩
  · have := hb.size
    simp [World.setCell]
    omega
theorem Mid.act {w0 w5 w7 w8 : World} {N N' bt bw : Nat} {t : List Th} {L : Nm → Nd} {t' : List Th} {A : Option Addr} {c : Nat} {l : List Tg} (h : Mid w0 w5 w7 N bt bw t L t' A c l) (hW : Wf t') (hr : TrkN w7 N' t L t' w8) : ∃ L', Both w0 w8 N' bt bw t' L' A c l ∧ ∀ i, Fp t' L' i → Fp t L i ∨ w7.heap.size ≤ i := by
  obtain ⟨hc, L', hm, hb, hf⟩ := hr
  refine ⟨L', ⟨hm, hb.trans h.root, hW, h.ds.chg hc (fun i hi => (h.fp i hi).2.2.1) (fun hi => (h.fp _ hi).2.2.2 rfl), fun i hi => ?_, h.bw0, h.below.trans (hc.below h.below.size (fun i hi => (h.fp i hi).2.1))⟩, hf⟩
  rcases hf i hi with h1 | h1
  · exact (h.fp i h1).2
  · refine ⟨Nat.le_trans h.below.size h1, h.ds.row.apart h1, fun e => ?_⟩
    have := h.ds.lt
    omega
theorem gb_row {w : World} {B n c : Nat} {t : TypeId} {G : Option Addr} {xs : List Value} (h : w.ownsRow B t 1 (.slice G n c) n xs) {i : Nat} (hi : Gb G i) : B ≤ i ∧ i < w.heap.size := by
  obtain ⟨a, rfl, rfl⟩ := hi
  rcases h.2 with ⟨e, hn⟩ | ⟨g, cap, cur, e, hB, hh, _⟩
  · cases e
  · injection e with e
    injection e with e
    subst e
    exact ⟨hB, (Array.getElem?_eq_some_iff.1 hh).1⟩
theorem u8_plus (x : Nat) (hx : x < 256) : ∃ y : Nat, y < 256 ∧ IntKind.u8.wrap ((x : Int) + 1) = (y : Int) := by
  by_cases h : x = 255
  · subst h
    exact ⟨0, by omega, rfl⟩
  · exact ⟨x + 1, by omega, by rw [IntKind.wrap_u8]; omega⟩
theorem u8s_set (l : List Nat) (i y : Nat) : (Crc.u8s l).set i (.int .u8 (y : Int)) = Crc.u8s (l.set i y) := by
  unfold Crc.u8s
  rw [List.map_set]
theorem byt_set {l : List Nat} (h : Crc.Byt l) (i : Nat) {y : Nat} (hy : y < 256) : Crc.Byt (l.set i y) := fun b hb => by
  rcases List.mem_or_eq_of_mem_set hb with h1 | h1
  · exact h b h1
  · rw [h1]; exact hy
end Trk
end Go.Proofs.YtkhkcfbacnkcnaaDoor
/- The program's model: a deed done. -/
namespace Go.Proofs.YtkhkcfbacnkcnaaDoor
open Go.RowKit Go.MapKept
namespace Mod
open Tre (Nm Th addT writeT truncT unlinkT rmdirT readT listT doT)
open Trk (Mem Nd Wf Fp Chg TrkN TrkR Gb)
open Pat (Txs)

/-- what a deed makes of a tree; its error, the bytes, the names that are answered -/
def doM (t : List Th) (k : Int) (p : ByteArray) (x n : Int) (v : ByteArray) : List Th × Int × ByteArray × List ByteArray :=
  if 0 ≤ k ∧ k ≤ 7 then doT t k.toNat p x n v else (t, 1, ⟨#[]⟩, [])
/-- a deed's answer, and the tree behind it -/
def ModR (w : World) (N : Nat) (t : List Th) (L : Nm → Nd) (r : List Th × Int × ByteArray × List ByteArray) (e : Ending) (w' : World) : Prop :=
  ∃ (y : An), e = .returned y.val ∧ y.e = r.2.1 ∧ Crc.str y.d = r.2.2.1 ∧ y.n = r.2.2.2 ∧ AnOk w' y ∧ Chg (Fp t L) w w' ∧ ∃ L', Mem w' (N + 1) r.1 L' ∧ (L' []).b = (L []).b ∧ (∀ i, Fp r.1 L' i → Fp t L i ∨ w.heap.size ≤ i) ∧ ∀ i, Gb y.a i ∨ Gb y.g i → w.heap.size ≤ i ∧ i < w'.heap.size ∧ ¬ Fp r.1 L' i
/-- the deed's box, the answer's -/
abbrev bxD (w : World) (k : Int) (p : ByteArray) (x n : Int) (B : Option Addr) (m d : Nat) : World := (w.alloc (.cells #[.int .i64 k, .string p, .int .i64 x, .int .i64 n, .slice B m d] 40)).alloc (.cells #[.int .i64 0, .slice none 0 0, .slice none 0 0] 26)

theorem m_create (n : Nat) (a : Addr) (w : World) : (method (n + 1) 35 (.pointer (some a)) "Create").run Tryd.prog w = .ok (18, .pointer (some a)) w := by kernel_rfl
theorem m_mkdir (n : Nat) (a : Addr) (w : World) : (method (n + 1) 35 (.pointer (some a)) "Mkdir").run Tryd.prog w = .ok (17, .pointer (some a)) w := by kernel_rfl
theorem m_write (n : Nat) (a : Addr) (w : World) : (method (n + 1) 35 (.pointer (some a)) "Write").run Tryd.prog w = .ok (19, .pointer (some a)) w := by kernel_rfl
theorem m_truncate (n : Nat) (a : Addr) (w : World) : (method (n + 1) 35 (.pointer (some a)) "Truncate").run Tryd.prog w = .ok (88, .pointer (some a)) w := by kernel_rfl
theorem m_unlink (n : Nat) (a : Addr) (w : World) : (method (n + 1) 35 (.pointer (some a)) "Unlink").run Tryd.prog w = .ok (89, .pointer (some a)) w := by kernel_rfl
theorem m_rmdir (n : Nat) (a : Addr) (w : World) : (method (n + 1) 35 (.pointer (some a)) "Rmdir").run Tryd.prog w = .ok (20, .pointer (some a)) w := by kernel_rfl
theorem m_read (n : Nat) (a : Addr) (w : World) : (method (n + 1) 35 (.pointer (some a)) "Read").run Tryd.prog w = .ok (21, .pointer (some a)) w := by kernel_rfl
theorem m_list (n : Nat) (a : Addr) (w : World) : (method (n + 1) 35 (.pointer (some a)) "List").run Tryd.prog w = .ok (87, .pointer (some a)) w := by kernel_rfl

/-- the answer's box, as it was made -/
structure AnB (w : World) (b : Nat) : Prop where
  lt : b < w.heap.size
  c0 : w.cell? ⟨b, 0, none⟩ = some (.int .i64 0)
  c1 : w.cell? ⟨b, 1, none⟩ = some (.slice none 0 0)
  c2 : w.cell? ⟨b, 2, none⟩ = some (.slice none 0 0)
  f0 : w.frozen? ⟨b, 0, none⟩ = false
  f1 : w.frozen? ⟨b, 1, none⟩ = false
  f2 : w.frozen? ⟨b, 2, none⟩ = false
theorem AnB.chg {w w' : World} {F : Nat → Prop} {b : Nat} (h : AnB w b) (hc : Chg F w w') (hb : ¬ F b) : AnB w' b := by
  have hx := hc.block b h.lt hb
  exact ⟨Nat.lt_of_lt_of_le h.lt hc.size, (World.cell?_of_block (w := w) (a := ⟨b, 0, none⟩) hx).trans h.c0, (World.cell?_of_block (w := w) (a := ⟨b, 1, none⟩) hx).trans h.c1, (World.cell?_of_block (w := w) (a := ⟨b, 2, none⟩) hx).trans h.c2, (World.frozen?_of_block (w := w) (a := ⟨b, 0, none⟩) hx).trans h.f0, (World.frozen?_of_block (w := w) (a := ⟨b, 1, none⟩) hx).trans h.f1, (World.frozen?_of_block (w := w) (a := ⟨b, 2, none⟩) hx).trans h.f2⟩
theorem anb_new (w : World) (t : TypeId) : AnB (w.alloc (.cells #[.int .i64 0, .slice none 0 0, .slice none 0 0] t)) w.heap.size := by
  have r := World.rowIs_alloc w #[.int .i64 0, .slice none 0 0, .slice none 0 0] t (fun j => (#[.int .i64 0, .slice none 0 0, .slice none 0 0] : Array Value)[j]!) (fun j hj => by
    have : j < 3 := hj
    match j, this with
    | 0, _ => rfl
    | 1, _ => rfl
    | 2, _ => rfl)
  exact ⟨by simp, Crc.alloc_cell w _ t 0, Crc.alloc_cell w _ t 1, Crc.alloc_cell w _ t 2, r.frozen 0, r.frozen 1, r.frozen 2⟩
/-- an answer without bytes and names, stored -/
theorem mod_fin0 {w w1 w2 w3 : World} {N b : Nat} {t t' : List Th} {L : Nm → Nd} (hM : Mem w N t L) (hB : Below w.heap.size w w1) (hb0 : w.heap.size ≤ b) (hb1 : b < w1.heap.size) (htr : TrkN w1 (N + 1) t L t' w2) (hc : Chg (fun i => i = b) w2 w3) (z : Int) :
    ModR w N t L (t', z, ⟨#[]⟩, []) (.returned (.agg #[.int .i64 z, .slice none 0 0, .slice none 0 0])) w3 := by
  obtain ⟨h1, L', h2, h3, h4⟩ := htr
  refine ⟨⟨z, none, 0, [], none, 0, []⟩, rfl, rfl, rfl, rfl, ⟨⟨fun b hb => by simp at hb, by simp, fun j hj => by simp at hj⟩, Pat.txs_nil _ _⟩, (Chg.after hB h1).trans hc (fun i e => .inr (by rw [e]; exact hb0)), L', h2.chg hc (fun i hi e => ?_), h3, fun i hi => (h4 i hi).imp id (fun e => Nat.le_trans hB.size e), fun i hi => ?_⟩
  · subst e
    rcases h4 _ hi with h | h
    · have := hM.lt h
      omega
    · omega
  · rcases hi with ⟨a, e, _⟩ | ⟨a, e, _⟩ <;> cases e
/-- an answer of new memory, the tree as it was -/
theorem mod_fin1 {w w3 : World} {N : Nat} {t : List Th} {L : Nm → Nd} (hM : Mem w N t L) (hB : Below w.heap.size w w3) (y : An) (hy : AnOk w3 y) (hg : ∀ i, Gb y.a i ∨ Gb y.g i → w.heap.size ≤ i ∧ i < w3.heap.size) {z : Int} {s : ByteArray} {nm : List ByteArray} (h1 : y.e = z) (h2 : Crc.str y.d = s) (h3 : y.n = nm) :
    ModR w N t L (t, z, s, nm) (.returned y.val) w3 :=
  ⟨y, rfl, h1, h2, h3, hy, Chg.of_below hB, L, (hM.keep hB).mono (Nat.le_succ N), rfl, fun _ hi => .inl hi, fun i hi => ⟨(hg i hi).1, (hg i hi).2, fun hf => by have := hM.lt hf; have := (hg i hi).1; omega⟩⟩

theorem anb_at (w : World) (k : Int) (p : ByteArray) (x n : Int) (B : Option Addr) (m d b1 : Nat) (hb1 : b1 = w.heap.size + 1) : AnB (bxD w k p x n B m d) b1 := by
  have := anb_new (w.alloc (.cells #[.int .i64 k, .string p, .int .i64 x, .int .i64 n, .slice B m d] 40)) 26
  rw [show (w.alloc (.cells #[.int .i64 k, .string p, .int .i64 x, .int .i64 n, .slice B m d] 40)).heap.size = b1 by rw [hb1]; simp] at this
  exact this
theorem chg_set3 (w : World) (b : Nat) (v0 v1 v2 : Value) : Chg (fun i => i = b) w (((w.setCell ⟨b, 0, none⟩ v0).setCell ⟨b, 1, none⟩ v1).setCell ⟨b, 2, none⟩ v2) :=
  ((Trk.chg_set w b 0 v0).trans (Trk.chg_set _ b 1 v1) (fun _ h => .inl h)).trans (Trk.chg_set _ b 2 v2) (fun _ h => .inl h)
theorem set3 {w : World} {b : Nat} (h : AnB w b) (v0 v1 v2 : Value) : (((w.setCell ⟨b, 0, none⟩ v0).setCell ⟨b, 1, none⟩ v1).setCell ⟨b, 2, none⟩ v2).cell? ⟨b, 0, none⟩ = some v0 ∧ (((w.setCell ⟨b, 0, none⟩ v0).setCell ⟨b, 1, none⟩ v1).setCell ⟨b, 2, none⟩ v2).cell? ⟨b, 1, none⟩ = some v1 ∧ (((w.setCell ⟨b, 0, none⟩ v0).setCell ⟨b, 1, none⟩ v1).setCell ⟨b, 2, none⟩ v2).cell? ⟨b, 2, none⟩ = some v2 := by
  have o : ∀ (W : World) (i j : Nat) (v u : Value), i ≠ j → W.cell? ⟨b, j, none⟩ = some u → (W.setCell ⟨b, i, none⟩ v).cell? ⟨b, j, none⟩ = some u := fun W i j v u hij hu => by
    rw [World.cell?_setCell_other _ _ _ _ (fun e => by injection e with _ e; omega)]
    exact hu
  refine ⟨?_, ?_, ?_⟩
  · exact o _ 2 0 _ _ (by decide) (o _ 1 0 _ _ (by decide) (World.cell?_setCell_same _ _ _ h.c0))
  · exact o _ 2 1 _ _ (by decide) (World.cell?_setCell_same _ _ _ (o _ 0 1 _ _ (by decide) h.c1))
  · exact World.cell?_setCell_same _ _ _ (o _ 1 2 _ _ (by decide) (o _ 0 2 _ _ (by decide) h.c2))

set_option maxRecDepth 100000 in
set_option maxHeartbeats 4000000 in
theorem do_0 (w : World) (N b0 : Nat) (k : Int) (t : List Th) (L : Nm → Nd) (p : ByteArray) (x n : Int) (m d : Nat) (B : Option Addr) (hM : Mem w N t L) (hb : (L []).b = b0) (hW : Wf t) (hp : p.size < 4294967281) (hN : N ≤ 999999) (hk : k = 0) :
    Calls Tryd.prog 22 #[.iface 35 (.pointer (some ⟨b0, 0, none⟩)), .agg #[.int .i64 k, .string p, .int .i64 x, .int .i64 n, .slice B m d]] w (ModR w N t L ((Tre.addT t p false).1, (Tre.addT t p false).2, ⟨#[]⟩, [])) := by
  subst hk
  have hb0 := ((Below.refl w.heap.size w).alloc (Nat.le_refl _) (.cells #[.int .i64 0, .string p, .int .i64 x, .int .i64 n, .slice B m d] 40)).alloc (by simp) (.cells #[.int .i64 0, .slice none 0 0, .slice none 0 0] 26)
  have HB0 := Lib.hid hb0
  have HC := Lib.hid (Trk.create_any (bxD w 0 p x n B m d) N b0 t L p (hM.keep hb0) hb hW hp (by omega))
  have hme := fun n w => m_create n ⟨b0, 0, none⟩ w
  obtain ⟨b1, hb1⟩ : ∃ b1, b1 = w.heap.size + 1 := ⟨_, rfl⟩
  have HAB := Lib.hid (anb_at w 0 p x n B m d b1 hb1)
  have HB1 := Lib.hid hb1
  have HM := Lib.hid hM
  clear hb0 hM
  go_enter Tryd.func22, Tryd.ntmps22
  go_wp2_with fail
  refine HC.out.mono ?_
  rintro e w2 ⟨rfl, hr⟩
  rw [← hb1]
  have HF := Lib.hid (fun w3 hc => mod_fin0 HM.out HB0.out (by have := HB1.out; omega) HAB.out.lt (hr.to (N' := N + 1) (Nat.le_refl _)) (w3 := w3) hc (Tre.addT t p false).2)
  have hab := HAB.out.chg hr.1 (fun hf => by have := HM.out.lt hf; have := HB1.out; omega)
  have hl := hab.lt
  have h0 := hab.c0
  have h1 := hab.c1
  have h2 := hab.c2
  have f0 := hab.f0
  have f1 := hab.f1
  have f2 := hab.f2
  obtain ⟨z0, z1, z2⟩ := set3 hab (.int .i64 (Tre.addT t p false).2) (.slice none 0 0) (.slice none 0 0)
  have HS3 := Lib.hid (chg_set3 w2 b1 (.int .i64 (Tre.addT t p false).2) (.slice none 0 0) (.slice none 0 0))
  clear hab hr hb1
  generalize Tre.addT t p false = r at *
  go_wp2
  refine bodyPost_ret (v := .agg #[.int .i64 r.2, .slice none 0 0, .slice none 0 0]) ?_ rfl (HF.out _ HS3.out)
  simp [results, Tryd.results22, go_sem, z0, z1, z2]

set_option maxRecDepth 100000 in
set_option maxHeartbeats 4000000 in
theorem do_1 (w : World) (N b0 : Nat) (k : Int) (t : List Th) (L : Nm → Nd) (p : ByteArray) (x n : Int) (m d : Nat) (B : Option Addr) (hM : Mem w N t L) (hb : (L []).b = b0) (hW : Wf t) (hp : p.size < 4294967281) (hN : N ≤ 999999) (hk : k = 1) :
    Calls Tryd.prog 22 #[.iface 35 (.pointer (some ⟨b0, 0, none⟩)), .agg #[.int .i64 k, .string p, .int .i64 x, .int .i64 n, .slice B m d]] w (ModR w N t L ((Tre.addT t p true).1, (Tre.addT t p true).2, ⟨#[]⟩, [])) := by
  subst hk
  have hb0 := ((Below.refl w.heap.size w).alloc (Nat.le_refl _) (.cells #[.int .i64 1, .string p, .int .i64 x, .int .i64 n, .slice B m d] 40)).alloc (by simp) (.cells #[.int .i64 0, .slice none 0 0, .slice none 0 0] 26)
  have HB0 := Lib.hid hb0
  have HC := Lib.hid (Trk.mkdir_any (bxD w 1 p x n B m d) N b0 t L p (hM.keep hb0) hb hW hp (by omega))
  have hme := fun n w => m_mkdir n ⟨b0, 0, none⟩ w
  obtain ⟨b1, hb1⟩ : ∃ b1, b1 = w.heap.size + 1 := ⟨_, rfl⟩
  have HAB := Lib.hid (anb_at w 1 p x n B m d b1 hb1)
  have HB1 := Lib.hid hb1
  have HM := Lib.hid hM
  clear hb0 hM
  go_enter Tryd.func22, Tryd.ntmps22
  go_wp2_with fail
  refine HC.out.mono ?_
  rintro e w2 ⟨rfl, hr⟩
  rw [← hb1]
  have HF := Lib.hid (fun w3 hc => mod_fin0 HM.out HB0.out (by have := HB1.out; omega) HAB.out.lt (hr.to (N' := N + 1) (Nat.le_refl _)) (w3 := w3) hc (Tre.addT t p true).2)
  have hab := HAB.out.chg hr.1 (fun hf => by have := HM.out.lt hf; have := HB1.out; omega)
  have hl := hab.lt
  have h0 := hab.c0
  have h1 := hab.c1
  have h2 := hab.c2
  have f0 := hab.f0
  have f1 := hab.f1
  have f2 := hab.f2
  obtain ⟨z0, z1, z2⟩ := set3 hab (.int .i64 (Tre.addT t p true).2) (.slice none 0 0) (.slice none 0 0)
  have HS3 := Lib.hid (chg_set3 w2 b1 (.int .i64 (Tre.addT t p true).2) (.slice none 0 0) (.slice none 0 0))
  clear hab hr hb1
  generalize Tre.addT t p true = r at *
  go_wp2
  refine bodyPost_ret (v := .agg #[.int .i64 r.2, .slice none 0 0, .slice none 0 0]) ?_ rfl (HF.out _ HS3.out)
  simp [results, Tryd.results22, go_sem, z0, z1, z2]

set_option maxRecDepth 100000 in
set_option maxHeartbeats 4000000 in
theorem do_3 (w : World) (N b0 : Nat) (k : Int) (t : List Th) (L : Nm → Nd) (p : ByteArray) (x n : Int) (m d : Nat) (B : Option Addr) (hM : Mem w N t L) (hb : (L []).b = b0) (hW : Wf t) (hp : p.size < 4294967281) (hk : k = 3) :
    Calls Tryd.prog 22 #[.iface 35 (.pointer (some ⟨b0, 0, none⟩)), .agg #[.int .i64 k, .string p, .int .i64 x, .int .i64 n, .slice B m d]] w (ModR w N t L ((Tre.truncT t p x).1, (Tre.truncT t p x).2, ⟨#[]⟩, [])) := by
  subst hk
  have hb0 := ((Below.refl w.heap.size w).alloc (Nat.le_refl _) (.cells #[.int .i64 3, .string p, .int .i64 x, .int .i64 n, .slice B m d] 40)).alloc (by simp) (.cells #[.int .i64 0, .slice none 0 0, .slice none 0 0] 26)
  have HB0 := Lib.hid hb0
  have HC := Lib.hid (Trk.trunc_any (bxD w 3 p x n B m d) N b0 t L p x (hM.keep hb0) hb hW hp)
  have hme := fun n w => m_truncate n ⟨b0, 0, none⟩ w
  obtain ⟨b1, hb1⟩ : ∃ b1, b1 = w.heap.size + 1 := ⟨_, rfl⟩
  have HAB := Lib.hid (anb_at w 3 p x n B m d b1 hb1)
  have HB1 := Lib.hid hb1
  have HM := Lib.hid hM
  clear hb0 hM
  go_enter Tryd.func22, Tryd.ntmps22
  go_wp2_with fail
  refine HC.out.mono ?_
  rintro e w2 ⟨rfl, hr⟩
  rw [← hb1]
  have HF := Lib.hid (fun w3 hc => mod_fin0 HM.out HB0.out (by have := HB1.out; omega) HAB.out.lt (hr.to (N' := N + 1) (Nat.le_refl _)) (w3 := w3) hc (Tre.truncT t p x).2)
  have hab := HAB.out.chg hr.1 (fun hf => by have := HM.out.lt hf; have := HB1.out; omega)
  have hl := hab.lt
  have h0 := hab.c0
  have h1 := hab.c1
  have h2 := hab.c2
  have f0 := hab.f0
  have f1 := hab.f1
  have f2 := hab.f2
  obtain ⟨z0, z1, z2⟩ := set3 hab (.int .i64 (Tre.truncT t p x).2) (.slice none 0 0) (.slice none 0 0)
  have HS3 := Lib.hid (chg_set3 w2 b1 (.int .i64 (Tre.truncT t p x).2) (.slice none 0 0) (.slice none 0 0))
  clear hab hr hb1
  generalize Tre.truncT t p x = r at *
  go_wp2
  refine bodyPost_ret (v := .agg #[.int .i64 r.2, .slice none 0 0, .slice none 0 0]) ?_ rfl (HF.out _ HS3.out)
  simp [results, Tryd.results22, go_sem, z0, z1, z2]

set_option maxRecDepth 100000 in
set_option maxHeartbeats 4000000 in
theorem do_4 (w : World) (N b0 : Nat) (k : Int) (t : List Th) (L : Nm → Nd) (p : ByteArray) (x n : Int) (m d : Nat) (B : Option Addr) (hM : Mem w N t L) (hb : (L []).b = b0) (hW : Wf t) (hp : p.size < 4294967281) (hk : k = 4) :
    Calls Tryd.prog 22 #[.iface 35 (.pointer (some ⟨b0, 0, none⟩)), .agg #[.int .i64 k, .string p, .int .i64 x, .int .i64 n, .slice B m d]] w (ModR w N t L ((Tre.unlinkT t p).1, (Tre.unlinkT t p).2, ⟨#[]⟩, [])) := by
  subst hk
  have hb0 := ((Below.refl w.heap.size w).alloc (Nat.le_refl _) (.cells #[.int .i64 4, .string p, .int .i64 x, .int .i64 n, .slice B m d] 40)).alloc (by simp) (.cells #[.int .i64 0, .slice none 0 0, .slice none 0 0] 26)
  have HB0 := Lib.hid hb0
  have HC := Lib.hid (Trk.unlink_any (bxD w 4 p x n B m d) N b0 t L p (hM.keep hb0) hb hW hp)
  have hme := fun n w => m_unlink n ⟨b0, 0, none⟩ w
  obtain ⟨b1, hb1⟩ : ∃ b1, b1 = w.heap.size + 1 := ⟨_, rfl⟩
  have HAB := Lib.hid (anb_at w 4 p x n B m d b1 hb1)
  have HB1 := Lib.hid hb1
  have HM := Lib.hid hM
  clear hb0 hM
  go_enter Tryd.func22, Tryd.ntmps22
  go_wp2_with fail
  refine HC.out.mono ?_
  rintro e w2 ⟨rfl, hr⟩
  rw [← hb1]
  have HF := Lib.hid (fun w3 hc => mod_fin0 HM.out HB0.out (by have := HB1.out; omega) HAB.out.lt (hr.to (N' := N + 1) (Nat.le_refl _)) (w3 := w3) hc (Tre.unlinkT t p).2)
  have hab := HAB.out.chg hr.1 (fun hf => by have := HM.out.lt hf; have := HB1.out; omega)
  have hl := hab.lt
  have h0 := hab.c0
  have h1 := hab.c1
  have h2 := hab.c2
  have f0 := hab.f0
  have f1 := hab.f1
  have f2 := hab.f2
  obtain ⟨z0, z1, z2⟩ := set3 hab (.int .i64 (Tre.unlinkT t p).2) (.slice none 0 0) (.slice none 0 0)
  have HS3 := Lib.hid (chg_set3 w2 b1 (.int .i64 (Tre.unlinkT t p).2) (.slice none 0 0) (.slice none 0 0))
  clear hab hr hb1
  generalize Tre.unlinkT t p = r at *
  go_wp2
  refine bodyPost_ret (v := .agg #[.int .i64 r.2, .slice none 0 0, .slice none 0 0]) ?_ rfl (HF.out _ HS3.out)
  simp [results, Tryd.results22, go_sem, z0, z1, z2]

set_option maxRecDepth 100000 in
set_option maxHeartbeats 4000000 in
theorem do_5 (w : World) (N b0 : Nat) (k : Int) (t : List Th) (L : Nm → Nd) (p : ByteArray) (x n : Int) (m d : Nat) (B : Option Addr) (hM : Mem w N t L) (hb : (L []).b = b0) (hW : Wf t) (hp : p.size < 4294967281) (hk : k = 5) :
    Calls Tryd.prog 22 #[.iface 35 (.pointer (some ⟨b0, 0, none⟩)), .agg #[.int .i64 k, .string p, .int .i64 x, .int .i64 n, .slice B m d]] w (ModR w N t L ((Tre.rmdirT t p).1, (Tre.rmdirT t p).2, ⟨#[]⟩, [])) := by
  subst hk
  have hb0 := ((Below.refl w.heap.size w).alloc (Nat.le_refl _) (.cells #[.int .i64 5, .string p, .int .i64 x, .int .i64 n, .slice B m d] 40)).alloc (by simp) (.cells #[.int .i64 0, .slice none 0 0, .slice none 0 0] 26)
  have HB0 := Lib.hid hb0
  have HC := Lib.hid (Trk.rmdir_any (bxD w 5 p x n B m d) N b0 t L p (hM.keep hb0) hb hW hp)
  have hme := fun n w => m_rmdir n ⟨b0, 0, none⟩ w
  obtain ⟨b1, hb1⟩ : ∃ b1, b1 = w.heap.size + 1 := ⟨_, rfl⟩
  have HAB := Lib.hid (anb_at w 5 p x n B m d b1 hb1)
  have HB1 := Lib.hid hb1
  have HM := Lib.hid hM
  clear hb0 hM
  go_enter Tryd.func22, Tryd.ntmps22
  go_wp2_with fail
  refine HC.out.mono ?_
  rintro e w2 ⟨rfl, hr⟩
  rw [← hb1]
  have HF := Lib.hid (fun w3 hc => mod_fin0 HM.out HB0.out (by have := HB1.out; omega) HAB.out.lt (hr.to (N' := N + 1) (Nat.le_refl _)) (w3 := w3) hc (Tre.rmdirT t p).2)
  have hab := HAB.out.chg hr.1 (fun hf => by have := HM.out.lt hf; have := HB1.out; omega)
  have hl := hab.lt
  have h0 := hab.c0
  have h1 := hab.c1
  have h2 := hab.c2
  have f0 := hab.f0
  have f1 := hab.f1
  have f2 := hab.f2
  obtain ⟨z0, z1, z2⟩ := set3 hab (.int .i64 (Tre.rmdirT t p).2) (.slice none 0 0) (.slice none 0 0)
  have HS3 := Lib.hid (chg_set3 w2 b1 (.int .i64 (Tre.rmdirT t p).2) (.slice none 0 0) (.slice none 0 0))
  clear hab hr hb1
  generalize Tre.rmdirT t p = r at *
  go_wp2
  refine bodyPost_ret (v := .agg #[.int .i64 r.2, .slice none 0 0, .slice none 0 0]) ?_ rfl (HF.out _ HS3.out)
  simp [results, Tryd.results22, go_sem, z0, z1, z2]

end Mod
end Go.Proofs.YtkhkcfbacnkcnaaDoor
/- The program's model: what a Read and a List answer. -/
namespace Go.Proofs.YtkhkcfbacnkcnaaDoor
open Go.RowKit Go.MapKept
namespace Mod
open Tre (Nm Th readT listT doT)
open Trk (Mem Nd Wf Fp Chg TrkN TrkR Gb)
open Pat (Txs)

/-- new names that are answered -/
def NewN (w : World) (l : List ByteArray) (e : Ending) (w' : World) : Prop := ∃ G gc, e = .returned (.slice G l.length gc) ∧ w'.ownsRow w.heap.size 9 1 (.slice G l.length gc) l.length (Pat.strs l) ∧ Below w.heap.size w w'
set_option maxRecDepth 100000 in
set_option maxHeartbeats 1000000 in
theorem nclone_any (w : World) (A : Option Addr) (n c : Nat) (l : List ByteArray) (h : Txs w A l) (hA : A = none → c = 0) (hn : l.length = n) (hl : n ≤ 1000000) :
    Calls Tryd.prog 45 #[.slice A n c] w (NewN w l) := by
  have hnil : ∀ W a n c, (binOp .eql 24 (.slice a n c) (.slice none 0 0)).run Tryd.prog W = .ok (.bool a.isNone) W := fun W a n c => by
    exact Lib.run_eql_slice_nil W _ _ a n c 0 0 Tryd.underlying24
  cases A with
  | none =>
    have hl0 : l = [] := by
      cases l with
      | nil => rfl
      | cons b l =>
        obtain ⟨_, _, e, _⟩ := h.at' 0 (by simp)
        cases e
    subst hl0
    have HR := Lib.hid (show NewN w [] (.returned (.slice none 0 0)) w from ⟨none, 0, rfl, World.ownsRow_nil _ _ _ _, Below.refl _ _⟩)
    clear h hn hA
    go_enter Tryd.func45, Tryd.ntmps45
    go_wp2
    go_ret
    exact HR.out
  | some ad =>
    obtain ⟨G, gc, w', hap, ho, hb⟩ := Pat.copy_row c h hA (by omega)
    have HR := Lib.hid (show NewN w l (.returned (.slice G n gc)) w' from ⟨G, gc, by rw [hn], ho, hb⟩)
    rw [hn] at hap
    have HAP := Lib.hid hap
    clear h hn ho hb hap hA
    go_enter Tryd.func45, Tryd.ntmps45
    go_wp2_with (at_builtin; refine Pat.wpList_append_run rfl (.tmp 5) (.tmp 6) 24 rfl _ _ _ rfl rfl HAP.out ?_)
    go_ret
    exact HR.out

/-- an answer of new memory -/
def RdR (w : World) (z : Int) (s : ByteArray) (nm : List ByteArray) (e : Ending) (w' : World) : Prop :=
  ∃ y : An, e = .returned y.val ∧ y.e = z ∧ Crc.str y.d = s ∧ y.n = nm ∧ AnOk w' y ∧ Below w.heap.size w w' ∧ ∀ i, Gb y.a i ∨ Gb y.g i → w.heap.size ≤ i ∧ i < w'.heap.size
theorem anok_nil (w : World) (z : Int) : AnOk w ⟨z, none, 0, [], none, 0, []⟩ := ⟨⟨fun b hb => by simp at hb, by simp, fun j hj => by simp at hj⟩, Pat.txs_nil _ _⟩
theorem read_err {t : List Th} {p : ByteArray} {x n : Int} (h : (readT t p x n).2 ≠ 0) : (readT t p x n).1 = ⟨#[]⟩ := by
  unfold Tre.readT at h ⊢
  split
  · rfl
  · rename_i h1
    rw [if_neg h1] at h
    split
    · rfl
    · rename_i h2
      rw [if_neg h2] at h
      exact absurd rfl h
theorem list_err {t : List Th} {p : ByteArray} (h : (listT t p).2 ≠ 0) : (listT t p).1 = [] := by
  unfold Tre.listT at h ⊢
  split
  · rfl
  · rename_i n hn
    rw [hn] at h
    simp only at h
    split
    · rfl
    · rename_i h1
      rw [if_neg h1] at h
      split
      · rfl
      · rename_i h2
        rw [if_neg h2] at h
        exact absurd rfl h

set_option maxRecDepth 100000 in
set_option maxHeartbeats 4000000 in
theorem mread_any (w : World) (N b0 : Nat) (k : Int) (t : List Th) (L : Nm → Nd) (p : ByteArray) (x n : Int) (m d : Nat) (B : Option Addr) (hM : Mem w N t L) (hb : (L []).b = b0) (hW : Wf t) (hp : p.size < 4294967281) (hx : x ≤ 9223372036854775807) (hn : n ≤ 9223372036854775807) :
    Calls Tryd.prog 32 #[.iface 35 (.pointer (some ⟨b0, 0, none⟩)), .agg #[.int .i64 k, .string p, .int .i64 x, .int .i64 n, .slice B m d]] w (RdR w (readT t p x n).2 (readT t p x n).1 []) := by
  have hb0 := ((Below.refl w.heap.size w).alloc (Nat.le_refl _) (.cells #[.int .i64 k, .string p, .int .i64 x, .int .i64 n, .slice B m d] 40)).alloc (by simp) (.cells #[.int .i64 0, .slice none 0 0, .slice none 0 0] 26)
  have HB0 := Lib.hid hb0
  have HC := Lib.hid (Trk.rd_any (bxD w k p x n B m d) N b0 t L p x n (hM.keep hb0) hb hW hp hx hn)
  have HSM := Lib.hid (Trk.read_small hW p x n)
  have HER := Lib.hid (read_err (t := t) (p := p) (x := x) (n := n))
  have hme := fun n w => m_read n ⟨b0, 0, none⟩ w
  obtain ⟨b1, hb1⟩ : ∃ b1, b1 = w.heap.size + 1 := ⟨_, rfl⟩
  have HAB := Lib.hid (anb_at w k p x n B m d b1 hb1)
  have HB1 := Lib.hid (show w.heap.size ≤ b1 by omega)
  clear hb0 hM
  generalize readT t p x n = r at *
  go_enter Tryd.func32, Tryd.ntmps32
  go_wp2_with fail
  refine HC.out.mono ?_
  rintro e w2 ⟨G, q, gc, rfl, hq, ho, hbz⟩
  rw [← hb1]
  have HB2 := Lib.hid (HB0.out.trans (hbz.mono HB0.out.size))
  have HAB2 := Lib.hid (HAB.out.chg (Chg.of_below (F := fun _ => False) hbz) (fun h => h))
  clear hb1
  by_cases he : r.2 = 0
  · have hne : (r.2 != 0) = false := by rw [he]; rfl
    have hbt : Crc.Bts w2 G (Crc.tx r.1) := Crc.own_bts ho (Trk.tx_byt _) (by have := HSM.out; rw [Crc.tx_len] at hq; omega)
    have hcl := Trk.bclone_any w2 G q gc (Crc.tx r.1) hbt hq (by have := HSM.out; rw [Crc.tx_len] at hq; omega)
    have HCL := Lib.hid hcl
    have HBT := Lib.hid (Trk.tx_byt r.1)
    have HST := Lib.hid (Ent.str_tx r.1)
    have HLQ := Lib.hid (show q ≤ 1000000000 by have := HSM.out; rw [Crc.tx_len] at hq; omega)
    rw [he]
    have HE := Lib.hid he
    have HQ := Lib.hid hq
    clear hbz ho hq hbt hcl he
    generalize Crc.tx r.1 = l at *
    go_wp2_with fail
    refine HCL.out.mono ?_
    rintro e w3 ⟨G3, g3, rfl, ho3, hb3⟩
    have HB3 := Lib.hid (HB2.out.trans (hb3.mono HB2.out.size))
    have hab := HAB2.out.chg (Chg.of_below (F := fun _ => False) hb3) (fun h => h)
    obtain ⟨z0, z1, z2⟩ := set3 hab (.int .i64 0) (.slice G3 l.length g3) (.slice none 0 0)
    have hs3 := chg_set3 w3 b1 (.int .i64 0) (.slice G3 l.length g3) (.slice none 0 0)
    have hbx := HAB2.out.lt
    have HF := Lib.hid (show RdR w 0 r.1 [] (.returned (.agg #[.int .i64 0, .slice G3 l.length g3, .slice none 0 0])) (((w3.setCell ⟨b1, 0, none⟩ (.int .i64 0)).setCell ⟨b1, 1, none⟩ (.slice G3 l.length g3)).setCell ⟨b1, 2, none⟩ (.slice none 0 0)) from by
      have ho4 := Trk.own_chg ho3 hs3 (fun g hg => by have := Crc.row_base_lt ho3 hg; omega)
      refine ⟨⟨0, G3, g3, l, none, 0, []⟩, rfl, rfl, HST.out, rfl, ⟨Crc.own_bts ho4 HBT.out (by have := HQ.out; have := HLQ.out; show l.length ≤ _; omega), Pat.txs_nil _ _⟩, HB3.out.trans (hs3.below HB3.out.size (fun i e => by rw [e]; exact HB1.out)), fun i hi => ?_⟩
      rcases hi with hi | ⟨a, e, _⟩
      · have h1 := Trk.gb_row ho4 hi
        exact ⟨Nat.le_trans HB2.out.size h1.1, h1.2⟩
      · cases e)
    have hl := hab.lt
    have h0 := hab.c0
    have h1 := hab.c1
    have h2 := hab.c2
    have f0 := hab.f0
    have f1 := hab.f1
    have f2 := hab.f2
    clear hab hs3 ho3 hb3 hbx
    generalize l.length = ln at *
    go_wp2
    refine bodyPost_ret (v := .agg #[.int .i64 0, .slice G3 ln g3, .slice none 0 0]) ?_ rfl (by rw [HE.out]; exact HF.out)
    simp [results, Tryd.results32, go_sem, z0, z1, z2]
  · have hne : (r.2 != 0) = true := bne_iff_ne.2 he
    have HE := Lib.hid (HER.out he)
    have hab := HAB2.out
    obtain ⟨z0, z1, z2⟩ := set3 hab (.int .i64 r.2) (.slice none 0 0) (.slice none 0 0)
    have hs3 := chg_set3 w2 b1 (.int .i64 r.2) (.slice none 0 0) (.slice none 0 0)
    have HF := Lib.hid (show RdR w r.2 r.1 [] (.returned (.agg #[.int .i64 r.2, .slice none 0 0, .slice none 0 0])) (((w2.setCell ⟨b1, 0, none⟩ (.int .i64 r.2)).setCell ⟨b1, 1, none⟩ (.slice none 0 0)).setCell ⟨b1, 2, none⟩ (.slice none 0 0)) from by
      refine ⟨⟨r.2, none, 0, [], none, 0, []⟩, rfl, rfl, by rw [HE.out]; rfl, rfl, anok_nil _ _, HB2.out.trans (hs3.below HB2.out.size (fun i e => by rw [e]; exact HB1.out)), fun i hi => ?_⟩
      rcases hi with ⟨a, e, _⟩ | ⟨a, e, _⟩ <;> cases e)
    have hl := hab.lt
    have h0 := hab.c0
    have h1 := hab.c1
    have h2 := hab.c2
    have f0 := hab.f0
    have f1 := hab.f1
    have f2 := hab.f2
    clear hab hs3 ho hbz he
    obtain ⟨rs, rz⟩ := r
    simp only at hne z0 z1 z2 HF
    go_wp2
    refine bodyPost_ret (v := .agg #[.int .i64 rz, .slice none 0 0, .slice none 0 0]) ?_ rfl HF.out
    simp [results, Tryd.results32, go_sem, z0, z1, z2]
end Mod
end Go.Proofs.YtkhkcfbacnkcnaaDoor
/- The program's model: what a List answers; deeds that read. -/
namespace Go.Proofs.YtkhkcfbacnkcnaaDoor
open Go.RowKit Go.MapKept
namespace Mod
open Tre (Nm Th readT listT doT)
open Trk (Mem Nd Wf Fp Chg TrkN TrkR Gb)
open Pat (Txs)

set_option maxRecDepth 100000 in
set_option maxHeartbeats 4000000 in
theorem mlist_any (w : World) (N b0 : Nat) (k : Int) (t : List Th) (L : Nm → Nd) (p : ByteArray) (x n : Int) (m d : Nat) (B : Option Addr) (hM : Mem w N t L) (hb : (L []).b = b0) (hW : Wf t) (hp : p.size < 4294967281) (hl : t.length ≤ 100000) :
    Calls Tryd.prog 33 #[.iface 35 (.pointer (some ⟨b0, 0, none⟩)), .agg #[.int .i64 k, .string p, .int .i64 x, .int .i64 n, .slice B m d]] w (RdR w (listT t p).2 ⟨#[]⟩ (listT t p).1) := by
  have hb0 := ((Below.refl w.heap.size w).alloc (Nat.le_refl _) (.cells #[.int .i64 k, .string p, .int .i64 x, .int .i64 n, .slice B m d] 40)).alloc (by simp) (.cells #[.int .i64 0, .slice none 0 0, .slice none 0 0] 26)
  have HB0 := Lib.hid hb0
  have HC := Lib.hid (Trk.list_any (bxD w k p x n B m d) N b0 t L p (hM.keep hb0) hb hW hp (by omega))
  have HSM := Lib.hid (Trk.list_small hW p)
  have HLN := Lib.hid (Nat.le_trans (Trk.list_len t p) hl)
  have HER := Lib.hid (list_err (t := t) (p := p))
  have hme := fun n w => m_list n ⟨b0, 0, none⟩ w
  obtain ⟨b1, hb1⟩ : ∃ b1, b1 = w.heap.size + 1 := ⟨_, rfl⟩
  have HAB := Lib.hid (anb_at w k p x n B m d b1 hb1)
  have HB1 := Lib.hid (show w.heap.size ≤ b1 by omega)
  clear hb0 hM hl
  generalize listT t p = r at *
  go_enter Tryd.func33, Tryd.ntmps33
  go_wp2_with fail
  refine HC.out.mono ?_
  rintro e w2 ⟨G, gc, rfl, ho, hbz⟩
  rw [← hb1]
  have HB2 := Lib.hid (HB0.out.trans (hbz.mono HB0.out.size))
  have HAB2 := Lib.hid (HAB.out.chg (Chg.of_below (F := fun _ => False) hbz) (fun h => h))
  clear hb1
  by_cases he : r.2 = 0
  · have hne : (r.2 != 0) = false := by rw [he]; rfl
    have hgn : G = none → gc = 0 := by
      rintro rfl
      rcases ho.2 with ⟨e, _⟩ | ⟨g, cap, cur, e, _⟩
      · injection e
      · cases e
    have hcl := nclone_any w2 G r.1.length gc r.1 (Pat.own_txs ho (fun s hs => by have := HSM.out s hs; omega) (by have := HLN.out; omega)).1 hgn rfl (by have := HLN.out; omega)
    have HCL := Lib.hid hcl
    rw [he]
    have HE := Lib.hid he
    clear hbz ho hcl he hgn
    generalize hln : r.1.length = ln at *
    have HLL := Lib.hid hln
    clear hln
    go_wp2_with fail
    refine HCL.out.mono ?_
    rintro e w3 ⟨G3, g3, rfl, ho3, hb3⟩
    rw [HLL.out] at ho3
    rw [HLL.out]
    have HB3 := Lib.hid (HB2.out.trans (hb3.mono HB2.out.size))
    have hab := HAB2.out.chg (Chg.of_below (F := fun _ => False) hb3) (fun h => h)
    obtain ⟨z0, z1, z2⟩ := set3 hab (.int .i64 0) (.slice none 0 0) (.slice G3 ln g3)
    have hs3 := chg_set3 w3 b1 (.int .i64 0) (.slice none 0 0) (.slice G3 ln g3)
    have hbx := HAB2.out.lt
    have HF := Lib.hid (show RdR w 0 ⟨#[]⟩ r.1 (.returned (.agg #[.int .i64 0, .slice none 0 0, .slice G3 ln g3])) (((w3.setCell ⟨b1, 0, none⟩ (.int .i64 0)).setCell ⟨b1, 1, none⟩ (.slice none 0 0)).setCell ⟨b1, 2, none⟩ (.slice G3 ln g3)) from by
      have ho4 := Trk.own_chg ho3 hs3 (fun g hg => by have := Crc.row_base_lt ho3 hg; omega)
      refine ⟨⟨0, none, 0, [], G3, g3, r.1⟩, by rw [← HLL.out]; rfl, rfl, rfl, rfl, ⟨⟨fun b hb => by simp at hb, by simp, fun j hj => by simp at hj⟩, (Pat.own_txs ho4 (fun s hs => by have := HSM.out s hs; omega) (by have := HLN.out; have := HLL.out; omega)).1⟩, HB3.out.trans (hs3.below HB3.out.size (fun i e => by rw [e]; exact HB1.out)), fun i hi => ?_⟩
      rcases hi with ⟨a, e, _⟩ | hi
      · cases e
      · have h1 := Trk.gb_row ho4 hi
        exact ⟨Nat.le_trans HB2.out.size h1.1, h1.2⟩)
    have hl := hab.lt
    have h0 := hab.c0
    have h1 := hab.c1
    have h2 := hab.c2
    have f0 := hab.f0
    have f1 := hab.f1
    have f2 := hab.f2
    clear hab hs3 ho3 hb3 hbx
    go_wp2
    refine bodyPost_ret (v := .agg #[.int .i64 0, .slice none 0 0, .slice G3 ln g3]) ?_ rfl (by rw [HE.out]; exact HF.out)
    simp [results, Tryd.results33, go_sem, z0, z1, z2]
  · have hne : (r.2 != 0) = true := bne_iff_ne.2 he
    have HE := Lib.hid (HER.out he)
    have hab := HAB2.out
    obtain ⟨z0, z1, z2⟩ := set3 hab (.int .i64 r.2) (.slice none 0 0) (.slice none 0 0)
    have hs3 := chg_set3 w2 b1 (.int .i64 r.2) (.slice none 0 0) (.slice none 0 0)
    have HF := Lib.hid (show RdR w r.2 ⟨#[]⟩ r.1 (.returned (.agg #[.int .i64 r.2, .slice none 0 0, .slice none 0 0])) (((w2.setCell ⟨b1, 0, none⟩ (.int .i64 r.2)).setCell ⟨b1, 1, none⟩ (.slice none 0 0)).setCell ⟨b1, 2, none⟩ (.slice none 0 0)) from by
      refine ⟨⟨r.2, none, 0, [], none, 0, []⟩, rfl, rfl, rfl, HE.out.symm, anok_nil _ _, HB2.out.trans (hs3.below HB2.out.size (fun i e => by rw [e]; exact HB1.out)), fun i hi => ?_⟩
      rcases hi with ⟨a, e, _⟩ | ⟨a, e, _⟩ <;> cases e)
    have hl := hab.lt
    have h0 := hab.c0
    have h1 := hab.c1
    have h2 := hab.c2
    have f0 := hab.f0
    have f1 := hab.f1
    have f2 := hab.f2
    clear hab hs3 ho hbz he
    obtain ⟨rs, rz⟩ := r
    simp only at hne z0 z1 z2 HF
    generalize rs.length = ln at *
    go_wp2
    refine bodyPost_ret (v := .agg #[.int .i64 rz, .slice none 0 0, .slice none 0 0]) ?_ rfl HF.out
    simp [results, Tryd.results33, go_sem, z0, z1, z2]

/-- what was answered, stored -/
theorem mod_fin2 {w w1 w2 w3 : World} {N b : Nat} {t : List Th} {L : Nm → Nd} (hM : Mem w N t L) (hB : Below w.heap.size w w1) (hb0 : w.heap.size ≤ b) (hb1 : b < w1.heap.size) {z : Int} {s : ByteArray} {nm : List ByteArray} {e : Ending} (h : RdR w1 z s nm e w2) (hc : Chg (fun i => i = b) w2 w3) : ModR w N t L (t, z, s, nm) e w3 := by
  obtain ⟨y, h1, h2, h3, h4, h5, h6, h7⟩ := h
  have hb2 := hB.trans (h6.mono hB.size)
  have hb3 := hb2.trans (hc.below hb2.size (fun i e => by rw [e]; exact hb0))
  subst h1
  refine mod_fin1 hM hb3 y ⟨?_, ?_⟩ (fun i hi => ?_) h2 h3 h4
  · exact Trk.bts_chg h5.bts hc (fun ad e _ e2 => by have := (h7 ad.block (.inl ⟨ad, e, rfl⟩)).1; omega)
  · exact Trk.txs_chg h5.txs hc (fun ad e _ e2 => by have := (h7 ad.block (.inr ⟨ad, e, rfl⟩)).1; omega)
  · obtain ⟨g1, g2⟩ := h7 i hi
    exact ⟨Nat.le_trans hB.size g1, Nat.lt_of_lt_of_le g2 hc.size⟩

set_option maxRecDepth 100000 in
set_option maxHeartbeats 4000000 in
theorem do_6 (w : World) (N b0 : Nat) (k : Int) (t : List Th) (L : Nm → Nd) (p : ByteArray) (x n : Int) (m d : Nat) (B : Option Addr) (hM : Mem w N t L) (hb : (L []).b = b0) (hW : Wf t) (hp : p.size < 4294967281) (hx : x ≤ 9223372036854775807) (hn : n ≤ 9223372036854775807) (hk : k = 6) :
    Calls Tryd.prog 22 #[.iface 35 (.pointer (some ⟨b0, 0, none⟩)), .agg #[.int .i64 k, .string p, .int .i64 x, .int .i64 n, .slice B m d]] w (ModR w N t L (t, (readT t p x n).2, (readT t p x n).1, [])) := by
  subst hk
  have hb0 := ((Below.refl w.heap.size w).alloc (Nat.le_refl _) (.cells #[.int .i64 6, .string p, .int .i64 x, .int .i64 n, .slice B m d] 40)).alloc (by simp) (.cells #[.int .i64 0, .slice none 0 0, .slice none 0 0] 26)
  have HB0 := Lib.hid hb0
  have HC := Lib.hid (mread_any (bxD w 6 p x n B m d) N b0 6 t L p x n m d B (hM.keep hb0) hb hW hp hx hn)
  obtain ⟨b1, hb1⟩ : ∃ b1, b1 = w.heap.size + 1 := ⟨_, rfl⟩
  have HAB := Lib.hid (anb_at w 6 p x n B m d b1 hb1)
  have HB1 := Lib.hid (show w.heap.size ≤ b1 by omega)
  have HM := Lib.hid hM
  clear hb0 hM
  generalize readT t p x n = r at *
  go_enter Tryd.func22, Tryd.ntmps22
  go_wp2_with fail
  refine HC.out.mono ?_
  intro e w2 hr
  rw [← hb1]
  have HF := Lib.hid (fun w3 hc => mod_fin2 HM.out HB0.out HB1.out HAB.out.lt hr (w3 := w3) hc)
  obtain ⟨y, rfl, -, -, -, -, h6, -⟩ := hr
  have hab := HAB.out.chg (Chg.of_below (F := fun _ => False) h6) (fun h => h)
  obtain ⟨ye, ya, yc, yd, yg, yk, yn⟩ := y
  unfold An.val at *
  simp only at HF ⊢
  generalize yd.length = dl at *
  generalize yn.length = nl at *
  obtain ⟨z0, z1, z2⟩ := set3 hab (.int .i64 ye) (.slice ya dl yc) (.slice yg nl yk)
  have HS3 := Lib.hid (chg_set3 w2 b1 (.int .i64 ye) (.slice ya dl yc) (.slice yg nl yk))
  have hl := hab.lt
  have h0 := hab.c0
  have h1 := hab.c1
  have h2 := hab.c2
  have f0 := hab.f0
  have f1 := hab.f1
  have f2 := hab.f2
  clear hab h6 hb1
  go_wp2
  refine bodyPost_ret (v := .agg #[.int .i64 ye, .slice ya dl yc, .slice yg nl yk]) ?_ rfl (HF.out _ HS3.out)
  simp [results, Tryd.results22, go_sem, z0, z1, z2]

set_option maxRecDepth 100000 in
set_option maxHeartbeats 4000000 in
theorem do_7 (w : World) (N b0 : Nat) (k : Int) (t : List Th) (L : Nm → Nd) (p : ByteArray) (x n : Int) (m d : Nat) (B : Option Addr) (hM : Mem w N t L) (hb : (L []).b = b0) (hW : Wf t) (hp : p.size < 4294967281) (hl : t.length ≤ 100000) (hk : k = 7) :
    Calls Tryd.prog 22 #[.iface 35 (.pointer (some ⟨b0, 0, none⟩)), .agg #[.int .i64 k, .string p, .int .i64 x, .int .i64 n, .slice B m d]] w (ModR w N t L (t, (listT t p).2, ⟨#[]⟩, (listT t p).1)) := by
  subst hk
  have hb0 := ((Below.refl w.heap.size w).alloc (Nat.le_refl _) (.cells #[.int .i64 7, .string p, .int .i64 x, .int .i64 n, .slice B m d] 40)).alloc (by simp) (.cells #[.int .i64 0, .slice none 0 0, .slice none 0 0] 26)
  have HB0 := Lib.hid hb0
  have HC := Lib.hid (mlist_any (bxD w 7 p x n B m d) N b0 7 t L p x n m d B (hM.keep hb0) hb hW hp hl)
  obtain ⟨b1, hb1⟩ : ∃ b1, b1 = w.heap.size + 1 := ⟨_, rfl⟩
  have HAB := Lib.hid (anb_at w 7 p x n B m d b1 hb1)
  have HB1 := Lib.hid (show w.heap.size ≤ b1 by omega)
  have HM := Lib.hid hM
  clear hb0 hM hl
  generalize listT t p = r at *
  go_enter Tryd.func22, Tryd.ntmps22
  go_wp2_with fail
  refine HC.out.mono ?_
  intro e w2 hr
  rw [← hb1]
  have HF := Lib.hid (fun w3 hc => mod_fin2 HM.out HB0.out HB1.out HAB.out.lt hr (w3 := w3) hc)
  obtain ⟨y, rfl, -, -, -, -, h6, -⟩ := hr
  have hab := HAB.out.chg (Chg.of_below (F := fun _ => False) h6) (fun h => h)
  obtain ⟨ye, ya, yc, yd, yg, yk, yn⟩ := y
  unfold An.val at *
  simp only at HF ⊢
  generalize yd.length = dl at *
  generalize yn.length = nl at *
  obtain ⟨z0, z1, z2⟩ := set3 hab (.int .i64 ye) (.slice ya dl yc) (.slice yg nl yk)
  have HS3 := Lib.hid (chg_set3 w2 b1 (.int .i64 ye) (.slice ya dl yc) (.slice yg nl yk))
  have hl := hab.lt
  have h0 := hab.c0
  have h1 := hab.c1
  have h2 := hab.c2
  have f0 := hab.f0
  have f1 := hab.f1
  have f2 := hab.f2
  clear hab h6 hb1
  go_wp2
  refine bodyPost_ret (v := .agg #[.int .i64 ye, .slice ya dl yc, .slice yg nl yk]) ?_ rfl (HF.out _ HS3.out)
  simp [results, Tryd.results22, go_sem, z0, z1, z2]
end Mod
end Go.Proofs.YtkhkcfbacnkcnaaDoor
/- The program's model: a Write; deeds of any kind. -/
namespace Go.Proofs.YtkhkcfbacnkcnaaDoor
open Go.RowKit Go.MapKept
namespace Mod
open Tre (Nm Th readT listT doT writeT)
open Trk (Mem Nd Wf Fp Chg TrkN TrkR Gb)
open Pat (Txs)

theorem ded_cells (w : World) (k : Int) (p : ByteArray) (x n : Int) (B : Option Addr) (m d : Nat) : (bxD w k p x n B m d).cell? ⟨w.heap.size, 1, none⟩ = some (.string p) ∧ (bxD w k p x n B m d).cell? ⟨w.heap.size, 2, none⟩ = some (.int .i64 x) ∧ (bxD w k p x n B m d).cell? ⟨w.heap.size, 4, none⟩ = some (.slice B m d) := by
  have o : ∀ j v, (w.alloc (.cells #[.int .i64 k, .string p, .int .i64 x, .int .i64 n, .slice B m d] 40)).cell? ⟨w.heap.size, j, none⟩ = some v → (bxD w k p x n B m d).cell? ⟨w.heap.size, j, none⟩ = some v := fun j v h => by
    rw [World.cell?_alloc_old _ _ _ (by simp)]
    exact h
  exact ⟨o 1 _ (Crc.alloc_cell w _ _ 1), o 2 _ (Crc.alloc_cell w _ _ 2), o 4 _ (Crc.alloc_cell w _ _ 4)⟩

theorem nil_write (n : Nat) (a : Addr) (w : World) : (nilAhead (n + 1) 35 (.pointer (some a)) "Write").run Tryd.prog w = .ok (some false) w := by kernel_rfl
theorem chg_weak {F G : Nat → Prop} {w w' : World} (h : Chg F w w') (hG : ∀ i, F i → G i) : Chg G w w' := ⟨h.os, h.tape, h.output, h.size, fun k hk hF => h.block k hk (fun hf => hF (hG k hf))⟩

set_option maxRecDepth 100000 in
set_option maxHeartbeats 4000000 in
theorem do_2 (w : World) (N b0 : Nat) (k : Int) (t : List Th) (L : Nm → Nd) (p : ByteArray) (x n : Int) (m d : Nat) (B : Option Addr) (hM : Mem w N t L) (hb : (L []).b = b0) (hW : Wf t) (hp : p.size < 4294967281) (bs : List Nat) (hm : bs.length = m) (hml : m ≤ 1000000) (hB : Crc.Bts w B bs) (hk : k = 2) :
    Calls Tryd.prog 22 #[.iface 35 (.pointer (some ⟨b0, 0, none⟩)), .agg #[.int .i64 k, .string p, .int .i64 x, .int .i64 n, .slice B m d]] w (ModR w N t L ((writeT t p x (Crc.str bs)).1, (writeT t p x (Crc.str bs)).2, ⟨#[]⟩, [])) := by
  subst hk
  have hb0 := ((Below.refl w.heap.size w).alloc (Nat.le_refl _) (.cells #[.int .i64 2, .string p, .int .i64 x, .int .i64 n, .slice B m d] 40)).alloc (by simp) (.cells #[.int .i64 0, .slice none 0 0, .slice none 0 0] 26)
  have hbd : Below w.heap.size w (bxD w 2 p x n B m d).drew := hb0.trans (Tre.below_drew (Below.refl _ _) |>.mono hb0.size)
  have HB0 := Lib.hid (show Below w.heap.size w (bxD w 2 p x n B m d) from hb0)
  obtain ⟨b1, hb1⟩ : ∃ b1, b1 = w.heap.size + 1 := ⟨_, rfl⟩
  obtain ⟨bd, hbdd⟩ : ∃ bd, bd = w.heap.size := ⟨_, rfl⟩
  have HAB := Lib.hid (anb_at w 2 p x n B m d b1 hb1)
  have HB1 := Lib.hid (show b1 = w.heap.size + 1 ∧ bd = w.heap.size from ⟨hb1, hbdd⟩)
  have hdc := ded_cells w 2 p x n B m d
  rw [← hbdd] at hdc
  have HDC := Lib.hid hdc
  have HM := Lib.hid hM
  have hme := fun n w => m_write n ⟨b0, 0, none⟩ w
  have hni := fun n w => nil_write n ⟨b0, 0, none⟩ w
  have HSZ := Lib.hid (show (bxD w 2 p x n B m d).heap.size = b1 + 1 by rw [hb1]; simp)
  have HDW := Lib.hid (fun (W w' : World) (hbw : Below (bxD w 2 p x n B m d).heap.size (bxD w 2 p x n B m d) W) (hc : Chg (fun i => Fp t L i ∨ i = b1) W w') => show w'.cell? ⟨bd, 1, none⟩ = some (.string p) ∧ w'.cell? ⟨bd, 2, none⟩ = some (.int .i64 x) ∧ w'.cell? ⟨bd, 4, none⟩ = some (.slice B m d) from by
    have hlt : bd < (bxD w 2 p x n B m d).heap.size := by rw [HSZ.out]; omega
    have hx := (hc.block bd (Nat.lt_of_lt_of_le hlt hbw.size) (fun hf => by rcases hf with hf | hf; (have := hM.lt hf; omega); omega)).trans (hbw.block bd hlt)
    exact ⟨(World.cell?_of_block (a := ⟨bd, 1, none⟩) hx).trans hdc.1, (World.cell?_of_block (a := ⟨bd, 2, none⟩) hx).trans hdc.2.1, (World.cell?_of_block (a := ⟨bd, 4, none⟩) hx).trans hdc.2.2⟩)
  have HWR := Lib.hid (fun (W : World) (G : Option Addr) (gc : Nat) (hbw : Below (bxD w 2 p x n B m d).heap.size (bxD w 2 p x n B m d) W) (hG : W.ownsRow (bxD w 2 p x n B m d).heap.size 5 1 (.slice G m gc) m (Crc.u8s bs)) => show Calls Tryd.prog 19 #[.pointer (some ⟨b0, 0, none⟩), .string p, .int .i64 x, .slice G m gc] W (fun e w' => e = .returned (.int .i64 (writeT t p x (Crc.str bs)).2) ∧ TrkN (bxD w 2 p x n B m d) (N + 1) t L (writeT t p x (Crc.str bs)).1 w' ∧ AnB w' b1 ∧ (w'.cell? ⟨bd, 1, none⟩ = some (.string p) ∧ w'.cell? ⟨bd, 2, none⟩ = some (.int .i64 x) ∧ w'.cell? ⟨bd, 4, none⟩ = some (.slice B m d)) ∧ ∀ v0 v1 v2 : Value, (((w'.setCell ⟨b1, 0, none⟩ v0).setCell ⟨b1, 1, none⟩ v1).setCell ⟨b1, 2, none⟩ v2).cell? ⟨bd, 1, none⟩ = some (.string p) ∧ (((w'.setCell ⟨b1, 0, none⟩ v0).setCell ⟨b1, 1, none⟩ v1).setCell ⟨b1, 2, none⟩ v2).cell? ⟨bd, 2, none⟩ = some (.int .i64 x) ∧ (((w'.setCell ⟨b1, 0, none⟩ v0).setCell ⟨b1, 1, none⟩ v1).setCell ⟨b1, 2, none⟩ v2).cell? ⟨bd, 4, none⟩ = some (.slice B m d)) from by
    have hb2 := hb0.trans (hbw.mono hb0.size)
    refine (Trk.wr_any W N b0 t L p x m gc G bs (hM.keep hb2) hb hW hp hm hml (Crc.own_bts hG hB.byt (by omega)) (fun ad e _ hf => by have h1 := hM.lt hf; have h2 := (Trk.gb_row hG ⟨ad, e, rfl⟩).1; have := HSZ.out; omega)).mono (fun e w' h => ⟨h.1, TrkN.after hbw (h.2.to (N' := N + 1) (Nat.le_refl _)), ?_, ?_, fun v0 v1 v2 => ?_⟩)
    · exact ((anb_at w 2 p x n B m d b1 hb1).chg (Chg.of_below (F := fun _ => False) hbw) (fun h => h)).chg h.2.1 (fun hf => by have := hM.lt hf; omega)
    · exact HDW.out W w' hbw (chg_weak h.2.1 (fun _ h => .inl h))
    · exact HDW.out W _ hbw (Chg.trans (chg_weak h.2.1 (fun _ h => .inl h)) (chg_set3 w' b1 v0 v1 v2) (fun _ h => .inl (.inr h))))
  have HCL := Lib.hid ((Trk.bclone_any (bxD w 2 p x n B m d).drew B m d bs (hB.keep hbd) hm (by omega)).mono (fun e w2 h => show ∃ (G : Option Addr) (gc : Nat), e = .returned (.slice G m gc) ∧ (w2.cell? ⟨bd, 1, none⟩ = some (.string p) ∧ w2.cell? ⟨bd, 2, none⟩ = some (.int .i64 x) ∧ w2.cell? ⟨bd, 4, none⟩ = some (.slice B m d)) ∧ Calls Tryd.prog 19 #[.pointer (some ⟨b0, 0, none⟩), .string p, .int .i64 x, .slice G m gc] w2 _ from by
    obtain ⟨G, gc, h1, h2, h3⟩ := h
    rw [hm] at h1 h2
    have hb3 : Below (bxD w 2 p x n B m d).heap.size (bxD w 2 p x n B m d) w2 := Tre.below_drew h3
    exact ⟨G, gc, h1, HDW.out w2 w2 hb3 (Chg.refl _ _), HWR.out w2 G gc hb3 h2⟩))
  clear hb0 hbd hdc hM hB
  go_enter Tryd.func22, Tryd.ntmps22
  go_upto_region 7 with fail
  rw [← hb1, ← hbdd]
  have hcl1 := HDC.out.1
  have hcl2 := HDC.out.2.1
  have hcl4 := HDC.out.2.2
  generalize hw1 : bxD w 2 p x n B m d = w1 at *
  rw [show (w.alloc (.cells #[.int .i64 2, .string p, .int .i64 x, .int .i64 n, .slice B m d] 40)).alloc (.cells #[.int .i64 0, .slice none 0 0, .slice none 0 0] 26) = w1 from hw1]
  clear hw1 hb1 hbdd
  go_region_held3 (fun W' => W'.cell? ⟨bd, 1, none⟩ = some (.string p) ∧ W'.cell? ⟨bd, 2, none⟩ = some (.int .i64 x) ∧ W'.cell? ⟨bd, 4, none⟩ = some (.slice B m d)) (go_keep)
    (first
    | (go_at_call 31
       with_reducible refine HCL.out.mono ?_
       rintro e w2 ⟨G, gc, rfl, ⟨k1, k2, k4⟩, hwr⟩)
    | (go_at_call 19
       with_reducible refine Calls.mono (by assumption) ?_
       rintro e w3 ⟨rfl, htr, hab, ⟨l1, l2, l4⟩, hz⟩
       obtain ⟨y1, y2, y4⟩ := hz (.int .i64 (writeT t p x (Crc.str bs)).2) (.slice none 0 0) (.slice none 0 0)
       have hal := hab.lt
       have ha0 := hab.c0
       have ha1 := hab.c1
       have ha2 := hab.c2
       have hf0 := hab.f0
       have hf1 := hab.f1
       have hf2 := hab.f2
       have HTR := Lib.hid htr
       have HAB := Lib.hid hab
       clear htr hab hz))
  all_goals
    have HF := Lib.hid (mod_fin0 HM.out HB0.out (by have := HB1.out; omega) (by have := HSZ.out; omega) HTR.out (chg_set3 w3 b1 (.int .i64 (writeT t p x (Crc.str bs)).2) (.slice none 0 0) (.slice none 0 0)) (writeT t p x (Crc.str bs)).2)
    obtain ⟨z0, z1, z2⟩ := set3 HAB.out (.int .i64 (writeT t p x (Crc.str bs)).2) (.slice none 0 0) (.slice none 0 0)
    generalize writeT t p x (Crc.str bs) = r at *
    go_wp2
    refine bodyPost_ret (v := .agg #[.int .i64 r.2, .slice none 0 0, .slice none 0 0]) ?_ rfl HF.out
    simp [results, Tryd.results22, go_sem, z0, z1, z2]

set_option maxRecDepth 100000 in
set_option maxHeartbeats 4000000 in
theorem do_none (w : World) (N b0 : Nat) (k : Int) (t : List Th) (L : Nm → Nd) (p : ByteArray) (x n : Int) (m d : Nat) (B : Option Addr) (hM : Mem w N t L) (hk : ¬ (0 ≤ k ∧ k ≤ 7)) :
    Calls Tryd.prog 22 #[.iface 35 (.pointer (some ⟨b0, 0, none⟩)), .agg #[.int .i64 k, .string p, .int .i64 x, .int .i64 n, .slice B m d]] w (ModR w N t L (t, 1, ⟨#[]⟩, [])) := by
  have hb0 := ((Below.refl w.heap.size w).alloc (Nat.le_refl _) (.cells #[.int .i64 k, .string p, .int .i64 x, .int .i64 n, .slice B m d] 40)).alloc (by simp) (.cells #[.int .i64 0, .slice none 0 0, .slice none 0 0] 26)
  obtain ⟨b1, hb1⟩ : ∃ b1, b1 = w.heap.size + 1 := ⟨_, rfl⟩
  have hab := anb_at w k p x n B m d b1 hb1
  have HF := Lib.hid (mod_fin0 hM (show Below w.heap.size w (bxD w k p x n B m d) from hb0) (show w.heap.size ≤ b1 by omega) hab.lt (TrkN.same (hM.keep hb0) (Below.refl _ _)) (chg_set3 (bxD w k p x n B m d) b1 (.int .i64 1) (.slice none 0 0) (.slice none 0 0)) 1)
  have e0 : (k == 0) = false := beq_eq_false_iff_ne.2 (by omega)
  have e1 : (k == 1) = false := beq_eq_false_iff_ne.2 (by omega)
  have e2 : (k == 2) = false := beq_eq_false_iff_ne.2 (by omega)
  have e3 : (k == 3) = false := beq_eq_false_iff_ne.2 (by omega)
  have e4 : (k == 4) = false := beq_eq_false_iff_ne.2 (by omega)
  have e5 : (k == 5) = false := beq_eq_false_iff_ne.2 (by omega)
  have e6 : (k == 6) = false := beq_eq_false_iff_ne.2 (by omega)
  have e7 : (k == 7) = false := beq_eq_false_iff_ne.2 (by omega)
  have HAB := Lib.hid hab
  have HB1 := Lib.hid hb1
  clear hb0 hM hk hab hb1
  go_enter Tryd.func22, Tryd.ntmps22
  go_upto_region 18 with fail
  rw [← HB1.out]
  generalize hw1 : bxD w k p x n B m d = w1 at *
  rw [show (w.alloc (.cells #[.int .i64 k, .string p, .int .i64 x, .int .i64 n, .slice B m d] 40)).alloc (.cells #[.int .i64 0, .slice none 0 0, .slice none 0 0] 26) = w1 from hw1]
  clear hw1
  have hl := HAB.out.lt
  have h0 := HAB.out.c0
  have h1 := HAB.out.c1
  have h2 := HAB.out.c2
  have f0 := HAB.out.f0
  have f1 := HAB.out.f1
  have f2 := HAB.out.f2
  obtain ⟨z0, z1, z2⟩ := set3 HAB.out (.int .i64 1) (.slice none 0 0) (.slice none 0 0)
  go_wp2
  refine bodyPost_ret (v := .agg #[.int .i64 1, .slice none 0 0, .slice none 0 0]) ?_ rfl HF.out
  simp [results, Tryd.results22, go_sem, z0, z1, z2]

/-- a deed of any kind -/
theorem do_any (w : World) (N b0 : Nat) (k : Int) (t : List Th) (L : Nm → Nd) (p : ByteArray) (x n : Int) (m d : Nat) (B : Option Addr) (bs : List Nat) (hM : Mem w N t L) (hb : (L []).b = b0) (hW : Wf t) (hp : p.size < 4294967281) (hN : N ≤ 999999) (hm : bs.length = m) (hml : m ≤ 1000000) (hB : Crc.Bts w B bs) (hx : x ≤ 9223372036854775807) (hn : n ≤ 9223372036854775807) (hl : t.length ≤ 100000) :
    Calls Tryd.prog 22 #[.iface 35 (.pointer (some ⟨b0, 0, none⟩)), .agg #[.int .i64 k, .string p, .int .i64 x, .int .i64 n, .slice B m d]] w (ModR w N t L (doM t k p x n (Crc.str bs))) := by
  unfold doM
  by_cases hk : 0 ≤ k ∧ k ≤ 7
  · rw [if_pos hk]
    obtain ⟨q, rfl⟩ := Int.eq_ofNat_of_zero_le hk.1
    have hq : q ≤ 7 := by omega
    rw [Int.toNat_natCast]
    unfold Tre.doT
    rw [Nat.mod_eq_of_lt (by omega : q < 8)]
    by_cases h0 : q = 0
    · rw [if_pos h0]; exact do_0 w N b0 q t L p x n m d B hM hb hW hp hN (by omega)
    rw [if_neg h0]
    by_cases h1 : q = 1
    · rw [if_pos h1]; exact do_1 w N b0 q t L p x n m d B hM hb hW hp hN (by omega)
    rw [if_neg h1]
    by_cases h2 : q = 2
    · rw [if_pos h2]; exact do_2 w N b0 q t L p x n m d B hM hb hW hp bs hm hml hB (by omega)
    rw [if_neg h2]
    by_cases h3 : q = 3
    · rw [if_pos h3]; exact do_3 w N b0 q t L p x n m d B hM hb hW hp (by omega)
    rw [if_neg h3]
    by_cases h4 : q = 4
    · rw [if_pos h4]; exact do_4 w N b0 q t L p x n m d B hM hb hW hp (by omega)
    rw [if_neg h4]
    by_cases h5 : q = 5
    · rw [if_pos h5]; exact do_5 w N b0 q t L p x n m d B hM hb hW hp (by omega)
    rw [if_neg h5]
    by_cases h6 : q = 6
    · rw [if_pos h6]; exact do_6 w N b0 q t L p x n m d B hM hb hW hp hx hn (by omega)
    rw [if_neg h6]
    exact do_7 w N b0 q t L p x n m d B hM hb hW hp hl (by omega)
  · rw [if_neg hk]
    exact do_none w N b0 k t L p x n m d B hM hk
end Mod
end Go.Proofs.YtkhkcfbacnkcnaaDoor
