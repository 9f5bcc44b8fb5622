/- The device's Crash. -/
import Derived.Test.YtlcjnmoicjgaiaaPmMay
import Derived.Test.YtlcjnmoicjgaiaaPmSorted
namespace Go.Proofs.Ytlcjnmoicjgaiaa
open Go.RowKit Go.MapKept
namespace Pm

/-- a slice of bytes that lies in w -/
def Bytes (w : World) (A : Option Addr) (n : Nat) : Prop :=
  n ≤ 9223372036854775807 ∧ ∀ j, j < n → ∃ (b o : Nat) (c : Int), A = some ⟨b, o, none⟩ ∧ b < w.heap.size ∧ 0 ≤ c ∧ c < 256 ∧ w.cell? ⟨b, o + j, none⟩ = some (.int .u8 c)

structure Crashed (A A' : Abs) : Prop where
  steps : A'.steps = A.steps
  stores : A'.stores = A.stores
  armed : A'.armed = false
  left : A'.left = 0
  pend : A'.pend = []
  marked : A'.marked = []
  len : A'.words.length = A.words.length
  words : ∀ k x, A'.words[k]? = some x → x ∈ A.may k

section
variable {w : World} {a : Nat} {D : Dev}
theorem disarm_any (h : Rep w a D) : Calls Try.prog 32 #[.pointer (some ⟨a, 0, none⟩)] w fun r w' =>
    r = .returned (.tuple #[]) ∧ Res w a D w' { D with armed := false, left := 0 } := by
  have c2 := h.c2
  have c3 := h.c3
  have f2 := h.frozen 2
  have f3 := h.frozen 3
  have H := Lib.hid h
  clear h
  go_enter Try.func32, Try.ntmps32
  go_wp2
  go_end0
  have h := H.out
  refine ⟨rfl, h.turn (D' := { D with armed := false, left := 0 }) ?_ (fun k hk hne => (Below.heap_setCell _ _ _ _ hne).trans (Below.heap_setCell _ _ _ _ hne)) rfl rfl rfl rfl rfl rfl rfl, ((Off.refl _ _).setCell (fun _ => .inl rfl) _).setCell (fun _ => .inl rfl) _, fun _ h => .inl h⟩
  rw [blk_set (blk_set h.dev 2 _) 3 _]
  simp [Dev.cells]

theorem run_clear {l : List Ent} {b c : Nat} {W : World} (ty : TypeId) (hb : W.heap[b]? = some (.map (l.map Ent.entry).toArray c)) :
    (Builtin.clear_ #[44] ty #[.map (some b)]).run Try.prog W = .ok (.tuple #[]) (putMap W b [] c) := by
  simp [Builtin.clear_, run_underlying under_map, MapKept.run_getObj_map hb, run_setObj_map _ hb, putMap]

/-- the loop's relation: i words have been chosen for -/
def CrashRel (w : World) (a : Nat) (D : Dev) (ks : List Nat) (v : Value) (i : Nat) (wr : World) : Prop :=
  ∃ ws : List Int, Res w a D wr { D with words := ws } ∧ ws.length = D.words.length ∧ (∀ k x, ws[k]? = some x → x ∈ D.abs.may k ∨ (k ∉ ks.take i ∧ D.words[k]? = some x)) ∧
    wr.ownsRow (w.heap.size + 1) 3 1 v ks.length (i64s ks)

theorem row_cell {B : Nat} {W : World} {g c n i : Nat} {ks : List Nat} (h : W.ownsRow B 3 1 (.slice (some ⟨g, 0, none⟩) n c) ks.length (i64s ks)) (hi : i < ks.length) : W.cell? ⟨g, i, none⟩ = some (.int .i64 (ks[i] : Int)) := by
  rcases h.2 with ⟨e, _⟩ | ⟨g', cap, cur, e, _, hb, _, _, hsz, ht⟩
  · cases e
  · injection e with e
    injection e with e
    injection e with e
    subst e
    rw [blk_cell hb]
    have := congrArg (·[i]?) ht
    simp only [Nat.mul_one, i64s] at this
    rw [List.getElem?_take, if_pos hi, List.getElem?_map, List.getElem?_eq_getElem hi] at this
    rw [← Array.getElem?_toList]
    exact this

theorem crash_start {w2 : World} {ks : List Nat} {v : Value} (h : Rep w a D) (hb : Below (w.heap.size + 1) (w.alloc (.cells #[.map (some D.mb)] 44)) w2)
    (hrow : w2.ownsRow (w.heap.size + 1) 3 1 v ks.length (i64s ks)) : CrashRel w a D ks v 0 w2 := by
  have hoff : Off (fun _ => False) w w2 := ⟨hb.os, hb.tape, hb.output, by have := hb.size; rw [World.size_alloc] at this; omega, fun k hk _ => (hb.block k (by omega)).trans (Below.heap_alloc _ _ _ hk)⟩
  refine ⟨D.words, ⟨h.keep (fun k hk => hoff.block k (h.foot_lt hk) id), hoff.mono (fun _ _ h => h.elim), fun _ h => .inl h⟩, rfl, ?_, hrow⟩
  intro k x hx
  exact .inr ⟨by simp, hx⟩

/-- the facts of a round -/
theorem crash_facts {wr : World} {ks : List Nat} {v : Value} {i : Nat} (hr : CrashRel w a D ks v i wr) (h : Rep w a D) (ok : D.abs.Ok) (hp : ks.Perm (D.ents.map Ent.key)) (hi : i < ks.length) :
    ∃ (pre post : List Ent) (e : Ent), D.ents = pre ++ e :: post ∧ e.key = ks[i] ∧ 2 ≤ e.vals.length ∧ e.vals.length < 1000000000000 ∧ e.key < D.words.length ∧
      (Instr.lookup 44 (.map (some D.mb)) (.int .i64 (e.key : Int)) false).run Try.prog wr = .ok e.val wr ∧
      wr.cell? ⟨a, 5, none⟩ = some (.map (some D.mb)) ∧ wr.cell? ⟨a, 4, none⟩ = some (.slice (some ⟨D.wb, 0, none⟩) D.words.length D.words.length) ∧
      (∃ y, wr.cell? ⟨D.wb, e.key, none⟩ = some (.int .u64 y)) ∧ wr.frozen? ⟨D.wb, e.key, none⟩ = false ∧
      (∀ j, j < e.vals.length → ∃ y, y ∈ D.abs.may e.key ∧ wr.cell? ⟨e.blk, e.off + j, none⟩ = some (.int .u64 y)) ∧
      (∀ y, y ∈ D.abs.may e.key → CrashRel w a D ks v (i + 1) (wr.setCell ⟨D.wb, e.key, none⟩ (.int .u64 y)).drew) := by
  obtain ⟨ws, hres, hlen, hws, hrow⟩ := hr
  have hk : ks[i] ∈ D.ents.map Ent.key := hp.mem_iff.1 (List.getElem_mem hi)
  obtain ⟨e, he, hek⟩ := List.mem_map.1 hk
  obtain ⟨pre, post, hpp⟩ := List.append_of_mem he
  have hent := ok.ent e.abs (List.mem_map_of_mem he)
  have hfew := ok.few
  have hcnt := ok.cnt
  simp only [Ent.abs] at hent
  have hwl : e.key < D.words.length := hent.1
  have hmay : D.abs.may e.key = e.vals := by
    have := pget_of_mem ok.keys (List.mem_map_of_mem (f := Ent.abs) he)
    simp only [Ent.abs] at this
    simp only [Abs.may]
    rw [this]
  have hmid := h.mid_key hpp
  have hm : wr.heap[D.mb]? = some (.map ((pre ++ e :: post).map Ent.entry).toArray D.clock) := by rw [← hpp]; exact hres.rep.map
  have hl := run_look_some hm hmid.1 false
  have hwx : e.key < ws.length := by omega
  refine ⟨pre, post, e, hpp, hek, hent.2.1, by omega, hwl, hl, hres.rep.c5, ?_, ⟨ws[e.key], ?_⟩, blk_frozen hres.rep.wds _, ?_, ?_⟩
  · have := hres.rep.c4
    simp only [hlen] at this
    exact this
  · have := hres.rep.word e.key
    rw [show ({ D with words := ws } : Dev).words = ws from rfl, List.getElem?_eq_getElem hwx] at this
    exact this
  · intro j hj
    obtain ⟨cs, hcs, r1, r2, r3⟩ := hres.rep.ent e he
    refine ⟨e.vals[j], by rw [hmay]; exact List.getElem_mem hj, ?_⟩
    rw [blk_cell hcs]
    have := congrArg (·[j]?) r3
    simp only [u64s] at this
    rw [List.getElem?_take, if_pos hj, List.getElem?_drop, List.getElem?_map, List.getElem?_eq_getElem hj, Array.getElem?_toList] at this
    exact this
  · intro y hy
    have hw := word_res hres.rep e.key y
    refine ⟨ws.set e.key y, ?_, by rw [List.length_set, hlen], ?_, ?_⟩
    · have := hres.trans hw
      exact ⟨this.rep.keep (fun _ _ => rfl), this.off.drew, this.foot⟩
    · intro k x hx
      by_cases hke : e.key = k
      · subst hke
        rw [List.getElem?_set_self hwx] at hx
        injection hx with hx
        subst hx
        exact .inl hy
      · rw [List.getElem?_set_ne hke] at hx
        rcases hws k x hx with h1 | ⟨h1, h2⟩
        · exact .inl h1
        · refine .inr ⟨?_, h2⟩
          rw [List.take_add_one, List.getElem?_eq_getElem hi]
          simp only [Option.toList_some, List.mem_append, List.mem_singleton, not_or]
          exact ⟨h1, fun e => hke (by rw [e, hek])⟩
    · refine row_keep hrow (fun g hg => ?_)
      have hgb : w.heap.size + 1 ≤ g := by
        rcases hrow.2 with ⟨e, _⟩ | ⟨g', cap, cur, e, hb, _⟩
        · rw [e] at hg; simp [Value.ownBlock] at hg
        · rw [e] at hg; simp [Value.ownBlock] at hg; omega
      have hwb := h.foot_lt (k := D.wb) (.inr (.inl rfl))
      exact Below.heap_setCell _ _ _ _ (by show g ≠ D.wb; omega)

theorem crash_bytes {wr : World} {ks : List Nat} {v : Value} {i j n : Nat} {A : Option Addr} (hr : CrashRel w a D ks v i wr) (hA : Bytes w A n) (hF : ∀ b o, 0 < n → A = some ⟨b, o, none⟩ → ¬ Foot a D b) (hj : j < n) :
    ∃ (b o : Nat) (c : Int), A = some ⟨b, o, none⟩ ∧ 0 ≤ c ∧ c < 256 ∧ wr.cell? ⟨b, o + j, none⟩ = some (.int .u8 c) := by
  obtain ⟨ws, hres, _⟩ := hr
  obtain ⟨b, o, c, e, hb, h1, h2, hc⟩ := hA.2 j hj
  exact ⟨b, o, c, e, h1, h2, (World.cell?_of_block (w := w) (hres.off.block b hb (hF b o (by omega) e))).trans hc⟩

theorem row_slice {B n : Nat} {W : World} {e : TypeId} {v : Value} {xs : List Value} (h : W.ownsRow B e 1 v n xs) : ∃ G c, v = .slice G n c ∧ (0 < n → ∃ g, G = some ⟨g, 0, none⟩) := by
  rcases h.2 with ⟨e, h0⟩ | ⟨g, cap, cur, e, _⟩
  · exact ⟨none, 0, by rw [e, h0], fun h => by omega⟩
  · exact ⟨_, _, e, fun _ => ⟨g, rfl⟩⟩

theorem crash_end {wr : World} {ks : List Nat} {v : Value} (hr : CrashRel w a D ks v ks.length wr) (hp : ks.Perm (D.ents.map Ent.key)) :
    ∃ D1 : Dev, Res w a D wr D1 ∧ D1.abs.steps = D.abs.steps ∧ D1.abs.stores = D.abs.stores ∧ D1.mb = D.mb ∧ D1.mka = D.mka ∧ D1.mkc = D.mkc ∧ D1.marked = D.marked ∧
      D1.words.length = D.words.length ∧ ∀ k x, D1.words[k]? = some x → x ∈ D.abs.may k := by
  obtain ⟨ws, hres, hlen, hws, _⟩ := hr
  refine ⟨_, hres, rfl, rfl, rfl, rfl, rfl, rfl, hlen, fun k x hx => ?_⟩
  rcases hws k x hx with h1 | ⟨h1, h2⟩
  · exact h1
  · rw [List.take_length] at h1
    have hn : pget D.abs.pend k = none := by
      rw [pget_none, keys_abs]
      exact fun hk => h1 (hp.mem_iff.2 hk)
    simp only [Abs.may, hn]
    show x ∈ [D.words[k]?.getD 0]
    rw [h2]
    simp

theorem run_field (u v : Value) (W : World) : (Instr.field 62 (.agg #[u, v]) 0).run Try.prog W = .ok u W := by kernel_rfl

/-- the map is empty -/
theorem clear_res (h : Rep w a D) : Res w a D (putMap w D.mb [] D.clock) { D with ents := [] } :=
  ents_res h [] D.clock (Off.refl _ _) (by simp) (by simp) (by simp) (by simp [Stamp]) (by simp)

theorem crash_tail {wr : World} {ks : List Nat} {v : Value} (hr : CrashRel w a D ks v ks.length wr) (hp : ks.Perm (D.ents.map Ent.key)) :
    ∃ (w3 : World) (G : Option Addr) (n c : Nat), wr.cell? ⟨a, 5, none⟩ = some (.map (some D.mb)) ∧ (Builtin.clear_ #[44] 0 #[.map (some D.mb)]).run Try.prog wr = .ok (.tuple #[]) w3 ∧
      w3.cell? ⟨a, 6, none⟩ = some (.slice G n c) ∧ w3.frozen? ⟨a, 6, none⟩ = false ∧ ((G = none ∧ n = 0 ∧ c = 0) ∨ ∃ g, G = some ⟨g, 0, none⟩ ∧ n ≤ c) ∧
      Calls Try.prog 32 #[.pointer (some ⟨a, 0, none⟩)] (w3.setCell ⟨a, 6, none⟩ (.slice G 0 c)) fun r w' => r = .returned (.tuple #[]) ∧ ∃ D', Res w a D w' D' ∧ Crashed D.abs D'.abs := by
  obtain ⟨D1, hres, hs1, hs2, hmb, _, _, _, hwl, hwm⟩ := crash_end hr hp
  have hc1 := clear_res hres.rep
  have hu1 := unmark_res hc1.rep
  have hd1 := disarm_any hu1.rep
  have hclr := run_clear 0 hres.rep.map
  have k5 := hres.rep.c5
  rw [hmb] at hclr k5
  refine ⟨_, D1.mka, D1.marked.length, D1.mkc, k5, hclr, ?_, ?_, ?_, ?_⟩
  · rw [← hmb]; exact hc1.rep.c6
  · rw [← hmb]; exact hc1.rep.frozen 6
  · rcases hc1.rep.mrk.2 with ⟨e, h0⟩ | ⟨g, cap, cur, e, _, _, hcap, _⟩
    · left
      simp only [Dev.mkv] at e
      injection e with e1 e2 e3
      exact ⟨e1, e2, e3⟩
    · right
      simp only [Dev.mkv] at e
      injection e with e1 e2 e3
      exact ⟨g, e1, by rw [e3]; exact hcap⟩
  · rw [← hmb]
    exact hd1.mono fun r w' hx => ⟨hx.1, _, ((hres.trans hc1).trans hu1).trans hx.2, hs1, hs2, rfl, rfl, rfl, rfl, hwl, hwm⟩

set_option maxHeartbeats 3200000 in
set_option maxRecDepth 100000 in
theorem crash_any (h : Rep w a D) (ok : D.abs.Ok) (A : Option Addr) (n c : Nat) (hA : Bytes w A n) (hF : ∀ b o, 0 < n → A = some ⟨b, o, none⟩ → ¬ Foot a D b) :
    Calls Try.prog 12 #[.pointer (some ⟨a, 0, none⟩), .slice A n c] w fun r w' => r = .returned (.int .i64 (D.ents.length : Int)) ∧ ∃ D', Res w a D w' D' ∧ Crashed D.abs D'.abs := by
  have c5 := h.c5
  have HS := Lib.hid (sorted_call h ok)
  have H := Lib.hid h
  have HK := Lib.hid ok
  have HB := Lib.hid hA
  have HFF := Lib.hid hF
  have hn := hA.1
  clear h ok hA hF
  go_enter Try.func12, Try.ntmps12
  go_wp2_with (first
    | (go_at_call 31; refine (keys_call _ _).mono ?_; rintro e w' ⟨rfl, rfl⟩)
    | (go_at_call 30; refine HS.out.mono ?_; rintro e w2 ⟨v, ks, rfl, hp, hrow, hb⟩
       obtain ⟨G, gc, rfl, hG⟩ := row_slice hrow
       have HR := Lib.hid (crash_start H.out hb hrow)
       have HP := Lib.hid hp
       have HG := Lib.hid hG
       clear hp hrow hb hG))
  have hkl : ks.length ≤ 4194304 := by
    have h1 := HP.out.length_eq
    rw [List.length_map] at h1
    have := nodup_lt 4194304 (D.ents.map Ent.key) H.out.keys (fun k hk => by
      obtain ⟨e, he, rfl⟩ := List.mem_map.1 hk
      have := (HK.out.ent e.abs (List.mem_map_of_mem he)).1
      have hs := HK.out.size
      simp only [Ent.abs] at this
      omega)
    rw [List.length_map] at this
    omega
  go_loopw [18] (fun i wr => ∃ m : Nat, m ≤ ks.length ∧ i = .int .i64 (m : Int) ∧ CrashRel w a D ks (.slice G ks.length gc) m wr) (fun i _ => ks.length - (intOf i).toNat)
  case atStart => exact ⟨0, Nat.zero_le _, rfl, HR.out⟩
  case round =>
    obtain ⟨m, hm, rfl, hrel⟩ := hrel
    by_cases hlt : m < ks.length
    · obtain ⟨g, rfl⟩ := HG.out (by omega)
      have hce := row_cell (by obtain ⟨ws, _, _, _, hrow⟩ := hrel; exact hrow) hlt
      obtain ⟨pre, post, e, hpp, hek, hv2, hvl, hkw, hlk, k5, k4, ⟨y0, kw⟩, kf, hvals, hnext⟩ := crash_facts hrel H.out HK.out HP.out hlt
      rw [← hek] at hce
      simp only [Ent.val] at hlk
      have HN := Lib.hid hnext
      by_cases hjn : m < n
      · obtain ⟨b, o, ch, rfl, hc0, hc1, hcc⟩ := crash_bytes hrel HB.out HFF.out hjn
        obtain ⟨y, hy, hyc⟩ := hvals (ch % (e.vals.length : Int)).toNat (by
          have b1 : 0 ≤ ch % (e.vals.length : Int) := Int.emod_nonneg _ (by omega)
          have b2 : ch % (e.vals.length : Int) < (e.vals.length : Int) := Int.emod_lt_of_pos _ (by omega)
          omega)
        have HY := Lib.hid hy
        have b1 : 0 ≤ ch % (e.vals.length : Int) := Int.emod_nonneg _ (by omega)
        have b2 : ch % (e.vals.length : Int) < (e.vals.length : Int) := Int.emod_lt_of_pos _ (by omega)
        have hfl := run_field (.slice (some ⟨e.blk, e.off, none⟩) e.vals.length e.cap) (.int .i64 (e.mark : Int))
        clear hvals hnext hrel hpp hek hy
        go_wp2
        go_region
        go_wp2
        exact ⟨⟨m + 1, by omega, by go_num, HN.out y HY.out⟩, by simp [intOf]; omega⟩
      · obtain ⟨y, hy, hyc⟩ := hvals 0 (by omega)
        rw [Nat.add_zero] at hyc
        have HY := Lib.hid hy
        have hfl := run_field (.slice (some ⟨e.blk, e.off, none⟩) e.vals.length e.cap) (.int .i64 (e.mark : Int))
        clear hvals hnext hrel hpp hek hy
        go_wp2
        go_region
        go_wp2
        exact ⟨⟨m + 1, by omega, by go_num, HN.out y HY.out⟩, by simp [intOf]; omega⟩
    · have hmk : m = ks.length := by omega
      rw [hmk] at hrel
      obtain ⟨w3, G3, n3, c3, k5, hclr, k6, f6, hG3, hdis⟩ := crash_tail hrel HP.out
      have hlen : ks.length = D.ents.length := by rw [HP.out.length_eq, List.length_map]
      have HLEN := Lib.hid hlen
      have HDIS := Lib.hid hdis
      clear hrel hmk hlen hdis
      rcases hG3 with ⟨rfl, rfl, rfl⟩ | ⟨g3, rfl, hcap⟩
      · go_wp2_with (go_at_call 32; refine HDIS.out.mono ?_; rintro e w4 ⟨rfl, hx⟩; have HX := Lib.hid hx; clear hx)
        go_ret
        exact ⟨ret_int (by rw [HLEN.out]), HX.out⟩
      · go_wp2_with (go_at_call 32; refine HDIS.out.mono ?_; rintro e w4 ⟨rfl, hx⟩; have HX := Lib.hid hx; clear hx)
        go_ret
        exact ⟨ret_int (by rw [HLEN.out]), HX.out⟩
end
end Pm
end Go.Proofs.Ytlcjnmoicjgaiaa
