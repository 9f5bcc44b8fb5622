/- Rows of the call's own; PackFields, walked. -/
import Derived.Test.YtgpodmjdgcoidaaPackSame
import Derived.OwnWalk
import Derived.Lib.OwnKind
namespace Go.Proofs.Ytgpodmjdgcoidaa
open Go.RowKit Go.MapKept
namespace Pack

theorem own_cells {W : World} {B n c : Nat} {e : TypeId} {G : Option Addr} {xs : List Value} (h : W.ownsRow B e 1 (.slice G n c) n xs) (j : Nat) (hj : j < n) : ∃ g, G = some ⟨g, 0, none⟩ ∧ g < W.heap.size ∧ W.cell? ⟨g, 0 + j, none⟩ = xs[j]? := by
  rcases h.2 with ⟨e, h0⟩ | ⟨g, cap, cur, e, _, hh, _, _, _, ht⟩
  · omega
  · injection e with e
    subst e
    refine ⟨g, rfl, (Array.getElem?_eq_some_iff.1 hh).1, ?_⟩
    have := congrArg (·[j]?) ht
    simp only [Nat.mul_one] at this
    rw [List.getElem?_take, if_pos hj] at this
    unfold World.cell?
    rw [hh, Nat.zero_add]
    simp only
    rw [← Array.getElem?_toList]
    exact this

theorem row_slice {B n : Nat} {W : World} {e : TypeId} {s : Nat} {v : Value} {xs : List Value} (h : W.ownsRow B e s v n xs) : ∃ G c, v = .slice G n c := by
  rcases h.2 with ⟨e, h0⟩ | ⟨g, cap, cur, e, _⟩
  · exact ⟨none, 0, by rw [e, h0]⟩
  · exact ⟨_, _, e⟩
theorem row_base_lt {w : World} {B : Nat} {e : TypeId} {s n : Nat} {v : Value} {xs : List Value} (h : w.ownsRow B e s v n xs) {g : Nat} (hg : v.ownBlock = some g) : B ≤ g := (h.lt g hg).1

theorem rows_apart {w : World} {B B' : Nat} {e e' : TypeId} {s s' n n' : Nat} {v v' : Value} {xs xs' : List Value} (h : w.ownsRow B e s v n xs) (g : w.ownsRow B' e' s' v' n' xs') (he : e ≠ e') : v.ownBlock = none ∨ v.ownBlock ≠ v'.ownBlock := by
  cases hv : v.ownBlock with
  | none => exact .inl rfl
  | some k =>
    refine .inr (fun h2 => ?_)
    obtain ⟨c, fz, h3⟩ := Lib.ownsRow_kind h k hv
    obtain ⟨c', fz', h4⟩ := Lib.ownsRow_kind g k h2.symm
    rw [h3] at h4
    injection h4 with h4
    injection h4 with _ h4 _
    exact he h4

def i64s (l : List Int) : List Value := l.map (Value.int .i64)
def u64s (l : List Nat) : List Value := l.map fun x : Nat => Value.int .u64 (x : Int)

theorem own_nts {W : World} {B n c : Nat} {G : Option Addr} {l : List Int} (h : W.ownsRow B 3 1 (.slice G n c) n (i64s l)) (hb : ∀ n ∈ l, -9223372036854775808 ≤ n ∧ n ≤ 9223372036854775807) (hm : n ≤ 9223372036854775807) : Nts W G l := by
  have hl : l.length = n := by
    have := h.1
    simpa [i64s] using this
  refine ⟨hb, by omega, fun j hj => ?_⟩
  obtain ⟨g, e, h1, h2⟩ := own_cells h j (by omega)
  refine ⟨g, 0, e, h1, ?_⟩
  rw [h2, i64s, List.getElem?_map, List.getElem?_eq_getElem hj]
  rfl
theorem own_wds {W : World} {B n c : Nat} {G : Option Addr} {l : List Nat} (h : W.ownsRow B 26 1 (.slice G n c) n (u64s l)) (hb : ∀ x ∈ l, x < 18446744073709551616) (hm : n ≤ 9223372036854775807) : Wds W G l := by
  have hl : l.length = n := by
    have := h.1
    simpa [u64s] using this
  refine ⟨hb, by omega, fun j hj => ?_⟩
  obtain ⟨g, e, h1, h2⟩ := own_cells h j (by omega)
  refine ⟨g, 0, e, h1, ?_⟩
  rw [h2, u64s, List.getElem?_map, List.getElem?_eq_getElem hj]
  rfl

theorem int_info : (Try.prog.info? 3).map (fun i => (i.zero, i.size, i.bytes)) = some (some (.int .i64 0), 1, 8) := by kernel_rfl

theorem i64s_step {l : List Fld} {m : Nat} (h : m < l.length) : i64s ((l.take (m + 1)).map Fld.n) = i64s ((l.take m).map Fld.n) ++ [.int .i64 l[m].n] := by
  rw [List.take_succ_eq_append_getElem h]
  simp only [i64s, List.map_append, List.map_cons, List.map_nil]
theorem u64s_step {l : List Fld} {m : Nat} (h : m < l.length) : u64s ((l.take (m + 1)).map Fld.v) = u64s ((l.take m).map Fld.v) ++ [.int .u64 (l[m].v : Int)] := by
  rw [List.take_succ_eq_append_getElem h]
  simp only [u64s, List.map_append, List.map_cons, List.map_nil]

theorem cell_one_at (w : World) (k : Nat) (hk : k = w.heap.size) (x : Value) (t : TypeId) : ∀ j u, [x][j]? = some u → (w.alloc (.cells #[x] t)).cell? ((⟨k, 0, none⟩ : Addr).add j) = some u := by
  subst hk
  exact cell_one_new w x t

theorem grown_cell {w w' : World} {row : Option Nat} (h : w.grownBy w' row) {a : Addr} (ha : a.block < w.heap.size) (hr : some a.block ≠ row) : w'.cell? a = w.cell? a := World.cell?_of_block (w := w) (h.block _ ha hr)

/-- a field's second cell, behind a new block and an append -/
theorem field_cell {wr w3 : World} {row : Option Nat} {x y : Value} {t t' : TypeId} {o : Array Value} (h : ((wr.alloc (.cells #[x, y] t)).alloc (.cells o t')).grownBy w3 row) (hr : ∀ k, row = some k → k < wr.heap.size) : w3.cell? ⟨wr.heap.size, 1, none⟩ = some y := by
  rw [grown_cell h (by simp; omega) (fun e => by have := hr _ e.symm; simp at this)]
  refine (World.cell?_of_block (w := wr.alloc (.cells #[x, y] t)) (Below.heap_alloc _ _ _ (by simp))).trans ?_
  exact alloc_cell _ _ _ _

theorem pk_split_eq {l : List Fld} {x t : Nat} (h : pk 0 0 l = some (x, t)) : split x (l.map Fld.n) = some (l.map Fld.v) := by
  obtain ⟨h1, _, z, rfl, hz, hs⟩ := pk_split h
  simp only [Nat.sub_zero] at hz
  simp only [Nat.pow_zero, Nat.mul_one, Nat.zero_add]
  unfold split
  rw [h1]
  simp only
  rw [if_pos (Nat.div_eq_of_lt hz), hs]

theorem Nts.drewN {w : World} {A : Option Addr} {l : List Int} (h : Nts w A l) (n : Nat) : Nts (w.drewN n) A l := h.keep (below_drewN (Below.refl _ _) n)
theorem Wds.drewN {w : World} {A : Option Addr} {l : List Nat} (h : Wds w A l) (n : Nat) : Wds (w.drewN n) A l := h.keep (below_drewN (Below.refl _ _) n)

section
variable {w : World}
set_option maxHeartbeats 3200000 in
set_option maxRecDepth 100000 in
theorem fields_any (A : Option Addr) (c : Nat) (l : List Fld) (h : Fds w A l) :
    Calls Try.prog 3 #[.slice A l.length c] w fun r w' => r = .returned (.bool true) ∧ Below w.heap.size w w' := by
  have hlen := h.len
  have H := Lib.hid h
  clear h
  have HL := Lib.hid (fun W => lives_any W)
  by_cases h70 : l.length ≤ 70
  · go_enter Try.func3, Try.ntmps3
    go_wp2_with fail
    refine (HL.out _).mono ?_
    rintro e w1 ⟨rfl, hb⟩
    have H1 := Lib.hid (H.out.keep hb)
    have HB := Lib.hid hb
    clear hb
    go_wp2_with fail
    go_loopw [3, 4, 23] (fun v u i wr => ∃ (m : Nat) (G1 : Option Addr) (c1 : Nat) (G2 : Option Addr) (c2 : Nat), m ≤ l.length ∧ i = .int .i64 (m : Int) ∧ v = .slice G1 m c1 ∧ u = .slice G2 m c2 ∧ wr.ownsRow w1.heap.size 3 1 (.slice G1 m c1) m (i64s ((l.take m).map Fld.n)) ∧ wr.ownsRow w1.heap.size 26 1 (.slice G2 m c2) m (u64s ((l.take m).map Fld.v)) ∧ Below w1.heap.size w1 wr) (fun _ _ i _ => l.length - (intOf i).toNat)
    case atStart => exact ⟨0, none, 0, none, 0, Nat.zero_le _, rfl, rfl, rfl, World.ownsRow_nil _ _ _ _, World.ownsRow_nil _ _ _ _, Below.refl _ _⟩
    case round =>
      obtain ⟨m, G1, c1, G2, c2, hm, rfl, rfl, rfl, ho1, ho2, hbel⟩ := hrel
      by_cases hlt : m < l.length
      · obtain ⟨b, o, rfl, hb, hcell, hcell'⟩ := H1.out.at' m hlt
        have hca := (hbel.cell (p := ⟨b, o + m * 2, none⟩) hb).trans hcell
        have hcb := (hbel.cell (p := ⟨b, o + m * 2 + 1, none⟩) hb).trans hcell'
        clear hcell hcell'
        have hx := H1.out.i64 _ (List.getElem_mem hlt)
        have HI := Lib.hid (i64s_step hlt)
        have HU := Lib.hid (u64s_step hlt)
        generalize l[m] = f at *
        obtain ⟨n, v⟩ := f
        simp only at hca hcb hx HI HU
        obtain ⟨i0, hi0, hz0, hz1, hz2⟩ := info_parts int_info
        obtain ⟨i1, hi1, hy0, hy1, hy2⟩ := info_parts u64_info
        have HX1 := Lib.hid ((ho1.alloc (.cells #[.int .i64 n, .int .u64 (v : Int)] 28)).alloc (.cells #[.int .i64 n] 3))
        have HX2 := Lib.hid ((ho2.alloc (.cells #[.int .i64 n, .int .u64 (v : Int)] 28)).alloc (.cells #[.int .i64 n] 3))
        have hbel1 := hbel.alloc hbel.size (.cells #[.int .i64 n, .int .u64 (v : Int)] 28)
        have HBX := Lib.hid (hbel1.alloc hbel1.size (.cells #[.int .i64 n] 3))
        have hsz := hbel.size
        have HN := Lib.hid (fun k hk => (ho1.lt k hk).2)
        have HN2 := Lib.hid (fun k hk => (ho2.lt k hk).1)
        clear ho1 ho2 hbel hbel1
        go_wp2_with (first
                    | (at_builtin
                       refine wpList_append_own_at _ rfl (.tmp 27) (.tmp 30) 24 rfl w1.heap.size 3 i0 (.int .i64 0) 1 8 Try.underlying24 hi0 hz0 hz1 hz2 rfl (by decide) (.slice G1 m c1) m (i64s ((l.take m).map Fld.n)) rfl HX1.out ⟨wr.heap.size + 1, 0, none⟩ 1 1 [.int .i64 n] rfl rfl (cell_one_at (wr.alloc _) _ (by simp) _ _) (by simp [Value.oneCell']) (by unfold maxLen; omega) (by omega) (by simp; omega) ?_
                       intro v' w3 hown3 hgr3 _ hat3
                       obtain ⟨G1', c1', rfl⟩ := row_slice hown3
                       have hfc := field_cell hgr3 HN.out
                       have hb3 := HBX.out.grown hgr3 (by simp; omega) (fun k hk => row_base_lt HX1.out hk)
                       have hs3 := hb3.size
                       have h2 := HX2.out.kept hgr3 (rows_apart HX2.out HX1.out (by decide))
                       have HY1 := Lib.hid (hown3.alloc (.cells #[.int .u64 (v : Int)] 26))
                       have HY2 := Lib.hid (h2.alloc (.cells #[.int .u64 (v : Int)] 26))
                       have HB3 := Lib.hid (hb3.alloc hb3.size (.cells #[.int .u64 (v : Int)] 26))
                       clear hown3 hgr3 hat3 hb3 h2)
                    | (at_builtin
                       refine wpList_append_own_at _ rfl (.tmp 32) (.tmp 35) 25 rfl w1.heap.size 26 i1 (.int .u64 0) 1 8 Try.underlying25 hi1 hy0 hy1 hy2 rfl (by decide) (.slice G2 m c2) m (u64s ((l.take m).map Fld.v)) rfl HY2.out ⟨w3.heap.size, 0, none⟩ 1 1 [.int .u64 (v : Int)] rfl rfl (cell_one_new _ _ _) (by simp [Value.oneCell']) (by unfold maxLen; omega) (by omega) (by simp; omega) ?_
                       intro v' w4 hown4 hgr4 _ hat4
                       obtain ⟨G2', c2', rfl⟩ := row_slice hown4
                       have HZ1 := Lib.hid (HY1.out.kept hgr4 (rows_apart HY1.out HY2.out (by decide)))
                       have HZ2 := Lib.hid hown4
                       have HB4 := Lib.hid (HB3.out.grown hgr4 (by simp; omega) (fun k hk => row_base_lt HY2.out hk))
                       clear hown4 hgr4 hat4))
        refine ⟨⟨m + 1, G1', c1', G2', c2', by omega, by go_num, rfl, rfl, ?_, ?_, HB4.out⟩, by simp [intOf]; omega⟩
        · rw [HI.out]
          exact HZ1.out
        · rw [HU.out]
          exact HZ2.out
      · obtain rfl : m = l.length := by omega
        rw [List.take_length] at ho1 ho2
        have HN := Lib.hid (own_nts ho1 (fun n hn => by
          obtain ⟨f, hf, rfl⟩ := List.mem_map.1 hn
          have := H1.out.i64 f hf
          exact ⟨this.1, this.2.1⟩) hlen)
        have HW := Lib.hid (own_wds ho2 (fun n hn => by
          obtain ⟨f, hf, rfl⟩ := List.mem_map.1 hn
          exact (H1.out.i64 f hf).2.2) hlen)
        have HF := Lib.hid (H1.out.keep hbel)
        have HB2 := Lib.hid (HB.out.trans (hbel.mono HB.out.size))
        clear ho1 ho2 hbel H H1 HB
        go_wp2_with fail
        refine (pack_any A c l HF.out).mono ?_
        rintro e w5 ⟨rfl, hb5⟩
        have HN5 := Lib.hid (HN.out.keep hb5)
        have HW5 := Lib.hid (HW.out.keep hb5)
        have HB5 := Lib.hid (HB2.out.trans (hb5.mono HB2.out.size))
        clear hb5 HB2 HN HW HF
        go_wp2_with fail
        refine (refPack_any G1 G2 c1 c2 l HN5.out HW5.out).mono ?_
        rintro e w6 ⟨rfl, n, rfl⟩
        cases hpk : pk 0 0 l with
        | none =>
          clear hpk
          go_wp2
          go_ret
          exact ⟨rfl, below_drewN HB5.out n⟩
        | some q =>
          obtain ⟨x, t⟩ := q
          have hx : x < 18446744073709551616 := by
            have := pk_lt hpk
            exact Nat.lt_of_lt_of_le this.1 (Nat.pow_le_pow_right (n := 2) (j := 64) (by omega) this.2)
          have hsp := split_any x hx G1 c1 _ (HN5.out.drewN n)
          rw [pk_split_eq hpk] at hsp
          simp only [List.length_map, Option.getD_some, Option.isSome_some] at hsp
          have HS := Lib.hid hsp
          have HW6 := Lib.hid (HW5.out.drewN n)
          have HB6 := Lib.hid (below_drewN HB5.out n)
          clear hpk hsp HN5 HW5 HB5
          generalize w5.drewN n = w6 at *
          simp only [Option.map_some, Option.getD_some, Option.isSome_some]
          go_wp2_with fail
          refine HS.out.mono ?_
          rintro e w7 ⟨G3, c3, rfl, hw7, hb7⟩
          have hsm := same_any G3 G2 c3 c2 _ _ hw7 (HW6.out.keep hb7)
          rw [List.length_map] at hsm
          have HSM := Lib.hid hsm
          have HB7 := Lib.hid (HB6.out.trans (hb7.mono HB6.out.size))
          clear hw7 hb7 hsm
          go_wp2_with fail
          refine HSM.out.mono ?_
          rintro e w8 ⟨rfl, k, rfl⟩
          go_wp2
          go_ret
          exact ⟨rfl, below_drewN HB7.out k⟩
  · go_enter Try.func3, Try.ntmps3
    go_wp2_with fail
    refine (HL.out _).mono ?_
    rintro e w1 ⟨rfl, hb⟩
    have HB := Lib.hid hb
    clear hb
    go_wp2_with fail
    refine (HL.out _).mono ?_
    rintro e w2 ⟨rfl, hb2⟩
    have HB2 := Lib.hid hb2
    clear hb2
    go_wp2
    go_ret
    exact ⟨rfl, HB.out.trans (HB2.out.mono HB.out.size)⟩
end
end Pack
end Go.Proofs.Ytgpodmjdgcoidaa
