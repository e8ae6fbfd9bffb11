/-
  What the model's bending of a text answers: some text that is at most two bytes longer; it writes into nothing that was there but the cursor; for codes of at most 4096 bytes.
-/
import Derived.Test.YtghpmhfhenndiaaDoorCur
import Derived.Test.YtghpmhfhenndiaaDoorDrawK
import Derived.Deep.RegionLaw
import Derived.Deep.RegionWith
import Derived.Deep.DeepCutAuto
import Derived.Deep.AppendLies
import Derived.Lib.ConvBytes
import Derived.Lib.AtoiErrMem
import Derived.Laws.OwnMore
namespace Go.Proofs.YtghpmhfhenndiaaDoor
open Go.RowKit
set_option maxRecDepth 100000
namespace Bend
open Cur (At)

/-- bytes of the call's own, that may be read and written -/
def Src (c lo : Nat) (w : World) (v : Value) (n : Nat) : Prop := ∃ g cp, v = .slice (some ⟨g, 0, none⟩) n cp ∧ n ≤ cp ∧ g ≠ c ∧ lo ≤ g ∧ g < w.heap.size ∧
  ∀ j, j < n → (∃ z : Int, w.cell? ⟨g, j, none⟩ = some (.int .u8 z) ∧ 0 ≤ z ∧ z ≤ 255) ∧ w.frozen? ⟨g, j, none⟩ = false

theorem Src.grown {c lo : Nat} {w w' : World} {v : Value} {n : Nat} (h : Src c lo w v n) (hg : w.grownBy w' (some c)) : Src c lo w' v n := by
  obtain ⟨g, cp, hv, h1, h3, h4, h5, h6⟩ := h
  refine ⟨g, cp, hv, h1, h3, h4, Nat.lt_of_lt_of_le h5 hg.size, fun j hj => ?_⟩
  obtain ⟨⟨z, hz, hzb⟩, hf⟩ := h6 j hj
  exact ⟨⟨z, Draw.kept_cell hg h3 hz, hzb⟩, (hg.frozen_far ⟨g, j, none⟩ h5 (by simpa using h3)).trans hf⟩

theorem src_list {c lo : Nat} {w : World} {v : Value} {n : Nat} (h : Src c lo w v n) : ∃ (g cp : Nat) (zs : List Int), v = .slice (some ⟨g, 0, none⟩) n cp ∧ zs.length = n ∧ (∀ j, j < n → w.cell? ⟨g, j, none⟩ = some (.int .u8 (zs.getD j 0))) ∧ ∀ z ∈ zs, 0 ≤ z ∧ z ≤ (255 : Int) := by
  obtain ⟨g, cp, hv, _, _, _, _, h6⟩ := h
  have h7 : ∀ m, m ≤ n → ∃ zs : List Int, zs.length = m ∧ (∀ j, j < m → w.cell? ⟨g, j, none⟩ = some (.int .u8 (zs.getD j 0))) ∧ ∀ z ∈ zs, 0 ≤ z ∧ z ≤ (255 : Int) := by
    intro m
    induction m with
    | zero => intro _; exact ⟨[], rfl, fun j hj => by omega, by simp⟩
    | succ m ih =>
      intro hm
      obtain ⟨zs, e, hc, hb⟩ := ih (by omega)
      obtain ⟨⟨z, hz, hz0, hz1⟩, _⟩ := h6 m (by omega)
      refine ⟨zs ++ [z], by simp [e], fun j hj => ?_, fun x hx => ?_⟩
      · by_cases hlt : j < m
        · rw [hc j hlt]
          have : j < zs.length := by omega
          simp [List.getD, List.getElem?_append, this]
        · obtain rfl : j = m := by omega
          rw [hz]
          simp [List.getD, e]
      · rw [List.mem_append] at hx
        rcases hx with hx | hx
        · exact hb x hx
        · simp at hx; subst hx; exact ⟨hz0, hz1⟩
  obtain ⟨zs, e, hc, hb⟩ := h7 n (Nat.le_refl _)
  exact ⟨g, cp, zs, hv, e, hc, hb⟩

theorem grown_of_below {w w' : World} (h : Below w.heap.size w w') (r : Option Nat) : w.grownBy w' r := ⟨h.os, h.tape, h.output, h.size, fun j hj _ => h.block j hj⟩

theorem src_new (c : Nat) (w : World) (s : ByteArray) (hc : c < w.heap.size) : Src c w.heap.size (Lib.bytesWorld w 5 s) (.slice (some ⟨w.heap.size, 0, none⟩) s.size (grownCap w s.size 0 5)) s.size := by
  refine ⟨w.heap.size, _, rfl, ?_, by omega, Nat.le_refl _, by rw [Lib.bytesWorld_size]; omega, fun j hj => ⟨⟨_, Lib.bytesWorld_cell w _ s j hj, by omega, ?_⟩, ?_⟩⟩
  · exact grownCap_ge _ _ _ _
  · have := (s.data.toList.getD j 0).toNat_lt; omega
  · have hj2 : j < (Lib.bytesCells w 5 s).size := by
      simp [Lib.bytesCells]
      have : s.data.size = s.size := rfl
      omega
    unfold World.frozen?
    rw [Lib.bytesWorld_at_new]
    simp; omega

theorem Src.put {c lo g cp n : Nat} {w : World} (h : Src c lo w (.slice (some ⟨g, 0, none⟩) n cp) n) (x : Nat) (z : Int) (hz0 : 0 ≤ z) (hz1 : z ≤ 255) : Src c lo (w.setCell ⟨g, x, none⟩ (.int .u8 z)) (.slice (some ⟨g, 0, none⟩) n cp) n := by
  obtain ⟨g', cp', hv, h1, h3, h4, h5, h6⟩ := h
  injection hv with ha _ hb
  injection ha with ha
  injection ha with ha
  subst ha hb
  refine ⟨g, cp, rfl, h1, h3, h4, by simpa using h5, fun j hj => ?_⟩
  obtain ⟨⟨y, hy, hyb⟩, hf⟩ := h6 j hj
  refine ⟨?_, by simpa using hf⟩
  by_cases e : j = x
  · subst e
    exact ⟨z, World.cell?_setCell_same _ _ _ hy, hz0, hz1⟩
  · exact ⟨y, (World.cell?_setCell_other _ _ _ _ (by intro h; injection h with _ h; exact e h.symm)).trans hy, hyb⟩

theorem Src.cut {c lo g cp n : Nat} {w : World} (h : Src c lo w (.slice (some ⟨g, 0, none⟩) n cp) n) (k : Nat) (hk : k ≤ n) : Src c lo w (.slice (some ⟨g, 0, none⟩) k cp) k := by
  obtain ⟨g', cp', hv, h1, h3, h4, h5, h6⟩ := h
  injection hv with ha _ hb
  injection ha with ha
  injection ha with ha
  subst ha hb
  exact ⟨g, cp, rfl, by omega, h3, h4, h5, fun j hj => h6 j (by omega)⟩

theorem nums_size (zs : List Int) : (strOfNums zs).size = zs.length := by simp [strOfNums, ByteArray.size]

theorem step_own {P : Program} {ops : Array Oper} {o : Oper} {a : Act} {w : World} {K : Act → World → Prop} {Q : Exit → Act → World → Prop} {E : Prop}
    (hg : o.guard = none) (s x : Operand) (t : TypeId) (hop : o.op = Op.call { callee := Callee.builtin Builtin.append, args := #[s, x], argTypes := #[t, t] })
    (base : Nat) (e : TypeId) (i : TypeInfo) (z : Value) (size bytes : Nat) (ht : P.underlying t = some (.slice e)) (hi : P.info? e = some i) (hz : i.zero = some z) (hsize : i.size = size) (hby : i.bytes = bytes) (hzs : z.cells.size = size) (hsz : 0 < size)
    (v : Value) (n : Nat) (xs : List Value) (hs : a.eval s = v) (hown : w.ownsRow base e size v n xs)
    (ad : Addr) (m c : Nat) (news : List Value) (hx : a.eval x = .slice (some ad) m c) (hl : news.length = m * size) (hnews : ∀ j u, news[j]? = some u → w.cell? (ad.add j) = some u) (h1 : ∀ u ∈ news, u.oneCell' = true)
    (h63 : n + m ≤ maxLen) (hbytes : (n + m) * bytes ≤ 140737488355328) (hbase : base ≤ w.heap.size)
    (hK : ∀ v' w', w'.ownsRow base e size v' (n + m) (xs ++ news) → w.grownBy w' v.ownBlock → (v' = .slice none 0 0 ↔ v = .slice none 0 0 ∧ m = 0) → K (a.put o.dst v') w') :
    if Region.wanted o (yielded ops a.tmps) = true then Oper.wp P o a w K Q else E := by
  rw [if_pos (by simp [Region.wanted, hg])]
  exact wp_append_own w s x t hop base e i z size bytes ht hi hz hsize hby hzs hsz v n xs hs hown ad m c news hx hl hnews h1 h63 hbytes hbase hK

/-- a row of bytes of the call's own -/
def Row (base : Nat) (w : World) (v : Value) (m : Nat) (xs : List Int) : Prop := w.ownsRow base 5 1 v m (xs.map (Value.int .u8)) ∧ v ≠ .slice none 0 0 ∧ ∀ z ∈ xs, 0 ≤ z ∧ z ≤ (255 : Int)

theorem row_src {c lo base m : Nat} {w : World} {v : Value} {xs : List Int} (h : Row base w v m xs) (hlo : lo ≤ base) (hc : c < base) : Src c lo w v m := by
  obtain ⟨hown, hv, hb⟩ := h
  have hlt := World.ownsRow.lt hown
  have hown' := hown
  obtain ⟨hl, ⟨hv0, _⟩ | ⟨g, cap, cur, hvs, hbg, hcur, hmc, _, _, htake⟩⟩ := hown
  · exact absurd hv0 hv
  · subst hvs
    refine ⟨g, cap, rfl, hmc, by omega, by omega, (hlt g rfl).2, fun j hj => ⟨?_, World.ownsRow.frozenAt hown' j⟩⟩
    have hjx : j < xs.length := by simpa using (show j < (xs.map (Value.int IntKind.u8)).length by rw [hl]; omega)
    refine ⟨xs[j], ?_, hb _ (List.getElem_mem hjx)⟩
    have := World.ownsRow.cells hown' (g := g) rfl j (.int .u8 xs[j]) (by simp [hjx])
    by_cases hj0 : j = 0
    · subst hj0; simpa [Addr.add] using this
    · simpa [Addr.add, hj0] using this

theorem row_empty (w : World) : Row w.heap.size (w.alloc (.cells #[] 5)) (.slice (some ⟨w.heap.size, 0, none⟩) 0 0) 0 [] :=
  ⟨World.ownsRow_lit w #[] 0 (Nat.le_refl _) (by unfold maxLen; omega) rfl, by simp, by simp⟩

theorem row_app {base m k : Nat} {w w' : World} {v v' : Value} {xs ys : List Int} (h : Row base w v m xs) (h1 : w'.ownsRow base 5 1 v' (m + k) (xs.map (Value.int .u8) ++ ys.map (Value.int .u8))) (h2 : v' = .slice none 0 0 ↔ v = .slice none 0 0 ∧ k = 0) (hy : ∀ z ∈ ys, 0 ≤ z ∧ z ≤ (255 : Int)) : Row base w' v' (m + k) (xs ++ ys) := by
  refine ⟨by rw [List.map_append]; exact h1, fun e => h.2.1 (h2.1 e).1, fun z hz => ?_⟩
  rw [List.mem_append] at hz
  exact hz.elim (h.2.2 z) (hy z)

theorem one_u8 (xs : List Int) : ∀ u ∈ xs.map (Value.int .u8), u.oneCell' = true := by
  intro u hu
  rw [List.mem_map] at hu
  obtain ⟨z, _, rfl⟩ := hu
  rfl

theorem src_take {w3 W : World} {g n k : Nat} {zs : List Int} (hW : Below w3.heap.size w3 W) (hg : g < w3.heap.size) (hc : ∀ j, j < n → w3.cell? ⟨g, j, none⟩ = some (.int .u8 (zs.getD j 0))) (hl : zs.length = n) (hk : k ≤ n) (j : Nat) (u : Value) (hj : ((zs.take k).map (Value.int .u8))[j]? = some u) :
    W.cell? ((⟨g, 0, none⟩ : Addr).add j) = some u := by
  have hjk : j < k ∧ j < zs.length := by
    have := (List.getElem?_eq_some_iff.1 hj).1
    simp at this; omega
  have hu : u = .int .u8 (zs.getD j 0) := by
    simp [hjk.1, hjk.2] at hj
    rw [← hj]; simp [List.getD, hjk.2]
  rw [hu]
  have h := (hW.cell (p := ⟨g, j, none⟩) hg).trans (hc j (by omega))
  by_cases hj0 : j = 0
  · subst hj0; simpa [Addr.add] using h
  · simpa [Addr.add, hj0] using h

theorem src_drop {w3 : World} {g n cp d : Nat} {zs : List Int} (hc : ∀ j, j < n → w3.cell? ⟨g, j, none⟩ = some (.int .u8 (zs.getD j 0))) (hl : zs.length = n) (hcp : n ≤ cp) :
    ∃ Aa : Addr, (if cp = d then some (⟨g, 0, none⟩ : Addr) else some ⟨g, d, none⟩) = some Aa ∧ Hid (∀ (W : World), (∀ j, W.cell? ⟨g, j, none⟩ = w3.cell? ⟨g, j, none⟩) → ∀ (j : Nat) u, ((zs.drop d).map (Value.int .u8))[j]? = some u → W.cell? (Aa.add j) = some u) := by
  by_cases he : cp = d
  · refine ⟨⟨g, 0, none⟩, if_pos he, fun W hW j u hj => ?_⟩
    have := (List.getElem?_eq_some_iff.1 hj).1
    simp at this; omega
  · refine ⟨⟨g, d, none⟩, if_neg he, fun W hW j u hj => ?_⟩
    have hjl : d + j < zs.length := by
      have := (List.getElem?_eq_some_iff.1 hj).1
      simp at this; omega
    have hu : u = .int .u8 (zs.getD (d + j) 0) := by
      simp [hjl] at hj
      rw [← hj]; simp [List.getD, hjl]
    rw [hu]
    have h := (hW (d + j)).trans (hc (d + j) (by omega))
    by_cases hj0 : j = 0
    · subst hj0; simpa [Addr.add] using h
    · simpa [Addr.add, hj0] using h

theorem row_grown {base m c : Nat} {w w' : World} {v : Value} {xs : List Int} (h : Row base w v m xs) (hg : w.grownBy w' (some c)) (hc : c < base) : Row base w' v m xs := by
  refine ⟨World.ownsRow.kept h.1 hg ?_, h.2⟩
  by_cases hb : v.ownBlock = none
  · exact .inl hb
  · refine .inr (fun e => ?_)
    have := (World.ownsRow.lt h.1 c e).1
    omega

theorem lit_cell (w : World) (y : Int) : ∀ (j : Nat) u, ([y].map (Value.int .u8))[j]? = some u → (w.alloc (.cells #[.int .u8 y] 5)).cell? ((⟨w.heap.size, 0, none⟩ : Addr).add j) = some u := by
  intro j u hj
  match j, hj with
  | 0, hj => simp at hj; subst hj; simp [Addr.add]

theorem row_alloc {base m : Nat} {w : World} {v : Value} {xs : List Int} (h : Row base w v m xs) (o : Obj) : Row base (w.alloc o) v m xs := ⟨h.1.alloc o, h.2⟩

theorem infoB : (Tryd.prog.info? 5).map (fun i => (i.zero, i.size, i.bytes)) = some (some (.int .u8 0), 1, 1) := by kernel_rfl

theorem At.below' {c : Nat} {a : Option Addr} {len cap lo hi : Nat} {w7 w8 : World} (h : At c a len cap w7) (hb : Below hi w7 w8) (hc : c < hi) (hcode : len = 0 ∨ ∃ b off, a = some ⟨b, off, none⟩ ∧ b < lo) (hlo : lo ≤ hi) : At c a len cap w8 where
  lt := Nat.lt_of_lt_of_le h.lt hb.size
  b := (hb.cell (p := ⟨c, 0, none⟩) hc).trans h.b
  i := by obtain ⟨i, h1, h2⟩ := h.i; exact ⟨i, (hb.cell (p := ⟨c, 1, none⟩) hc).trans h1, h2⟩
  h := by obtain ⟨i, h1, h2⟩ := h.h; exact ⟨i, (hb.cell (p := ⟨c, 2, none⟩) hc).trans h1, h2⟩
  f1 := (hb.frozen (p := ⟨c, 1, none⟩) hc).trans h.f1
  f2 := (hb.frozen (p := ⟨c, 2, none⟩) hc).trans h.f2
  bytes := by
    rcases h.bytes with h0 | ⟨b, off, ha, hne, hlt, hcell⟩
    · exact .inl h0
    · rcases hcode with h0 | ⟨b', off', ha', hlt'⟩
      · exact .inl h0
      · have eb : b = b' := by rw [ha] at ha'; injection ha' with e; injection e
        refine .inr ⟨b, off, ha, hne, Nat.lt_of_lt_of_le hlt hb.size, fun j hj => ?_⟩
        obtain ⟨z, h1, h2⟩ := hcell j hj
        exact ⟨z, (hb.cell (p := ⟨b, off + j, none⟩) (by show b < hi; omega)).trans h1, h2⟩

theorem grown_far {c lo : Nat} {w w7 w8 : World} (h : w.grownBy w7 (some c)) (hb : Below lo w7 w8) (hlo : w.heap.size ≤ lo) : w.grownBy w8 (some c) where
  os := hb.os.trans h.os
  tape := hb.tape.trans h.tape
  output := hb.output.trans h.output
  size := Nat.le_trans h.size hb.size
  block := fun j hj hne => (hb.block j (by omega)).trans (h.block j hj hne)

/-- how a bending ends -/
def BendPost (c : Nat) (a : Option Addr) (len cap : Nat) (m : Nat) (w : World) (e : Ending) (w' : World) : Prop := ∃ t : ByteArray, e = .returned (.string t) ∧ t.size ≤ m + 2 ∧ At c a len cap w' ∧ w.grownBy w' (some c)

set_option maxHeartbeats 6400000 in
theorem bend (c : Nat) (a : Option Addr) (len cap : Nat) (s signs : ByteArray) (w : World) (hl : len ≤ 4096) (hc : At c a len cap w) (hs : s.size ≤ 100000) (hg0 : 0 < signs.size) (hg1 : signs.size ≤ 1000) :
    Calls Tryd.prog 23 #[.pointer (some ⟨c, 0, none⟩), .string s, .string signs] w (BendPost c a len cap s.size w) := by
  have kc := Lib.run_convert_string_bytes (P := Tryd.prog) w 9 22 5 s Tryd.underlying9 Tryd.underlying22 Tryd.underlying5
  have hb0 := Lib.bytesWorld_below w 5 s
  have P0 : Hid (Src c w.heap.size (Lib.bytesWorld w 5 s) (.slice (some ⟨w.heap.size, 0, none⟩) s.size (grownCap w s.size 0 5)) s.size ∧ At c a len cap (Lib.bytesWorld w 5 s) ∧ w.grownBy (Lib.bytesWorld w 5 s) (some c)) := ⟨src_new c w s hc.lt, hc.below hb0, grown_of_below hb0 _⟩
  clear hb0
  go_enter Tryd.func23, Tryd.ntmps23
  go_wp2_with fail
  clear kc
  generalize Lib.bytesWorld w 5 s = w0 at P0 ⊢
  generalize (Value.slice (some ⟨w.heap.size, 0, none⟩) s.size (grownCap w s.size 0 5)) = v0 at P0 ⊢
  obtain ⟨S0, A0, G0⟩ := P0
  refine (Cur.below c a len cap 3 _ hl (by omega) A0).mono ?_
  rintro e w1 ⟨k0, rfl, hk0, hk1, A1, g1⟩
  have hk2 := hk1 (by omega)
  have S1 := S0.grown g1
  have G1 := Cur.grownBy_trans G0 g1
  clear S0 A0 G0 g1 hk1
  have HG : Hid (w.grownBy w1 (some c)) := G1
  have HS : Hid (Src c w.heap.size w1 v0 s.size) := S1
  clear G1 S1
  go_wp2_with fail
  go_loopw [7, 8] (fun v i wr => ∃ (n k : Nat), i = .int .i64 (k : Int) ∧ k ≤ 2 ∧ n + k ≤ s.size + 2 ∧ Hid (Src c w.heap.size wr v n) ∧ At c a len cap wr ∧ Hid (w.grownBy wr (some c))) (fun _ i _ => (intOf i).toNat)
  case atStart => exact ⟨s.size, k0.toNat, by congr 1; omega, by omega, by omega, HS, A1, HG⟩
  case round =>
    obtain ⟨n, k, rfl, hk, hnk, HS, A, HG⟩ := hrel
    obtain ⟨g, cp, hv, hcp, hgc, hglo, hglt, hcell⟩ := HS.out
    subst hv
    by_cases hp : 0 < k ∧ 0 < n
    · obtain ⟨hp1, hp2⟩ := hp
      have hp1' : (0 : Int) < (k : Int) := by omega
      have hp2' : (0 : Int) < (n : Int) := by omega
      clear hcell
      go_wp2_with fail
      refine (Cur.below c a len cap (n : Int) _ hl (by omega) A).mono ?_
      rintro e w2 ⟨x, rfl, hx0, hx1, A2, g2⟩
      have hx2 := hx1 hp2'
      have HS2 : Hid (Src c w.heap.size w2 (.slice (some ⟨g, 0, none⟩) n cp) n) := HS.out.grown g2
      have HG2 : Hid (w.grownBy w2 (some c)) := Cur.grownBy_trans HG.out g2
      clear HS HG A g2 hx1
      obtain ⟨x', rfl⟩ := Int.eq_ofNat_of_zero_le hx0
      have hxn : x' < n := by omega
      go_wp2_with fail
      refine (Cur.below c a len cap 4 _ hl (by omega) A2).mono ?_
      rintro e w3 ⟨y, rfl, hy0, hy1, A3, g3⟩
      have hy2 := hy1 (by omega)
      have HS3 : Hid (Src c w.heap.size w3 (.slice (some ⟨g, 0, none⟩) n cp) n) := HS2.out.grown g3
      have HG3 : Hid (w.grownBy w3 (some c)) := Cur.grownBy_trans HG2.out g3
      clear HS2 HG2 A2 g3 hy1 hglt
      rcases (show y = 0 ∨ y = 1 ∨ y = 2 ∨ y = 3 by omega) with rfl | rfl | rfl | rfl
      · go_wp2_with fail
        refine (Cur.below c a len cap (signs.size : Int) _ hl (by omega) A3).mono ?_
        rintro e w4 ⟨z, rfl, hz0, hz1, A4, g4⟩
        have hz2 := hz1 (by omega)
        have HS4 : Hid (Src c w.heap.size w4 (.slice (some ⟨g, 0, none⟩) n cp) n) := HS3.out.grown g4
        have HG4 : Hid (w.grownBy w4 (some c)) := Cur.grownBy_trans HG3.out g4
        clear HS3 HG3 A3 g4 hz1
        obtain ⟨z', rfl⟩ := Int.eq_ofNat_of_zero_le hz0
        have hzn : z' < signs.size := by omega
        obtain ⟨⟨q, hq, _, _⟩, hqf⟩ := (show ∀ j, j < n → (∃ z : Int, w4.cell? ⟨g, j, none⟩ = some (.int .u8 z) ∧ 0 ≤ z ∧ z ≤ 255) ∧ w4.frozen? ⟨g, j, none⟩ = false from by
          obtain ⟨g', cp', hv, _, _, _, _, h6⟩ := HS4.out
          injection hv with ha _ _
          injection ha with ha
          injection ha with ha
          subst ha
          exact h6) x' hxn
        have hlt2 := (signs[z']).toNat_lt
        have S5 := HS4.out.put x' (signs[z'].toNat : Int) (by omega) (by omega)
        have HS5 : Hid _ := S5
        have HA5 : Hid _ := Kn.At.put A4 hgc (Kn.code_lt hc) hglo x' (.int .u8 (signs[z'].toNat : Int))
        have HG5 : Hid _ := Kn.grown_put HG4.out hglo x' (.int .u8 (signs[z'].toNat : Int))
        clear S5 HS4 HG4 A4
        go_wp2
        go_roundw
        case rel => exact ⟨n, k - 1, by congr 1; omega, by omega, by omega, HS5, HA5.out, HG5⟩
        case measure => simp [intOf]; omega
      · have HS5 : Hid _ := HS3.out.cut x' (by omega)
        go_wp2
        go_roundw
        case rel => exact ⟨x', k - 1, by congr 1; omega, by omega, by omega, HS5, A3, HG3⟩
        case measure => simp [intOf]; omega
      · obtain ⟨i0, hi, hi0, hi1, hi2⟩ := info_parts infoB
        obtain ⟨g', cp', zs, hv', hzl, hzc, hzb⟩ := src_list HS3.out
        injection hv' with ha _ hb
        injection ha with ha
        injection ha with ha
        subst ha hb
        have hglt : g < w3.heap.size := by
          obtain ⟨g', cp', hv, _, _, _, h5, _⟩ := HS3.out
          injection hv with ha _ _
          injection ha with ha
          injection ha with ha
          subst ha
          exact h5
        have e1 : ((x' : Int) + 1).toNat = x' + 1 := by omega
        have HC1 : Hid (∀ (W : World), Below w3.heap.size w3 W → ∀ (j : Nat) u, ((zs.take x').map (Value.int .u8))[j]? = some u → W.cell? ((⟨g, 0, none⟩ : Addr).add j) = some u) := fun W hW j u hj => src_take hW hglt hzc hzl (by omega) j u hj
        obtain ⟨Aa, hA, HC2⟩ : ∃ Aa : Addr, (if cp = x' + 1 then some (⟨g, 0, none⟩ : Addr) else some ⟨g, x' + 1, none⟩) = some Aa ∧ Hid (∀ (W : World), (∀ j, W.cell? ⟨g, j, none⟩ = w3.cell? ⟨g, j, none⟩) → ∀ (j : Nat) u, ((zs.drop (x' + 1)).map (Value.int .u8))[j]? = some u → W.cell? (Aa.add j) = some u) := src_drop hzc hzl hcp
        have HB3 : Hid (∀ z ∈ zs, 0 ≤ z ∧ z ≤ (255 : Int)) := hzb
        clear hzc hzb
        have hic : x' ≤ cp := by omega
        have hwr : IntKind.i64.wrap ((x' : Int) + 1) = (x' : Int) + 1 := by rw [IntKind.wrap_i64]; omega
        have hp0 : (0 : Int) ≤ (x' : Int) + 1 := by omega
        have hp1 : (x' : Int) + 1 ≤ (n : Int) := by omega
        have hcw : c < w3.heap.size := A3.lt
        have hlo3 : w.heap.size ≤ w3.heap.size := HG3.out.size
        have HK : Hid (∀ (w5 w6 : World) (v1 v2 : Value), Below w3.heap.size w3 w5 → Row w3.heap.size w5 v1 (0 + x') ([] ++ zs.take x') → w6.ownsRow w3.heap.size 5 1 v2 (0 + x' + (n - (x' + 1))) (([] ++ zs.take x').map (Value.int .u8) ++ (zs.drop (x' + 1)).map (Value.int .u8)) → w5.grownBy w6 v1.ownBlock → (v2 = .slice none 0 0 ↔ v1 = .slice none 0 0 ∧ n - (x' + 1) = 0) →
            Hid (Src c w.heap.size w6 v2 (n - 1)) ∧ At c a len cap w6 ∧ Hid (w.grownBy w6 (some c))) := by
          intro w5 w6 v1 v2 hb5 hr1 ho2 hg2 hn2
          have hr2 := row_app hr1 ho2 hn2 (fun z hz => HB3.out z (List.mem_of_mem_drop hz))
          have hb6 : Below w3.heap.size w3 w6 := hb5.grown hg2 hb5.size (fun j hj => (World.ownsRow.lt hr1.1 j hj).1)
          have hs := row_src (c := c) (lo := w.heap.size) hr2 hlo3 hcw
          have en : 0 + x' + (n - (x' + 1)) = n - 1 := by omega
          rw [en] at hs
          exact ⟨hs, A3.below hb6, Cur.grownBy_trans HG3.out (grown_of_below hb6 _)⟩
        go_wp2_with fail
        go_region_law (first
          | (refine step_own rfl (.tmp 47) (.tmp 50) 22 rfl w3.heap.size 5 i0 (.int .u8 0) 1 1 Tryd.underlying22 hi hi0 hi1 hi2 rfl (by decide) (.slice (some ⟨w3.heap.size, 0, none⟩) 0 0) 0 [] (by simp [Act.eval]) (by first | exact (row_empty w3).1 | exact (row_empty w3).1.drew | exact (row_empty w3.drew).1) ⟨g, 0, none⟩ x' cp ((zs.take x').map (Value.int .u8)) (by simp [Act.eval]) (by simp; omega) (HC1.out _ (by first | exact ((Below.refl _ w3).alloc (Nat.le_refl _) _).drew | exact (Below.refl _ w3).drew.alloc (Nat.le_refl _) _)) (one_u8 _) (by unfold maxLen; omega) (by omega) (by simp) ?_
             intro v1 w5 hown1 hgrow1 hnil1
             have hb5 : Below w3.heap.size w3 w5 := Below.grown (by first | exact ((Below.refl _ w3).alloc (Nat.le_refl _) _).drew | exact (Below.refl _ w3).drew.alloc (Nat.le_refl _) _) hgrow1 (by simp) (fun j hj => by simp [Value.ownBlock] at hj; omega)
             have hr1 : Row w3.heap.size w5 v1 (0 + x') ([] ++ zs.take x') := row_app (row_empty w3) hown1 hnil1 (fun z hz => HB3.out z (List.mem_of_mem_take hz))
             clear hown1 hgrow1 hnil1)
          | (refine step_own rfl (.tmp 51) (.tmp 55) 22 rfl w3.heap.size 5 i0 (.int .u8 0) 1 1 Tryd.underlying22 hi hi0 hi1 hi2 rfl (by decide) v1 (0 + x') _ (by simp [Act.eval]) hr1.1 Aa (n - (x' + 1)) (cp - (x' + 1)) ((zs.drop (x' + 1)).map (Value.int .u8)) (by simp [Act.eval]) (by simp; omega) (HC2.out _ (fun j => hb5.cell (p := ⟨g, j, none⟩) hglt)) (one_u8 _) (by unfold maxLen; omega) (by omega) hb5.size ?_
             intro v2 w6 hown2 hgrow2 hnil2
             have HR := HK.out w5 w6 v1 v2 hb5 hr1 hown2 hgrow2 hnil2
             clear hown2 hgrow2 hnil2))
        go_wp2
        go_roundw
        case rel => exact ⟨n - 1, k - 1, by congr 1; omega, by omega, by omega, HR.1, HR.2.1, HR.2.2⟩
        case measure => simp [intOf]; omega
      · obtain ⟨i0, hi, hi0, hi1, hi2⟩ := info_parts infoB
        obtain ⟨g', cp', zs, hv', hzl, hzc, hzb⟩ := src_list HS3.out
        injection hv' with ha _ hb
        injection ha with ha
        injection ha with ha
        subst ha hb
        have hglt : g < w3.heap.size := by
          obtain ⟨g', cp', hv, _, _, _, h5, _⟩ := HS3.out
          injection hv with ha _ _
          injection ha with ha
          injection ha with ha
          subst ha
          exact h5
        have e1 : ((x' : Int) + 1).toNat = x' + 1 := by omega
        have HC1 : Hid (∀ (W : World), Below w3.heap.size w3 W → ∀ (j : Nat) u, ((zs.take x').map (Value.int .u8))[j]? = some u → W.cell? ((⟨g, 0, none⟩ : Addr).add j) = some u) := fun W hW j u hj => src_take hW hglt hzc hzl (by omega) j u hj
        obtain ⟨Aa, hA, HC2⟩ : ∃ Aa : Addr, (if cp = x' then some (⟨g, 0, none⟩ : Addr) else some ⟨g, x', none⟩) = some Aa ∧ Hid (∀ (W : World), (∀ j, W.cell? ⟨g, j, none⟩ = w3.cell? ⟨g, j, none⟩) → ∀ (j : Nat) u, ((zs.drop x').map (Value.int .u8))[j]? = some u → W.cell? (Aa.add j) = some u) := src_drop hzc hzl hcp
        have HB3 : Hid (∀ z ∈ zs, 0 ≤ z ∧ z ≤ (255 : Int)) := hzb
        clear hzc hzb
        have hic : x' ≤ cp := by omega
        have hp1 : (x' : Int) ≤ (n : Int) := by omega
        have hcw : c < w3.heap.size := A3.lt
        have hlo3 : w.heap.size ≤ w3.heap.size := HG3.out.size
        have HK : Hid (∀ (w7 w8 : World) (v2 v3 : Value) (y : Int), 0 ≤ y ∧ y ≤ 255 → w.grownBy w7 (some c) → w3.grownBy w7 (some c) → At c a len cap w7 → Row w3.heap.size w7 v2 (0 + x' + 1) ([] ++ zs.take x' ++ [y]) → w8.ownsRow w3.heap.size 5 1 v3 (0 + x' + 1 + (n - x')) (([] ++ zs.take x' ++ [y]).map (Value.int .u8) ++ (zs.drop x').map (Value.int .u8)) → w7.grownBy w8 v2.ownBlock → (v3 = .slice none 0 0 ↔ v2 = .slice none 0 0 ∧ n - x' = 0) →
            Hid (Src c w.heap.size w8 v3 (n + 1)) ∧ At c a len cap w8 ∧ Hid (w.grownBy w8 (some c))) := by
          intro w7 w8 v2 v3 y hy hg7 hg37 hA7 hr2 ho3 hg8 hn3
          have hr3 := row_app hr2 ho3 hn3 (fun z hz => HB3.out z (List.mem_of_mem_drop hz))
          have hs := row_src (c := c) (lo := w.heap.size) hr3 hlo3 hcw
          have en : 0 + x' + 1 + (n - x') = n + 1 := by omega
          rw [en] at hs
          have hb8 : Below w3.heap.size w7 w8 := (Below.refl _ w7).grown hg8 hg37.size (fun j hj => (World.ownsRow.lt hr2.1 j hj).1)
          exact ⟨hs, At.below' hA7 hb8 hcw (Kn.code_lt hc) hlo3, grown_far hg7 hb8 hlo3⟩
        go_wp2_with fail
        go_region_law (first
          | (refine step_own rfl (.tmp 59) (.tmp 62) 22 rfl w3.heap.size 5 i0 (.int .u8 0) 1 1 Tryd.underlying22 hi hi0 hi1 hi2 rfl (by decide) (.slice (some ⟨w3.heap.size, 0, none⟩) 0 0) 0 [] (by simp [Act.eval]) (by first | exact (row_empty w3).1 | exact (row_empty w3).1.drew | exact (row_empty w3.drew).1) ⟨g, 0, none⟩ x' cp ((zs.take x').map (Value.int .u8)) (by simp [Act.eval]) (by simp; omega) (HC1.out _ (by first | exact ((Below.refl _ w3).alloc (Nat.le_refl _) _).drew | exact (Below.refl _ w3).drew.alloc (Nat.le_refl _) _)) (one_u8 _) (by unfold maxLen; omega) (by omega) (by simp) ?_
             intro v1 w5 hown1 hgrow1 hnil1
             have hb5 : Below w3.heap.size w3 w5 := Below.grown (by first | exact ((Below.refl _ w3).alloc (Nat.le_refl _) _).drew | exact (Below.refl _ w3).drew.alloc (Nat.le_refl _) _) hgrow1 (by simp) (fun j hj => by simp [Value.ownBlock] at hj; omega)
             have hr1 : Row w3.heap.size w5 v1 (0 + x') ([] ++ zs.take x') := row_app (row_empty w3) hown1 hnil1 (fun z hz => HB3.out z (List.mem_of_mem_take hz))
             clear hown1 hgrow1 hnil1)
          | (rw [if_pos (by simp [Region.wanted])]
             go_simp
             refine (Cur.below c a len cap (signs.size : Int) _ hl (by omega) (A3.below hb5)).mono ?_
             rintro e w6 ⟨z, rfl, hz0, hz1, A6, g6⟩
             have hz2 := hz1 (by omega)
             have hr6 := row_grown hr1 g6 hcw
             obtain ⟨z', rfl⟩ := Int.eq_ofNat_of_zero_le hz0
             have hzn : z' < signs.size := by omega
             have hyb := (signs[z']).toNat_lt
             have G6 := Cur.grownBy_trans (grown_far HG3.out hb5 hlo3) g6
             have G36 := Cur.grownBy_trans (grown_of_below hb5 (some c)) g6
             clear hz1 g6 hr1 hb5)
          | (refine step_own rfl (.tmp 63) (.tmp 70) 22 rfl w3.heap.size 5 i0 (.int .u8 0) 1 1 Tryd.underlying22 hi hi0 hi1 hi2 rfl (by decide) v1 (0 + x') _ (by simp [Act.eval]) (hr6.1.alloc _) ⟨w6.heap.size, 0, none⟩ 1 1 ([(signs[z'].toNat : Int)].map (Value.int .u8)) (by simp [Act.eval]) (by simp) (lit_cell w6 _) (one_u8 _) (by unfold maxLen; omega) (by omega) (by have := G36.size; simp; omega) ?_
             intro v2 w7 hown2 hgrow2 hnil2
             have b67 : Below w3.heap.size w6 w7 := ((Below.refl _ w6).alloc G36.size _).grown hgrow2 (by have := G36.size; simp; omega) (fun j hj => (World.ownsRow.lt hr6.1 j hj).1)
             have hr7 : Row w3.heap.size w7 v2 (0 + x' + 1) ([] ++ zs.take x' ++ [(signs[z'].toNat : Int)]) := row_app (row_alloc hr6 (.cells #[] 0)) hown2 hnil2 (fun z hz => by simp at hz; subst hz; omega)
             have A7 := At.below' A6 b67 hcw (Kn.code_lt hc) hlo3
             have G7 := grown_far G6 b67 hlo3
             have G37 := grown_far G36 b67 (Nat.le_refl _)
             clear hown2 hgrow2 hnil2 b67 A6 G6 G36 hr6)
          | (refine step_own rfl (.tmp 71) (.tmp 74) 22 rfl w3.heap.size 5 i0 (.int .u8 0) 1 1 Tryd.underlying22 hi hi0 hi1 hi2 rfl (by decide) v2 (0 + x' + 1) _ (by simp [Act.eval]) hr7.1 Aa (n - x') (cp - x') ((zs.drop x').map (Value.int .u8)) (by simp [Act.eval]) (by simp; omega) (HC2.out _ (fun j => G37.cell_far ⟨g, j, none⟩ hglt (by simpa using hgc))) (one_u8 _) (by unfold maxLen; omega) (by omega) G37.size ?_
             intro v3 w8 hown3 hgrow3 hnil3
             have HR := HK.out w7 w8 v2 v3 _ (by omega) G7 G37 A7 hr7 hown3 hgrow3 hnil3
             clear hown3 hgrow3 hnil3))
        all_goals
          go_wp2
          go_roundw
          case rel => exact ⟨n + 1, k - 1, by congr 1; omega, by omega, by omega, HR.1, HR.2.1, HR.2.2⟩
          case measure => simp [intOf]; omega
    · obtain ⟨g', cp', zs, hv', hzl, hzc, hzb⟩ := src_list HS.out
      injection hv' with ha _ hb
      injection ha with ha
      injection ha with ha
      subst ha hb
      have kc2 := run_convert_bytes_arg (P := Tryd.prog) wr 22 5 Tryd.underlying22 Tryd.underlying5 g 0 n cp zs hzl (fun i hi => by rw [Nat.zero_add]; exact hzc i hi) 9 Tryd.underlying9
      have hsz : (strOfNums zs).size ≤ s.size + 2 := by rw [nums_size]; omega
      clear hzc hcell
      by_cases hk0 : k = 0
      · subst hk0
        go_wp2
        go_ret
        exact ⟨_, rfl, hsz, A, HG.out⟩
      · have hn0 : n = 0 := by omega
        have hk0' : (0 : Int) < (k : Int) := by omega
        clear hp
        subst hn0
        go_wp2
        go_ret
        exact ⟨_, rfl, hsz, A, HG.out⟩

end Bend
end Go.Proofs.YtghpmhfhenndiaaDoor
