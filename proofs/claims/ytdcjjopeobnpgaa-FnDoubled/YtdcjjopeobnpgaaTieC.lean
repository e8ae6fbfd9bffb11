/-
  What Tied of the model and Tied of the program answer: the lace with the knot at its end and its number; the lace and -1 where it can't be; nothing and -1 where it is no lace; in memory of their own; for lists of at most 2^20 knots whose words have at most 2^40 bytes.
-/
import Derived.Test.YtdcjjopeobnpgaaTieB
namespace Go.Proofs.Ytdcjjopeobnpgaa
open Go.RowKit
set_option maxRecDepth 100000
namespace Lc
open Kn (K okK)

def tiedL (L : List K) (k : K) : List K := if laceB L then (if takesB L k then L ++ [k] else L) else []
def tiedN (L : List K) (k : K) : Int := if laceB L then (if takesB L k then (L.length : Int) else -1) else -1

theorem tied_no {L : List K} (k : K) (h : laceB L = false) : tiedL L k = [] ∧ tiedN L k = -1 := by unfold tiedL tiedN; rw [h]; exact ⟨rfl, rfl⟩
theorem tied_same {L : List K} {k : K} (h : laceB L = true) (h2 : takesB L k = false) : tiedL L k = L ∧ tiedN L k = -1 := by unfold tiedL tiedN; rw [h, h2]; exact ⟨rfl, rfl⟩
theorem tied_with {L : List K} {k : K} (h : laceB L = true) (h2 : takesB L k = true) : tiedL L k = L ++ [k] ∧ tiedN L k = (L.length : Int) := by unfold tiedL tiedN; rw [h, h2]; exact ⟨rfl, rfl⟩
theorem tied_len (L : List K) (k : K) : (tiedL L k).length ≤ L.length + 1 := by
  unfold tiedL; split
  · split
    · simp
    · omega
  · simp

/-- how the model's tying ends -/
def SpecTied (L : List K) (k : K) (w : World) (e : Ending) (w' : World) : Prop :=
  ∃ g cap, e = .returned (.tuple #[.slice (some ⟨g, 0, none⟩) (tiedL L k).length cap, .int .i64 (tiedN L k)]) ∧ w.heap.size ≤ g ∧ g < w'.heap.size ∧ RdK w' (some ⟨g, 0, none⟩) (tiedL L k) ∧ Below w.heap.size w w'
/-- how the program's tying ends -/
def ImplTied (L : List K) (k : K) (w : World) (e : Ending) (w' : World) : Prop :=
  ∃ g cap, e = .returned (.tuple #[.slice (some ⟨g, 0, none⟩) (tiedL L k).length cap, .int .i64 (tiedN L k)]) ∧ w.heap.size ≤ g ∧ Made w' g (tiedL L k).length (tiedL L k) (tiedL L k).length ∧ Below w.heap.size w w'

theorem specTied_mk {L : List K} {k : K} {w w' : World} {g cap n : Nat} {x : Int} {T : List K} (h : tiedL L k = T ∧ tiedN L k = x) (hn : n = T.length) (h1 : w.heap.size ≤ g) (h2 : g < w'.heap.size) (h3 : RdK w' (some ⟨g, 0, none⟩) T) (h4 : Below w.heap.size w w') :
    SpecTied L k w (.returned (.tuple #[.slice (some ⟨g, 0, none⟩) n cap, .int .i64 x])) w' := by
  obtain ⟨rfl, rfl⟩ := h; subst hn; exact ⟨g, cap, rfl, h1, h2, h3, h4⟩
theorem implTied_mk {L : List K} {k : K} {w w' : World} {g cap n : Nat} {x : Int} {T : List K} (h : tiedL L k = T ∧ tiedN L k = x) (hn : n = T.length) (h1 : w.heap.size ≤ g) (h3 : Made w' g T.length T T.length) (h4 : Below w.heap.size w w') :
    ImplTied L k w (.returned (.tuple #[.slice (some ⟨g, 0, none⟩) n cap, .int .i64 x])) w' := by
  obtain ⟨rfl, rfl⟩ := h; subst hn; exact ⟨g, cap, rfl, h1, h3, h4⟩

theorem step_own {P : Program} {ops : Array Oper} {o : Oper} {a : Act} {w : World} {K : Act → World → Prop} {Q : Exit → Act → World → Prop} {E : Prop}
    (hg : o.guard = none) (s x : Operand) (t : TypeId) (hop : o.op = Op.call { callee := Callee.builtin Builtin.append, args := #[s, x], argTypes := #[t, t] })
    (base : Nat) (e : TypeId) (i : TypeInfo) (z : Value) (size bytes : Nat) (ht : P.underlying t = some (.slice e)) (hi : P.info? e = some i) (hz : i.zero = some z) (hsize : i.size = size) (hby : i.bytes = bytes) (hzs : z.cells.size = size) (hsz : 0 < size)
    (v : Value) (n : Nat) (xs : List Value) (hs : a.eval s = v) (hown : w.ownsRow base e size v n xs)
    (ad : Addr) (m c : Nat) (news : List Value) (hx : a.eval x = .slice (some ad) m c) (hl : news.length = m * size) (hnews : ∀ j u, news[j]? = some u → w.cell? (ad.add j) = some u) (h1 : ∀ u ∈ news, u.oneCell' = true)
    (h63 : n + m ≤ maxLen) (hbytes : (n + m) * bytes ≤ 140737488355328) (hbase : base ≤ w.heap.size)
    (hK : ∀ v' w', w'.ownsRow base e size v' (n + m) (xs ++ news) → w.grownBy w' v.ownBlock → (v' = .slice none 0 0 ↔ v = .slice none 0 0 ∧ m = 0) → K (a.put o.dst v') w') :
    if Region.wanted o (yielded ops a.tmps) = true then Oper.wp P o a w K Q else E := by
  rw [if_pos (by simp [Region.wanted, hg])]
  exact wp_append_own w s x t hop base e i z size bytes ht hi hz hsize hby hzs hsz v n xs hs hown ad m c news hx hl hnews h1 h63 hbytes hbase hK

theorem kept_cells {W V : World} {k : K} {t : TypeId} (hb : Below (W.alloc (.cells #[.int .i64 k.hand, .int .i64 k.round, .int .i64 k.frm, .string k.word] t)).heap.size (W.alloc (.cells #[.int .i64 k.hand, .int .i64 k.round, .int .i64 k.frm, .string k.word] t)) V) :
    ∀ (j : Nat) u, (cellsOf k)[j]? = some u → V.cell? ((⟨W.heap.size, 0, none⟩ : Addr).add j) = some u := by
  intro j u hj
  have h := new_cells W k t j u hj
  rw [WideShapes.add_plain] at h ⊢
  exact (hb.cell (p := ⟨W.heap.size, 0 + j, none⟩) (by simp)).trans h

theorem ownK_app {t : TypeId} {b : Nat} {w0 w4 w5 : World} {v v' : Value} {L : List K} {k : K} (hne : v ≠ .slice none 0 0) (hown : w4.ownsRow b t 4 v L.length (flat L)) (hb : Below b w0 w4)
    (hbs : b ≤ w4.heap.size) (hown' : w5.ownsRow b t 4 v' (L.length + 1) (flat L ++ cellsOf k)) (hgrow : w4.grownBy w5 v.ownBlock) (hnil : v' = .slice none 0 0 ↔ v = .slice none 0 0 ∧ 1 = 0) :
    OwnK t b w5 v' (L ++ [k]) ∧ Below b w0 w5 :=
  ⟨⟨by rw [flat_snoc, List.length_append]; exact hown', fun e => hne (hnil.1 e).1⟩, hb.grown hgrow hbs (fun i hi => (World.ownsRow.lt hown i hi).1)⟩

set_option maxHeartbeats 3200000 in
theorem specTied (g off cap : Nat) (L : List K) (k : K) (w : World) (hl : L.length ≤ 1048576) (hcap : L.length ≤ cap) (hw : WordsOk L) (hk : k.word.size ≤ 1099511627776) (hr : RdK w (some ⟨g, off, none⟩) L) :
    Calls Try.prog 12 #[.slice (some ⟨g, off, none⟩) L.length cap, .agg #[.int .i64 k.hand, .int .i64 k.round, .int .i64 k.frm, .string k.word]] w (SpecTied L k w) := by
  have P0 : Hid (Below w.heap.size w (w.alloc (.cells #[.int .i64 k.hand, .int .i64 k.round, .int .i64 k.frm, .string k.word] 26)) ∧ CellsK (w.alloc (.cells #[.int .i64 k.hand, .int .i64 k.round, .int .i64 k.frm, .string k.word] 26)) w.heap.size 0 k ∧ w.heap.size < (w.alloc (.cells #[.int .i64 k.hand, .int .i64 k.round, .int .i64 k.frm, .string k.word] 26)).heap.size) :=
    ⟨(Below.refl _ _).alloc (Nat.le_refl _) _, ⟨by simp, by simp, by simp, by simp⟩, by simp⟩
  go_enter Try.func12, Try.ntmps12
  go_wp2_with fail
  generalize w.alloc (.cells #[.int .i64 k.hand, .int .i64 k.round, .int .i64 k.frm, .string k.word] 26) = w0 at P0 ⊢
  obtain ⟨B0, C0, S0⟩ := P0
  have hr0 := hr.below B0
  refine (specLaceOk g off cap L _ hcap hw hr0).mono ?_
  rintro e w1 ⟨rfl, hb1⟩
  have C1 := C0.below hb1 S0
  have S1 : w.heap.size < w1.heap.size := Nat.lt_of_lt_of_le S0 hb1.size
  have B1 := B0.trans (hb1.mono (Nat.le_of_lt S0))
  have hr1 := hr0.below hb1
  clear hb1 B0 S0 C0 hr0
  cases hlc : laceB L
  · have HT : Hid _ := tied_no k hlc
    have HB : Hid (Below w.heap.size w (w1.alloc (.cells #[] 26))) := B1.alloc B1.size _
    clear hlc
    go_wp2
    go_ret2
    exact specTied_mk HT.out rfl B1.size (by simp) (.inl rfl) HB.out
  · have HL : Hid (laceB L = true) := hlc
    clear hlc
    have HC1 : Hid (CellsK w1 w.heap.size 0 k) := C1
    obtain ⟨c0, c1, c2, c3⟩ := C1
    rw [Nat.zero_add] at c1 c2 c3
    go_wp2_with fail
    refine (l3CanTie g off cap L k _ hcap HL.out hk hr1).mono ?_
    rintro e w2 ⟨rfl, hb2⟩
    have HC2 : Hid (CellsK w2 w.heap.size 0 k) := HC1.out.below hb2 S1
    have S2 : w.heap.size < w2.heap.size := Nat.lt_of_lt_of_le S1 hb2.size
    have B2 := B1.trans (hb2.mono (Nat.le_of_lt S1))
    have hr2 := hr1.below hb2
    clear hb2 B1 S1 HC1 hr1 c0 c1 c2 c3
    cases htk : takesB L k
    · have HT : Hid _ := tied_same HL.out htk
      clear htk
      go_wp2_with fail
      refine (l3Copy g off cap L _ (by omega) hr2).mono ?_
      rintro e w3 ⟨v, rfl, O3, b3⟩
      obtain ⟨g', cap', hv, hcap', hcm, hbg, hgl, hrd', hfz⟩ := ownK_shape O3
      subst hv
      have HB3 : Hid (Below w.heap.size w w3) := B2.trans (b3.mono (Nat.le_of_lt S2))
      clear O3 b3 hfz hcap' hcm
      go_wp2
      go_ret2
      exact specTied_mk HT.out rfl (by omega) hgl hrd' HB3.out
    · have HT : Hid _ := tied_with HL.out htk
      obtain ⟨i0, hi, hz0, hz1, hz2⟩ := info_parts infoKn
      clear htk
      obtain ⟨c0, c1, c2, c3⟩ := HC2.out
      rw [Nat.zero_add] at c1 c2 c3
      have HRD : Hid (∀ V : World, Below w2.heap.size w2 V → RdK V (some ⟨g, off, none⟩) L) := fun V hV => hr2.below hV
      have HB2 : Hid (Below w.heap.size w w2) := B2
      have HFIN : Hid (∀ (V4 V5 : World) (v1 v2 : Value), v1 ≠ .slice none 0 0 → V4.ownsRow w2.heap.size 26 4 v1 L.length (flat L) → Below w2.heap.size w2 V4 → V5.ownsRow w2.heap.size 26 4 v2 (L.length + 1) (flat L ++ cellsOf k) → V4.grownBy V5 v1.ownBlock → (v2 = .slice none 0 0 ↔ v1 = .slice none 0 0 ∧ 1 = 0) →
          ∃ g' cap', v2 = .slice (some ⟨g', 0, none⟩) (L.length + 1) cap' ∧ Hid (∀ V6, V6 = V5 ∨ V6 = V5.drew → SpecTied L k w (.returned (.tuple #[.slice (some ⟨g', 0, none⟩) (L.length + 1) cap', .int .i64 (L.length : Int)])) V6)) := by
        intro V4 V5 v1 v2 hne ho4 hb4 ho5 hg5 hn5
        obtain ⟨O5, B5⟩ := ownK_app hne ho4 hb4 hb4.size ho5 hg5 hn5
        obtain ⟨g', cap', hv, hcap', hcm, hbg, hgl, hrd', hfz⟩ := ownK_shape O5
        refine ⟨g', cap', by rw [hv]; simp, fun V6 h6 => ?_⟩
        have hB := HB2.out.trans (B5.mono (Nat.le_of_lt S2))
        rcases h6 with rfl | rfl
        · exact specTied_mk HT.out (by simp) (by omega) hgl hrd' hB
        · exact specTied_mk HT.out (by simp) (by omega) hgl hrd'.drew hB.drew
      clear B2 hr2 HC2
      go_wp2_with fail
      go_region_law (first
        | (refine step_own rfl (.tmp 17) (.tmp 19) 24 rfl w2.heap.size 26 i0 (.agg #[.int .i64 0, .int .i64 0, .int .i64 0, .string ⟨#[]⟩]) 4 40 Try.underlying24 hi hz0 hz1 hz2 rfl (by decide) v1 L.length (flat L) (by simp [Act.eval]) (O1.1.alloc _) ⟨V1.heap.size, 0, none⟩ 1 1 (cellsOf k) (by simp [Act.eval]) rfl (new_cells V1 k _) (fun u hu => flat_one [k] u (by simpa [flat] using hu)) (by unfold maxLen; omega) (by omega) (by have := BV1.size; simp; omega) ?_
           intro v2 V5 hown2 hgrow2 hnil2
           have HR := HFIN.out _ V5 v1 v2 O1.2 (O1.1.alloc _) (BV1.alloc BV1.size _) hown2 hgrow2 hnil2
           clear hown2 hgrow2 hnil2)
        | (refine step_own rfl (.tmp 17) (.tmp 19) 24 rfl w2.heap.size 26 i0 (.agg #[.int .i64 0, .int .i64 0, .int .i64 0, .string ⟨#[]⟩]) 4 40 Try.underlying24 hi hz0 hz1 hz2 rfl (by decide) v1 L.length (flat L) (by simp [Act.eval]) O1.1 ⟨w2.heap.size, 0, none⟩ 1 1 (cellsOf k) (by simp [Act.eval]) rfl (by first | exact kept_cells (W := w2.drew) b1 | exact kept_cells (W := w2) b1) (fun u hu => flat_one [k] u (by simpa [flat] using hu)) (by unfold maxLen; omega) (by omega) BV1.size ?_
           intro v2 V5 hown2 hgrow2 hnil2
           have HR := HFIN.out _ V5 v1 v2 O1.2 O1.1 BV1 hown2 hgrow2 hnil2
           clear hown2 hgrow2 hnil2)
        | (rw [if_pos (by simp [Region.wanted])]
           go_simp
           refine (l3Copy g off cap L _ (by omega) (HRD.out _ (by first | exact (Below.refl _ w2).drew | exact ((Below.refl _ w2).alloc (Nat.le_refl _) _).drew | exact (Below.refl _ w2).drew.alloc (Nat.le_refl _) _))).mono ?_
           rintro e V1 ⟨v1, rfl, O1', b1⟩
           have O1 : OwnK 26 w2.heap.size V1 v1 L := ownK_base O1' (by simp)
           have BV1 : Below w2.heap.size w2 V1 := by
             first
               | exact (Below.refl w2.heap.size w2).drew.trans (b1.mono (Nat.le_refl _))
               | exact ((Below.refl w2.heap.size w2).alloc (Nat.le_refl _) _).drew.trans (b1.mono (by simp))
               | exact ((Below.refl w2.heap.size w2).drew.alloc (Nat.le_refl _) _).trans (b1.mono (by simp))
           have d0 := (BV1.cell (p := ⟨w.heap.size, 0, none⟩) S2).trans c0
           have d1 := (BV1.cell (p := ⟨w.heap.size, 1, none⟩) S2).trans c1
           have d2 := (BV1.cell (p := ⟨w.heap.size, 2, none⟩) S2).trans c2
           have d3 := (BV1.cell (p := ⟨w.heap.size, 3, none⟩) S2).trans c3
           clear O1'))
      all_goals
        obtain ⟨g', cap', rfl, HR2⟩ := HR
        go_wp2
        go_ret2
        first | exact HR2.out _ (.inl rfl) | exact HR2.out _ (.inr rfl)

set_option maxHeartbeats 1600000 in
theorem implTied (g off cap : Nat) (L : List K) (k : K) (w : World) (hl : L.length ≤ 1048576) (hw : WordsOk L) (hk : k.word.size ≤ 1099511627776) (hr : RdK w (some ⟨g, off, none⟩) L) :
    Calls Try.prog 11 #[.slice (some ⟨g, off, none⟩) L.length cap, .agg #[.int .i64 k.hand, .int .i64 k.round, .int .i64 k.frm, .string k.word]] w (ImplTied L k w) := by
  have P0 : Hid (Below w.heap.size w (w.alloc (.cells #[.int .i64 k.hand, .int .i64 k.round, .int .i64 k.frm, .string k.word] 26)) ∧ CellsK (w.alloc (.cells #[.int .i64 k.hand, .int .i64 k.round, .int .i64 k.frm, .string k.word] 26)) w.heap.size 0 k ∧ w.heap.size < (w.alloc (.cells #[.int .i64 k.hand, .int .i64 k.round, .int .i64 k.frm, .string k.word] 26)).heap.size) :=
    ⟨(Below.refl _ _).alloc (Nat.le_refl _) _, ⟨by simp, by simp, by simp, by simp⟩, by simp⟩
  go_enter Try.func11, Try.ntmps11
  go_wp2_with fail
  generalize w.alloc (.cells #[.int .i64 k.hand, .int .i64 k.round, .int .i64 k.frm, .string k.word] 26) = w0 at P0 ⊢
  obtain ⟨B0, C0, S0⟩ := P0
  have hr0 := hr.below B0
  refine (laceOf g off cap L _ (by omega) hw hr0).mono ?_
  rintro e w1 (⟨hlc, g', rfl, hg', hrg, hb1⟩ | ⟨hlc, rfl, hb1⟩)
  · have C1 := C0.below hb1 S0
    have S1 : w.heap.size < w1.heap.size := Nat.lt_of_lt_of_le S0 hb1.size
    have B1 := B0.trans (hb1.mono (Nat.le_of_lt S0))
    have h60 := ((lace_iff L).1 hlc).1
    have hh := lace_hands hlc
    have HL : Hid (laceB L = true) := hlc
    clear hb1 B0 S0 C0 hr0 hlc
    have HC1 : Hid (CellsK w1 w.heap.size 0 k) := C1
    obtain ⟨c0, c1, c2, c3⟩ := C1
    rw [Nat.zero_add] at c1 c2 c3
    go_wp2_with fail
    refine (Kn.knotOf _ _ _ _ _).mono ?_
    rintro e w2 ⟨rfl, hb2⟩
    have hrg2 := hrg.below hb2
    have B2 := B1.trans (hb2.mono (Nat.le_of_lt S1))
    have S2 : w.heap.size < w2.heap.size := Nat.lt_of_lt_of_le S1 hb2.size
    have HC2 : Hid (CellsK w2 w.heap.size 0 k) := HC1.out.below hb2 S1
    clear hb2 B1 S1 hrg HC1 c0 c1 c2 c3 hg'
    go_wp2_with fail
    refine (takes g' 0 L.length L k _ h60 hk hh hrg2).mono ?_
    rintro e w3 ⟨rfl, hb3⟩
    have hrg3 := hrg2.below hb3
    have B3 := B2.trans (hb3.mono (Nat.le_of_lt S2))
    have S3 : w.heap.size < w3.heap.size := Nat.lt_of_lt_of_le S2 hb3.size
    have HC3 : Hid (CellsK w3 w.heap.size 0 k) := HC2.out.below hb3 S2
    clear hb3 B2 S2 hrg2 HC2
    cases htk : takesB L k
    · have HT : Hid _ := tied_same HL.out htk
      clear htk
      go_wp2_with fail
      refine (laceOut g' 0 L.length L _ (by omega) hrg3).mono ?_
      rintro e w4 ⟨rfl, M4, hb4⟩
      have HB4 : Hid (Below w.heap.size w w4) := B3.trans (hb4.mono (Nat.le_of_lt S3))
      have HM4 : Hid (Made w4 w3.heap.size L.length L L.length) := M4
      have hle : w.heap.size ≤ w3.heap.size := Nat.le_of_lt S3
      clear hb4 B3 M4 hrg3
      go_wp2
      go_ret2
      exact implTied_mk HT.out rfl hle HM4.out HB4.out
    · have HT : Hid _ := tied_with HL.out htk
      clear htk
      obtain ⟨c0, c1, c2, c3⟩ := HC3.out
      rw [Nat.zero_add] at c1 c2 c3
      go_wp2_with fail
      refine (Kn.knotOf _ _ _ _ _).mono ?_
      rintro e w4 ⟨rfl, hb4⟩
      have hrg4 := hrg3.below hb4
      have B4 := B3.trans (hb4.mono (Nat.le_of_lt S3))
      have S4 : w.heap.size < w4.heap.size := Nat.lt_of_lt_of_le S3 hb4.size
      clear hb4 B3 S3 hrg3 HC3 c0 c1 c2 c3
      go_wp2_with fail
      refine (laceTied g' 0 L.length L k _ hl hrg4).mono ?_
      rintro e w5 ⟨g5, T, hT, rfl, hr5, hb5⟩
      have HT' : Hid (T = L ++ [k]) := hT
      have hTl : T.length ≤ 1048577 := by rw [hT]; simp; omega
      clear hT
      have B5 := B4.trans (hb5.mono (Nat.le_of_lt S4))
      have S5 : w.heap.size < w5.heap.size := Nat.lt_of_lt_of_le S4 hb5.size
      clear hb5 B4 S4 hrg4
      go_wp2_with fail
      refine (laceOut g5 0 T.length T _ hTl hr5).mono ?_
      rintro e w6 ⟨rfl, M6, hb6⟩
      have HB6 : Hid (Below w.heap.size w w6) := B5.trans (hb6.mono (Nat.le_of_lt S5))
      have HM6 : Hid (Made w6 w5.heap.size T.length T T.length) := M6
      have hle : w.heap.size ≤ w5.heap.size := Nat.le_of_lt S5
      clear hb6 B5 M6 hr5
      go_wp2
      go_ret2
      exact implTied_mk (T := T) ⟨HT.out.1.trans HT'.out.symm, HT.out.2⟩ rfl hle HM6.out HB6.out
  · have HT : Hid _ := tied_no k hlc
    have B1 := B0.trans (hb1.mono (Nat.le_of_lt S0))
    have HB : Hid (Below w.heap.size w (w1.alloc (.cells #[] 26))) := B1.alloc B1.size _
    have hle := B1.size
    clear hb1 B0 S0 C0 hr0 hlc
    go_wp2
    go_ret2
    exact implTied_mk HT.out rfl hle ⟨by simp, fun i hi => by simp at hi, fun i hi => by simp at hi, fun i hi => by simp at hi⟩ HB.out

end Lc
end Go.Proofs.Ytdcjjopeobnpgaa
