/- Rows of rows of bytes in memory: read, written, answered, made by append. Nothing of the program is read here. -/
import Derived.Test.YtdlgailodhlbmaaNestF
import Derived.Test.YtdlgailodhlbmaaFieldP
namespace Go.Proofs.Ytdlgailodhlbmaa
open Go.RowKit
open W (B8)

def ucs (xs : List B8) : List Value := xs.map u8v
theorem ucs_len (xs : List B8) : (ucs xs).length = xs.length := by simp [ucs]
theorem ucs_get (xs : List B8) (j : Nat) (h : j < xs.length) : (ucs xs)[j]? = some (.int .u8 ((xs.getD j 0#8).toNat : Int)) := by simp [ucs, List.getD, h]
theorem ucs_set (xs : List B8) (j : Nat) (x : B8) : (ucs xs).set j (.int .u8 (x.toNat : Int)) = ucs (xs.set j x) := by simp [ucs, List.map_set]
theorem crow_byte {w : World} {a : Option Addr} {xs : List B8} (h : CRow w a (ucs xs)) (hp : 0 < xs.length) : ∃ b off, a = some ⟨b, off, none⟩ ∧ b < w.heap.size ∧ ∀ j, j < xs.length → w.cell? ⟨b, off + j, none⟩ = some (.int .u8 ((xs.getD j 0#8).toNat : Int)) := by
  obtain ⟨b, off, e, hb, hc⟩ := h (by rw [ucs_len]; exact hp)
  exact ⟨b, off, e, hb, fun j hj => hc j _ (ucs_get xs j hj)⟩
/-- A row of bytes that stands in a row of rows. -/
structure KS where
  loc : Option Addr
  row : List B8
  cap : Nat
instance : Inhabited KS := ⟨⟨none, [], 0⟩⟩
def ksv (s : KS) : Value := .slice s.loc s.row.length s.cap
def kvs (ss : List KS) : List Value := ss.map ksv
def kws (ss : List KS) : List (List B8) := ss.map (·.row)
theorem kvs_len (ss : List KS) : (kvs ss).length = ss.length := by simp [kvs]
theorem kws_len (ss : List KS) : (kws ss).length = ss.length := by simp [kws]
theorem kvs_get (ss : List KS) (i : Nat) (h : i < ss.length) : (kvs ss)[i]? = some (ksv ss[i]) := by simp [kvs, h]
theorem kws_get (ss : List KS) (i : Nat) (h : i < ss.length) : (kws ss)[i]'(by rw [kws_len]; exact h) = ss[i].row := by simp [kws]
theorem kws_snoc (ss : List KS) (s : KS) : kws (ss ++ [s]) = kws ss ++ [s.row] := by simp [kws]
/-- A row of rows that is read, its blocks in a range. -/
def KR (w : World) (a : Option Addr) (ss : List KS) (lo hi : Nat) : Prop := RRow w a (kvs ss) lo hi ∧ ∀ s ∈ ss, RRow w s.loc (ucs s.row) lo hi
theorem KR.turned {w w' : World} {a : Option Addr} {ss : List KS} {lo hi lo' hi' : Nat} (h : KR w a ss lo hi) (t : Turned w w' lo' hi') (hd : hi ≤ lo' ∨ hi' ≤ lo) : KR w' a ss lo hi := ⟨h.1.turned t hd, fun s hs => (h.2 s hs).turned t hd⟩
theorem KR.below {w w' : World} {a : Option Addr} {ss : List KS} {lo hi : Nat} (h : KR w a ss lo hi) (hb : Below w.heap.size w w') : KR w' a ss lo hi := ⟨h.1.below hb, fun s hs => (h.2 s hs).below hb⟩
theorem KR.wide {w : World} {a : Option Addr} {ss : List KS} {lo hi lo' hi' : Nat} (h : KR w a ss lo hi) (h1 : lo' ≤ lo) (h2 : hi ≤ hi') : KR w a ss lo' hi' := ⟨h.1.wide h1 h2, fun s hs => (h.2 s hs).wide h1 h2⟩
theorem KR.nil (w : World) (a : Option Addr) (lo hi : Nat) : KR w a [] lo hi := ⟨fun h => by simp [kvs] at h, by simp⟩
/-- What the walk wants of it: the outer row's place and cells. -/
theorem KR.at {w : World} {a : Option Addr} {ss : List KS} {lo hi : Nat} (h : KR w a ss lo hi) (hp : 0 < ss.length) : ∃ b off, a = some ⟨b, off, none⟩ ∧ b < w.heap.size ∧ ∀ i (hi : i < ss.length), w.cell? ⟨b, off + i, none⟩ = some (ksv ss[i]) := by
  obtain ⟨b, off, e, _, _, h3, h4⟩ := h.1 (by rw [kvs_len]; exact hp)
  exact ⟨b, off, e, h3, fun i hi => h4 i _ (kvs_get ss i hi)⟩
/-- A row of rows that may be written: each row in a block of its own, all in a range. -/
structure KW (w : World) (g : Nat) (ss : List KS) (lo hi : Nat) : Prop where
  out : WCells w g (kvs ss)
  glo : lo ≤ g
  ghi : g < hi
  rows : ∀ s ∈ ss, ∃ b, s.loc = some ⟨b, 0, none⟩ ∧ lo ≤ b ∧ b < hi ∧ b ≠ g ∧ WCells w b (ucs s.row) ∧ s.row.length ≤ s.cap
  apart : (ss.map KS.loc).Nodup
theorem KW.mr {w : World} {g : Nat} {ss : List KS} {lo hi : Nat} (h : KW w g ss lo hi) : KR w (some ⟨g, 0, none⟩) ss lo hi :=
  ⟨RRow.of_wcells h.out h.glo h.ghi, fun s hs => by obtain ⟨b, e, h1, h2, _, h3, _⟩ := h.rows s hs; rw [e]; exact RRow.of_wcells h3 h1 h2⟩
theorem KW.turned {w w' : World} {g : Nat} {ss : List KS} {lo hi lo' hi' : Nat} (h : KW w g ss lo hi) (t : Turned w w' lo' hi') (hd : hi ≤ lo' ∨ hi' ≤ lo) : KW w' g ss lo hi :=
  ⟨h.out.turned t (by have := h.glo; have := h.ghi; omega), h.glo, h.ghi, fun s hs => by
    obtain ⟨b, e, h1, h2, h3, h4, h5⟩ := h.rows s hs
    exact ⟨b, e, h1, h2, h3, h4.turned t (by omega), h5⟩, h.apart⟩
theorem KW.below {w w' : World} {g : Nat} {ss : List KS} {lo hi : Nat} (h : KW w g ss lo hi) (hb : Below w.heap.size w w') : KW w' g ss lo hi :=
  ⟨h.out.below hb h.out.1, h.glo, h.ghi, fun s hs => by
    obtain ⟨b, e, h1, h2, h3, h4, h5⟩ := h.rows s hs
    exact ⟨b, e, h1, h2, h3, h4.below hb h4.1, h5⟩, h.apart⟩
theorem KW.wide {w : World} {g : Nat} {ss : List KS} {lo hi lo' hi' : Nat} (h : KW w g ss lo hi) (h1 : lo' ≤ lo) (h2 : hi ≤ hi') : KW w g ss lo' hi' :=
  ⟨h.out, Nat.le_trans h1 h.glo, Nat.lt_of_lt_of_le h.ghi h2, fun s hs => by
    obtain ⟨b, e, q1, q2, q3, q4, q5⟩ := h.rows s hs
    exact ⟨b, e, by omega, by omega, q3, q4, q5⟩, h.apart⟩
/-- An answer of rows of bytes: nothing, or a row of rows that may be written. -/
def KAns (w : World) (v : Value) (X : List (List B8)) (lo hi : Nat) : Prop :=
  ∃ (a : Option Addr) (cap : Nat) (ss : List KS), v = .slice a ss.length cap ∧ kws ss = X ∧ ss.length ≤ cap ∧ (ss = [] ∨ ∃ g, a = some ⟨g, 0, none⟩ ∧ KW w g ss lo hi)
theorem KAns.empty (w : World) (a : Option Addr) (cap lo hi : Nat) : KAns w (.slice a 0 cap) [] lo hi := ⟨a, cap, [], rfl, rfl, Nat.zero_le _, .inl rfl⟩
/-- A value that is these rows of bytes. -/
def KSee (w : World) (v : Value) (X : List (List B8)) (lo hi : Nat) : Prop := ∃ (a : Option Addr) (cap : Nat) (ss : List KS), v = .slice a ss.length cap ∧ kws ss = X ∧ KR w a ss lo hi
theorem KAns.see {w : World} {v : Value} {X : List (List B8)} {lo hi : Nat} (h : KAns w v X lo hi) : KSee w v X lo hi := by
  obtain ⟨a, cap, ss, e, hr, _, h1⟩ := h
  refine ⟨a, cap, ss, e, hr, ?_⟩
  rcases h1 with rfl | ⟨g, rfl, hm⟩
  · exact KR.nil _ _ _ _
  · exact hm.mr
theorem KSee.turned {w w' : World} {v : Value} {X : List (List B8)} {lo hi lo' hi' : Nat} (h : KSee w v X lo hi) (t : Turned w w' lo' hi') (hd : hi ≤ lo' ∨ hi' ≤ lo) : KSee w' v X lo hi := by
  obtain ⟨a, cap, ss, e, hr, h1⟩ := h
  exact ⟨a, cap, ss, e, hr, h1.turned t hd⟩
theorem KSee.below {w w' : World} {v : Value} {X : List (List B8)} {lo hi : Nat} (h : KSee w v X lo hi) (hb : Below w.heap.size w w') : KSee w' v X lo hi := by
  obtain ⟨a, cap, ss, e, hr, h1⟩ := h
  exact ⟨a, cap, ss, e, hr, h1.below hb⟩
theorem KSee.wide {w : World} {v : Value} {X : List (List B8)} {lo hi lo' hi' : Nat} (h : KSee w v X lo hi) (h1 : lo' ≤ lo) (h2 : hi ≤ hi') : KSee w v X lo' hi' := by
  obtain ⟨a, cap, ss, e, hr, q⟩ := h
  exact ⟨a, cap, ss, e, hr, q.wide h1 h2⟩
theorem KAns.turned {w w' : World} {v : Value} {X : List (List B8)} {lo hi lo' hi' : Nat} (h : KAns w v X lo hi) (t : Turned w w' lo' hi') (hd : hi ≤ lo' ∨ hi' ≤ lo) : KAns w' v X lo hi := by
  obtain ⟨a, cap, ss, e, hr, hc, h1⟩ := h
  refine ⟨a, cap, ss, e, hr, hc, ?_⟩
  rcases h1 with rfl | ⟨g, rfl, hm⟩
  · exact .inl rfl
  · exact .inr ⟨g, rfl, hm.turned t hd⟩
theorem KAns.below {w w' : World} {v : Value} {X : List (List B8)} {lo hi : Nat} (h : KAns w v X lo hi) (hb : Below w.heap.size w w') : KAns w' v X lo hi := by
  obtain ⟨a, cap, ss, e, hr, hc, h1⟩ := h
  refine ⟨a, cap, ss, e, hr, hc, ?_⟩
  rcases h1 with rfl | ⟨g, rfl, hm⟩
  · exact .inl rfl
  · exact .inr ⟨g, rfl, hm.below hb⟩
/-- What an answer of rows of bytes is: new memory alone. -/
def KPost (X : List (List B8)) (w : World) (e : Ending) (w' : World) : Prop := ∃ v, e = .returned v ∧ KAns w' v X w.heap.size w'.heap.size ∧ Below w.heap.size w w'
/-- A row of bytes is not the row of rows. -/
theorem krow_apart {w : World} {b B t n : Nat} {v : Value} {row : List B8} {ts : List KS} (h : WCells w b (ucs row)) (hr : row ≠ []) (ho : w.ownsRow B t 1 v n (kvs ts)) (hts : ts ≠ []) : v.ownBlock ≠ some b := by
  intro e
  have hc := ho.cells e
  obtain ⟨x, r, rfl⟩ := List.exists_cons_of_ne_nil hr
  obtain ⟨s, t', rfl⟩ := List.exists_cons_of_ne_nil hts
  have h1 := (h.2 0 (u8v x) rfl).1
  have h2 := hc 0 (ksv s) rfl
  have e2 : (⟨b, 0, none⟩ : Addr).add 0 = ⟨b, 0, none⟩ := by simp [Addr.add]
  rw [e2, h1] at h2
  simp [ksv] at h2
/-- Where the making of a row of rows stands. -/
structure KI (w wr : World) (v : Value) (ts : List KS) : Prop where
  own : wr.ownsRow w.heap.size 82 1 v ts.length (kvs ts)
  rows : ∀ s ∈ ts, ∃ b, s.loc = some ⟨b, 0, none⟩ ∧ w.heap.size ≤ b ∧ WCells wr b (ucs s.row) ∧ s.row.length ≤ s.cap ∧ s.row ≠ []
  apart : (ts.map KS.loc).Nodup
  bel : Below w.heap.size w wr
theorem KI.start (w : World) {wr : World} {v : Value} (ho : wr.ownsRow w.heap.size 82 1 v 0 []) (hb : Below w.heap.size w wr) : KI w wr v [] := ⟨ho, by simp, List.nodup_nil, hb⟩
theorem KI.below {w wr w' : World} {v : Value} {ts : List KS} (h : KI w wr v ts) (hb : Below wr.heap.size wr w') : KI w w' v ts :=
  ⟨h.own.kept (row := none) ⟨hb.os, hb.tape, hb.output, hb.size, fun k hk _ => hb.block k hk⟩ (Classical.em _), fun s hs => by
    obtain ⟨b, e, q1, q2, q3⟩ := h.rows s hs
    exact ⟨b, e, q1, q2.below hb q2.1, q3⟩, h.apart, h.bel.trans (hb.mono h.bel.size)⟩
/-- A block beyond is turned. -/
theorem KI.other {w wr w' : World} {v : Value} {ts : List KS} {B g : Nat} (h : KI w wr v ts) (hg : wr.grownBy w' (some g)) (hB : B ≤ g) (ho : ∀ q, v.ownBlock = some q → q < B) (hr : ∀ s ∈ ts, ∀ b, s.loc = some ⟨b, 0, none⟩ → b < B) (hw : w.heap.size ≤ B) (hs : w.heap.size ≤ wr.heap.size) : KI w w' v ts := by
  refine ⟨h.own.kept hg (.inr fun e => by have := ho g e; omega), fun s hs' => ?_, h.apart, h.bel.grown hg hs (fun k e => by cases e; omega)⟩
  obtain ⟨b, e, q1, q2, q3⟩ := h.rows s hs'
  exact ⟨b, e, q1, q2.apart hg (by have := hr s hs' b e; omega), q3⟩
theorem KI.append {w wr w1 : World} {v v' : Value} {ts : List KS} {o : Obj} {b : Nat} {row : List B8} {cap : Nat} (h : KI w wr v ts) (hb : w.heap.size ≤ b) (hrow : WCells wr b (ucs row)) (hne : row ≠ []) (hcap : row.length ≤ cap)
    (hv : ∀ q, v.ownBlock = some q → q ≠ b) (hnew : ∀ s ∈ ts, s.loc ≠ some ⟨b, 0, none⟩)
    (hown : w1.ownsRow w.heap.size 82 1 v' (ts.length + 1) (kvs ts ++ [.slice (some ⟨b, 0, none⟩) row.length cap])) (hg : (wr.alloc o).grownBy w1 v.ownBlock) : KI w w1 v' (ts ++ [KS.mk (some ⟨b, 0, none⟩) row cap]) := by
  have keep : ∀ {c : Nat} {L : List Value}, WCells wr c L → (∀ q, v.ownBlock = some q → q ≠ c) → WCells w1 c L := fun {c L} hc hq => by
    have h1 : WCells (wr.alloc o) c L := hc.below ((Below.refl wr.heap.size wr).alloc (Nat.le_refl _) o) hc.1
    refine ⟨Nat.lt_of_lt_of_le h1.1 hg.size, fun i u hu => ?_⟩
    have hbk : w1.heap[c]? = (wr.alloc o).heap[c]? := hg.block c h1.1 (fun e => hq c e.symm rfl)
    exact ⟨(World.cell?_of_block (a := ⟨c, i, none⟩) hbk).trans (h1.2 i u hu).1, (World.frozen?_of_block (a := ⟨c, i, none⟩) hbk).trans (h1.2 i u hu).2⟩
  refine ⟨?_, fun s hs => ?_, ?_, (h.bel.alloc h.bel.size o).grown hg (by have := h.bel.size; simp; omega) (fun k e => (h.own.lt k e).1)⟩
  · have e : kvs (ts ++ [KS.mk (some ⟨b, 0, none⟩) row cap]) = kvs ts ++ [.slice (some ⟨b, 0, none⟩) row.length cap] := by simp [kvs, ksv]
    rw [e, List.length_append]
    exact hown
  · rcases List.mem_append.1 hs with h1 | h1
    · obtain ⟨c, e, q1, q2, q3, q4⟩ := h.rows s h1
      refine ⟨c, e, q1, keep q2 (fun q hq => ?_), q3, q4⟩
      have := krow_apart q2 q4 h.own (List.ne_nil_of_mem h1)
      intro e2; subst e2; exact this hq
    · simp at h1
      subst h1
      exact ⟨b, rfl, hb, keep hrow hv, hcap, hne⟩
  · rw [List.map_append, List.nodup_append]
    refine ⟨h.apart, by simp, fun l hl l' hl' => ?_⟩
    obtain ⟨s, hs, rfl⟩ := List.mem_map.1 hl
    simp only [List.map_cons, List.map_nil, List.mem_singleton] at hl'
    subst hl'
    exact hnew s hs
theorem KI.fin {w wr : World} {v : Value} {ts : List KS} {X : List (List B8)} (h : KI w wr v ts) (hX : kws ts = X) : KAns wr v X w.heap.size wr.heap.size := by
  have hlt := h.own.lt
  have hown := h.own
  obtain ⟨_, ⟨rfl, h0⟩ | ⟨g, cap, cur, rfl, hB, hcur, hn, _⟩⟩ := hown
  · have : ts = [] := List.eq_nil_of_length_eq_zero h0
    subst this
    exact ⟨none, 0, [], rfl, hX, Nat.le_refl _, .inl rfl⟩
  · refine ⟨_, cap, ts, rfl, hX, hn, ?_⟩
    by_cases hts : ts = []
    · exact .inl hts
    · refine .inr ⟨g, rfl, own_wcells h.own, hB, (hlt g rfl).2, fun s hs => ?_, h.apart⟩
      obtain ⟨b, e, q1, q2, q3, q4⟩ := h.rows s hs
      refine ⟨b, e, q1, q2.1, fun eb => ?_, q2, q3⟩
      subst eb
      exact krow_apart q2 q4 h.own hts rfl
end Go.Proofs.Ytdlgailodhlbmaa
