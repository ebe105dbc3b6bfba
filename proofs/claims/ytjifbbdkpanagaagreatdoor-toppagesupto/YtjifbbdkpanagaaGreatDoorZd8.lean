/-
  Part of a proof (see the last text).
-/
import Derived.Test.YtjifbbdkpanagaaGreatDoorZd7
import Derived.Test.YtjifbbdkpanagaaGreatDoorShelf
import Derived.Lib.ItoaLen
import Derived.Lib.AppendIntMem
set_option linter.unusedVariables false
set_option linter.unusedSimpArgs false
set_option maxRecDepth 100000
namespace Go.Proofs.YtjifbbdkpanagaaGreatDoor
section
open Go.RowKit Go.Lib Go.Proofs.Tryz
def Qh9 (w : World) : Prop := Lib.TabIs prog w "internal/strconv.uint64pow10" .u64 Lib.pow10Tab
theorem Qh9.below {w w':World} (h:Qh9 w) (hb:Below w.heap.size w w'):Qh9 w':=by
 unfold Qh9 Lib.TabIs World.var? at *
 cases hg : prog.globalNamed "internal/strconv.uint64pow10" with
 | none=>simp [hg] at h
 | some g=>
  simp only [hg,Option.bind_some] at h ⊢;have hlt:g<w.heap.size:=by
   rcases Nat.lt_or_ge g w.heap.size with h' | h'
   ·exact h'
   ·rw [Array.getElem?_eq_none h'] at h;simp at h
  rw [hb.block g hlt];exact h
def itS (n:Int):ByteArray:=⟨(Lib.itoa n).toArray⟩
def refPn (r:ByteArray) (pe:Int):ByteArray:=r++(⟨#[45]⟩:ByteArray)++itS pe
def Qe1 (p:Pn) (n:Int):List Ln:=[⟨p.src,p.cur,n⟩,⟨p.dst,p.cur,-n⟩]
def plE (en pe:Int) (p:Pn):List Ep:=if p.ent=en∧partN p.amt p.fst p.per pe≠0 then [⟨refPn p.ref pe,p.ent,pe,Qe1 p (partN p.amt p.fst p.per pe)⟩] else []
def plTo (en pe:Int) (l:List Pn) (k:Nat):List Ep:=(List.range k).flatMap fun i=>plE en pe (l.getD i pn0)
def Qci (c:List Ac) (l:List Pn) (en pe:Int):Int:=if Qcx c l≠0 then Qcx c l else if (Qav en 12 && Qav pe 120)=false then 1 else 0
def PlEnd (c:List Ac) (l:List Pn) (en pe:Int) (w:World) (e:Ending) (w':World):Prop:=
 Below w.heap.size w w'∧(Qci c l en pe≠0→e=.returned (.tuple #[.slice none 0 0,chE (Qci c l en pe)])) ∧
  (Qci c l en pe=0→∃ v L,e=.returned (.tuple #[v,.nilIface])∧Qb3 w' w.heap.size v L∧L.map Je.ep=plTo en pe l l.length∧L.length≤20)
theorem pnBad_ok {c:List Ac} {l:List Pn} {k:Nat} (h:pnBad c l k=0):refBad (l.take k) (l.getD k pn0).ref=0∧Qav (l.getD k pn0).ent 12=true∧QfG (l.getD k pn0).amt (l.getD k pn0).fst (l.getD k pn0).per=true∧accBad c (l.getD k pn0)=0∧Qat (l.getD k pn0).cur=true:=by
 unfold pnBad at h;split at h
 ·contradiction
 ·rename_i h1;split at h
  ·omega
  ·rename_i h2;split at h
   ·contradiction
   ·rename_i h3;split at h
    ·omega
    ·rename_i h4;have h2':Qav (l.getD k pn0).ent 12=true∧QfG (l.getD k pn0).amt (l.getD k pn0).fst (l.getD k pn0).per=true:=by simpa using h2
     exact ⟨Decidable.of_not_not h1,h2'.1,h2'.2,Decidable.of_not_not h3,by simpa using h4⟩
theorem Qg7 {c:List Ac} {l:List Pn} (h:Qcx c l=0):QaC c=0∧l.length≤20∧∀ k,k<l.length→pnBad c l k=0:=by
 unfold Qcx at h;split at h
 ·contradiction
 ·rename_i h1;split at h
  ·omega
  ·exact ⟨Decidable.of_not_not h1,by omega,QaH h⟩
end
section
open Go.RowKit Go.Lib Go.Proofs.Tryz
def Qee (w:World) (g:Nat) (r:List Int):Prop:=w.heap[g]? = some (.cells (r.map (Value.int .i64)).toArray 3 (0,0))
theorem Qee.cell {w:World} {g:Nat} {r:List Int} (h:Qee w g r) {i:Nat} (hi:i<r.length):w.cell? ⟨g,i,none⟩=some (.int .i64 (r.getD i 0)):=by
 unfold Qee at h;simp [World.cell?,h,hi]
theorem Qee.frozen {w:World} {g:Nat} {r:List Int} (h:Qee w g r) (i:Nat):w.frozen? ⟨g,i,none⟩=false:=by
 unfold Qee at h;simp [World.frozen?,h]
theorem Qee.set {w:World} {g:Nat} {r:List Int} (h:Qee w g r) (i:Nat) (x:Int):Qee (w.setCell ⟨g,i,none⟩ (.int .i64 x)) g (r.set i x):=by
 unfold Qee at *
 rw [setCell_eq_setRow w g i _ 3 (0,0) _ h,setRow_heap w g _ _ 3 (0,0) h];simp [List.map_set]
theorem nrow_made (w:World) (n:Nat):Qee (w.alloc (.cells (madeCells #[.int .i64 0] n) 3)) w.heap.size (List.replicate n 0):=by
 unfold Qee;rw [show (w.alloc (.cells (madeCells #[.int .i64 0] n) 3)).heap[w.heap.size]? = some (.cells (madeCells #[.int .i64 0] n) 3 (0,0)) by unfold World.alloc;simp only [Array.getElem?_push_size]]
 congr 2;apply Array.ext
 ·simp [madeCells]
 ·intro i h1 h2;simp [madeCells,Nat.mod_one]
theorem Qee.ltS {w:World} {g:Nat} {r:List Int} (h:Qee w g r):g<w.heap.size:=(Array.getElem?_eq_some_iff.1 h).1
theorem Qee.belowS {w w':World} {g n:Nat} {r:List Int} (h:Qee w g r) (hb:Below n w w') (hg:g<n):Qee w' g r:=(hb.block g hg).trans h
structure IsW (w:World) (a:Option Addr) (l:List Int) (cap:Nat):Prop where
 cap:l.length≤cap
 lies:l=[]∨∃ b off,a=some ⟨b,off,none⟩∧b<w.heap.size∧∀ k,k<l.length→w.cell? ⟨b,off+k,none⟩=some (.int .i64 (l.getD k 0))
end
section
open Go.RowKit Go.Lib Go.Proofs.Tryz
end
section
open Go.RowKit Go.Lib Go.Proofs.Tryz
end
end Go.Proofs.YtjifbbdkpanagaaGreatDoor
