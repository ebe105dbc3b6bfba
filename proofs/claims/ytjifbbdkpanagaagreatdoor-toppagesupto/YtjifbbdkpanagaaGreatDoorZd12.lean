/-
  Part of a proof (see the last text).
-/
import Derived.Test.YtjifbbdkpanagaaGreatDoorZd11
set_option linter.unusedVariables false
set_option linter.unusedSimpArgs false
set_option maxRecDepth 100000
namespace Go.Proofs.YtjifbbdkpanagaaGreatDoor
section
open Go.RowKit Go.Lib Math Go.Proofs.Tryz
end
section
open Go.RowKit Go.Lib Math Go.Proofs.Tryz
end
section
open Go.RowKit Go.Lib Go.Proofs.Tryz
end
section
open Go.RowKit Go.Lib Math Go.Proofs.Tryz
end
section
open Go.RowKit Go.Lib Go.Proofs.Tryz
structure Po where
 acc:ByteArray
 cur:ByteArray
 tA:Option Addr
 tC:Nat
 tos:List ByteArray
 wA:Option Addr
 wC:Nat
 ws:List Int
def po0:Po:=⟨ByteArray.empty,ByteArray.empty,none,0,[],none,0,[]⟩
structure PoOk (w:World) (p:Po):Prop where
 tx:IsTx w p.tA p.tos p.tC
 iw:IsW w p.wA p.ws p.wC
 lt:p.tos.length≤9223372036854775807
 lw:p.ws.length≤9223372036854775807
structure PoAt (w:World) (b off:Nat) (p:Po):Prop where
 c0:w.cell? ⟨b,off,none⟩=some (.string p.acc)
 c1:w.cell? ⟨b,off+1,none⟩=some (.string p.cur)
 c2:w.cell? ⟨b,off+2,none⟩=some (.slice p.tA p.tos.length p.tC)
 c3:w.cell? ⟨b,off+3,none⟩=some (.slice p.wA p.ws.length p.wC)
structure IsPs (w:World) (a:Option Addr) (l:List Po) (cap:Nat):Prop where
 cap:l.length≤cap
 lies:l=[]∨∃ b off,a=some ⟨b,off,none⟩∧b<w.heap.size∧∀ k,k<l.length→PoAt w b (off+k*4) (l.getD k po0)
 ok:∀ p∈l,PoOk w p
def toBad (c:List Ac) (acc:ByteArray) (l:List ByteArray) (k:Nat):Int:=
 if Qaa c (l.getD k ByteArray.empty)≠0 then Qaa c (l.getD k ByteArray.empty)
 else if l.getD k ByteArray.empty=acc∨memB (l.getD k ByteArray.empty) (l.take k)=true then 8 else 0
def QhO (c:List Ac) (p:Po):Int:=
 if Qaa c p.acc≠0 then Qaa c p.acc
 else if Qat p.cur=false then 2
 else if p.tos.length=0∨p.tos.length≠p.ws.length then 3
 else if 19<p.tos.length then 4
 else if Qad (toBad c p.acc p.tos) p.tos.length≠0 then Qad (toBad c p.acc p.tos) p.tos.length
 else shBad p.ws
def Qea (c:List Ac) (l:List Po):Int:=
 if QaC c≠0 then QaC c else if 20<l.length then 4 else Qad (fun k=>QhO c (l.getD k po0)) l.length
end
section
open Go.RowKit Go.Lib Go.Proofs.Tryz
end
end Go.Proofs.YtjifbbdkpanagaaGreatDoor
