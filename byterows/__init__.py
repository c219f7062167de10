"""Bytes looked through, summed, turned round, and framed so that frames are found again; see byterows.rows."""
